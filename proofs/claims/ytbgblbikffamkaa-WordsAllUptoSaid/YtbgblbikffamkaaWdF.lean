/- The walks of the document's safe, quoted, Join. -/
import Derived.Test.YtbgblbikffamkaaWdD
import Derived.Test.YtbgblbikffamkaaWdP
namespace Go.Proofs.Ytbgblbikffamkaa
open Go.RowKit

theorem plainW_eq2 (c : UInt8) : plainW c = !((((decide ((c.toNat : Int) < 33) || decide ((126 : Int) < (c.toNat : Int))) || ((c.toNat : Int) == 39)) || ((c.toNat : Int) == 34)) || ((c.toNat : Int) == 92)) := by
  have H : ∀ m : Fin 256, plainW m.1.toUInt8 = !((((decide ((m.1.toUInt8.toNat : Int) < 33) || decide ((126 : Int) < (m.1.toUInt8.toNat : Int))) || ((m.1.toUInt8.toNat : Int) == 39)) || ((m.1.toUInt8.toNat : Int) == 34)) || ((m.1.toUInt8.toNat : Int) == 92)) := by decide +kernel
  have e : c.toNat.toUInt8 = c := by simp
  have := H ⟨c.toNat, c.toNat_lt⟩
  rwa [e] at this

set_option maxHeartbeats 8000000 in
theorem safe_any (s : ByteArray) (hs : s.size ≤ 1048576) (w : World) :
    Calls Try.prog 26 #[.string s] w fun e w' => e = .returned (.bool (safeS s)) ∧ w = w' := by
  by_cases h0 : s.size = 0
  · have HN := Lib.hid (safeS_nil s h0)
    have he : s.toList.isEmpty = true := by rw [isEmpty_iff, decide_eq_true_eq]; exact List.eq_nil_of_length_eq_zero (by rw [size_list]; exact h0)
    clear h0
    go_enter Try.func26, Try.ntmps26
    go_wp2_with fail
    go_ret
    exact ⟨ret_bool HN.out.symm, rfl⟩
  have he : s.toList.isEmpty = false := by
    rw [isEmpty_iff]
    simp only [decide_eq_false_iff_not]
    intro e
    have : s.data.toList.length = 0 := by rw [e]; rfl
    rw [size_list] at this
    exact h0 this
  have hp0 : 0 < s.size := by omega
  have b00 : (0 : Int) < (s.size : Int) := by omega
  by_cases h45 : s[0].toNat = 45
  · have t45 : ((s[0].toNat : Int) == 45) = true := by simp; omega
    have HN : Hid (safeS s = false) := by
      have hd := drop_at s 0 hp0
      rw [List.drop_zero] at hd
      show _ = _
      unfold safeS safeW
      rw [hd]
      dsimp only
      rw [show s[0] = 45 from byte_eq.2 h45]
      rfl
    clear h45 h0
    go_enter Try.func26, Try.ntmps26
    go_wp2_with fail
    go_ret
    exact ⟨ret_bool HN.out.symm, rfl⟩
  have t45 : ((s[0].toNat : Int) == 45) = false := by simp; omega
  have t45n : Hid (((s[0].toNat : Int) != 45) = true) := by show _ = _; simp; omega
  clear h0 h45
  go_enter Try.func26, Try.ntmps26
  go_wp2_with fail
  clear t45 he
  go_loop [3] (fun i => ∃ k : Nat, k ≤ s.size ∧ i = .int .i64 k ∧ Hid (plainsL (s.data.toList.take k) = true)) (fun i => s.size - (intOf i).toNat)
  case atStart => exact ⟨0, Nat.zero_le _, rfl, by simp [plainsL, Hid]⟩
  case round =>
    obtain ⟨k, hk, rfl, hb⟩ := hrel
    by_cases hlt : k < s.size
    · have hr := s[k].toNat_lt
      have b0 : (0 : Int) ≤ (k : Int) := by omega
      have b1 : (k : Int) < (s.size : Int) := by omega
      have HP := Lib.hid (plainW_eq2 s[k])
      rcases hp : plainW s[k] with _ | _
      · have HN := Lib.hid (safeS_false s k hlt hp)
        have HQ := Lib.hid (HP.out.symm.trans hp)
        clear hp HP
        rcases q1 : decide ((s[k].toNat : Int) < 33) with _ | _
        · rcases q2 : decide ((126 : Int) < (s[k].toNat : Int)) with _ | _
          · rcases q3 : ((s[k].toNat : Int) == 39) with _ | _
            · rcases q4 : ((s[k].toNat : Int) == 34) with _ | _
              · have q5 : ((s[k].toNat : Int) == 92) = true := by
                  have := HQ.out
                  rw [q1, q2, q3, q4] at this
                  simpa using this
                clear HQ
                go_wp2_with fail
                go_ret
                exact ⟨ret_bool HN.out.symm, rfl⟩
              · clear HQ
                go_wp2_with fail
                go_ret
                exact ⟨ret_bool HN.out.symm, rfl⟩
            · clear HQ
              go_wp2_with fail
              go_ret
              exact ⟨ret_bool HN.out.symm, rfl⟩
          · clear HQ
            go_wp2_with fail
            go_ret
            exact ⟨ret_bool HN.out.symm, rfl⟩
        · clear HQ
          go_wp2_with fail
          go_ret
          exact ⟨ret_bool HN.out.symm, rfl⟩
      · have HB := Lib.hid (plainsL_succ s k hlt hb.out hp)
        have hq := HP.out.symm.trans hp
        simp only [Bool.not_eq_true', Bool.or_eq_false_iff] at hq
        obtain ⟨⟨⟨⟨q1, q2⟩, q3⟩, q4⟩, q5⟩ := hq
        clear hp HP
        go_wp2_with fail
        go_round
        case rel => exact ⟨k + 1, by omega, by go_num, HB⟩
        case measure => simp [intOf]; omega
    · obtain rfl : k = s.size := by omega
      have HN := Lib.hid ((safeS_end s hb.out hp0).trans t45n.out)
      clear hlt
      go_wp2_with fail
      go_ret
      exact ⟨ret_bool HN.out.symm, rfl⟩

theorem quoAt_small (s : ByteArray) (k : Nat) (hk : k ≤ s.size) : (str (quoAt s k)).size ≤ 4 * s.size + 1 := by
  have h : ∀ w : List UInt8, (w.flatMap signW).length ≤ 4 * w.length := by
    intro w
    induction w with
    | nil => simp
    | cons c w ih =>
      rw [List.flatMap_cons, List.length_append, List.length_cons]
      have : (signW c).length ≤ 4 := by
        unfold signW
        repeat' split
        all_goals simp
      omega
  have h1 := h (s.data.toList.take k)
  rw [List.length_take, size_list] at h1
  rw [str_size]
  unfold quoAt
  rw [List.length_cons]
  omega

set_option maxHeartbeats 8000000 in
theorem quoted_any (s : ByteArray) (hs : s.size ≤ 1048576) (w : World) :
    Calls Try.prog 27 #[.string s] w fun e w' => e = .returned (.string (str (quoW s.data.toList))) ∧ ∃ j, w' = w.drewN j := by
  go_enter Try.func27, Try.ntmps27
  go_wp2_with fail
  go_loopw [3, 4] (fun x i wr => ∃ k j : Nat, k ≤ s.size ∧ x = .string (str (quoAt s k)) ∧ i = .int .i64 k ∧ wr = w.drewN j) (fun x i wr => s.size - (intOf i).toNat)
  case atStart => exact ⟨0, 0, Nat.zero_le _, rfl, rfl, rfl⟩
  case round =>
    obtain ⟨k, j, hk, rfl, rfl, rfl⟩ := hrel
    have hsm := quoAt_small s k hk
    by_cases hlt : k < s.size
    · have hr := s[k].toNat_lt
      have b0 : (0 : Int) ≤ (k : Int) := by omega
      have b1 : (k : Int) < (s.size : Int) := by omega
      have b2 : (k : Int) ≤ (k : Int) + 1 := by omega
      have b3 : (k : Int) + 1 ≤ (s.size : Int) := by omega
      have HS := Lib.hid (quoAt_succ s k hlt)
      have H1 := Lib.hid (one_slice s k hlt)
      have z1 : (s.extract k (k + 1)).size ≤ 1 := by rw [H1.out]; exact Nat.le_refl _
      by_cases hq : s[k].toNat = 34 ∨ s[k].toNat = 92
      · have hsg : signW s[k] = [92, s[k]] := by
          unfold signW
          rw [if_pos]
          rcases hq with hq | hq
          · exact .inl (byte_eq.2 hq)
          · exact .inr (byte_eq.2 hq)
        have HE : Hid (str (quoAt s k) ++ ((⟨#[92]⟩ : ByteArray) ++ s.extract k (k + 1)) = str (quoAt s (k + 1))) := by
          show _ = _
          rw [HS.out, hsg, H1.out]
          exact (by rw [← str_app]; rfl)
        have z2 : ((⟨#[92]⟩ : ByteArray) ++ s.extract k (k + 1)).size ≤ 2 := by rw [ByteArray.size_append]; show 1 + _ ≤ 2; omega
        have z3 : (⟨#[92]⟩ : ByteArray).size ≤ 1 := Nat.le_refl _
        clear hsg
        rcases q1 : ((s[k].toNat : Int) == 34) with _ | _
        · have q2 : ((s[k].toNat : Int) == 92) = true := by
            simp only [beq_eq_false_iff_ne, ne_eq] at q1
            simp only [beq_iff_eq]
            omega
          clear hq
          go_wp2_with fail
          go_roundw
          case rel => exact ⟨k + 1, j, by omega, by rw [← HE.out], by go_num, rfl⟩
          case measure => simp [intOf]; omega
        · clear hq
          go_wp2_with fail
          go_roundw
          case rel => exact ⟨k + 1, j, by omega, by rw [← HE.out], by go_num, rfl⟩
          case measure => simp [intOf]; omega
      · rw [not_or] at hq
        have q1 : ((s[k].toNat : Int) == 34) = false := by simp; omega
        have q2 : ((s[k].toNat : Int) == 92) = false := by simp; omega
        have hsn : ¬ (s[k] = 34 ∨ s[k] = 92) := by
          rintro (h | h)
          · exact hq.1 (by rw [h]; rfl)
          · exact hq.2 (by rw [h]; rfl)
        by_cases hp : 32 ≤ s[k].toNat ∧ s[k].toNat ≤ 126
        · have hsg : signW s[k] = [s[k]] := by unfold signW; rw [if_neg hsn, if_pos hp]
          have HE : Hid (str (quoAt s k) ++ s.extract k (k + 1) = str (quoAt s (k + 1))) := by
            show _ = _
            rw [HS.out, hsg, H1.out, str_app]
          have p1 : decide ((32 : Int) ≤ (s[k].toNat : Int)) = true := by simp; omega
          have p2 : decide ((s[k].toNat : Int) ≤ 126) = true := by simp; omega
          have p3 : (32 : Int) ≤ (s[k].toNat : Int) := by omega
          have p4 : (s[k].toNat : Int) ≤ 126 := by omega
          clear hsg hsn hq hp
          go_wp2_with fail
          go_roundw
          case rel => exact ⟨k + 1, j, by omega, by rw [← HE.out], by go_num, rfl⟩
          case measure => simp [intOf]; omega
        · have hsg : signW s[k] = [92, 120, digW (s[k].toNat / 16), digW (s[k].toNat % 16)] := by unfold signW; rw [if_neg hsn, if_neg hp]
          have HE : Hid (str (quoAt s k) ++ ((⟨#[92, 120]⟩ : ByteArray) ++ str [digW (s[k].toNat / 16), digW (s[k].toNat % 16)]) = str (quoAt s (k + 1))) := by
            show _ = _
            rw [HS.out, hsg]
            exact (by rw [← str_app]; rfl)
          have z2 : ((⟨#[92, 120]⟩ : ByteArray) ++ str [digW (s[k].toNat / 16), digW (s[k].toNat % 16)]).size ≤ 4 := by rw [ByteArray.size_append]; exact Nat.le_refl _
          have z3 : (str [digW (s[k].toNat / 16), digW (s[k].toNat % 16)]).size ≤ 2 := Nat.le_refl _
          have z4 : (⟨#[92, 120]⟩ : ByteArray).size ≤ 2 := Nat.le_refl _
          rcases p1 : decide ((32 : Int) ≤ (s[k].toNat : Int)) with _ | _
          · have p3 : (s[k].toNat : Int) < 32 := by simpa using p1
            clear hsg hsn hq hp
            go_wp2_with fail
            refine (rHexByteW_any _ (by omega) _).mono ?_
            rintro e w' ⟨rfl, n', rfl⟩
            go_wp2_with fail
            go_roundw
            case rel => exact ⟨k + 1, j + n', by omega, by rw [← HE.out], by go_num, rfl⟩
            case measure => simp [intOf]; omega
          · have p3 : (32 : Int) ≤ (s[k].toNat : Int) := by simpa using p1
            have p2 : decide ((s[k].toNat : Int) ≤ 126) = false := by simp; omega
            have p4 : (126 : Int) < (s[k].toNat : Int) := by omega
            clear hsg hsn hq hp
            go_wp2_with fail
            refine (rHexByteW_any _ (by omega) _).mono ?_
            rintro e w' ⟨rfl, n', rfl⟩
            go_wp2_with fail
            go_roundw
            case rel => exact ⟨k + 1, j + n', by omega, by rw [← HE.out], by go_num, rfl⟩
            case measure => simp [intOf]; omega
    · have HE : Hid (str (quoAt s k) ++ (⟨#[34]⟩ : ByteArray) = str (quoW s.data.toList)) := by
        show _ = _
        rw [quoAt_all s k (by omega), ← str_app]; rfl
      have z3 : (⟨#[34]⟩ : ByteArray).size ≤ 1 := Nat.le_refl _
      go_wp2_with fail
      go_ret
      exact ⟨ret_str HE.out, j, rfl⟩
end Go.Proofs.Ytbgblbikffamkaa
