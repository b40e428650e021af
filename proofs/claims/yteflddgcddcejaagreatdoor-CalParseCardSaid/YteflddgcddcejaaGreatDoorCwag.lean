/- The walks of the document's number, points, dayName. -/
import Derived.Test.YteflddgcddcejaaGreatDoorCwae
import Derived.Test.YteflddgcddcejaaGreatDoorCwaf
import Derived.Test.YteflddgcddcejaaGreatDoorCwac
namespace Go.Proofs.YteflddgcddcejaaGreatDoor
open Go.RowKit
set_option maxHeartbeats 2000000 in
theorem number_any (s : ByteArray) (hs : s.size ≤ 4194304) (w : World) :
    Calls Tryz.prog 74 #[.string s] w fun e w' => e = .returned (.int .i64 (numI s.data.toList)) ∧ w = w' := by
  have hlen := size_list s
  by_cases h1 : s.size < 1
  · have HN := Lib.hid (numI_long (l := s.data.toList) (.inl (by omega)))
    have h1' : (s.size : Int) < 1 := by omega
    clear hlen h1
    go_enter Tryz.func74, Tryz.ntmps74
    go_wp2_with fail
    go_ret
    exact ⟨ret_int (by rw [HN.out]), rfl⟩
  by_cases h4 : 4 < s.size
  · have HN := Lib.hid (numI_long (l := s.data.toList) (.inr (by omega)))
    have h1' : (1 : Int) ≤ (s.size : Int) := by omega
    have h4' : (4 : Int) < (s.size : Int) := by omega
    have u1 : (0 : Nat) ≤ 1 := Nat.zero_le _
    clear hlen h1 h4
    go_enter Tryz.func74, Tryz.ntmps74
    go_wp2_with fail
    go_ret
    exact ⟨ret_int (by rw [HN.out]), rfl⟩
  have h1' : (1 : Int) ≤ (s.size : Int) := by omega
  have h4' : (s.size : Int) ≤ 4 := by omega
  have u1 : (0 : Nat) ≤ 1 := Nat.zero_le _
  have u2 : (0 : Nat) ≤ 2 := Nat.zero_le _
  have HL := Lib.hid hlen
  clear hlen h1 h4
  go_enter Tryz.func74, Tryz.ntmps74
  go_wp2_with fail
  go_loop [3, 4] (fun n i => ∃ (k v : Nat), k ≤ s.size ∧ v < 10 ^ k ∧ i = .int .i64 k ∧ n = .int .i64 v ∧ Hid (v = valL (s.data.toList.take k)) ∧ Hid (∀ c ∈ s.data.toList.take k, isDig c = true)) (fun _ i => s.size - (intOf i).toNat)
  case atStart => exact ⟨0, 0, Nat.zero_le _, by omega, rfl, rfl, by simp [Hid, valL], by intro c hc; simp at hc⟩
  case round =>
    obtain ⟨k, v, hk, hv, rfl, rfl, hval, hdig⟩ := hrel
    have hv4 : v < 10000 := Nat.lt_of_lt_of_le hv (Nat.le_trans (Nat.pow_le_pow_right (by omega) (show k ≤ 4 by omega)) (by decide))
    have HV := Lib.hid hv
    clear hv
    by_cases hlt : k < s.size
    · have b0 : (0 : Int) ≤ (k : Int) := by omega
      have b1 : (k : Int) < (s.size : Int) := by omega
      have hr := s[k].toNat_lt
      have HT := Lib.hid (take_at s k hlt)
      rcases hg : isDig s[k] with _ | _
      · have HN := Lib.hid (numI_bad (l := s.data.toList) (k := k) (by rw [HL.out]; exact hlt) (by exact hg))
        have HG := Lib.hid hg
        clear hg
        go_wp2_with fail
        refine (Digit_any s[k] _).mono ?_
        rintro e w1 ⟨rfl, rfl⟩
        rw [HG.out]
        go_wp2_with fail
        go_ret
        exact ⟨ret_int (by rw [HN.out]), rfl⟩
      · have hd : 48 ≤ s[k].toNat ∧ s[k].toNat ≤ 57 := by simpa [isDig, Bool.and_eq_true] using hg
        obtain ⟨d0, d1⟩ := hd
        have d0' : (48 : Int) ≤ (s[k].toNat : Int) := by omega
        have d1' : (s[k].toNat : Int) ≤ 57 := by omega
        have HG := Lib.hid hg
        have HV1 : Hid (v * 10 + (s[k].toNat - 48) < 10 ^ (k + 1)) := by
          have := HV.out
          show _ < _
          rw [Nat.pow_succ]; omega
        have HW : Hid (v * 10 + (s[k].toNat - 48) = valL (s.data.toList.take (k + 1))) := by
          show _ = _
          rw [HT.out, val_snoc, ← hval.out]; omega
        have HD1 : Hid (∀ c ∈ s.data.toList.take (k + 1), isDig c = true) := by
          intro c hc
          rw [HT.out] at hc
          rcases List.mem_append.1 hc with hc | hc
          · exact hdig.out c hc
          · rw [List.mem_singleton.1 hc]; exact HG.out
        clear hg d0 d1
        go_wp2_with fail
        refine (Digit_any s[k] _).mono ?_
        rintro e w1 ⟨rfl, rfl⟩
        rw [HG.out]
        go_wp2_with fail
        go_round
        case rel => exact ⟨k + 1, v * 10 + (s[k].toNat - 48), by omega, HV1.out, by go_num, by congr 1; omega, HW, HD1⟩
        case measure => simp [intOf]; omega
    · obtain rfl : k = s.size := by omega
      have HN : Hid (numI s.data.toList = v) := by
        have a := hval.out
        have b := hdig.out
        rw [List.take_of_length_le (by rw [HL.out]; exact Nat.le_refl _)] at a b
        show _ = _
        rw [numI_ok (by rw [HL.out]; omega) (by rw [HL.out]; omega) b, a]
      clear hlt
      go_wp2_with fail
      go_ret
      exact ⟨ret_int (by rw [HN.out]), rfl⟩
theorem cutAt_next {s : ByteArray} {k : Nat} (h : cutAt s.data.toList k) (hk : k + 1 < s.size) (hn : ¬ (s[k] = 46 ∧ s[k + 1] = 46)) : cutAt s.data.toList (k + 1) := by
  unfold cutAt at *
  rw [h, drop_at s k (by omega), cutDots, if_neg (by
    rw [drop_at s (k + 1) hk]
    rintro ⟨a, b⟩
    exact hn ⟨a, by simpa using b⟩), take_at s k (by omega)]
  cases cutDots (s.data.toList.drop (k + 1)) <;> simp
theorem cutAt_yes {s : ByteArray} {k : Nat} (h : cutAt s.data.toList k) (hk : k + 1 < s.size) (h0 : s[k] = 46) (h1 : s[k + 1] = 46) : ptsI s.data.toList = k := by
  unfold cutAt at h
  unfold ptsI
  rw [h, drop_at s k (by omega), drop_at s (k + 1) hk, cutDots, if_pos ⟨h0, by rw [h1]; rfl⟩]
  simp only [Option.map_some, List.append_nil]
  rw [List.length_take, size_list]
  omega
theorem cutAt_no {s : ByteArray} {k : Nat} (h : cutAt s.data.toList k) (hk : s.size ≤ k + 1) : ptsI s.data.toList = -1 := by
  unfold cutAt at h
  unfold ptsI
  have e : cutDots (s.data.toList.drop k) = none := by
    by_cases hk2 : k < s.size
    · rw [drop_at s k hk2, List.drop_of_length_le (by rw [size_list]; omega)]
      simp [cutDots]
    · rw [List.drop_of_length_le (by rw [size_list]; omega)]; rfl
  rw [h, e]; rfl
theorem two_slice (s : ByteArray) (k : Nat) (h : k + 1 < s.size) : (s.extract k (k + 2)).toList = [s[k], s[k + 1]] := by
  rw [Lib.toList_data, Lib.extract_data, show k + 2 - k = 2 by omega, drop_at s k (by omega), drop_at s (k + 1) h]
  rfl
set_option maxHeartbeats 2000000 in
theorem points_any (s : ByteArray) (hs : s.size ≤ 4194304) (w : World) :
    Calls Tryz.prog 75 #[.string s] w fun e w' => e = .returned (.int .i64 (ptsI s.data.toList)) ∧ w = w' := by
  go_enter Tryz.func75, Tryz.ntmps75
  go_wp2_with fail
  go_loop [3] (fun i => ∃ k : Nat, k ≤ s.size ∧ i = .int .i64 k ∧ Hid (cutAt s.data.toList k)) (fun i => s.size - (intOf i).toNat)
  case atStart => exact ⟨0, Nat.zero_le _, rfl, cutAt_zero _⟩
  case round =>
    obtain ⟨k, hk, rfl, hc⟩ := hrel
    by_cases hlt : k + 1 < s.size
    · have b0 : (0 : Int) ≤ (k : Int) := by omega
      have b1 : (k : Int) + 1 < (s.size : Int) := by omega
      have b2 : (k : Int) ≤ (k : Int) + 2 := by omega
      have b3 : (k : Int) + 2 ≤ (s.size : Int) := by omega
      have hsl := two_slice s k hlt
      by_cases hd : s[k] = 46 ∧ s[k + 1] = 46
      · have HN := Lib.hid (cutAt_yes hc.out hlt hd.1 hd.2)
        have e : ((s.extract k (k + 2)).toList == [46, 46]) = true := by rw [hsl, hd.1, hd.2]; rfl
        clear hsl hd
        go_wp2_with fail
        go_ret
        exact ⟨ret_int (by rw [HN.out]), rfl⟩
      · have HN := Lib.hid (cutAt_next hc.out hlt hd)
        have e : ((s.extract k (k + 2)).toList == [46, 46]) = false := by
          rw [hsl]
          simp only [beq_eq_false_iff_ne]
          intro e
          injection e with e0 e1
          injection e1 with e1 _
          exact hd ⟨e0, e1⟩
        clear hsl hd
        go_wp2_with fail
        go_round
        case rel => exact ⟨k + 1, by omega, by go_num, HN⟩
        case measure => simp [intOf]; omega
    · have HN := Lib.hid (cutAt_no hc.out (by omega))
      have b1 : (s.size : Int) ≤ (k : Int) + 1 := by omega
      clear hlt
      go_wp2_with fail
      go_ret
      exact ⟨ret_int (by rw [HN.out]), rfl⟩
set_option maxHeartbeats 1000000 in
theorem dayName_any (d : Int) (h0 : 1 ≤ d) (h1 : d ≤ 7) (w : World) :
    Calls Tryz.prog 50 #[.int .i64 d] w fun e w' => e = .returned (.string (str (dayL d))) ∧ w = w' := by
  have h : d = 1 ∨ d = 2 ∨ d = 3 ∨ d = 4 ∨ d = 5 ∨ d = 6 ∨ d = 7 := by omega
  rcases h with rfl | rfl | rfl | rfl | rfl | rfl | rfl
  all_goals
    go_enter Tryz.func50, Tryz.ntmps50
    go_wp2_with fail
    go_ret
    exact ⟨rfl, rfl⟩
end Go.Proofs.YteflddgcddcejaaGreatDoor
