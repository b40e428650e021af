/- The walk of the document's Join. -/
import Derived.Test.YtbgblbikffamkaaWdF
namespace Go.Proofs.Ytbgblbikffamkaa
open Go.RowKit

theorem nz_step {s : ByteArray} {j : Nat} (h : ((s.data.toList.take j).any fun c => c == 0) = false) (hj : j < s.size) (hc : ((s[j].toNat : Int) == 0) = false) : ((s.data.toList.take (j + 1)).any fun c => c == 0) = false := by
  rw [take_at s j hj, List.any_append, h]
  simp only [List.any_cons, List.any_nil, Bool.or_false, Bool.false_or, beq_eq_false_iff_ne, ne_eq]
  intro e
  rw [e] at hc
  exact absurd hc (by decide)
theorem nz_hit {s : ByteArray} {j : Nat} (hj : j < s.size) (hc : ((s[j].toNat : Int) == 0) = true) : (s.data.toList.any fun c => c == 0) = true := by
  rw [List.any_eq_true]
  refine ⟨s[j], by simp [ByteArray.getElem_eq_getElem_data], ?_⟩
  rw [beq_iff_eq] at hc
  rw [beq_iff_eq]
  exact byte_eq.2 (by show _ = 0; omega)

set_option maxHeartbeats 16000000 in
set_option maxRecDepth 100000 in
theorem rJoin_any (A : Option Addr) (n c B : Nat) (l : List (List UInt8)) (w : World) (h : RowAt w B A n l) (hsz : ∀ x ∈ l, x.length ≤ 1048576) :
    Calls Try.prog 13 #[.slice A n c] w fun e w' => e = .returned (.string (str (joinW l))) ∧ ∃ j, w' = w.drewN j := by
  have hl := h.1
  have hm := h.2.1
  unfold maxLen at hm
  by_cases hn : n ≤ 32
  · have HL := Lib.hid h
    have HS := Lib.hid hsz
    have HJS : Hid ((rowW l).length ≤ 135000000) := row32 (by omega) hsz
    have n32 : decide ((32 : Int) < (n : Int)) = false := by simp; omega
    have n32' : (n : Int) ≤ 32 := by omega
    clear h hsz
    go_enter Try.func13, Try.ntmps13
    go_wp2_with fail
    go_loopw [3, 12] (fun x i wr => ∃ k j : Nat, k ≤ n ∧ x = .string (str (rowW (l.take k))) ∧ i = .int .i64 k ∧ wr = w.drewN j ∧ Hid (zeroW (l.take k) = false)) (fun x i wr => n - (intOf i).toNat)
    case atStart => exact ⟨0, 0, Nat.zero_le _, rfl, rfl, rfl, rfl⟩
    case round =>
      obtain ⟨k, j, hk, rfl, rfl, rfl, hz⟩ := hrel
      by_cases hlt : k < n
      · have b0 : (0 : Int) ≤ (k : Int) := by omega
        have b1 : (k : Int) < (n : Int) := by omega
        obtain ⟨ad, x, rfl, _, hx, hc⟩ := HL.out.at_ hlt
        have hxs : (str x).size ≤ 1048576 := HS.out x (List.mem_of_getElem? hx)
        have HX := Lib.hid hx
        have hstep := rowW_step hx
        have hle := rowW_le (l := l) k
        have hjs := HJS.out
        have hs1 : (str (rowW (l.take k))).size ≤ 135000000 := by rw [str_size]; omega
        clear hx
        go_wp2_with fail
        go_loop [6] (fun i => ∃ p : Nat, p ≤ (str x).size ∧ i = .int .i64 p ∧ Hid ((((str x).data.toList.take p).any fun c => c == 0) = false)) (fun i => (str x).size - (intOf i).toNat)
        case atStart => exact ⟨0, Nat.zero_le _, rfl, rfl⟩
        case round =>
          obtain ⟨p, hp, rfl, hzp⟩ := hrel
          by_cases hpl : p < (str x).size
          · have p0 : (0 : Int) ≤ (p : Int) := by omega
            have p1 : (p : Int) < ((str x).size : Int) := by omega
            have hr := ((str x)[p]'hpl).toNat_lt
            rcases hc0 : ((((str x)[p]'hpl).toNat : Int) == 0) with _ | _
            · have HZ := Lib.hid (nz_step hzp.out hpl hc0)
              go_wp2_with fail
              go_round
              case rel => exact ⟨p + 1, by omega, by go_num, HZ⟩
              case measure => simp [intOf]; omega
            · have HJ : Hid (joinW l = []) := by
                show _ = _
                have h1 := nz_hit hpl hc0
                rw [str_list] at h1
                unfold joinW
                rw [if_pos (.inr (zero_yes HX.out h1))]
              clear hstep hle hjs
              go_wp2_with fail
              go_ret
              exact ⟨ret_str (by rw [HJ.out]; rfl), j, rfl⟩
          · have hps : p = (str x).size := by omega
            have p1 : ((str x).size : Int) ≤ (p : Int) := by omega
            have HZ : Hid (zeroW (l.take (k + 1)) = false) := by
              have h1 := hzp.out
              rw [List.take_of_length_le (by rw [size_list]; omega), str_list] at h1
              exact zero_take hz.out HX.out h1
            have HE := Lib.hid (rowW_succ HX.out)
            clear hps
            cases hsf : safeS (str x) with
            | true =>
              have ht := textW_safe hsf
              by_cases hk0 : k = 0
              · have hk0' : (k : Int) ≤ 0 := by omega
                have HF : Hid (str (rowW (l.take k)) ++ str x = str (rowW (l.take (k + 1)))) := by
                  show _ = _
                  rw [HE.out, if_pos hk0, ht, str_app]; rfl
                have HQ := Lib.hid hsf
                clear ht hsf hk0 hstep hle hjs
                go_wp2_with fail
                refine (safe_any _ hxs _).mono ?_
                rintro e w' ⟨rfl, rfl⟩
                rw [HQ.out]
                go_wp2_with fail
                go_roundw
                case rel => exact ⟨k + 1, j, by omega, by rw [← HF.out], by go_num, rfl, HZ⟩
                case measure => simp [intOf]; omega
              · have hk0' : (0 : Int) < (k : Int) := by omega
                have HF : Hid (str (rowW (l.take k)) ++ (⟨#[32]⟩ : ByteArray) ++ str x = str (rowW (l.take (k + 1)))) := by
                  show _ = _
                  rw [HE.out, if_neg hk0, ht, show (⟨#[32]⟩ : ByteArray) = str [32] from rfl, str_app, str_app, List.append_assoc]
                have z1 : (⟨#[32]⟩ : ByteArray).size ≤ 1 := Nat.le_refl _
                have z2 : (str (rowW (l.take k)) ++ (⟨#[32]⟩ : ByteArray)).size ≤ 135000001 := by rw [ByteArray.size_append]; omega
                have HQ := Lib.hid hsf
                clear ht hsf hk0 hstep hle hjs
                go_wp2_with fail
                refine (safe_any _ hxs _).mono ?_
                rintro e w' ⟨rfl, rfl⟩
                rw [HQ.out]
                go_wp2_with fail
                go_roundw
                case rel => exact ⟨k + 1, j, by omega, by rw [← HF.out], by go_num, rfl, HZ⟩
                case measure => simp [intOf]; omega
            | false =>
              have ht := textW_quo hsf
              have hqs : (str (quoW (str x).data.toList)).size ≤ 135000000 := by
                rw [ht] at hstep
                rw [str_size]
                omega
              by_cases hk0 : k = 0
              · have hk0' : (k : Int) ≤ 0 := by omega
                have HF : Hid (str (rowW (l.take k)) ++ str (quoW (str x).data.toList) = str (rowW (l.take (k + 1)))) := by
                  show _ = _
                  rw [HE.out, if_pos hk0, ht, str_app]; rfl
                have HQ := Lib.hid hsf
                clear ht hsf hk0 hstep hle hjs
                go_wp2_with fail
                refine (safe_any _ hxs _).mono ?_
                rintro e w' ⟨rfl, rfl⟩
                rw [HQ.out]
                go_wp2_with fail
                refine (quoted_any _ hxs _).mono ?_
                rintro e w' ⟨rfl, j2, rfl⟩
                go_wp2_with fail
                go_roundw
                case rel => exact ⟨k + 1, j + j2, by omega, by rw [← HF.out], by go_num, rfl, HZ⟩
                case measure => simp [intOf]; omega
              · have hk0' : (0 : Int) < (k : Int) := by omega
                have HF : Hid (str (rowW (l.take k)) ++ (⟨#[32]⟩ : ByteArray) ++ str (quoW (str x).data.toList) = str (rowW (l.take (k + 1)))) := by
                  show _ = _
                  rw [HE.out, if_neg hk0, ht, show (⟨#[32]⟩ : ByteArray) = str [32] from rfl, str_app, str_app, List.append_assoc]
                have z1 : (⟨#[32]⟩ : ByteArray).size ≤ 1 := Nat.le_refl _
                have z2 : (str (rowW (l.take k)) ++ (⟨#[32]⟩ : ByteArray)).size ≤ 135000001 := by rw [ByteArray.size_append]; omega
                have HQ := Lib.hid hsf
                clear ht hsf hk0 hstep hle hjs
                go_wp2_with fail
                refine (safe_any _ hxs _).mono ?_
                rintro e w' ⟨rfl, rfl⟩
                rw [HQ.out]
                go_wp2_with fail
                refine (quoted_any _ hxs _).mono ?_
                rintro e w' ⟨rfl, j2, rfl⟩
                go_wp2_with fail
                go_roundw
                case rel => exact ⟨k + 1, j + j2, by omega, by rw [← HF.out], by go_num, rfl, HZ⟩
                case measure => simp [intOf]; omega
      · obtain rfl : k = n := by omega
        have HJ : Hid (joinW l = rowW (l.take k)) := by
          show _ = _
          have h1 := hz.out
          rw [List.take_of_length_le (by omega)] at h1 ⊢
          unfold joinW
          rw [if_neg (by rw [h1]; simp; omega)]
        go_wp2_with fail
        go_ret
        exact ⟨ret_str (by rw [HJ.out]), j, rfl⟩
  · have HJ : Hid (joinW l = []) := by show _ = _; unfold joinW; rw [if_pos (.inl (by omega))]
    have n32 : decide ((32 : Int) < (n : Int)) = true := by simp; omega
    have n32' : (32 : Int) < (n : Int) := by omega
    clear h hn
    go_enter Try.func13, Try.ntmps13
    go_wp2_with fail
    go_ret
    exact ⟨ret_str (by rw [HJ.out]; rfl), 0, rfl⟩
end Go.Proofs.Ytbgblbikffamkaa
