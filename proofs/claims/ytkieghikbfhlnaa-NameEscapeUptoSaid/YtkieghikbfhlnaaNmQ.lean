/- The walk of the document's own Escape. -/
import Derived.Test.YtkieghikbfhlnaaNmP
import Derived.Test.YtkieghikbfhlnaaNmI
namespace Go.Proofs.Ytkieghikbfhlnaa
open Go.RowKit

theorem escAt_str (s : ByteArray) (k : Nat) (h : k < s.size) {l : List UInt8} (he : escB (decide (k = 0)) s[k] = l) : str (escAt s k) ++ str l = str (escAt s (k + 1)) := by
  rw [escAt_succ s k h, he]
  apply ByteArray.ext
  rw [ByteArray.data_append]
  simp [str]
theorem one_slice (s : ByteArray) (k : Nat) (h : k < s.size) : s.extract k (k + 1) = str [s[k]] := by
  refine eq_str.2 ?_
  rw [Lib.extract_data, show k + 1 - k = 1 by omega, drop_at s k h]
  rfl

set_option maxHeartbeats 2000000 in
theorem rEscape_any (s : ByteArray) (hs : s.size ≤ 35184372088832) (w : World) :
    Calls Try.prog 24 #[.string s] w fun e w' => e = .returned (.string (escS s)) ∧ ∃ n, w' = w.drewN n := by
  go_enter Try.func24, Try.ntmps24
  go_wp2_with fail
  go_loopw [3, 4] (fun t i wr => ∃ (k n : Nat), k ≤ s.size ∧ t = .string (str (escAt s k)) ∧ i = .int .i64 k ∧ wr = w.drewN n) (fun t i wr => s.size - (intOf i).toNat)
  case atStart => exact ⟨0, 0, Nat.zero_le _, rfl, rfl, rfl⟩
  case round =>
    obtain ⟨k, n, hk, rfl, rfl, rfl⟩ := hrel
    have hlen := escAt_length s k
    have hlen2 : (str (escAt s k)).size ≤ 4 * k := hlen
    by_cases hlt : k < s.size
    · have hr := s[k].toNat_lt
      have b0 : (0 : Int) ≤ (k : Int) := by omega
      have b1 : (k : Int) ≤ (k : Int) + 1 := by omega
      have b2 : (k : Int) + 1 ≤ (s.size : Int) := by omega
      by_cases h47 : s[k].toNat = 47
      · have h47' : ((s[k].toNat : Int) == 47) = true := by simp [h47]
        have HE := Lib.hid (escAt_str s k hlt (l := [45]) (by unfold escB; rw [if_pos (UInt8.toNat_inj.1 (by rw [h47]; rfl))]))
        clear h47
        go_wp2_with fail
        go_roundw
        case rel => exact ⟨k + 1, n, by omega, by rw [← HE.out]; rfl, by go_num, rfl⟩
        case measure => simp [intOf]; omega
      · have h47' : ((s[k].toNat : Int) == 47) = false := by simp; omega
        by_cases hpl : plainB s[k].toNat = true ∧ (s[k] ≠ 46 ∨ k ≠ 0)
        · have HE := Lib.hid (escAt_str s k hlt (l := [s[k]]) (by unfold escB; rw [if_neg (by intro e; exact h47 (by rw [e]; rfl)), if_pos (by simpa using hpl)]))
          have HS := Lib.hid (one_slice s k hlt)
          obtain ⟨hp1, hp2⟩ := hpl
          by_cases h46 : s[k].toNat = 46
          · have h46' : ((s[k].toNat : Int) == 46) = true := by simp [h46]
            have hk0 : ((k : Int) == 0) = false := by
              rcases hp2 with hp2 | hp2
              · exact absurd (UInt8.toNat_inj.1 (by rw [h46]; rfl)) hp2
              · simp; omega
            clear h46 hp2 h47
            go_wp2_with fail
            refine (rplain_any _ (by omega) _).mono ?_
            rintro e w' ⟨rfl, rfl⟩
            go_wp2_with fail
            go_roundw
            case rel => exact ⟨k + 1, n, by omega, by rw [← HE.out, ← HS.out], by go_num, rfl⟩
            case measure => simp [intOf]; omega
          · have h46' : ((s[k].toNat : Int) == 46) = false := by simp; omega
            clear h46 hp2 h47
            go_wp2_with fail
            refine (rplain_any _ (by omega) _).mono ?_
            rintro e w' ⟨rfl, rfl⟩
            go_wp2_with fail
            go_roundw
            case rel => exact ⟨k + 1, n, by omega, by rw [← HE.out, ← HS.out], by go_num, rfl⟩
            case measure => simp [intOf]; omega
        · rcases hp1 : plainB s[k].toNat with _ | _
          · have HE := Lib.hid (escAt_str s k hlt (l := [92, 120, hexDig (s[k].toNat / 16), hexDig (s[k].toNat % 16)]) (by unfold escB; rw [if_neg (by intro e; exact h47 (by rw [e]; rfl)), if_neg (by simp [hp1])]))
            clear hpl h47
            go_wp2_with fail
            refine (rplain_any _ (by omega) _).mono ?_
            rintro e w' ⟨rfl, rfl⟩
            go_wp2_with fail
            have hs2 : (str [hexDig (s[k].toNat / 16), hexDig (s[k].toNat % 16)]).size ≤ 2 := Nat.le_refl _
            refine (rHexByte_any _ (by omega) _).mono ?_
            rintro e w' ⟨rfl, n', rfl⟩
            go_wp2_with fail
            go_roundw
            case rel => exact ⟨k + 1, n + n', by omega, by rw [← HE.out]; rfl, by go_num, rfl⟩
            case measure => simp [intOf]; omega
          · have h46 : s[k] = 46 ∧ k = 0 := by
              rw [hp1] at hpl
              by_cases h1 : s[k] = 46
              · exact ⟨h1, by
                  rcases Nat.eq_zero_or_pos k with h2 | h2
                  · exact h2
                  · exact absurd ⟨rfl, .inr (by omega)⟩ hpl⟩
              · exact absurd ⟨rfl, .inl h1⟩ hpl
            have HE := Lib.hid (escAt_str s k hlt (l := [92, 120, hexDig (s[k].toNat / 16), hexDig (s[k].toNat % 16)]) (by unfold escB; rw [if_neg (by intro e; exact h47 (by rw [e]; rfl)), if_neg (by intro e; rcases e.2 with e2 | e2; exact e2 h46.1; simp [h46.2] at e2)]))
            have h46' : ((s[k].toNat : Int) == 46) = true := by rw [h46.1]; rfl
            have hk0 : ((k : Int) == 0) = true := by rw [h46.2]; rfl
            clear hpl h47 h46
            go_wp2_with fail
            refine (rplain_any _ (by omega) _).mono ?_
            rintro e w' ⟨rfl, rfl⟩
            go_wp2_with fail
            have hs2 : (str [hexDig (s[k].toNat / 16), hexDig (s[k].toNat % 16)]).size ≤ 2 := Nat.le_refl _
            refine (rHexByte_any _ (by omega) _).mono ?_
            rintro e w' ⟨rfl, n', rfl⟩
            go_wp2_with fail
            go_roundw
            case rel => exact ⟨k + 1, n + n', by omega, by rw [← HE.out]; rfl, by go_num, rfl⟩
            case measure => simp [intOf]; omega
    · have hlt' : (s.size : Int) ≤ k := by omega
      go_wp2_with fail
      go_ret
      exact ⟨ret_str (escAt_all s k (by omega)).symm, n, rfl⟩
end Go.Proofs.Ytkieghikbfhlnaa
