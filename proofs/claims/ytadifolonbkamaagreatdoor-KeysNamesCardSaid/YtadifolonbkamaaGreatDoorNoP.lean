/- The walks of the document's own small functions: plain, nameByte, Suffix, Hex, HexByte. -/
import Derived.Test.YtadifolonbkamaaGreatDoorNoH
namespace Go.Proofs.YtadifolonbkamaaGreatDoor.Nm
open Go.RowKit

set_option maxHeartbeats 2000000 in
theorem rnameByte_any (c : Nat) (hc : c ≤ 255) (w : World) :
    Calls Tryz.prog 71 #[.int .u8 c] w fun e w' => e = .returned (.bool (bodyByte c)) ∧ w = w' := by
  have H : c ≤ 44 ∨ c = 45 ∨ c = 46 ∨ c = 47 ∨ (48 ≤ c ∧ c ≤ 57) ∨ c = 58 ∨ (59 ≤ c ∧ c ≤ 64) ∨ (65 ≤ c ∧ c ≤ 90) ∨ c = 91 ∨ c = 92 ∨ (93 ≤ c ∧ c ≤ 94) ∨ c = 95 ∨ c = 96 ∨ (97 ≤ c ∧ c ≤ 122) ∨ 123 ≤ c := by omega
  rcases H with h | rfl | rfl | rfl | ⟨h1, h2⟩ | rfl | ⟨h1, h2⟩ | ⟨h1, h2⟩ | rfl | rfl | ⟨h1, h2⟩ | rfl | rfl | ⟨h1, h2⟩ | h
  all_goals
    go_enter Tryz.func71, Tryz.ntmps71
    go_wp2
  all_goals try (exfalso; omega)
  all_goals go_ret
  all_goals (refine ⟨congrArg (fun b => Ending.returned (.bool b)) ?_, rfl⟩)
  all_goals first | rfl | (simp [bodyByte, plainB]; done) | (simp [bodyByte, plainB]; omega; done) | (rw [Bool.eq_iff_iff]; simp [bodyByte, plainB]; omega)

theorem rSuffix_any (k : Int) (w : World) :
    Calls Tryz.prog 70 #[.int .i64 k] w fun e w' => e = .returned (.string (str (sfx k))) ∧ w = w' := by
  have H : k = 1 ∨ k = 2 ∨ k = 3 ∨ k = 4 ∨ ((k == 1) = false ∧ (k == 2) = false ∧ (k == 3) = false ∧ (k == 4) = false) := by simp; omega
  rcases H with rfl | rfl | rfl | rfl | ⟨h1, h2, h3, h4⟩
  all_goals
    go_enter Tryz.func70, Tryz.ntmps70
    go_wp2
  all_goals go_ret
  all_goals (refine ⟨congrArg (fun b => Ending.returned (.string b)) ?_, rfl⟩)
  all_goals first | rfl | (simp at h1 h2 h3 h4; simp [sfx, h1, h2, h3, h4]; rfl)

/-- The document's digit: 16 if it is none. -/
def hex16 (c : UInt8) : Int := if hexI c = -1 then 16 else hexI c

theorem hexI_iff (c : UInt8) (n : Nat) (hn : n < 16) : hexI c = n ↔ hexDig n = c := by
  have H : ∀ m : Fin 256, ∀ n : Fin 16, hexI m.1.toUInt8 = (n.1 : Int) ↔ hexDig n.1 = m.1.toUInt8 := by decide +kernel
  have e : c.toNat.toUInt8 = c := by simp
  have := H ⟨c.toNat, c.toNat_lt⟩ ⟨n, hn⟩
  rwa [e] at this
theorem hex16_yes (c : UInt8) (n : Nat) (hn : n < 16) (h : hexDig n = c) : hex16 c = n := by
  have := (hexI_iff c n hn).2 h
  unfold hex16
  rw [this, if_neg (by omega)]
theorem hex16_no (c : UInt8) (h : ∀ j, j < 16 → hexDig j ≠ c) : hex16 c = 16 := by
  unfold hex16
  rcases hexI_cases c with e | ⟨n, hn, e⟩
  · rw [if_pos e]
  · exact absurd ((hexI_iff c n hn).1 e) (h n hn)

set_option maxHeartbeats 2000000 in
theorem rHex_any (c : UInt8) (w : World) :
    Calls Tryz.prog 118 #[.int .u8 c.toNat] w fun e w' => e = .returned (.int .i64 (hex16 c)) ∧ w = w' := by
  have hr := c.toNat_lt
  go_enter Tryz.func118, Tryz.ntmps118
  go_wp2
  go_loop [3] (fun i => ∃ k : Nat, k ≤ 16 ∧ i = .int .i64 k ∧ Hid (∀ j, j < k → hexDig j ≠ c)) (fun i => 16 - (intOf i).toNat)
  case atStart => exact ⟨0, by omega, rfl, fun j hj => by omega⟩
  case round =>
    obtain ⟨k, hk, rfl, hb⟩ := hrel
    by_cases hlt : k < 16
    · have hlt' : (k : Int) < 16 := by omega
      have hg := Lib.hid (hex_get k hlt)
      by_cases he : hexDig k = c
      · have ht : ((((⟨#[48, 49, 50, 51, 52, 53, 54, 55, 56, 57, 97, 98, 99, 100, 101, 102]⟩ : ByteArray)[k]'hlt).toNat : Int) == (c.toNat : Int)) = true := by rw [hg.out, he]; simp
        have HE := Lib.hid (hex16_yes c k hlt he)
        clear he
        go_wp2
        go_ret
        exact ⟨ret_int HE.out.symm, rfl⟩
      · have ht : ((((⟨#[48, 49, 50, 51, 52, 53, 54, 55, 56, 57, 97, 98, 99, 100, 101, 102]⟩ : ByteArray)[k]'hlt).toNat : Int) == (c.toNat : Int)) = false := by
          rw [hg.out]
          simp
          intro e
          exact he (UInt8.toNat_inj.1 (by omega))
        have HB : Hid (∀ j, j < k + 1 → hexDig j ≠ c) := fun j hj => by
          rcases Nat.lt_succ_iff_lt_or_eq.1 hj with h | rfl
          · exact hb.out j h
          · exact he
        clear he
        go_wp2
        go_round
        case rel => exact ⟨k + 1, by omega, by go_num, HB⟩
        case measure => simp [intOf]; omega
    · have hlt' : (16 : Int) ≤ k := by omega
      have HE := Lib.hid (hex16_no c (fun j hj => hb.out j (by omega)))
      go_wp2
      go_ret
      exact ⟨ret_int HE.out.symm, rfl⟩

theorem hex_slice (n : Nat) (h : n < 16) : (⟨#[48, 49, 50, 51, 52, 53, 54, 55, 56, 57, 97, 98, 99, 100, 101, 102]⟩ : ByteArray).extract n (n + 1) = str [hexDig n] := by
  have H : ∀ m : Fin 16, ((⟨#[48, 49, 50, 51, 52, 53, 54, 55, 56, 57, 97, 98, 99, 100, 101, 102]⟩ : ByteArray).extract m.1 (m.1 + 1)).data.toList = [hexDig m.1] := by decide +kernel
  exact eq_str.2 (H ⟨n, h⟩)

end Go.Proofs.YtadifolonbkamaaGreatDoor.Nm
