/- The document's own Held, Sum, Digit, Dec. -/
import Derived.Test.YteoflefahoamnaaDoorSpQ
namespace Go.Proofs.YteoflefahoamnaaDoor
open Go.RowKit

def heldZ (n : Int) : Int := if n < 0 then 0 else if 6311433600 < n then 1099511627776 else n
theorem Held_any (n : Int) (w : World) :
    Calls Tryd.prog 22 #[.int .i64 n] w fun e w' => e = .returned (.int .i64 (heldZ n)) ∧ w = w' := by
  by_cases h1 : n < 0
  · have HZ := Lib.hid (show heldZ n = 0 by unfold heldZ; rw [if_pos h1])
    go_enter Tryd.func22, Tryd.ntmps22
    go_wp2
    go_ret
    exact ⟨ret_int (by rw [HZ.out]), rfl⟩
  · have h1' : 0 ≤ n := by omega
    by_cases h2 : 6311433600 < n
    · have HZ := Lib.hid (show heldZ n = 1099511627776 by unfold heldZ; rw [if_neg h1, if_pos h2])
      clear h1
      go_enter Tryd.func22, Tryd.ntmps22
      go_wp2
      go_ret
      exact ⟨ret_int (by rw [HZ.out]), rfl⟩
    · have HZ := Lib.hid (show heldZ n = n by unfold heldZ; rw [if_neg h1, if_neg h2])
      have h2' : n ≤ 6311433600 := by omega
      clear h1 h2
      go_enter Tryd.func22, Tryd.ntmps22
      go_wp2
      go_ret
      exact ⟨ret_int (by rw [HZ.out]), rfl⟩
theorem heldZ_le (n : Int) : 0 ≤ heldZ n ∧ heldZ n ≤ 1099511627776 := by
  unfold heldZ
  split
  · omega
  · split <;> omega
theorem heldZ_sum (a b : Int) : heldZ (heldZ a + heldZ b) = sumZ a b := by
  unfold heldZ sumZ
  repeat' split
  all_goals omega
theorem rSum_any (a b : Int) (w : World) :
    Calls Tryd.prog 13 #[.int .i64 a, .int .i64 b] w fun e w' => e = .returned (.int .i64 (sumZ a b)) ∧ w = w' := by
  obtain ⟨a0, a1⟩ := heldZ_le a
  obtain ⟨b0, b1⟩ := heldZ_le b
  have HS := Lib.hid (heldZ_sum a b)
  go_enter Tryd.func13, Tryd.ntmps13
  go_wp2_with fail
  refine (Held_any a _).mono ?_
  rintro e w1 ⟨rfl, rfl⟩
  go_wp2_with fail
  refine (Held_any b _).mono ?_
  rintro e w1 ⟨rfl, rfl⟩
  go_wp2_with fail
  refine (Held_any _ _).mono ?_
  rintro e w1 ⟨rfl, rfl⟩
  go_wp2_with fail
  go_ret
  exact ⟨ret_int HS.out, rfl⟩

theorem Digit_any (c : UInt8) (w : World) :
    Calls Tryd.prog 17 #[.int .u8 c.toNat] w fun e w' => e = .returned (.bool (isDig c)) ∧ w = w' := by
  have hr := c.toNat_lt
  by_cases h1 : c.toNat < 48
  · have HD := Lib.hid (show isDig c = false by unfold isDig; simp; omega)
    have h1' : (c.toNat : Int) < 48 := by omega
    go_enter Tryd.func17, Tryd.ntmps17
    go_wp2
    go_ret
    exact ⟨ret_bool HD.out.symm, rfl⟩
  · have h1' : (48 : Int) ≤ (c.toNat : Int) := by omega
    by_cases h2 : c.toNat ≤ 57
    · have HD := Lib.hid (show isDig c = true by unfold isDig; simp; omega)
      have h2' : (c.toNat : Int) ≤ 57 := by omega
      clear h1
      go_enter Tryd.func17, Tryd.ntmps17
      go_wp2
      go_ret
      exact ⟨ret_bool HD.out.symm, rfl⟩
    · have HD := Lib.hid (show isDig c = false by unfold isDig; simp; omega)
      have h2' : (57 : Int) < (c.toNat : Int) := by omega
      clear h1 h2
      go_enter Tryd.func17, Tryd.ntmps17
      go_wp2
      go_ret
      exact ⟨ret_bool (by rw [HD.out]; simp; omega), rfl⟩

theorem digit_slice : ∀ k : Nat, k < 10 → (⟨#[48, 49, 50, 51, 52, 53, 54, 55, 56, 57]⟩ : ByteArray).extract k (k + 1) = str [UInt8.ofNat (48 + k)] := by
  intro k hk
  have : k = 0 ∨ k = 1 ∨ k = 2 ∨ k = 3 ∨ k = 4 ∨ k = 5 ∨ k = 6 ∨ k = 7 ∨ k = 8 ∨ k = 9 := by omega
  rcases this with rfl | rfl | rfl | rfl | rfl | rfl | rfl | rfl | rfl | rfl <;> rfl
theorem Dec_any (k : Nat) : ∀ (n : Nat) (w : World), n ≤ k → n ≤ 9999999999 →
    Calls Tryd.prog 21 #[.int .i64 n] w fun e w' => e = .returned (.string (str (decL n))) ∧ w = w' := by
  induction k with
  | zero =>
    intro n w hk _
    obtain rfl : n = 0 := by omega
    go_enter Tryd.func21, Tryd.ntmps21
    go_wp2_with fail
    go_ret
    exact ⟨ret_str (by rw [decL]; rfl), rfl⟩
  | succ k ih =>
    intro n w hk hn
    have hm : n % 10 < 10 := Nat.mod_lt _ (by omega)
    have HS := Lib.hid (digit_slice (n % 10) hm)
    have b0 : (0 : Int) ≤ (n : Int) % 10 := by omega
    have b1 : (n : Int) % 10 < 10 := by omega
    have b2 : (n : Int) % 10 + 1 ≤ 10 := by omega
    have b3 : (n : Int) % 10 ≤ (n : Int) % 10 + 1 := by omega
    have b4 : (0 : Int) ≤ (n : Int) % 10 + 1 := by omega
    have b5 : (n : Int) % 10 ≤ 10 := by omega
    have b6 : (n : Int) % 10 ≤ 9 := by omega
    by_cases h : n < 10
    · have h' : (n : Int) < 10 := by omega
      have HD := Lib.hid (show decL n = [UInt8.ofNat (48 + n % 10)] by rw [decL, dif_pos h]; congr 2; omega)
      go_enter Tryd.func21, Tryd.ntmps21
      go_wp2_with fail
      go_ret
      exact ⟨ret_str (by rw [HD.out, HS.out]), rfl⟩
    · have h' : (10 : Int) ≤ (n : Int) := by omega
      have HD := Lib.hid (show decL n = decL (n / 10) ++ [UInt8.ofNat (48 + n % 10)] by rw [decL, dif_neg h])
      have E1 := Lib.hid (show (n : Int) / 10 = ((n / 10 : Nat) : Int) by omega)
      have hlen : (str (decL (n / 10))).size ≤ 10 := decL_len 9 (n / 10) (by omega)
      clear h
      go_enter Tryd.func21, Tryd.ntmps21
      go_wp2_with fail
      rw [E1.out]
      refine (ih (n / 10) _ (by omega) (by omega)).mono ?_
      rintro e w1 ⟨rfl, rfl⟩
      go_wp2_with fail
      go_ret
      exact ⟨ret_str (by rw [HD.out, HS.out, str_app]), rfl⟩
end Go.Proofs.YteoflefahoamnaaDoor
