/- The walks of Leap and Days, the code's and the document's; of daysBefore and within. -/
import Derived.Test.YtnbdcjohibfjaaaGreatDoorProg
import Derived.Test.YtnbdcjohibfjaaaGreatDoorCvL
import Derived.Test.YtnbdcjohibfjaaaGreatDoorSpK
import Derived.WalkKit
import Derived.BigGuardPart
import Derived.BigQuiet
import Derived.Handy
import Derived.Below
import Derived.Outline
import Derived.Deep.QuietTactic
import Derived.Deep.Draws
import Derived.Lib.Hide
import Derived.Laws.StructEq
namespace Go.Proofs.YtnbdcjohibfjaaaGreatDoor
open Go.RowKit

theorem tmod_zero (y k : Int) : Int.tmod y k = 0 ↔ y % k = 0 := by
  rw [← Int.dvd_iff_tmod_eq_zero, ← Int.dvd_iff_emod_eq_zero]
theorem tmod_b (y k : Int) {b : Bool} (h : (y % k == 0) = b) : (Int.tmod y k == 0) = b := by
  rw [← h, Bool.eq_iff_iff]; simp [tmod_zero]
theorem tmod_nb (y k : Int) {b : Bool} (h : (y % k == 0) = b) : (Int.tmod y k != 0) = !b := by
  rw [← h]; simp [bne, tmod_b y k rfl]
theorem bne_b (x : Int) {b : Bool} (h : (x == 0) = b) : (x != 0) = !b := by rw [← h]; rfl

set_option maxHeartbeats 1000000 in
theorem Leap_any (y : Int) (w : World) :
    Calls Tryz.prog 93 #[.int .i64 y] w fun e w' => e = .returned (.bool (leapB y)) ∧ w = w' := by
  have H : Hid (leapB y = ((y % 4 == 0 && !(y % 100 == 0)) || y % 400 == 0)) := rfl
  rcases h4 : y % 4 == 0 with _ | _ <;> rcases h1 : y % 100 == 0 with _ | _ <;> rcases h0 : y % 400 == 0 with _ | _
  all_goals
    rw [h4, h1, h0] at H
    have t4 := tmod_b y 4 h4
    have t1 := tmod_b y 100 h1
    have t1n := tmod_nb y 100 h1
    have t0 := tmod_b y 400 h0
    have h1n := bne_b _ h1
  all_goals first
    | (exfalso; simp at h4 h1 h0; omega)
    | (by_cases hy : 0 ≤ y
       · go_enter Tryz.func93, Tryz.ntmps93
         go_wp2
         go_ret
         exact ⟨ret_bool (by rw [H.out]; rfl), rfl⟩
       · go_enter Tryz.func93, Tryz.ntmps93
         go_wp2
         go_ret
         exact ⟨ret_bool (by rw [H.out]; rfl), rfl⟩)

set_option maxHeartbeats 1000000 in
theorem rLeap_any (y : Int) (w : World) :
    Calls Tryz.prog 71 #[.int .i64 y] w fun e w' => e = .returned (.bool (leapB y)) ∧ w = w' := by
  have H : Hid (leapB y = ((y % 4 == 0 && !(y % 100 == 0)) || y % 400 == 0)) := rfl
  rcases h4 : y % 4 == 0 with _ | _ <;> rcases h1 : y % 100 == 0 with _ | _ <;> rcases h0 : y % 400 == 0 with _ | _
  all_goals
    rw [h4, h1, h0] at H
    have t4 := tmod_b y 4 h4
    have t1 := tmod_b y 100 h1
    have t1n := tmod_nb y 100 h1
    have t0 := tmod_b y 400 h0
    have h1n := bne_b _ h1
  all_goals first
    | (exfalso; simp at h4 h1 h0; omega)
    | (by_cases hy : 0 ≤ y
       · go_enter Tryz.func71, Tryz.ntmps71
         go_wp2
         go_ret
         exact ⟨ret_bool (by rw [H.out]; rfl), rfl⟩
       · go_enter Tryz.func71, Tryz.ntmps71
         go_wp2
         go_ret
         exact ⟨ret_bool (by rw [H.out]; rfl), rfl⟩)

set_option maxHeartbeats 2000000 in
theorem Days_any (y m : Int) (w : World) :
    Calls Tryz.prog 76 #[.int .i64 y, .int .i64 m] w fun e w' => e = .returned (.int .i64 (dim y m)) ∧ w = w' := by
  by_cases hm : 1 ≤ m ∧ m ≤ 12
  · rcases month_cases hm.1 hm.2 with rfl | rfl | rfl | rfl | rfl | rfl | rfl | rfl | rfl | rfl | rfl | rfl
    all_goals clear hm
    case inr.inl =>
      rcases hl : leapB y with _ | _
      all_goals
        have HL := Lib.hid hl
        have H : Hid (dim y 2 = 28 + lp y) := rfl
        have HP : Hid (lp y = if leapB y = true then 1 else 0) := rfl
        clear hl
        go_enter Tryz.func76, Tryz.ntmps76
        go_wp2_with fail
        refine (Leap_any y _).mono ?_
        rintro e w' ⟨rfl, rfl⟩
        rw [HL.out]
        go_wp2_with fail
        go_ret
        exact ⟨ret_int (by rw [H.out, HP.out, HL.out]; rfl), rfl⟩
    all_goals
      go_enter Tryz.func76, Tryz.ntmps76
      go_wp2_with fail
      go_ret
      exact ⟨ret_int (by simp [dim]), rfl⟩
  · have H := Lib.hid (dim_none y m (by omega))
    have n2 : (m == 2) = false := by simp; omega
    have n1 : (m == 1) = false := by simp; omega
    have n3 : (m == 3) = false := by simp; omega
    have n4 : (m == 4) = false := by simp; omega
    have n5 : (m == 5) = false := by simp; omega
    have n6 : (m == 6) = false := by simp; omega
    have n7 : (m == 7) = false := by simp; omega
    have n8 : (m == 8) = false := by simp; omega
    have n9 : (m == 9) = false := by simp; omega
    have n10 : (m == 10) = false := by simp; omega
    have n11 : (m == 11) = false := by simp; omega
    have n12 : (m == 12) = false := by simp; omega
    by_cases h1 : 1 ≤ m
    · have h2 : 12 < m := by omega
      clear hm
      go_enter Tryz.func76, Tryz.ntmps76
      go_wp2_with fail
      go_ret
      exact ⟨ret_int (by rw [H.out]), rfl⟩
    · clear hm
      go_enter Tryz.func76, Tryz.ntmps76
      go_wp2_with fail
      go_ret
      exact ⟨ret_int (by rw [H.out]), rfl⟩

set_option maxHeartbeats 2000000 in
theorem rDays_any (y m : Int) (w : World) :
    Calls Tryz.prog 72 #[.int .i64 y, .int .i64 m] w fun e w' => e = .returned (.int .i64 (dim y m)) ∧ w = w' := by
  by_cases hm : 1 ≤ m ∧ m ≤ 12
  · rcases month_cases hm.1 hm.2 with rfl | rfl | rfl | rfl | rfl | rfl | rfl | rfl | rfl | rfl | rfl | rfl
    all_goals clear hm
    case inr.inl =>
      rcases hl : leapB y with _ | _
      all_goals
        have HL := Lib.hid hl
        have H : Hid (dim y 2 = 28 + lp y) := rfl
        have HP : Hid (lp y = if leapB y = true then 1 else 0) := rfl
        clear hl
        go_enter Tryz.func72, Tryz.ntmps72
        go_wp2_with fail
        refine (rLeap_any y _).mono ?_
        rintro e w' ⟨rfl, rfl⟩
        rw [HL.out]
        go_wp2_with fail
        go_ret
        exact ⟨ret_int (by rw [H.out, HP.out, HL.out]; rfl), rfl⟩
    all_goals
      go_enter Tryz.func72, Tryz.ntmps72
      go_wp2_with fail
      go_ret
      exact ⟨ret_int (by simp [dim]), rfl⟩
  · have H := Lib.hid (dim_none y m (by omega))
    have n2 : (m == 2) = false := by simp; omega
    have n1 : (m == 1) = false := by simp; omega
    have n3 : (m == 3) = false := by simp; omega
    have n4 : (m == 4) = false := by simp; omega
    have n5 : (m == 5) = false := by simp; omega
    have n6 : (m == 6) = false := by simp; omega
    have n7 : (m == 7) = false := by simp; omega
    have n8 : (m == 8) = false := by simp; omega
    have n9 : (m == 9) = false := by simp; omega
    have n10 : (m == 10) = false := by simp; omega
    have n11 : (m == 11) = false := by simp; omega
    have n12 : (m == 12) = false := by simp; omega
    by_cases h1 : 1 ≤ m
    · have h2 : 12 < m := by omega
      clear hm
      go_enter Tryz.func72, Tryz.ntmps72
      go_wp2_with fail
      go_ret
      exact ⟨ret_int (by rw [H.out]), rfl⟩
    · clear hm
      go_enter Tryz.func72, Tryz.ntmps72
      go_wp2_with fail
      go_ret
      exact ⟨ret_int (by rw [H.out]), rfl⟩

set_option maxHeartbeats 1000000 in
theorem daysBefore_any (y : Int) (h0 : 2000 ≤ y) (h1 : y ≤ 2300) (w : World) :
    Calls Tryz.prog 75 #[.int .i64 y] w fun e w' => e = .returned (.int .i64 (yst y)) ∧ w = w' := by
  have H := Lib.hid (show yst y = 365 * (y - 2000) + (y - 2000 + 3) / 4 - (y - 2000 + 99) / 100 + (y - 2000 + 399) / 400 by unfold yst leaps; omega)
  go_enter Tryz.func75, Tryz.ntmps75
  go_wp2_with fail
  go_ret
  exact ⟨ret_int (by rw [H.out]), rfl⟩

def inB (n a b : Int) : Bool := decide (a ≤ n) && decide (n ≤ b)
set_option maxHeartbeats 1000000 in
theorem within_any (n a b : Int) (w : World) :
    Calls Tryz.prog 92 #[.int .i64 n, .int .i64 a, .int .i64 b] w fun e w' => e = .returned (.bool (inB n a b)) ∧ w = w' := by
  have H : Hid (inB n a b = (decide (a ≤ n) && decide (n ≤ b))) := rfl
  by_cases ha : a ≤ n
  · have da : decide (a ≤ n) = true := by simpa using ha
    by_cases hb : n ≤ b
    · have db : decide (n ≤ b) = true := by simpa using hb
      rw [da, db] at H
      go_enter Tryz.func92, Tryz.ntmps92
      go_wp2_with fail
      go_ret
      exact ⟨ret_bool (by rw [H.out]; rfl), rfl⟩
    · have db : decide (n ≤ b) = false := by simpa using hb
      rw [da, db] at H
      go_enter Tryz.func92, Tryz.ntmps92
      go_wp2_with fail
      go_ret
      exact ⟨ret_bool (by rw [H.out]; rfl), rfl⟩
  · have da : decide (a ≤ n) = false := by simpa using ha
    rw [da] at H
    go_enter Tryz.func92, Tryz.ntmps92
    go_wp2_with fail
    go_ret
    exact ⟨ret_bool (by rw [H.out]; rfl), rfl⟩
end Go.Proofs.YtnbdcjohibfjaaaGreatDoor
