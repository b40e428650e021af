/- Small words on strings, lists and worlds that the walks of the spans share. The units: the developers' seconds, the docu -/
import Derived.Test.YtncolcjejgmhjaaGreatDoorProg
import Derived.Test.YtncolcjejgmhjaaGreatDoorCxab
import Derived.WalkKit
import Derived.BigGuardPart
import Derived.BigQuiet
import Derived.Handy
import Derived.Below
import Derived.Deep.QuietTactic
import Derived.Deep.Draws
import Derived.Lib.Hide
import Derived.Lib.Strings
import Derived.Test.YtncolcjejgmhjaaGreatDoorCxaa
import Derived.Outline
import Derived.Laws.StructEq
import Derived.Deep.DeepCutAuto
import Derived.Deep.CutBlock
import Derived.Deep.LoopGhost
import Derived.Test.YtncolcjejgmhjaaGreatDoorCxad
namespace Go.Proofs.YtncolcjejgmhjaaGreatDoor
open Go.RowKit
def str (l : List UInt8) : ByteArray := ⟨l.toArray⟩
theorem str_data (s : ByteArray) : str s.data.toList = s := Lib.mk_data s
theorem str_size (l : List UInt8) : (str l).size = l.length := rfl
theorem str_list (l : List UInt8) : (str l).data.toList = l := rfl
theorem eq_str {s : ByteArray} {l : List UInt8} : s = str l ↔ s.data.toList = l :=
  ⟨fun h => by rw [h]; rfl, fun h => by rw [← h, str_data]⟩
theorem beq_str (s t : ByteArray) : (s.toList == t.toList) = decide (s = t) := by
  rw [Bool.eq_iff_iff]
  simp only [beq_iff_eq, decide_eq_true_eq, Lib.toList_data]
  exact ⟨fun h => by rw [← str_data s, h, str_data], fun h => by rw [h]⟩
theorem ret_bool {a b : Bool} (h : a = b) : Ending.returned (.bool a) = .returned (.bool b) := by rw [h]
theorem ret_int {k : IntKind} {a b : Int} (h : a = b) : Ending.returned (.int k a) = .returned (.int k b) := by rw [h]
theorem ret_str {a b : ByteArray} (h : a = b) : Ending.returned (.string a) = .returned (.string b) := by rw [h]
theorem below_drewN {B : Nat} {a w : World} (h : Below B a w) (n : Nat) : Below B a (w.drewN n) := ⟨h.os, h.tape, h.output, h.size, h.block⟩
theorem below_more {B : Nat} {a w w' : World} (h : Below B a w) (hB : B ≤ w.heap.size) (h2 : Below w.heap.size w w') : Below B a w' := h.trans (h2.mono hB)
theorem more {a w w' : World} (h : Below a.heap.size a w) (h2 : Below w.heap.size w w') : Below a.heap.size a w' := below_more h h.size h2
theorem take_at (s : ByteArray) (k : Nat) (h : k < s.size) : s.data.toList.take (k + 1) = s.data.toList.take k ++ [s[k]] := by
  rw [List.take_succ_eq_append_getElem (by simpa using h)]; rfl
theorem tail_list (s : ByteArray) (k : Nat) : (s.extract k s.size).data.toList = s.data.toList.drop k := by
  rw [Lib.extract_data]
  exact List.take_of_length_le (by rw [List.length_drop]; simp)
theorem size_list (s : ByteArray) : s.data.toList.length = s.size := by simp
theorem isEmpty_iff (s : ByteArray) : s.toList.isEmpty = decide (s.data.toList = []) := by
  rw [Lib.toList_data]
  cases s.data.toList <;> simp
end Go.Proofs.YtncolcjejgmhjaaGreatDoor
namespace Go.Proofs.YtncolcjejgmhjaaGreatDoor
open Go.RowKit
theorem ne_beq {s : ByteArray} {l : List UInt8} (h : s ≠ str l) : (s.toList == l) = false := by
  have := beq_str s (str l)
  rw [Lib.toList_data (str l)] at this
  rw [show l = (str l).data.toList from rfl, this]
  simpa using h
theorem is_beq {s : ByteArray} {l : List UInt8} (h : s = str l) : (s.toList == l) = true := by
  have := beq_str s (str l)
  rw [Lib.toList_data (str l)] at this
  rw [show l = (str l).data.toList from rfl, this]
  simpa using h
end Go.Proofs.YtncolcjejgmhjaaGreatDoor
namespace Go.Proofs.YtncolcjejgmhjaaGreatDoor
open Go.RowKit
theorem tmod_zero (y k : Int) : Int.tmod y k = 0 ↔ y % k = 0 := by
  rw [← Int.dvd_iff_tmod_eq_zero, ← Int.dvd_iff_emod_eq_zero]
theorem tmod_b (y k : Int) {b : Bool} (h : (y % k == 0) = b) : (Int.tmod y k == 0) = b := by
  rw [← h, Bool.eq_iff_iff]; simp [tmod_zero]
theorem tmod_nb (y k : Int) {b : Bool} (h : (y % k == 0) = b) : (Int.tmod y k != 0) = !b := by
  rw [← h]; simp [bne, tmod_b y k rfl]
theorem bne_b (x : Int) {b : Bool} (h : (x == 0) = b) : (x != 0) = !b := by rw [← h]; rfl
set_option maxHeartbeats 1000000 in
theorem Leap_any (y : Int) (w : World) :
    Calls Tryz.prog 57 #[.int .i64 y] w fun e w' => e = .returned (.bool (leapB y)) ∧ w = w' := by
  have H : Hid (leapB y = ((y % 4 == 0 && !(y % 100 == 0)) || y % 400 == 0)) := rfl
  rcases h4 : y % 4 == 0 with _ | _ <;> rcases h1 : y % 100 == 0 with _ | _ <;> rcases h0 : y % 400 == 0 with _ | _
  all_goals
    rw [h4, h1, h0] at H
    have t4 := tmod_b y 4 h4
    have t1 := tmod_b y 100 h1
    have t1n := tmod_nb y 100 h1
    have t0 := tmod_b y 400 h0
    have h1n := bne_b _ h1
  all_goals first
    | (exfalso; simp at h4 h1 h0; omega)
    | (by_cases hy : 0 ≤ y
       · go_enter Tryz.func57, Tryz.ntmps57
         go_wp2
         go_ret
         exact ⟨ret_bool (by rw [H.out]; rfl), rfl⟩
       · go_enter Tryz.func57, Tryz.ntmps57
         go_wp2
         go_ret
         exact ⟨ret_bool (by rw [H.out]; rfl), rfl⟩)
set_option maxHeartbeats 1000000 in
theorem rLeap_any (y : Int) (w : World) :
    Calls Tryz.prog 47 #[.int .i64 y] w fun e w' => e = .returned (.bool (leapB y)) ∧ w = w' := by
  have H : Hid (leapB y = ((y % 4 == 0 && !(y % 100 == 0)) || y % 400 == 0)) := rfl
  rcases h4 : y % 4 == 0 with _ | _ <;> rcases h1 : y % 100 == 0 with _ | _ <;> rcases h0 : y % 400 == 0 with _ | _
  all_goals
    rw [h4, h1, h0] at H
    have t4 := tmod_b y 4 h4
    have t1 := tmod_b y 100 h1
    have t1n := tmod_nb y 100 h1
    have t0 := tmod_b y 400 h0
    have h1n := bne_b _ h1
  all_goals first
    | (exfalso; simp at h4 h1 h0; omega)
    | (by_cases hy : 0 ≤ y
       · go_enter Tryz.func47, Tryz.ntmps47
         go_wp2
         go_ret
         exact ⟨ret_bool (by rw [H.out]; rfl), rfl⟩
       · go_enter Tryz.func47, Tryz.ntmps47
         go_wp2
         go_ret
         exact ⟨ret_bool (by rw [H.out]; rfl), rfl⟩)
set_option maxHeartbeats 2000000 in
theorem Days_any (y m : Int) (w : World) :
    Calls Tryz.prog 42 #[.int .i64 y, .int .i64 m] w fun e w' => e = .returned (.int .i64 (dim y m)) ∧ w = w' := by
  by_cases hm : 1 ≤ m ∧ m ≤ 12
  · rcases month_cases hm.1 hm.2 with rfl | rfl | rfl | rfl | rfl | rfl | rfl | rfl | rfl | rfl | rfl | rfl
    all_goals clear hm
    case inr.inl =>
      rcases hl : leapB y with _ | _
      all_goals
        have HL := Lib.hid hl
        have H : Hid (dim y 2 = 28 + lp y) := rfl
        have HP : Hid (lp y = if leapB y = true then 1 else 0) := rfl
        clear hl
        go_enter Tryz.func42, Tryz.ntmps42
        go_wp2_with fail
        refine (Leap_any y _).mono ?_
        rintro e w' ⟨rfl, rfl⟩
        rw [HL.out]
        go_wp2_with fail
        go_ret
        exact ⟨ret_int (by rw [H.out, HP.out, HL.out]; rfl), rfl⟩
    all_goals
      go_enter Tryz.func42, Tryz.ntmps42
      go_wp2_with fail
      go_ret
      exact ⟨ret_int (by simp [dim]), rfl⟩
  · have H := Lib.hid (dim_none y m (by omega))
    have n2 : (m == 2) = false := by simp; omega
    have n1 : (m == 1) = false := by simp; omega
    have n3 : (m == 3) = false := by simp; omega
    have n4 : (m == 4) = false := by simp; omega
    have n5 : (m == 5) = false := by simp; omega
    have n6 : (m == 6) = false := by simp; omega
    have n7 : (m == 7) = false := by simp; omega
    have n8 : (m == 8) = false := by simp; omega
    have n9 : (m == 9) = false := by simp; omega
    have n10 : (m == 10) = false := by simp; omega
    have n11 : (m == 11) = false := by simp; omega
    have n12 : (m == 12) = false := by simp; omega
    by_cases h1 : 1 ≤ m
    · have h2 : 12 < m := by omega
      clear hm
      go_enter Tryz.func42, Tryz.ntmps42
      go_wp2_with fail
      go_ret
      exact ⟨ret_int (by rw [H.out]), rfl⟩
    · clear hm
      go_enter Tryz.func42, Tryz.ntmps42
      go_wp2_with fail
      go_ret
      exact ⟨ret_int (by rw [H.out]), rfl⟩
set_option maxHeartbeats 2000000 in
theorem rDays_any (y m : Int) (w : World) :
    Calls Tryz.prog 48 #[.int .i64 y, .int .i64 m] w fun e w' => e = .returned (.int .i64 (dim y m)) ∧ w = w' := by
  by_cases hm : 1 ≤ m ∧ m ≤ 12
  · rcases month_cases hm.1 hm.2 with rfl | rfl | rfl | rfl | rfl | rfl | rfl | rfl | rfl | rfl | rfl | rfl
    all_goals clear hm
    case inr.inl =>
      rcases hl : leapB y with _ | _
      all_goals
        have HL := Lib.hid hl
        have H : Hid (dim y 2 = 28 + lp y) := rfl
        have HP : Hid (lp y = if leapB y = true then 1 else 0) := rfl
        clear hl
        go_enter Tryz.func48, Tryz.ntmps48
        go_wp2_with fail
        refine (rLeap_any y _).mono ?_
        rintro e w' ⟨rfl, rfl⟩
        rw [HL.out]
        go_wp2_with fail
        go_ret
        exact ⟨ret_int (by rw [H.out, HP.out, HL.out]; rfl), rfl⟩
    all_goals
      go_enter Tryz.func48, Tryz.ntmps48
      go_wp2_with fail
      go_ret
      exact ⟨ret_int (by simp [dim]), rfl⟩
  · have H := Lib.hid (dim_none y m (by omega))
    have n2 : (m == 2) = false := by simp; omega
    have n1 : (m == 1) = false := by simp; omega
    have n3 : (m == 3) = false := by simp; omega
    have n4 : (m == 4) = false := by simp; omega
    have n5 : (m == 5) = false := by simp; omega
    have n6 : (m == 6) = false := by simp; omega
    have n7 : (m == 7) = false := by simp; omega
    have n8 : (m == 8) = false := by simp; omega
    have n9 : (m == 9) = false := by simp; omega
    have n10 : (m == 10) = false := by simp; omega
    have n11 : (m == 11) = false := by simp; omega
    have n12 : (m == 12) = false := by simp; omega
    by_cases h1 : 1 ≤ m
    · have h2 : 12 < m := by omega
      clear hm
      go_enter Tryz.func48, Tryz.ntmps48
      go_wp2_with fail
      go_ret
      exact ⟨ret_int (by rw [H.out]), rfl⟩
    · clear hm
      go_enter Tryz.func48, Tryz.ntmps48
      go_wp2_with fail
      go_ret
      exact ⟨ret_int (by rw [H.out]), rfl⟩
set_option maxHeartbeats 1000000 in
theorem daysBefore_any (y : Int) (h0 : 2000 ≤ y) (h1 : y ≤ 2300) (w : World) :
    Calls Tryz.prog 41 #[.int .i64 y] w fun e w' => e = .returned (.int .i64 (yst y)) ∧ w = w' := by
  have H := Lib.hid (show yst y = 365 * (y - 2000) + (y - 2000 + 3) / 4 - (y - 2000 + 99) / 100 + (y - 2000 + 399) / 400 by unfold yst leaps; omega)
  go_enter Tryz.func41, Tryz.ntmps41
  go_wp2_with fail
  go_ret
  exact ⟨ret_int (by rw [H.out]), rfl⟩
def inB (n a b : Int) : Bool := decide (a ≤ n) && decide (n ≤ b)
set_option maxHeartbeats 1000000 in
theorem within_any (n a b : Int) (w : World) :
    Calls Tryz.prog 56 #[.int .i64 n, .int .i64 a, .int .i64 b] w fun e w' => e = .returned (.bool (inB n a b)) ∧ w = w' := by
  have H : Hid (inB n a b = (decide (a ≤ n) && decide (n ≤ b))) := rfl
  by_cases ha : a ≤ n
  · have da : decide (a ≤ n) = true := by simpa using ha
    by_cases hb : n ≤ b
    · have db : decide (n ≤ b) = true := by simpa using hb
      rw [da, db] at H
      go_enter Tryz.func56, Tryz.ntmps56
      go_wp2_with fail
      go_ret
      exact ⟨ret_bool (by rw [H.out]; rfl), rfl⟩
    · have db : decide (n ≤ b) = false := by simpa using hb
      rw [da, db] at H
      go_enter Tryz.func56, Tryz.ntmps56
      go_wp2_with fail
      go_ret
      exact ⟨ret_bool (by rw [H.out]; rfl), rfl⟩
  · have da : decide (a ≤ n) = false := by simpa using ha
    rw [da] at H
    go_enter Tryz.func56, Tryz.ntmps56
    go_wp2_with fail
    go_ret
    exact ⟨ret_bool (by rw [H.out]; rfl), rfl⟩
end Go.Proofs.YtncolcjejgmhjaaGreatDoor
namespace Go.Proofs.YtncolcjejgmhjaaGreatDoor
open Go.RowKit
def wcells (ls : List (List UInt8)) : List Value := ls.map fun l => Value.string (str l)
theorem wcells_length (ls : List (List UInt8)) : (wcells ls).length = ls.length := by simp [wcells]
theorem wcells_app (a b : List (List UInt8)) : wcells (a ++ b) = wcells a ++ wcells b := by simp [wcells]
theorem strInfo : (Tryz.prog.info? 9).map (fun i => (i.zero, i.size, i.bytes)) = some (some (.string ⟨#[]⟩), 1, 16) := by kernel_rfl
end Go.Proofs.YtncolcjejgmhjaaGreatDoor
namespace Go.Proofs.YtncolcjejgmhjaaGreatDoor
open Go.RowKit
end Go.Proofs.YtncolcjejgmhjaaGreatDoor
