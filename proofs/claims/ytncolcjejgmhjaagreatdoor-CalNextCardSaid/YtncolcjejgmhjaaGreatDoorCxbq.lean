/- The document's To where there is no such second, part 2. The document's To where there is such a second. The document's  -/
import Derived.Test.YtncolcjejgmhjaaGreatDoorCxar
namespace Go.Proofs.YtncolcjejgmhjaaGreatDoor
open Go.RowKit
set_option maxRecDepth 100000 in
set_option maxHeartbeats 4000000 in
theorem rTo_no5 (y m d hh mi ss wd : Int) (k0 : decide (y < 2000) = false) (k1 : decide (2199 < y) = false) (k2 : decide (m < 1) = false) (k3 : decide (12 < m) = false) (k4 : decide (d < 1) = false) (k5 : decide (dim y m < d) = true) (w : World) :
    Calls Tryz.prog 27 #[.agg #[.int .i64 y, .int .i64 m, .int .i64 d, .int .i64 hh, .int .i64 mi, .int .i64 ss, .int .i64 wd]] w fun e w' => e = .returned (.tuple #[.int .i64 0, .bool false]) ∧ Below w.heap.size w w' := by
    go_enter Tryz.func27, Tryz.ntmps27
    go_wp2_with fail
    go_quiet ((go_at_call 48; exact Calls.quiet_of_same (rDays_q _ _ _)))
    go_wp2_with fail
    go_ret2
    exact ⟨rfl, below_drewN ((Below.refl _ _).alloc (Nat.le_refl _) _) _⟩
set_option maxRecDepth 100000 in
set_option maxHeartbeats 4000000 in
theorem rTo_no6 (y m d hh mi ss wd : Int) (k0 : decide (y < 2000) = false) (k1 : decide (2199 < y) = false) (k2 : decide (m < 1) = false) (k3 : decide (12 < m) = false) (k4 : decide (d < 1) = false) (k5 : decide (dim y m < d) = false) (k6 : decide (hh < 0) = true) (w : World) :
    Calls Tryz.prog 27 #[.agg #[.int .i64 y, .int .i64 m, .int .i64 d, .int .i64 hh, .int .i64 mi, .int .i64 ss, .int .i64 wd]] w fun e w' => e = .returned (.tuple #[.int .i64 0, .bool false]) ∧ Below w.heap.size w w' := by
    go_enter Tryz.func27, Tryz.ntmps27
    go_wp2_with fail
    go_quiet ((go_at_call 48; exact Calls.quiet_of_same (rDays_q _ _ _)))
    go_wp2_with fail
    go_ret2
    exact ⟨rfl, below_drewN ((Below.refl _ _).alloc (Nat.le_refl _) _) _⟩
set_option maxRecDepth 100000 in
set_option maxHeartbeats 4000000 in
theorem rTo_no7 (y m d hh mi ss wd : Int) (k0 : decide (y < 2000) = false) (k1 : decide (2199 < y) = false) (k2 : decide (m < 1) = false) (k3 : decide (12 < m) = false) (k4 : decide (d < 1) = false) (k5 : decide (dim y m < d) = false) (k6 : decide (hh < 0) = false) (k7 : decide (23 < hh) = true) (w : World) :
    Calls Tryz.prog 27 #[.agg #[.int .i64 y, .int .i64 m, .int .i64 d, .int .i64 hh, .int .i64 mi, .int .i64 ss, .int .i64 wd]] w fun e w' => e = .returned (.tuple #[.int .i64 0, .bool false]) ∧ Below w.heap.size w w' := by
    go_enter Tryz.func27, Tryz.ntmps27
    go_wp2_with fail
    go_quiet ((go_at_call 48; exact Calls.quiet_of_same (rDays_q _ _ _)))
    go_wp2_with fail
    go_ret2
    exact ⟨rfl, below_drewN ((Below.refl _ _).alloc (Nat.le_refl _) _) _⟩
set_option maxRecDepth 100000 in
set_option maxHeartbeats 4000000 in
theorem rTo_no8 (y m d hh mi ss wd : Int) (k0 : decide (y < 2000) = false) (k1 : decide (2199 < y) = false) (k2 : decide (m < 1) = false) (k3 : decide (12 < m) = false) (k4 : decide (d < 1) = false) (k5 : decide (dim y m < d) = false) (k6 : decide (hh < 0) = false) (k7 : decide (23 < hh) = false) (k8 : decide (mi < 0) = true) (w : World) :
    Calls Tryz.prog 27 #[.agg #[.int .i64 y, .int .i64 m, .int .i64 d, .int .i64 hh, .int .i64 mi, .int .i64 ss, .int .i64 wd]] w fun e w' => e = .returned (.tuple #[.int .i64 0, .bool false]) ∧ Below w.heap.size w w' := by
    go_enter Tryz.func27, Tryz.ntmps27
    go_wp2_with fail
    go_quiet ((go_at_call 48; exact Calls.quiet_of_same (rDays_q _ _ _)))
    go_wp2_with fail
    go_ret2
    exact ⟨rfl, below_drewN ((Below.refl _ _).alloc (Nat.le_refl _) _) _⟩
end Go.Proofs.YtncolcjejgmhjaaGreatDoor
namespace Go.Proofs.YtncolcjejgmhjaaGreatDoor
open Go.RowKit
set_option maxRecDepth 100000 in
set_option maxHeartbeats 8000000 in
theorem rTo_yes (t y m d hh mi ss wd wd' : Int) (h : IsDate t y m d hh mi ss wd') (w : World) :
    Calls Tryz.prog 27 #[.agg #[.int .i64 y, .int .i64 m, .int .i64 d, .int .i64 hh, .int .i64 mi, .int .i64 ss, .int .i64 wd]] w fun e w' => e = .returned (.tuple #[.int .i64 t, .bool true]) ∧ Below w.heap.size w w' := by
    have te := h.t_eq
    have nb := num_bd h.day
    have g0 := h.h0
    have g1 := h.h1
    have g2 := h.m0
    have g3 := h.m1
    have g4 := h.s0
    have g5 := h.s1
    obtain ⟨y0, y1, m0, m1, d0, d1⟩ := h.day
    clear h
    have hs1 := dim_bd y m m0 m1
    have ys0 : 0 ≤ yst y := by have := yst_le (a := 2000) (b := y) y0; rw [yst_2000] at this; omega
    have ys1 : yst y ≤ 73049 := by have := yst_le (a := y) (b := 2200) (by omega); rw [yst_2200] at this; omega
    have TE : Hid (t = (d - 1 + yst y + mst y m) * 86400 + hh * 3600 + mi * 60 + ss) := by
      show t = _
      rw [te]; unfold num; omega
    have mb := mst_bd y m m0 (by omega)
    clear te nb
    have k0 : decide (y < 2000) = false := decide_eq_false (by omega)
    have k1 : decide (2199 < y) = false := decide_eq_false (by omega)
    have k2 : decide (m < 1) = false := decide_eq_false (by omega)
    have k3 : decide (12 < m) = false := decide_eq_false (by omega)
    have k4 : decide (d < 1) = false := decide_eq_false (by omega)
    have k5 : decide (dim y m < d) = false := decide_eq_false (by omega)
    have k6 : decide (hh < 0) = false := decide_eq_false (by omega)
    have k7 : decide (23 < hh) = false := decide_eq_false (by omega)
    have k8 : decide (mi < 0) = false := decide_eq_false (by omega)
    have k9 : decide (59 < mi) = false := decide_eq_false (by omega)
    have k10 : decide (ss < 0) = false := decide_eq_false (by omega)
    have k11 : decide (59 < ss) = false := decide_eq_false (by omega)
    go_enter Tryz.func27, Tryz.ntmps27
    go_wp2_with fail
    go_quiet ((go_at_call 48; exact Calls.quiet_of_same (rDays_q _ _ _)))
    clear k0 k1 k2 k3 k4 k5 k6 k7 k8 k9 k10 k11
    go_wp2_with fail
    go_loop [4, 5] (fun n i => ∃ k : Int, 2000 ≤ k ∧ k ≤ y ∧ n = .int .i64 (d - 1 + yst k) ∧ i = .int .i64 k) (fun _ i => (y - intOf i).toNat)
    case atStart => exact ⟨2000, by omega, by omega, by rw [yst_2000]; go_num, rfl⟩
    case round =>
      obtain ⟨k, hk0, hk1, rfl, rfl⟩ := hrel
      have hyk := yst_le (a := 2000) (b := k) hk0
      rw [yst_2000] at hyk
      have hyk2 := yst_le (a := k) (b := y) hk1
      by_cases hlt2 : k < y
      · have HS := Lib.hid (yst_succ k)
        rcases hl : leapB k with _ | _
        all_goals
          have hp : lp k = if leapB k = true then 1 else 0 := rfl
          rw [hl] at hp
          simp only [if_true, if_false, Bool.false_eq_true] at hp
          have HP := Lib.hid hp
          have HL := Lib.hid hl
          clear hp hl
          go_wp2_with fail
          refine (rLeap_any k _).mono ?_
          rintro e w3 ⟨rfl, rfl⟩
          rw [HL.out]
          go_wp2_with fail
          go_round
          case rel => exact ⟨k + 1, by omega, by omega, by rw [HS.out, HP.out]; go_num, rfl⟩
          case measure => simp [intOf]; omega
      · obtain rfl : k = y := by omega
        clear hyk hyk2 hk1 hlt2
        go_wp2_with fail
        go_loop [4, 6] (fun n i => ∃ j : Int, 1 ≤ j ∧ j ≤ m ∧ n = .int .i64 (d - 1 + yst k + mst k j) ∧ i = .int .i64 j) (fun _ i => (m - intOf i).toNat)
        case atStart => exact ⟨1, by omega, by omega, by rw [mst_1]; go_num, rfl⟩
        case round =>
          obtain ⟨j, hj0, hj1, rfl, rfl⟩ := hrel
          have hm0 := mst_bd k j hj0 (by omega)
          by_cases hlt2 : j < m
          · have HS := Lib.hid (mst_succ k j hj0 (by omega))
            have hdb := dim_bd k j hj0 (by omega)
            go_wp2_with fail
            refine (rDays_any k j _).mono ?_
            rintro e w3 ⟨rfl, rfl⟩
            go_wp2_with fail
            go_round
            case rel => exact ⟨j + 1, by omega, by omega, by rw [HS.out]; go_num, rfl⟩
            case measure => simp [intOf]; omega
          · obtain rfl : j = m := by omega
            go_wp2_with fail
            go_ret2
            exact ⟨congrArg (fun x => Ending.returned (.tuple #[.int .i64 x, .bool true])) TE.out.symm, below_drewN ((Below.refl _ _).alloc (Nat.le_refl _) _) _⟩
end Go.Proofs.YtncolcjejgmhjaaGreatDoor
namespace Go.Proofs.YtncolcjejgmhjaaGreatDoor
open Go.RowKit
theorem rTo_no (y m d hh mi ss wd : Int) (h : toOk y m d hh mi ss = false) (w : World) :
    Calls Tryz.prog 27 #[.agg #[.int .i64 y, .int .i64 m, .int .i64 d, .int .i64 hh, .int .i64 mi, .int .i64 ss, .int .i64 wd]] w fun e w' => e = .returned (.tuple #[.int .i64 0, .bool false]) ∧ Below w.heap.size w w' := by
  have h := toOk_no h
  by_cases c0 : y < 2000
  · exact rTo_no0 y m d hh mi ss wd  (decide_eq_true c0) w
  by_cases c1 : 2199 < y
  · exact rTo_no1 y m d hh mi ss wd (decide_eq_false c0) (decide_eq_true c1) w
  by_cases c2 : m < 1
  · exact rTo_no2 y m d hh mi ss wd (decide_eq_false c0) (decide_eq_false c1) (decide_eq_true c2) w
  by_cases c3 : 12 < m
  · exact rTo_no3 y m d hh mi ss wd (decide_eq_false c0) (decide_eq_false c1) (decide_eq_false c2) (decide_eq_true c3) w
  by_cases c4 : d < 1
  · exact rTo_no4 y m d hh mi ss wd (decide_eq_false c0) (decide_eq_false c1) (decide_eq_false c2) (decide_eq_false c3) (decide_eq_true c4) w
  by_cases c5 : dim y m < d
  · exact rTo_no5 y m d hh mi ss wd (decide_eq_false c0) (decide_eq_false c1) (decide_eq_false c2) (decide_eq_false c3) (decide_eq_false c4) (decide_eq_true c5) w
  by_cases c6 : hh < 0
  · exact rTo_no6 y m d hh mi ss wd (decide_eq_false c0) (decide_eq_false c1) (decide_eq_false c2) (decide_eq_false c3) (decide_eq_false c4) (decide_eq_false c5) (decide_eq_true c6) w
  by_cases c7 : 23 < hh
  · exact rTo_no7 y m d hh mi ss wd (decide_eq_false c0) (decide_eq_false c1) (decide_eq_false c2) (decide_eq_false c3) (decide_eq_false c4) (decide_eq_false c5) (decide_eq_false c6) (decide_eq_true c7) w
  by_cases c8 : mi < 0
  · exact rTo_no8 y m d hh mi ss wd (decide_eq_false c0) (decide_eq_false c1) (decide_eq_false c2) (decide_eq_false c3) (decide_eq_false c4) (decide_eq_false c5) (decide_eq_false c6) (decide_eq_false c7) (decide_eq_true c8) w
  by_cases c9 : 59 < mi
  · exact rTo_no9 y m d hh mi ss wd (decide_eq_false c0) (decide_eq_false c1) (decide_eq_false c2) (decide_eq_false c3) (decide_eq_false c4) (decide_eq_false c5) (decide_eq_false c6) (decide_eq_false c7) (decide_eq_false c8) (decide_eq_true c9) w
  by_cases c10 : ss < 0
  · exact rTo_no10 y m d hh mi ss wd (decide_eq_false c0) (decide_eq_false c1) (decide_eq_false c2) (decide_eq_false c3) (decide_eq_false c4) (decide_eq_false c5) (decide_eq_false c6) (decide_eq_false c7) (decide_eq_false c8) (decide_eq_false c9) (decide_eq_true c10) w
  by_cases c11 : 59 < ss
  · exact rTo_no11 y m d hh mi ss wd (decide_eq_false c0) (decide_eq_false c1) (decide_eq_false c2) (decide_eq_false c3) (decide_eq_false c4) (decide_eq_false c5) (decide_eq_false c6) (decide_eq_false c7) (decide_eq_false c8) (decide_eq_false c9) (decide_eq_false c10) (decide_eq_true c11) w
  exfalso
  omega
theorem rTo_any (y m d hh mi ss wd : Int) (w : World) :
    Calls Tryz.prog 27 #[.agg #[.int .i64 y, .int .i64 m, .int .i64 d, .int .i64 hh, .int .i64 mi, .int .i64 ss, .int .i64 wd]] w fun e w' => e = .returned (.tuple #[.int .i64 (toN y m d hh mi ss), .bool (toOk y m d hh mi ss)]) ∧ Below w.heap.size w w' := by
  rcases h : toOk y m d hh mi ss with _ | _
  · rw [to_no h]; exact rTo_no y m d hh mi ss wd h w
  · exact rTo_yes _ y m d hh mi ss wd _ (to_date h) w
end Go.Proofs.YtncolcjejgmhjaaGreatDoor
