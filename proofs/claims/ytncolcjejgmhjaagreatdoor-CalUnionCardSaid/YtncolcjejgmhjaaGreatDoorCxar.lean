/- The walk of To. The walks of the laws' own shown; of CivilYear. Words for the document's To. The document's To where the -/
import Derived.Test.YtncolcjejgmhjaaGreatDoorCxaf
import Derived.Test.YtncolcjejgmhjaaGreatDoorCxaq
namespace Go.Proofs.YtncolcjejgmhjaaGreatDoor
open Go.RowKit
theorem cells7 {w : World} {g : Nat} {t : TypeId} {a b c d e f h : Value} (H : Blk w g t #[a, b, c, d, e, f, h]) :
    w.cell? ⟨g, 0, none⟩ = some a ∧ w.cell? ⟨g, 1, none⟩ = some b ∧ w.cell? ⟨g, 2, none⟩ = some c ∧ w.cell? ⟨g, 3, none⟩ = some d ∧ w.cell? ⟨g, 4, none⟩ = some e ∧ w.cell? ⟨g, 5, none⟩ = some f ∧ w.cell? ⟨g, 6, none⟩ = some h :=
  ⟨H.cell 0, H.cell 1, H.cell 2, H.cell 3, H.cell 4, H.cell 5, H.cell 6⟩
set_option maxHeartbeats 4000000 in
theorem To_no (y m d hh mi ss wd : Int) (h : toOk y m d hh mi ss = false) (w : World) :
    Calls Tryz.prog 19 #[.agg #[.int .i64 y, .int .i64 m, .int .i64 d, .int .i64 hh, .int .i64 mi, .int .i64 ss, .int .i64 wd]] w fun e w' => e = .returned (.tuple #[.int .i64 0, .bool false]) ∧ Below w.heap.size w w' := by
  rcases h1 : isDayB y m d with _ | _
  · have H1 := Lib.hid h1
    clear h h1

    go_enter Tryz.func19, Tryz.ntmps19
    go_wp2_with fail
    refine (hasDay_any y m d hh mi ss wd _).mono ?_
    rintro e w1 ⟨rfl, hb1⟩
    rw [H1.out]
    have B1 : Hid (Blk w1 w.heap.size 39 #[.int .i64 y, .int .i64 m, .int .i64 d, .int .i64 hh, .int .i64 mi, .int .i64 ss, .int .i64 wd]) := (Blk.new w _ _).below hb1 (by simp)
    have Hb1 := Lib.hid (more3 ((Below.refl w.heap.size w).alloc (Nat.le_refl _) _) (by simp) hb1)
    clear hb1
    obtain ⟨c0, c1, c2, c3, c4, c5, c6⟩ := cells7 B1.out
    go_wp2_with fail
    go_ret2
    exact ⟨rfl, Hb1.out⟩
  · have h2 : isClB hh mi ss = false := by unfold toOk at h; rw [h1] at h; simpa using h
    have H1 := Lib.hid h1
    have H2 := Lib.hid h2
    clear h h1 h2

    go_enter Tryz.func19, Tryz.ntmps19
    go_wp2_with fail
    refine (hasDay_any y m d hh mi ss wd _).mono ?_
    rintro e w1 ⟨rfl, hb1⟩
    rw [H1.out]
    have B1 : Hid (Blk w1 w.heap.size 39 #[.int .i64 y, .int .i64 m, .int .i64 d, .int .i64 hh, .int .i64 mi, .int .i64 ss, .int .i64 wd]) := (Blk.new w _ _).below hb1 (by simp)
    have Hb1 := Lib.hid (more3 ((Below.refl w.heap.size w).alloc (Nat.le_refl _) _) (by simp) hb1)
    clear hb1
    obtain ⟨c0, c1, c2, c3, c4, c5, c6⟩ := cells7 B1.out
    go_wp2_with fail
    refine (hasClock_any y m d hh mi ss wd _).mono ?_
    rintro e w2 ⟨rfl, hb2⟩
    rw [H2.out]
    have B2 : Hid (Blk w2 w.heap.size 39 #[.int .i64 y, .int .i64 m, .int .i64 d, .int .i64 hh, .int .i64 mi, .int .i64 ss, .int .i64 wd]) := B1.out.below hb2 B1.out.lt
    have Hb2 := Lib.hid (more3 Hb1.out Hb1.out.size hb2)
    clear hb2 c0 c1 c2 c3 c4 c5 c6
    obtain ⟨c0, c1, c2, c3, c4, c5, c6⟩ := cells7 B2.out
    go_wp2_with fail
    go_ret2
    exact ⟨rfl, Hb2.out⟩
set_option maxHeartbeats 4000000 in
theorem To_yes (t y m d hh mi ss wd wd' : Int) (h : IsDate t y m d hh mi ss wd') (w : World) :
    Calls Tryz.prog 19 #[.agg #[.int .i64 y, .int .i64 m, .int .i64 d, .int .i64 hh, .int .i64 mi, .int .i64 ss, .int .i64 wd]] w fun e w' => e = .returned (.tuple #[.int .i64 t, .bool true]) ∧ Below w.heap.size w w' := by
  · have H1 := Lib.hid ((isDayB_iff y m d).2 h.day)
    have H2 := Lib.hid ((isClB_iff hh mi ss).2 ⟨h.h0, h.h1, h.m0, h.m1, h.s0, h.s1⟩)
    have te := h.t_eq
    have nb := num_bd h.day
    have g0 := h.h0
    have g1 := h.h1
    have g2 := h.m0
    have g3 := h.m1
    have g4 := h.s0
    have g5 := h.s1
    obtain ⟨y0, y1, m0, m1, d0, d1⟩ := h.day
    clear h
    have hs1 := dim_bd y m m0 m1
    have ys0 : 0 ≤ yst y := by have := yst_le (a := 2000) (b := y) y0; rw [yst_2000] at this; omega
    have ys1 : yst y ≤ 73049 := by have := yst_le (a := y) (b := 2200) (by omega); rw [yst_2200] at this; omega
    have TE : Hid (t = (yst y + d - 1 + mst y m) * 86400 + hh * 3600 + mi * 60 + ss) := by
      show t = _
      rw [te]; unfold num; omega
    have mb := mst_bd y m m0 (by omega)
    clear te nb

    go_enter Tryz.func19, Tryz.ntmps19
    go_wp2_with fail
    refine (hasDay_any y m d hh mi ss wd _).mono ?_
    rintro e w1 ⟨rfl, hb1⟩
    rw [H1.out]
    have B1 : Hid (Blk w1 w.heap.size 39 #[.int .i64 y, .int .i64 m, .int .i64 d, .int .i64 hh, .int .i64 mi, .int .i64 ss, .int .i64 wd]) := (Blk.new w _ _).below hb1 (by simp)
    have Hb1 := Lib.hid (more3 ((Below.refl w.heap.size w).alloc (Nat.le_refl _) _) (by simp) hb1)
    clear hb1
    obtain ⟨c0, c1, c2, c3, c4, c5, c6⟩ := cells7 B1.out
    go_wp2_with fail
    refine (hasClock_any y m d hh mi ss wd _).mono ?_
    rintro e w2 ⟨rfl, hb2⟩
    rw [H2.out]
    have B2 : Hid (Blk w2 w.heap.size 39 #[.int .i64 y, .int .i64 m, .int .i64 d, .int .i64 hh, .int .i64 mi, .int .i64 ss, .int .i64 wd]) := B1.out.below hb2 B1.out.lt
    have Hb2 := Lib.hid (more3 Hb1.out Hb1.out.size hb2)
    clear hb2 c0 c1 c2 c3 c4 c5 c6
    obtain ⟨c0, c1, c2, c3, c4, c5, c6⟩ := cells7 B2.out
    go_wp2_with fail
    go_quiet ((first | (go_at_call 41; exact Calls.quiet_of_same (daysBefore_q _ (by omega) (by omega) _))))
    go_wp2_with fail
    go_loop [4, 5] (fun n i => ∃ k : Int, 1 ≤ k ∧ k ≤ m ∧ n = .int .i64 (yst y + d - 1 + mst y k) ∧ i = .int .i64 k) (fun _ i => (m - intOf i).toNat)
    case atStart => exact ⟨1, by omega, by omega, by rw [mst_1]; go_num, rfl⟩
    case round =>
      obtain ⟨k, hk0, hk1, rfl, rfl⟩ := hrel
      have hm0 := mst_bd y k hk0 (by omega)
      by_cases hlt2 : k < m
      · have HS := Lib.hid (mst_succ y k hk0 (by omega))
        have hdb := dim_bd y k hk0 (by omega)
        go_wp2_with fail
        refine (Days_any y k _).mono ?_
        rintro e w3 ⟨rfl, rfl⟩
        go_wp2_with fail
        go_round
        case rel => exact ⟨k + 1, by omega, by omega, by rw [HS.out]; go_num, rfl⟩
        case measure => simp [intOf]; omega
      · obtain rfl : k = m := by omega
        go_wp2_with fail
        go_ret2
        exact ⟨congrArg (fun x => Ending.returned (.tuple #[.int .i64 x, .bool true])) TE.out.symm, below_drewN Hb2.out _⟩
theorem To_any (y m d hh mi ss wd : Int) (w : World) :
    Calls Tryz.prog 19 #[.agg #[.int .i64 y, .int .i64 m, .int .i64 d, .int .i64 hh, .int .i64 mi, .int .i64 ss, .int .i64 wd]] w fun e w' => e = .returned (.tuple #[.int .i64 (toN y m d hh mi ss), .bool (toOk y m d hh mi ss)]) ∧ Below w.heap.size w w' := by
  rcases h : toOk y m d hh mi ss with _ | _
  · rw [to_no h]; exact To_no y m d hh mi ss wd h w
  · exact To_yes _ y m d hh mi ss wd _ (to_date h) w
end Go.Proofs.YtncolcjejgmhjaaGreatDoor
namespace Go.Proofs.YtncolcjejgmhjaaGreatDoor
open Go.RowKit
end Go.Proofs.YtncolcjejgmhjaaGreatDoor
namespace Go.Proofs.YtncolcjejgmhjaaGreatDoor
open Go.RowKit
theorem rDays_q (y m : Int) (w : World) :
    Calls Tryz.prog 48 #[.int .i64 y, .int .i64 m] w fun e w' => e = .returned (.int .i64 (dim y m)) ∧ w' = w := quiet_l (rDays_any y m w)
theorem toOk_no {y m d hh mi ss : Int} (h : toOk y m d hh mi ss = false) : y < 2000 ∨ 2199 < y ∨ m < 1 ∨ 12 < m ∨ d < 1 ∨ dim y m < d ∨ hh < 0 ∨ 23 < hh ∨ mi < 0 ∨ 59 < mi ∨ ss < 0 ∨ 59 < ss := by
  by_cases h1 : y < 2000 ∨ 2199 < y ∨ m < 1 ∨ 12 < m ∨ d < 1 ∨ dim y m < d ∨ hh < 0 ∨ 23 < hh ∨ mi < 0 ∨ 59 < mi ∨ ss < 0 ∨ 59 < ss
  · exact h1
  · exfalso
    have : toOk y m d hh mi ss = true := by
      unfold toOk isDayB isClB
      simp
      omega
    rw [h] at this; cases this
end Go.Proofs.YtncolcjejgmhjaaGreatDoor
namespace Go.Proofs.YtncolcjejgmhjaaGreatDoor
open Go.RowKit
set_option maxRecDepth 100000 in
set_option maxHeartbeats 4000000 in
theorem rTo_no0 (y m d hh mi ss wd : Int)  (k0 : decide (y < 2000) = true) (w : World) :
    Calls Tryz.prog 27 #[.agg #[.int .i64 y, .int .i64 m, .int .i64 d, .int .i64 hh, .int .i64 mi, .int .i64 ss, .int .i64 wd]] w fun e w' => e = .returned (.tuple #[.int .i64 0, .bool false]) ∧ Below w.heap.size w w' := by
    go_enter Tryz.func27, Tryz.ntmps27
    go_wp2_with fail
    go_quiet ((go_at_call 48; exact Calls.quiet_of_same (rDays_q _ _ _)))
    go_wp2_with fail
    go_ret2
    exact ⟨rfl, below_drewN ((Below.refl _ _).alloc (Nat.le_refl _) _) _⟩
set_option maxRecDepth 100000 in
set_option maxHeartbeats 4000000 in
theorem rTo_no1 (y m d hh mi ss wd : Int) (k0 : decide (y < 2000) = false) (k1 : decide (2199 < y) = true) (w : World) :
    Calls Tryz.prog 27 #[.agg #[.int .i64 y, .int .i64 m, .int .i64 d, .int .i64 hh, .int .i64 mi, .int .i64 ss, .int .i64 wd]] w fun e w' => e = .returned (.tuple #[.int .i64 0, .bool false]) ∧ Below w.heap.size w w' := by
    go_enter Tryz.func27, Tryz.ntmps27
    go_wp2_with fail
    go_quiet ((go_at_call 48; exact Calls.quiet_of_same (rDays_q _ _ _)))
    go_wp2_with fail
    go_ret2
    exact ⟨rfl, below_drewN ((Below.refl _ _).alloc (Nat.le_refl _) _) _⟩
set_option maxRecDepth 100000 in
set_option maxHeartbeats 4000000 in
theorem rTo_no2 (y m d hh mi ss wd : Int) (k0 : decide (y < 2000) = false) (k1 : decide (2199 < y) = false) (k2 : decide (m < 1) = true) (w : World) :
    Calls Tryz.prog 27 #[.agg #[.int .i64 y, .int .i64 m, .int .i64 d, .int .i64 hh, .int .i64 mi, .int .i64 ss, .int .i64 wd]] w fun e w' => e = .returned (.tuple #[.int .i64 0, .bool false]) ∧ Below w.heap.size w w' := by
    go_enter Tryz.func27, Tryz.ntmps27
    go_wp2_with fail
    go_quiet ((go_at_call 48; exact Calls.quiet_of_same (rDays_q _ _ _)))
    go_wp2_with fail
    go_ret2
    exact ⟨rfl, below_drewN ((Below.refl _ _).alloc (Nat.le_refl _) _) _⟩
set_option maxRecDepth 100000 in
set_option maxHeartbeats 4000000 in
theorem rTo_no3 (y m d hh mi ss wd : Int) (k0 : decide (y < 2000) = false) (k1 : decide (2199 < y) = false) (k2 : decide (m < 1) = false) (k3 : decide (12 < m) = true) (w : World) :
    Calls Tryz.prog 27 #[.agg #[.int .i64 y, .int .i64 m, .int .i64 d, .int .i64 hh, .int .i64 mi, .int .i64 ss, .int .i64 wd]] w fun e w' => e = .returned (.tuple #[.int .i64 0, .bool false]) ∧ Below w.heap.size w w' := by
    go_enter Tryz.func27, Tryz.ntmps27
    go_wp2_with fail
    go_quiet ((go_at_call 48; exact Calls.quiet_of_same (rDays_q _ _ _)))
    go_wp2_with fail
    go_ret2
    exact ⟨rfl, below_drewN ((Below.refl _ _).alloc (Nat.le_refl _) _) _⟩
set_option maxRecDepth 100000 in
set_option maxHeartbeats 4000000 in
theorem rTo_no4 (y m d hh mi ss wd : Int) (k0 : decide (y < 2000) = false) (k1 : decide (2199 < y) = false) (k2 : decide (m < 1) = false) (k3 : decide (12 < m) = false) (k4 : decide (d < 1) = true) (w : World) :
    Calls Tryz.prog 27 #[.agg #[.int .i64 y, .int .i64 m, .int .i64 d, .int .i64 hh, .int .i64 mi, .int .i64 ss, .int .i64 wd]] w fun e w' => e = .returned (.tuple #[.int .i64 0, .bool false]) ∧ Below w.heap.size w w' := by
    go_enter Tryz.func27, Tryz.ntmps27
    go_wp2_with fail
    go_quiet ((go_at_call 48; exact Calls.quiet_of_same (rDays_q _ _ _)))
    go_wp2_with fail
    go_ret2
    exact ⟨rfl, below_drewN ((Below.refl _ _).alloc (Nat.le_refl _) _) _⟩
end Go.Proofs.YtncolcjejgmhjaaGreatDoor
namespace Go.Proofs.YtncolcjejgmhjaaGreatDoor
open Go.RowKit
set_option maxRecDepth 100000 in
set_option maxHeartbeats 4000000 in
theorem rTo_no9 (y m d hh mi ss wd : Int) (k0 : decide (y < 2000) = false) (k1 : decide (2199 < y) = false) (k2 : decide (m < 1) = false) (k3 : decide (12 < m) = false) (k4 : decide (d < 1) = false) (k5 : decide (dim y m < d) = false) (k6 : decide (hh < 0) = false) (k7 : decide (23 < hh) = false) (k8 : decide (mi < 0) = false) (k9 : decide (59 < mi) = true) (w : World) :
    Calls Tryz.prog 27 #[.agg #[.int .i64 y, .int .i64 m, .int .i64 d, .int .i64 hh, .int .i64 mi, .int .i64 ss, .int .i64 wd]] w fun e w' => e = .returned (.tuple #[.int .i64 0, .bool false]) ∧ Below w.heap.size w w' := by
    go_enter Tryz.func27, Tryz.ntmps27
    go_wp2_with fail
    go_quiet ((go_at_call 48; exact Calls.quiet_of_same (rDays_q _ _ _)))
    go_wp2_with fail
    go_ret2
    exact ⟨rfl, below_drewN ((Below.refl _ _).alloc (Nat.le_refl _) _) _⟩
set_option maxRecDepth 100000 in
set_option maxHeartbeats 4000000 in
theorem rTo_no10 (y m d hh mi ss wd : Int) (k0 : decide (y < 2000) = false) (k1 : decide (2199 < y) = false) (k2 : decide (m < 1) = false) (k3 : decide (12 < m) = false) (k4 : decide (d < 1) = false) (k5 : decide (dim y m < d) = false) (k6 : decide (hh < 0) = false) (k7 : decide (23 < hh) = false) (k8 : decide (mi < 0) = false) (k9 : decide (59 < mi) = false) (k10 : decide (ss < 0) = true) (w : World) :
    Calls Tryz.prog 27 #[.agg #[.int .i64 y, .int .i64 m, .int .i64 d, .int .i64 hh, .int .i64 mi, .int .i64 ss, .int .i64 wd]] w fun e w' => e = .returned (.tuple #[.int .i64 0, .bool false]) ∧ Below w.heap.size w w' := by
    go_enter Tryz.func27, Tryz.ntmps27
    go_wp2_with fail
    go_quiet ((go_at_call 48; exact Calls.quiet_of_same (rDays_q _ _ _)))
    go_wp2_with fail
    go_ret2
    exact ⟨rfl, below_drewN ((Below.refl _ _).alloc (Nat.le_refl _) _) _⟩
set_option maxRecDepth 100000 in
set_option maxHeartbeats 4000000 in
theorem rTo_no11 (y m d hh mi ss wd : Int) (k0 : decide (y < 2000) = false) (k1 : decide (2199 < y) = false) (k2 : decide (m < 1) = false) (k3 : decide (12 < m) = false) (k4 : decide (d < 1) = false) (k5 : decide (dim y m < d) = false) (k6 : decide (hh < 0) = false) (k7 : decide (23 < hh) = false) (k8 : decide (mi < 0) = false) (k9 : decide (59 < mi) = false) (k10 : decide (ss < 0) = false) (k11 : decide (59 < ss) = true) (w : World) :
    Calls Tryz.prog 27 #[.agg #[.int .i64 y, .int .i64 m, .int .i64 d, .int .i64 hh, .int .i64 mi, .int .i64 ss, .int .i64 wd]] w fun e w' => e = .returned (.tuple #[.int .i64 0, .bool false]) ∧ Below w.heap.size w w' := by
    go_enter Tryz.func27, Tryz.ntmps27
    go_wp2_with fail
    go_quiet ((go_at_call 48; exact Calls.quiet_of_same (rDays_q _ _ _)))
    go_wp2_with fail
    go_ret2
    exact ⟨rfl, below_drewN ((Below.refl _ _).alloc (Nat.le_refl _) _) _⟩
end Go.Proofs.YtncolcjejgmhjaaGreatDoor
