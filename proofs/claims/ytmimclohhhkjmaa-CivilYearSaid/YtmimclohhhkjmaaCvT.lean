/- The walks of CivilAll, CivilTurn, CivilDays, CivilYear. -/
import Derived.Test.YtmimclohhhkjmaaCvS
import Derived.Test.YtmimclohhhkjmaaCvF
import Derived.Test.YtmimclohhhkjmaaCvG
namespace Go.Proofs.Ytmimclohhhkjmaa
open Go.RowKit

theorem isT_not {t : Int} (h : isT t = false) : t < 0 ∨ (0 ≤ t ∧ 6311433600 ≤ t) := by
  have : ¬ isT t = true := by rw [h]; simp
  rw [isT_iff] at this; omega
theorem mst_0 (y : Int) : mst y 0 = 0 := by simp [mst]
theorem mst_14 (y : Int) : mst y 14 = mst y 13 := by simp [mst]
theorem mst_step (y m : Int) (h0 : 0 ≤ m) (h1 : m ≤ 13) : mst y (m + 1) = mst y m + dim y m := by
  by_cases e0 : m = 0
  · subst e0; rw [show (0 : Int) + 1 = 1 from rfl, mst_1, mst_0, dim_none y 0 (by omega)]; rfl
  · by_cases e1 : m = 13
    · subst e1; rw [show (13 : Int) + 1 = 14 from rfl, mst_14, dim_none y 13 (by omega)]; omega
    · exact mst_succ y m (by omega) (by omega)
theorem mst_bd0 (y m : Int) (h0 : 0 ≤ m) (h1 : m ≤ 14) : 0 ≤ mst y m ∧ mst y m ≤ 366 := by
  by_cases e0 : m = 0
  · subst e0; rw [mst_0]; omega
  · by_cases e1 : m = 14
    · subst e1; rw [mst_14]; exact mst_bd y 13 (by omega) (by omega)
    · exact mst_bd y m (by omega) (by omega)
theorem dim_bd0 (y m : Int) : 0 ≤ dim y m ∧ dim y m ≤ 31 := by
  by_cases h : 1 ≤ m ∧ m ≤ 12
  · have := dim_bd y m h.1 h.2; omega
  · rw [dim_none y m (by omega)]; omega

set_option maxHeartbeats 8000000 in
theorem CivilAll_walk (t y m d hh mi ss wd yr mo : Int) (w : World) :
    Calls Try.prog 3 #[.int .i64 t, .agg #[.int .i64 y, .int .i64 m, .int .i64 d, .int .i64 hh, .int .i64 mi, .int .i64 ss, .int .i64 wd], .int .i64 yr, .int .i64 mo] w fun e w' => e = .returned (.bool true) ∧ Below w.heap.size w w' := by
  go_enter Try.func3, Try.ntmps3
  go_wp2_with fail
  refine (shown_any _).mono ?_
  rintro e w1 ⟨rfl, hb1⟩
  have P1 : Hid (Blk w1 (w.heap.size) 23 #[.int .i64 y, .int .i64 m, .int .i64 d, .int .i64 hh, .int .i64 mi, .int .i64 ss, .int .i64 wd]) := (Blk.new w _ _).below hb1 (by simp)
  have HB1 := Lib.hid (more ((Below.refl w.heap.size w).alloc (Nat.le_refl _) _) (by simp) hb1)
  clear hb1
  obtain ⟨Pc0, Pc1, Pc2, Pc3, Pc4, Pc5, Pc6⟩ := cells7 P1.out
  have Pz := P1.out.lt
  have Pf := P1.out.frozen 6
  go_wp2_with fail
  refine (Of_any t _).mono ?_
  rintro e w2 ⟨rfl, hb2⟩
  have P2 : Hid (Blk w2 (w.heap.size) 23 #[.int .i64 y, .int .i64 m, .int .i64 d, .int .i64 hh, .int .i64 mi, .int .i64 ss, .int .i64 wd]) := (P1.out).below hb2 (P1.out).lt
  have HB2 := Lib.hid (more HB1.out HB1.out.size hb2)
  clear hb2 Pc0 Pc1 Pc2 Pc3 Pc4 Pc5 Pc6 Pz Pf
  obtain ⟨Pc0, Pc1, Pc2, Pc3, Pc4, Pc5, Pc6⟩ := cells7 P2.out
  have Pz := P2.out.lt
  have Pf := P2.out.frozen 6
  go_wp2_with fail
  refine (rOf_any t _).mono ?_
  rintro e w3 ⟨rfl, hb3⟩
  have P3 : Hid (Blk w3 (w.heap.size) 23 #[.int .i64 y, .int .i64 m, .int .i64 d, .int .i64 hh, .int .i64 mi, .int .i64 ss, .int .i64 wd]) := (P2.out.alloc _).below hb3 (P2.out.alloc _).lt
  have A3 : Hid (Blk w3 (w2.heap.size) 23 #[.int .i64 (fY t), .int .i64 (fM t), .int .i64 (fD t), .int .i64 (fH t), .int .i64 (fI t), .int .i64 (fS t), .int .i64 (fW t)]) := (Blk.new w2 _ _).below hb3 (by simp)
  have HB3 := Lib.hid (more (HB2.out.alloc HB2.out.size _) (by have := HB2.out.size; simp; omega) hb3)
  clear hb3 Pc0 Pc1 Pc2 Pc3 Pc4 Pc5 Pc6 Pz Pf
  obtain ⟨Pc0, Pc1, Pc2, Pc3, Pc4, Pc5, Pc6⟩ := cells7 P3.out
  have Pz := P3.out.lt
  have Pf := P3.out.frozen 6
  obtain ⟨Ac0, Ac1, Ac2, Ac3, Ac4, Ac5, Ac6⟩ := cells7 A3.out
  have Az := A3.out.lt
  have Af := A3.out.frozen 6
  go_wp2_with fail
  refine (To_any y m d hh mi ss wd _).mono ?_
  rintro e w4 ⟨rfl, hb4⟩
  have P4 : Hid (Blk w4 (w.heap.size) 23 #[.int .i64 y, .int .i64 m, .int .i64 d, .int .i64 hh, .int .i64 mi, .int .i64 ss, .int .i64 wd]) := (P3.out.alloc _).below hb4 (P3.out.alloc _).lt
  have A4 : Hid (Blk w4 (w2.heap.size) 23 #[.int .i64 (fY t), .int .i64 (fM t), .int .i64 (fD t), .int .i64 (fH t), .int .i64 (fI t), .int .i64 (fS t), .int .i64 (fW t)]) := (A3.out.alloc _).below hb4 (A3.out.alloc _).lt
  have R4 : Hid (Blk w4 (w3.heap.size) 23 #[.int .i64 (fY t), .int .i64 (fM t), .int .i64 (fD t), .int .i64 (fH t), .int .i64 (fI t), .int .i64 (fS t), .int .i64 (fW t)]) := (Blk.new w3 _ _).below hb4 (by simp)
  have HB4 := Lib.hid (more (HB3.out.alloc HB3.out.size _) (by have := HB3.out.size; simp; omega) hb4)
  clear hb4 Pc0 Pc1 Pc2 Pc3 Pc4 Pc5 Pc6 Pz Pf Ac0 Ac1 Ac2 Ac3 Ac4 Ac5 Ac6 Az Af
  obtain ⟨Pc0, Pc1, Pc2, Pc3, Pc4, Pc5, Pc6⟩ := cells7 P4.out
  have Pz := P4.out.lt
  have Pf := P4.out.frozen 6
  obtain ⟨Ac0, Ac1, Ac2, Ac3, Ac4, Ac5, Ac6⟩ := cells7 A4.out
  have Az := A4.out.lt
  have Af := A4.out.frozen 6
  obtain ⟨Rc0, Rc1, Rc2, Rc3, Rc4, Rc5, Rc6⟩ := cells7 R4.out
  have Rz := R4.out.lt
  have Rf := R4.out.frozen 6
  go_wp2_with fail
  refine (rTo_any y m d hh mi ss wd _).mono ?_
  rintro e w5 ⟨rfl, hb5⟩
  have P5 : Hid (Blk w5 (w.heap.size) 23 #[.int .i64 y, .int .i64 m, .int .i64 d, .int .i64 hh, .int .i64 mi, .int .i64 ss, .int .i64 wd]) := (P4.out).below hb5 (P4.out).lt
  have A5 : Hid (Blk w5 (w2.heap.size) 23 #[.int .i64 (fY t), .int .i64 (fM t), .int .i64 (fD t), .int .i64 (fH t), .int .i64 (fI t), .int .i64 (fS t), .int .i64 (fW t)]) := (A4.out).below hb5 (A4.out).lt
  have R5 : Hid (Blk w5 (w3.heap.size) 23 #[.int .i64 (fY t), .int .i64 (fM t), .int .i64 (fD t), .int .i64 (fH t), .int .i64 (fI t), .int .i64 (fS t), .int .i64 (fW t)]) := (R4.out).below hb5 (R4.out).lt
  have HB5 := Lib.hid (more HB4.out HB4.out.size hb5)
  clear hb5 Pc0 Pc1 Pc2 Pc3 Pc4 Pc5 Pc6 Pz Pf Ac0 Ac1 Ac2 Ac3 Ac4 Ac5 Ac6 Az Af Rc0 Rc1 Rc2 Rc3 Rc4 Rc5 Rc6 Rz Rf
  obtain ⟨Pc0, Pc1, Pc2, Pc3, Pc4, Pc5, Pc6⟩ := cells7 P5.out
  have Pz := P5.out.lt
  have Pf := P5.out.frozen 6
  obtain ⟨Ac0, Ac1, Ac2, Ac3, Ac4, Ac5, Ac6⟩ := cells7 A5.out
  have Az := A5.out.lt
  have Af := A5.out.frozen 6
  obtain ⟨Rc0, Rc1, Rc2, Rc3, Rc4, Rc5, Rc6⟩ := cells7 R5.out
  have Rz := R5.out.lt
  have Rf := R5.out.frozen 6
  go_wp2_with fail
  refine (Leap_any yr _).mono ?_
  rintro e w' ⟨rfl, rfl⟩
  go_wp2_with fail
  refine (rLeap_any yr _).mono ?_
  rintro e w' ⟨rfl, rfl⟩
  go_wp2_with fail
  refine (Days_any yr mo _).mono ?_
  rintro e w' ⟨rfl, rfl⟩
  go_wp2_with fail
  refine (rDays_any yr mo _).mono ?_
  rintro e w' ⟨rfl, rfl⟩
  go_wp2_with fail
  go_ret
  exact ⟨rfl, HB5.out⟩

set_option maxHeartbeats 8000000 in
theorem CivilTurn_ty (t y m d hh mi ss wd : Int) (ht : isT t = true) (hk : toOk y m d hh mi ss = true) (w : World) :
    Calls Try.prog 4 #[.int .i64 t, .agg #[.int .i64 y, .int .i64 m, .int .i64 d, .int .i64 hh, .int .i64 mi, .int .i64 ss, .int .i64 wd]] w fun e w' => e = .returned (.bool true) ∧ Below w.heap.size w w' := by
  have HT := Lib.hid ht
  have OK := Lib.hid hk
  have TU := Lib.hid (And.comm.1 (to_of (date_of ht)))
  obtain ⟨ht0, ht1⟩ := (isT_iff t).1 ht
  have E := Lib.hid (date_eq (to_date hk))
  clear ht hk
  go_enter Try.func4, Try.ntmps4
  go_wp2_with fail
  refine (shown_any _).mono ?_
  rintro e w1 ⟨rfl, hb1⟩
  have P1 : Hid (Blk w1 (w.heap.size) 23 #[.int .i64 y, .int .i64 m, .int .i64 d, .int .i64 hh, .int .i64 mi, .int .i64 ss, .int .i64 wd]) := (Blk.new w _ _).below hb1 (by simp)
  have HB1 := Lib.hid (more ((Below.refl w.heap.size w).alloc (Nat.le_refl _) _) (by simp) hb1)
  clear hb1
  obtain ⟨Pc0, Pc1, Pc2, Pc3, Pc4, Pc5, Pc6⟩ := cells7 P1.out
  have Pz := P1.out.lt
  have Pf := P1.out.frozen 6
  go_wp2_with fail
  refine (Of_any t _).mono ?_
  rintro e w2 ⟨rfl, hb2⟩
  rw [HT.out]
  have P2 : Hid (Blk w2 (w.heap.size) 23 #[.int .i64 y, .int .i64 m, .int .i64 d, .int .i64 hh, .int .i64 mi, .int .i64 ss, .int .i64 wd]) := (P1.out).below hb2 (P1.out).lt
  have HB2 := Lib.hid (more HB1.out HB1.out.size hb2)
  clear hb2 Pc0 Pc1 Pc2 Pc3 Pc4 Pc5 Pc6 Pz Pf
  obtain ⟨Pc0, Pc1, Pc2, Pc3, Pc4, Pc5, Pc6⟩ := cells7 P2.out
  have Pz := P2.out.lt
  have Pf := P2.out.frozen 6
  go_wp2_with fail
  refine (To_any _ _ _ _ _ _ _ _).mono ?_
  rintro e w3 ⟨rfl, hb3⟩
  rw [TU.out.1, TU.out.2]
  have P3 : Hid (Blk w3 (w.heap.size) 23 #[.int .i64 y, .int .i64 m, .int .i64 d, .int .i64 hh, .int .i64 mi, .int .i64 ss, .int .i64 wd]) := (P2.out.alloc _).below hb3 (P2.out.alloc _).lt
  have A3 : Hid (Blk w3 (w2.heap.size) 23 #[.int .i64 (fY t), .int .i64 (fM t), .int .i64 (fD t), .int .i64 (fH t), .int .i64 (fI t), .int .i64 (fS t), .int .i64 (fW t)]) := (Blk.new w2 _ _).below hb3 (by simp)
  have HB3 := Lib.hid (more (HB2.out.alloc HB2.out.size _) (by have := HB2.out.size; simp; omega) hb3)
  clear hb3 Pc0 Pc1 Pc2 Pc3 Pc4 Pc5 Pc6 Pz Pf
  obtain ⟨Pc0, Pc1, Pc2, Pc3, Pc4, Pc5, Pc6⟩ := cells7 P3.out
  have Pz := P3.out.lt
  have Pf := P3.out.frozen 6
  obtain ⟨Ac0, Ac1, Ac2, Ac3, Ac4, Ac5, Ac6⟩ := cells7 A3.out
  have Az := A3.out.lt
  have Af := A3.out.frozen 6
  go_wp2_with fail
  refine (To_any y m d hh mi ss wd _).mono ?_
  rintro e w4 ⟨rfl, hb4⟩
  rw [OK.out]
  have P4 : Hid (Blk w4 (w.heap.size) 23 #[.int .i64 y, .int .i64 m, .int .i64 d, .int .i64 hh, .int .i64 mi, .int .i64 ss, .int .i64 wd]) := (P3.out).below hb4 (P3.out).lt
  have A4 : Hid (Blk w4 (w2.heap.size) 23 #[.int .i64 (fY t), .int .i64 (fM t), .int .i64 (fD t), .int .i64 (fH t), .int .i64 (fI t), .int .i64 (fS t), .int .i64 (fW t)]) := (A3.out).below hb4 (A3.out).lt
  have HB4 := Lib.hid (more HB3.out HB3.out.size hb4)
  clear hb4 Pc0 Pc1 Pc2 Pc3 Pc4 Pc5 Pc6 Pz Pf Ac0 Ac1 Ac2 Ac3 Ac4 Ac5 Ac6 Az Af
  obtain ⟨Pc0, Pc1, Pc2, Pc3, Pc4, Pc5, Pc6⟩ := cells7 P4.out
  have Pz := P4.out.lt
  have Pf := P4.out.frozen 6
  obtain ⟨Ac0, Ac1, Ac2, Ac3, Ac4, Ac5, Ac6⟩ := cells7 A4.out
  have Az := A4.out.lt
  have Af := A4.out.frozen 6
  go_wp2_with fail
  refine (Of_any _ _).mono ?_
  rintro e w5 ⟨rfl, hb5⟩
  rw [E.out.1, E.out.2.1, E.out.2.2.1, E.out.2.2.2.1, E.out.2.2.2.2.1, E.out.2.2.2.2.2.1, E.out.2.2.2.2.2.2.1]
  have P5 : Hid (Blk w5 (w.heap.size) 23 #[.int .i64 y, .int .i64 m, .int .i64 d, .int .i64 hh, .int .i64 mi, .int .i64 ss, .int .i64 wd]) := (P4.out).below hb5 (P4.out).lt
  have HB5 := Lib.hid (more HB4.out HB4.out.size hb5)
  clear hb5 Pc0 Pc1 Pc2 Pc3 Pc4 Pc5 Pc6 Pz Pf Ac0 Ac1 Ac2 Ac3 Ac4 Ac5 Ac6 Az Af
  obtain ⟨Pc0, Pc1, Pc2, Pc3, Pc4, Pc5, Pc6⟩ := cells7 P5.out
  have Pz := P5.out.lt
  have Pf := P5.out.frozen 6
  go_wp2_with fail
  go_ret
  exact ⟨rfl, (HB5.out.setCell (p := ⟨w.heap.size, 6, none⟩) (Nat.le_refl _) _).alloc (by simpa [World.setCell] using HB5.out.size) _⟩

set_option maxHeartbeats 8000000 in
theorem CivilTurn_tn (t y m d hh mi ss wd : Int) (ht : isT t = true) (hk : toOk y m d hh mi ss = false) (w : World) :
    Calls Try.prog 4 #[.int .i64 t, .agg #[.int .i64 y, .int .i64 m, .int .i64 d, .int .i64 hh, .int .i64 mi, .int .i64 ss, .int .i64 wd]] w fun e w' => e = .returned (.bool true) ∧ Below w.heap.size w w' := by
  have HT := Lib.hid ht
  have OK := Lib.hid hk
  have TU := Lib.hid (And.comm.1 (to_of (date_of ht)))
  obtain ⟨ht0, ht1⟩ := (isT_iff t).1 ht
  have N0 := Lib.hid (to_no hk)
  clear ht hk
  go_enter Try.func4, Try.ntmps4
  go_wp2_with fail
  refine (shown_any _).mono ?_
  rintro e w1 ⟨rfl, hb1⟩
  have P1 : Hid (Blk w1 (w.heap.size) 23 #[.int .i64 y, .int .i64 m, .int .i64 d, .int .i64 hh, .int .i64 mi, .int .i64 ss, .int .i64 wd]) := (Blk.new w _ _).below hb1 (by simp)
  have HB1 := Lib.hid (more ((Below.refl w.heap.size w).alloc (Nat.le_refl _) _) (by simp) hb1)
  clear hb1
  obtain ⟨Pc0, Pc1, Pc2, Pc3, Pc4, Pc5, Pc6⟩ := cells7 P1.out
  have Pz := P1.out.lt
  have Pf := P1.out.frozen 6
  go_wp2_with fail
  refine (Of_any t _).mono ?_
  rintro e w2 ⟨rfl, hb2⟩
  rw [HT.out]
  have P2 : Hid (Blk w2 (w.heap.size) 23 #[.int .i64 y, .int .i64 m, .int .i64 d, .int .i64 hh, .int .i64 mi, .int .i64 ss, .int .i64 wd]) := (P1.out).below hb2 (P1.out).lt
  have HB2 := Lib.hid (more HB1.out HB1.out.size hb2)
  clear hb2 Pc0 Pc1 Pc2 Pc3 Pc4 Pc5 Pc6 Pz Pf
  obtain ⟨Pc0, Pc1, Pc2, Pc3, Pc4, Pc5, Pc6⟩ := cells7 P2.out
  have Pz := P2.out.lt
  have Pf := P2.out.frozen 6
  go_wp2_with fail
  refine (To_any _ _ _ _ _ _ _ _).mono ?_
  rintro e w3 ⟨rfl, hb3⟩
  rw [TU.out.1, TU.out.2]
  have P3 : Hid (Blk w3 (w.heap.size) 23 #[.int .i64 y, .int .i64 m, .int .i64 d, .int .i64 hh, .int .i64 mi, .int .i64 ss, .int .i64 wd]) := (P2.out.alloc _).below hb3 (P2.out.alloc _).lt
  have A3 : Hid (Blk w3 (w2.heap.size) 23 #[.int .i64 (fY t), .int .i64 (fM t), .int .i64 (fD t), .int .i64 (fH t), .int .i64 (fI t), .int .i64 (fS t), .int .i64 (fW t)]) := (Blk.new w2 _ _).below hb3 (by simp)
  have HB3 := Lib.hid (more (HB2.out.alloc HB2.out.size _) (by have := HB2.out.size; simp; omega) hb3)
  clear hb3 Pc0 Pc1 Pc2 Pc3 Pc4 Pc5 Pc6 Pz Pf
  obtain ⟨Pc0, Pc1, Pc2, Pc3, Pc4, Pc5, Pc6⟩ := cells7 P3.out
  have Pz := P3.out.lt
  have Pf := P3.out.frozen 6
  obtain ⟨Ac0, Ac1, Ac2, Ac3, Ac4, Ac5, Ac6⟩ := cells7 A3.out
  have Az := A3.out.lt
  have Af := A3.out.frozen 6
  go_wp2_with fail
  refine (To_any y m d hh mi ss wd _).mono ?_
  rintro e w4 ⟨rfl, hb4⟩
  rw [OK.out, N0.out]
  have P4 : Hid (Blk w4 (w.heap.size) 23 #[.int .i64 y, .int .i64 m, .int .i64 d, .int .i64 hh, .int .i64 mi, .int .i64 ss, .int .i64 wd]) := (P3.out).below hb4 (P3.out).lt
  have A4 : Hid (Blk w4 (w2.heap.size) 23 #[.int .i64 (fY t), .int .i64 (fM t), .int .i64 (fD t), .int .i64 (fH t), .int .i64 (fI t), .int .i64 (fS t), .int .i64 (fW t)]) := (A3.out).below hb4 (A3.out).lt
  have HB4 := Lib.hid (more HB3.out HB3.out.size hb4)
  clear hb4 Pc0 Pc1 Pc2 Pc3 Pc4 Pc5 Pc6 Pz Pf Ac0 Ac1 Ac2 Ac3 Ac4 Ac5 Ac6 Az Af
  obtain ⟨Pc0, Pc1, Pc2, Pc3, Pc4, Pc5, Pc6⟩ := cells7 P4.out
  have Pz := P4.out.lt
  have Pf := P4.out.frozen 6
  obtain ⟨Ac0, Ac1, Ac2, Ac3, Ac4, Ac5, Ac6⟩ := cells7 A4.out
  have Az := A4.out.lt
  have Af := A4.out.frozen 6
  go_wp2_with fail
  go_ret
  exact ⟨rfl, HB4.out⟩

set_option maxHeartbeats 8000000 in
theorem CivilTurn_ny (t y m d hh mi ss wd : Int) (ht : isT t = false) (hk : toOk y m d hh mi ss = true) (w : World) :
    Calls Try.prog 4 #[.int .i64 t, .agg #[.int .i64 y, .int .i64 m, .int .i64 d, .int .i64 hh, .int .i64 mi, .int .i64 ss, .int .i64 wd]] w fun e w' => e = .returned (.bool true) ∧ Below w.heap.size w w' := by
  have HT := Lib.hid ht
  have OK := Lib.hid hk
  rcases isT_not ht with ht0 | ⟨ht2, ht0⟩
  all_goals
    have E := Lib.hid (date_eq (to_date hk))
    clear ht hk
    go_enter Try.func4, Try.ntmps4
    go_wp2_with fail
    refine (shown_any _).mono ?_
    rintro e w1 ⟨rfl, hb1⟩
    have P1 : Hid (Blk w1 (w.heap.size) 23 #[.int .i64 y, .int .i64 m, .int .i64 d, .int .i64 hh, .int .i64 mi, .int .i64 ss, .int .i64 wd]) := (Blk.new w _ _).below hb1 (by simp)
    have HB1 := Lib.hid (more ((Below.refl w.heap.size w).alloc (Nat.le_refl _) _) (by simp) hb1)
    clear hb1
    obtain ⟨Pc0, Pc1, Pc2, Pc3, Pc4, Pc5, Pc6⟩ := cells7 P1.out
    have Pz := P1.out.lt
    have Pf := P1.out.frozen 6
    go_wp2_with fail
    refine (Of_any t _).mono ?_
    rintro e w2 ⟨rfl, hb2⟩
    rw [HT.out]
    have P2 : Hid (Blk w2 (w.heap.size) 23 #[.int .i64 y, .int .i64 m, .int .i64 d, .int .i64 hh, .int .i64 mi, .int .i64 ss, .int .i64 wd]) := (P1.out).below hb2 (P1.out).lt
    have HB2 := Lib.hid (more HB1.out HB1.out.size hb2)
    clear hb2 Pc0 Pc1 Pc2 Pc3 Pc4 Pc5 Pc6 Pz Pf
    obtain ⟨Pc0, Pc1, Pc2, Pc3, Pc4, Pc5, Pc6⟩ := cells7 P2.out
    have Pz := P2.out.lt
    have Pf := P2.out.frozen 6
    go_wp2_with fail
    refine (To_any y m d hh mi ss wd _).mono ?_
    rintro e w3 ⟨rfl, hb3⟩
    rw [OK.out]
    have P3 : Hid (Blk w3 (w.heap.size) 23 #[.int .i64 y, .int .i64 m, .int .i64 d, .int .i64 hh, .int .i64 mi, .int .i64 ss, .int .i64 wd]) := (P2.out.alloc _).below hb3 (P2.out.alloc _).lt
    have A3 : Hid (Blk w3 (w2.heap.size) 23 #[.int .i64 (fY t), .int .i64 (fM t), .int .i64 (fD t), .int .i64 (fH t), .int .i64 (fI t), .int .i64 (fS t), .int .i64 (fW t)]) := (Blk.new w2 _ _).below hb3 (by simp)
    have HB3 := Lib.hid (more (HB2.out.alloc HB2.out.size _) (by have := HB2.out.size; simp; omega) hb3)
    clear hb3 Pc0 Pc1 Pc2 Pc3 Pc4 Pc5 Pc6 Pz Pf
    obtain ⟨Pc0, Pc1, Pc2, Pc3, Pc4, Pc5, Pc6⟩ := cells7 P3.out
    have Pz := P3.out.lt
    have Pf := P3.out.frozen 6
    obtain ⟨Ac0, Ac1, Ac2, Ac3, Ac4, Ac5, Ac6⟩ := cells7 A3.out
    have Az := A3.out.lt
    have Af := A3.out.frozen 6
    go_wp2_with fail
    refine (Of_any _ _).mono ?_
    rintro e w4 ⟨rfl, hb4⟩
    rw [E.out.1, E.out.2.1, E.out.2.2.1, E.out.2.2.2.1, E.out.2.2.2.2.1, E.out.2.2.2.2.2.1, E.out.2.2.2.2.2.2.1]
    have P4 : Hid (Blk w4 (w.heap.size) 23 #[.int .i64 y, .int .i64 m, .int .i64 d, .int .i64 hh, .int .i64 mi, .int .i64 ss, .int .i64 wd]) := (P3.out).below hb4 (P3.out).lt
    have HB4 := Lib.hid (more HB3.out HB3.out.size hb4)
    clear hb4 Pc0 Pc1 Pc2 Pc3 Pc4 Pc5 Pc6 Pz Pf Ac0 Ac1 Ac2 Ac3 Ac4 Ac5 Ac6 Az Af
    obtain ⟨Pc0, Pc1, Pc2, Pc3, Pc4, Pc5, Pc6⟩ := cells7 P4.out
    have Pz := P4.out.lt
    have Pf := P4.out.frozen 6
    go_wp2_with fail
    go_ret
    exact ⟨rfl, (HB4.out.setCell (p := ⟨w.heap.size, 6, none⟩) (Nat.le_refl _) _).alloc (by simpa [World.setCell] using HB4.out.size) _⟩

set_option maxHeartbeats 8000000 in
theorem CivilTurn_nn (t y m d hh mi ss wd : Int) (ht : isT t = false) (hk : toOk y m d hh mi ss = false) (w : World) :
    Calls Try.prog 4 #[.int .i64 t, .agg #[.int .i64 y, .int .i64 m, .int .i64 d, .int .i64 hh, .int .i64 mi, .int .i64 ss, .int .i64 wd]] w fun e w' => e = .returned (.bool true) ∧ Below w.heap.size w w' := by
  have HT := Lib.hid ht
  have OK := Lib.hid hk
  rcases isT_not ht with ht0 | ⟨ht2, ht0⟩
  all_goals
    have N0 := Lib.hid (to_no hk)
    clear ht hk
    go_enter Try.func4, Try.ntmps4
    go_wp2_with fail
    refine (shown_any _).mono ?_
    rintro e w1 ⟨rfl, hb1⟩
    have P1 : Hid (Blk w1 (w.heap.size) 23 #[.int .i64 y, .int .i64 m, .int .i64 d, .int .i64 hh, .int .i64 mi, .int .i64 ss, .int .i64 wd]) := (Blk.new w _ _).below hb1 (by simp)
    have HB1 := Lib.hid (more ((Below.refl w.heap.size w).alloc (Nat.le_refl _) _) (by simp) hb1)
    clear hb1
    obtain ⟨Pc0, Pc1, Pc2, Pc3, Pc4, Pc5, Pc6⟩ := cells7 P1.out
    have Pz := P1.out.lt
    have Pf := P1.out.frozen 6
    go_wp2_with fail
    refine (Of_any t _).mono ?_
    rintro e w2 ⟨rfl, hb2⟩
    rw [HT.out]
    have P2 : Hid (Blk w2 (w.heap.size) 23 #[.int .i64 y, .int .i64 m, .int .i64 d, .int .i64 hh, .int .i64 mi, .int .i64 ss, .int .i64 wd]) := (P1.out).below hb2 (P1.out).lt
    have HB2 := Lib.hid (more HB1.out HB1.out.size hb2)
    clear hb2 Pc0 Pc1 Pc2 Pc3 Pc4 Pc5 Pc6 Pz Pf
    obtain ⟨Pc0, Pc1, Pc2, Pc3, Pc4, Pc5, Pc6⟩ := cells7 P2.out
    have Pz := P2.out.lt
    have Pf := P2.out.frozen 6
    go_wp2_with fail
    refine (To_any y m d hh mi ss wd _).mono ?_
    rintro e w3 ⟨rfl, hb3⟩
    rw [OK.out, N0.out]
    have P3 : Hid (Blk w3 (w.heap.size) 23 #[.int .i64 y, .int .i64 m, .int .i64 d, .int .i64 hh, .int .i64 mi, .int .i64 ss, .int .i64 wd]) := (P2.out.alloc _).below hb3 (P2.out.alloc _).lt
    have A3 : Hid (Blk w3 (w2.heap.size) 23 #[.int .i64 (fY t), .int .i64 (fM t), .int .i64 (fD t), .int .i64 (fH t), .int .i64 (fI t), .int .i64 (fS t), .int .i64 (fW t)]) := (Blk.new w2 _ _).below hb3 (by simp)
    have HB3 := Lib.hid (more (HB2.out.alloc HB2.out.size _) (by have := HB2.out.size; simp; omega) hb3)
    clear hb3 Pc0 Pc1 Pc2 Pc3 Pc4 Pc5 Pc6 Pz Pf
    obtain ⟨Pc0, Pc1, Pc2, Pc3, Pc4, Pc5, Pc6⟩ := cells7 P3.out
    have Pz := P3.out.lt
    have Pf := P3.out.frozen 6
    obtain ⟨Ac0, Ac1, Ac2, Ac3, Ac4, Ac5, Ac6⟩ := cells7 A3.out
    have Az := A3.out.lt
    have Af := A3.out.frozen 6
    go_wp2_with fail
    go_ret
    exact ⟨rfl, HB3.out⟩

theorem CivilTurn_walk (t y m d hh mi ss wd : Int) (w : World) :
    Calls Try.prog 4 #[.int .i64 t, .agg #[.int .i64 y, .int .i64 m, .int .i64 d, .int .i64 hh, .int .i64 mi, .int .i64 ss, .int .i64 wd]] w fun e w' => e = .returned (.bool true) ∧ Below w.heap.size w w' := by
  rcases ht : isT t with _ | _ <;> rcases hk : toOk y m d hh mi ss with _ | _
  · exact CivilTurn_nn t y m d hh mi ss wd ht hk w
  · exact CivilTurn_ny t y m d hh mi ss wd ht hk w
  · exact CivilTurn_tn t y m d hh mi ss wd ht hk w
  · exact CivilTurn_ty t y m d hh mi ss wd ht hk w

set_option maxHeartbeats 4000000 in
theorem CivilYear_walk (y : Int) (w : World) :
    Calls Try.prog 7 #[.int .i64 y] w fun e w' => e = .returned (.bool true) ∧ Below w.heap.size w w' := by
  by_cases h0 : y < -100000
  · go_enter Try.func7, Try.ntmps7
    go_wp2_with fail
    refine (shown_any _).mono ?_
    rintro e w1 ⟨rfl, hb1⟩
    go_wp2_with fail
    go_ret
    exact ⟨rfl, hb1⟩
  by_cases h1 : 100000 < y
  · go_enter Try.func7, Try.ntmps7
    go_wp2_with fail
    refine (shown_any _).mono ?_
    rintro e w1 ⟨rfl, hb1⟩
    go_wp2_with fail
    go_ret
    exact ⟨rfl, hb1⟩
  have hl01 := lp_01 y
  have G := Lib.hid (show leaps (y + 399) - leaps (y - 1) = 97 by have := leaps_400 (y - 1); rw [show y - 1 + 400 = y + 399 by omega] at this; omega)
  have M := Lib.hid (show mst y 14 = 365 + lp y by rw [mst_14, mst_13])
  go_enter Try.func7, Try.ntmps7
  go_wp2_with fail
  refine (shown_any _).mono ?_
  rintro e w1 ⟨rfl, hb1⟩
  have HB1 := Lib.hid hb1
  clear hb1
  go_wp2_with fail
  go_loop [3, 4] (fun n i => ∃ k : Int, 0 ≤ k ∧ k ≤ 14 ∧ n = .int .i64 (mst y k) ∧ i = .int .i64 k) (fun _ i => (14 - intOf i).toNat)
  case atStart => exact ⟨0, by omega, by omega, by rw [mst_0], rfl⟩
  case round =>
    obtain ⟨k, hk0, hk1, rfl, rfl⟩ := hrel
    have hm := mst_bd0 y k hk0 hk1
    by_cases hlt : k ≤ 13
    · have HS := Lib.hid (mst_step y k hk0 hlt)
      have hd := dim_bd0 y k
      go_wp2_with fail
      refine (Days_any y k _).mono ?_
      rintro e w2 ⟨rfl, rfl⟩
      go_wp2_with fail
      go_round
      case rel => exact ⟨k + 1, by omega, by omega, by rw [HS.out], rfl⟩
      case measure => simp [intOf]; omega
    · obtain rfl : k = 14 := by omega
      clear hk0 hk1 hlt hm
      rcases hl : leapB y with _ | _
      all_goals
        have hp : lp y = if leapB y = true then 1 else 0 := rfl
        rw [hl] at hp
        simp only [if_true, if_false, Bool.false_eq_true] at hp
        have mm := M.out
        rw [hp] at mm
        have MM := Lib.hid mm
        have HL := Lib.hid hl
        clear hp hl mm
        go_wp2_with fail
        refine (Leap_any y _).mono ?_
        rintro e w2 ⟨rfl, rfl⟩
        rw [HL.out]
        go_wp2_with fail
        go_loop [6, 7] (fun n i => ∃ (k v : Int), 0 ≤ k ∧ k ≤ 400 ∧ 0 ≤ v ∧ v ≤ k ∧ Hid (v = leaps (y + k - 1) - leaps (y - 1)) ∧ n = .int .i64 v ∧ i = .int .i64 k) (fun _ i => (400 - intOf i).toNat)
        case atStart => exact ⟨0, 0, by omega, by omega, by omega, by omega, by show (0 : Int) = _; rw [show y + 0 - 1 = y - 1 by omega]; omega, rfl, rfl⟩
        case round =>
          obtain ⟨k, v, hk0, hk1, hv0, hv1, hv, rfl, rfl⟩ := hrel
          by_cases hlt : k < 400
          · have hs := leaps_succ (y + k - 1)
            rw [show y + k - 1 + 1 = y + k by omega] at hs
            rcases hl2 : leapB (y + k) with _ | _
            · have hp : lp (y + k) = 0 := by unfold lp; rw [hl2]; rfl
              have HN : Hid (v = leaps (y + (k + 1) - 1) - leaps (y - 1)) := by
                show v = _
                rw [show y + (k + 1) - 1 = y + k by omega, hs, hp]
                have := hv.out; omega
              have HL2 := Lib.hid hl2
              clear hp hl2 hs
              go_wp2_with fail
              refine (Leap_any (y + k) _).mono ?_
              rintro e w2 ⟨rfl, rfl⟩
              rw [HL2.out]
              go_wp2_with fail
              go_round
              case rel => exact ⟨k + 1, v, by omega, by omega, by omega, by omega, HN, rfl, rfl⟩
              case measure => simp [intOf]; omega
            · have hp : lp (y + k) = 1 := by unfold lp; rw [hl2]; rfl
              have HN : Hid (v + 1 = leaps (y + (k + 1) - 1) - leaps (y - 1)) := by
                show v + 1 = _
                rw [show y + (k + 1) - 1 = y + k by omega, hs, hp]
                have := hv.out; omega
              have HL2 := Lib.hid hl2
              clear hp hl2 hs
              go_wp2_with fail
              refine (Leap_any (y + k) _).mono ?_
              rintro e w2 ⟨rfl, rfl⟩
              rw [HL2.out]
              go_wp2_with fail
              go_round
              case rel => exact ⟨k + 1, v + 1, by omega, by omega, by omega, by omega, HN, rfl, rfl⟩
              case measure => simp [intOf]; omega
          · have e4 : k = 400 := by omega
            have hv97 : v = 97 := by
              have a := hv.out
              have b := G.out
              rw [e4, show y + 400 - 1 = y + 399 by omega] at a
              omega
            subst hv97
            subst e4
            have b1 : (mst y 14 == _) = true := beq_iff_eq.2 MM.out
            go_wp2_with fail
            go_ret
            exact ⟨rfl, HB1.out⟩
end Go.Proofs.Ytmimclohhhkjmaa
