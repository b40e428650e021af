/- The walks of the laws' own shown; of CivilYear. -/
import Derived.Test.YtmimclohhhkjmaaCvB
import Derived.Test.YtmimclohhhkjmaaCvE
namespace Go.Proofs.Ytmimclohhhkjmaa
open Go.RowKit

theorem first_date : IsDate 0 2000 1 1 0 0 0 6 := by
  have n0 : num 2000 1 1 = 0 := by unfold num; rw [yst_2000, mst_1]; rfl
  refine ⟨⟨by omega, by omega, by omega, by omega, by omega, by simp [dim]⟩, by omega, by omega, by omega, by omega, by omega, by omega, by rw [n0]; rfl, by rw [n0]; rfl⟩
theorem leap_date : IsDate 5101200 2000 2 29 1 0 0 2 := by
  have l0 : leapB 2000 = true := by decide
  have n0 : num 2000 2 29 = 59 := by unfold num; rw [yst_2000]; simp [mst]
  refine ⟨⟨by omega, by omega, by omega, by omega, by omega, by simp [dim, lp, l0]⟩, by omega, by omega, by omega, by omega, by omega, by omega, by rw [n0]; rfl, by rw [n0]; rfl⟩

set_option maxHeartbeats 2000000 in
theorem shown_any (w : World) :
    Calls Try.prog 8 #[] w fun e w' => e = .returned (.bool true) ∧ Below w.heap.size w w' := by
  obtain ⟨e0, e1, e2, e3, e4, e5, e6, e7⟩ := date_eq first_date
  have E := Lib.hid (And.intro e0 (And.intro e1 (And.intro e2 (And.intro e3 (And.intro e4 (And.intro e5 (And.intro e6 e7)))))))
  have L0 := Lib.hid (show leapB 2000 = true by decide)
  have L1 := Lib.hid (show leapB 2100 = false by decide)
  have L2 := Lib.hid (show dim 2001 2 = 28 by have : leapB 2001 = false := by decide
                                              simp [dim, lp, this])
  clear e0 e1 e2 e3 e4 e5 e6 e7
  go_enter Try.func8, Try.ntmps8
  go_wp2_with fail
  refine (Of_any 0 _).mono ?_
  rintro e w1 ⟨rfl, hb1⟩
  rw [E.out.1, E.out.2.1, E.out.2.2.1, E.out.2.2.2.1, E.out.2.2.2.2.1, E.out.2.2.2.2.2.1, E.out.2.2.2.2.2.2.1, E.out.2.2.2.2.2.2.2]
  have HB1 := Lib.hid hb1
  clear hb1
  go_wp2_with fail
  refine (To_yes 5101200 2000 2 29 1 0 0 0 _ leap_date _).mono ?_
  rintro e w2 ⟨rfl, hb2⟩
  have HZ : w1.heap.size < w2.heap.size := by have := hb2.size; simp at this; omega
  have B2 : Hid (Blk w2 w1.heap.size 23 #[.int .i64 2000, .int .i64 1, .int .i64 1, .int .i64 0, .int .i64 0, .int .i64 0, .int .i64 6]) := (Blk.new w1 _ _).below hb2 (by simp)
  have HB2 := Lib.hid (more (HB1.out.alloc HB1.out.size _) (by have := HB1.out.size; simp; omega) hb2)
  clear hb2
  obtain ⟨c0, c1, c2, c3, c4, c5, c6⟩ := cells7 B2.out
  go_wp2_with fail
  refine (Leap_any 2000 _).mono ?_
  rintro e w3 ⟨rfl, rfl⟩
  rw [L0.out]
  go_wp2_with fail
  refine (Leap_any 2100 _).mono ?_
  rintro e w3 ⟨rfl, rfl⟩
  rw [L1.out]
  go_wp2_with fail
  refine (Days_any 2001 2 _).mono ?_
  rintro e w3 ⟨rfl, rfl⟩
  rw [L2.out]
  go_wp2_with fail
  go_ret
  exact ⟨rfl, HB2.out⟩
end Go.Proofs.Ytmimclohhhkjmaa
