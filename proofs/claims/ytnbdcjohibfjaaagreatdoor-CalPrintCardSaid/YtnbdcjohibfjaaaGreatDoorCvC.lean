/- The walks of hasDay, hasClock and To. -/
import Derived.Test.YtnbdcjohibfjaaaGreatDoorCvK
import Derived.Test.YtnbdcjohibfjaaaGreatDoorCvM
namespace Go.Proofs.YtnbdcjohibfjaaaGreatDoor
open Go.RowKit

theorem quiet_l {P : Program} {f : FuncId} {args : Array Value} {w : World} {v : Value}
    (h : Calls P f args w fun e w' => e = .returned v ∧ w = w') : Calls P f args w fun e w' => e = .returned v ∧ w' = w :=
  h.mono fun _ _ ⟨he, hm⟩ => ⟨he, hm.symm⟩
theorem within_q {n a b : Int} {r : Bool} (h : inB n a b = r) (w : World) :
    Calls Tryz.prog 92 #[.int .i64 n, .int .i64 a, .int .i64 b] w fun e w' => e = .returned (.bool r) ∧ w' = w :=
  quiet_l (h ▸ within_any n a b w)
theorem Days_q (y m : Int) (w : World) :
    Calls Tryz.prog 76 #[.int .i64 y, .int .i64 m] w fun e w' => e = .returned (.int .i64 (dim y m)) ∧ w' = w := quiet_l (Days_any y m w)
theorem daysBefore_q (y : Int) (h0 : 2000 ≤ y) (h1 : y ≤ 2300) (w : World) :
    Calls Tryz.prog 75 #[.int .i64 y] w fun e w' => e = .returned (.int .i64 (yst y)) ∧ w' = w := quiet_l (daysBefore_any y h0 h1 w)
theorem isDayB_in (y m d : Int) : isDayB y m d = (inB y 2000 2199 && inB d 1 (dim y m)) := by
  unfold isDayB inB
  rw [Bool.eq_iff_iff]
  simp
  omega
theorem isClB_in (hh mi ss : Int) : isClB hh mi ss = ((inB hh 0 23 && inB mi 0 59) && inB ss 0 59) := by
  unfold isClB inB
  rw [Bool.eq_iff_iff]
  simp
  omega

set_option maxHeartbeats 2000000 in
theorem hasDay_any (y m d hh mi ss wd : Int) (w : World) :
    Calls Tryz.prog 73 #[.agg #[.int .i64 y, .int .i64 m, .int .i64 d, .int .i64 hh, .int .i64 mi, .int .i64 ss, .int .i64 wd]] w fun e w' => e = .returned (.bool (isDayB y m d)) ∧ Below w.heap.size w w' := by
  have H := Lib.hid (isDayB_in y m d)
  rcases h1 : inB y 2000 2199 with _ | _
  · rw [h1] at H
    have H1 := Lib.hid h1
    clear h1
    go_enter Tryz.func73, Tryz.ntmps73
    go_wp2_with fail
    go_quiet ((go_at_call 92; exact Calls.quiet_of_same (within_q H1.out _)))
    go_wp2_with fail
    go_ret
    exact ⟨ret_bool (by rw [H.out]; rfl), below_drewN ((Below.refl _ _).alloc (Nat.le_refl _) _) _⟩
  · rcases h2 : inB d 1 (dim y m) with _ | _
    all_goals
      rw [h1, h2] at H
      have H1 := Lib.hid h1
      have H2 := Lib.hid h2
      clear h1 h2
      go_enter Tryz.func73, Tryz.ntmps73
      go_wp2_with fail
      go_quiet ((first | (go_at_call 92; exact Calls.quiet_of_same (within_q (by with_reducible (first | exact H1.out | exact H2.out)) _)) | (go_at_call 76; exact Calls.quiet_of_same (Days_q _ _ _))))
      go_wp2_with fail
      go_ret
      exact ⟨ret_bool (by rw [H.out]; rfl), below_drewN ((Below.refl _ _).alloc (Nat.le_refl _) _) _⟩

set_option maxHeartbeats 2000000 in
theorem hasClock_any (y m d hh mi ss wd : Int) (w : World) :
    Calls Tryz.prog 74 #[.agg #[.int .i64 y, .int .i64 m, .int .i64 d, .int .i64 hh, .int .i64 mi, .int .i64 ss, .int .i64 wd]] w fun e w' => e = .returned (.bool (isClB hh mi ss)) ∧ Below w.heap.size w w' := by
  have H := Lib.hid (isClB_in hh mi ss)
  rcases h1 : inB hh 0 23 with _ | _
  · rw [h1] at H
    have H1 := Lib.hid h1
    clear h1
    go_enter Tryz.func74, Tryz.ntmps74
    go_wp2_with (go_at_call 92; refine (within_q H1.out _).mono ?_; rintro e w1 ⟨rfl, rfl⟩)
    go_ret
    exact ⟨ret_bool (by rw [H.out]; rfl), (Below.refl _ _).alloc (Nat.le_refl _) _⟩
  · rcases h2 : inB mi 0 59 with _ | _
    · rw [h1, h2] at H
      have H1 := Lib.hid h1
      have H2 := Lib.hid h2
      clear h1 h2
      go_enter Tryz.func74, Tryz.ntmps74
      go_wp2_with fail
      refine (within_q H1.out _).mono ?_
      rintro e w1 ⟨rfl, rfl⟩
      go_wp2_with fail
      refine (within_q H2.out _).mono ?_
      rintro e w1 ⟨rfl, rfl⟩
      go_wp2_with fail
      go_ret
      exact ⟨ret_bool (by rw [H.out]; rfl), (Below.refl _ _).alloc (Nat.le_refl _) _⟩
    · rcases h3 : inB ss 0 59 with _ | _
      all_goals
        rw [h1, h2, h3] at H
        have H1 := Lib.hid h1
        have H2 := Lib.hid h2
        have H3 := Lib.hid h3
        clear h1 h2 h3
        go_enter Tryz.func74, Tryz.ntmps74
        go_wp2_with fail
        refine (within_q H1.out _).mono ?_
        rintro e w1 ⟨rfl, rfl⟩
        go_wp2_with fail
        refine (within_q H2.out _).mono ?_
        rintro e w1 ⟨rfl, rfl⟩
        go_wp2_with fail
        refine (within_q H3.out _).mono ?_
        rintro e w1 ⟨rfl, rfl⟩
        go_wp2_with fail
        go_ret
        exact ⟨ret_bool (by rw [H.out]; rfl), (Below.refl _ _).alloc (Nat.le_refl _) _⟩
end Go.Proofs.YtnbdcjohibfjaaaGreatDoor
