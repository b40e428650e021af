/- The document's To where there is no such second, part 2. -/
import Derived.Test.YtmimclohhhkjmaaCvG0
namespace Go.Proofs.Ytmimclohhhkjmaa
open Go.RowKit

set_option maxRecDepth 100000 in
set_option maxHeartbeats 4000000 in
theorem rTo_no5 (y m d hh mi ss wd : Int) (k0 : decide (y < 2000) = false) (k1 : decide (2199 < y) = false) (k2 : decide (m < 1) = false) (k3 : decide (12 < m) = false) (k4 : decide (d < 1) = false) (k5 : decide (dim y m < d) = true) (w : World) :
    Calls Try.prog 12 #[.agg #[.int .i64 y, .int .i64 m, .int .i64 d, .int .i64 hh, .int .i64 mi, .int .i64 ss, .int .i64 wd]] w fun e w' => e = .returned (.tuple #[.int .i64 0, .bool false]) ∧ Below w.heap.size w w' := by
    go_enter Try.func12, Try.ntmps12
    go_wp2_with fail
    go_quiet ((go_at_call 16; exact Calls.quiet_of_same (rDays_q _ _ _)))
    go_wp2_with fail
    go_ret2
    exact ⟨rfl, below_drewN ((Below.refl _ _).alloc (Nat.le_refl _) _) _⟩

set_option maxRecDepth 100000 in
set_option maxHeartbeats 4000000 in
theorem rTo_no6 (y m d hh mi ss wd : Int) (k0 : decide (y < 2000) = false) (k1 : decide (2199 < y) = false) (k2 : decide (m < 1) = false) (k3 : decide (12 < m) = false) (k4 : decide (d < 1) = false) (k5 : decide (dim y m < d) = false) (k6 : decide (hh < 0) = true) (w : World) :
    Calls Try.prog 12 #[.agg #[.int .i64 y, .int .i64 m, .int .i64 d, .int .i64 hh, .int .i64 mi, .int .i64 ss, .int .i64 wd]] w fun e w' => e = .returned (.tuple #[.int .i64 0, .bool false]) ∧ Below w.heap.size w w' := by
    go_enter Try.func12, Try.ntmps12
    go_wp2_with fail
    go_quiet ((go_at_call 16; exact Calls.quiet_of_same (rDays_q _ _ _)))
    go_wp2_with fail
    go_ret2
    exact ⟨rfl, below_drewN ((Below.refl _ _).alloc (Nat.le_refl _) _) _⟩

set_option maxRecDepth 100000 in
set_option maxHeartbeats 4000000 in
theorem rTo_no7 (y m d hh mi ss wd : Int) (k0 : decide (y < 2000) = false) (k1 : decide (2199 < y) = false) (k2 : decide (m < 1) = false) (k3 : decide (12 < m) = false) (k4 : decide (d < 1) = false) (k5 : decide (dim y m < d) = false) (k6 : decide (hh < 0) = false) (k7 : decide (23 < hh) = true) (w : World) :
    Calls Try.prog 12 #[.agg #[.int .i64 y, .int .i64 m, .int .i64 d, .int .i64 hh, .int .i64 mi, .int .i64 ss, .int .i64 wd]] w fun e w' => e = .returned (.tuple #[.int .i64 0, .bool false]) ∧ Below w.heap.size w w' := by
    go_enter Try.func12, Try.ntmps12
    go_wp2_with fail
    go_quiet ((go_at_call 16; exact Calls.quiet_of_same (rDays_q _ _ _)))
    go_wp2_with fail
    go_ret2
    exact ⟨rfl, below_drewN ((Below.refl _ _).alloc (Nat.le_refl _) _) _⟩

set_option maxRecDepth 100000 in
set_option maxHeartbeats 4000000 in
theorem rTo_no8 (y m d hh mi ss wd : Int) (k0 : decide (y < 2000) = false) (k1 : decide (2199 < y) = false) (k2 : decide (m < 1) = false) (k3 : decide (12 < m) = false) (k4 : decide (d < 1) = false) (k5 : decide (dim y m < d) = false) (k6 : decide (hh < 0) = false) (k7 : decide (23 < hh) = false) (k8 : decide (mi < 0) = true) (w : World) :
    Calls Try.prog 12 #[.agg #[.int .i64 y, .int .i64 m, .int .i64 d, .int .i64 hh, .int .i64 mi, .int .i64 ss, .int .i64 wd]] w fun e w' => e = .returned (.tuple #[.int .i64 0, .bool false]) ∧ Below w.heap.size w w' := by
    go_enter Try.func12, Try.ntmps12
    go_wp2_with fail
    go_quiet ((go_at_call 16; exact Calls.quiet_of_same (rDays_q _ _ _)))
    go_wp2_with fail
    go_ret2
    exact ⟨rfl, below_drewN ((Below.refl _ _).alloc (Nat.le_refl _) _) _⟩
end Go.Proofs.Ytmimclohhhkjmaa
