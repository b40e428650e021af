/- Words for the document's To. -/
import Derived.Test.YtmimclohhhkjmaaCvC
namespace Go.Proofs.Ytmimclohhhkjmaa
open Go.RowKit

theorem rDays_q (y m : Int) (w : World) :
    Calls Try.prog 16 #[.int .i64 y, .int .i64 m] w fun e w' => e = .returned (.int .i64 (dim y m)) ∧ w' = w := quiet_l (rDays_any y m w)
theorem toOk_no {y m d hh mi ss : Int} (h : toOk y m d hh mi ss = false) : y < 2000 ∨ 2199 < y ∨ m < 1 ∨ 12 < m ∨ d < 1 ∨ dim y m < d ∨ hh < 0 ∨ 23 < hh ∨ mi < 0 ∨ 59 < mi ∨ ss < 0 ∨ 59 < ss := by
  by_cases h1 : y < 2000 ∨ 2199 < y ∨ m < 1 ∨ 12 < m ∨ d < 1 ∨ dim y m < d ∨ hh < 0 ∨ 23 < hh ∨ mi < 0 ∨ 59 < mi ∨ ss < 0 ∨ 59 < ss
  · exact h1
  · exfalso
    have : toOk y m d hh mi ss = true := by
      unfold toOk isDayB isClB
      simp
      omega
    rw [h] at this; cases this
end Go.Proofs.Ytmimclohhhkjmaa
