/- The walks of Leap and Days, the code's and the document's; of daysBefore and within. -/
import Derived.Test.YtbgblbikffamkaaProg
import Derived.Test.YtbgblbikffamkaaCvL
import Derived.Test.YtbgblbikffamkaaSpK
import Derived.WalkKit
import Derived.BigGuardPart
import Derived.BigQuiet
import Derived.Handy
import Derived.Below
import Derived.Outline
import Derived.Deep.QuietTactic
import Derived.Deep.Draws
import Derived.Lib.Hide
import Derived.Laws.StructEq
namespace Go.Proofs.Ytbgblbikffamkaa
open Go.RowKit

theorem tmod_zero (y k : Int) : Int.tmod y k = 0 ↔ y % k = 0 := by
  rw [← Int.dvd_iff_tmod_eq_zero, ← Int.dvd_iff_emod_eq_zero]
theorem tmod_b (y k : Int) {b : Bool} (h : (y % k == 0) = b) : (Int.tmod y k == 0) = b := by
  rw [← h, Bool.eq_iff_iff]; simp [tmod_zero]
theorem tmod_nb (y k : Int) {b : Bool} (h : (y % k == 0) = b) : (Int.tmod y k != 0) = !b := by
  rw [← h]; simp [bne, tmod_b y k rfl]
theorem bne_b (x : Int) {b : Bool} (h : (x == 0) = b) : (x != 0) = !b := by rw [← h]; rfl

def inB (n a b : Int) : Bool := decide (a ≤ n) && decide (n ≤ b)
end Go.Proofs.Ytbgblbikffamkaa
