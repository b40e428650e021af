/- The walk of the document's add. -/
import Derived.Test.YthodbeeglkedcaaDtag
import Derived.Sort.Walk0
namespace Go.Proofs.Ythodbeeglkedcaa
open Go.RowKit
theorem lt_str (s : ByteArray) (x : List UInt8) : Op.bytesLess s.toList (str x).toList = decide (s.data.toList < x) := by
  rw [bytesLess_eq, Lib.toList_data, Lib.toList_data, str_list]
theorem run_leq_str (w : World) (a b : ByteArray) : (binOp .leq 9 (.string a) (.string b)).run Try.prog w = .ok (.bool (Op.bytesLess a.toList b.toList || a.toList == b.toList)) w := by kernel_rfl
def OwnT (w : World) (B : Nat) (v : Value) (l : List (List UInt8)) : Prop := w.ownsRow B 9 1 v l.length (wcells l)
end Go.Proofs.Ythodbeeglkedcaa
