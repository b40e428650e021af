/- The walk of the document's own Escape. -/
import Derived.Test.YtjoedgkmpklhfaaNmP
import Derived.Test.YtjoedgkmpklhfaaNmI
namespace Go.Proofs.Ytjoedgkmpklhfaa
open Go.RowKit

theorem escAt_str (s : ByteArray) (k : Nat) (h : k < s.size) {l : List UInt8} (he : escB (decide (k = 0)) s[k] = l) : str (escAt s k) ++ str l = str (escAt s (k + 1)) := by
  rw [escAt_succ s k h, he]
  apply ByteArray.ext
  rw [ByteArray.data_append]
  simp [str]
theorem one_slice (s : ByteArray) (k : Nat) (h : k < s.size) : s.extract k (k + 1) = str [s[k]] := by
  refine eq_str.2 ?_
  rw [Lib.extract_data, show k + 1 - k = 1 by omega, drop_at s k h]
  rfl

end Go.Proofs.Ytjoedgkmpklhfaa
