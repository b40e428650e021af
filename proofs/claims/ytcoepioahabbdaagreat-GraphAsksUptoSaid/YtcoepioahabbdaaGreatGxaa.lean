/- Small words on strings, lists and worlds that the walks of the spans share. -/
import Derived.Test.YtcoepioahabbdaaGreatProg
import Derived.WalkKit
import Derived.BigGuardPart
import Derived.BigQuiet
import Derived.Handy
import Derived.Below
import Derived.Deep.QuietTactic
import Derived.Deep.Draws
import Derived.Lib.Hide
import Derived.Lib.Strings
import Derived.Test.YtcoepioahabbdaaGreatGyac
import Derived.Test.YtcoepioahabbdaaGreatGyaa
namespace Go.Proofs.YtcoepioahabbdaaGreat
open Go.RowKit
theorem isEmpty_iff (s : ByteArray) : s.toList.isEmpty = decide (s.data.toList = []) := by
  rw [Lib.toList_data]
  cases s.data.toList <;> simp
end Go.Proofs.YtcoepioahabbdaaGreat
