/- '==' of edges and nodes. -/
import Derived.Laws.StructEq
import Derived.Test.YtcoepioahabbdaaGreatGyae
import Derived.Test.YtcoepioahabbdaaGreatGyaa
import Derived.Test.YtcoepioahabbdaaGreatGyab
import Derived.Test.YtcoepioahabbdaaGreatGyad
import Derived.Test.YtcoepioahabbdaaGreatGyac
import Derived.Test.YtcoepioahabbdaaGreatGxaa
namespace Go.Proofs.YtcoepioahabbdaaGreat
open Go.RowKit
theorem run_eql_node (w : World) (a0 b0 : ByteArray) (a1 b1 : Int) (a2 b2 : Int) : (binOp .eql 32 (.agg #[.string a0, .int .i64 a1, .int .i64 a2]) (.agg #[.string b0, .int .i64 b1, .int .i64 b2])).run Tryz.prog w = .ok (.bool (((a0.toList == b0.toList) && ((a1 == b1) && (a2 == b2))))) w := by
  rw [run_eql_struct, run_equalIn_struct (P := Tryz.prog) w 9999 32 _ _ (by kernel_rfl) (by kernel_rfl), eq_node]
  rfl
end Go.Proofs.YtcoepioahabbdaaGreat
