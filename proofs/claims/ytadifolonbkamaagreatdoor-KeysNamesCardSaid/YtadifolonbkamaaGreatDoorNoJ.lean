/- The walk of the law's own shown. -/
import Derived.Test.YtadifolonbkamaaGreatDoorNoI
namespace Go.Proofs.YtadifolonbkamaaGreatDoor.Nm
open Go.RowKit

theorem more {a w w2 : World} (h : Below a.heap.size a w) (h2 : Below w.heap.size w w2) : Below a.heap.size a w2 := h.trans (h2.mono h.size)

end Go.Proofs.YtadifolonbkamaaGreatDoor.Nm
