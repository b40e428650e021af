/- The walk of the document's own Span. -/
import Derived.Test.YtadifolonbkamaaGreatDoorKfad
import Derived.Test.YtadifolonbkamaaGreatDoorKfbj
import Derived.Test.YtadifolonbkamaaGreatDoorKfao
namespace Go.Proofs.YtadifolonbkamaaGreatDoor.Sn
open Go.RowKit
end Go.Proofs.YtadifolonbkamaaGreatDoor.Sn
