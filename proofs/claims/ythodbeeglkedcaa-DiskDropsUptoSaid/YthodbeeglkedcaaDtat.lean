/- The walk of the document's own Instance. -/
import Derived.Test.YthodbeeglkedcaaDtas
import Derived.Deep.RegionHeld3
namespace Go.Proofs.Ythodbeeglkedcaa.Nm
open Go.RowKit
theorem kind_good (s t : ByteArray) (h : kindP s = kindP t) : goodP s = goodP t := by rw [← good_kind, ← good_kind, h]
theorem at_good (s : ByteArray) (h : atP s = true) : goodP s = true := by
  rcases hg : goodP s with _ | _
  · rw [(not_good s hg).2.2] at h; exact absurd h (by decide)
  · rfl
end Go.Proofs.Ythodbeeglkedcaa.Nm
