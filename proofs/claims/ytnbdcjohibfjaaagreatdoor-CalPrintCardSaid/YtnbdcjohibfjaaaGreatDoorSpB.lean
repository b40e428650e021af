/- The units: the developers' seconds, the document's unit. -/
import Derived.Test.YtnbdcjohibfjaaaGreatDoorSpK
namespace Go.Proofs.YtnbdcjohibfjaaaGreatDoor
open Go.RowKit

def unitS (s : ByteArray) : Nat := unitL s.data.toList
theorem ne_beq {s : ByteArray} {l : List UInt8} (h : s ≠ str l) : (s.toList == l) = false := by
  have := beq_str s (str l)
  rw [Lib.toList_data (str l)] at this
  rw [show l = (str l).data.toList from rfl, this]
  simpa using h
theorem is_beq {s : ByteArray} {l : List UInt8} (h : s = str l) : (s.toList == l) = true := by
  have := beq_str s (str l)
  rw [Lib.toList_data (str l)] at this
  rw [show l = (str l).data.toList from rfl, this]
  simpa using h
theorem ne_empty {s : ByteArray} (h : s ≠ str []) : s.toList.isEmpty = false := by
  rw [isEmpty_iff]
  simpa [eq_str] using h
theorem is_empty {s : ByteArray} (h : s = str []) : s.toList.isEmpty = true := by
  rw [isEmpty_iff]
  simpa [eq_str] using h
theorem str_ne {a b : List UInt8} (h : a ≠ b) {s : ByteArray} (e : s = str a) : s ≠ str b := by
  rw [e]
  intro e2
  exact h (by have := congrArg (fun x : ByteArray => x.data.toList) e2; simpa [str] using this)

end Go.Proofs.YtnbdcjohibfjaaaGreatDoor
