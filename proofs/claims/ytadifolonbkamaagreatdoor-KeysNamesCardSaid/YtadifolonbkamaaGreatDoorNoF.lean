/- The walks of package name's Template, Instance, Change. -/
import Derived.Test.YtadifolonbkamaaGreatDoorNoE
import Derived.Laws.StructEq
namespace Go.Proofs.YtadifolonbkamaaGreatDoor.Nm
open Go.RowKit

theorem preP_size (s : ByteArray) : (preP s).size ≤ 60 := by
  unfold preP
  split
  · rename_i h
    unfold goodP at h
    simp only [Bool.and_eq_true, decide_eq_true_eq] at h
    have h1 := (cutAt_size (headP s)).1
    have h2 : (headP s).size ≤ s.size := by unfold headP; rw [ByteArray.size_extract]; omega
    omega
  · exact Nat.zero_le _
theorem instP_size (s : ByteArray) : (instP s).size ≤ 60 := by
  unfold instP
  split
  · rename_i h
    unfold goodP at h
    simp only [Bool.and_eq_true, decide_eq_true_eq] at h
    have h1 := (cutAt_size (headP s)).2
    have h2 : (headP s).size ≤ s.size := by unfold headP; rw [ByteArray.size_extract]; omega
    omega
  · exact Nat.zero_le _
theorem joinS_size (p i : ByteArray) (a : Bool) (k : Int) : (joinS p i a k).size ≤ p.size + i.size + 9 := by
  have := sfx_length k
  have h2 : (str (sfx k)).size ≤ 7 := this
  unfold joinS
  rw [ByteArray.size_append, ByteArray.size_append]
  have e1 : (⟨#[46]⟩ : ByteArray).size = 1 := rfl
  have e2 : (⟨#[64]⟩ : ByteArray).size = 1 := rfl
  split
  · rw [ByteArray.size_append, ByteArray.size_append]; omega
  · omega

theorem below_more {B : Nat} {a W w2 : World} (h : Below B a W) (hB : B ≤ W.heap.size) (h2 : Below W.heap.size W w2) : Below B a w2 := h.trans (h2.mono hB)

/-- The template of an instance. -/
def tmplS (s : ByteArray) : ByteArray := if (instP s).toList.isEmpty = true then ⟨#[]⟩ else joinS (preP s) ⟨#[]⟩ (atP s) (kindP s)

/-- The name with another kind's suffix. -/
def chgS (s : ByteArray) (k : Int) : ByteArray := if goodP s = true ∧ (str (sfx k)).toList.isEmpty = false ∧ goodP (joinS (preP s) (instP s) (atP s) k) = true then joinS (preP s) (instP s) (atP s) k else ⟨#[]⟩

/-- A block that is known whole. -/
def Blk (w : World) (g : Nat) (t : TypeId) (cs : Array Value) : Prop := w.heap[g]? = some (.cells cs t (0, 0))
theorem Blk.lt {w : World} {g : Nat} {t : TypeId} {cs : Array Value} (h : Blk w g t cs) : g < w.heap.size := by
  rcases Nat.lt_or_ge g w.heap.size with hlt | hge
  · exact hlt
  · unfold Blk at h; rw [Array.getElem?_eq_none hge] at h; cases h
theorem Blk.new (w : World) (t : TypeId) (cs : Array Value) : Blk (w.alloc (.cells cs t)) w.heap.size t cs := heap_alloc_new w _
theorem Blk.below {w w' : World} {g : Nat} {t : TypeId} {cs : Array Value} (h : Blk w g t cs) (hb : Below w.heap.size w w') : Blk w' g t cs := (hb.block g h.lt).trans h
theorem Blk.alloc {w : World} {g : Nat} {t : TypeId} {cs : Array Value} (h : Blk w g t cs) (o : Obj) : Blk (w.alloc o) g t cs := (Below.heap_alloc w o g h.lt).trans h
theorem Blk.set_ {w : World} {g : Nat} {t : TypeId} {cs : Array Value} (h : Blk w g t cs) (i : Nat) (u : Value) : Blk (w.setCell ⟨g, i, none⟩ u) g t (cs.setIfInBounds i u) := by
  unfold Blk at h ⊢
  simp [World.setCell, Array.getElem?_modify, h]
theorem Blk.four {w : World} {g : Nat} {t : TypeId} {a b c d : Value} (h : Blk w g t #[a, b, c, d]) :
    w.cell? ⟨g, 0, none⟩ = some a ∧ w.cell? ⟨g, 1, none⟩ = some b ∧ w.cell? ⟨g, 2, none⟩ = some c ∧ w.cell? ⟨g, 3, none⟩ = some d ∧ w.frozen? ⟨g, 0, none⟩ = false ∧ w.frozen? ⟨g, 1, none⟩ = false ∧ w.frozen? ⟨g, 2, none⟩ = false ∧ w.frozen? ⟨g, 3, none⟩ = false :=
  ⟨Lib.cell_of_heap h 0, Lib.cell_of_heap h 1, Lib.cell_of_heap h 2, Lib.cell_of_heap h 3, Lib.frozen_of_heap h 0, Lib.frozen_of_heap h 1, Lib.frozen_of_heap h 2, Lib.frozen_of_heap h 3⟩

/-- The instance of a template, before it is looked at. -/
def insJ (t i : ByteArray) : ByteArray := joinS (preP t) i (atP t) (kindP t)

/-- Has the template an instance of this instance string? -/
def insOk (t i : ByteArray) : Bool := (atP t && (instP t).toList.isEmpty) && !i.toList.isEmpty && goodP (insJ t i) && ((preP (insJ t i)).toList == (preP t).toList) && ((instP (insJ t i)).toList == i.toList) && atP (insJ t i) && (kindP (insJ t i) == kindP t)
def insS (t i : ByteArray) : ByteArray := if insOk t i = true then insJ t i else ⟨#[]⟩

end Go.Proofs.YtadifolonbkamaaGreatDoor.Nm
