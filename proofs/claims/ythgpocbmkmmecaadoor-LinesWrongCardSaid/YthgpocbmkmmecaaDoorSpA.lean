/- The walk of the document's own Blanks: the words of a text. -/
import Derived.Test.YthgpocbmkmmecaaDoorSpK
import Derived.Deep.DeepCutAuto
import Derived.Deep.CutBlock
import Derived.Deep.LoopGhost
import Derived.Outline
namespace Go.Proofs.YthgpocbmkmmecaaDoor
open Go.RowKit

theorem new_cell (w : World) (t : TypeId) (v : Value) : (w.alloc (.cells #[v] t)).cell? ⟨w.heap.size, 0, none⟩ = some v := by simp
theorem owns_drewN {w : World} {base : Nat} {e : TypeId} {size : Nat} {v : Value} {n : Nat} {xs : List Value} (h : w.ownsRow base e size v n xs) (k : Nat) : (w.drewN k).ownsRow base e size v n xs := h

def wcells (ls : List (List UInt8)) : List Value := ls.map fun l => Value.string (str l)
theorem wcells_length (ls : List (List UInt8)) : (wcells ls).length = ls.length := by simp [wcells]
theorem wcells_app (a b : List (List UInt8)) : wcells (a ++ b) = wcells a ++ wcells b := by simp [wcells]

/-- What the loop knows at place i: these words are done, this one has begun. -/
def bAt (s by_ : ByteArray) (i : Nat) (done : List (List UInt8)) (w : List UInt8) : Prop :=
  if i ≤ s.size then blanksL by_.data.toList s.data.toList = done ++ bgo by_.data.toList w (s.data.toList.drop i) else blanksL by_.data.toList s.data.toList = done ∧ w = []
theorem bAt_zero (s by_ : ByteArray) : bAt s by_ 0 [] [] := by
  unfold bAt
  rw [if_pos (Nat.zero_le _), List.drop_zero]
  rfl
theorem bAt_in {s by_ : ByteArray} {i : Nat} {done : List (List UInt8)} {w : List UInt8} (h : bAt s by_ i done w) (hi : i < s.size) (hc : by_.data.toList.contains s[i] = false) : bAt s by_ (i + 1) done (w ++ [s[i]]) := by
  unfold bAt at *
  rw [if_pos (by omega)] at h
  rw [if_pos (by omega), h, drop_at s i hi, bgo, if_neg (by rw [hc]; simp)]
theorem bAt_gap {s by_ : ByteArray} {i : Nat} {done : List (List UInt8)} (h : bAt s by_ i done []) (hi : i < s.size) (hc : by_.data.toList.contains s[i] = true) : bAt s by_ (i + 1) done [] := by
  unfold bAt at *
  rw [if_pos (by omega)] at h
  rw [if_pos (by omega), h, drop_at s i hi, bgo, if_pos hc, if_pos rfl]
theorem bAt_word {s by_ : ByteArray} {i : Nat} {done : List (List UInt8)} {w : List UInt8} (h : bAt s by_ i done w) (hi : i < s.size) (hc : by_.data.toList.contains s[i] = true) (hw : w ≠ []) : bAt s by_ (i + 1) (done ++ [w]) [] := by
  unfold bAt at *
  rw [if_pos (by omega)] at h
  rw [if_pos (by omega), h, drop_at s i hi, bgo, if_pos hc, if_neg hw, List.append_assoc]
  rfl
theorem bAt_end0 {s by_ : ByteArray} {i : Nat} {done : List (List UInt8)} (h : bAt s by_ i done []) (hi : i = s.size) : bAt s by_ (i + 1) done [] := by
  unfold bAt at *
  rw [if_pos (by omega)] at h
  rw [if_neg (by omega), h, List.drop_of_length_le (by simp; omega), bgo, if_pos rfl, List.append_nil]
  exact ⟨rfl, rfl⟩
theorem bAt_end {s by_ : ByteArray} {i : Nat} {done : List (List UInt8)} {w : List UInt8} (h : bAt s by_ i done w) (hi : i = s.size) (hw : w ≠ []) : bAt s by_ (i + 1) (done ++ [w]) [] := by
  unfold bAt at *
  rw [if_pos (by omega)] at h
  rw [if_neg (by omega), h, List.drop_of_length_le (by simp; omega), bgo, if_neg hw]
  exact ⟨rfl, rfl⟩
theorem bAt_done {s by_ : ByteArray} {i : Nat} {done : List (List UInt8)} {w : List UInt8} (h : bAt s by_ i done w) (hi : s.size < i) : blanksL by_.data.toList s.data.toList = done := by
  unfold bAt at h
  rw [if_neg (by omega)] at h
  exact h.1
/-- Does a byte stand among the first j of by? -/
def inBy (by_ : ByteArray) (j : Nat) (c : UInt8) : Bool := (by_.data.toList.take j).contains c
theorem inBy_succ (by_ : ByteArray) (j : Nat) (c : UInt8) (h : j < by_.size) : inBy by_ (j + 1) c = (inBy by_ j c || ((c.toNat : Int) == (by_[j].toNat : Int))) := by
  unfold inBy
  rw [List.take_succ_eq_append_getElem (by simpa using h)]
  rw [List.contains_eq_any_beq, List.contains_eq_any_beq, List.any_append]
  congr 1
  rw [Bool.eq_iff_iff]
  simp only [List.any_cons, List.any_nil, Bool.or_false, beq_iff_eq]
  constructor
  · intro e; rw [e]; rfl
  · intro e
    have : c = by_[j] := UInt8.toNat_inj.1 (by omega)
    rw [this]; rfl
theorem inBy_all (by_ : ByteArray) (j : Nat) (c : UInt8) (h : by_.size ≤ j) : inBy by_ j c = by_.data.toList.contains c := by
  unfold inBy
  rw [List.take_of_length_le (by simpa using h)]

def BlanksPost (s by_ : ByteArray) (w : World) (e : Ending) (w' : World) : Prop :=
  ∃ v, e = .returned v ∧ w'.ownsRow w.heap.size 9 1 v (blanksL by_.data.toList s.data.toList).length (wcells (blanksL by_.data.toList s.data.toList)) ∧ Below w.heap.size w w'

theorem strInfo : (Tryd.prog.info? 9).map (fun i => (i.zero, i.size, i.bytes)) = some (some (.string ⟨#[]⟩), 1, 16) := by kernel_rfl

end Go.Proofs.YthgpocbmkmmecaaDoor
