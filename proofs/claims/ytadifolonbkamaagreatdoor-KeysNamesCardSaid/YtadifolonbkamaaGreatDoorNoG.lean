/- The walk of package name's Escape. -/
import Derived.Test.YtadifolonbkamaaGreatDoorNoF
namespace Go.Proofs.YtadifolonbkamaaGreatDoor.Nm
open Go.RowKit

/-- The digits of a byte. -/
def hexDig (n : Nat) : UInt8 := if n < 10 then (48 + n).toUInt8 else (87 + n).toUInt8
/-- A byte escaped; 'f': it is the first. -/
def escB (f : Bool) (c : UInt8) : List UInt8 :=
  if c = 47 then [45] else if plainB c.toNat = true ∧ (c ≠ 46 ∨ f = false) then [c] else [92, 120, hexDig (c.toNat / 16), hexDig (c.toNat % 16)]
def escL : Bool → List UInt8 → List UInt8
  | _, [] => []
  | f, c :: r => escB f c ++ escL false r
def escS (s : ByteArray) : ByteArray := str (escL true s.data.toList)

theorem escB_length (f : Bool) (c : UInt8) : (escB f c).length ≤ 4 := by unfold escB; split; simp; split <;> simp
theorem escL_length (f : Bool) (l : List UInt8) : (escL f l).length ≤ 4 * l.length := by
  induction l generalizing f with
  | nil => simp [escL]
  | cons c r ih => have := ih false; have := escB_length f c; simp [escL]; omega
theorem escL_snoc (f : Bool) (l : List UInt8) (c : UInt8) : escL f (l ++ [c]) = escL f l ++ escB (f && l.isEmpty) c := by
  induction l generalizing f with
  | nil => simp [escL]
  | cons d r ih => simp [escL, ih]

def escAt (s : ByteArray) (k : Nat) : List UInt8 := escL true (s.data.toList.take k)
theorem escAt_succ (s : ByteArray) (k : Nat) (h : k < s.size) : escAt s (k + 1) = escAt s k ++ escB (decide (k = 0)) s[k] := by
  unfold escAt
  rw [List.take_succ_eq_append_getElem (by simpa using h), escL_snoc]
  congr 2
  cases k with
  | zero => simp
  | succ k =>
    have : s.data.toList.take (k + 1) ≠ [] := by
      have hl : (s.data.toList.take (k + 1)).length = k + 1 := by
        rw [List.length_take]
        have : s.data.toList.length = s.size := by simp
        omega
      intro e
      rw [e] at hl
      simp at hl
    simpa using this
theorem escAt_length (s : ByteArray) (k : Nat) : (escAt s k).length ≤ 4 * k := by
  have := escL_length true (s.data.toList.take k)
  have h : (s.data.toList.take k).length ≤ k := List.length_take_le _ _
  unfold escAt; omega

theorem hex_get (n : Nat) (h : n < 16) : ((⟨#[48, 49, 50, 51, 52, 53, 54, 55, 56, 57, 97, 98, 99, 100, 101, 102]⟩ : ByteArray)[n]'h) = hexDig n := by
  have H : ∀ m : Fin 16, ((⟨#[48, 49, 50, 51, 52, 53, 54, 55, 56, 57, 97, 98, 99, 100, 101, 102]⟩ : ByteArray)[m.1]'m.2) = hexDig m.1 := by decide
  exact H ⟨n, h⟩

/-- One step of the loop, as the builder has it. -/
theorem escAt_cells (s : ByteArray) (k : Nat) (h : k < s.size) {l : List UInt8} (he : escB (decide (k = 0)) s[k] = l) : Lib.byteCells (escAt s (k + 1)) = Lib.byteCells (escAt s k) ++ Lib.byteCells l := by
  rw [escAt_succ s k h, he, Lib.byteCells_append]
theorem escAt_hex (s : ByteArray) (k : Nat) (h : k < s.size) (hr : s[k].toNat < 256) (he : escB (decide (k = 0)) s[k] = [92, 120, hexDig (s[k].toNat / 16), hexDig (s[k].toNat % 16)]) :
    Lib.byteCells (escAt s (k + 1)) = ((Lib.byteCells (escAt s k) ++ Lib.strCells (⟨#[92, 120]⟩ : ByteArray)) ++ [.int .u8 ((⟨#[48, 49, 50, 51, 52, 53, 54, 55, 56, 57, 97, 98, 99, 100, 101, 102]⟩ : ByteArray)[s[k].toNat / 16]'(by show _ < 16; omega)).toNat]) ++ [.int .u8 ((⟨#[48, 49, 50, 51, 52, 53, 54, 55, 56, 57, 97, 98, 99, 100, 101, 102]⟩ : ByteArray)[s[k].toNat % 16]'(by show _ < 16; omega)).toNat] := by
  rw [escAt_cells s k h he, hex_get _ (by omega), hex_get _ (by omega), List.append_assoc, List.append_assoc]
  rfl
theorem escAt_all (s : ByteArray) (k : Nat) (h : s.size ≤ k) : escS s = ⟨(escAt s k).toArray⟩ := by
  unfold escS escAt
  rw [List.take_of_length_le (by simpa using h)]
  rfl

end Go.Proofs.YtadifolonbkamaaGreatDoor.Nm
