/- slices.Reverse over lines, by the shelf's contract. -/
import Derived.Test.YtfjfhbmbngogpaaBlI
import Derived.Shelf.SlicesQ.Reverse
import Derived.Ground.SlgnProg
namespace Go.Proofs.Ytfjfhbmbngogpaa
open Go.RowKit Go.Shelf Go.Lib

def reverseLn_ren : Go.Shelf.Ren := ⟨fun | 35 => 17 | n => n, fun | 22 => 22 | 23 => 30 | 3 => 3 | 4 => 4 | 0 => 0 | n => n, fun | n => n⟩
theorem reverseLn : Go.Proofs.SlLaysE0.n35 Try.prog reverseLn_ren := {
  mixed := by kernel_rfl
  f35 := ⟨Try.f17.name, by decide, Try.func17.trans (congrArg some (by kernel_rfl))⟩
  t0 := Try.underlying0
  a0 := Try.isAgg0
  z0 := Try.sizeOf0
  v0 := Try.zeroValue0
  t3 := Try.underlying3
  a3 := Try.isAgg3
  z3 := Try.sizeOf3
  v3 := Try.zeroValue3
  t4 := Try.underlying4
  a4 := Try.isAgg4
  z4 := Try.sizeOf4
  v4 := Try.zeroValue4
  t22 := Try.underlying22
  a22 := Try.isAgg22
  z22 := Try.sizeOf22
  v22 := Try.zeroValue22 }

instance : Inhabited Ln := ⟨⟨[], [], [], 0⟩⟩
theorem lnCells_len (x : Ln) : (lnCells x).length = 4 := rfl
theorem lnCells_one (x : Ln) : ∀ v ∈ lnCells x, v.oneCell' = true := by
  intro v hv
  simp [lnCells] at hv
  rcases hv with rfl | rfl | rfl | rfl <;> rfl
theorem flat_at (l : List Ln) (j : Nat) (h : j < l.length * 4) : (lns l)[j]? = some (Go.Sort.flatK lnCells 4 l.toArray)[j]! := by
  have hk : j / 4 < l.length := by omega
  have hd : j = j / 4 * 4 + j % 4 := by omega
  rw [Go.Sort.get_flatK _ _ _ _ (by simpa using h)]
  have hg := lns_get l (j / 4) l[j / 4] (List.getElem?_eq_getElem hk) (j % 4) (by omega)
  rw [← hd] at hg
  have hx : l.toArray[j / 4]! = l[j / 4] := by simp [hk]
  rw [hg, hx, getElem!_pos (lnCells l[j / 4]) (j % 4) (by rw [lnCells_len]; omega), List.getElem?_eq_getElem (by rw [lnCells_len]; omega)]
theorem holds_lines {w : World} {g : Nat} {t : TypeId} {cs : Array Value} {l : List Ln} (hb : Blk w g t cs) (hc : ∀ j u, (lns l)[j]? = some u → w.cell? ⟨g, j, none⟩ = some u) : Go.Sort.HoldsK lnCells 4 w g 0 l.toArray := by
  intro j hj
  rw [Go.Sort.size_flatK, List.size_toArray] at hj
  rw [Nat.zero_add]
  exact ⟨hc j _ (flat_at l j hj), hb.frozen j⟩
theorem add_cellO' (g j : Nat) : (⟨g, 0, none⟩ : Addr).add j = ⟨g, j, none⟩ := by unfold Addr.add; split <;> simp_all
theorem lines_of_holds {w : World} {g : Nat} {l : List Ln} (h : Go.Sort.HoldsK lnCells 4 w g 0 l.toArray) (j : Nat) (u : Value) (hj : (lns l)[j]? = some u) : w.cell? ((⟨g, 0, none⟩ : Addr).add j) = some u := by
  have hjl : j < l.length * 4 := by
    rcases Nat.lt_or_ge j (l.length * 4) with h' | h'
    · exact h'
    · rw [List.getElem?_eq_none (by rw [lns_length]; exact h')] at hj; cases hj
  have := (h j (by rw [Go.Sort.size_flatK, List.size_toArray]; exact hjl)).1
  rw [Nat.zero_add] at this
  rw [flat_at l j hjl] at hj
  rw [add_cellO', this]
  exact hj
theorem heap_putRowK_other (w : World) (g off : Nat) (d : Array Ln) (i : Nat) (h : i ≠ g) : (Go.Sort.putRowK lnCells 4 w g off d).heap[i]? = w.heap[i]? := by
  unfold Go.Sort.putRowK Go.Sort.putRow Go.Sort.mapBlock
  simp only [Array.getElem?_modify]
  rw [if_neg (Ne.symm h)]
theorem size_putRowK (w : World) (g off : Nat) (d : Array Ln) : (Go.Sort.putRowK lnCells 4 w g off d).heap.size = w.heap.size := by
  unfold Go.Sort.putRowK Go.Sort.putRow Go.Sort.mapBlock
  simp
/-- A row that owns its block, turned about: all other blocks stand as they stood. -/
def RevP (w : World) (A : Option Addr) (n : Nat) (l : List Ln) (e : Ending) (w' : World) : Prop :=
  e = .returned (.tuple #[]) ∧ LnsAt w' w'.heap.size A n l.reverse ∧ ∀ B, (∀ ad, A = some ad → B ≤ ad.block) → Below B w w'
theorem reverse_none (c : Nat) (w : World) : Calls Try.prog 17 #[.slice none 0 c] w (RevP w none 0 []) :=
  (@AnyQ.slices_Reverse_empty _ _ reverseLn none c w).mono fun e w' h => by
    obtain ⟨rfl, rfl⟩ := h
    exact ⟨rfl, LnsAt.none_, fun B _ => Below.refl _ _⟩
theorem reverse_some (g n c : Nat) (l : List Ln) (w : World) (hl : l.length = n) (hn : n ≤ maxLen) (hg : g < w.heap.size) (h : Go.Sort.HoldsK lnCells 4 w g 0 l.toArray) :
    Calls Try.prog 17 #[.slice (some ⟨g, 0, none⟩) n c] w (RevP w (some ⟨g, 0, none⟩) n l) := by
  subst hl
  have hs : l.toArray.size ≤ 9223372036854775807 := by unfold maxLen at hn; simp; omega
  refine (AnyQ.slices_Reverse reverseLn 4 Try.isAgg30 Try.sizeOf30 lnCells lnCells_len lnCells_one g 0 c l.toArray w h hs).mono fun e w' hp => ?_
  obtain ⟨rfl, k, rfl⟩ := hp
  have hh : Go.Sort.HoldsK lnCells 4 (Go.Sort.putRowK lnCells 4 (Go.Sort.ahead w k) g 0 l.toArray.reverse) g 0 l.reverse.toArray := by
    have := Go.Sort.holdsK_putRowK lnCells 4 (Go.Sort.ahead w k) g 0 l.toArray l.toArray.reverse (Go.Sort.holdsK_ahead lnCells 4 w k g 0 l.toArray h) (by simp)
    simpa using this
  refine ⟨rfl, ⟨by simp, hn, fun _ => ⟨_, rfl, by rw [size_putRowK]; exact hg, lines_of_holds hh⟩⟩, fun B hB => ?_⟩
  have := hB _ rfl
  exact ⟨rfl, rfl, rfl, by rw [size_putRowK]; exact Nat.le_refl _, fun i hi => by rw [heap_putRowK_other _ _ _ _ _ (by simp at this; omega)]; rfl⟩
end Go.Proofs.Ytfjfhbmbngogpaa
