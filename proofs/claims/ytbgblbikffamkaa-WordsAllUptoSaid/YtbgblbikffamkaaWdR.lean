/- A parameter that is a row of texts: opened to its texts, and read again in any later memory. -/
import Derived.Test.YtbgblbikffamkaaRows
import Derived.Test.YtbgblbikffamkaaWdT
import Derived.ProofKit
import Derived.OpenShut
import Derived.Deep.Strs
namespace Go.Proofs.Ytbgblbikffamkaa
open Go.RowKit Go.ChangeShapes Go.WideShapes Go.ChangeAt Go.Deep

theorem cells_string : Try.prog.cellsOf 9 = 1 := by kernel_rfl
theorem bulk_mem {H : Type} {x : DataW H} {l : List (DataW H)} (h : x ∈ l) : Rows.uptoBulk x ≤ Rows.uptoBulkAll l := by
  induction l with
  | nil => cases h
  | cons y l ih =>
    rw [Rows.uptoBulkAll]
    rcases List.mem_cons.1 h with rfl | h
    · omega
    · have := ih h; omega
theorem open_strs_par {H : Type} {enc : TypeId × Value → H} {W : World} {base : Nat} {v : Value} {d : DataW H} {p : List MemPlace} (hv : Value.okWide Try.prog W .any base 22 v)
    (h : DataW.Trod enc Try.prog W 0 (fun _ => true) true 22 v d p) :
    ∃ (A : Option Addr) (n c : Nat) (l : List (List UInt8)), v = .slice A n c ∧ n ≤ c ∧ RowAt W W.heap.size A n l ∧ (∀ x ∈ l, x.length ≤ maxLen) ∧ (∀ x ∈ l, x.length < Rows.uptoBulk d) ∧ l.length < Rows.uptoBulk d ∧
      ∀ (W' : World) (sp : Nat → Bool), Below W.heap.size W W' → (∀ q ∈ p, sp q.block = true) → DataW.Trod enc Try.prog W' 0 sp true 22 v d p := by
  obtain ⟨a0, len, cap, rfl⟩ := okWide_slice Try.underlying22 hv
  obtain ⟨fuel, hf⟩ := h
  rcases open_strs Try.underlying22 Try.underlying9 cells_string hf with ⟨hcs, hx⟩ | ⟨a, len', cap', m, Sx, hcs, _, hl, hm, hmm, hx, hcell⟩
  · simp [Value.cells] at hcs
    obtain ⟨rfl, rfl, rfl⟩ := hcs
    simp only [Prod.mk.injEq] at hx
    obtain ⟨rfl, rfl⟩ := hx
    refine ⟨none, 0, 0, [], rfl, Nat.le_refl _, RowAt.none_, by simp, by simp, by rw [Rows.uptoBulk]; exact Nat.zero_lt_one, fun W' sp _ _ => ?_⟩
    exact shut_slice_nil Try.underlying22
  simp [Value.cells] at hcs
  obtain ⟨rfl, rfl, rfl⟩ := hcs
  simp only [Prod.mk.injEq] at hx
  obtain ⟨rfl, rfl⟩ := hx
  simp only [if_true] at hmm
  have hmm' : cap = m := hmm.symm
  subst hmm'
  have hlen : ((List.range len).map fun i => (Sx i).data.toList).length = len := by simp
  have hget : ∀ j x, ((List.range len).map fun i => (Sx i).data.toList)[j]? = some x → j < len ∧ x = (Sx j).data.toList := by
    intro j x hj
    rw [List.getElem?_map] at hj
    rcases Nat.lt_or_ge j len with h | h
    · rw [List.getElem?_range h] at hj
      injection hj with hj
      exact ⟨h, hj.symm⟩
    · rw [List.getElem?_eq_none (by simpa using h)] at hj; cases hj
  have hmem : ∀ x ∈ ((List.range len).map fun i => (Sx i).data.toList), ∃ j, j < len ∧ x = (Sx j).data.toList := by
    intro x hx
    obtain ⟨j, hj, rfl⟩ := List.mem_map.1 hx
    exact ⟨j, List.mem_range.1 hj, rfl⟩
  have hbu : ∀ j, j < len → (Sx j).data.toList.length < Rows.uptoBulk (DataW.slice (H := H) ((List.range len).map fun i => .lit (.string (Sx i).data.toList)) ((List.range (cap - len)).map fun j => .lit (.string (Sx (len + j)).data.toList))) := by
    intro j hj
    rw [Rows.uptoBulk]
    have := bulk_mem (H := H) (x := .lit (.string (Sx j).data.toList)) (l := (List.range len).map fun i => .lit (.string (Sx i).data.toList)) (List.mem_map.2 ⟨j, List.mem_range.2 hj, rfl⟩)
    rw [Rows.uptoBulk] at this
    omega
  have hbl : len < Rows.uptoBulk (DataW.slice (H := H) ((List.range len).map fun i => .lit (.string (Sx i).data.toList)) ((List.range (cap - len)).map fun j => .lit (.string (Sx (len + j)).data.toList))) := by
    rw [Rows.uptoBulk]
    have hg : ∀ l : List (DataW H), (∀ x ∈ l, 1 ≤ Rows.uptoBulk x) → l.length ≤ Rows.uptoBulkAll l := by
      intro l
      induction l with
      | nil => intro _; simp
      | cons y l ih =>
        intro hh
        rw [Rows.uptoBulkAll, List.length_cons]
        have h1 := hh y (by simp)
        have h2 := ih (fun x hx => hh x (by simp [hx]))
        omega
    have := hg ((List.range len).map fun i => .lit (.string (Sx i).data.toList)) (fun x hx => by
      obtain ⟨j, _, rfl⟩ := List.mem_map.1 hx
      rw [Rows.uptoBulk]; omega)
    rw [List.length_map, List.length_range] at this
    omega
  refine ⟨some a, len, cap, (List.range len).map fun i => (Sx i).data.toList, rfl, hl, ⟨hlen, by unfold maxLen at *; omega, fun h0 => ⟨a, rfl, ?_, fun j x hj => ?_⟩⟩, ?_, ?_, by rw [hlen]; exact hbl, ?_⟩
  · have h1 := (hcell 0 (by omega)).1
    rcases Nat.lt_or_ge a.block W.heap.size with h' | h'
    · exact h'
    · exfalso
      have e : (a.add 0) = a := by simp [Addr.add]
      rw [e] at h1
      simp [World.cell?, Array.getElem?_eq_none h'] at h1
  · obtain ⟨hj1, rfl⟩ := hget j x hj
    rw [str_data]
    exact (hcell j (by omega)).1
  · intro x hx
    obtain ⟨j, hj, rfl⟩ := hmem x hx
    have := (hcell j (by omega)).2
    rw [size_list]; exact this
  · intro x hx
    obtain ⟨j, hj, rfl⟩ := hmem x hx
    exact hbu j hj
  · intro W' sp hb hsp
    obtain ⟨b, off, spot⟩ := a
    by_cases hc0 : cap = 0
    · subst hc0
      have hlen0 : len = 0 := by omega
      subst hlen0
      have targ : ∃ n, DataW.trod enc Try.prog W' 0 sp true n 22 [.slice (some ⟨b, off, spot⟩) 0 0] = some (.slice [] [], []) := by
        cases hs : sp b
        · simpa [MemPlace.row] using shut_slice_cells (enc := enc) (w := W') (base := 0) (spare := sp) (held := true) (a := ⟨b, off, spot⟩) (len := 0) (cap := 0) Try.underlying22 (Nat.zero_le _) (Nat.le_refl _) (Nat.zero_le _) hs (fun _ => .nil) (fun _ => []) (fun i hi => absurd hi (Nat.not_lt_zero _))
        · simpa [MemPlace.row] using shut_slice_whole_cells (enc := enc) (w := W') (base := 0) (spare := sp) (held := true) (a := ⟨b, off, spot⟩) (len := 0) (cap := 0) Try.underlying22 (Nat.zero_le _) (Nat.le_refl _) (Nat.zero_le _) hs (fun _ => .nil) (fun _ => []) (fun i hi => absurd hi (Nat.not_lt_zero _))
      obtain ⟨n, hn⟩ := targ
      exact ⟨n, by simpa [Value.cells, MemPlace.row] using hn⟩
    · have hspot : spot = none := by simpa [Addr.add] using World.cell?_spot (hcell 0 (by omega)).1
      subst hspot
      have mrow : ∀ j, j < cap → MemPlace.cell b (off + j) ∈ MemPlace.row ⟨b, off, none⟩ cap := fun j hj => MemPlace.mem_row.2 ⟨j, hj, rfl⟩
      have hsb : sp b = true := hsp _ (mrow 0 (by omega))
      have hlt : b < W.heap.size := by
        have h1 := (hcell 0 (by omega)).1
        rcases Nat.lt_or_ge b W.heap.size with h' | h'
        · exact h'
        · exfalso
          simp [Addr.add, World.cell?, Array.getElem?_eq_none h'] at h1
      obtain ⟨n, hn⟩ := shut_strs_whole (enc := enc) (w := W') (base := 0) (spare := sp) (held := true) Try.underlying22 Try.underlying9 cells_string (b := b) (off := off) (len := len) (cap := cap) (Nat.zero_le _) hl hm hsb Sx
        (fun j hj => by rw [hb.cell (p := ⟨b, off + j, none⟩) hlt, ← add_plain]; exact (hcell j hj).1) (fun j hj => (hcell j hj).2)
      exact ⟨n, by simpa [Value.cells] using hn⟩
end Go.Proofs.Ytbgblbikffamkaa
