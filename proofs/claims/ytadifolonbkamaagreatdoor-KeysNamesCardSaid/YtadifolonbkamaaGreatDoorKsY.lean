/- A parameter that is a row of texts: opened to what it holds, its texts no longer than a machine's memory, and read again in any later memory. -/
import Derived.Test.YtadifolonbkamaaGreatDoorKsZ
namespace Go.Proofs.YtadifolonbkamaaGreatDoor
open Go.RowKit Go.Joins Go.ChangeShapes Go.WideShapes Go.ChangeAt Go.Deep

theorem cells_string : Tryz.prog.cellsOf 9 = 1 := by kernel_rfl
set_option maxRecDepth 100000 in
theorem open_strs_sized {H : Type} {enc : TypeId × Value → H} {W : World} {base : Nat} {v : Value} {d : DataW H} {p : List MemPlace} (hv : Value.okWide Tryz.prog W .any base 26 v)
    (h : DataW.Trod enc Tryz.prog W 0 (fun _ => true) true 26 v d p) (hw : ∀ k ∈ d.weights Tryz.prog 26, k ≤ reachBytes) :
    ∃ (A : Option Addr) (n c : Nat) (l : List (List UInt8)), v = .slice A n c ∧ n ≤ c ∧ RowAt W W.heap.size A n l ∧ (∀ x ∈ l, x.length ≤ 140737488355328) := by
  obtain ⟨a0, len, cap, rfl⟩ := okWide_slice Tryz.underlying26 hv
  obtain ⟨fuel, hf⟩ := h
  rcases open_strs Tryz.underlying26 Tryz.underlying9 cells_string hf with ⟨hcs, hx⟩ | ⟨a, len', cap', m, Sx, hcs, _, hl, hm, hmm, hx, hcell⟩
  · simp [Value.cells] at hcs
    obtain ⟨rfl, rfl, rfl⟩ := hcs
    simp only [Prod.mk.injEq] at hx
    obtain ⟨rfl, rfl⟩ := hx
    exact ⟨none, 0, 0, [], rfl, Nat.le_refl _, RowAt.none_, by simp⟩
  simp [Value.cells] at hcs
  obtain ⟨rfl, rfl, rfl⟩ := hcs
  simp only [Prod.mk.injEq] at hx
  obtain ⟨rfl, rfl⟩ := hx
  simp only [if_true] at hmm
  have hmm' : cap = m := hmm.symm
  subst hmm'
  have hlen : ((List.range len).map fun i => (Sx i).data.toList).length = len := by simp
  have hget : ∀ j x, ((List.range len).map fun i => (Sx i).data.toList)[j]? = some x → j < len ∧ x = (Sx j).data.toList := by
    intro j x hj
    rw [List.getElem?_map] at hj
    rcases Nat.lt_or_ge j len with h | h
    · rw [List.getElem?_range h] at hj
      injection hj with hj
      exact ⟨h, hj.symm⟩
    · rw [List.getElem?_eq_none (by simpa using h)] at hj; cases hj
  have hmem : ∀ x ∈ ((List.range len).map fun i => (Sx i).data.toList), ∃ j, j < len ∧ x = (Sx j).data.toList := by
    intro x hx
    obtain ⟨j, hj, rfl⟩ := List.mem_map.1 hx
    exact ⟨j, List.mem_range.1 hj, rfl⟩
  refine ⟨some a, len, cap, (List.range len).map fun i => (Sx i).data.toList, rfl, hl, ⟨hlen, by unfold maxLen at *; omega, fun h0 => ⟨a, rfl, ?_, fun j x hj => ?_⟩⟩, ?_⟩
  · have h1 := (hcell 0 (by omega)).1
    rcases Nat.lt_or_ge a.block W.heap.size with h' | h'
    · exact h'
    · exfalso
      have e : (a.add 0) = a := by simp [Addr.add]
      rw [e] at h1
      simp [World.cell?, Array.getElem?_eq_none h'] at h1
  · obtain ⟨hj1, rfl⟩ := hget j x hj
    rw [str_data]
    exact (hcell j (by omega)).1
  · intro x hx
    obtain ⟨j, hj, rfl⟩ := hmem x hx
    have b := reachBytes_lt
    have h1 := hw (Sx j).data.toList.length (by
      rw [DataW.weights, Tryz.underlying26]
      refine List.mem_cons_of_mem _ (List.mem_append_left _ (weights_all (d := .lit (.string (Sx j).data.toList)) (List.mem_map.2 ⟨j, List.mem_range.2 hj, rfl⟩) ?_))
      simp [DataW.weights])
    omega
theorem shut_strs {H : Type} {enc : TypeId × Value → H} {W W' : World} {v : Value} {d : DataW H} {ps : List MemPlace} {sp : Nat → Bool} (h : DataW.Trod enc Tryz.prog W 0 (fun _ => true) true 26 v d ps) (hb : Below W.heap.size W W') (hlt : ∀ p ∈ ps, p.block < W.heap.size) (hs : ∀ p ∈ ps, sp p.block = true) :
    DataW.Trod enc Tryz.prog W' 0 sp true 26 v d ps :=
  WideElems.Trod_stays (by kernel_rfl) (by kernel_rfl) (of_decide_eq_true (by kernel_rfl)) h (same_belowP hb hlt) hs
end Go.Proofs.YtadifolonbkamaaGreatDoor
