/- How many pairs a parameter holds. -/
import Derived.Test.YtjoedgkmpklhfaaExW
namespace Go.Proofs.Ytjoedgkmpklhfaa
open Go.RowKit Go.Joins Go.ChangeShapes Go.WideShapes Go.ChangeAt Go.Deep

theorem bulk_count {H : Type} (l : List (DataW H)) (h : ∀ x ∈ l, 1 ≤ Rows.uptoBulk x) : l.length ≤ Rows.uptoBulkAll l := by
  induction l with
  | nil => exact Nat.zero_le _
  | cons y l ih =>
    rw [Rows.uptoBulkAll, List.length_cons]
    have h1 := h y (by simp)
    have h2 := ih (fun x hx => h x (by simp [hx]))
    omega
set_option maxRecDepth 100000 in
theorem open_pairs_len {H : Type} {enc : TypeId × Value → H} {W : World} {A : Option Addr} {n c : Nat} {d : DataW H} {p : List MemPlace} (h : DataW.Trod enc Try.prog W 0 (fun _ => true) true 28 (.slice A n c) d p) : n < Rows.uptoBulk d := by
  obtain ⟨fuel, hf⟩ := h
  have k2 : Try.prog.cellsOf 35 = 2 := by kernel_rfl
  rcases open_slice Try.underlying28 hf with ⟨hcs, hx⟩ | ⟨a, len, cap, m, n', D, Pl, hcs, _, hl, hm, hmm, hx, hi⟩
  · simp only [Prod.mk.injEq] at hx
    have : n = 0 := by simp [Value.cells] at hcs; exact hcs.2.1
    rw [hx.1, Rows.uptoBulk, this]; exact Nat.zero_lt_one
  · rw [k2] at hi
    have hml : len ≤ m := by rw [hmm]; split <;> omega
    simp only [Prod.mk.injEq] at hx
    have hn : n = len := by simp [Value.cells] at hcs; exact hcs.2.1
    have hD : ∀ x ∈ (List.range len).map D, 1 ≤ Rows.uptoBulk x := by
      intro x hx'
      obtain ⟨i, hil, rfl⟩ := List.mem_map.1 hx'
      obtain ⟨cs, h1, h2⟩ := hi i (by have := List.mem_range.1 hil; omega)
      obtain ⟨_, hlen, _⟩ := World.cells?_some h1
      obtain ⟨q, _, _, _, m3, _⟩ := pair_of hlen h2
      dsimp only at m3
      omega
    have := bulk_count _ hD
    rw [List.length_map, List.length_range] at this
    rw [hx.1, Rows.uptoBulk, hn]
    omega
end Go.Proofs.Ytjoedgkmpklhfaa
