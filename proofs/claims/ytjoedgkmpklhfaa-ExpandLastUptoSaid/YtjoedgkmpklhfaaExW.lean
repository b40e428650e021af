/- A parameter that is a row of texts or of pairs: opened to what it holds, and read again in any later memory. -/
import Derived.Test.YtjoedgkmpklhfaaRows
import Derived.Test.YtjoedgkmpklhfaaExS
import Derived.ProofKit
import Derived.OpenShut
import Derived.Deep.Strs
import Derived.Deep.Slices
import Derived.WideKeyArgs
import Derived.Lib.SmallJoins
namespace Go.Proofs.Ytjoedgkmpklhfaa
open Go.RowKit Go.Joins Go.ChangeShapes Go.WideShapes Go.ChangeAt Go.Deep

theorem cells_string : Try.prog.cellsOf 9 = 1 := by kernel_rfl
theorem bulk_mem {H : Type} {x : DataW H} {l : List (DataW H)} (h : x ∈ l) : Rows.uptoBulk x ≤ Rows.uptoBulkAll l := by
  induction l with
  | nil => cases h
  | cons y l ih =>
    rw [Rows.uptoBulkAll]
    rcases List.mem_cons.1 h with rfl | h
    · omega
    · have := ih h; omega
theorem open_strs_par {H : Type} {enc : TypeId × Value → H} {W : World} {base : Nat} {v : Value} {d : DataW H} {p : List MemPlace} (hv : Value.okWide Try.prog W .any base 27 v)
    (h : DataW.Trod enc Try.prog W 0 (fun _ => true) true 27 v d p) :
    ∃ (A : Option Addr) (n c : Nat) (l : List (List UInt8)), v = .slice A n c ∧ n ≤ c ∧ RowAt W W.heap.size A n l ∧ (∀ x ∈ l, x.length ≤ maxLen) ∧ (∀ x ∈ l, x.length < Rows.uptoBulk d) ∧ l.length < Rows.uptoBulk d ∧
      ∀ (W' : World) (sp : Nat → Bool), Below W.heap.size W W' → (∀ q ∈ p, sp q.block = true) → DataW.Trod enc Try.prog W' 0 sp true 27 v d p := by
  obtain ⟨a0, len, cap, rfl⟩ := okWide_slice Try.underlying27 hv
  obtain ⟨fuel, hf⟩ := h
  rcases open_strs Try.underlying27 Try.underlying9 cells_string hf with ⟨hcs, hx⟩ | ⟨a, len', cap', m, Sx, hcs, _, hl, hm, hmm, hx, hcell⟩
  · simp [Value.cells] at hcs
    obtain ⟨rfl, rfl, rfl⟩ := hcs
    simp only [Prod.mk.injEq] at hx
    obtain ⟨rfl, rfl⟩ := hx
    refine ⟨none, 0, 0, [], rfl, Nat.le_refl _, RowAt.none_, by simp, by simp, by rw [Rows.uptoBulk]; exact Nat.zero_lt_one, fun W' sp _ _ => ?_⟩
    exact shut_slice_nil Try.underlying27
  simp [Value.cells] at hcs
  obtain ⟨rfl, rfl, rfl⟩ := hcs
  simp only [Prod.mk.injEq] at hx
  obtain ⟨rfl, rfl⟩ := hx
  simp only [if_true] at hmm
  have hmm' : cap = m := hmm.symm
  subst hmm'
  have hlen : ((List.range len).map fun i => (Sx i).data.toList).length = len := by simp
  have hget : ∀ j x, ((List.range len).map fun i => (Sx i).data.toList)[j]? = some x → j < len ∧ x = (Sx j).data.toList := by
    intro j x hj
    rw [List.getElem?_map] at hj
    rcases Nat.lt_or_ge j len with h | h
    · rw [List.getElem?_range h] at hj
      injection hj with hj
      exact ⟨h, hj.symm⟩
    · rw [List.getElem?_eq_none (by simpa using h)] at hj; cases hj
  have hmem : ∀ x ∈ ((List.range len).map fun i => (Sx i).data.toList), ∃ j, j < len ∧ x = (Sx j).data.toList := by
    intro x hx
    obtain ⟨j, hj, rfl⟩ := List.mem_map.1 hx
    exact ⟨j, List.mem_range.1 hj, rfl⟩
  have hbu : ∀ j, j < len → (Sx j).data.toList.length < Rows.uptoBulk (DataW.slice (H := H) ((List.range len).map fun i => .lit (.string (Sx i).data.toList)) ((List.range (cap - len)).map fun j => .lit (.string (Sx (len + j)).data.toList))) := by
    intro j hj
    rw [Rows.uptoBulk]
    have := bulk_mem (H := H) (x := .lit (.string (Sx j).data.toList)) (l := (List.range len).map fun i => .lit (.string (Sx i).data.toList)) (List.mem_map.2 ⟨j, List.mem_range.2 hj, rfl⟩)
    rw [Rows.uptoBulk] at this
    omega
  have hbl : len < Rows.uptoBulk (DataW.slice (H := H) ((List.range len).map fun i => .lit (.string (Sx i).data.toList)) ((List.range (cap - len)).map fun j => .lit (.string (Sx (len + j)).data.toList))) := by
    rw [Rows.uptoBulk]
    have hg : ∀ l : List (DataW H), (∀ x ∈ l, 1 ≤ Rows.uptoBulk x) → l.length ≤ Rows.uptoBulkAll l := by
      intro l
      induction l with
      | nil => intro _; simp
      | cons y l ih =>
        intro hh
        rw [Rows.uptoBulkAll, List.length_cons]
        have h1 := hh y (by simp)
        have h2 := ih (fun x hx => hh x (by simp [hx]))
        omega
    have := hg ((List.range len).map fun i => .lit (.string (Sx i).data.toList)) (fun x hx => by
      obtain ⟨j, _, rfl⟩ := List.mem_map.1 hx
      rw [Rows.uptoBulk]; omega)
    rw [List.length_map, List.length_range] at this
    omega
  refine ⟨some a, len, cap, (List.range len).map fun i => (Sx i).data.toList, rfl, hl, ⟨hlen, by unfold maxLen at *; omega, fun h0 => ⟨a, rfl, ?_, fun j x hj => ?_⟩⟩, ?_, ?_, by rw [hlen]; exact hbl, ?_⟩
  · have h1 := (hcell 0 (by omega)).1
    rcases Nat.lt_or_ge a.block W.heap.size with h' | h'
    · exact h'
    · exfalso
      have e : (a.add 0) = a := by simp [Addr.add]
      rw [e] at h1
      simp [World.cell?, Array.getElem?_eq_none h'] at h1
  · obtain ⟨hj1, rfl⟩ := hget j x hj
    rw [str_data]
    exact (hcell j (by omega)).1
  · intro x hx
    obtain ⟨j, hj, rfl⟩ := hmem x hx
    have := (hcell j (by omega)).2
    rw [size_list]; exact this
  · intro x hx
    obtain ⟨j, hj, rfl⟩ := hmem x hx
    exact hbu j hj
  · intro W' sp hb hsp
    obtain ⟨b, off, spot⟩ := a
    by_cases hc0 : cap = 0
    · subst hc0
      have hlen0 : len = 0 := by omega
      subst hlen0
      have targ : ∃ n, DataW.trod enc Try.prog W' 0 sp true n 27 [.slice (some ⟨b, off, spot⟩) 0 0] = some (.slice [] [], []) := by
        cases hs : sp b
        · simpa [MemPlace.row] using shut_slice_cells (enc := enc) (w := W') (base := 0) (spare := sp) (held := true) (a := ⟨b, off, spot⟩) (len := 0) (cap := 0) Try.underlying27 (Nat.zero_le _) (Nat.le_refl _) (Nat.zero_le _) hs (fun _ => .nil) (fun _ => []) (fun i hi => absurd hi (Nat.not_lt_zero _))
        · simpa [MemPlace.row] using shut_slice_whole_cells (enc := enc) (w := W') (base := 0) (spare := sp) (held := true) (a := ⟨b, off, spot⟩) (len := 0) (cap := 0) Try.underlying27 (Nat.zero_le _) (Nat.le_refl _) (Nat.zero_le _) hs (fun _ => .nil) (fun _ => []) (fun i hi => absurd hi (Nat.not_lt_zero _))
      obtain ⟨n, hn⟩ := targ
      exact ⟨n, by simpa [Value.cells, MemPlace.row] using hn⟩
    · have hspot : spot = none := by simpa [Addr.add] using World.cell?_spot (hcell 0 (by omega)).1
      subst hspot
      have mrow : ∀ j, j < cap → MemPlace.cell b (off + j) ∈ MemPlace.row ⟨b, off, none⟩ cap := fun j hj => MemPlace.mem_row.2 ⟨j, hj, rfl⟩
      have hsb : sp b = true := hsp _ (mrow 0 (by omega))
      have hlt : b < W.heap.size := by
        have h1 := (hcell 0 (by omega)).1
        rcases Nat.lt_or_ge b W.heap.size with h' | h'
        · exact h'
        · exfalso
          simp [Addr.add, World.cell?, Array.getElem?_eq_none h'] at h1
      obtain ⟨n, hn⟩ := shut_strs_whole (enc := enc) (w := W') (base := 0) (spare := sp) (held := true) Try.underlying27 Try.underlying9 cells_string (b := b) (off := off) (len := len) (cap := cap) (Nat.zero_le _) hl hm hsb Sx
        (fun j hj => by rw [hb.cell (p := ⟨b, off + j, none⟩) hlt, ← add_plain]; exact (hcell j hj).1) (fun j hj => (hcell j hj).2)
      exact ⟨n, by simpa [Value.cells] using hn⟩
theorem add_of_add (a : Addr) (i j : Nat) : (a.add i).add j = a.add (i + j) := by
  unfold Addr.add
  by_cases hi : i = 0 <;> by_cases hj : j = 0 <;> simp [hi, hj, Nat.add_assoc]
theorem cell_lt {W : World} {a : Addr} {v : Value} (h : W.cell? (a.add 0) = some v) : a.block < W.heap.size := by
  have := World.block_lt_of_cell? W _ h
  rwa [block_addW] at this
theorem pick_lt {α : Type} (z : α) {n : Nat} {p : Nat → α → Prop} (h : ∀ i, i < n → ∃ v, p i v) : ∃ V : Nat → α, ∀ i, i < n → p i (V i) :=
  ⟨fun i => if hi : i < n then Classical.choose (h i hi) else z, fun i hi => by
    show p i (if hi : i < n then _ else _)
    rw [dif_pos hi]; exact Classical.choose_spec (h i hi)⟩
theorem same_below {W W' : World} {ps : List MemPlace} (hb : Below W.heap.size W W') (hlt : ∀ p ∈ ps, p.block < W.heap.size) : ∀ p ∈ ps, W.sameAt W' p := fun p hp => by
  have h := hlt p hp
  cases p with
  | cell b off => exact hb.cell (p := ⟨b, off, none⟩) h
  | map b => exact hb.block b h
section
variable {H : Type} {enc : TypeId × Value → H} {W : World} {base : Nat} {spare : Nat → Bool} {held : Bool}
theorem trod2 {P : Program} {t : TypeId} {f0 f1 : Field} {n : Nat} {c0 c1 : Value} {y : DataW H × List MemPlace} (hs : P.underlying t = some (.struct #[f0, f1])) (hone : oneCellFields P #[f0, f1] = true) (h : DataW.trod enc P W base spare held n t [c0, c1] = some y) :
    ∃ (m : Nat) (y0 y1 : DataW H × List MemPlace), DataW.trod enc P W base spare held m f0.type [c0] = some y0 ∧ DataW.trod enc P W base spare held m f1.type [c1] = some y1 ∧ y.1 = .agg [y0.1, y1.1] := by
  obtain ⟨xs, m, _, hx, _, hlen, hg⟩ := DataW.trod_struct hs h
  obtain ⟨o0, k0⟩ := hone_of hone 0 f0 rfl
  obtain ⟨o1, k1⟩ := hone_of hone 1 f1 rfl
  match xs, hlen with
  | [y0, y1], _ => exact ⟨m, y0, y1, by simpa [o0, k0] using hg 0 f0 rfl, by simpa [o1, k1] using hg 1 f1 rfl, by rw [hx]; rfl⟩
theorem pair_of {n : Nat} {cs : List Value} {y : DataW H × List MemPlace} (hlen : cs.length = 2) (h : DataW.trod enc Try.prog W base spare held n 35 cs = some y) :
    ∃ p : PairX, cs = [.string (str p.1), .string (str p.2)] ∧ p.1.length ≤ maxLen ∧ p.2.length ≤ maxLen ∧ p.1.length < Rows.uptoBulk y.1 ∧ p.2.length < Rows.uptoBulk y.1 := by
  match cs, hlen with
  | [c0, c1], _ =>
    obtain ⟨m, y0, y1, h0, h1, hy⟩ := trod2 Try.underlying35 (by kernel_rfl) h
    obtain ⟨x0, e0, d0, w0⟩ := DataW.trod_string Try.underlying9 h0
    obtain ⟨x1, e1, d1, w1⟩ := DataW.trod_string Try.underlying9 h1
    obtain rfl : c0 = .string x0 := by simpa using e0
    obtain rfl : c1 = .string x1 := by simpa using e1
    refine ⟨(x0.data.toList, x1.data.toList), by rw [str_data, str_data], by rw [size_list]; exact w0, by rw [size_list]; exact w1, ?_⟩
    rw [hy, d0, d1]
    simp only [Rows.uptoBulk, Rows.uptoBulkAll]
    omega
set_option maxRecDepth 100000 in
theorem open_pairs_par {v : Value} {d : DataW H} {p : List MemPlace} {b0 : Nat} (hv : Value.okWide Try.prog W .any b0 28 v) (h : DataW.Trod enc Try.prog W 0 (fun _ => true) true 28 v d p) :
    ∃ (A : Option Addr) (n c : Nat) (l : List PairX), v = .slice A n c ∧ PairsAt W W.heap.size A n l ∧ (∀ x ∈ l, x.1.length < Rows.uptoBulk d ∧ x.2.length < Rows.uptoBulk d) := by
  obtain ⟨a0, len0, cap0, rfl⟩ := okWide_slice Try.underlying28 hv
  obtain ⟨fuel, hf⟩ := h
  have k2 : Try.prog.cellsOf 35 = 2 := by kernel_rfl
  rcases open_slice Try.underlying28 hf with ⟨hcs, hx⟩ | ⟨a, len, cap, m, n', D, Pl, hcs, _, hl, hm, hmm, hx, hi⟩
  · refine ⟨none, 0, 0, [], by simpa [Value.cells] using hcs, ⟨rfl, Nat.zero_le _, by simp, fun h => by omega⟩, by simp⟩
  · rw [k2] at hi
    have hml : len ≤ m := by rw [hmm]; split <;> omega
    simp only [Prod.mk.injEq] at hx
    have hD : ∀ i, i < len → Rows.uptoBulk (D i) ≤ Rows.uptoBulk d := fun i hil => by
      rw [hx.1, Rows.uptoBulk]
      have := bulk_mem (H := H) (x := D i) (l := (List.range len).map D) (List.mem_map.2 ⟨i, List.mem_range.2 hil, rfl⟩)
      omega
    have hV : ∀ i, i < len → ∃ q : PairX, (∀ j u, ([.string (str q.1), .string (str q.2)] : List Value)[j]? = some u → W.cell? (a.add (i * 2 + j)) = some u) ∧ q.1.length ≤ maxLen ∧ q.2.length ≤ maxLen ∧ q.1.length < Rows.uptoBulk d ∧ q.2.length < Rows.uptoBulk d := fun i hil => by
      obtain ⟨cs, h1, h2⟩ := hi i (by omega)
      obtain ⟨_, hlen, hat⟩ := World.cells?_some h1
      obtain ⟨q, rfl, m1, m2, m3, m4⟩ := pair_of hlen h2
      have hb := hD i hil
      dsimp only at m3 m4
      refine ⟨q, fun j u hj => ?_, m1, m2, by omega, by omega⟩
      have hj2 : j < 2 := by
        rcases Nat.lt_or_ge j 2 with h' | h'
        · exact h'
        · rw [List.getElem?_eq_none (by exact h')] at hj; cases hj
      rw [← add_of_add, hat j hj2, hj]
    obtain ⟨X, hX⟩ := pick_lt (([], []) : PairX) hV
    have hmem : ∀ x ∈ (List.range len).map X, ∃ i, i < len ∧ x = X i := by
      intro x hx
      obtain ⟨j, hj, rfl⟩ := List.mem_map.1 hx
      exact ⟨j, List.mem_range.1 hj, rfl⟩
    refine ⟨some a, len, cap, (List.range len).map X, by simpa [Value.cells] using hcs, ⟨by simp, by omega, ?_, fun h0 => ⟨a, rfl, cell_lt ((hX 0 h0).1 0 _ rfl), fun j q hj => ?_⟩⟩, ?_⟩
    · intro x hx
      obtain ⟨i, hil, rfl⟩ := hmem x hx
      exact ⟨(hX i hil).2.1, (hX i hil).2.2.1⟩
    · have hjl : j < len := by
        rcases Nat.lt_or_ge j len with h' | h'
        · exact h'
        · rw [List.getElem?_eq_none (by simpa using h')] at hj; cases hj
      rw [List.getElem?_map, List.getElem?_range hjl] at hj
      simp only [Option.map_some, Option.some.injEq] at hj
      subst hj
      have h1 := (hX j hjl).1 0 _ rfl
      have h2 := (hX j hjl).1 1 _ rfl
      refine ⟨by simpa using h1, ?_⟩
      rw [← add_of_add] at h2
      exact h2
    · intro x hx
      obtain ⟨i, hil, rfl⟩ := hmem x hx
      exact ⟨(hX i hil).2.2.2.1, (hX i hil).2.2.2.2⟩
theorem shut_pairs {W' : World} {v : Value} {d : DataW H} {ps : List MemPlace} {sp : Nat → Bool} (h : DataW.Trod enc Try.prog W 0 (fun _ => true) true 28 v d ps) (hb : Below W.heap.size W W') (hlt : ∀ p ∈ ps, p.block < W.heap.size) (hs : ∀ p ∈ ps, sp p.block = true) :
    DataW.Trod enc Try.prog W' 0 sp true 28 v d ps :=
  WideElems.Trod_stays (by kernel_rfl) (by kernel_rfl) (of_decide_eq_true (by kernel_rfl)) h (same_below hb hlt) hs
end
end Go.Proofs.Ytjoedgkmpklhfaa
