/- Words: sorted rows without repeats, rows of the call's own that are sorted. -/
import Derived.Test.YthodbeeglkedcaaDtbi
import Derived.Test.YthodbeeglkedcaaDtbj
import Derived.Test.YthodbeeglkedcaaDtah
namespace Go.Proofs.Ythodbeeglkedcaa
open Go.RowKit Go.Sort
theorem leL_iff {a b : List UInt8} : a ≤ b ↔ a < b ∨ a = b := by
  constructor
  · intro h
    rcases ltL_tri a b with h1 | h1 | h1
    · exact .inl h1
    · exact .inr h1
    · exact absurd h1 h
  · rintro (h | rfl)
    · intro h2; exact ltL_irrefl _ (ltL_trans h h2)
    · exact ltL_irrefl _
theorem cutT_facts (d : Array (List UInt8)) (hs : ∀ j, j + 1 < d.size → d[j]! ≤ d[j + 1]!) (m : Nat) (hm : m ≤ d.size) :
    rises (Lib.compactUpTo d m) ∧ (∀ x ∈ Lib.compactUpTo d m, 0 < m → x ≤ d[m - 1]!) ∧ (∀ x, x ∈ Lib.compactUpTo d m ↔ ∃ j, j < m ∧ d[j]! = x) := by
  induction m with
  | zero =>
    have e : Lib.compactUpTo d 0 = [] := rfl
    rw [e]
    exact ⟨List.Pairwise.nil, by simp, by simp⟩
  | succ m ih =>
    obtain ⟨h1, h2, h3⟩ := ih (by omega)
    rw [Lib.compactUpTo_succ]
    by_cases hk : Lib.keeps d m = true
    · rw [if_pos hk]
      have hlt : ∀ x ∈ Lib.compactUpTo d m, x < d[m]! := by
        intro x hx
        rcases Nat.eq_zero_or_pos m with h0 | h0
        · obtain ⟨j, hj, _⟩ := (h3 x).1 hx
          omega
        · have a := leL_iff.1 (h2 x hx h0)
          have b := hs (m - 1) (by omega)
          rw [show m - 1 + 1 = m by omega] at b
          have c : d[m]! ≠ d[m - 1]! := by
            intro e
            rw [Lib.keeps_neg h0 e] at hk
            cases hk
          rcases leL_iff.1 b with b | b
          · rcases a with a | a
            · exact ltL_trans a b
            · rw [a]; exact b
          · exact absurd b.symm c
      refine ⟨?_, ?_, ?_⟩
      · unfold rises
        rw [List.pairwise_append]
        refine ⟨h1, List.pairwise_singleton _ _, ?_⟩
        intro a ha b hb
        rw [List.mem_singleton] at hb
        rw [hb]; exact hlt a ha
      · intro x hx _
        rw [Nat.add_sub_cancel]
        rw [List.mem_append, List.mem_singleton] at hx
        rcases hx with hx | hx
        · exact leL_iff.2 (.inl (hlt x hx))
        · exact leL_iff.2 (.inr hx)
      · intro x
        rw [List.mem_append, List.mem_singleton, h3]
        constructor
        · rintro (⟨j, hj, e⟩ | e)
          · exact ⟨j, by omega, e⟩
          · exact ⟨m, by omega, e.symm⟩
        · rintro ⟨j, hj, e⟩
          by_cases hjm : j = m
          · rw [hjm] at e; exact .inr e.symm
          · exact .inl ⟨j, by omega, e⟩
    · rw [if_neg hk, List.append_nil]
      have hm0 : 0 < m := by
        rcases Nat.eq_zero_or_pos m with h0 | h0
        · exfalso; apply hk; rw [h0]; simp [Lib.keeps]
        · exact h0
      have e : d[m]! = d[m - 1]! := by
        apply Classical.byContradiction
        intro hne
        exact hk (Lib.keeps_pos hne)
      refine ⟨h1, ?_, ?_⟩
      · intro x hx _
        rw [Nat.add_sub_cancel, e]
        exact h2 x hx hm0
      · intro x
        rw [h3]
        constructor
        · rintro ⟨j, hj, e⟩; exact ⟨j, by omega, e⟩
        · rintro ⟨j, hj, e'⟩
          by_cases hjm : j = m
          · rw [hjm, e] at e'; exact ⟨m - 1, by omega, e'⟩
          · exact ⟨j, by omega, e'⟩
theorem sortT_le (xs : List (List UInt8)) : (xs.mergeSort fun x y => decide (x ≤ y)).Pairwise (fun a b => a ≤ b) := by
  have := List.pairwise_mergeSort (le := fun x y : List UInt8 => decide (x ≤ y)) (fun a b c h1 h2 => by
    rw [decide_eq_true_eq, leL_iff] at *
    rcases h1 with h1 | h1 <;> rcases h2 with h2 | h2
    · exact .inl (ltL_trans h1 h2)
    · exact .inl (h2 ▸ h1)
    · exact .inl (h1 ▸ h2)
    · exact .inr (h1.trans h2)) (fun a b => by
    rw [Bool.or_eq_true, decide_eq_true_eq, decide_eq_true_eq, leL_iff, leL_iff]
    rcases ltL_tri a b with h | h | h
    · exact .inl (.inl h)
    · exact .inl (.inr h)
    · exact .inr (.inl h)) xs
  exact this.imp fun h => by simpa using h
def tidyT (xs : List (List UInt8)) : List (List UInt8) := Lib.compact (xs.mergeSort fun x y => decide (x ≤ y))
theorem tidyT_facts (xs : List (List UInt8)) : rises (tidyT xs) ∧ ∀ x, x ∈ tidyT xs ↔ x ∈ xs := by
  have hsort := sortT_le xs
  have hmem : ∀ x, x ∈ (xs.mergeSort fun x y => decide (x ≤ y)) ↔ x ∈ xs := fun x => List.mem_mergeSort
  unfold tidyT
  generalize (xs.mergeSort fun x y => decide (x ≤ y)) = l at *
  have hd : ∀ j, (h : j < l.length) → l.toArray[j]! = l[j] := fun j h => by simp [h]
  obtain ⟨h1, _, h3⟩ := cutT_facts l.toArray (fun j hj => by
    have hj : j + 1 < l.length := by simpa using hj
    rw [hd j (by omega), hd (j + 1) hj]
    exact List.pairwise_iff_getElem.1 hsort j (j + 1) (by omega) hj (by omega)) l.length (by simp)
  refine ⟨h1, fun x => ?_⟩
  unfold Lib.compact
  rw [h3, ← hmem, List.mem_iff_getElem]
  constructor
  · rintro ⟨j, hj, e⟩
    rw [hd j hj] at e
    exact ⟨j, hj, e⟩
  · rintro ⟨j, hj, e⟩
    exact ⟨j, hj, by rw [hd j hj]; exact e⟩
theorem tidyT_nil : tidyT [] = [] := by
  have := (tidyT_facts []).2
  cases h : tidyT [] with
  | nil => rfl
  | cons x r => exact absurd ((this x).1 (by rw [h]; simp)) (by simp)
theorem sort_rises {xs : List (List UInt8)} (h : xs.Nodup) : rises (xs.mergeSort fun x y => decide (x ≤ y)) := by
  have h1 := sortT_le xs
  have h2 : (xs.mergeSort fun x y => decide (x ≤ y)).Nodup := (List.mergeSort_perm xs _).nodup_iff.2 h
  generalize (xs.mergeSort fun x y => decide (x ≤ y)) = l at *
  unfold rises
  refine (h1.and h2).imp ?_
  rintro a b ⟨h3, h4⟩
  rcases leL_iff.1 h3 with h | h
  · exact h
  · exact absurd h h4
theorem heap_putT (w : World) (g off : Nat) (d : Array (List UInt8)) (i : Nat) (h : i ≠ g) : (putRow encStr w g off d).heap[i]? = w.heap[i]? := by
  unfold putRow mapBlock
  simp only [Array.getElem?_modify]
  rw [if_neg (Ne.symm h)]
theorem below_putT {B g n : Nat} {w W W2 : World} {d : Array (List UInt8)} {os : Array Obj} (h : Below B w W) (hB : B ≤ W.heap.size) (hg : B ≤ g) (hW : W2 = grow (putRow encStr (Sort.ahead W n) g 0 d) os) : Below B w W2 := by
  refine h.trans ⟨by rw [hW]; rfl, by rw [hW]; rfl, by rw [hW]; rfl, by rw [hW]; simp, fun i hi => ?_⟩
  rw [hW, heap_grow_old _ _ (by simp; omega), heap_putT _ _ _ _ _ (by omega)]
  rfl
theorem holds_putT {g n : Nat} {W W2 : World} {d d' : List (List UInt8)} {os : Array Obj} (h : Holds encStr W g 0 d.toArray) (hg : g < W.heap.size) (hd : d'.length = d.length) (hW : W2 = grow (putRow encStr (Sort.ahead W n) g 0 d'.toArray) os) : Holds encStr W2 g 0 d'.toArray ∧ g < W2.heap.size := by
  refine ⟨?_, by rw [hW]; simp; omega⟩
  rw [hW]
  refine holds_grow _ _ _ _ _ _ (by simpa using hg) ?_
  exact holds_putRow _ _ _ _ d.toArray d'.toArray h (by simpa using hd)
theorem holds_own {w : World} {base : Nat} {v : Value} {l : List (List UInt8)} (h : OwnT w base v l) (hl : l ≠ []) : ∃ g cap, v = .slice (some ⟨g, 0, none⟩) l.length cap ∧ base ≤ g ∧ g < w.heap.size ∧ l.length ≤ cap ∧ Holds encStr w g 0 l.toArray := by
  rcases h.2 with ⟨h1, h2⟩ | ⟨g, cap, cur, hv, hg, hbk, hr1, hr2, hr3, hr4⟩
  · exact absurd (List.length_eq_zero_iff.1 h2) hl
  · refine ⟨g, cap, hv, hg, (Array.getElem?_eq_some_iff.1 hbk).1, hr1, ?_⟩
    intro j hj
    have hj : j < l.length := by simpa using hj
    refine ⟨?_, Blk.frozen (t := 9) (cs := cur) hbk (0 + j)⟩
    have hc : w.cell? ⟨g, 0 + j, none⟩ = cur[0 + j]? := cell_of_row w g (0 + j) cur _ (0, 0) hbk
    rw [hc, ← Array.getElem?_toList]
    have e : cur.toList[0 + j]? = (cur.toList.take (l.length * 1))[j]? := by rw [List.getElem?_take_of_lt (by omega), Nat.zero_add]
    rw [e, hr4]
    unfold wcells
    rw [List.getElem?_map, List.getElem?_eq_getElem hj]
    simp [hj, encStr, str]
theorem rowAt_holds {W : World} {g : Nat} {ds zs : List (List UInt8)} (h : Holds encStr W g 0 (ds ++ zs).toArray) (hg : g < W.heap.size) (hl : ds.length ≤ maxLen) : RowAt W W.heap.size (some ⟨g, 0, none⟩) ds.length ds := by
  refine ⟨rfl, hl, fun _ => ⟨_, rfl, hg, fun j x hj => ?_⟩⟩
  obtain ⟨hjl, e0⟩ := List.getElem?_eq_some_iff.1 hj
  have e : (⟨g, 0, none⟩ : Addr).add j = ⟨g, 0 + j, none⟩ := by unfold Addr.add; split <;> simp_all
  rw [e, (h j (by simp; omega)).1]
  have e2 : (ds ++ zs).toArray[j]! = ds[j] := by simp [hjl, List.getElem?_append_left]
  rw [e2, e0]
  rfl
theorem compactT_le (l : List (List UInt8)) : (Lib.compact l).length ≤ l.length := by
  unfold Lib.compact Lib.compactUpTo
  rw [List.length_map]
  have := List.length_filter_le (Lib.keeps l.toArray) (List.range l.length)
  rwa [List.length_range] at this
theorem compactT_len (l : List (List UInt8)) : (Lib.compact l ++ List.replicate (l.length - (Lib.compact l).length) []).length = l.length := by
  have := compactT_le l
  rw [List.length_append, List.length_replicate]; omega
end Go.Proofs.Ythodbeeglkedcaa
