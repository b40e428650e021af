/- Rows of the call's own that a sort has laid anew; rows of texts, sorted, each once. -/
import Derived.Test.YtcoepioahabbdaaGreatGyaq
import Derived.Test.YtcoepioahabbdaaGreatGyaz
import Derived.Test.YtcoepioahabbdaaGreatGyba
namespace Go.Proofs.YtcoepioahabbdaaGreat
open Go.RowKit Go.Sort
section
variable {α : Type} {Ly : Lay α} {T : TypeId}
theorem own_of {W : World} {base g cap : Nat} {cur : Array Value} {l : List α} (hb : base ≤ g) (hbk : W.heap[g]? = some (.cells cur T (0, 0))) (hs : cur.size = cap * Ly.sz) (hn : l.length ≤ cap) (hm : cap ≤ maxLen) (hc : ∀ (j : Nat) (u : Value), (Ly.all l)[j]? = some u → cur[j]? = some u) : OwnG Ly T W base (.slice (some ⟨g, 0, none⟩) l.length cap) l := by
  refine ⟨Ly.all_len l, .inr ⟨g, cap, cur, rfl, hb, hbk, hn, hm, hs, ?_⟩⟩
  have hle : l.length * Ly.sz ≤ cur.size := by rw [hs]; exact Nat.mul_le_mul_right _ hn
  refine List.ext_getElem? fun j => ?_
  by_cases hj : j < l.length * Ly.sz
  · rw [List.getElem?_take_of_lt hj, Array.getElem?_toList]
    have hj2 : j < (Ly.all l).length := by rw [Ly.all_len]; exact hj
    rw [List.getElem?_eq_getElem hj2]
    exact hc j _ (List.getElem?_eq_getElem hj2)
  · rw [List.getElem?_eq_none (by rw [List.length_take]; omega), List.getElem?_eq_none (by rw [Ly.all_len]; omega)]
theorem ownG_form {w : World} {base g n cap : Nat} {l : List α} (h : OwnG Ly T w base (.slice (some ⟨g, 0, none⟩) n cap) l) : n = l.length ∧ base ≤ g ∧ g < w.heap.size ∧ n ≤ cap ∧ cap ≤ maxLen ∧ ∃ cur : Array Value, w.heap[g]? = some (.cells cur T (0, 0)) ∧ cur.size = cap * Ly.sz ∧ cur.toList.take (l.length * Ly.sz) = Ly.all l := by
  rcases h.2 with ⟨h1, _⟩ | ⟨g', cap', cur, hv, hb, hbk, h1, h2, h3, h4⟩
  · cases h1
  · simp only [Value.slice.injEq, Option.some.injEq, Addr.mk.injEq, and_true] at hv
    obtain ⟨rfl, rfl, rfl⟩ := hv
    exact ⟨rfl, hb, (Array.getElem?_eq_some_iff.1 hbk).1, h1, h2, cur, hbk, h3, h4⟩
theorem ownG_at {w : World} {base : Nat} {v : Value} {l : List α} (h : OwnG Ly T w base v l) (hl : l ≠ []) : ∃ g cap, v = .slice (some ⟨g, 0, none⟩) l.length cap ∧ base ≤ g ∧ g < w.heap.size ∧ l.length ≤ cap ∧ cap ≤ maxLen := by
  rcases h.2 with ⟨h1, h2⟩ | ⟨g, cap, cur, hv, hb, hbk, h1, h2, _⟩
  · exact absurd (List.length_eq_zero_iff.1 h2) hl
  · exact ⟨g, cap, hv, hb, (Array.getElem?_eq_some_iff.1 hbk).1, h1, h2⟩
theorem ownG_cut {w : World} {base g n cap k : Nat} {l : List α} (h : OwnG Ly T w base (.slice (some ⟨g, 0, none⟩) n cap) l) (hk : k ≤ n) : OwnG Ly T w base (.slice (some ⟨g, 0, none⟩) k cap) (l.take k) := by
  obtain ⟨rfl, h1, h2, h3, h4, cur, h5, h6, h7⟩ := ownG_form h
  have := own_of (Ly := Ly) (T := T) (l := l.take k) h1 h5 h6 (by rw [List.length_take]; omega) h4 (fun j u hj => by
    have hall : Ly.all l = Ly.all (l.take k) ++ Ly.all (l.drop k) := by rw [← Ly.all_app, List.take_append_drop]
    have hjl : j < (Ly.all (l.take k)).length := by
      rcases Nat.lt_or_ge j (Ly.all (l.take k)).length with h' | h'
      · exact h'
      · rw [List.getElem?_eq_none h'] at hj; cases hj
    have h8 : (Ly.all l)[j]? = some u := by rw [hall, List.getElem?_append_left hjl]; exact hj
    rw [← h7] at h8
    rw [List.getElem?_take] at h8
    split at h8
    · rwa [Array.getElem?_toList] at h8
    · cases h8)
  rwa [List.length_take, Nat.min_eq_left hk] at this
theorem heap_grow_lt (w : World) (os : Array Obj) {i : Nat} (h : i < w.heap.size) : (grow w os).heap[i]? = w.heap[i]? := by
  show (w.heap ++ os)[i]? = _
  rw [Array.getElem?_append_left h]
theorem heap_putRow_ne {β : Type} [Inhabited β] (enc : β → Value) (w : World) (g off : Nat) (d : Array β) (i : Nat) (h : i ≠ g) : (putRow enc w g off d).heap[i]? = w.heap[i]? := by
  unfold putRow mapBlock
  simp only [Array.getElem?_modify]
  rw [if_neg (Ne.symm h)]
theorem heap_putRow_at {β : Type} [Inhabited β] (enc : β → Value) (w : World) (g off : Nat) (d : Array β) {cur : Array Value} {fr : Nat × Nat} (h : w.heap[g]? = some (.cells cur T fr)) : (putRow enc w g off d).heap[g]? = some (.cells (putCells enc off d cur) T fr) := by
  unfold putRow mapBlock
  simp only [Array.getElem?_modify, if_true, h, Option.map_some, onCells]
theorem size_putRow {β : Type} [Inhabited β] (enc : β → Value) (w : World) (g off : Nat) (d : Array β) : (putRow enc w g off d).heap.size = w.heap.size := by
  unfold putRow mapBlock
  simp
theorem own_put {β : Type} [Inhabited β] (enc : β → Value) {w : World} {base g n cap : Nat} {l : List α} (h : OwnG Ly T w base (.slice (some ⟨g, 0, none⟩) n cap) l) (d : Array β) (m : List α) (hm : m.length ≤ cap) (hd : ∀ (j : Nat) (u : Value), (Ly.all m)[j]? = some u → j < d.size ∧ enc d[j]! = u) (q : Nat) (os : Array Obj) :
    OwnG Ly T (grow (putRow enc (Sort.ahead w q) g 0 d) os) base (.slice (some ⟨g, 0, none⟩) m.length cap) m ∧ w.grownBy (grow (putRow enc (Sort.ahead w q) g 0 d) os) (some g) := by
  obtain ⟨rfl, h1, h2, h3, h4, cur, h5, h6, h7⟩ := ownG_form h
  have hsz : (putRow enc (Sort.ahead w q) g 0 d).heap.size = w.heap.size := size_putRow enc (Sort.ahead w q) g 0 d
  have hat : (grow (putRow enc (Sort.ahead w q) g 0 d) os).heap[g]? = some (.cells (putCells enc 0 d cur) T (0, 0)) := by
    rw [heap_grow_lt _ _ (by rw [hsz]; exact h2)]
    exact heap_putRow_at enc (Sort.ahead w q) g 0 d h5
  refine ⟨own_of h1 hat (by unfold putCells; rw [Array.size_mapIdx]; exact h6) hm h4 fun j u hj => ?_, ⟨rfl, rfl, rfl, ?_, fun i hi hne => ?_⟩⟩
  · obtain ⟨k1, k2⟩ := hd j u hj
    have hjc : j < cur.size := by
      have : j < (Ly.all m).length := by
        rcases Nat.lt_or_ge j (Ly.all m).length with h' | h'
        · exact h'
        · rw [List.getElem?_eq_none h'] at hj; cases hj
      rw [Ly.all_len] at this
      rw [h6]
      exact Nat.lt_of_lt_of_le this (Nat.mul_le_mul_right _ hm)
    unfold putCells
    rw [Array.getElem?_mapIdx, Array.getElem?_eq_getElem hjc]
    simp only [Option.map_some]
    rw [if_pos ⟨Nat.zero_le _, by omega⟩, Nat.sub_zero, k2]
  · show w.heap.size ≤ ((putRow enc (Sort.ahead w q) g 0 d).heap ++ os).size
    rw [Array.size_append, hsz]
    omega
  · rw [heap_grow_lt _ _ (by rw [hsz]; exact hi), heap_putRow_ne _ _ _ _ _ _ (fun e => hne (by rw [e]))]
    rfl
theorem ownG_holds {β : Type} [Inhabited β] (enc : β → Value) {w : World} {base g n cap : Nat} {l : List α} (h : OwnG Ly T w base (.slice (some ⟨g, 0, none⟩) n cap) l) (d : Array β) (hd : ∀ j : Nat, j < d.size → (Ly.all l)[j]? = some (enc d[j]!)) : Holds enc w g 0 d := by
  obtain ⟨rfl, h1, h2, h3, h4, cur, h5, h6, h7⟩ := ownG_form h
  intro j hj
  refine ⟨?_, Blk.frozen (t := T) (cs := cur) h5 (0 + j)⟩
  rw [cell_of_row w g (0 + j) cur _ (0, 0) h5, Nat.zero_add]
  have := hd j hj
  rw [← h7, List.getElem?_take] at this
  split at this
  · rwa [Array.getElem?_toList] at this
  · cases this
end
theorem txs_get {l : List Tx} {j : Nat} {u : Value} (h : (txLay.all l)[j]? = some u) : ∃ x, l[j]? = some x ∧ u = .string (str x) := by
  have hj : j < l.length := by
    rcases Nat.lt_or_ge j (txLay.all l).length with h' | h'
    · rw [txLay.all_len] at h'; simpa [txLay] using h'
    · rw [List.getElem?_eq_none h'] at h; cases h
  have := txLay.all_get l j l[j] (List.getElem?_eq_getElem hj) 0 (by decide)
  rw [show j * txLay.sz + 0 = j by simp [txLay]] at this
  rw [this] at h
  exact ⟨l[j], List.getElem?_eq_getElem hj, by simpa [txLay] using h.symm⟩
theorem leT_iff {a b : Tx} : a ≤ b ↔ a < b ∨ a = b := by
  constructor
  · intro h
    rcases linT.tri a b with h1 | h1 | h1
    · exact .inl h1
    · exact .inr h1
    · exact absurd h1 h
  · rintro (h | rfl)
    · exact fun h2 => linT.irrefl _ (linT.trans _ _ _ h h2)
    · exact linT.irrefl _
theorem cutT_facts (d : Array Tx) (hs : ∀ j, j + 1 < d.size → d[j]! ≤ d[j + 1]!) (m : Nat) (hm : m ≤ d.size) :
    risesG (fun a b : Tx => a < b) (Lib.compactUpTo d m) ∧ (∀ x ∈ Lib.compactUpTo d m, 0 < m → x ≤ d[m - 1]!) ∧ (∀ x, x ∈ Lib.compactUpTo d m ↔ ∃ j, j < m ∧ d[j]! = x) := by
  induction m with
  | zero =>
    have e : Lib.compactUpTo d 0 = [] := rfl
    rw [e]
    exact ⟨List.Pairwise.nil, by simp, by simp⟩
  | succ m ih =>
    obtain ⟨h1, h2, h3⟩ := ih (by omega)
    rw [Lib.compactUpTo_succ]
    by_cases hk : Lib.keeps d m = true
    · rw [if_pos hk]
      have hlt : ∀ x ∈ Lib.compactUpTo d m, x < d[m]! := by
        intro x hx
        rcases Nat.eq_zero_or_pos m with h0 | h0
        · obtain ⟨j, hj, _⟩ := (h3 x).1 hx
          omega
        · have a := leT_iff.1 (h2 x hx h0)
          have b := hs (m - 1) (by omega)
          rw [show m - 1 + 1 = m by omega] at b
          have c : d[m]! ≠ d[m - 1]! := by
            intro e
            rw [Lib.keeps_neg h0 e] at hk
            cases hk
          rcases leT_iff.1 b with b | b
          · rcases a with a | a
            · exact linT.trans _ _ _ a b
            · rw [a]; exact b
          · exact absurd b.symm c
      refine ⟨?_, ?_, ?_⟩
      · unfold risesG
        rw [List.pairwise_append]
        refine ⟨h1, List.pairwise_singleton _ _, ?_⟩
        intro a ha b hb
        rw [List.mem_singleton] at hb
        rw [hb]; exact hlt a ha
      · intro x hx _
        rw [Nat.add_sub_cancel]
        rw [List.mem_append, List.mem_singleton] at hx
        rcases hx with hx | hx
        · exact leT_iff.2 (.inl (hlt x hx))
        · exact leT_iff.2 (.inr hx)
      · intro x
        rw [List.mem_append, List.mem_singleton, h3]
        constructor
        · rintro (⟨j, hj, e⟩ | e)
          · exact ⟨j, by omega, e⟩
          · exact ⟨m, by omega, e.symm⟩
        · rintro ⟨j, hj, e⟩
          by_cases hjm : j = m
          · rw [hjm] at e; exact .inr e.symm
          · exact .inl ⟨j, by omega, e⟩
    · rw [if_neg hk, List.append_nil]
      have hm0 : 0 < m := by
        rcases Nat.eq_zero_or_pos m with h0 | h0
        · exfalso; apply hk; rw [h0]; simp [Lib.keeps]
        · exact h0
      have e : d[m]! = d[m - 1]! := by
        apply Classical.byContradiction
        intro hne
        exact hk (Lib.keeps_pos hne)
      refine ⟨h1, ?_, ?_⟩
      · intro x hx _
        rw [Nat.add_sub_cancel, e]
        exact h2 x hx hm0
      · intro x
        rw [h3]
        constructor
        · rintro ⟨j, hj, e⟩; exact ⟨j, by omega, e⟩
        · rintro ⟨j, hj, e'⟩
          by_cases hjm : j = m
          · rw [hjm, e] at e'; exact ⟨m - 1, by omega, e'⟩
          · exact ⟨j, by omega, e'⟩
theorem sortT_le (xs : List Tx) : (xs.mergeSort fun x y => decide (x ≤ y)).Pairwise (fun a b => a ≤ b) := by
  have := List.pairwise_mergeSort (le := fun x y : Tx => decide (x ≤ y)) (fun a b c h1 h2 => by
    rw [decide_eq_true_eq, leT_iff] at *
    rcases h1 with h1 | h1 <;> rcases h2 with h2 | h2
    · exact .inl (linT.trans _ _ _ h1 h2)
    · exact .inl (h2 ▸ h1)
    · exact .inl (h1 ▸ h2)
    · exact .inr (h1.trans h2)) (fun a b => by
    rw [Bool.or_eq_true, decide_eq_true_eq, decide_eq_true_eq, leT_iff, leT_iff]
    rcases linT.tri a b with h | h | h
    · exact .inl (.inl h)
    · exact .inl (.inr h)
    · exact .inr (.inl h)) xs
  exact this.imp fun h => by simpa using h
theorem tidyT_eq (xs : List Tx) : Lib.compact (xs.mergeSort fun x y => decide (x ≤ y)) = putAll (lt := fun a b : Tx => a < b) xs := by
  have hsort := sortT_le xs
  have hmem : ∀ x, x ∈ (xs.mergeSort fun x y => decide (x ≤ y)) ↔ x ∈ xs := fun x => List.mem_mergeSort
  generalize (xs.mergeSort fun x y => decide (x ≤ y)) = l at *
  have hd : ∀ j, (h : j < l.length) → l.toArray[j]! = l[j] := fun j h => by simp [h]
  obtain ⟨h1, _, h3⟩ := cutT_facts l.toArray (fun j hj => by
    have hj : j + 1 < l.length := by simpa using hj
    rw [hd j (by omega), hd (j + 1) hj]
    exact List.pairwise_iff_getElem.1 hsort j (j + 1) (by omega) hj (by omega)) l.length (by simp)
  refine riseG_ext linT h1 (putAll_rises linT) fun x => ?_
  unfold Lib.compact
  rw [putAll_mem, h3, ← hmem, List.mem_iff_getElem]
  constructor
  · rintro ⟨j, hj, e⟩
    rw [hd j hj] at e
    exact ⟨j, hj, e⟩
  · rintro ⟨j, hj, e⟩
    exact ⟨j, hj, by rw [hd j hj]; exact e⟩
theorem compactT_le (l : List Tx) : (Lib.compact l).length ≤ l.length := by
  unfold Lib.compact Lib.compactUpTo
  rw [List.length_map]
  have := List.length_filter_le (Lib.keeps l.toArray) (List.range l.length)
  rwa [List.length_range] at this
theorem compactT_any (g cap n : Nat) (l : List Tx) (w : World) (hn : l.length = n) (hH : Holds encStr w g 0 l.toArray) (hsz : n ≤ 9223372036854775807) (hcap : n ≤ cap) :
    Calls Tryz.prog 63 #[.slice (some ⟨g, 0, none⟩) n cap] w fun e w' => e = .returned (.slice (some ⟨g, 0, none⟩) (Lib.compact l).length cap) ∧ ∃ q, w' = putRow encStr (Sort.ahead w q) g 0 (Lib.compact l ++ List.replicate (l.length - (Lib.compact l).length) []).toArray := by
  subst hn
  exact Tryz.slices_Compact_string g 0 cap l w hH hsz hcap
theorem encS (x : Tx) : encStr x = .string (str x) := rfl
theorem holdsT {w : World} {base g n cap : Nat} {l : List Tx} (h : OwnG txLay 9 w base (.slice (some ⟨g, 0, none⟩) n cap) l) : Holds encStr w g 0 l.toArray :=
  ownG_holds encStr h _ fun j hj => by
    have hj : j < l.length := by simpa using hj
    have := txLay.all_get l j l[j] (List.getElem?_eq_getElem hj) 0 (by decide)
    rw [show j * txLay.sz + 0 = j by simp [txLay]] at this
    rw [this]
    simp [txLay, encS, hj]
theorem putT {w : World} {base g n cap : Nat} {l : List Tx} (h : OwnG txLay 9 w base (.slice (some ⟨g, 0, none⟩) n cap) l) (m zs : List Tx) (hm : m.length ≤ cap) (q : Nat) (os : Array Obj) :
    OwnG txLay 9 (grow (putRow encStr (Sort.ahead w q) g 0 (m ++ zs).toArray) os) base (.slice (some ⟨g, 0, none⟩) m.length cap) m ∧ w.grownBy (grow (putRow encStr (Sort.ahead w q) g 0 (m ++ zs).toArray) os) (some g) :=
  own_put encStr h _ m hm (fun j u hj => by
    obtain ⟨x, hx, rfl⟩ := txs_get hj
    obtain ⟨hjl, rfl⟩ := List.getElem?_eq_some_iff.1 hx
    refine ⟨by simp; omega, ?_⟩
    rw [encS]
    simp [hjl, List.getElem?_append_left]) q os
def AscPost (base : Nat) (l : List Tx) (w : World) (v : Value) (e : Ending) (w' : World) : Prop := ∃ v', e = .returned v' ∧ OwnG txLay 9 w' base v' (putAll (lt := fun a b : Tx => a < b) l) ∧ w.grownBy w' v.ownBlock
set_option maxHeartbeats 4000000 in
theorem asc_any (base : Nat) (v : Value) (l : List Tx) (w : World) (h : OwnG txLay 9 w base v l) (hl : l.length ≤ 1099511627776) :
    Calls Tryz.prog 39 #[v] w (AscPost base l w v) := by
  unfold AscPost
  by_cases hx0 : l = []
  · subst hx0
    obtain ⟨A, c, rfl, h1, h2, h3, h4⟩ := h.slice (Nat.zero_le _)
    have HO := Lib.hid h
    clear h h1 h2 h3 h4
    go_enter Tryz.func39, Tryz.ntmps39
    go_wp2_with fail
    refine (Tryz.slices_Sort_string_none _ _ _).mono ?_
    rintro e2 w2 ⟨rfl, rfl⟩
    go_wp2_with fail
    refine (Tryz.slices_Compact_string_empty _ _ _).mono ?_
    rintro e2 w3 ⟨rfl, rfl⟩
    go_wp2_with fail
    go_ret
    exact ⟨_, rfl, HO.out, World.grownBy.refl _ _⟩
  · obtain ⟨g, cap, rfl, hg, hgl, hcap, hcm⟩ := ownG_at h hx0
    have HS := Lib.hid (Tryz.slices_Sort_string g 0 cap l w (holdsT h) hgl (by omega))
    have HO := Lib.hid h
    clear h
    go_enter Tryz.func39, Tryz.ntmps39
    go_wp2_with fail
    refine HS.out.mono ?_
    rintro e2 w2 ⟨rfl, n2, os2, hw2⟩
    have h2 := putT HO.out (l.mergeSort fun x y => decide (x ≤ y)) [] (by rw [List.length_mergeSort]; exact hcap) n2 os2
    rw [List.append_nil, ← hw2, List.length_mergeSort] at h2
    have H2 := Lib.hid h2.1
    have G2 := Lib.hid h2.2
    have HC := Lib.hid (compactT_any g cap l.length _ w2 (List.length_mergeSort l) (holdsT h2.1) (by omega) hcap)
    clear hw2 h2 HS
    go_wp2_with fail
    refine HC.out.mono ?_
    rintro e3 w3 ⟨rfl, n3, hw3⟩
    have h3 := putT H2.out (Lib.compact (l.mergeSort fun x y => decide (x ≤ y))) (List.replicate ((l.mergeSort fun x y => decide (x ≤ y)).length - (Lib.compact (l.mergeSort fun x y => decide (x ≤ y))).length) []) (by have := compactT_le (l.mergeSort fun x y => decide (x ≤ y)); rw [List.length_mergeSort] at this; omega) n3 #[]
    rw [Go.Sort.grow_empty, ← hw3] at h3
    rw [tidyT_eq] at h3 ⊢
    have H3 := Lib.hid h3.1
    have G3 := Lib.hid (grown_trans G2.out h3.2)
    clear hw3 h3 HC
    go_wp2_with fail
    go_ret
    exact ⟨_, rfl, H3.out, G3.out⟩
end Go.Proofs.YtcoepioahabbdaaGreat
