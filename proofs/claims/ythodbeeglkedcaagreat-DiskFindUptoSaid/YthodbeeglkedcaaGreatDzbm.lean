/- Words: sorted rows without repeats, rows of the call's own that are sorted. A map of strings to strings that the call ma -/
import Derived.Test.YthodbeeglkedcaaGreatDzbk
import Derived.Test.YthodbeeglkedcaaGreatDzbl
import Derived.Test.YthodbeeglkedcaaGreatDzai
import Derived.Test.YthodbeeglkedcaaGreatDzbj
import Derived.Test.YthodbeeglkedcaaGreatDzaz
namespace Go.Proofs.YthodbeeglkedcaaGreat
open Go.RowKit Go.Sort
theorem leL_iff {a b : List UInt8} : a ≤ b ↔ a < b ∨ a = b := by
  constructor
  · intro h
    rcases ltL_tri a b with h1 | h1 | h1
    · exact .inl h1
    · exact .inr h1
    · exact absurd h1 h
  · rintro (h | rfl)
    · intro h2; exact ltL_irrefl _ (ltL_trans h h2)
    · exact ltL_irrefl _
theorem cutT_facts (d : Array (List UInt8)) (hs : ∀ j, j + 1 < d.size → d[j]! ≤ d[j + 1]!) (m : Nat) (hm : m ≤ d.size) :
    rises (Lib.compactUpTo d m) ∧ (∀ x ∈ Lib.compactUpTo d m, 0 < m → x ≤ d[m - 1]!) ∧ (∀ x, x ∈ Lib.compactUpTo d m ↔ ∃ j, j < m ∧ d[j]! = x) := by
  induction m with
  | zero =>
    have e : Lib.compactUpTo d 0 = [] := rfl
    rw [e]
    exact ⟨List.Pairwise.nil, by simp, by simp⟩
  | succ m ih =>
    obtain ⟨h1, h2, h3⟩ := ih (by omega)
    rw [Lib.compactUpTo_succ]
    by_cases hk : Lib.keeps d m = true
    · rw [if_pos hk]
      have hlt : ∀ x ∈ Lib.compactUpTo d m, x < d[m]! := by
        intro x hx
        rcases Nat.eq_zero_or_pos m with h0 | h0
        · obtain ⟨j, hj, _⟩ := (h3 x).1 hx
          omega
        · have a := leL_iff.1 (h2 x hx h0)
          have b := hs (m - 1) (by omega)
          rw [show m - 1 + 1 = m by omega] at b
          have c : d[m]! ≠ d[m - 1]! := by
            intro e
            rw [Lib.keeps_neg h0 e] at hk
            cases hk
          rcases leL_iff.1 b with b | b
          · rcases a with a | a
            · exact ltL_trans a b
            · rw [a]; exact b
          · exact absurd b.symm c
      refine ⟨?_, ?_, ?_⟩
      · unfold rises
        rw [List.pairwise_append]
        refine ⟨h1, List.pairwise_singleton _ _, ?_⟩
        intro a ha b hb
        rw [List.mem_singleton] at hb
        rw [hb]; exact hlt a ha
      · intro x hx _
        rw [Nat.add_sub_cancel]
        rw [List.mem_append, List.mem_singleton] at hx
        rcases hx with hx | hx
        · exact leL_iff.2 (.inl (hlt x hx))
        · exact leL_iff.2 (.inr hx)
      · intro x
        rw [List.mem_append, List.mem_singleton, h3]
        constructor
        · rintro (⟨j, hj, e⟩ | e)
          · exact ⟨j, by omega, e⟩
          · exact ⟨m, by omega, e.symm⟩
        · rintro ⟨j, hj, e⟩
          by_cases hjm : j = m
          · rw [hjm] at e; exact .inr e.symm
          · exact .inl ⟨j, by omega, e⟩
    · rw [if_neg hk, List.append_nil]
      have hm0 : 0 < m := by
        rcases Nat.eq_zero_or_pos m with h0 | h0
        · exfalso; apply hk; rw [h0]; simp [Lib.keeps]
        · exact h0
      have e : d[m]! = d[m - 1]! := by
        apply Classical.byContradiction
        intro hne
        exact hk (Lib.keeps_pos hne)
      refine ⟨h1, ?_, ?_⟩
      · intro x hx _
        rw [Nat.add_sub_cancel, e]
        exact h2 x hx hm0
      · intro x
        rw [h3]
        constructor
        · rintro ⟨j, hj, e⟩; exact ⟨j, by omega, e⟩
        · rintro ⟨j, hj, e'⟩
          by_cases hjm : j = m
          · rw [hjm, e] at e'; exact ⟨m - 1, by omega, e'⟩
          · exact ⟨j, by omega, e'⟩
theorem sortT_le (xs : List (List UInt8)) : (xs.mergeSort fun x y => decide (x ≤ y)).Pairwise (fun a b => a ≤ b) := by
  have := List.pairwise_mergeSort (le := fun x y : List UInt8 => decide (x ≤ y)) (fun a b c h1 h2 => by
    rw [decide_eq_true_eq, leL_iff] at *
    rcases h1 with h1 | h1 <;> rcases h2 with h2 | h2
    · exact .inl (ltL_trans h1 h2)
    · exact .inl (h2 ▸ h1)
    · exact .inl (h1 ▸ h2)
    · exact .inr (h1.trans h2)) (fun a b => by
    rw [Bool.or_eq_true, decide_eq_true_eq, decide_eq_true_eq, leL_iff, leL_iff]
    rcases ltL_tri a b with h | h | h
    · exact .inl (.inl h)
    · exact .inl (.inr h)
    · exact .inr (.inl h)) xs
  exact this.imp fun h => by simpa using h
def tidyT (xs : List (List UInt8)) : List (List UInt8) := Lib.compact (xs.mergeSort fun x y => decide (x ≤ y))
theorem tidyT_facts (xs : List (List UInt8)) : rises (tidyT xs) ∧ ∀ x, x ∈ tidyT xs ↔ x ∈ xs := by
  have hsort := sortT_le xs
  have hmem : ∀ x, x ∈ (xs.mergeSort fun x y => decide (x ≤ y)) ↔ x ∈ xs := fun x => List.mem_mergeSort
  unfold tidyT
  generalize (xs.mergeSort fun x y => decide (x ≤ y)) = l at *
  have hd : ∀ j, (h : j < l.length) → l.toArray[j]! = l[j] := fun j h => by simp [h]
  obtain ⟨h1, _, h3⟩ := cutT_facts l.toArray (fun j hj => by
    have hj : j + 1 < l.length := by simpa using hj
    rw [hd j (by omega), hd (j + 1) hj]
    exact List.pairwise_iff_getElem.1 hsort j (j + 1) (by omega) hj (by omega)) l.length (by simp)
  refine ⟨h1, fun x => ?_⟩
  unfold Lib.compact
  rw [h3, ← hmem, List.mem_iff_getElem]
  constructor
  · rintro ⟨j, hj, e⟩
    rw [hd j hj] at e
    exact ⟨j, hj, e⟩
  · rintro ⟨j, hj, e⟩
    exact ⟨j, hj, by rw [hd j hj]; exact e⟩
theorem tidyT_nil : tidyT [] = [] := by
  have := (tidyT_facts []).2
  cases h : tidyT [] with
  | nil => rfl
  | cons x r => exact absurd ((this x).1 (by rw [h]; simp)) (by simp)
theorem sort_rises {xs : List (List UInt8)} (h : xs.Nodup) : rises (xs.mergeSort fun x y => decide (x ≤ y)) := by
  have h1 := sortT_le xs
  have h2 : (xs.mergeSort fun x y => decide (x ≤ y)).Nodup := (List.mergeSort_perm xs _).nodup_iff.2 h
  generalize (xs.mergeSort fun x y => decide (x ≤ y)) = l at *
  unfold rises
  refine (h1.and h2).imp ?_
  rintro a b ⟨h3, h4⟩
  rcases leL_iff.1 h3 with h | h
  · exact h
  · exact absurd h h4
theorem heap_putT (w : World) (g off : Nat) (d : Array (List UInt8)) (i : Nat) (h : i ≠ g) : (putRow encStr w g off d).heap[i]? = w.heap[i]? := by
  unfold putRow mapBlock
  simp only [Array.getElem?_modify]
  rw [if_neg (Ne.symm h)]
theorem below_putT {B g n : Nat} {w W W2 : World} {d : Array (List UInt8)} {os : Array Obj} (h : Below B w W) (hB : B ≤ W.heap.size) (hg : B ≤ g) (hW : W2 = grow (putRow encStr (Sort.ahead W n) g 0 d) os) : Below B w W2 := by
  refine h.trans ⟨by rw [hW]; rfl, by rw [hW]; rfl, by rw [hW]; rfl, by rw [hW]; simp, fun i hi => ?_⟩
  rw [hW, heap_grow_old _ _ (by simp; omega), heap_putT _ _ _ _ _ (by omega)]
  rfl
theorem holds_putT {g n : Nat} {W W2 : World} {d d' : List (List UInt8)} {os : Array Obj} (h : Holds encStr W g 0 d.toArray) (hg : g < W.heap.size) (hd : d'.length = d.length) (hW : W2 = grow (putRow encStr (Sort.ahead W n) g 0 d'.toArray) os) : Holds encStr W2 g 0 d'.toArray ∧ g < W2.heap.size := by
  refine ⟨?_, by rw [hW]; simp; omega⟩
  rw [hW]
  refine holds_grow _ _ _ _ _ _ (by simpa using hg) ?_
  exact holds_putRow _ _ _ _ d.toArray d'.toArray h (by simpa using hd)
theorem holds_own {w : World} {base : Nat} {v : Value} {l : List (List UInt8)} (h : OwnT w base v l) (hl : l ≠ []) : ∃ g cap, v = .slice (some ⟨g, 0, none⟩) l.length cap ∧ base ≤ g ∧ g < w.heap.size ∧ l.length ≤ cap ∧ Holds encStr w g 0 l.toArray := by
  rcases h.2 with ⟨h1, h2⟩ | ⟨g, cap, cur, hv, hg, hbk, hr1, hr2, hr3, hr4⟩
  · exact absurd (List.length_eq_zero_iff.1 h2) hl
  · refine ⟨g, cap, hv, hg, (Array.getElem?_eq_some_iff.1 hbk).1, hr1, ?_⟩
    intro j hj
    have hj : j < l.length := by simpa using hj
    refine ⟨?_, Blk.frozen (t := 9) (cs := cur) hbk (0 + j)⟩
    have hc : w.cell? ⟨g, 0 + j, none⟩ = cur[0 + j]? := cell_of_row w g (0 + j) cur _ (0, 0) hbk
    rw [hc, ← Array.getElem?_toList]
    have e : cur.toList[0 + j]? = (cur.toList.take (l.length * 1))[j]? := by rw [List.getElem?_take_of_lt (by omega), Nat.zero_add]
    rw [e, hr4]
    unfold wcells
    rw [List.getElem?_map, List.getElem?_eq_getElem hj]
    simp [hj, encStr, str]
theorem rowAt_holds {W : World} {g : Nat} {ds zs : List (List UInt8)} (h : Holds encStr W g 0 (ds ++ zs).toArray) (hg : g < W.heap.size) (hl : ds.length ≤ maxLen) : RowAt W W.heap.size (some ⟨g, 0, none⟩) ds.length ds := by
  refine ⟨rfl, hl, fun _ => ⟨_, rfl, hg, fun j x hj => ?_⟩⟩
  obtain ⟨hjl, e0⟩ := List.getElem?_eq_some_iff.1 hj
  have e : (⟨g, 0, none⟩ : Addr).add j = ⟨g, 0 + j, none⟩ := by unfold Addr.add; split <;> simp_all
  rw [e, (h j (by simp; omega)).1]
  have e2 : (ds ++ zs).toArray[j]! = ds[j] := by simp [hjl, List.getElem?_append_left]
  rw [e2, e0]
  rfl
theorem compactT_le (l : List (List UInt8)) : (Lib.compact l).length ≤ l.length := by
  unfold Lib.compact Lib.compactUpTo
  rw [List.length_map]
  have := List.length_filter_le (Lib.keeps l.toArray) (List.range l.length)
  rwa [List.length_range] at this
theorem compactT_len (l : List (List UInt8)) : (Lib.compact l ++ List.replicate (l.length - (Lib.compact l).length) []).length = l.length := by
  have := compactT_le l
  rw [List.length_append, List.length_replicate]; omega
end Go.Proofs.YthodbeeglkedcaaGreat
namespace Go.Proofs.YthodbeeglkedcaaGreat
open Go.RowKit Go.WideMaps Go.Maps
theorem zeroStrT (w : World) : (zeroValue 9).run Tryz.prog w = .ok (.string ⟨#[]⟩) w := by kernel_rfl
theorem lookupT {P : Program} {k t e : TypeId} {w : World} {b n : Nat} {D : DataW Unit} (h : w.ownsMap P k (plainElem P e) b n D) (K : Keyed P k) (ht : P.underlying t = some (.map k e)) (he : P.underlying e = some .string) (hz : (zeroValue e).run P w = .ok (.string ⟨#[]⟩) w)
    {key : Value} {kl : Lit} (hkey : keyOf P k key = some kl) : ∃ s : ByteArray, (Instr.lookup t (.map (some b)) key false).run P w = .ok (.string s) w ∧ D.atKey kl (.lit (.string [])) = .lit (.string s.data.toList) := by
  obtain ⟨v, ps, hrun, hv⟩ := h.lookup K ht hz (plainElem_string he (s := ⟨#[]⟩) (Nat.zero_le _)) hkey
  obtain ⟨s, rfl, hc, _⟩ := plainElem_string_inv he hv
  simp only [Prod.mk.injEq] at hc
  exact ⟨s, hrun, hc.1⟩
def MapT (w : World) (b n : Nat) (f : List UInt8 → List UInt8) : Prop :=
  ∃ D : DataW Unit, w.ownsMap Tryz.prog 9 (plainElem Tryz.prog 9) b n D ∧ ∀ p, has D (.string p) = decide (f p ≠ []) ∧ D.atKey (.string p) (.lit (.string [])) = .lit (.string (f p))
theorem MapT.lt {w : World} {b n : Nat} {f : List UInt8 → List UInt8} (h : MapT w b n f) : b < w.heap.size := by
  obtain ⟨D, h, _⟩ := h
  exact h.lt
theorem MapT.kept {w w' : World} {b n : Nat} {f : List UInt8 → List UInt8} {row : Option Nat} (h : MapT w b n f) (hg : w.grownBy w' row) (hne : some b ≠ row) : MapT w' b n f := by
  obtain ⟨D, h, k⟩ := h
  exact ⟨D, h.kept hg hne, k⟩
theorem MapT.below {w w' : World} {b n : Nat} {f : List UInt8 → List UInt8} (h : MapT w b n f) (hb : Below w.heap.size w w') : MapT w' b n f := h.kept (only_of_below hb none) (by simp)
theorem MapT.same {w : World} {b n : Nat} {f g : List UInt8 → List UInt8} (h : MapT w b n f) (e : ∀ p, f p = g p) : MapT w b n g := by
  obtain ⟨D, h, k⟩ := h
  exact ⟨D, h, fun p => by rw [← e p]; exact k p⟩
theorem MapT.mono {w : World} {b n m : Nat} {f : List UInt8 → List UInt8} (h : MapT w b n f) (hn : n ≤ m) : MapT w b m f := by
  obtain ⟨D, h, k⟩ := h
  exact ⟨D, h.mono hn, k⟩
theorem mapT_made (w : World) : MapT (w.alloc (.map #[] 0)) w.heap.size 0 (fun _ => []) := ⟨.map [], World.ownsMap_made _ _ _ _, fun _ => ⟨rfl, rfl⟩⟩
set_option maxRecDepth 100000 in
theorem MapT.look {w : World} {b n : Nat} {f : List UInt8 → List UInt8} (h : MapT w b n f) (p : List UInt8) (hp : p.length ≤ maxLen) :
    (Instr.lookup 60 (.map (some b)) (.string (str p)) false).run Tryz.prog w = .ok (.string (str (f p))) w := by
  obtain ⟨D, hD, hk⟩ := h
  have hkey : keyOf Tryz.prog 9 (.string (str p)) = some (.string p) := keyOf_string_mk Tryz.underlying9 hp
  obtain ⟨v, hrun, hat⟩ := lookupT hD (string_keyed Tryz.underlying9) Tryz.underlying60 Tryz.underlying9 (zeroStrT _) hkey
  rw [(hk p).2] at hat
  have : v = str (f p) := by
    rw [← str_data v]
    injection hat with hat
    injection hat with hat
    rw [← hat]
  rw [hrun, this]
theorem wpList_putT {w : World} {ops : Array Oper} {rest : List Oper} {o : Oper} {a : Act} {Q : Exit → Act → World → Prop}
    (hg : o.guard = none) (m x v : Operand) (hop : o.op = Op.mapUpdate 60 m x v) (b n : Nat) (f : List UInt8 → List UInt8)
    (hm : a.eval m = .map (some b)) (h : MapT w b n f) (hn : n < maxLen) (p q : List UInt8) (hp : p.length ≤ maxLen) (hq : q.length ≤ maxLen) (hq0 : q ≠ []) (hx : a.eval x = .string (str p)) (hv : a.eval v = .string (str q))
    (hK : ∀ w', MapT w' b (n + 1) (fun z => if p = z then q else f z) → w.grownBy w' (some b) → wpList Tryz.prog ops Q rest (a.put o.dst undef) w') :
    wpList Tryz.prog ops Q (o :: rest) a w := by
  obtain ⟨D, hD, hat⟩ := h
  have hkey : keyOf Tryz.prog 9 (.string (str p)) = some (.string p) := keyOf_string_mk Tryz.underlying9 hp
  have hel : plainElem (H := Unit) Tryz.prog 9 (.string (str q)) = some (.lit (.string q), []) := by
    have := plainElem_string (H := Unit) Tryz.underlying9 (s := str q) (by rw [str_size]; exact hq)
    rwa [str_list] at this
  refine wpList_mapUpdate_own w hg m x v 60 hop 9 9 (string_keyed Tryz.underlying9) Tryz.underlying60 (plainElem Tryz.prog 9) b n D hm hD hn (.string (str p)) (.string (str q)) (.string p) hx hv hkey (.lit (.string q)) [] hel ?_
  intro w' h1 h2
  refine hK w' ⟨_, h1, fun z => ?_⟩ h2
  by_cases e : p = z
  · subst e
    rw [has_put_same hD.isMap (by trivial), atKey_put_same hD.isMap (by trivial)]
    exact ⟨by simp [hq0], by simp⟩
  · have hne : (Lit.string z) ≠ .string p := by intro h; injection h with h; exact e h.symm
    rw [has_put_other hne, atKey_put_other hne]
    simp only [if_neg e]
    exact hat z
theorem MapT.sorted {w : World} {b n : Nat} {f : List UInt8 → List UInt8} (h : MapT w b n f) (hn : n ≤ 1000) {l : List (List UInt8)} (hl : rises l) (hx : ∀ x, x ∈ l ↔ f x ≠ []) :
    ∃ D : DataW Unit, w.ownsMap Tryz.prog 9 (plainElem Tryz.prog 9) b n D ∧ Maps.size D ≤ maxLen ∧ Maps.size D * 16 ≤ 140737488355328 ∧ ∀ ss : List (List UInt8), ss.Perm (strKeys D) → (ss.mergeSort (fun x y => decide (x ≤ y))) = l ∧ ss.length = l.length := by
  obtain ⟨D, hD, hk⟩ := h
  have hsz := hD.size_le
  have hnd : l.Nodup := hl.imp (fun {a b} h e => by rw [e] at h; exact ltL_irrefl _ h)
  refine ⟨D, hD, by unfold maxLen; omega, by omega, fun ss hss => ?_⟩
  have hC : Collected D (fun _ => false) l := ⟨hnd, fun x => by rw [hx, (hk x).1]; simp⟩
  have hp : l.Perm (strKeys D) := hC.perm hD (string_keyed Tryz.underlying9) Tryz.underlying9 (fun _ => rfl)
  have hsl : ss.Perm l := hss.trans hp.symm
  refine ⟨rise_ext (sort_rises (hsl.nodup_iff.2 hnd)) hl fun x => ?_, hsl.length_eq⟩
  rw [List.mem_mergeSort]
  exact hsl.mem_iff
theorem dPlaces_at (w : World) :
    Calls Tryz.prog 12 #[] w fun e w' => ∃ c, e = .returned (.slice (some ⟨w.heap.size, 0, none⟩) 3 c) ∧ RowAt w' w'.heap.size (some ⟨w.heap.size, 0, none⟩) 3 plc ∧ Below w.heap.size w w' := by
  go_enter Tryz.func12, Tryz.ntmps12
  go_wp2_with fail
  go_ret
  exact ⟨_, rfl, rowAt_new w _ plc (by decide), (Below.refl _ w).alloc (Nat.le_refl _) _⟩
theorem rowAt_only {w w' : World} {g b n : Nat} {l : List (List UInt8)} (h : RowAt w w.heap.size (some ⟨g, 0, none⟩) n l) (hg : w.grownBy w' (some b)) (hne : g ≠ b) : RowAt w' w'.heap.size (some ⟨g, 0, none⟩) n l :=
  ⟨h.1, h.2.1, fun hn => by
    obtain ⟨ad, e, hB, hc⟩ := h.2.2 hn
    injection e with e
    subst e
    exact ⟨_, rfl, Nat.lt_of_lt_of_le hB hg.size, fun j x hj => by
      rw [← hc j x hj, add_cellO]
      exact cell_only hg g j hB hne⟩⟩
theorem fd_str (a v : List UInt8) : str a ++ (⟨#[47]⟩ : ByteArray) ++ str v ++ (⟨#[46, 100, 47]⟩ : ByteArray) = str (foldD v a) := by
  apply Nm.ext_list
  rw [app_list, app_list, app_list, str_list, str_list, str_list]
  simp [foldD, dotD]
def fldsO (u t : List UInt8) (o : Nat) : List (List UInt8 × List UInt8) := ([u, t].take o).flatMap (fun v => plc.map (fun a => (v, a)))
def fldsQ (F : List (List UInt8 × List UInt8)) (v : List UInt8) (q : Nat) : List (List UInt8 × List UInt8) := F ++ (plc.take q).map (fun a => (v, a))
theorem fldsQ_zero (F : List (List UInt8 × List UInt8)) (v : List UInt8) : fldsQ F v 0 = F := by simp [fldsQ]
theorem fldsQ_succ {F : List (List UInt8 × List UInt8)} {v a : List UInt8} {q : Nat} (ha : plc[q]? = some a) : fldsQ F v (q + 1) = fldsQ F v q ++ [(v, a)] := by
  obtain ⟨hk, he⟩ := List.getElem?_eq_some_iff.1 ha
  unfold fldsQ
  rw [List.take_succ_eq_append_getElem hk, he, List.map_append, List.append_assoc]
  rfl
theorem fldsO_succ {u t v : List UInt8} {o : Nat} (hv : [u, t][o]? = some v) : fldsO u t (o + 1) = fldsQ (fldsO u t o) v 3 := by
  obtain ⟨hk, he⟩ := List.getElem?_eq_some_iff.1 hv
  unfold fldsO fldsQ
  rw [List.take_succ_eq_append_getElem hk, he, List.flatMap_append]
  simp [plc]
theorem fldsO_all (n : List UInt8) : fldsO n (nmsP.tmpl n) 2 = sixF nmsP n := by
  unfold fldsO sixF
  simp [plc]
end Go.Proofs.YthodbeeglkedcaaGreat
