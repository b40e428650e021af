/- The developers' way to the graph of loaded units, on plain lists. It speaks of no code. -/
import Derived.Test.YtcoepioahabbdaaGreatGyaf
namespace Go.Proofs.YtcoepioahabbdaaGreat
section
variable {α : Type} [DecidableEq α] {lt : α → α → Prop} [DecidableRel lt]
theorem take_put (n : Nat) (l : List α) (s : α) : (putG lt l s).take n = (putG lt (l.take n) s).take n := by
  induction l generalizing n with
  | nil => simp
  | cons x l ih =>
    cases n with
    | zero => simp
    | succ n =>
      rw [List.take_succ_cons, putG, putG]
      split
      · rw [List.take_succ_cons, List.take_succ_cons, ih n]
      · split
        · rw [List.take_succ_cons, List.take_succ_cons, List.take_take, Nat.min_self]
        · rw [List.take_succ_cons, List.take_succ_cons]
          cases n with
          | zero => rfl
          | succ n => rw [List.take_succ_cons, List.take_succ_cons, List.take_take, Nat.min_eq_left (Nat.le_succ n)]
end
section
variable {α : Type} (nm : α → Tx)
def insK : List α → α → List α
  | [], x => [x]
  | y :: l, x => if nm y < nm x then y :: insK l x else if nm y = nm x then y :: l else x :: y :: l
def stepK (K : Tx → Int) (u : List α) (x : α) : List α := if K (nm x) = 0 then u else (insK nm u x).take 64
def chooseK (K : Tx → Int) (l : List α) : List α := l.foldl (stepK nm K) []
structure Pos (l : List α) (t : Tx) (i : Nat) : Prop where
  le : i ≤ l.length
  lo : ∀ j x, j < i → l[j]? = some x → nm x < t
  hi : ∀ j x, i ≤ j → l[j]? = some x → ¬ nm x < t
def hasK (l : List α) (t : Tx) : Bool := decide (t ∈ l.map nm)
abbrev risesK (l : List α) : Prop := l.Pairwise (fun a b => nm a < nm b)
variable {nm}
theorem risesK_map {l : List α} : risesK nm l ↔ risesG (fun a b : Tx => a < b) (l.map nm) := List.pairwise_map.symm
theorem insK_map (u : List α) (x : α) : (insK nm u x).map nm = putG (fun a b : Tx => a < b) (u.map nm) (nm x) := by
  induction u with
  | nil => rfl
  | cons y u ih =>
    rw [insK, List.map_cons, putG]
    split
    · rw [List.map_cons, ih]
    · split <;> rfl
theorem insK_at {u : List α} {x : α} {i : Nat} (h : Pos nm u (nm x) i) (hn : hasK nm u (nm x) = false) : insK nm u x = u.take i ++ x :: u.drop i := by
  induction u generalizing i with
  | nil =>
    have : i = 0 := by have := h.le; simpa using this
    subst this
    rfl
  | cons y u ih =>
    have hn2 : hasK nm u (nm x) = false := by
      unfold hasK at hn ⊢
      simp at hn ⊢
      exact hn.2
    have hne : nm y ≠ nm x := by
      unfold hasK at hn
      simp at hn
      exact fun e => hn.1 e.symm
    cases i with
    | zero =>
      have h1 := h.hi 0 y (Nat.le_refl _) rfl
      rw [insK, if_neg h1, if_neg hne]
      rfl
    | succ i =>
      have h1 := h.lo 0 y (by omega) rfl
      rw [insK, if_pos h1, List.take_succ_cons, List.drop_succ_cons, List.cons_append, ← ih (i := i) ⟨by have := h.le; simp at this; exact this, fun j z hj hz => h.lo (j + 1) z (by omega) hz, fun j z hj hz => h.hi (j + 1) z (by omega) hz⟩ hn2]
theorem insK_same {u : List α} {x : α} (hr : risesK nm u) (h : hasK nm u (nm x) = true) : insK nm u x = u := by
  induction u with
  | nil => simp [hasK] at h
  | cons y u ih =>
    obtain ⟨h1, h2⟩ := List.pairwise_cons.1 hr
    rw [insK]
    by_cases e : nm y = nm x
    · rw [if_neg (by rw [e]; exact List.lt_irrefl _), if_pos e]
    · have hu : hasK nm u (nm x) = true := by
        unfold hasK at h ⊢
        simp at h ⊢
        rcases h with h | h
        · exact absurd h.symm e
        · exact h
      have hl : nm y < nm x := by
        unfold hasK at hu
        simp at hu
        obtain ⟨z, hz, ez⟩ := hu
        rw [← ez]
        exact h1 z hz
      rw [if_pos hl, ih h2 hu]
theorem insK_mem {u : List α} {x z : α} (hr : risesK nm u) (h : z ∈ insK nm u x) : z ∈ u ∨ (z = x ∧ hasK nm u (nm x) = false) := by
  by_cases hh : hasK nm u (nm x) = true
  · rw [insK_same hr hh] at h
    exact .inl h
  · have hf : hasK nm u (nm x) = false := by simpa using hh
    clear hr hh
    induction u with
    | nil =>
      simp [insK] at h
      exact .inr ⟨h, hf⟩
    | cons y u ih =>
      have hn2 : hasK nm u (nm x) = false := by
        unfold hasK at hf ⊢
        simp at hf ⊢
        exact hf.2
      rw [insK] at h
      split at h
      · rcases List.mem_cons.1 h with e | h
        · exact .inl (by simp [e])
        · rcases ih h hn2 with h | h
          · exact .inl (by simp [h])
          · exact .inr ⟨h.1, hf⟩
      · split at h
        · exact .inl h
        · rcases List.mem_cons.1 h with e | h
          · exact .inr ⟨e, hf⟩
          · exact .inl h
theorem pos_all {u : List α} {t : Tx} {i : Nat} (h : Pos nm u t i) (hi : i = u.length) : hasK nm u t = false := by
  unfold hasK
  rw [decide_eq_false_iff_not]
  intro hm
  obtain ⟨x, hx, e⟩ := List.mem_map.1 hm
  obtain ⟨j, hj, rfl⟩ := List.getElem_of_mem hx
  have := h.lo j _ (by omega) (List.getElem?_eq_getElem hj)
  rw [e] at this
  exact List.lt_irrefl _ this
theorem pos_has {u : List α} {t : Tx} {i : Nat} (h : Pos nm u t i) (hr : risesK nm u) : hasK nm u t = true ↔ ∃ x, u[i]? = some x ∧ nm x = t := by
  unfold hasK
  rw [decide_eq_true_eq, List.mem_map]
  constructor
  · rintro ⟨x, hx, rfl⟩
    obtain ⟨j, hj, rfl⟩ := List.getElem_of_mem hx
    have h1 : i ≤ j := by
      rcases Nat.lt_or_ge j i with h' | h'
      · exact absurd (h.lo j _ h' (List.getElem?_eq_getElem hj)) (List.lt_irrefl _)
      · exact h'
    rcases Nat.eq_or_lt_of_le h1 with e | h2
    · subst e
      exact ⟨_, List.getElem?_eq_getElem hj, rfl⟩
    · have hi : i < u.length := by omega
      exact absurd (List.pairwise_iff_getElem.1 hr i j hi hj h2) (h.hi i _ (Nat.le_refl _) (List.getElem?_eq_getElem hi))
  · rintro ⟨x, hx, rfl⟩
    exact ⟨x, List.mem_of_getElem? hx, rfl⟩
theorem stepK_has {K : Tx → Int} {u : List α} {x : α} (hr : risesK nm u) (hl : u.length ≤ 64) (h : hasK nm u (nm x) = true) : stepK nm K u x = u := by
  unfold stepK
  split
  · rfl
  · rw [insK_same hr h, List.take_of_length_le hl]
theorem stepK_full {K : Tx → Int} {u : List α} {x : α} {i : Nat} (hl : u.length ≤ 64) (h : Pos nm u (nm x) i) (hi : i = 64) : stepK nm K u x = u := by
  have hlen : u.length = 64 := by have := h.le; omega
  unfold stepK
  split
  · rfl
  · rw [insK_at h (pos_all h (by omega)), show u.take i = u from List.take_of_length_le (by omega), List.take_append_of_le_length (by omega)]
    exact List.take_of_length_le (by omega)
theorem stepK_no {K : Tx → Int} {u : List α} {x : α} (h : K (nm x) = 0) : stepK nm K u x = u := by
  unfold stepK
  rw [if_pos h]
theorem stepK_put {K : Tx → Int} {u : List α} {x : α} {i : Nat} (h : Pos nm u (nm x) i) (hn : hasK nm u (nm x) = false) (hk : K (nm x) ≠ 0) : stepK nm K u x = (u.take i ++ x :: u.drop i).take 64 := by
  unfold stepK
  rw [if_neg hk, insK_at h hn]
theorem stepK_map {K : Tx → Int} (u : List α) (x : α) (N : List Tx) (h : u.map nm = N.take 64) : (stepK nm K u x).map nm = ((if K (nm x) = 0 then N else putG (fun a b : Tx => a < b) N (nm x))).take 64 := by
  unfold stepK
  split
  · exact h
  · rw [List.map_take, insK_map, h, ← take_put]
theorem chooseK_go_map {K : Tx → Int} (l : List α) (u : List α) (N : List Tx) (h : u.map nm = N.take 64) : (l.foldl (stepK nm K) u).map nm = (((l.map nm).filter (fun n => decide (K n ≠ 0))).foldl (putG (fun a b : Tx => a < b)) N).take 64 := by
  induction l generalizing u N with
  | nil => exact h
  | cons x l ih =>
    rw [List.foldl_cons, List.map_cons, List.filter_cons]
    have := stepK_map (K := K) u x N h
    by_cases hk : K (nm x) = 0
    · rw [if_pos hk] at this
      rw [if_neg (by simp [hk])]
      exact ih _ _ this
    · rw [if_neg hk] at this
      rw [if_pos (by simp [hk]), List.foldl_cons]
      exact ih _ _ this
theorem chooseK_map {K : Tx → Int} (l : List α) : (chooseK nm K l).map nm = (putAll (lt := fun a b : Tx => a < b) ((l.map nm).filter (fun n => decide (K n ≠ 0)))).take 64 := chooseK_go_map l [] [] rfl
theorem chooseK_len {K : Tx → Int} (l : List α) : (chooseK nm K l).length ≤ 64 := by
  have := congrArg List.length (chooseK_map (nm := nm) (K := K) l)
  rw [List.length_map, List.length_take] at this
  omega
theorem chooseK_rises {K : Tx → Int} (l : List α) : risesK nm (chooseK nm K l) := by
  rw [risesK_map, chooseK_map]
  exact (putAll_rises linT).sublist (List.take_sublist _ _)
theorem chooseK_snoc {K : Tx → Int} (l : List α) (x : α) : chooseK nm K (l ++ [x]) = stepK nm K (chooseK nm K l) x := by
  unfold chooseK
  rw [List.foldl_append]
  rfl
theorem chooseK_first {K : Tx → Int} (l : List α) : ∀ u ∈ chooseK nm K l, l.find? (fun x => decide (nm x = nm u)) = some u := by
  have key : ∀ n (l : List α), l.length = n → ∀ u ∈ chooseK nm K l, l.find? (fun x => decide (nm x = nm u)) = some u := fun n => by
    induction n with
    | zero =>
      intro l hl u hu
      have : l = [] := List.eq_nil_of_length_eq_zero hl
      subst this
      cases hu
    | succ n ih =>
      intro l hl u hu
      have hne : l ≠ [] := by intro e; subst e; cases hl
      obtain ⟨p, x, rfl⟩ : ∃ p x, l = p ++ [x] := ⟨l.dropLast, l.getLast hne, (List.dropLast_concat_getLast hne).symm⟩
      have hp : p.length = n := by simp at hl; exact hl
      rw [chooseK_snoc] at hu
      have old : ∀ u ∈ chooseK nm K p, (p ++ [x]).find? (fun x => decide (nm x = nm u)) = some u := fun u hu => by
        rw [List.find?_append, ih p hp u hu]
        rfl
      unfold stepK at hu
      split at hu
      · exact old u hu
      · rename_i hk
        rcases insK_mem (chooseK_rises p) (List.mem_of_mem_take hu) with h | ⟨rfl, h⟩
        · exact old u h
        · have hnone : p.find? (fun x => decide (nm x = nm u)) = none := by
            rw [List.find?_eq_none]
            intro z hz hzn
            have hzn : nm z = nm u := by simpa using hzn
            have hin : nm u ∈ putAll (lt := fun a b : Tx => a < b) ((p.map nm).filter (fun n => decide (K n ≠ 0))) := putAll_mem.2 (List.mem_filter.2 ⟨List.mem_map.2 ⟨z, hz, hzn⟩, by simp [hk]⟩)
            have h2 : nm u ∈ ((insK nm (chooseK nm K p) u).take 64).map nm := List.mem_map.2 ⟨u, hu, rfl⟩
            rw [List.map_take, insK_map, chooseK_map, ← take_put, putG_same linT (putAll_rises linT) hin, ← chooseK_map] at h2
            unfold hasK at h
            simp only [decide_eq_false_iff_not] at h
            exact h h2
          rw [List.find?_append, hnone]
          simp
  exact key l.length l rfl
end
theorem chooseK_comap {α β : Type} (f : α → β) (nm : β → Tx) (K : Tx → Int) (l : List α) : (chooseK (fun a => nm (f a)) K l).map f = chooseK nm K (l.map f) := by
  have ins : ∀ (u : List α) (x : α), (insK (fun a => nm (f a)) u x).map f = insK nm (u.map f) (f x) := fun u x => by
    induction u with
    | nil => rfl
    | cons y u ih =>
      rw [insK, List.map_cons, insK]
      split
      · rw [List.map_cons, ih]
      · split <;> rfl
  have key : ∀ u : List α, (l.foldl (stepK (fun a => nm (f a)) K) u).map f = (l.map f).foldl (stepK nm K) (u.map f) := by
    induction l with
    | nil => intro u; rfl
    | cons x l ih =>
      intro u
      rw [List.foldl_cons, List.map_cons, List.foldl_cons, ih]
      congr 1
      unfold stepK
      split
      · rfl
      · rw [List.map_take, ins]
  exact key []
def addC (N : Tx → Bool) (f : Tx) (cs : List (Tx × Int)) : List Ed := (cs.filter (fun c => N c.1 && decide (f ≠ c.1))).map (fun c => ⟨f, c.1, c.2⟩)
theorem addC_nil (N : Tx → Bool) (f : Tx) : addC N f [] = [] := rfl
theorem addC_app (N : Tx → Bool) (f : Tx) (a b : List (Tx × Int)) : addC N f (a ++ b) = addC N f a ++ addC N f b := by
  unfold addC
  rw [List.filter_append, List.map_append]
theorem addC_len (N : Tx → Bool) (f : Tx) (a : List (Tx × Int)) : (addC N f a).length ≤ a.length := by
  unfold addC
  rw [List.length_map]
  exact List.length_filter_le _ _
theorem addC_mem {N : Tx → Bool} {f : Tx} {cs : List (Tx × Int)} {e : Ed} : e ∈ addC N f cs ↔ e.f = f ∧ N e.t = true ∧ e.f ≠ e.t ∧ (e.t, e.r) ∈ cs := by
  unfold addC
  rw [List.mem_map]
  constructor
  · rintro ⟨⟨t, r⟩, h, rfl⟩
    rw [List.mem_filter] at h
    have h2 := h.2
    simp at h2
    exact ⟨rfl, h2.1, h2.2, h.1⟩
  · rintro ⟨rfl, h1, h2, h3⟩
    exact ⟨(e.t, e.r), List.mem_filter.2 ⟨h3, by simp [h1, h2]⟩, rfl⟩
theorem addC_to (N : Tx → Bool) (f t : Tx) (rs : List Int) : addC N f (rs.map (fun r => (t, r))) = if N t = true ∧ f ≠ t then rs.map (fun r => ⟨f, t, r⟩) else [] := by
  unfold addC
  by_cases h : N t = true ∧ f ≠ t
  · rw [if_pos h, List.filter_eq_self.2 (fun c hc => by obtain ⟨r, _, rfl⟩ := List.mem_map.1 hc; simp [h]), List.map_map]
    rfl
  · rw [if_neg h, List.filter_eq_nil_iff.2 (fun c hc => by
      obtain ⟨r, _, rfl⟩ := List.mem_map.1 hc
      simp only [Bool.and_eq_true, decide_eq_true_eq]
      exact h)]
    rfl
section
variable (U : List Ld)
def saysP (t n : Tx) : Bool := match firstL' U t with
  | some y => decide (y.s = 1) && decide ((8, n) ∈ y.rels)
  | none => false
def pullP (x : Ld) : List Tx := putAll (lt := fun a b : Tx => a < b) (namesC x)
def targP (x : Ld) : List (Tx × Int) := ((pullP x).filter (fun t => !saysP U t x.n)).map (·, 8)
def namedP (x : Ld) : List (Tx × Int) := relsC x ++ wantsC x ++ reqsC x
def sysP (k : Int) : List (Tx × Int) := (if k = 1 then [(sysT, 1), (sysT, 8)] else [(sysT, 8)]) ++ [(shutT, 6), (shutT, 7)]
def dfltP (k : Int) (x : Ld) : List (Tx × Int) := if k = 4 then targP U x else sysP k
def kindP' (k : Int) (x : Ld) : List (Tx × Int) := if k = 1 then x.socks.flatMap (fun s => [(s, 2), (s, 8)]) else if k = 2 ∨ k = 3 then [(x.wk, 10), (x.wk, 7)] else []
def sayP (k : Int) (x : Ld) : List (Tx × Int) := namedP x ++ kindP' k x ++ (if x.dflt then dfltP U k x else [])
def hasU (t : Tx) : Bool := hasK (fun x : Ld => x.n) U t
def weaveP (K : Tx → Int) (x : Ld) : List Ed := addC (hasU U) x.n (sayP U (K x.n) x)
def rawP (K : Tx → Int) : List Ed := U.flatMap (fun x => if x.s = 1 then weaveP U K x else [])
end
section
variable {K : Tx → Int}
theorem choose_names (l : List Ld) : (chooseK (fun x : Ld => x.n) K l).map (fun x => x.n) = (namesL K l).take 64 := chooseK_map l
theorem choose_first (l : List Ld) {u : Ld} (h : u ∈ chooseK (fun x : Ld => x.n) K l) : firstL' l u.n = some u := chooseK_first l u h
theorem hasU_iff (l : List Ld) (t : Tx) : hasU (chooseK (fun x : Ld => x.n) K l) t = true ↔ isNode K l t := by
  unfold hasU hasK isNode
  rw [decide_eq_true_eq, choose_names]
theorem node_kind {l : List Ld} {t : Tx} (h : isNode K l t) : K t ≠ 0 := (names_mem.1 (List.mem_of_mem_take h)).1
theorem choose_find (l : List Ld) {t : Tx} (h : isNode K l t) : firstL' (chooseK (fun x : Ld => x.n) K l) t = firstL' l t := by
  have h1 := (hasU_iff (K := K) l t).2 h
  unfold hasU hasK at h1
  rw [decide_eq_true_eq, List.mem_map] at h1
  obtain ⟨u, hu, e⟩ := h1
  obtain ⟨y, hy⟩ := first_is hu
  rw [e] at hy
  rw [hy]
  obtain ⟨h2, h3⟩ := first_some hy
  have := choose_first l h2
  rw [h3] at this
  exact this.symm
theorem saysP_iff (l : List Ld) (x : Ld) {t : Tx} (h : isNode K l t) : saysP (chooseK (fun x : Ld => x.n) K l) t x.n = behindB K l x t := by
  unfold saysP behindB mapL
  rw [choose_find l h, if_pos (node_kind h)]
  cases firstL' l t <;> rfl
theorem sayP_iff (hK : ∀ t, K t = 0 ∨ K t = 1 ∨ K t = 2 ∨ K t = 3 ∨ K t = 4) (l : List Ld) {x : Ld} (hx : K x.n ≠ 0) {t : Tx} {r : Int} (h : isNode K l t) : (t, r) ∈ sayP (chooseK (fun x : Ld => x.n) K l) (K x.n) x ↔ (t, r) ∈ sayL K l x := by
  have e0 : wakesK (K x.n) = true ↔ K x.n = 2 ∨ K x.n = 3 := by simp [wakesK]
  have hT : (t, r) ∈ targP (chooseK (fun x : Ld => x.n) K l) x ↔ (t, r) ∈ targC K l x := by
    unfold targP targC pullP
    simp only [List.mem_map, List.mem_filter, putAll_mem]
    constructor
    · rintro ⟨u, ⟨h1, h2⟩, e⟩
      cases e
      rw [saysP_iff l x h] at h2
      exact ⟨_, ⟨h1, h2⟩, rfl⟩
    · rintro ⟨u, ⟨h1, h2⟩, e⟩
      cases e
      refine ⟨_, ⟨h1, ?_⟩, rfl⟩
      rw [saysP_iff l x h]
      exact h2
  unfold sayP sayL namedP kindP' wakesC socksC dfltC dfltP sysC sysP
  have h4 := hK x.n
  generalize K x.n = k at *
  simp only [List.mem_append]
  cases x.dflt
  · rcases h4 with rfl | rfl | rfl | rfl | rfl
    · exact absurd rfl hx
    all_goals simp [wakesK]
  · rcases h4 with rfl | rfl | rfl | rfl | rfl
    · exact absurd rfl hx
    all_goals simp [wakesK, hT]
theorem choose_nodes (l : List Ld) : (chooseK (fun x : Ld => x.n) K l).map (fun x => (⟨x.n, K x.n, stateL x.s⟩ : Nd)) = nodesL K l := by
  unfold nodesL
  rw [← choose_names, List.map_map]
  refine List.map_congr_left fun u hu => ?_
  show _ = nodeL K l u.n
  unfold nodeL
  rw [choose_first l hu]
  rfl
theorem raw_mem (hK : ∀ t, K t = 0 ∨ K t = 1 ∨ K t = 2 ∨ K t = 3 ∨ K t = 4) (l : List Ld) (e : Ed) : e ∈ rawP (chooseK (fun x : Ld => x.n) K l) K ↔ EdgeOf K l e := by
  unfold rawP EdgeOf
  rw [List.mem_flatMap]
  constructor
  · rintro ⟨x, hx, h⟩
    split at h
    · rename_i hs
      unfold weaveP at h
      obtain ⟨h1, h2, h3, h4⟩ := addC_mem.1 h
      have hn : isNode K l e.t := (hasU_iff l _).1 h2
      have hf : isNode K l e.f := by rw [h1]; exact (hasU_iff l _).1 (by unfold hasU hasK; rw [decide_eq_true_eq]; exact List.mem_map.2 ⟨x, hx, rfl⟩)
      refine ⟨hf, hn, h3, x, by rw [h1]; exact choose_first l hx, hs, say_iff.1 ((sayP_iff hK l (by rw [← h1]; exact node_kind hf) hn).1 h4)⟩
    · cases h
  · rintro ⟨h1, h2, h3, x, hx, hs, hsay⟩
    obtain ⟨hm, hn⟩ := first_some hx
    have hc := choose_find l h1
    rw [hx] at hc
    have hxm := (first_some hc).1
    refine ⟨x, hxm, ?_⟩
    rw [if_pos hs]
    unfold weaveP
    exact addC_mem.2 ⟨hn.symm, (hasU_iff l _).2 h2, h3, (sayP_iff hK l (by rw [hn]; exact node_kind h1) h2).2 (say_iff.2 hsay)⟩
theorem graph_ok (hK : ∀ t, K t = 0 ∨ K t = 1 ∨ K t = 2 ∨ K t = 3 ∨ K t = 4) (l : List Ld) (es : List Ed) (hr : es.Pairwise ltE) (hm : ∀ e, e ∈ es ↔ e ∈ rawP (chooseK (fun x : Ld => x.n) K l) K) : GraphOk K l ((chooseK (fun x : Ld => x.n) K l).map (fun x => (⟨x.n, K x.n, stateL x.s⟩ : Nd))) es :=
  ⟨choose_nodes l, hr, fun e => (hm e).trans (raw_mem hK l e)⟩
theorem graph_eq (hK : ∀ t, K t = 0 ∨ K t = 1 ∨ K t = 2 ∨ K t = 3 ∨ K t = 4) (l : List Ld) (es : List Ed) (hr : es.Pairwise ltE) (hm : ∀ e, e ∈ es ↔ e ∈ rawP (chooseK (fun x : Ld => x.n) K l) K) : es = ofE K l :=
  ((graph_ok hK l es hr hm).same (ofE_ok l)).2
end
end Go.Proofs.YtcoepioahabbdaaGreat
