/- The document's graph of loaded units, edge after edge, on plain lists. It speaks of no code. How many edges leave and re -/
import Derived.Test.YtcoepioahabbdaaGreatGyaa
namespace Go.Proofs.YtcoepioahabbdaaGreat
def edgeL (N : Tx → Bool) (f : Tx) (es : List Ed) (c : Tx × Int) : List Ed := if N c.1 = true ∧ f ≠ c.1 then putG ltE es ⟨f, c.1, c.2⟩ else es
def edgesL (N : Tx → Bool) (f : Tx) (es : List Ed) (cs : List (Tx × Int)) : List Ed := cs.foldl (edgeL N f) es
theorem edgesL_nil (N : Tx → Bool) (f : Tx) (es : List Ed) : edgesL N f es [] = es := rfl
theorem edgesL_cons (N : Tx → Bool) (f : Tx) (es : List Ed) (c : Tx × Int) (cs : List (Tx × Int)) : edgesL N f es (c :: cs) = edgesL N f (edgeL N f es c) cs := rfl
theorem edgesL_app (N : Tx → Bool) (f : Tx) (es : List Ed) (a b : List (Tx × Int)) : edgesL N f es (a ++ b) = edgesL N f (edgesL N f es a) b := List.foldl_append
theorem edgesL_snoc (N : Tx → Bool) (f : Tx) (es : List Ed) (a : List (Tx × Int)) (c : Tx × Int) : edgesL N f es (a ++ [c]) = edgeL N f (edgesL N f es a) c := by rw [edgesL_app]; rfl
theorem edgeL_mem {N : Tx → Bool} {f : Tx} {es : List Ed} {c : Tx × Int} {e : Ed} : e ∈ edgeL N f es c ↔ e ∈ es ∨ (N c.1 = true ∧ f ≠ c.1 ∧ e = ⟨f, c.1, c.2⟩) := by
  unfold edgeL
  split
  · rename_i h
    rw [putG_mem]
    constructor
    · rintro (h1 | h1)
      · exact .inr ⟨h.1, h.2, h1⟩
      · exact .inl h1
    · rintro (h1 | h1)
      · exact .inr h1
      · exact .inl h1.2.2
  · rename_i h
    constructor
    · exact .inl
    · rintro (h1 | h1)
      · exact h1
      · exact absurd ⟨h1.1, h1.2.1⟩ h
theorem edgesL_mem {N : Tx → Bool} {f : Tx} {cs : List (Tx × Int)} {es : List Ed} {e : Ed} : e ∈ edgesL N f es cs ↔ e ∈ es ∨ ∃ c ∈ cs, N c.1 = true ∧ f ≠ c.1 ∧ e = ⟨f, c.1, c.2⟩ := by
  induction cs generalizing es with
  | nil => simp [edgesL_nil]
  | cons c cs ih =>
    rw [edgesL_cons, ih, edgeL_mem]
    constructor
    · rintro ((h | h) | ⟨d, hd, h⟩)
      · exact .inl h
      · exact .inr ⟨c, by simp, h⟩
      · exact .inr ⟨d, by simp [hd], h⟩
    · rintro (h | ⟨d, hd, h⟩)
      · exact .inl (.inl h)
      · rcases List.mem_cons.1 hd with rfl | hd
        · exact .inl (.inr h)
        · exact .inr ⟨d, hd, h⟩
theorem edgeL_rises {N : Tx → Bool} {f : Tx} {es : List Ed} (h : risesG ltE es) (c : Tx × Int) : risesG ltE (edgeL N f es c) := by
  unfold edgeL
  split
  · exact putG_rises linE h
  · exact h
theorem edgesL_rises {N : Tx → Bool} {f : Tx} (cs : List (Tx × Int)) {es : List Ed} (h : risesG ltE es) : risesG ltE (edgesL N f es cs) := by
  induction cs generalizing es with
  | nil => exact h
  | cons c cs ih => exact ih (edgeL_rises h c)
theorem edgeL_same {N : Tx → Bool} {f : Tx} {es : List Ed} {c : Tx × Int} (h : risesG ltE es) (k : N c.1 = false ∨ f = c.1 ∨ (⟨f, c.1, c.2⟩ : Ed) ∈ es) : edgeL N f es c = es := by
  unfold edgeL
  split
  · rename_i h1
    rcases k with k | k | k
    · rw [h1.1] at k; cases k
    · exact absurd k h1.2
    · exact putG_same linE h k
  · rfl
def prodE (ns : List Tx) : List Ed := ns.flatMap (fun a => ns.flatMap (fun b => (List.range 10).map (fun r : Nat => (⟨a, b, (r : Int) + 1⟩ : Ed))))
theorem flat_len {α β : Type} (l : List α) (f : α → List β) (n : Nat) (h : ∀ a ∈ l, (f a).length = n) : (l.flatMap f).length = l.length * n := by
  induction l with
  | nil => simp
  | cons x l ih =>
    rw [List.flatMap_cons, List.length_append, h x (by simp), ih (fun a ha => h a (by simp [ha])), List.length_cons]
    rw [Nat.add_mul]
    omega
theorem prod_len (ns : List Tx) : (prodE ns).length = ns.length * (ns.length * 10) := by
  unfold prodE
  refine flat_len _ _ _ fun a _ => flat_len _ _ _ fun b _ => by simp
theorem few_edges {ns : List Tx} {es : List Ed} (hr : risesG ltE es) (hn : ns.length ≤ 64) (h : ∀ e ∈ es, e.f ∈ ns ∧ e.t ∈ ns ∧ 1 ≤ e.r ∧ e.r ≤ 10) : es.length ≤ 40960 := by
  have h1 : es.length ≤ (prodE ns).length := sub_len (rises_nodup linE hr) fun e he => by
    obtain ⟨a, b, c, d⟩ := h e he
    unfold prodE
    refine List.mem_flatMap.2 ⟨e.f, a, List.mem_flatMap.2 ⟨e.t, b, List.mem_map.2 ⟨(e.r - 1).toNat, List.mem_range.2 (by omega), ?_⟩⟩⟩
    have : (((e.r - 1).toNat : Nat) : Int) + 1 = e.r := by omega
    rw [this]
  rw [prod_len] at h1
  have h2 : ns.length * (ns.length * 10) ≤ 64 * (64 * 10) := Nat.mul_le_mul hn (Nat.mul_le_mul_right _ hn)
  omega
section
variable (K : Tx → Int)
def mapL (l : List Ld) (t : Tx) : Option Ld := if K t ≠ 0 then firstL' l t else none
def relsC (x : Ld) : List (Tx × Int) := (x.rels.filter (fun r => decide (1 ≤ r.1 ∧ r.1 ≤ 9))).map (fun r => (r.2, r.1))
def wantsC (x : Ld) : List (Tx × Int) := x.wants.map (·, 2)
def reqsC (x : Ld) : List (Tx × Int) := x.reqs.map (·, 1)
def wakesK (k : Int) : Bool := decide (k = 2 ∨ k = 3)
def wakesC (k : Int) (x : Ld) : List (Tx × Int) := if wakesK k then [(x.wk, 10), (x.wk, 7)] else []
def socksC (k : Int) (x : Ld) : List (Tx × Int) := if k = 1 then x.socks.flatMap (fun s => [(s, 2), (s, 8)]) else []
def namesC (x : Ld) : List Tx := x.wants ++ x.reqs ++ (x.rels.filter (fun r => decide (r.1 = 1 ∨ r.1 = 2))).map (·.2)
def behindB (l : List Ld) (x : Ld) (t : Tx) : Bool := match mapL K l t with
  | some y => decide (y.s = 1) && decide ((8, x.n) ∈ y.rels)
  | none => false
def targC (l : List Ld) (x : Ld) : List (Tx × Int) := ((namesC x).filter (fun t => !behindB K l x t)).map (·, 8)
def sysC (k : Int) : List (Tx × Int) := (if k = 1 then [(sysT, 1)] else []) ++ if k = 1 ∨ wakesK k = true then [(sysT, 8), (shutT, 6), (shutT, 7)] else []
def dfltC (l : List Ld) (k : Int) (x : Ld) : List (Tx × Int) := if x.dflt then sysC k ++ (if k = 4 then targC K l x else []) else []
def sayL (l : List Ld) (x : Ld) : List (Tx × Int) := relsC x ++ wantsC x ++ reqsC x ++ wakesC (K x.n) x ++ socksC (K x.n) x ++ dfltC K l (K x.n) x
def isN (l : List Ld) (t : Tx) : Bool := (nodeG (nodesL K l) t).isSome
def ownL (l : List Ld) (es : List Ed) (n : Nd) : List Ed := if n.s = 1 then (match firstL' l n.n with
  | some x => edgesL (isN K l) n.n es (sayL K l x)
  | none => es) else es
def ofE (l : List Ld) : List Ed := (nodesL K l).foldl (ownL K l) []
end
section
variable {K : Tx → Int}
theorem isN_iff {l : List Ld} {t : Tx} : isN K l t = true ↔ isNode K l t := by
  unfold isN isNode
  rw [node_at]
  by_cases e : t ∈ (namesL K l).take 64
  · simp [e]
  · simp [e]
theorem behind_iff {l : List Ld} {x : Ld} {t : Tx} : behindB K l x t = true ↔ ∃ y, firstL' l t = some y ∧ K t ≠ 0 ∧ y.s = 1 ∧ (8, x.n) ∈ y.rels := by
  unfold behindB mapL
  by_cases hk : K t ≠ 0
  · rw [if_pos hk]
    cases hf : firstL' l t with
    | none => simp
    | some y => simp [hk]
  · rw [if_neg hk]
    simp only [Bool.false_eq_true, false_iff]
    rintro ⟨y, _, h, _⟩
    exact hk h
theorem say_iff {l : List Ld} {x : Ld} {t : Tx} {r : Int} : (t, r) ∈ sayL K l x ↔ Says K l x t r := by
  have e0 : wakesK (K x.n) = true ↔ K x.n = 2 ∨ K x.n = 3 := by simp [wakesK]
  have hT : (t, r) ∈ targC K l x ↔ r = 8 ∧ (t ∈ x.wants ∨ t ∈ x.reqs ∨ (1, t) ∈ x.rels ∨ (2, t) ∈ x.rels) ∧ ¬ (∃ y, firstL' l t = some y ∧ K t ≠ 0 ∧ y.s = 1 ∧ (8, x.n) ∈ y.rels) := by
    unfold targC namesC
    rw [List.mem_map]
    constructor
    · rintro ⟨u, hu, e⟩
      cases e
      rw [List.mem_filter] at hu
      refine ⟨rfl, ?_, fun h => ?_⟩
      · have := hu.1
        rw [List.mem_append, List.mem_append, List.mem_map] at this
        rcases this with (h | h) | ⟨⟨k, u⟩, h, e⟩
        · exact .inl h
        · exact .inr (.inl h)
        · simp at e
          subst e
          rw [List.mem_filter] at h
          have h2 := h.2
          simp at h2
          rcases h2 with rfl | rfl
          · exact .inr (.inr (.inl h.1))
          · exact .inr (.inr (.inr h.1))
      · have h2 := hu.2
        rw [behind_iff.2 h] at h2
        cases h2
    · rintro ⟨rfl, h, hn⟩
      refine ⟨t, List.mem_filter.2 ⟨?_, ?_⟩, rfl⟩
      · rw [List.mem_append, List.mem_append, List.mem_map]
        rcases h with h | h | h | h
        · exact .inl (.inl h)
        · exact .inl (.inr h)
        · exact .inr ⟨(1, t), List.mem_filter.2 ⟨h, by simp⟩, rfl⟩
        · exact .inr ⟨(2, t), List.mem_filter.2 ⟨h, by simp⟩, rfl⟩
      · cases hb : behindB K l x t
        · rfl
        · exact absurd (behind_iff.1 hb) hn
  unfold sayL
  simp only [List.mem_append]
  constructor
  · rintro (((((h | h) | h) | h) | h) | h)
    · unfold relsC at h
      obtain ⟨⟨k, u⟩, hu, e⟩ := List.mem_map.1 h
      cases e
      rw [List.mem_filter] at hu
      have := hu.2
      simp at this
      exact .rel hu.1 this.1 this.2
    · obtain ⟨u, hu, e⟩ := List.mem_map.1 h
      cases e
      exact .wants hu
    · obtain ⟨u, hu, e⟩ := List.mem_map.1 h
      cases e
      exact .reqs hu
    · unfold wakesC at h
      split at h
      · rename_i hw
        simp at h
        rcases h with ⟨rfl, rfl⟩ | ⟨rfl, rfl⟩
        · exact .triggers (e0.1 hw)
        · exact .wakes (e0.1 hw)
      · cases h
    · unfold socksC at h
      split at h
      · rename_i hw
        obtain ⟨u, hu, e⟩ := List.mem_flatMap.1 h
        simp at e
        rcases e with ⟨rfl, rfl⟩ | ⟨rfl, rfl⟩
        · exact .sock hw hu
        · exact .sockA hw hu
      · cases h
    · unfold dfltC at h
      split at h
      · rename_i hd
        rcases List.mem_append.1 h with h | h
        · unfold sysC at h
          rcases List.mem_append.1 h with h | h
          · split at h
            · rename_i hk
              simp at h
              obtain ⟨rfl, rfl⟩ := h
              exact .sysN hd hk
            · cases h
          · split at h
            · rename_i hk
              have hk2 : K x.n = 1 ∨ K x.n = 2 ∨ K x.n = 3 := hk.imp id e0.1
              simp at h
              rcases h with ⟨rfl, rfl⟩ | ⟨rfl, rfl⟩ | ⟨rfl, rfl⟩
              · exact .sysA hd hk2
              · exact .shutC hd hk2
              · exact .shutB hd hk2
            · cases h
        · split at h
          · rename_i hk
            obtain ⟨rfl, h1, h2⟩ := hT.1 h
            exact .target hd hk h1 h2
          · cases h
      · cases h
  · intro h
    cases h with
    | rel h h1 h9 => exact .inl (.inl (.inl (.inl (.inl (List.mem_map.2 ⟨(r, t), List.mem_filter.2 ⟨h, by simp; omega⟩, rfl⟩)))))
    | wants h => exact .inl (.inl (.inl (.inl (.inr (List.mem_map.2 ⟨t, h, rfl⟩)))))
    | reqs h => exact .inl (.inl (.inl (.inr (List.mem_map.2 ⟨t, h, rfl⟩))))
    | triggers h => exact .inl (.inl (.inr (by unfold wakesC; rw [if_pos (e0.2 h)]; simp)))
    | wakes h => exact .inl (.inl (.inr (by unfold wakesC; rw [if_pos (e0.2 h)]; simp)))
    | sock hk h => exact .inl (.inr (by unfold socksC; rw [if_pos hk]; exact List.mem_flatMap.2 ⟨t, h, by simp⟩))
    | sockA hk h => exact .inl (.inr (by unfold socksC; rw [if_pos hk]; exact List.mem_flatMap.2 ⟨t, h, by simp⟩))
    | sysN hd hk => exact .inr (by unfold dfltC sysC; rw [if_pos hd, if_pos hk]; simp)
    | sysA hd hk => exact .inr (by unfold dfltC sysC; rw [if_pos hd, if_pos (hk.imp id e0.2 : K x.n = 1 ∨ wakesK (K x.n) = true)]; simp)
    | shutC hd hk => exact .inr (by unfold dfltC sysC; rw [if_pos hd, if_pos (hk.imp id e0.2 : K x.n = 1 ∨ wakesK (K x.n) = true)]; simp)
    | shutB hd hk => exact .inr (by unfold dfltC sysC; rw [if_pos hd, if_pos (hk.imp id e0.2 : K x.n = 1 ∨ wakesK (K x.n) = true)]; simp)
    | target hd hk h hn => exact .inr (by unfold dfltC; rw [if_pos hd, if_pos hk]; exact List.mem_append.2 (.inr (hT.2 ⟨rfl, h, hn⟩)))
theorem own_rises {l : List Ld} {es : List Ed} (h : risesG ltE es) (n : Nd) : risesG ltE (ownL K l es n) := by
  unfold ownL
  split
  · split
    · exact edgesL_rises _ h
    · exact h
  · exact h
theorem ofE_go_rises {l : List Ld} (ns : List Nd) {es : List Ed} (h : risesG ltE es) : risesG ltE (ns.foldl (ownL K l) es) := by
  induction ns generalizing es with
  | nil => exact h
  | cons n ns ih => exact ih (own_rises h n)
theorem own_mem {l : List Ld} {es : List Ed} {n : Nd} {e : Ed} : e ∈ ownL K l es n ↔ e ∈ es ∨ (n.s = 1 ∧ e.f = n.n ∧ isN K l e.t = true ∧ e.f ≠ e.t ∧ ∃ x, firstL' l n.n = some x ∧ Says K l x e.t e.r) := by
  unfold ownL
  by_cases hs : n.s = 1
  · rw [if_pos hs]
    cases hf : firstL' l n.n with
    | none => simp
    | some x =>
      simp only
      rw [edgesL_mem]
      constructor
      · rintro (h | ⟨⟨t, r⟩, hc, h1, h2, rfl⟩)
        · exact .inl h
        · exact .inr ⟨hs, rfl, h1, h2, x, rfl, say_iff.1 hc⟩
      · rintro (h | ⟨_, h1, h2, h3, y, hy, hsay⟩)
        · exact .inl h
        · cases hy
          exact .inr ⟨(e.t, e.r), say_iff.2 hsay, h2, by rw [← h1]; exact h3, by rw [← h1]⟩
  · rw [if_neg hs]
    constructor
    · exact .inl
    · rintro (h | h)
      · exact h
      · exact absurd h.1 hs
theorem ofE_go_mem {l : List Ld} {e : Ed} (ns : List Nd) {es : List Ed} : e ∈ ns.foldl (ownL K l) es ↔ e ∈ es ∨ ∃ n ∈ ns, n.s = 1 ∧ e.f = n.n ∧ isN K l e.t = true ∧ e.f ≠ e.t ∧ ∃ x, firstL' l n.n = some x ∧ Says K l x e.t e.r := by
  induction ns generalizing es with
  | nil => simp
  | cons n ns ih =>
    rw [List.foldl_cons, ih, own_mem]
    constructor
    · rintro ((h | h) | ⟨m, hm, h⟩)
      · exact .inl h
      · exact .inr ⟨n, by simp, h⟩
      · exact .inr ⟨m, by simp [hm], h⟩
    · rintro (h | ⟨m, hm, h⟩)
      · exact .inl (.inl h)
      · rcases List.mem_cons.1 hm with rfl | hm
        · exact .inl (.inr h)
        · exact .inr ⟨m, hm, h⟩
theorem ofE_ok (l : List Ld) : GraphOk K l (nodesL K l) (ofE K l) := by
  refine ⟨rfl, ofE_go_rises _ List.Pairwise.nil, fun e => ?_⟩
  unfold ofE
  rw [ofE_go_mem]
  constructor
  · rintro (h | ⟨n, hn, hs, h1, h2, h3, x, hx, hsay⟩)
    · cases h
    · unfold nodesL at hn
      obtain ⟨m, hm, rfl⟩ := List.mem_map.1 hn
      have hs2 : stateL ((firstL' l m).elim 0 (·.s)) = 1 := hs
      have hx2 : firstL' l m = some x := hx
      rw [hx2] at hs2
      have h1' : e.f = m := h1
      exact ⟨by unfold isNode; rw [h1']; exact hm, isN_iff.1 h2, h3, x, by rw [h1']; exact hx2, state_one.1 hs2, hsay⟩
  · rintro ⟨h1, h2, h3, x, hx, hs, hsay⟩
    refine .inr ⟨nodeL K l e.f, List.mem_map.2 ⟨e.f, h1, rfl⟩, ?_, rfl, isN_iff.2 h2, h3, x, hx, hsay⟩
    show stateL ((firstL' l e.f).elim 0 (·.s)) = 1
    rw [hx]
    exact state_one.2 hs
theorem ofE_few (l : List Ld) : (ofE K l).length ≤ 40960 := by
  have h := ofE_ok (K := K) l
  refine few_edges (ns := (namesL K l).take 64) h.rise (by rw [List.length_take]; omega) fun e he => ?_
  obtain ⟨a, b, _⟩ := (h.edge e).1 he
  obtain ⟨_, _, _, d⟩ := h.may.edge e he
  exact ⟨a, b, d⟩
end
end Go.Proofs.YtcoepioahabbdaaGreat
namespace Go.Proofs.YtcoepioahabbdaaGreat
theorem putAll_go_len {l a : List Tx} (ha : risesG (fun a b : Tx => a < b) a) (hn : l.Nodup) (hd : ∀ x ∈ l, x ∉ a) : (l.foldl (putG (fun a b : Tx => a < b)) a).length = l.length + a.length := by
  induction l generalizing a with
  | nil => simp
  | cons y l ih =>
    obtain ⟨h1, h2⟩ := List.nodup_cons.1 hn
    rw [List.foldl_cons, ih (putG_rises linT ha) h2 (fun x hx hm => by
      rcases putG_mem.1 hm with rfl | hm
      · exact h1 hx
      · exact hd x (by simp [hx]) hm), putG_len ha (hd y (by simp)), List.length_cons]
    omega
theorem putAll_len {l : List Tx} (hn : l.Nodup) : (putAll (lt := fun a b : Tx => a < b) l).length = l.length := by
  have := putAll_go_len (a := []) List.Pairwise.nil hn (by simp)
  simpa [putAll] using this
theorem map_nodup {l : List Ed} (h : l.Nodup) (f : Ed → Tx) (hf : ∀ a ∈ l, ∀ b ∈ l, f a = f b → a = b) : (l.map f).Nodup := by
  induction l with
  | nil => simp
  | cons x l ih =>
    obtain ⟨h1, h2⟩ := List.nodup_cons.1 h
    rw [List.map_cons, List.nodup_cons]
    refine ⟨fun hm => ?_, ih h2 (fun a ha b hb => hf a (by simp [ha]) b (by simp [hb]))⟩
    obtain ⟨y, hy, e⟩ := List.mem_map.1 hm
    have := hf y (by simp [hy]) x (by simp) e
    subst this
    exact h1 hy
theorem out_len {es : List Ed} (h : es.Nodup) (u : Tx) (r : Int) : (outG es u r).length = (es.filter (fun e => decide (e.f = u ∧ e.r = r))).length := by
  unfold outG
  rw [putAll_len, List.length_map]
  refine map_nodup (h.sublist List.filter_sublist) _ fun a ha b hb e => ?_
  have h1 := (List.mem_filter.1 ha).2
  have h2 := (List.mem_filter.1 hb).2
  rw [decide_eq_true_eq] at h1 h2
  obtain ⟨a1, a2, a3⟩ := a
  obtain ⟨b1, b2, b3⟩ := b
  simp at h1 h2 e ⊢
  exact ⟨h1.1.trans h2.1.symm, e, h1.2.trans h2.2.symm⟩
theorem in_len {es : List Ed} (h : es.Nodup) (u : Tx) (r : Int) : (inG es u r).length = (es.filter (fun e => decide (e.t = u ∧ e.r = r))).length := by
  unfold inG
  rw [putAll_len, List.length_map]
  refine map_nodup (h.sublist List.filter_sublist) _ fun a ha b hb e => ?_
  have h1 := (List.mem_filter.1 ha).2
  have h2 := (List.mem_filter.1 hb).2
  rw [decide_eq_true_eq] at h1 h2
  obtain ⟨a1, a2, a3⟩ := a
  obtain ⟨b1, b2, b3⟩ := b
  simp at h1 h2 e ⊢
  exact ⟨e, h1.1.trans h2.1.symm, h1.2.trans h2.2.symm⟩
def sumN (l : List Nd) (f : Nd → Nat) : Nat := (l.map f).sum
theorem sumN_succ {l : List Nd} {k : Nat} {x : Nd} (h : l[k]? = some x) (f : Nd → Nat) : sumN (l.take (k + 1)) f = sumN (l.take k) f + f x := by
  unfold sumN
  rw [List.take_add_one, h]
  simp
theorem sum_one {ns : List Nd} (hn : (ns.map (·.n)).Nodup) {t : Tx} (ht : t ∈ ns.map (·.n)) : sumN ns (fun x => if t = x.n then 1 else 0) = 1 := by
  induction ns with
  | nil => cases ht
  | cons y ns ih =>
    rw [List.map_cons, List.nodup_cons] at hn
    unfold sumN at ih ⊢
    rw [List.map_cons, List.sum_cons]
    by_cases e : t = y.n
    · have : (ns.map (fun x => if t = x.n then 1 else 0)).sum = 0 := by
        have h0 : ∀ x ∈ ns, (if t = x.n then 1 else 0) = 0 := fun x hx => by
          rw [if_neg]
          intro e2
          exact hn.1 (List.mem_map.2 ⟨x, hx, by rw [← e2, e]⟩)
        clear ih hn ht e
        induction ns with
        | nil => rfl
        | cons z ns ih2 => rw [List.map_cons, List.sum_cons, h0 z (by simp), ih2 (fun x hx => h0 x (by simp [hx]))]
      rw [this, if_pos e]
    · rw [if_neg e]
      rw [List.map_cons] at ht
      rcases List.mem_cons.1 ht with h | h
      · exact absurd h e
      · rw [ih hn.2 h]
theorem sum_add (ns : List Nd) (f g : Nd → Nat) : sumN ns (fun x => f x + g x) = sumN ns f + sumN ns g := by
  induction ns with
  | nil => rfl
  | cons y ns ih =>
    unfold sumN at ih ⊢
    rw [List.map_cons, List.sum_cons, List.map_cons, List.sum_cons, List.map_cons, List.sum_cons, ih]
    omega
theorem sum_zero (ns : List Nd) : sumN ns (fun _ => 0) = 0 := by
  induction ns with
  | nil => rfl
  | cons y ns ih => unfold sumN at ih ⊢; rw [List.map_cons, List.sum_cons, ih]
theorem sum_edges {ns : List Nd} (hn : (ns.map (·.n)).Nodup) (r : Int) (F : Ed → Tx) (es : List Ed) (h : ∀ e ∈ es, F e ∈ ns.map (·.n)) : sumN ns (fun x => (es.filter (fun e => decide (F e = x.n ∧ e.r = r))).length) = (es.filter (fun e => decide (e.r = r))).length := by
  induction es with
  | nil => simp [sum_zero]
  | cons e es ih =>
    have h1 := ih (fun e he => h e (by simp [he]))
    by_cases hr : e.r = r
    · have h2 : ∀ x : Nd, ((e :: es).filter (fun e => decide (F e = x.n ∧ e.r = r))).length = (if F e = x.n then 1 else 0) + (es.filter (fun e => decide (F e = x.n ∧ e.r = r))).length := fun x => by
        rw [List.filter_cons]
        by_cases hx : F e = x.n
        · simp [hx, hr]; omega
        · simp [hx]
      have h3 : sumN ns (fun x => ((e :: es).filter (fun e => decide (F e = x.n ∧ e.r = r))).length) = sumN ns (fun x => (if F e = x.n then 1 else 0) + (es.filter (fun e => decide (F e = x.n ∧ e.r = r))).length) := by
        unfold sumN; congr 1; exact List.map_congr_left fun x _ => h2 x
      rw [h3, sum_add, sum_one hn (h e (by simp)), h1, List.filter_cons]
      simp [hr]
      omega
    · have h3 : sumN ns (fun x => ((e :: es).filter (fun e => decide (F e = x.n ∧ e.r = r))).length) = sumN ns (fun x => (es.filter (fun e => decide (F e = x.n ∧ e.r = r))).length) := by
        unfold sumN; congr 1; refine List.map_congr_left fun x _ => ?_
        rw [List.filter_cons]
        simp [hr]
      rw [h3, h1, List.filter_cons]
      simp [hr]
theorem mirror {K : Tx → Int} {ns : List Nd} {es : List Ed} (m : MayG K ns es) (r : Int) : sumN ns (fun x => (outG es x.n r).length) = sumN ns (fun x => (inG es x.n r).length) := by
  have hd : es.Nodup := rises_nodup linE m.erise
  have hn : (ns.map (·.n)).Nodup := rises_nodup linT (List.pairwise_map.2 m.nrise)
  have mem : ∀ {t : Tx} {a : Nd}, nodeG ns t = some a → t ∈ ns.map (·.n) := fun {t a} h => by
    unfold nodeG at h
    have h1 := List.find?_some h
    exact List.mem_map.2 ⟨a, List.mem_of_find?_eq_some h, by simpa using h1⟩
  have e1 : sumN ns (fun x => (outG es x.n r).length) = sumN ns (fun x => (es.filter (fun e => decide (e.f = x.n ∧ e.r = r))).length) := by unfold sumN; congr 1; exact List.map_congr_left fun x _ => out_len hd x.n r
  have e2 : sumN ns (fun x => (inG es x.n r).length) = sumN ns (fun x => (es.filter (fun e => decide (e.t = x.n ∧ e.r = r))).length) := by unfold sumN; congr 1; exact List.map_congr_left fun x _ => in_len hd x.n r
  rw [e1, e2, sum_edges hn r (·.f) es (fun e he => by obtain ⟨a, ha, _⟩ := (m.edge e he).1; exact mem ha), sum_edges hn r (·.t) es (fun e he => by obtain ⟨a, ha⟩ := Option.isSome_iff_exists.1 (m.edge e he).2.1; exact mem ha)]
theorem sum_le (ns : List Nd) (f : Nd → Nat) (M : Nat) (h : ∀ x ∈ ns, f x ≤ M) : sumN ns f ≤ ns.length * M := by
  induction ns with
  | nil => simp [sumN]
  | cons y ns ih =>
    have h1 := ih (fun x hx => h x (by simp [hx]))
    have h2 := h y (by simp)
    unfold sumN at h1 ⊢
    rw [List.map_cons, List.sum_cons, List.length_cons, Nat.add_mul]
    omega
end Go.Proofs.YtcoepioahabbdaaGreat
