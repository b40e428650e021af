/- Graphs on plain lists: rising rows, edges, who is ahead of whom, what goes round, what is left when it does not. It spea -/
namespace Go.Proofs.YtcoepioahabbdaaGreat
structure Lin {α : Type} (lt : α → α → Prop) : Prop where
  irrefl : ∀ a, ¬ lt a a
  trans : ∀ a b c, lt a b → lt b c → lt a c
  tri : ∀ a b, lt a b ∨ a = b ∨ lt b a
section
variable {α : Type} [DecidableEq α] (lt : α → α → Prop) [DecidableRel lt]
def putG : List α → α → List α
  | [], s => [s]
  | x :: l, s => if lt x s then x :: putG l s else if x = s then x :: l else s :: x :: l
abbrev risesG (l : List α) : Prop := l.Pairwise lt
variable {lt}
theorem putG_mem {l : List α} {s x : α} : x ∈ putG lt l s ↔ x = s ∨ x ∈ l := by
  induction l with
  | nil => simp [putG]
  | cons y l ih =>
    rw [putG]
    split
    · rw [List.mem_cons, ih, List.mem_cons]
      constructor
      · rintro (h | h | h) <;> simp [h]
      · rintro (h | h | h) <;> simp [h]
    · split
      · rename_i h
        subst h
        simp
      · simp
theorem putG_rises (L : Lin lt) {l : List α} {s : α} (h : risesG lt l) : risesG lt (putG lt l s) := by
  induction l with
  | nil => simp [putG, risesG]
  | cons y l ih =>
    obtain ⟨h1, h2⟩ := List.pairwise_cons.1 h
    rw [putG]
    split
    · rename_i hy
      refine List.pairwise_cons.2 ⟨fun x hx => ?_, ih h2⟩
      rcases putG_mem.1 hx with rfl | hx
      · exact hy
      · exact h1 x hx
    · rename_i hy
      split
      · exact h
      · rename_i hn
        have hs : lt s y := by
          rcases L.tri y s with e | e | e
          · exact absurd e hy
          · exact absurd e hn
          · exact e
        refine List.pairwise_cons.2 ⟨fun x hx => ?_, h⟩
        rcases List.mem_cons.1 hx with rfl | hx
        · exact hs
        · exact L.trans _ _ _ hs (h1 x hx)
theorem putG_same (L : Lin lt) {l : List α} {s : α} (h : risesG lt l) (hs : s ∈ l) : putG lt l s = l := by
  induction l with
  | nil => cases hs
  | cons y l ih =>
    obtain ⟨h1, h2⟩ := List.pairwise_cons.1 h
    rw [putG]
    rcases List.mem_cons.1 hs with rfl | hs
    · rw [if_neg (L.irrefl _), if_pos rfl]
    · rw [if_pos (h1 s hs), ih h2 hs]
omit [DecidableEq α] [DecidableRel lt] in
theorem riseG_ext (L : Lin lt) {a b : List α} (ha : risesG lt a) (hb : risesG lt b) (h : ∀ x, x ∈ a ↔ x ∈ b) : a = b := by
  induction a generalizing b with
  | nil =>
    cases b with
    | nil => rfl
    | cons y b => exact absurd ((h y).2 (by simp)) (by simp)
  | cons x a ih =>
    cases b with
    | nil => exact absurd ((h x).1 (by simp)) (by simp)
    | cons y b =>
      obtain ⟨a1, a2⟩ := List.pairwise_cons.1 ha
      obtain ⟨b1, b2⟩ := List.pairwise_cons.1 hb
      have e : x = y := by
        rcases List.mem_cons.1 ((h x).1 (by simp)) with e | e
        · exact e
        · rcases List.mem_cons.1 ((h y).2 (by simp)) with f | f
          · exact f.symm
          · exact absurd (L.trans _ _ _ (b1 x e) (a1 y f)) (L.irrefl _)
      subst e
      rw [ih a2 b2 fun z => ?_]
      constructor
      · intro hz
        rcases List.mem_cons.1 ((h z).1 (by simp [hz])) with e | e
        · exact absurd (a1 z hz) (by rw [e]; exact L.irrefl _)
        · exact e
      · intro hz
        rcases List.mem_cons.1 ((h z).2 (by simp [hz])) with e | e
        · exact absurd (b1 z hz) (by rw [e]; exact L.irrefl _)
        · exact e
theorem putG_at {l : List α} {s : α} {k : Nat} (hk : k ≤ l.length) (h1 : ∀ i x, i < k → l[i]? = some x → lt x s) (h2 : ∀ x, l[k]? = some x → ¬ lt x s) :
    putG lt l s = if l[k]? = some s then l else l.take k ++ s :: l.drop k := by
  induction l generalizing k with
  | nil =>
    have : k = 0 := by simpa using hk
    subst this
    simp [putG]
  | cons y l ih =>
    cases k with
    | zero =>
      have := h2 y (by simp)
      rw [putG, if_neg this]
      simp
    | succ k =>
      have hy := h1 0 y (by omega) (by simp)
      rw [putG, if_pos hy, ih (by simpa using hk) (fun i x hi hx => h1 (i + 1) x (by omega) (by simpa using hx)) (fun x hx => h2 x (by simpa using hx))]
      simp
      split <;> rfl
theorem putG_len {l : List α} {s : α} (h : risesG lt l) (hs : s ∉ l) : (putG lt l s).length = l.length + 1 := by
  induction l with
  | nil => rfl
  | cons y l ih =>
    obtain ⟨h1, h2⟩ := List.pairwise_cons.1 h
    rw [putG]
    split
    · simp [ih h2 (fun e => hs (by simp [e]))]
    · rw [if_neg (fun e => hs (by simp [e]))]
      simp
theorem putG_few (l : List α) (s : α) : (putG lt l s).length ≤ l.length + 1 := by
  induction l with
  | nil => simp [putG]
  | cons y l ih =>
    rw [putG]
    split
    · simp; exact ih
    · split <;> simp
def putAll (l : List α) : List α := l.foldl (putG lt) []
theorem putAll_go_few (l a : List α) : (l.foldl (putG lt) a).length ≤ l.length + a.length := by
  induction l generalizing a with
  | nil => simp
  | cons y l ih =>
    have h1 := ih (putG lt a y)
    have h2 := putG_few (lt := lt) a y
    rw [List.foldl_cons, List.length_cons]
    omega
theorem putAll_few (l : List α) : (putAll (lt := lt) l).length ≤ l.length := by
  have := putAll_go_few (lt := lt) l []
  simpa [putAll] using this
theorem putAll_go_mem {l a : List α} {x : α} : x ∈ l.foldl (putG lt) a ↔ x ∈ l ∨ x ∈ a := by
  induction l generalizing a with
  | nil => simp
  | cons y l ih =>
    rw [List.foldl_cons, ih, putG_mem, List.mem_cons]
    constructor
    · rintro (h | h | h) <;> simp [h]
    · rintro ((h | h) | h) <;> simp [h]
theorem putAll_mem {l : List α} {x : α} : x ∈ putAll (lt := lt) l ↔ x ∈ l := by unfold putAll; rw [putAll_go_mem]; simp
theorem putAll_go_rises (L : Lin lt) {l a : List α} (h : risesG lt a) : risesG lt (l.foldl (putG lt) a) := by
  induction l generalizing a with
  | nil => exact h
  | cons y l ih => exact ih (putG_rises L h)
theorem putAll_rises (L : Lin lt) {l : List α} : risesG lt (putAll (lt := lt) l) := putAll_go_rises L List.Pairwise.nil
omit [DecidableEq α] [DecidableRel lt] in
theorem rises_nodup (L : Lin lt) {l : List α} (h : risesG lt l) : l.Nodup := List.Pairwise.imp (fun {a b} hab e => by subst e; exact L.irrefl _ hab) h
omit [DecidableEq α] [DecidableRel lt] in
theorem rises_at (L : Lin lt) {l : List α} (h : ∀ i x y, l[i]? = some x → l[i + 1]? = some y → lt x y) : risesG lt l := by
  induction l with
  | nil => exact List.Pairwise.nil
  | cons x l ih =>
    have hl := ih (fun i a b ha hb => h (i + 1) a b (by simpa using ha) (by simpa using hb))
    refine List.pairwise_cons.2 ⟨fun y hy => ?_, hl⟩
    cases l with
    | nil => cases hy
    | cons z l =>
      have hz := h 0 x z (by simp) (by simp)
      rcases List.mem_cons.1 hy with rfl | hy
      · exact hz
      · exact L.trans _ _ _ hz ((List.pairwise_cons.1 hl).1 y hy)
end
abbrev Tx := List UInt8
structure Ed where
  f : Tx
  t : Tx
  r : Int
deriving DecidableEq
structure Nd where
  n : Tx
  k : Int
  s : Int
deriving DecidableEq
theorem linT : Lin (fun a b : Tx => a < b) := by
  refine ⟨fun a => List.lt_irrefl a, fun a b c h k => List.lt_trans h k, fun a b => ?_⟩
  rcases List.le_total a b with h | h
  · by_cases e : b < a
    · exact .inr (.inr e)
    · by_cases h2 : a < b
      · exact .inl h2
      · exact .inr (.inl (List.le_antisymm e h2))
  · by_cases e : a < b
    · exact .inl e
    · by_cases h2 : b < a
      · exact .inr (.inr h2)
      · exact .inr (.inl (List.le_antisymm h2 e))
def ltP (p q : Tx × Tx) : Prop := p.1 < q.1 ∨ p.1 = q.1 ∧ p.2 < q.2
instance : DecidableRel ltP := fun p q => inferInstanceAs (Decidable (p.1 < q.1 ∨ p.1 = q.1 ∧ p.2 < q.2))
def ltE (p q : Ed) : Prop := p.f < q.f ∨ p.f = q.f ∧ (p.t < q.t ∨ p.t = q.t ∧ p.r < q.r)
instance : DecidableRel ltE := fun p q => inferInstanceAs (Decidable (p.f < q.f ∨ p.f = q.f ∧ (p.t < q.t ∨ p.t = q.t ∧ p.r < q.r)))
theorem linE : Lin ltE := by
  refine ⟨?_, ?_, ?_⟩
  · rintro ⟨a, b, c⟩ (h | ⟨_, h | ⟨_, h⟩⟩)
    · exact linT.irrefl _ h
    · exact linT.irrefl _ h
    · simp at h
  · rintro ⟨a, b, c⟩ ⟨d, e, f⟩ ⟨g, h, i⟩ (h1 | ⟨h1, h2⟩) (k1 | ⟨k1, k2⟩)
    · exact .inl (linT.trans _ _ _ h1 k1)
    · simp at k1; subst k1; exact .inl h1
    · simp at h1; subst h1; exact .inl k1
    · simp at h1 k1
      subst h1 k1
      refine .inr ⟨rfl, ?_⟩
      rcases h2 with h2 | ⟨h2, h3⟩ <;> rcases k2 with k2 | ⟨k2, k3⟩
      · exact .inl (linT.trans _ _ _ h2 k2)
      · simp at k2; subst k2; exact .inl h2
      · simp at h2; subst h2; exact .inl k2
      · simp at h2 k2 h3 k3 ⊢; subst h2 k2; exact .inr ⟨rfl, by omega⟩
  · rintro ⟨a, b, c⟩ ⟨d, e, f⟩
    rcases linT.tri a d with h | h | h
    · exact .inl (.inl h)
    · subst h
      rcases linT.tri b e with k | k | k
      · exact .inl (.inr ⟨rfl, .inl k⟩)
      · subst k
        rcases Int.lt_trichotomy c f with m | m | m
        · exact .inl (.inr ⟨rfl, .inr ⟨rfl, m⟩⟩)
        · subst m; exact .inr (.inl rfl)
        · exact .inr (.inr (.inr ⟨rfl, .inr ⟨rfl, m⟩⟩))
      · exact .inr (.inr (.inr ⟨rfl, .inl k⟩))
    · exact .inr (.inr (.inl h))
def nodeG (ns : List Nd) (u : Tx) : Option Nd := ns.find? (fun x => decide (x.n = u))
def hasG (es : List Ed) (f t : Tx) (r : Int) : Bool := decide ((⟨f, t, r⟩ : Ed) ∈ es)
def outG (es : List Ed) (u : Tx) (r : Int) : List Tx := putAll (lt := fun a b : Tx => a < b) ((es.filter (fun e => decide (e.f = u ∧ e.r = r))).map (·.t))
def inG (es : List Ed) (u : Tx) (r : Int) : List Tx := putAll (lt := fun a b : Tx => a < b) ((es.filter (fun e => decide (e.t = u ∧ e.r = r))).map (·.f))
theorem out_mem {es : List Ed} {u x : Tx} {r : Int} : x ∈ outG es u r ↔ (⟨u, x, r⟩ : Ed) ∈ es := by
  unfold outG
  rw [putAll_mem, List.mem_map]
  constructor
  · rintro ⟨⟨f, t, s⟩, h, rfl⟩
    rw [List.mem_filter] at h
    obtain ⟨h1, h2⟩ := h
    simp at h2
    obtain ⟨rfl, rfl⟩ := h2
    exact h1
  · intro h
    exact ⟨⟨u, x, r⟩, List.mem_filter.2 ⟨h, by simp⟩, rfl⟩
theorem in_mem {es : List Ed} {u x : Tx} {r : Int} : x ∈ inG es u r ↔ (⟨x, u, r⟩ : Ed) ∈ es := by
  unfold inG
  rw [putAll_mem, List.mem_map]
  constructor
  · rintro ⟨⟨f, t, s⟩, h, rfl⟩
    rw [List.mem_filter] at h
    obtain ⟨h1, h2⟩ := h
    simp at h2
    obtain ⟨rfl, rfl⟩ := h2
    exact h1
  · intro h
    exact ⟨⟨x, u, r⟩, List.mem_filter.2 ⟨h, by simp⟩, rfl⟩
def goodN (K : Tx → Int) (x : Nd) : Prop := K x.n = x.k ∧ x.k ≠ 0 ∧ 1 ≤ x.s ∧ x.s ≤ 4
def goodE (ns : List Nd) (e : Ed) : Prop := (∃ a, nodeG ns e.f = some a ∧ a.s = 1) ∧ (nodeG ns e.t).isSome = true ∧ e.f ≠ e.t ∧ 1 ≤ e.r ∧ e.r ≤ 10
def ltN (a b : Nd) : Prop := a.n < b.n
structure MayG (K : Tx → Int) (ns : List Nd) (es : List Ed) : Prop where
  few : ns.length ≤ 64
  good : ∀ x ∈ ns, goodN K x
  nrise : ns.Pairwise ltN
  edge : ∀ e ∈ es, goodE ns e
  erise : es.Pairwise ltE
def aheadP (es : List Ed) (a b : Tx) : Prop := (⟨b, a, 8⟩ : Ed) ∈ es ∨ (⟨a, b, 7⟩ : Ed) ∈ es
instance (es : List Ed) (a b : Tx) : Decidable (aheadP es a b) := inferInstanceAs (Decidable (_ ∨ _))
inductive Rch (ps : List (Tx × Tx)) : Tx → Tx → Prop
  | one {a b : Tx} : (a, b) ∈ ps → Rch ps a b
  | step {a b c : Tx} : Rch ps a b → (b, c) ∈ ps → Rch ps a c
theorem Rch.mono {ps qs : List (Tx × Tx)} (h : ∀ p ∈ ps, p ∈ qs) {a b : Tx} (r : Rch ps a b) : Rch qs a b := by
  induction r with
  | one h1 => exact .one (h _ h1)
  | step _ h1 ih => exact .step ih (h _ h1)
theorem Rch.trans {ps : List (Tx × Tx)} {a b c : Tx} (h : Rch ps a b) (k : Rch ps b c) : Rch ps a c := by
  induction k with
  | one h1 => exact .step h h1
  | step _ h1 ih => exact .step ih h1
theorem Rch.snoc {ps : List (Tx × Tx)} {x y a b : Tx} (r : Rch (ps ++ [(x, y)]) a b) : Rch ps a b ∨ ((a = x ∨ Rch ps a x) ∧ (y = b ∨ Rch ps y b)) := by
  induction r with
  | one h1 =>
    rcases List.mem_append.1 h1 with h1 | h1
    · exact .inl (.one h1)
    · simp at h1
      exact .inr ⟨.inl h1.1, .inl h1.2.symm⟩
  | step _ h1 ih =>
    rename_i b c _
    rcases List.mem_append.1 h1 with h1 | h1
    · rcases ih with ih | ⟨i1, i2⟩
      · exact .inl (.step ih h1)
      · refine .inr ⟨i1, .inr ?_⟩
        rcases i2 with rfl | i2
        · exact .one h1
        · exact .step i2 h1
    · simp at h1
      obtain ⟨rfl, rfl⟩ := h1
      rcases ih with ih | ⟨i1, _⟩
      · exact .inr ⟨.inr ih, .inl rfl⟩
      · exact .inr ⟨i1, .inl rfl⟩
end Go.Proofs.YtcoepioahabbdaaGreat
namespace Go.Proofs.YtcoepioahabbdaaGreat
theorem sub_len {α : Type} [DecidableEq α] {l : List α} (hd : l.Nodup) : ∀ {left : List α}, (∀ x ∈ l, x ∈ left) → l.length ≤ left.length := by
  induction l with
  | nil => intro left _; simp
  | cons x l ih =>
    intro left hm
    obtain ⟨h1, h2⟩ := List.nodup_cons.1 hd
    have hx := hm x (by simp)
    have := ih h2 (left := left.erase x) (fun y hy => (List.mem_erase_of_ne (fun e => h1 (by rw [← e]; exact hy))).2 (hm y (by simp [hy])))
    rw [List.length_erase_of_mem hx] at this
    have hpos := List.length_pos_of_mem hx
    simp
    omega
end Go.Proofs.YtcoepioahabbdaaGreat
namespace Go.Proofs.YtcoepioahabbdaaGreat
end Go.Proofs.YtcoepioahabbdaaGreat
namespace Go.Proofs.YtcoepioahabbdaaGreat
def isDig (c : UInt8) : Bool := decide (48 ≤ c.toNat) && decide (c.toNat ≤ 57)
def unitL (s : List UInt8) : Nat :=
  if s = [] ∨ s = [115] ∨ s = [115, 101, 99] then 1
  else if s = [109] ∨ s = [109, 105, 110] then 60
  else if s = [104] ∨ s = [104, 114] then 3600
  else if s = [100] ∨ s = [100, 97, 121] then 86400
  else if s = [119] ∨ s = [119, 101, 101, 107] then 604800
  else 0
def valL (l : List UInt8) : Nat := l.foldl (fun n c => 10 * n + (c.toNat - 48)) 0
def wordV (w : List UInt8) : Option Nat :=
  if w.takeWhile isDig = [] ∨ 10 < (w.takeWhile isDig).length ∨ unitL (w.dropWhile isDig) = 0 then none
  else some (valL (w.takeWhile isDig) * unitL (w.dropWhile isDig))
def good (ws : List (List UInt8)) : Prop := ∀ w ∈ ws, (wordV w).isSome = true
end Go.Proofs.YtcoepioahabbdaaGreat
namespace Go.Proofs.YtcoepioahabbdaaGreat
structure Ld where
  n : Tx
  s : Int
  un : Tx
  uk : Int
  rels : List (Int × Tx)
  socks : List Tx
  dflt : Bool
  wk : Tx
  wants : List Tx
  reqs : List Tx
def sysT : Tx := [115, 121, 115, 105, 110, 105, 116, 46, 116, 97, 114, 103, 101, 116]
def shutT : Tx := [115, 104, 117, 116, 100, 111, 119, 110, 46, 116, 97, 114, 103, 101, 116]
def firstL' (l : List Ld) (n : Tx) : Option Ld := l.find? (fun x => decide (x.n = n))
section
variable (K : Tx → Int)
def namesL (l : List Ld) : List Tx := putAll (lt := fun a b : Tx => a < b) ((l.map (·.n)).filter (fun n => decide (K n ≠ 0)))
def stateL (s : Int) : Int := if s < 1 ∨ 4 < s then 4 else s
def nodeL (l : List Ld) (n : Tx) : Nd := ⟨n, K n, stateL ((firstL' l n).elim 0 (·.s))⟩
def nodesL (l : List Ld) : List Nd := ((namesL K l).take 64).map (nodeL K l)
def isNode (l : List Ld) (n : Tx) : Prop := n ∈ (namesL K l).take 64
inductive Says (l : List Ld) (x : Ld) : Tx → Int → Prop
  | rel {k : Int} {t : Tx} : (k, t) ∈ x.rels → 1 ≤ k → k ≤ 9 → Says l x t k
  | wants {t : Tx} : t ∈ x.wants → Says l x t 2
  | reqs {t : Tx} : t ∈ x.reqs → Says l x t 1
  | triggers : (K x.n = 2 ∨ K x.n = 3) → Says l x x.wk 10
  | wakes : (K x.n = 2 ∨ K x.n = 3) → Says l x x.wk 7
  | sock {t : Tx} : K x.n = 1 → t ∈ x.socks → Says l x t 2
  | sockA {t : Tx} : K x.n = 1 → t ∈ x.socks → Says l x t 8
  | sysN : x.dflt = true → K x.n = 1 → Says l x sysT 1
  | sysA : x.dflt = true → (K x.n = 1 ∨ K x.n = 2 ∨ K x.n = 3) → Says l x sysT 8
  | shutC : x.dflt = true → (K x.n = 1 ∨ K x.n = 2 ∨ K x.n = 3) → Says l x shutT 6
  | shutB : x.dflt = true → (K x.n = 1 ∨ K x.n = 2 ∨ K x.n = 3) → Says l x shutT 7
  | target {t : Tx} : x.dflt = true → K x.n = 4 → (t ∈ x.wants ∨ t ∈ x.reqs ∨ (1, t) ∈ x.rels ∨ (2, t) ∈ x.rels) → ¬ (∃ y, firstL' l t = some y ∧ K t ≠ 0 ∧ y.s = 1 ∧ (8, x.n) ∈ y.rels) → Says l x t 8
def EdgeOf (l : List Ld) (e : Ed) : Prop := isNode K l e.f ∧ isNode K l e.t ∧ e.f ≠ e.t ∧ ∃ x, firstL' l e.f = some x ∧ x.s = 1 ∧ Says K l x e.t e.r
structure GraphOk (l : List Ld) (ns : List Nd) (es : List Ed) : Prop where
  nodes : ns = nodesL K l
  rise : es.Pairwise ltE
  edge : ∀ e, e ∈ es ↔ EdgeOf K l e
end
section
variable {K : Tx → Int}
theorem GraphOk.same {l : List Ld} {ns ns' : List Nd} {es es' : List Ed} (h : GraphOk K l ns es) (k : GraphOk K l ns' es') : ns = ns' ∧ es = es' :=
  ⟨h.nodes.trans k.nodes.symm, riseG_ext linE h.rise k.rise fun e => by rw [h.edge, k.edge]⟩
theorem first_some {l : List Ld} {n : Tx} {x : Ld} (h : firstL' l n = some x) : x ∈ l ∧ x.n = n := by
  unfold firstL' at h
  exact ⟨List.mem_of_find?_eq_some h, by have := List.find?_some h; simpa using this⟩
theorem first_is {l : List Ld} {x : Ld} (h : x ∈ l) : ∃ y, firstL' l x.n = some y := by
  cases hf : firstL' l x.n with
  | some y => exact ⟨y, rfl⟩
  | none =>
    unfold firstL' at hf
    have := List.find?_eq_none.1 hf x h
    simp at this
theorem names_mem {l : List Ld} {n : Tx} : n ∈ namesL K l ↔ K n ≠ 0 ∧ ∃ x ∈ l, x.n = n := by
  unfold namesL
  rw [putAll_mem, List.mem_filter, List.mem_map]
  constructor
  · rintro ⟨⟨x, hx, rfl⟩, h⟩; exact ⟨by simpa using h, x, hx, rfl⟩
  · rintro ⟨h, x, hx, rfl⟩; exact ⟨⟨x, hx, rfl⟩, by simpa using h⟩
theorem names_rise (l : List Ld) : (namesL K l).Pairwise (fun a b => a < b) := putAll_rises linT
theorem take_rise (l : List Ld) : ((namesL K l).take 64).Pairwise (fun a b => a < b) := (names_rise l).sublist (List.take_sublist _ _)
theorem node_at {l : List Ld} {n : Tx} : nodeG (nodesL K l) n = if n ∈ (namesL K l).take 64 then some (nodeL K l n) else none := by
  unfold nodeG nodesL
  have key : ∀ m : List Tx, m.Pairwise (fun a b => a < b) → (m.map (nodeL K l)).find? (fun x => decide (x.n = n)) = if n ∈ m then some (nodeL K l n) else none := fun m hm => by
    induction m with
    | nil => rfl
    | cons y m ih =>
      obtain ⟨h1, h2⟩ := List.pairwise_cons.1 hm
      rw [List.map_cons, List.find?_cons]
      by_cases e : y = n
      · subst e
        have : decide ((nodeL K l y).n = y) = true := decide_eq_true rfl
        rw [this, if_pos (by simp)]
      · have : decide ((nodeL K l y).n = n) = false := decide_eq_false e
        rw [this, ih h2]
        simp only
        by_cases hn : n ∈ m
        · rw [if_pos hn, if_pos (by simp [hn])]
        · rw [if_neg hn, if_neg (by simp [hn]; exact fun e2 => e e2.symm)]
  exact key _ (take_rise l)
theorem state_one {s : Int} : stateL s = 1 ↔ s = 1 := by unfold stateL; split <;> omega
theorem state_range (s : Int) : 1 ≤ stateL s ∧ stateL s ≤ 4 := by unfold stateL; split <;> omega
theorem GraphOk.may {l : List Ld} {ns : List Nd} {es : List Ed} (h : GraphOk K l ns es) : MayG K ns es := by
  obtain ⟨rfl, h2, h3⟩ := h
  refine ⟨?_, ?_, ?_, ?_, h2⟩
  · unfold nodesL; rw [List.length_map, List.length_take]; omega
  · intro x hx
    unfold nodesL at hx
    obtain ⟨n, hn, rfl⟩ := List.mem_map.1 hx
    have := (names_mem.1 (List.mem_of_mem_take hn)).1
    exact ⟨rfl, this, (state_range _).1, (state_range _).2⟩
  · unfold nodesL
    exact List.pairwise_map.2 (take_rise l)
  · intro e he
    obtain ⟨a, b, c, x, hx, hs, hsay⟩ := (h3 e).1 he
    refine ⟨⟨nodeL K l e.f, by rw [node_at]; exact if_pos a, ?_⟩, by rw [node_at, show (if e.t ∈ (namesL K l).take 64 then some (nodeL K l e.t) else none) = some (nodeL K l e.t) from if_pos b]; rfl, c, ?_⟩
    · show stateL _ = 1
      rw [hx]
      exact state_one.2 hs
    · generalize e.t = t at hsay
      generalize e.r = r at hsay ⊢
      cases hsay <;> omega
theorem few_names {l : List Ld} (h : l.length ≤ 64) : (namesL K l).take 64 = namesL K l := by
  refine List.take_of_length_le ?_
  have h1 := putAll_few (lt := fun a b : Tx => a < b) ((l.map (·.n)).filter (fun n => decide (K n ≠ 0)))
  have h2 := List.length_filter_le (fun n => decide (K n ≠ 0)) (l.map (·.n))
  rw [List.length_map] at h2
  unfold namesL
  omega
theorem own_rel {l : List Ld} {ns : List Nd} {es : List Ed} (h : GraphOk K l ns es) (hl : l.length ≤ 64) {x : Ld} (hf : firstL' l x.n = some x) (hx : x ∈ l) (hk : K x.n ≠ 0) (hs : x.s = 1) {k : Int} {t : Tx} (hr : (k, t) ∈ x.rels) (h1 : 1 ≤ k) (h9 : k ≤ 9) (hn : (nodeG ns t).isSome = true) (hne : t ≠ x.n) : t ∈ outG es x.n k := by
  rw [out_mem, h.edge]
  refine ⟨?_, ?_, fun e => hne e.symm, x, hf, hs, .rel hr h1 h9⟩
  · unfold isNode
    rw [few_names hl, names_mem]
    exact ⟨hk, x, hx, rfl⟩
  · rw [h.nodes, node_at] at hn
    unfold isNode
    by_cases e : t ∈ (namesL K l).take 64
    · exact e
    · rw [if_neg e] at hn; cases hn
theorem own_ends {l : List Ld} {ns : List Nd} {es : List Ed} (h : GraphOk K l ns es) {e : Ed} (he : e ∈ es) : (K e.f ≠ 0 ∧ ∃ x ∈ l, x.n = e.f) ∧ (K e.t ≠ 0 ∧ ∃ x ∈ l, x.n = e.t) := by
  obtain ⟨a, b, _⟩ := (h.edge e).1 he
  exact ⟨names_mem.1 (List.mem_of_mem_take a), names_mem.1 (List.mem_of_mem_take b)⟩
end
end Go.Proofs.YtcoepioahabbdaaGreat
