/- Stage 9 on plain lists: lines laid over one another, with a class for each key (none: unknown; some true: a list; some false: a single value) and a test for the empty value. It speaks of no code. -/
import Derived.Below
namespace Go.Proofs.Ytfjfhbmbngogpaa

section
variable {α κ : Type} [DecidableEq κ] (key : α → κ) (cls : κ → Option Bool) (emp : α → Bool)

/-- Does a later line y remove x? -/
def overB (x y : α) : Bool := (cls (key x)).isSome && decide (key y = key x) && (decide (cls (key x) = some false) || emp y)
/-- May x stay by itself? -/
def staysB (x : α) : Bool := !(decide (cls (key x) = some true) && emp x)
/-- What stays of the lines. -/
def blendR : List α → List α
  | [] => []
  | x :: r => if staysB key cls emp x && !(r.any (overB key cls emp x)) then x :: blendR r else blendR r

theorem blendR_sub : ∀ (l : List α) (x : α), x ∈ blendR key cls emp l → x ∈ l
  | [], x, h => by simp [blendR] at h
  | y :: r, x, h => by
    unfold blendR at h
    split at h
    · rcases List.mem_cons.mp h with h | h
      · exact List.mem_cons.mpr (.inl h)
      · exact List.mem_cons.mpr (.inr (blendR_sub r x h))
    · exact List.mem_cons.mpr (.inr (blendR_sub r x h))

theorem blendR_len : ∀ l : List α, (blendR key cls emp l).length ≤ l.length
  | [] => by simp [blendR]
  | y :: r => by
    have := blendR_len r
    unfold blendR
    split
    · simp; omega
    · simp; omega

theorem blendR_any (p : α → Bool) (l : List α) (h : l.any p = false) : (blendR key cls emp l).any p = false := by
  rw [List.any_eq_false] at h ⊢
  exact fun x hx => h x (blendR_sub key cls emp l x hx)

/-- What was laid over may be laid over again, in steps. -/
theorem blendR_step : ∀ l m : List α, blendR key cls emp (blendR key cls emp l ++ m) = blendR key cls emp (l ++ m)
  | [], m => by simp [blendR]
  | x :: r, m => by
    have ih := blendR_step r m
    by_cases hs : staysB key cls emp x = true
    · by_cases ha : r.any (overB key cls emp x) = true
      · have e1 : blendR key cls emp (x :: r) = blendR key cls emp r := by simp [blendR, hs, ha]
        have e2 : blendR key cls emp (x :: r ++ m) = blendR key cls emp (r ++ m) := by
          simp only [List.cons_append, blendR, List.any_append, ha, Bool.true_or, Bool.not_true, Bool.and_false, Bool.false_eq_true, if_false]
        rw [e1, e2, ih]
      · have ha' : r.any (overB key cls emp x) = false := by simpa using ha
        have hb := blendR_any key cls emp _ r ha'
        have e1 : blendR key cls emp (x :: r) = x :: blendR key cls emp r := by simp [blendR, hs, ha']
        rw [e1]
        simp only [List.cons_append, blendR, List.any_append, ha', hb, Bool.false_or, ih]
    · have hs' : staysB key cls emp x = false := by simpa using hs
      have e1 : blendR key cls emp (x :: r) = blendR key cls emp r := by simp [blendR, hs']
      have e2 : blendR key cls emp (x :: r ++ m) = blendR key cls emp (r ++ m) := by simp [blendR, hs']
      rw [e1, e2, ih]

/-- Once more changes nothing. -/
theorem blendR_idem (l : List α) : blendR key cls emp (blendR key cls emp l) = blendR key cls emp l := by
  have := blendR_step key cls emp l []
  simpa using this

/-- Where a line that stays stood. -/
theorem blendR_at : ∀ (l : List α) (x : α), x ∈ blendR key cls emp l →
    staysB key cls emp x = true ∧ ∃ p r, l = p ++ x :: r ∧ r.any (overB key cls emp x) = false
  | [], x, h => by simp [blendR] at h
  | y :: t, x, h => by
    by_cases hc : (staysB key cls emp y && !(t.any (overB key cls emp y))) = true
    · have e : blendR key cls emp (y :: t) = y :: blendR key cls emp t := by simp only [blendR, hc, if_true]
      rw [e] at h
      rcases List.mem_cons.mp h with h | h
      · subst h
        simp only [Bool.and_eq_true, Bool.not_eq_true'] at hc
        exact ⟨hc.1, [], t, rfl, hc.2⟩
      · obtain ⟨h1, p, r, h2, h3⟩ := blendR_at t x h
        exact ⟨h1, y :: p, r, by rw [h2]; rfl, h3⟩
    · have e : blendR key cls emp (y :: t) = blendR key cls emp t := by
        have : (staysB key cls emp y && !(t.any (overB key cls emp y))) = false := by simpa using hc
        simp only [blendR, this, Bool.false_eq_true, if_false]
      rw [e] at h
      obtain ⟨h1, p, r, h2, h3⟩ := blendR_at t x h
      exact ⟨h1, y :: p, r, by rw [h2]; rfl, h3⟩

/-- Behind a line that stays, none of the lines that stay removes it. -/
theorem blendR_free : ∀ (l : List α) (p : List α) (x : α) (r : List α), blendR key cls emp l = p ++ x :: r → r.any (overB key cls emp x) = false
  | [], p, x, r, h => by cases p <;> simp [blendR] at h
  | y :: t, p, x, r, h => by
    by_cases hc : (staysB key cls emp y && !(t.any (overB key cls emp y))) = true
    · have e : blendR key cls emp (y :: t) = y :: blendR key cls emp t := by simp only [blendR, hc, if_true]
      rw [e] at h
      simp only [Bool.and_eq_true, Bool.not_eq_true'] at hc
      cases p with
      | nil =>
        simp only [List.nil_append, List.cons.injEq] at h
        obtain ⟨h1, h2⟩ := h
        subst h1 h2
        exact blendR_any key cls emp _ t hc.2
      | cons z p =>
        simp only [List.cons_append, List.cons.injEq] at h
        exact blendR_free t p x r h.2
    · have e : blendR key cls emp (y :: t) = blendR key cls emp t := by
        have : (staysB key cls emp y && !(t.any (overB key cls emp y))) = false := by simpa using hc
        simp only [blendR, this, Bool.false_eq_true, if_false]
      rw [e] at h
      exact blendR_free t p x r h

theorem over_single (x y : α) (h : cls (key x) = some false) : overB key cls emp x y = decide (key y = key x) := by
  simp [overB, h]

/-- Of a key that is no list one line stays at most. -/
theorem blendR_one (l p : List α) (x : α) (r : List α) (h : blendR key cls emp l = p ++ x :: r) (hx : cls (key x) = some false) :
    ∀ y ∈ r, key y ≠ key x := by
  intro y hy he
  have := blendR_free key cls emp l p x r h
  rw [List.any_eq_false] at this
  exact this y hy (by rw [over_single key cls emp x y hx]; simp [he])

/-- The last line with x's key, x itself if there is none. -/
def lastR (x : α) (l : List α) : α := l.foldl (fun a y => if key y = key x then y else a) x
theorem lastR_of (x : α) (hx : cls (key x) = some false) (l : List α) (h : x ∈ blendR key cls emp l) : lastR key x l = x := by
  obtain ⟨_, p, r, e, hr⟩ := blendR_at key cls emp l x h
  have hn : ∀ y ∈ r, key y ≠ key x := by
    intro y hy he
    rw [List.any_eq_false] at hr
    exact hr y hy (by rw [over_single key cls emp x y hx]; simp [he])
  have tail : ∀ (s : List α), (∀ y ∈ s, key y ≠ key x) → s.foldl (fun a y => if key y = key x then y else a) x = x := by
    intro s
    induction s with
    | nil => intro _; rfl
    | cons y s ih =>
      intro hs
      rw [List.foldl_cons, if_neg (hs y (by simp))]
      exact ih fun z hz => hs z (by simp [hz])
  unfold lastR
  rw [e, List.foldl_append, List.foldl_cons, if_pos rfl]
  exact tail r hn

/-- An empty line of a list key leaves nothing of that key, and all else. -/
theorem blendR_anew (e : α) (he : cls (key e) = some true) (hv : emp e = true) : ∀ a : List α,
    blendR key cls emp (a ++ [e]) = blendR key cls emp (a.filter fun x => decide (key x ≠ key e))
  | [] => by simp [blendR, staysB, he, hv]
  | x :: r => by
    have ih := blendR_anew e he hv r
    by_cases hk : key x = key e
    · have ho : overB key cls emp x e = true := by simp [overB, hk, he, hv]
      have e1 : blendR key cls emp (x :: r ++ [e]) = blendR key cls emp (r ++ [e]) := by
        simp only [List.cons_append, blendR, List.any_append, List.any_cons, ho, Bool.true_or, Bool.or_true, Bool.not_true, Bool.and_false, Bool.false_eq_true, if_false]
      rw [e1, ih]
      congr 1
      simp [hk]
    · have ho : overB key cls emp x e = false := by
        have : decide (key e = key x) = false := by simp [Ne.symm hk]
        simp [overB, this]
      have ha : (r.filter fun x => decide (key x ≠ key e)).any (overB key cls emp x) = r.any (overB key cls emp x) := by
        clear ih
        induction r with
        | nil => rfl
        | cons y r ihr =>
          by_cases hy : key y = key e
          · have : overB key cls emp x y = false := by
              have hn : decide (key y = key x) = false := by rw [hy]; simp [Ne.symm hk]
              simp [overB, hn]
            simp only [List.filter_cons, hy, ne_eq, not_true_eq_false, decide_false, Bool.false_eq_true, if_false, List.any_cons, this, Bool.false_or]
            simpa using ihr
          · simp only [List.filter_cons, hy, ne_eq, not_false_eq_true, decide_true, if_true, List.any_cons]
            congr 1
      have hf : ((x :: r).filter fun x => decide (key x ≠ key e)) = x :: (r.filter fun x => decide (key x ≠ key e)) := by
        simp [hk]
      rw [hf]
      simp only [List.cons_append, blendR, List.any_append, List.any_cons, ho, List.any_nil, Bool.or_false, ha, ih]

/-- One line more: what it does to the lines that stay. -/
def layB (acc : List α) (x : α) : List α :=
  match cls (key x) with
  | none => acc ++ [x]
  | some true => if emp x then acc.filter (fun y => decide (key y ≠ key x)) else acc ++ [x]
  | some false => acc.filter (fun y => decide (key y ≠ key x)) ++ [x]

theorem over_same (x y : α) (h : key y ≠ key x) : overB key cls emp y x = false := by
  have : decide (key x = key y) = false := by simp [Ne.symm h]
  simp [overB, this]

theorem blendR_snoc : ∀ (l : List α) (x : α), blendR key cls emp (l ++ [x]) = layB key cls emp (blendR key cls emp l) x
  | [], x => by
    unfold layB
    cases h : cls (key x) with
    | none => simp [blendR, staysB, h]
    | some b => cases b <;> cases h2 : emp x <;> simp [blendR, staysB, h, h2]
  | y :: r, x => by
    have ih := blendR_snoc r x
    by_cases hc : (staysB key cls emp y && !(r.any (overB key cls emp y))) = true
    · have e : blendR key cls emp (y :: r) = y :: blendR key cls emp r := by simp only [blendR, hc, if_true]
      have hc' := hc
      simp only [Bool.and_eq_true, Bool.not_eq_true'] at hc'
      by_cases ho : overB key cls emp y x = true
      · have e1 : blendR key cls emp (y :: r ++ [x]) = blendR key cls emp (r ++ [x]) := by
          simp only [List.cons_append, blendR, List.any_append, List.any_cons, ho, Bool.true_or, Bool.or_true, Bool.not_true, Bool.and_false, Bool.false_eq_true, if_false]
        rw [e1, ih, e]
        have hk : key x = key y := by
          simp only [overB, Bool.and_eq_true, decide_eq_true_eq] at ho; exact ho.1.2
        unfold layB
        cases h : cls (key x) with
        | none => rw [hk] at h; simp [overB, h] at ho
        | some b =>
          cases b with
          | false => simp [hk]
          | true =>
            have hv : emp x = true := by
              rw [hk] at h; simpa [overB, h, hk] using ho
            simp [hk, hv]
      · have ho' : overB key cls emp y x = false := by simpa using ho
        have e1 : blendR key cls emp (y :: r ++ [x]) = y :: blendR key cls emp (r ++ [x]) := by
          simp only [List.cons_append, blendR, List.any_append, List.any_cons, ho', List.any_nil, Bool.or_false, hc, if_true]
        rw [e1, ih, e]
        unfold layB
        cases h : cls (key x) with
        | none => simp
        | some b =>
          have hcase : key y ≠ key x ∨ (b = true ∧ emp x = false) := by
            by_cases hk : key y = key x
            · right
              cases b with
              | false => simp [overB, h, hk] at ho'
              | true => exact ⟨rfl, by simpa [overB, h, hk] using ho'⟩
            · exact .inl hk
          cases b with
          | false =>
            rcases hcase with hk | ⟨h1, _⟩
            · simp [List.filter_cons, hk]
            · cases h1
          | true =>
            rcases hcase with hk | ⟨_, h2⟩
            · cases hv : emp x <;> simp [List.filter_cons, hk]
            · simp [h2]
    · have hc' : (staysB key cls emp y && !(r.any (overB key cls emp y))) = false := by simpa using hc
      have e : blendR key cls emp (y :: r) = blendR key cls emp r := by
        simp only [blendR, hc', Bool.false_eq_true, if_false]
      have e1 : blendR key cls emp (y :: r ++ [x]) = blendR key cls emp (r ++ [x]) := by
        have : (staysB key cls emp y && !((r ++ [x]).any (overB key cls emp y))) = false := by
          rw [List.any_append]
          cases h1 : staysB key cls emp y with
          | false => rfl
          | true =>
            have h2 : r.any (overB key cls emp y) = true := by simpa [h1] using hc'
            simp [h2]
        simp only [List.cons_append, blendR, this, Bool.false_eq_true, if_false]
      rw [e1, ih, e]

/-- Line by line, from the first one on. -/
theorem blendR_foldl (l : List α) : l.foldl (layB key cls emp) [] = blendR key cls emp l := by
  have gen : ∀ (m p : List α), m.foldl (layB key cls emp) (blendR key cls emp p) = blendR key cls emp (p ++ m) := by
    intro m
    induction m with
    | nil => intro p; simp
    | cons x m ih =>
      intro p
      rw [List.foldl_cons, ← blendR_snoc, ih]
      simp
  have := gen l []
  simpa [blendR] using this
end

end Go.Proofs.Ytfjfhbmbngogpaa
