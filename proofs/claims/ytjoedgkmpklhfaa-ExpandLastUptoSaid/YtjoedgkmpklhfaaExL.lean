/- Signs and variables on plain lists of bytes: what a text stands for, what a word stands for, and what the laws of chapter 6 say of it. It speaks of no code. -/
import Derived.Test.YtjoedgkmpklhfaaSpL
import Derived.Lib.CutLaws
namespace Go.Proofs.Ytjoedgkmpklhfaa

/-! ### a text cut at its first byte c -/
def cutX (c : UInt8) : List UInt8 → List UInt8 × List UInt8 × Bool
  | [] => ([], [], false)
  | x :: r => if x = c then ([], r, true) else (x :: (cutX c r).1, (cutX c r).2.1, (cutX c r).2.2)
theorem cutX_no {c : UInt8} {l : List UInt8} (h : (cutX c l).2.2 = false) : c ∉ l ∧ (cutX c l).1 = l := by
  induction l with
  | nil => exact ⟨by simp, rfl⟩
  | cons x l ih =>
    rw [cutX] at h ⊢
    by_cases hx : x = c
    · rw [if_pos hx] at h; cases h
    · rw [if_neg hx] at h ⊢
      obtain ⟨h1, h2⟩ := ih h
      refine ⟨?_, by rw [h2]⟩
      rw [List.mem_cons]
      rintro (e | e)
      · exact hx e.symm
      · exact h1 e
theorem cutX_yes {c : UInt8} {l : List UInt8} (h : (cutX c l).2.2 = true) : c ∉ (cutX c l).1 ∧ l = (cutX c l).1 ++ c :: (cutX c l).2.1 := by
  induction l with
  | nil => cases h
  | cons x l ih =>
    rw [cutX] at h ⊢
    by_cases hx : x = c
    · rw [if_pos hx]; exact ⟨by simp, by rw [hx]; rfl⟩
    · rw [if_neg hx] at h ⊢
      obtain ⟨h1, h2⟩ := ih h
      refine ⟨?_, by simpa using h2⟩
      rw [List.mem_cons]
      rintro (e | e)
      · exact hx e.symm
      · exact h1 e
theorem cutX_app {c : UInt8} (a r : List UInt8) (h : c ∉ a) : cutX c (a ++ c :: r) = (a, r, true) := by
  induction a with
  | nil => rw [List.nil_append, cutX, if_pos rfl]
  | cons x a ih =>
    have hx : x ≠ c := fun e => h (by rw [e]; simp)
    rw [List.cons_append, cutX, if_neg hx, ih (fun e => h (by simp [e]))]
theorem cutX_none {c : UInt8} (a : List UInt8) (h : c ∉ a) : cutX c a = (a, [], false) := by
  induction a with
  | nil => rfl
  | cons x a ih =>
    have hx : x ≠ c := fun e => h (by rw [e]; simp)
    rw [cutX, if_neg hx, ih (fun e => h (by simp [e]))]
theorem cut_cutX (c : UInt8) (l : List UInt8) : Lib.cut l [c] = cutX c l := by
  induction l with
  | nil => rfl
  | cons x l ih =>
    have hge := Lib.index_ge l [c]
    have hp : ([c].isPrefixOf (x :: l)) = decide (x = c) := by
      rw [Bool.eq_iff_iff]; simp [List.isPrefixOf]; exact eq_comm
    rw [cutX]
    unfold Lib.cut at ih ⊢
    have e : Lib.index (x :: l) [c] = if x = c then 0 else if Lib.index l [c] = -1 then -1 else Lib.index l [c] + 1 := by
      rw [Lib.index, hp]
      by_cases h : x = c <;> simp [h]
    by_cases hx : x = c
    · rw [e, if_pos hx, if_pos hx]; rfl
    · rw [e, if_neg hx, if_neg hx, ← ih]
      by_cases h1 : Lib.index l [c] = -1
      · rw [if_pos h1, if_neg (by omega), if_neg (by omega)]
      · rw [if_neg h1, if_pos (by omega), if_pos (by omega)]
        have e2 : (Lib.index l [c] + 1).toNat = (Lib.index l [c]).toNat + 1 := by omega
        rw [e2]; rfl

/-! ### a text's signs -/
/-- What a text stands for; V: what stands for a sign's letter. -/
def specL (V : UInt8 → Option (List UInt8)) : List UInt8 → Option (List UInt8)
  | [] => some []
  | [c] => if c = 37 then none else some [c]
  | c :: d :: t => if c = 37 then (match V d with
      | some v => (specL V t).map (v ++ ·)
      | none => none) else (specL V (d :: t)).map (c :: ·)
theorem specL_sign (V : UInt8 → Option (List UInt8)) (d : UInt8) (t : List UInt8) : specL V (37 :: d :: t) = match V d with
    | some v => (specL V t).map (v ++ ·)
    | none => none := by rw [specL, if_pos rfl]
theorem specL_other (V : UInt8 → Option (List UInt8)) {c : UInt8} (h : c ≠ 37) (t : List UInt8) : specL V (c :: t) = (specL V t).map (c :: ·) := by
  cases t with
  | nil => simp [specL, h]
  | cons d t => rw [specL, if_neg h]
theorem specL_last (V : UInt8 → Option (List UInt8)) : specL V [37] = none := by rw [specL, if_pos rfl]
theorem specL_plain (V : UInt8 → Option (List UInt8)) (a t : List UInt8) (h : (37 : UInt8) ∉ a) : specL V (a ++ t) = (specL V t).map (a ++ ·) := by
  induction a with
  | nil => simp
  | cons c a ih =>
    have hc : c ≠ 37 := fun e => h (by rw [e]; simp)
    rw [List.cons_append, specL_other V hc, ih (fun e => h (by simp [e])), Option.map_map]
    rfl
theorem specL_none {V : UInt8 → Option (List UInt8)} {d : UInt8} (h : V d = none) (t : List UInt8) : specL V (37 :: d :: t) = none := by rw [specL_sign, h]
theorem specL_some {V : UInt8 → Option (List UInt8)} {d : UInt8} {v : List UInt8} (h : V d = some v) (t : List UInt8) : specL V (37 :: d :: t) = (specL V t).map (v ++ ·) := by rw [specL_sign, h]
def twice (c : UInt8) (l : List UInt8) : List UInt8 := l.flatMap fun x => if x = c then [x, x] else [x]
theorem twice_cons_eq (c : UInt8) (t : List UInt8) : twice c (c :: t) = c :: c :: twice c t := by simp [twice]
theorem twice_cons_ne {c x : UInt8} (h : x ≠ c) (t : List UInt8) : twice c (x :: t) = x :: twice c t := by simp [twice, h]
theorem twice_length (c : UInt8) (l : List UInt8) : (twice c l).length ≤ 2 * l.length := by
  induction l with
  | nil => exact Nat.le_refl _
  | cons x t ih =>
    by_cases h : x = c
    · subst h; rw [twice_cons_eq]; simp; omega
    · rw [twice_cons_ne h]; simp; omega
theorem specL_twice {V : UInt8 → Option (List UInt8)} (h : V 37 = some [37]) (l : List UInt8) : specL V (twice 37 l) = some l := by
  induction l with
  | nil => rfl
  | cons x t ih =>
    by_cases hx : x = 37
    · subst hx
      rw [twice_cons_eq, specL_some h, ih]; rfl
    · rw [twice_cons_ne hx, specL_other V hx, ih]; rfl
theorem specL_both {V : UInt8 → Option (List UInt8)} (n : Nat) : ∀ (a b x : List UInt8), a.length ≤ n → specL V a = some x → specL V (a ++ b) = (specL V b).map (x ++ ·) := by
  induction n with
  | zero =>
    intro a b x h hs
    obtain rfl := List.eq_nil_of_length_eq_zero (Nat.le_zero.1 h)
    rw [specL] at hs
    injection hs with hs
    subst hs
    simp
  | succ n ih =>
    intro a b x h hs
    match a with
    | [] =>
      rw [specL] at hs
      injection hs with hs
      subst hs
      simp
    | c :: t =>
      by_cases hc : c = 37
      · subst hc
        match t with
        | [] => rw [specL_last] at hs; cases hs
        | d :: t =>
          cases hv : V d with
          | none => rw [specL_none hv] at hs; cases hs
          | some v =>
            rw [specL_some hv] at hs
            obtain ⟨y, hy, rfl⟩ := Option.map_eq_some_iff.1 hs
            rw [List.cons_append, List.cons_append, specL_some hv, ih t b y (by simp at h; omega) hy, Option.map_map]
            congr 1
            funext z
            simp
      · rw [specL_other V hc] at hs
        obtain ⟨y, hy, rfl⟩ := Option.map_eq_some_iff.1 hs
        rw [List.cons_append, specL_other V hc, ih t b y (by simp at h; omega) hy, Option.map_map]
        rfl
theorem specL_len {V : UInt8 → Option (List UInt8)} {M : Nat} (hV : ∀ d v, V d = some v → v.length ≤ M) (hM : 1 ≤ M) (n : Nat) : ∀ (a x : List UInt8), a.length ≤ n → specL V a = some x → x.length ≤ M * a.length := by
  induction n with
  | zero =>
    intro a x h hs
    obtain rfl := List.eq_nil_of_length_eq_zero (Nat.le_zero.1 h)
    rw [specL] at hs
    injection hs with hs
    subst hs
    exact Nat.zero_le _
  | succ n ih =>
    intro a x h hs
    match a with
    | [] =>
      rw [specL] at hs
      injection hs with hs
      subst hs
      exact Nat.zero_le _
    | c :: t =>
      by_cases hc : c = 37
      · subst hc
        match t with
        | [] => rw [specL_last] at hs; cases hs
        | d :: t =>
          cases hv : V d with
          | none => rw [specL_none hv] at hs; cases hs
          | some v =>
            rw [specL_some hv] at hs
            obtain ⟨y, hy, rfl⟩ := Option.map_eq_some_iff.1 hs
            have h1 := ih t y (by simp at h; omega) hy
            have h2 := hV d v hv
            rw [List.length_append, List.length_cons, List.length_cons, Nat.mul_add, Nat.mul_add]
            omega
      · rw [specL_other V hc] at hs
        obtain ⟨y, hy, rfl⟩ := Option.map_eq_some_iff.1 hs
        have h1 := ih t y (by simp at h; omega) hy
        rw [List.length_cons, List.length_cons, Nat.mul_add]
        omega

/-! ### variables -/
def letterX (c : UInt8) : Bool := (decide (97 ≤ c.toNat) && decide (c.toNat ≤ 122)) || (decide (65 ≤ c.toNat) && decide (c.toNat ≤ 90))
def wordX (c : UInt8) : Bool := letterX c || isDig c || decide (c = 95)
/-- A variable's name. -/
def varX (l : List UInt8) : Bool := decide (1 ≤ l.length) && decide (l.length ≤ 60) && !(match l with | c :: _ => isDig c | [] => false) && l.all wordX
theorem varX_iff (l : List UInt8) : varX l = true ↔ 1 ≤ l.length ∧ l.length ≤ 60 ∧ (∀ c t, l = c :: t → isDig c = false) ∧ ∀ c ∈ l, wordX c = true := by
  unfold varX
  cases l with
  | nil => simp
  | cons c t =>
    simp only [Bool.and_eq_true, decide_eq_true_eq, Bool.not_eq_true', List.all_eq_true]
    constructor
    · rintro ⟨⟨⟨h1, h2⟩, h3⟩, h4⟩
      exact ⟨h1, h2, fun c' t' e => by injection e with e1 e2; subst e1; exact h3, h4⟩
    · rintro ⟨h1, h2, h3, h4⟩
      exact ⟨⟨⟨h1, h2⟩, h3 c t rfl⟩, h4⟩
theorem varX_nil : varX [] = false := rfl
theorem varX_dollar (t : List UInt8) : varX (36 :: t) = false := by
  rw [← Bool.not_eq_true, varX_iff]
  rintro ⟨_, _, _, h⟩
  have := h 36 (by simp)
  revert this
  decide
theorem varX_brace (t : List UInt8) : varX (123 :: t) = false := by
  rw [← Bool.not_eq_true, varX_iff]
  rintro ⟨_, _, _, h⟩
  have := h 123 (by simp)
  revert this
  decide
theorem varX_no125 {l : List UInt8} (h : varX l = true) : (125 : UInt8) ∉ l := by
  intro hm
  have := ((varX_iff l).1 h).2.2.2 125 hm
  revert this
  decide
theorem varX_no36 {l : List UInt8} (h : varX l = true) : (36 : UInt8) ∉ l := by
  intro hm
  have := ((varX_iff l).1 h).2.2.2 36 hm
  revert this
  decide

/-- A variable's value: the last pair's. -/
def valX (env : List (List UInt8 × List UInt8)) (n : List UInt8) : List UInt8 := env.foldl (fun v p => if p.1 = n then p.2 else v) []
theorem valX_snoc (env : List (List UInt8 × List UInt8)) (p : List UInt8 × List UInt8) (n : List UInt8) : valX (env ++ [p]) n = if p.1 = n then p.2 else valX env n := by
  unfold valX
  rw [List.foldl_append]; rfl
theorem valX_mem (env : List (List UInt8 × List UInt8)) (n : List UInt8) : valX env n = [] ∨ ∃ p ∈ env, valX env n = p.2 := by
  unfold valX
  suffices h : ∀ (v : List UInt8), env.foldl (fun v p => if p.1 = n then p.2 else v) v = v ∨ ∃ p ∈ env, env.foldl (fun v p => if p.1 = n then p.2 else v) v = p.2 from h []
  induction env with
  | nil => intro v; exact .inl rfl
  | cons q env ih =>
    intro v
    rw [List.foldl_cons]
    rcases ih (if q.1 = n then q.2 else v) with h | ⟨p, hp, h⟩
    · rw [h]
      by_cases hq : q.1 = n
      · rw [if_pos hq]; exact .inr ⟨q, by simp, rfl⟩
      · rw [if_neg hq]; exact .inl rfl
    · exact .inr ⟨p, by simp [hp], h⟩

/-- The variable between braces at the beginning; none: nothing. -/
def brX (l : List UInt8) : List UInt8 := match l with
  | 123 :: t => if (cutX 125 t).2.2 = true ∧ varX (cutX 125 t).1 = true then (cutX 125 t).1 else []
  | _ => []
theorem brX_other {l : List UInt8} (h : ∀ t, l ≠ 123 :: t) : brX l = [] := by
  unfold brX
  split
  · rename_i t; exact absurd rfl (h t)
  · rfl
theorem brX_brace (t : List UInt8) : brX (123 :: t) = if (cutX 125 t).2.2 = true ∧ varX (cutX 125 t).1 = true then (cutX 125 t).1 else [] := rfl
theorem brX_var {l : List UInt8} (h : brX l ≠ []) : varX (brX l) = true ∧ ∃ r, l = 123 :: (brX l ++ 125 :: r) := by
  unfold brX at h ⊢
  split at h
  · rename_i t
    by_cases hc : (cutX 125 t).2.2 = true ∧ varX (cutX 125 t).1 = true
    · simp only [if_pos hc]
      exact ⟨hc.2, _, by rw [← (cutX_yes hc.1).2]⟩
    · rw [if_neg hc] at h; exact absurd rfl h
  · exact absurd rfl h
theorem brX_of {n r : List UInt8} (h : varX n = true) : brX (123 :: (n ++ 125 :: r)) = n := by
  rw [brX_brace, cutX_app n r (varX_no125 h), if_pos ⟨rfl, h⟩]
theorem brX_dollar (t : List UInt8) : brX (36 :: t) = [] := rfl
/-- The developers' way: no further than 61 bytes behind the brace. -/
theorem brX_short (t : List UInt8) : brX (123 :: t) = if (cutX 125 (t.take 61)).2.2 = true ∧ varX (cutX 125 (t.take 61)).1 = true then (cutX 125 (t.take 61)).1 else [] := by
  rw [brX_brace]
  rcases h1 : (cutX 125 (t.take 61)).2.2 with _ | _
  · obtain ⟨hn, _⟩ := cutX_no h1
    rw [if_neg (by simp : ¬ (false = true ∧ varX (cutX 125 (t.take 61)).1 = true)), if_neg]
    intro hh
    have h2 := hh.1
    have h3 := hh.2
    obtain ⟨hm, e⟩ := cutX_yes h2
    have hl := ((varX_iff _).1 h3).2.1
    refine hn ?_
    rw [e, List.take_append]
    refine List.mem_append.2 (.inr ?_)
    rw [show 61 - (cutX 125 t).1.length = (60 - (cutX 125 t).1.length) + 1 by omega, List.take_succ_cons]
    exact List.mem_cons_self
  · obtain ⟨hm, e⟩ := cutX_yes h1
    have e2 : t = (cutX 125 (t.take 61)).1 ++ 125 :: ((cutX 125 (t.take 61)).2.1 ++ t.drop 61) := by
      conv => lhs; rw [← List.take_append_drop 61 t]
      conv => lhs; lhs; rw [e]
      simp
    have e3 : cutX 125 t = ((cutX 125 (t.take 61)).1, (cutX 125 (t.take 61)).2.1 ++ t.drop 61, true) := by
      conv => lhs; rw [e2]
      exact cutX_app _ _ hm
    rw [e3]

/-- What a word that is no variable by itself stands for. -/
def fillX (env : List (List UInt8 × List UInt8)) (l : List UInt8) : List UInt8 := match l with
  | [] => []
  | c :: t => if c = 36 then (if t.head? = some 36 then 36 :: fillX env (t.drop 1)
      else if brX t = [] then 36 :: fillX env t else valX env (brX t) ++ fillX env (t.drop ((brX t).length + 2))) else c :: fillX env t
termination_by l.length
decreasing_by all_goals (simp; try omega)
theorem fillX_nil (env : List (List UInt8 × List UInt8)) : fillX env [] = [] := by rw [fillX]
theorem fillX_other (env : List (List UInt8 × List UInt8)) {c : UInt8} (h : c ≠ 36) (t : List UInt8) : fillX env (c :: t) = c :: fillX env t := by rw [fillX, if_neg h]
theorem fillX_two (env : List (List UInt8 × List UInt8)) (t : List UInt8) : fillX env (36 :: 36 :: t) = 36 :: fillX env t := by rw [fillX, if_pos rfl, if_pos (by rfl)]; rfl
theorem fillX_last (env : List (List UInt8 × List UInt8)) : fillX env [36] = [36] := by
  rw [fillX, if_pos rfl, if_neg (by simp), if_pos (by rfl), fillX_nil]
theorem fillX_lone (env : List (List UInt8 × List UInt8)) {t : List UInt8} (h : ∀ r, t ≠ 36 :: r) (hb : brX t = []) : fillX env (36 :: t) = 36 :: fillX env t := by
  rw [fillX, if_pos rfl, if_neg, if_pos hb]
  intro hh
  cases t with
  | nil => cases hh
  | cons d r => injection hh with hh; exact h r (by rw [hh])
theorem fillX_var (env : List (List UInt8 × List UInt8)) {t : List UInt8} (hb : brX t ≠ []) : fillX env (36 :: t) = valX env (brX t) ++ fillX env (t.drop ((brX t).length + 2)) := by
  rw [fillX, if_pos rfl, if_neg, if_neg hb]
  intro hh
  cases t with
  | nil => cases hh
  | cons d r => injection hh with hh; exact hb (by rw [hh]; rfl)
theorem fillX_plain (env : List (List UInt8 × List UInt8)) (a t : List UInt8) (h : (36 : UInt8) ∉ a) : fillX env (a ++ t) = a ++ fillX env t := by
  induction a with
  | nil => rfl
  | cons c a ih =>
    have hc : c ≠ 36 := fun e => h (by rw [e]; simp)
    rw [List.cons_append, fillX_other env hc, ih (fun e => h (by simp [e]))]
    rfl
theorem fillX_twice (env : List (List UInt8 × List UInt8)) (l : List UInt8) : fillX env (twice 36 l) = l := by
  induction l with
  | nil => exact fillX_nil env
  | cons x t ih =>
    by_cases hx : x = 36
    · subst hx
      rw [twice_cons_eq, fillX_two, ih]
    · rw [twice_cons_ne hx, fillX_other env hx, ih]
theorem fillX_len (env : List (List UInt8 × List UInt8)) {M : Nat} (hM : 1 ≤ M) (hE : ∀ n, (valX env n).length ≤ M) (n : Nat) : ∀ l : List UInt8, l.length ≤ n → (fillX env l).length ≤ M * l.length := by
  induction n with
  | zero =>
    intro l h
    obtain rfl := List.eq_nil_of_length_eq_zero (Nat.le_zero.1 h)
    rw [fillX_nil]; exact Nat.zero_le _
  | succ n ih =>
    intro l h
    match l with
    | [] => rw [fillX_nil]; exact Nat.zero_le _
    | c :: t =>
      by_cases hc : c = 36
      · subst hc
        by_cases hb : brX t = []
        · by_cases h2 : ∃ r, t = 36 :: r
          · obtain ⟨r, rfl⟩ := h2
            have := ih r (by simp at h; omega)
            rw [fillX_two, List.length_cons, List.length_cons, List.length_cons, Nat.mul_add, Nat.mul_add]
            omega
          · have := ih t (by simp at h; omega)
            rw [fillX_lone env (fun r e => h2 ⟨r, e⟩) hb, List.length_cons, List.length_cons, Nat.mul_add]
            omega
        · have h1 := ih (t.drop ((brX t).length + 2)) (by simp at h ⊢; omega)
          have h2 := hE (brX t)
          have h3 : M * (t.drop ((brX t).length + 2)).length ≤ M * t.length := Nat.mul_le_mul_left _ (by simp)
          rw [fillX_var env hb, List.length_append, List.length_cons, Nat.mul_add]
          omega
      · have := ih t (by simp at h; omega)
        rw [fillX_other env hc, List.length_cons, List.length_cons, Nat.mul_add]
        omega

/-- The variable that a word is, behind its sign; none: nothing. -/
def wholeX (w : List UInt8) : List UInt8 := match w with
  | 36 :: n => if varX n = true then n else []
  | _ => []
def oneX (env : List (List UInt8 × List UInt8)) (w : List UInt8) : List (List UInt8) := if wholeX w = [] then [fillX env w] else blanksL [32, 9] (valX env (wholeX w))
def varsX (env : List (List UInt8 × List UInt8)) (l : List (List UInt8)) : List (List UInt8) := l.flatMap (oneX env)
theorem wholeX_var {n : List UInt8} (h : varX n = true) : wholeX (36 :: n) = n := by show (if varX n = true then n else []) = n; rw [if_pos h]
theorem wholeX_not {n : List UInt8} (h : varX n = false) : wholeX (36 :: n) = [] := by show (if varX n = true then n else []) = []; rw [if_neg (by rw [h]; simp)]
theorem wholeX_other {w : List UInt8} (h : ∀ n, w ≠ 36 :: n) : wholeX w = [] := by
  unfold wholeX
  split
  · rename_i n; exact absurd rfl (h n)
  · rfl
theorem wholeX_twice (w : List UInt8) : wholeX (twice 36 w) = [] := by
  cases w with
  | nil => rfl
  | cons x t =>
    by_cases hx : x = 36
    · subst hx; rw [twice_cons_eq]; exact wholeX_not (varX_dollar _)
    · rw [twice_cons_ne hx]; exact wholeX_other (fun n e => hx (by injection e))
theorem oneX_twice (env : List (List UInt8 × List UInt8)) (w : List UInt8) : oneX env (twice 36 w) = [w] := by
  unfold oneX
  rw [wholeX_twice, if_pos rfl, fillX_twice]
theorem varsX_nil (env : List (List UInt8 × List UInt8)) : varsX env [] = [] := rfl
theorem varsX_app (env : List (List UInt8 × List UInt8)) (a b : List (List UInt8)) : varsX env (a ++ b) = varsX env a ++ varsX env b := by simp [varsX]
theorem varsX_snoc (env : List (List UInt8 × List UInt8)) (a : List (List UInt8)) (w : List UInt8) : varsX env (a ++ [w]) = varsX env a ++ oneX env w := by simp [varsX]
theorem varsX_one (env : List (List UInt8 × List UInt8)) (w : List UInt8) : varsX env [w] = oneX env w := by simp [varsX]
theorem oneX_whole {env : List (List UInt8 × List UInt8)} {w : List UInt8} (h : wholeX w ≠ []) : oneX env w = blanksL [32, 9] (valX env (wholeX w)) := by unfold oneX; rw [if_neg h]
theorem oneX_fill {env : List (List UInt8 × List UInt8)} {w : List UInt8} (h : wholeX w = []) : oneX env w = [fillX env w] := by unfold oneX; rw [if_pos h]
/-- The law on the last value, on lists. -/
theorem last_val (env : List (List UInt8 × List UInt8)) {n : List UInt8} (v : List UInt8) (h : varX n = true) :
    varsX (env ++ [(n, v)]) [36 :: 123 :: (n ++ [125]), 36 :: n] = v :: blanksL [32, 9] v := by
  have hv : valX (env ++ [(n, v)]) n = v := by rw [valX_snoc, if_pos rfl]
  have hn : n ≠ [] := fun e => by rw [e, varX_nil] at h; cases h
  have hb : brX (123 :: (n ++ [125])) = n := brX_of (r := []) h
  have h1 : fillX (env ++ [(n, v)]) (36 :: 123 :: (n ++ [125])) = v := by
    rw [fillX_var _ (by rw [hb]; exact hn), hb, hv]
    have e : (123 :: (n ++ [125])).drop (n.length + 2) = [] := List.drop_eq_nil_of_le (by simp)
    rw [e, fillX_nil, List.append_nil]
  have w1 : wholeX (36 :: 123 :: (n ++ [125])) = [] := wholeX_not (varX_brace _)
  have w2 : wholeX (36 :: n) = n := wholeX_var h
  show oneX _ _ ++ (oneX _ _ ++ []) = _
  rw [oneX_fill w1, h1, oneX_whole (by rw [w2]; exact hn), w2, hv, List.append_nil]
  rfl
theorem blanksX_words (l : List UInt8) : ∀ w ∈ blanksL [32, 9] l, w.length ≤ l.length := by
  suffices h : ∀ (l u : List UInt8), ∀ w ∈ bgo [32, 9] u l, w.length ≤ u.length + l.length by
    intro w hw
    have := h l [] w hw
    simpa using this
  intro l
  induction l with
  | nil =>
    intro u w hw
    rw [bgo] at hw
    by_cases hu : u = []
    · rw [if_pos hu] at hw; cases hw
    · rw [if_neg hu, List.mem_singleton] at hw; subst hw; simp
  | cons c r ih =>
    intro u w hw
    rw [bgo] at hw
    by_cases hc : ([32, 9] : List UInt8).contains c = true
    · rw [if_pos hc] at hw
      by_cases hu : u = []
      · rw [if_pos hu] at hw
        have := ih [] w hw
        simp at this ⊢; omega
      · rw [if_neg hu] at hw
        rcases List.mem_cons.1 hw with rfl | hw
        · simp
        · have := ih [] w hw
          simp at this ⊢; omega
    · rw [if_neg hc] at hw
      have := ih _ w hw
      simp at this ⊢; omega
theorem blanksX_count (l : List UInt8) : (blanksL [32, 9] l).length ≤ l.length := by
  suffices h : ∀ (l u : List UInt8), (bgo [32, 9] u l).length ≤ (if u = [] then 0 else 1) + l.length by
    have := h l []
    rw [if_pos rfl, Nat.zero_add] at this
    exact this
  intro l
  induction l with
  | nil =>
    intro u
    rw [bgo]
    by_cases hu : u = [] <;> simp [hu]
  | cons c r ih =>
    intro u
    rw [bgo]
    by_cases hc : ([32, 9] : List UInt8).contains c = true
    · rw [if_pos hc]
      have := ih []
      by_cases hu : u = []
      · rw [if_pos hu, if_pos hu]; simp at this ⊢; omega
      · rw [if_neg hu, if_neg hu]; simp at this ⊢; omega
    · rw [if_neg hc]
      have h1 := ih (u ++ [c])
      rw [if_neg (by simp)] at h1
      simp at h1 ⊢
      by_cases hu : u = []
      · simp [hu]; simp [hu] at h1; omega
      · simp [hu]; omega
end Go.Proofs.Ytjoedgkmpklhfaa
