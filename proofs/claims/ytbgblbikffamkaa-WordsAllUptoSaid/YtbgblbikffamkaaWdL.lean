/- Words of a command line on plain lists: splitting, joining, and the laws between them. It speaks of no code. -/
import Derived.Below
namespace Go.Proofs.Ytbgblbikffamkaa

/-- A hexadecimal digit's value; 16: it is none. -/
def hexW (c : UInt8) : Nat := if 48 ≤ c.toNat ∧ c.toNat ≤ 57 then c.toNat - 48 else if 97 ≤ c.toNat ∧ c.toNat ≤ 102 then c.toNat - 87 else 16
def digW (k : Nat) : UInt8 := if k < 10 then UInt8.ofNat (48 + k) else UInt8.ofNat (87 + k)
/-- What two digits stand for; 0: for nothing. -/
def hex2 (a b : UInt8) : UInt8 := if hexW a < 16 ∧ hexW b < 16 then UInt8.ofNat (16 * hexW a + hexW b) else 0
/-- What stands behind a backslash and an x. -/
def escX : List UInt8 → UInt8 × Nat
  | a :: b :: _ => if hex2 a b = 0 then (0, 0) else (hex2 a b, 3)
  | _ => (0, 0)
theorem escX_cons (a b : UInt8) (t : List UInt8) : escX (a :: b :: t) = if hex2 a b = 0 then (0, 0) else (hex2 a b, 3) := rfl
/-- What stands behind a backslash: the byte, how many bytes it takes; 0: it is none. -/
def escW : List UInt8 → UInt8 × Nat
  | [] => (0, 0)
  | c :: t =>
    if c = 92 ∨ c = 34 ∨ c = 39 then (c, 1) else if c = 110 then (10, 1) else if c = 116 then (9, 1) else if c = 115 then (32, 1)
    else if c = 120 then escX t else (0, 0)
theorem escW_cons (c : UInt8) (t : List UInt8) : escW (c :: t) = if c = 92 ∨ c = 34 ∨ c = 39 then (c, 1) else if c = 110 then (10, 1) else if c = 116 then (9, 1) else if c = 115 then (32, 1)
    else if c = 120 then escX t else (0, 0) := rfl
/-- May the byte not stand in a line? -/
def badW (c : UInt8) : Bool := (decide (c.toNat < 32) && !(c == 9)) || c == 127
def blankW (c : UInt8) : Bool := c == 32 || c == 9
/-- The byte that stands first, how many bytes it takes, and the error. -/
def readW (c : UInt8) (t : List UInt8) : UInt8 × Nat × Nat :=
  if badW c = true then (0, 0, 1) else if c = 92 then (if (escW t).2 = 0 then (0, 0, 13) else ((escW t).1, (escW t).2 + 1, 0)) else (c, 1, 0)
def endW (ws : List (List UInt8)) (cur : Option (List UInt8)) : List (List UInt8) := match cur with | none => ws | some w => ws ++ [w]
def takeW (c : UInt8) (esc : Bool) (st : (List (List UInt8) × Option (List UInt8) × UInt8)) : Option (List (List UInt8) × Option (List UInt8) × UInt8) :=
  if esc = false ∧ st.2.2 = 0 ∧ blankW c = true then some (endW st.1 st.2.1, none, 0) else if st.1.length = 32 then none
  else if esc = true then some (st.1, some (st.2.1.getD [] ++ [c]), st.2.2)
  else if st.2.2 ≠ 0 ∧ c = st.2.2 then some (st.1, some (st.2.1.getD []), 0)
  else if st.2.2 = 0 ∧ (c = 39 ∨ c = 34) then some (st.1, some (st.2.1.getD []), c)
  else some (st.1, some (st.2.1.getD [] ++ [c]), st.2.2)
/-- From the left to the end. -/
def machW : List UInt8 → (List (List UInt8) × Option (List UInt8) × UInt8) → List (List UInt8) × Nat
  | [], st => if st.2.2 = 0 then (endW st.1 st.2.1, 0) else ([], 13)
  | c :: t, st => if (readW c t).2.2 ≠ 0 then ([], (readW c t).2.2) else match takeW (readW c t).1 (decide (1 < (readW c t).2.1)) st with
    | none => ([], 2)
    | some st' => machW (t.drop ((readW c t).2.1 - 1)) st'
termination_by l => l.length
decreasing_by simp only [List.length_drop, List.length_cons]; omega
def splitW (l : List UInt8) : List (List UInt8) × Nat := machW l ([], none, 0)

/-- Is a word written as it is? -/
def plainW (c : UInt8) : Bool := decide (33 ≤ c.toNat) && decide (c.toNat ≤ 126) && !(c == 39) && !(c == 34) && !(c == 92)
def safeW (w : List UInt8) : Bool := match w with | [] => false | c :: _ => !(c == 45) && w.all plainW
def signW (c : UInt8) : List UInt8 := if c = 34 ∨ c = 92 then [92, c] else if 32 ≤ c.toNat ∧ c.toNat ≤ 126 then [c] else [92, 120, digW (c.toNat / 16), digW (c.toNat % 16)]
def quoW (w : List UInt8) : List UInt8 := 34 :: (w.flatMap signW ++ [34])
def textW (w : List UInt8) : List UInt8 := if safeW w = true then w else quoW w
/-- The words' text, a blank ahead of each but the first. -/
def rowW (l : List (List UInt8)) : List UInt8 := (l.flatMap fun w => 32 :: textW w).drop 1
def zeroW (l : List (List UInt8)) : Bool := l.any fun w => w.any fun c => c == 0
def joinW (l : List (List UInt8)) : List UInt8 := if 32 < l.length ∨ zeroW l = true then [] else rowW l

theorem byte_eq {a b : UInt8} : a = b ↔ a.toNat = b.toNat := UInt8.toNat_inj.symm
theorem byte_cases (c : UInt8) : c.toNat < 256 := c.toNat_lt
theorem hex2_dig : ∀ k : Fin 256, k.val ≠ 0 → hex2 (digW (k.val / 16)) (digW (k.val % 16)) = UInt8.ofNat k.val := by decide +kernel
theorem hex2_sign {c : UInt8} (h : c ≠ 0) : hex2 (digW (c.toNat / 16)) (digW (c.toNat % 16)) = c := by
  have h1 := hex2_dig ⟨c.toNat, byte_cases c⟩ (fun e => h (byte_eq.2 (by simpa using e)))
  rw [h1]; simp

theorem escX_app {t r : List UInt8} (h : (escX t).2 ≠ 0) : escX (t ++ r) = escX t := by
  match t, h with
  | [], h => exact absurd rfl h
  | [_], h => exact absurd rfl h
  | a :: b :: t, h => rfl
theorem escX_len (t : List UInt8) : (escX t).2 ≤ t.length + 1 := by
  match t with
  | [] => exact Nat.zero_le _
  | [_] => exact Nat.zero_le _
  | a :: b :: t =>
    rw [escX_cons]
    split
    · exact Nat.zero_le _
    · simp only [List.length_cons]; omega
theorem escX_byte (t : List UInt8) (h : (escX t).2 ≠ 0) : (escX t).1 ≠ 0 := by
  match t, h with
  | [], h => exact absurd rfl h
  | [_], h => exact absurd rfl h
  | a :: b :: t, h =>
    rw [escX_cons] at h ⊢
    split
    · rename_i h6; rw [if_pos h6] at h; exact absurd rfl h
    · assumption
theorem escW_app {t r : List UInt8} (h : (escW t).2 ≠ 0) : escW (t ++ r) = escW t := by
  cases t with
  | nil => exact absurd rfl h
  | cons c t =>
    rw [List.cons_append, escW_cons, escW_cons]
    rw [escW_cons] at h
    by_cases h1 : c = 92 ∨ c = 34 ∨ c = 39
    · rw [if_pos h1, if_pos h1]
    · rw [if_neg h1] at h
      rw [if_neg h1, if_neg h1]
      by_cases h2 : c = 110
      · rw [if_pos h2, if_pos h2]
      · rw [if_neg h2] at h
        rw [if_neg h2, if_neg h2]
        by_cases h3 : c = 116
        · rw [if_pos h3, if_pos h3]
        · rw [if_neg h3] at h
          rw [if_neg h3, if_neg h3]
          by_cases h4 : c = 115
          · rw [if_pos h4, if_pos h4]
          · rw [if_neg h4] at h
            rw [if_neg h4, if_neg h4]
            by_cases h5 : c = 120
            · rw [if_pos h5] at h
              rw [if_pos h5, if_pos h5, escX_app h]
            · rw [if_neg h5, if_neg h5]
theorem escW_len (t : List UInt8) : (escW t).2 ≤ t.length := by
  cases t with
  | nil => exact Nat.le_refl _
  | cons c t =>
    rw [escW_cons, List.length_cons]
    have := escX_len t
    repeat' split
    all_goals first | omega | (show (1 : Nat) ≤ _; omega) | exact Nat.zero_le _
theorem escW_byte (t : List UInt8) (h : (escW t).2 ≠ 0) : (escW t).1 ≠ 0 := by
  cases t with
  | nil => exact absurd rfl h
  | cons c t =>
    rw [escW_cons] at h ⊢
    by_cases h1 : c = 92 ∨ c = 34 ∨ c = 39
    · rw [if_pos h1]
      rcases h1 with h1 | h1 | h1 <;> rw [h1] <;> decide
    · rw [if_neg h1] at h ⊢
      by_cases h2 : c = 110
      · rw [if_pos h2]; decide
      · rw [if_neg h2] at h ⊢
        by_cases h3 : c = 116
        · rw [if_pos h3]; decide
        · rw [if_neg h3] at h ⊢
          by_cases h4 : c = 115
          · rw [if_pos h4]; decide
          · rw [if_neg h4] at h ⊢
            by_cases h5 : c = 120
            · rw [if_pos h5] at h ⊢; exact escX_byte t h
            · rw [if_neg h5] at h; exact absurd rfl h

theorem readW_app {c : UInt8} {t r : List UInt8} (h : (readW c t).2.2 = 0) : readW c (t ++ r) = readW c t := by
  unfold readW at h ⊢
  by_cases h1 : badW c = true
  · rw [if_pos h1] at h; exact absurd h (by decide)
  · rw [if_neg h1] at h
    rw [if_neg h1, if_neg h1]
    by_cases h2 : c = 92
    · rw [if_pos h2] at h
      rw [if_pos h2, if_pos h2]
      have h3 : (escW t).2 ≠ 0 := by
        intro e
        rw [if_pos e] at h
        exact absurd h (by decide)
      rw [escW_app h3]
    · rw [if_neg h2, if_neg h2]
theorem readW_len (c : UInt8) (t : List UInt8) : (readW c t).2.1 ≤ t.length + 1 := by
  unfold readW
  have := escW_len t
  repeat' split
  all_goals simp
  omega
theorem readW_byte {c : UInt8} {t : List UInt8} (h : (readW c t).2.2 = 0) : (readW c t).1 ≠ 0 := by
  unfold readW at h ⊢
  by_cases h1 : badW c = true
  · rw [if_pos h1] at h; exact absurd h (by decide)
  · rw [if_neg h1] at h ⊢
    by_cases h2 : c = 92
    · rw [if_pos h2] at h ⊢
      by_cases h3 : (escW t).2 = 0
      · rw [if_pos h3] at h; exact absurd h (by decide)
      · rw [if_neg h3]; exact escW_byte t h3
    · rw [if_neg h2]
      intro e
      subst e
      exact h1 rfl
theorem machW_nil (ws : List (List UInt8)) (cur : Option (List UInt8)) (q : UInt8) : machW [] (ws, cur, q) = if q = 0 then (endW ws cur, 0) else ([], 13) := by rw [machW]
theorem machW_cons (c : UInt8) (t : List UInt8) (st : (List (List UInt8) × Option (List UInt8) × UInt8)) : machW (c :: t) st = if (readW c t).2.2 ≠ 0 then ([], (readW c t).2.2) else match takeW (readW c t).1 (decide (1 < (readW c t).2.1)) st with
    | none => ([], 2)
    | some st' => machW (t.drop ((readW c t).2.1 - 1)) st' := by rw [machW]
/-- What may come of a line that is read to its end. -/
theorem machW_ind (P : List UInt8 → (List (List UInt8) × Option (List UInt8) × UInt8) → Prop) (hnil : ∀ ws cur, P [] (ws, cur, 0))
    (hcons : ∀ c t st st', (readW c t).2.2 = 0 → takeW (readW c t).1 (decide (1 < (readW c t).2.1)) st = some st' → (machW (t.drop ((readW c t).2.1 - 1)) st').2 = 0 → P (t.drop ((readW c t).2.1 - 1)) st' → P (c :: t) st) :
    ∀ (n : Nat) (l : List UInt8) (st : (List (List UInt8) × Option (List UInt8) × UInt8)), l.length ≤ n → (machW l st).2 = 0 → P l st := by
  intro n
  induction n with
  | zero =>
    intro l st hl h
    obtain rfl : l = [] := List.eq_nil_of_length_eq_zero (by omega)
    obtain ⟨ws, cur, q⟩ := st
    rw [machW_nil] at h
    split at h
    · rename_i hq; subst hq; exact hnil _ _
    · exact absurd h (by decide)
  | succ n ih =>
    intro l st hl h
    match l, hl, h with
    | [], _, h =>
      obtain ⟨ws, cur, q⟩ := st
      rw [machW_nil] at h
      split at h
      · rename_i hq; subst hq; exact hnil _ _
      · exact absurd h (by decide)
    | c :: t, hl, h =>
      rw [machW_cons] at h
      by_cases h1 : (readW c t).2.2 = 0
      · rw [if_neg (by simpa using h1)] at h
        cases h2 : takeW (readW c t).1 (decide (1 < (readW c t).2.1)) st with
        | none => rw [h2] at h; exact absurd (show (2 : Nat) = 0 from h) (by decide)
        | some st' =>
          rw [h2] at h
          exact hcons c t st st' h1 h2 h (ih _ _ (by simp only [List.length_drop, List.length_cons] at hl ⊢; omega) h)
      · rw [if_pos h1] at h
        exact absurd h h1
theorem machW_step {c : UInt8} {t : List UInt8} {st st' : (List (List UInt8) × Option (List UInt8) × UInt8)} (h1 : (readW c t).2.2 = 0) (h2 : takeW (readW c t).1 (decide (1 < (readW c t).2.1)) st = some st') : machW (c :: t) st = machW (t.drop ((readW c t).2.1 - 1)) st' := by
  rw [machW_cons, if_neg (by simpa using h1), h2]

theorem endW_none (ws : List (List UInt8)) : endW ws none = ws := rfl
/-- Two texts, a blank between. -/
theorem machW_app (b : List UInt8) (l : List UInt8) (st : (List (List UInt8) × Option (List UInt8) × UInt8)) (h : (machW l st).2 = 0) : machW (l ++ 32 :: b) st = machW b ((machW l st).1, none, 0) := by
  refine machW_ind (fun l st => machW (l ++ 32 :: b) st = machW b ((machW l st).1, none, 0)) ?_ ?_ l.length l st (Nat.le_refl _) h
  · intro ws cur
    rw [List.nil_append, machW_step (st' := (endW ws cur, none, 0)) (by rfl) (by rfl), machW_nil]
    rfl
  · intro c t st st' h1 h2 h3 ih
    have e := readW_app (r := 32 :: b) h1
    rw [List.cons_append, machW_step (st' := st') (by rw [e]; exact h1) (by rw [e]; exact h2), machW_step h1 h2, e, ← ih]
    have := readW_len c t
    rw [List.drop_append_of_le_length (by omega)]

def okW (st : (List (List UInt8) × Option (List UInt8) × UInt8)) : Prop := st.1.length ≤ 32 ∧ (st.2.1.isSome = true → st.1.length < 32)
theorem takeW_ok {c : UInt8} {e : Bool} {st st' : (List (List UInt8) × Option (List UInt8) × UInt8)} (h : takeW c e st = some st') (ho : okW st) : okW st' := by
  obtain ⟨ws, cur, q⟩ := st
  unfold okW at *
  simp only at ho
  unfold takeW at h
  dsimp only at h
  split at h
  · injection h with h; subst h
    cases cur with
    | none => exact ⟨ho.1, fun h => by cases h⟩
    | some w => simp only [endW, List.length_append, List.length_singleton]; exact ⟨ho.2 rfl, fun h => by cases h⟩
  · split at h
    · cases h
    · rename_i _ hl
      have : ws.length < 32 := by omega
      split at h
      · injection h with h; subst h; exact ⟨by simp only; omega, fun _ => by simp only; omega⟩
      · split at h
        · injection h with h; subst h; exact ⟨by simp only; omega, fun _ => by simp only; omega⟩
        · split at h <;> (injection h with h; subst h; exact ⟨by simp only; omega, fun _ => by simp only; omega⟩)
def nzW (w : List UInt8) : Prop := ∀ c ∈ w, c ≠ 0
def cleanW (st : (List (List UInt8) × Option (List UInt8) × UInt8)) : Prop := (∀ w ∈ st.1, nzW w) ∧ (∀ w, st.2.1 = some w → nzW w)
theorem endW_clean {ws : List (List UInt8)} {cur : Option (List UInt8)} (h1 : ∀ w ∈ ws, nzW w) (h2 : ∀ w, cur = some w → nzW w) : ∀ w ∈ endW ws cur, nzW w := by
  cases cur with
  | none => exact h1
  | some v =>
    intro w hw
    simp only [endW, List.mem_append, List.mem_singleton] at hw
    rcases hw with hw | rfl
    · exact h1 w hw
    · exact h2 _ rfl
theorem takeW_clean {c : UInt8} {e : Bool} {st st' : (List (List UInt8) × Option (List UInt8) × UInt8)} (hc : c ≠ 0) (h : takeW c e st = some st') (ho : cleanW st) : cleanW st' := by
  obtain ⟨ws, cur, q⟩ := st
  have hd : nzW (cur.getD []) := by
    cases cur with
    | none => intro c hc; cases hc
    | some w => exact ho.2 w rfl
  have hs : nzW (cur.getD [] ++ [c]) := by
    intro x hx
    simp only [List.mem_append, List.mem_singleton] at hx
    rcases hx with hx | rfl
    · exact hd x hx
    · exact hc
  unfold takeW at h
  dsimp only at h
  split at h
  · injection h with h; subst h; exact ⟨endW_clean ho.1 ho.2, fun w hw => by cases hw⟩
  · split at h
    · cases h
    · split at h
      · injection h with h; subst h; exact ⟨ho.1, fun w hw => by injection hw with hw; subst hw; exact hs⟩
      · split at h
        · injection h with h; subst h; exact ⟨ho.1, fun w hw => by injection hw with hw; subst hw; exact hd⟩
        · split at h
          · injection h with h; subst h; exact ⟨ho.1, fun w hw => by injection hw with hw; subst hw; exact hd⟩
          · injection h with h; subst h; exact ⟨ho.1, fun w hw => by injection hw with hw; subst hw; exact hs⟩
theorem machW_out (l : List UInt8) (st : (List (List UInt8) × Option (List UInt8) × UInt8)) (h : (machW l st).2 = 0) (ho : okW st) (hc : cleanW st) : (machW l st).1.length ≤ 32 ∧ ∀ w ∈ (machW l st).1, nzW w := by
  refine machW_ind (fun l st => okW st → cleanW st → (machW l st).1.length ≤ 32 ∧ ∀ w ∈ (machW l st).1, nzW w) ?_ ?_ l.length l st (Nat.le_refl _) h ho hc
  · intro ws cur ho hc
    rw [machW_nil, if_pos rfl]
    refine ⟨?_, endW_clean hc.1 hc.2⟩
    cases cur with
    | none => exact ho.1
    | some w => have := ho.2 rfl; simp only [endW, List.length_append, List.length_singleton] at *; omega
  · intro c t st st' h1 h2 h3 ih ho hc
    rw [machW_step h1 h2]
    exact ih (takeW_ok h2 ho) (takeW_clean (readW_byte h1) h2 hc)
theorem splitW_out {s : List UInt8} (h : (splitW s).2 = 0) : (splitW s).1.length ≤ 32 ∧ ∀ w ∈ (splitW s).1, nzW w :=
  machW_out s _ h ⟨by simp, fun h => by cases h⟩ ⟨fun w hw => by simp at hw, fun w hw => by cases hw⟩
theorem zeroW_false {l : List (List UInt8)} (h : ∀ w ∈ l, nzW w) : zeroW l = false := by
  unfold zeroW
  rw [List.any_eq_false]
  intro w hw
  rw [Bool.not_eq_true, List.any_eq_false]
  intro c hc
  simp only [beq_iff_eq]
  exact h w hw c hc
theorem nz_of_zeroW {l : List (List UInt8)} (h : zeroW l = false) : ∀ w ∈ l, nzW w := by
  intro w hw c hc
  unfold zeroW at h
  rw [List.any_eq_false] at h
  have h1 := h w hw
  rw [Bool.not_eq_true, List.any_eq_false] at h1
  have h2 := h1 c hc
  simpa using h2

/-- Words ahead of those that are read. -/
def aheadW (p : List (List UInt8)) (st : (List (List UInt8) × Option (List UInt8) × UInt8)) : (List (List UInt8) × Option (List UInt8) × UInt8) := (p ++ st.1, st.2.1, st.2.2)
theorem takeW_ahead {c : UInt8} {e : Bool} {st st' : (List (List UInt8) × Option (List UInt8) × UInt8)} (p : List (List UInt8)) (h : takeW c e st = some st') : takeW c e (aheadW p st) = some (aheadW p st') ∨
    (takeW c e (aheadW p st) = none ∧ p.length + st.1.length = 32 ∧ st'.1 = st.1 ∧ st'.2.1.isSome = true) := by
  obtain ⟨ws, cur, q⟩ := st
  unfold takeW at h ⊢
  unfold aheadW
  dsimp only at h ⊢
  by_cases h1 : e = false ∧ q = 0 ∧ blankW c = true
  · rw [if_pos h1] at h ⊢
    injection h with h; subst h
    left
    cases cur <;> simp [endW]
  · rw [if_neg h1] at h ⊢
    by_cases h2 : ws.length = 32
    · rw [if_pos h2] at h; cases h
    · rw [if_neg h2] at h
      by_cases h3 : (p ++ ws).length = 32
      · rw [if_pos h3]
        right
        rw [List.length_append] at h3
        refine ⟨rfl, h3, ?_⟩
        split at h
        · injection h with h; subst h; exact ⟨rfl, rfl⟩
        · split at h
          · injection h with h; subst h; exact ⟨rfl, rfl⟩
          · split at h <;> (injection h with h; subst h; exact ⟨rfl, rfl⟩)
      · rw [if_neg h3]
        left
        split at h
        · rename_i h4; injection h with h; subst h; rw [if_pos h4]
        · rename_i h4; rw [if_neg h4]
          split at h
          · rename_i h5; injection h with h; subst h; rw [if_pos h5]
          · rename_i h5; rw [if_neg h5]
            split at h
            · rename_i h6; injection h with h; subst h; rw [if_pos h6]
            · rename_i h6; injection h with h; subst h; rw [if_neg h6]
theorem takeW_grows {c : UInt8} {e : Bool} {st st' : (List (List UInt8) × Option (List UInt8) × UInt8)} (h : takeW c e st = some st') : st.1.length + (if st.2.1.isSome = true then 1 else 0) ≤ st'.1.length + (if st'.2.1.isSome = true then 1 else 0) := by
  obtain ⟨ws, cur, q⟩ := st
  unfold takeW at h
  dsimp only at h
  split at h
  · injection h with h; subst h
    cases cur <;> simp [endW]
  · split at h
    · cases h
    · split at h
      · injection h with h; subst h; simp; split <;> omega
      · split at h
        · injection h with h; subst h; simp; split <;> omega
        · split at h <;> (injection h with h; subst h; simp; split <;> omega)
theorem machW_grows (l : List UInt8) (st : (List (List UInt8) × Option (List UInt8) × UInt8)) (h : (machW l st).2 = 0) : st.1.length + (if st.2.1.isSome = true then 1 else 0) ≤ (machW l st).1.length := by
  refine machW_ind (fun l st => st.1.length + (if st.2.1.isSome = true then 1 else 0) ≤ (machW l st).1.length) ?_ ?_ l.length l st (Nat.le_refl _) h
  · intro ws cur
    rw [machW_nil, if_pos rfl]
    cases cur <;> simp [endW]
  · intro c t st st' h1 h2 h3 ih
    rw [machW_step h1 h2]
    exact Nat.le_trans (takeW_grows h2) ih
theorem machW_ahead (p : List (List UInt8)) (l : List UInt8) (st : (List (List UInt8) × Option (List UInt8) × UInt8)) (h : (machW l st).2 = 0) (ho : p.length + st.1.length ≤ 32) (ho2 : st.2.1.isSome = true → p.length + st.1.length < 32) :
    machW l (aheadW p st) = if p.length + (machW l st).1.length ≤ 32 then (p ++ (machW l st).1, 0) else ([], 2) := by
  refine machW_ind (fun l st => p.length + st.1.length ≤ 32 → (st.2.1.isSome = true → p.length + st.1.length < 32) → machW l (aheadW p st) = if p.length + (machW l st).1.length ≤ 32 then (p ++ (machW l st).1, 0) else ([], 2)) ?_ ?_ l.length l st (Nat.le_refl _) h ho ho2
  · intro ws cur ho ho2
    unfold aheadW
    dsimp only at ho ho2 ⊢
    rw [machW_nil, machW_nil, if_pos rfl]
    cases cur with
    | none => simp [endW, ho]
    | some w =>
      have := ho2 rfl
      rw [if_pos rfl, if_pos (by simp only [endW, List.length_append, List.length_singleton]; omega)]
      simp [endW]
  · intro c t st st' h1 h2 h3 ih ho ho2
    rw [machW_step h1 h2]
    rcases takeW_ahead p h2 with h4 | ⟨h4, h5, h6, h7⟩
    · rw [machW_step h1 h4]
      refine ih ?_ ?_
      · have ha := takeW_ok (st := aheadW p st) (st' := aheadW p st') h4 ⟨by simp only [aheadW, List.length_append]; omega, fun h => by simp only [aheadW, List.length_append] at h ⊢; exact ho2 h⟩
        have := ha.1
        simpa [aheadW] using this
      · have ha := takeW_ok (st := aheadW p st) (st' := aheadW p st') h4 ⟨by simp only [aheadW, List.length_append]; omega, fun h => by simp only [aheadW, List.length_append] at h ⊢; exact ho2 h⟩
        have := ha.2
        simpa [aheadW] using this
    · rw [machW_cons, if_neg (by simpa using h1), h4]
      have hg := machW_grows _ st' h3
      rw [h6, h7, if_pos rfl] at hg
      rw [if_neg (by omega)]
/-- Two texts' words, a blank between. -/
theorem split_both {a b : List UInt8} (ha : (splitW a).2 = 0) (hb : (splitW b).2 = 0) : splitW (a ++ 32 :: b) = if (splitW a).1.length + (splitW b).1.length ≤ 32 then ((splitW a).1 ++ (splitW b).1, 0) else ([], 2) := by
  have h1 := machW_app b a ([], none, 0) ha
  have h2 := machW_ahead (splitW a).1 b ([], none, 0) hb (by have := (splitW_out ha).1; simpa using this) (fun h => by cases h)
  unfold splitW at *
  rw [h1, ← h2]
  simp [aheadW]

/-- One byte of a word that is written as it is, or between quotes. -/
theorem mach_plain {c : UInt8} {t : List UInt8} {ws : List (List UInt8)} {cur : Option (List UInt8)} (hc : plainW c = true) (hl : ws.length < 32) : machW (c :: t) (ws, cur, 0) = machW t (ws, some (cur.getD [] ++ [c]), 0) := by
  unfold plainW at hc
  simp only [Bool.and_eq_true, decide_eq_true_eq, Bool.not_eq_true', beq_eq_false_iff_ne, ne_eq] at hc
  obtain ⟨⟨⟨⟨h1, h2⟩, h3⟩, h4⟩, h5⟩ := hc
  have hr : readW c t = (c, 1, 0) := by
    unfold readW badW
    rw [if_neg, if_neg h5]
    simp only [Bool.or_eq_true, Bool.and_eq_true, decide_eq_true_eq, Bool.not_eq_true', beq_eq_false_iff_ne, ne_eq, beq_iff_eq, not_or]
    refine ⟨fun h => by omega, fun h => ?_⟩
    rw [h] at h2
    exact absurd h2 (by decide)
  have hk : takeW c (decide (1 < 1)) (ws, cur, 0) = some (ws, some (cur.getD [] ++ [c]), 0) := by
    unfold takeW
    dsimp only
    rw [if_neg, if_neg (by omega), if_neg (by simp), if_neg (by simp), if_neg]
    · rintro ⟨_, h | h⟩
      · exact h3 h
      · exact h4 h
    · rintro ⟨_, _, h⟩
      unfold blankW at h
      simp only [Bool.or_eq_true, beq_iff_eq] at h
      rcases h with h | h <;> rw [h] at h1 <;> exact absurd h1 (by decide)
  rw [machW_step (st' := (ws, some (cur.getD [] ++ [c]), 0)) (by rw [hr]) (by rw [hr]; exact hk), hr]
  rfl
theorem mach_plains (w r : List UInt8) (ws : List (List UInt8)) (cur : List UInt8) (hw : w.all plainW = true) (hl : ws.length < 32) : machW (w ++ r) (ws, some cur, 0) = machW r (ws, some (cur ++ w), 0) := by
  induction w generalizing cur with
  | nil => simp
  | cons c w ih =>
    rw [List.all_cons, Bool.and_eq_true] at hw
    rw [List.cons_append, mach_plain hw.1 hl, ih _ hw.2]
    simp
theorem mach_signs (w r : List UInt8) (ws : List (List UInt8)) (cur : List UInt8) (hw : nzW w) (hl : ws.length < 32) : machW (w.flatMap signW ++ r) (ws, some cur, 34) = machW r (ws, some (cur ++ w), 34) := by
  induction w generalizing cur with
  | nil => simp
  | cons c w ih =>
    have hc0 : c ≠ 0 := hw c (by simp)
    have hone : ∀ t, machW (signW c ++ t) (ws, some cur, 34) = machW t (ws, some (cur ++ [c]), 34) := by
      intro t
      unfold signW
      by_cases h1 : c = 34 ∨ c = 92
      · rw [if_pos h1]
        show machW (92 :: c :: t) _ = _
        have he : escW (c :: t) = (c, 1) := by
          rw [escW_cons, if_pos]
          rcases h1 with h1 | h1 <;> simp [h1]
        have hr : readW 92 (c :: t) = (c, 2, 0) := by
          unfold readW
          rw [if_neg (by decide), if_pos rfl, he]
          rfl
        rw [machW_step (st' := (ws, some (cur ++ [c]), 34)) (by rw [hr]) (by rw [hr]; unfold takeW; dsimp only; rw [if_neg (by simp), if_neg (by omega), if_pos (by simp)]; rfl), hr]
        rfl
      · rw [if_neg h1]
        rw [not_or] at h1
        by_cases h2 : 32 ≤ c.toNat ∧ c.toNat ≤ 126
        · rw [if_pos h2]
          show machW (c :: t) _ = _
          have hr : readW c t = (c, 1, 0) := by
            unfold readW badW
            rw [if_neg, if_neg h1.2]
            simp only [Bool.or_eq_true, Bool.and_eq_true, decide_eq_true_eq, Bool.not_eq_true', beq_eq_false_iff_ne, ne_eq, beq_iff_eq, not_or]
            refine ⟨fun h => by omega, fun h => ?_⟩
            rw [h] at h2
            exact absurd h2.2 (by decide)
          rw [machW_step (st' := (ws, some (cur ++ [c]), 34)) (by rw [hr]) (by
            rw [hr]; unfold takeW; dsimp only
            rw [if_neg (by simp), if_neg (by omega), if_neg (by simp), if_neg (by rintro ⟨_, h⟩; exact h1.1 h), if_neg (by simp)]
            rfl), hr]
          rfl
        · rw [if_neg h2]
          show machW (92 :: 120 :: digW _ :: digW _ :: t) _ = _
          have hx := hex2_sign hc0
          have he : escW (120 :: digW (c.toNat / 16) :: digW (c.toNat % 16) :: t) = (c, 3) := by
            rw [escW_cons, if_neg (by decide), if_neg (by decide), if_neg (by decide), if_neg (by decide), if_pos rfl]
            rw [escX_cons, hx, if_neg hc0]
          have hr : readW 92 (120 :: digW (c.toNat / 16) :: digW (c.toNat % 16) :: t) = (c, 4, 0) := by
            unfold readW
            rw [if_neg (by decide), if_pos rfl, he]
            rfl
          rw [machW_step (st' := (ws, some (cur ++ [c]), 34)) (by rw [hr]) (by rw [hr]; unfold takeW; dsimp only; rw [if_neg (by simp), if_neg (by omega), if_pos (by simp)]; rfl), hr]
          rfl
    rw [List.flatMap_cons, List.append_assoc, hone, ih _ (fun x hx => hw x (by simp [hx]))]
    simp
/-- A quote that is opened, and one that is closed. -/
theorem mach_open {q : UInt8} (t : List UInt8) (ws : List (List UInt8)) (cur : Option (List UInt8)) (hq : q = 39 ∨ q = 34) (hl : ws.length < 32) : machW (q :: t) (ws, cur, 0) = machW t (ws, some (cur.getD []), q) := by
  have hr : readW q t = (q, 1, 0) := by rcases hq with rfl | rfl <;> rfl
  rw [machW_step (st' := (ws, some (cur.getD []), q)) (by rw [hr]) (by
    rw [hr]; unfold takeW; dsimp only
    rw [if_neg, if_neg (by omega), if_neg (by simp), if_neg (by simp), if_pos ⟨rfl, hq⟩]
    rintro ⟨_, _, h⟩
    rcases hq with rfl | rfl <;> exact absurd h (by decide)), hr]
  rfl
theorem mach_shut {q : UInt8} (t : List UInt8) (ws : List (List UInt8)) (cur : Option (List UInt8)) (hq : q = 39 ∨ q = 34) (hl : ws.length < 32) : machW (q :: t) (ws, cur, q) = machW t (ws, some (cur.getD []), 0) := by
  have hr : readW q t = (q, 1, 0) := by rcases hq with rfl | rfl <;> rfl
  have hq0 : q ≠ 0 := by rcases hq with rfl | rfl <;> decide
  rw [machW_step (st' := (ws, some (cur.getD []), 0)) (by rw [hr]) (by
    rw [hr]; unfold takeW; dsimp only
    rw [if_neg (fun h => hq0 h.2.1), if_neg (by omega), if_neg (by simp), if_pos ⟨hq0, rfl⟩]), hr]
  rfl
theorem mach_text (w r : List UInt8) (ws : List (List UInt8)) (hw : nzW w) (hl : ws.length < 32) : machW (textW w ++ r) (ws, none, 0) = machW r (ws, some w, 0) := by
  unfold textW
  by_cases h : safeW w = true
  · rw [if_pos h]
    match w, h with
    | c :: w, h =>
      unfold safeW at h
      rw [Bool.and_eq_true, List.all_cons, Bool.and_eq_true] at h
      rw [List.cons_append, mach_plain h.2.1 hl, mach_plains _ _ _ _ h.2.2 hl]
      simp
  · rw [if_neg h]
    unfold quoW
    rw [List.cons_append, mach_open _ _ _ (.inr rfl) hl, List.append_assoc, mach_signs _ _ _ _ hw hl, List.singleton_append, mach_shut _ _ _ (.inr rfl) hl]
    simp
theorem mach_blank (t : List UInt8) (ws : List (List UInt8)) (cur : Option (List UInt8)) : machW (32 :: t) (ws, cur, 0) = machW t (endW ws cur, none, 0) :=
  machW_step (c := 32) (t := t) (st := (ws, cur, 0)) (st' := (endW ws cur, none, 0)) rfl rfl
theorem mach_rest (l : List (List UInt8)) (ws : List (List UInt8)) (w : List UInt8) (hw : ∀ w ∈ l, nzW w) (hl : ws.length + l.length < 32) :
    machW (l.flatMap fun w => 32 :: textW w) (ws, some w, 0) = (ws ++ w :: l, 0) := by
  induction l generalizing ws w with
  | nil => rw [List.flatMap_nil, machW_nil, if_pos rfl]; rfl
  | cons v l ih =>
    rw [List.length_cons] at hl
    rw [List.flatMap_cons, List.cons_append, mach_blank, mach_text _ _ _ (hw v (by simp)) (by simp only [endW, List.length_append, List.length_singleton]; omega)]
    rw [ih _ _ (fun x hx => hw x (by simp [hx])) (by simp only [endW, List.length_append, List.length_singleton]; omega)]
    simp [endW]
/-- What is written is read as it was. -/
theorem split_row {l : List (List UInt8)} (hw : ∀ w ∈ l, nzW w) (hl : l.length ≤ 32) : splitW (rowW l) = (l, 0) := by
  unfold splitW rowW
  cases l with
  | nil => rw [List.flatMap_nil, List.drop_nil, machW_nil, if_pos rfl]; rfl
  | cons w l =>
    rw [List.length_cons] at hl
    rw [List.flatMap_cons, List.cons_append, List.drop_succ_cons, List.drop_zero, mach_text _ _ _ (hw w (by simp)) (by simp), mach_rest _ _ _ (fun x hx => hw x (by simp [hx])) (by simp only [List.length_nil]; omega)]
    simp
theorem split_join {l : List (List UInt8)} (hz : zeroW l = false) (hl : l.length ≤ 32) : splitW (joinW l) = (l, 0) := by
  unfold joinW
  rw [if_neg (by rw [hz]; simp; omega)]
  exact split_row (nz_of_zeroW hz) hl
theorem split_back {s : List UInt8} (h : (splitW s).2 = 0) : splitW (joinW (splitW s).1) = ((splitW s).1, 0) ∧ (splitW s).1.length ≤ 32 :=
  ⟨split_join (zeroW_false (splitW_out h).2) (splitW_out h).1, (splitW_out h).1⟩
theorem machW_err (n : Nat) : ∀ (l : List UInt8) (st : (List (List UInt8) × Option (List UInt8) × UInt8)), l.length ≤ n → (machW l st).2 ≠ 0 → (machW l st).1 = [] ∧ ((machW l st).2 = 1 ∨ (machW l st).2 = 13 ∨ (machW l st).2 = 2) := by
  induction n with
  | zero =>
    intro l st hl h
    obtain rfl : l = [] := List.eq_nil_of_length_eq_zero (by omega)
    obtain ⟨ws, cur, q⟩ := st
    rw [machW_nil] at h ⊢
    split at h
    · exact absurd rfl h
    · rename_i hq; rw [if_neg hq]; exact ⟨rfl, .inr (.inl rfl)⟩
  | succ n ih =>
    intro l st hl h
    match l, hl, h with
    | [], _, h =>
      obtain ⟨ws, cur, q⟩ := st
      rw [machW_nil] at h ⊢
      split at h
      · exact absurd rfl h
      · rename_i hq; rw [if_neg hq]; exact ⟨rfl, .inr (.inl rfl)⟩
    | c :: t, hl, h =>
      rw [machW_cons] at h ⊢
      by_cases h1 : (readW c t).2.2 = 0
      · rw [if_neg (by simpa using h1)] at h ⊢
        cases h2 : takeW (readW c t).1 (decide (1 < (readW c t).2.1)) st with
        | none => exact ⟨rfl, .inr (.inr rfl)⟩
        | some st' =>
          rw [h2] at h
          exact ih _ _ (by simp only [List.length_drop, List.length_cons] at hl ⊢; omega) h
      · rw [if_pos h1]
        refine ⟨rfl, ?_⟩
        show (readW c t).2.2 = 1 ∨ (readW c t).2.2 = 13 ∨ _
        unfold readW at h1 ⊢
        by_cases b1 : badW c = true
        · rw [if_pos b1]; exact .inl rfl
        · rw [if_neg b1] at h1 ⊢
          by_cases b2 : c = 92
          · rw [if_pos b2] at h1 ⊢
            by_cases b3 : (escW t).2 = 0
            · rw [if_pos b3]; exact .inr (.inl rfl)
            · rw [if_neg b3] at h1; exact absurd rfl h1
          · rw [if_neg b2] at h1; exact absurd rfl h1
theorem split_err {s : List UInt8} (h : (splitW s).2 ≠ 0) : (splitW s).1 = [] ∧ ((splitW s).2 = 1 ∨ (splitW s).2 = 13 ∨ (splitW s).2 = 2) := machW_err _ s _ (Nat.le_refl _) h

/-- Between two signs: clean bytes. -/
def tidyW (q c : UInt8) : Bool := !badW c && !(c == q) && !(c == 92)
theorem mach_tidy {q : UInt8} (w r : List UInt8) (ws : List (List UInt8)) (cur : List UInt8) (hq : q = 39 ∨ q = 34) (hw : w.all (tidyW q) = true) (hl : ws.length < 32) : machW (w ++ r) (ws, some cur, q) = machW r (ws, some (cur ++ w), q) := by
  have hq0 : q ≠ 0 := by rcases hq with rfl | rfl <;> decide
  induction w generalizing cur with
  | nil => simp
  | cons c w ih =>
    rw [List.all_cons, Bool.and_eq_true] at hw
    have h := hw.1
    unfold tidyW at h
    simp only [Bool.and_eq_true, Bool.not_eq_true', beq_eq_false_iff_ne, ne_eq] at h
    obtain ⟨⟨h1, h2⟩, h3⟩ := h
    have hr : ∀ t, readW c t = (c, 1, 0) := by
      intro t
      unfold readW
      rw [if_neg (by rw [h1]; decide), if_neg h3]
    rw [List.cons_append, machW_step (st' := (ws, some (cur ++ [c]), q)) (by rw [hr]) (by
      rw [hr]; unfold takeW; dsimp only
      rw [if_neg (fun h => hq0 h.2.1), if_neg (by omega), if_neg (by simp), if_neg (fun h => h2 h.2), if_neg (fun h => hq0 h.1)]
      rfl), hr]
    show machW (w ++ r) _ = _
    rw [ih _ hw.2]
    simp
theorem split_quote {q : UInt8} {s : List UInt8} (hq : q = 39 ∨ q = 34) (hs : s.all (tidyW q) = true) : splitW (q :: (s ++ [q])) = ([s], 0) ∧ splitW (120 :: (q :: (s ++ [q]) ++ [121])) = ([120 :: (s ++ [121])], 0) := by
  constructor
  · unfold splitW
    rw [mach_open _ _ _ hq (by simp), mach_tidy _ _ _ _ hq hs (by simp), mach_shut _ _ _ hq (by simp), machW_nil, if_pos rfl]
    simp [endW]
  · unfold splitW
    rw [mach_plain (c := 120) (by rfl) (by simp), List.cons_append, mach_open _ _ _ hq (by simp), List.append_assoc, mach_tidy _ _ _ _ hq hs (by simp), List.singleton_append, mach_shut _ _ _ hq (by simp), mach_plain (c := 121) (by rfl) (by simp), machW_nil, if_pos rfl]
    simp [endW]
/-- The longest word that is under way from here on. -/
def topW : List UInt8 → (List (List UInt8) × Option (List UInt8) × UInt8) → Nat
  | [], st => (st.2.1.getD []).length
  | c :: t, st => max (st.2.1.getD []).length (if (readW c t).2.2 ≠ 0 then 0 else match takeW (readW c t).1 (decide (1 < (readW c t).2.1)) st with
    | none => 0
    | some st' => topW (t.drop ((readW c t).2.1 - 1)) st')
termination_by l => l.length
decreasing_by simp only [List.length_drop, List.length_cons]; omega
theorem topW_nil (st : (List (List UInt8) × Option (List UInt8) × UInt8)) : topW [] st = (st.2.1.getD []).length := by rw [topW]
theorem topW_cons (c : UInt8) (t : List UInt8) (st : (List (List UInt8) × Option (List UInt8) × UInt8)) : topW (c :: t) st = max (st.2.1.getD []).length (if (readW c t).2.2 ≠ 0 then 0 else match takeW (readW c t).1 (decide (1 < (readW c t).2.1)) st with
    | none => 0
    | some st' => topW (t.drop ((readW c t).2.1 - 1)) st') := by rw [topW]
theorem topW_now (l : List UInt8) (st : (List (List UInt8) × Option (List UInt8) × UInt8)) : (st.2.1.getD []).length ≤ topW l st := by
  cases l with
  | nil => rw [topW_nil]; exact Nat.le_refl _
  | cons c t => rw [topW_cons]; exact Nat.le_max_left _ _
theorem topW_some {c : UInt8} {t : List UInt8} {st st' : (List (List UInt8) × Option (List UInt8) × UInt8)} (h1 : (readW c t).2.2 = 0) (h2 : takeW (readW c t).1 (decide (1 < (readW c t).2.1)) st = some st') : topW (c :: t) st = max (st.2.1.getD []).length (topW (t.drop ((readW c t).2.1 - 1)) st') := by
  rw [topW_cons, if_neg (by simpa using h1), h2]
theorem topW_step {c : UInt8} {t : List UInt8} {st st' : (List (List UInt8) × Option (List UInt8) × UInt8)} (h1 : (readW c t).2.2 = 0) (h2 : takeW (readW c t).1 (decide (1 < (readW c t).2.1)) st = some st') : topW (t.drop ((readW c t).2.1 - 1)) st' ≤ topW (c :: t) st := by
  rw [topW_some h1 h2]
  exact Nat.le_max_right _ _
theorem takeW_word {c : UInt8} {e : Bool} {st st' : (List (List UInt8) × Option (List UInt8) × UInt8)} (h : takeW c e st = some st') : (st'.2.1.getD []).length ≤ (st.2.1.getD []).length + 1 := by
  obtain ⟨ws, cur, q⟩ := st
  unfold takeW at h
  dsimp only at h
  split at h
  · injection h with h; subst h; simp
  · split at h
    · cases h
    · split at h
      · injection h with h; subst h; simp
      · split at h
        · injection h with h; subst h; simp
        · split at h <;> (injection h with h; subst h; simp)
theorem topW_le (n : Nat) : ∀ (l : List UInt8) (st : (List (List UInt8) × Option (List UInt8) × UInt8)), l.length ≤ n → topW l st ≤ (st.2.1.getD []).length + l.length := by
  induction n with
  | zero =>
    intro l st hl
    obtain rfl : l = [] := List.eq_nil_of_length_eq_zero (by omega)
    rw [topW_nil]; omega
  | succ n ih =>
    intro l st hl
    match l, hl with
    | [], _ => rw [topW_nil]; omega
    | c :: t, hl =>
      rw [topW_cons]
      refine Nat.max_le.2 ⟨by omega, ?_⟩
      split
      · exact Nat.zero_le _
      · split
        · exact Nat.zero_le _
        · rename_i st' h2
          have h3 := takeW_word h2
          have h4 := ih (t.drop ((readW c t).2.1 - 1)) st' (by simp only [List.length_drop, List.length_cons] at hl ⊢; omega)
          simp only [List.length_drop, List.length_cons] at h4 ⊢
          omega
theorem topW_ahead (p : List (List UInt8)) (l : List UInt8) (st : (List (List UInt8) × Option (List UInt8) × UInt8)) (h : (machW l st).2 = 0) : topW l (aheadW p st) ≤ topW l st := by
  refine machW_ind (fun l st => topW l (aheadW p st) ≤ topW l st) ?_ ?_ l.length l st (Nat.le_refl _) h
  · intro ws cur
    rw [topW_nil, topW_nil]; exact Nat.le_refl _
  · intro c t st st' h1 h2 _ ih
    rcases takeW_ahead p h2 with h4 | ⟨h4, _⟩
    · rw [topW_some h1 h4, topW_some h1 h2]
      refine Nat.max_le.2 ⟨Nat.le_max_left _ _, Nat.le_trans ih (Nat.le_max_right _ _)⟩
    · rw [topW_cons, if_neg (by simpa using h1), h4]
      refine Nat.max_le.2 ⟨topW_now _ st, Nat.zero_le _⟩
theorem topW_app (b : List UInt8) (l : List UInt8) (st : (List (List UInt8) × Option (List UInt8) × UInt8)) (h : (machW l st).2 = 0) : topW (l ++ 32 :: b) st ≤ max (topW l st) (topW b ((machW l st).1, none, 0)) := by
  refine machW_ind (fun l st => topW (l ++ 32 :: b) st ≤ max (topW l st) (topW b ((machW l st).1, none, 0))) ?_ ?_ l.length l st (Nat.le_refl _) h
  · intro ws cur
    rw [List.nil_append, topW_some (st' := (endW ws cur, none, 0)) (by rfl) (by rfl), topW_nil, machW_nil]
    exact Nat.le_refl _
  · intro c t st st' h1 h2 h3 ih
    have e := readW_app (r := 32 :: b) h1
    rw [List.cons_append, topW_some (st' := st') (by rw [e]; exact h1) (by rw [e]; exact h2), topW_some h1 h2, machW_step h1 h2, e]
    have := readW_len c t
    rw [List.drop_append_of_le_length (by omega)]
    refine Nat.max_le.2 ⟨by omega, Nat.le_trans ih (by omega)⟩
/-- No word of a line is longer than the line; of two lines' words none is longer than the longer one. -/
def topS (l : List UInt8) : Nat := topW l ([], none, 0)
theorem topS_le (l : List UInt8) : topS l ≤ l.length := by
  have := topW_le _ l ([], none, 0) (Nat.le_refl _)
  unfold topS
  simpa using this
theorem topS_both {a b : List UInt8} (ha : (splitW a).2 = 0) (hb : (splitW b).2 = 0) : topS (a ++ 32 :: b) ≤ max a.length b.length := by
  have h1 := topW_app b a ([], none, 0) ha
  have h2 := topW_ahead (splitW a).1 b ([], none, 0) hb
  have h3 := topS_le a
  have h4 := topS_le b
  unfold topS at *
  have e : aheadW (splitW a).1 ([], none, 0) = ((machW a ([], none, 0)).1, none, 0) := by simp [aheadW, splitW]
  rw [e] at h2
  omega
/-- One step from the left. -/
theorem mach_at {l : List UInt8} {c : UInt8} {t : List UInt8} (hl : l = c :: t) (st : (List (List UInt8) × Option (List UInt8) × UInt8)) : ((readW c t).2.2 ≠ 0 → machW l st = ([], (readW c t).2.2)) ∧ ((readW c t).2.2 = 0 → takeW (readW c t).1 (decide (1 < (readW c t).2.1)) st = none → machW l st = ([], 2)) ∧
    ∀ st', (readW c t).2.2 = 0 → takeW (readW c t).1 (decide (1 < (readW c t).2.1)) st = some st' → machW l st = machW (t.drop ((readW c t).2.1 - 1)) st' ∧ topW (t.drop ((readW c t).2.1 - 1)) st' ≤ topW l st := by
  subst hl
  refine ⟨fun h => ?_, fun h h2 => ?_, fun st' h h2 => ⟨machW_step h h2, topW_step h h2⟩⟩
  · rw [machW_cons, if_pos h]
  · rw [machW_cons, if_neg (by simpa using h), h2]
theorem readW_pos {c : UInt8} {t : List UInt8} (h : (readW c t).2.2 = 0) : 1 ≤ (readW c t).2.1 := by
  unfold readW at h ⊢
  by_cases b1 : badW c = true
  · rw [if_pos b1] at h; exact absurd h (by simp)
  · rw [if_neg b1] at h ⊢
    by_cases b2 : c = 92
    · rw [if_pos b2] at h ⊢
      by_cases b3 : (escW t).2 = 0
      · rw [if_pos b3] at h; exact absurd h (by simp)
      · rw [if_neg b3]; show 1 ≤ (escW t).2 + 1; omega
    · rw [if_neg b2]; exact Nat.le_refl _
end Go.Proofs.Ytbgblbikffamkaa
