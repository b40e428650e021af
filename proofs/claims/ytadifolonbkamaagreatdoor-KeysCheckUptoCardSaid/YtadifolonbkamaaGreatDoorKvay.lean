/- Words of a command line on plain lists: splitting, joining, and the laws between them. It speaks of no code. -/
import Derived.Below
namespace Go.Proofs.YtadifolonbkamaaGreatDoor.Wd
def hexW (c : UInt8) : Nat := if 48 ≤ c.toNat ∧ c.toNat ≤ 57 then c.toNat - 48 else if 97 ≤ c.toNat ∧ c.toNat ≤ 102 then c.toNat - 87 else 16
def digW (k : Nat) : UInt8 := if k < 10 then UInt8.ofNat (48 + k) else UInt8.ofNat (87 + k)
def hex2 (a b : UInt8) : UInt8 := if hexW a < 16 ∧ hexW b < 16 then UInt8.ofNat (16 * hexW a + hexW b) else 0
def escX : List UInt8 → UInt8 × Nat
  | a :: b :: _ => if hex2 a b = 0 then (0, 0) else (hex2 a b, 3)
  | _ => (0, 0)
theorem escX_cons (a b : UInt8) (t : List UInt8) : escX (a :: b :: t) = if hex2 a b = 0 then (0, 0) else (hex2 a b, 3) := rfl
def escW : List UInt8 → UInt8 × Nat
  | [] => (0, 0)
  | c :: t =>
    if c = 92 ∨ c = 34 ∨ c = 39 then (c, 1) else if c = 110 then (10, 1) else if c = 116 then (9, 1) else if c = 115 then (32, 1)
    else if c = 120 then escX t else (0, 0)
theorem escW_cons (c : UInt8) (t : List UInt8) : escW (c :: t) = if c = 92 ∨ c = 34 ∨ c = 39 then (c, 1) else if c = 110 then (10, 1) else if c = 116 then (9, 1) else if c = 115 then (32, 1)
    else if c = 120 then escX t else (0, 0) := rfl
def badW (c : UInt8) : Bool := (decide (c.toNat < 32) && !(c == 9)) || c == 127
def blankW (c : UInt8) : Bool := c == 32 || c == 9
def readW (c : UInt8) (t : List UInt8) : UInt8 × Nat × Nat :=
  if badW c = true then (0, 0, 1) else if c = 92 then (if (escW t).2 = 0 then (0, 0, 13) else ((escW t).1, (escW t).2 + 1, 0)) else (c, 1, 0)
def endW (ws : List (List UInt8)) (cur : Option (List UInt8)) : List (List UInt8) := match cur with | none => ws | some w => ws ++ [w]
def takeW (c : UInt8) (esc : Bool) (st : (List (List UInt8) × Option (List UInt8) × UInt8)) : Option (List (List UInt8) × Option (List UInt8) × UInt8) :=
  if esc = false ∧ st.2.2 = 0 ∧ blankW c = true then some (endW st.1 st.2.1, none, 0) else if st.1.length = 32 then none
  else if esc = true then some (st.1, some (st.2.1.getD [] ++ [c]), st.2.2)
  else if st.2.2 ≠ 0 ∧ c = st.2.2 then some (st.1, some (st.2.1.getD []), 0)
  else if st.2.2 = 0 ∧ (c = 39 ∨ c = 34) then some (st.1, some (st.2.1.getD []), c)
  else some (st.1, some (st.2.1.getD [] ++ [c]), st.2.2)
def machW : List UInt8 → (List (List UInt8) × Option (List UInt8) × UInt8) → List (List UInt8) × Nat
  | [], st => if st.2.2 = 0 then (endW st.1 st.2.1, 0) else ([], 13)
  | c :: t, st => if (readW c t).2.2 ≠ 0 then ([], (readW c t).2.2) else match takeW (readW c t).1 (decide (1 < (readW c t).2.1)) st with
    | none => ([], 2)
    | some st' => machW (t.drop ((readW c t).2.1 - 1)) st'
termination_by l => l.length
decreasing_by simp only [List.length_drop, List.length_cons]; omega
def splitW (l : List UInt8) : List (List UInt8) × Nat := machW l ([], none, 0)
def plainW (c : UInt8) : Bool := decide (33 ≤ c.toNat) && decide (c.toNat ≤ 126) && !(c == 39) && !(c == 34) && !(c == 92)
def safeW (w : List UInt8) : Bool := match w with | [] => false | c :: _ => !(c == 45) && w.all plainW
def signW (c : UInt8) : List UInt8 := if c = 34 ∨ c = 92 then [92, c] else if 32 ≤ c.toNat ∧ c.toNat ≤ 126 then [c] else [92, 120, digW (c.toNat / 16), digW (c.toNat % 16)]
def quoW (w : List UInt8) : List UInt8 := 34 :: (w.flatMap signW ++ [34])
def textW (w : List UInt8) : List UInt8 := if safeW w = true then w else quoW w
def rowW (l : List (List UInt8)) : List UInt8 := (l.flatMap fun w => 32 :: textW w).drop 1
theorem byte_eq {a b : UInt8} : a = b ↔ a.toNat = b.toNat := UInt8.toNat_inj.symm
theorem escX_len (t : List UInt8) : (escX t).2 ≤ t.length + 1 := by
  match t with
  | [] => exact Nat.zero_le _
  | [_] => exact Nat.zero_le _
  | a :: b :: t =>
    rw [escX_cons]
    split
    · exact Nat.zero_le _
    · simp only [List.length_cons]; omega
theorem escW_len (t : List UInt8) : (escW t).2 ≤ t.length := by
  cases t with
  | nil => exact Nat.le_refl _
  | cons c t =>
    rw [escW_cons, List.length_cons]
    have := escX_len t
    repeat' split
    all_goals first | omega | (show (1 : Nat) ≤ _; omega) | exact Nat.zero_le _
theorem readW_len (c : UInt8) (t : List UInt8) : (readW c t).2.1 ≤ t.length + 1 := by
  unfold readW
  have := escW_len t
  repeat' split
  all_goals simp
  omega
theorem machW_nil (ws : List (List UInt8)) (cur : Option (List UInt8)) (q : UInt8) : machW [] (ws, cur, q) = if q = 0 then (endW ws cur, 0) else ([], 13) := by rw [machW]
theorem machW_cons (c : UInt8) (t : List UInt8) (st : (List (List UInt8) × Option (List UInt8) × UInt8)) : machW (c :: t) st = if (readW c t).2.2 ≠ 0 then ([], (readW c t).2.2) else match takeW (readW c t).1 (decide (1 < (readW c t).2.1)) st with
    | none => ([], 2)
    | some st' => machW (t.drop ((readW c t).2.1 - 1)) st' := by rw [machW]
theorem machW_ind (P : List UInt8 → (List (List UInt8) × Option (List UInt8) × UInt8) → Prop) (hnil : ∀ ws cur, P [] (ws, cur, 0))
    (hcons : ∀ c t st st', (readW c t).2.2 = 0 → takeW (readW c t).1 (decide (1 < (readW c t).2.1)) st = some st' → (machW (t.drop ((readW c t).2.1 - 1)) st').2 = 0 → P (t.drop ((readW c t).2.1 - 1)) st' → P (c :: t) st) :
    ∀ (n : Nat) (l : List UInt8) (st : (List (List UInt8) × Option (List UInt8) × UInt8)), l.length ≤ n → (machW l st).2 = 0 → P l st := by
  intro n
  induction n with
  | zero =>
    intro l st hl h
    obtain rfl : l = [] := List.eq_nil_of_length_eq_zero (by omega)
    obtain ⟨ws, cur, q⟩ := st
    rw [machW_nil] at h
    split at h
    · rename_i hq; subst hq; exact hnil _ _
    · exact absurd h (by decide)
  | succ n ih =>
    intro l st hl h
    match l, hl, h with
    | [], _, h =>
      obtain ⟨ws, cur, q⟩ := st
      rw [machW_nil] at h
      split at h
      · rename_i hq; subst hq; exact hnil _ _
      · exact absurd h (by decide)
    | c :: t, hl, h =>
      rw [machW_cons] at h
      by_cases h1 : (readW c t).2.2 = 0
      · rw [if_neg (by simpa using h1)] at h
        cases h2 : takeW (readW c t).1 (decide (1 < (readW c t).2.1)) st with
        | none => rw [h2] at h; exact absurd (show (2 : Nat) = 0 from h) (by decide)
        | some st' =>
          rw [h2] at h
          exact hcons c t st st' h1 h2 h (ih _ _ (by simp only [List.length_drop, List.length_cons] at hl ⊢; omega) h)
      · rw [if_pos h1] at h
        exact absurd h h1
theorem machW_step {c : UInt8} {t : List UInt8} {st st' : (List (List UInt8) × Option (List UInt8) × UInt8)} (h1 : (readW c t).2.2 = 0) (h2 : takeW (readW c t).1 (decide (1 < (readW c t).2.1)) st = some st') : machW (c :: t) st = machW (t.drop ((readW c t).2.1 - 1)) st' := by
  rw [machW_cons, if_neg (by simpa using h1), h2]
def okW (st : (List (List UInt8) × Option (List UInt8) × UInt8)) : Prop := st.1.length ≤ 32 ∧ (st.2.1.isSome = true → st.1.length < 32)
theorem takeW_ok {c : UInt8} {e : Bool} {st st' : (List (List UInt8) × Option (List UInt8) × UInt8)} (h : takeW c e st = some st') (ho : okW st) : okW st' := by
  obtain ⟨ws, cur, q⟩ := st
  unfold okW at *
  simp only at ho
  unfold takeW at h
  dsimp only at h
  split at h
  · injection h with h; subst h
    cases cur with
    | none => exact ⟨ho.1, fun h => by cases h⟩
    | some w => simp only [endW, List.length_append, List.length_singleton]; exact ⟨ho.2 rfl, fun h => by cases h⟩
  · split at h
    · cases h
    · rename_i _ hl
      have : ws.length < 32 := by omega
      split at h
      · injection h with h; subst h; exact ⟨by simp only; omega, fun _ => by simp only; omega⟩
      · split at h
        · injection h with h; subst h; exact ⟨by simp only; omega, fun _ => by simp only; omega⟩
        · split at h <;> (injection h with h; subst h; exact ⟨by simp only; omega, fun _ => by simp only; omega⟩)
theorem machW_err (n : Nat) : ∀ (l : List UInt8) (st : (List (List UInt8) × Option (List UInt8) × UInt8)), l.length ≤ n → (machW l st).2 ≠ 0 → (machW l st).1 = [] ∧ ((machW l st).2 = 1 ∨ (machW l st).2 = 13 ∨ (machW l st).2 = 2) := by
  induction n with
  | zero =>
    intro l st hl h
    obtain rfl : l = [] := List.eq_nil_of_length_eq_zero (by omega)
    obtain ⟨ws, cur, q⟩ := st
    rw [machW_nil] at h ⊢
    split at h
    · exact absurd rfl h
    · rename_i hq; rw [if_neg hq]; exact ⟨rfl, .inr (.inl rfl)⟩
  | succ n ih =>
    intro l st hl h
    match l, hl, h with
    | [], _, h =>
      obtain ⟨ws, cur, q⟩ := st
      rw [machW_nil] at h ⊢
      split at h
      · exact absurd rfl h
      · rename_i hq; rw [if_neg hq]; exact ⟨rfl, .inr (.inl rfl)⟩
    | c :: t, hl, h =>
      rw [machW_cons] at h ⊢
      by_cases h1 : (readW c t).2.2 = 0
      · rw [if_neg (by simpa using h1)] at h ⊢
        cases h2 : takeW (readW c t).1 (decide (1 < (readW c t).2.1)) st with
        | none => exact ⟨rfl, .inr (.inr rfl)⟩
        | some st' =>
          rw [h2] at h
          exact ih _ _ (by simp only [List.length_drop, List.length_cons] at hl ⊢; omega) h
      · rw [if_pos h1]
        refine ⟨rfl, ?_⟩
        show (readW c t).2.2 = 1 ∨ (readW c t).2.2 = 13 ∨ _
        unfold readW at h1 ⊢
        by_cases b1 : badW c = true
        · rw [if_pos b1]; exact .inl rfl
        · rw [if_neg b1] at h1 ⊢
          by_cases b2 : c = 92
          · rw [if_pos b2] at h1 ⊢
            by_cases b3 : (escW t).2 = 0
            · rw [if_pos b3]; exact .inr (.inl rfl)
            · rw [if_neg b3] at h1; exact absurd rfl h1
          · rw [if_neg b2] at h1; exact absurd rfl h1
theorem split_err {s : List UInt8} (h : (splitW s).2 ≠ 0) : (splitW s).1 = [] ∧ ((splitW s).2 = 1 ∨ (splitW s).2 = 13 ∨ (splitW s).2 = 2) := machW_err _ s _ (Nat.le_refl _) h
def topW : List UInt8 → (List (List UInt8) × Option (List UInt8) × UInt8) → Nat
  | [], st => (st.2.1.getD []).length
  | c :: t, st => max (st.2.1.getD []).length (if (readW c t).2.2 ≠ 0 then 0 else match takeW (readW c t).1 (decide (1 < (readW c t).2.1)) st with
    | none => 0
    | some st' => topW (t.drop ((readW c t).2.1 - 1)) st')
termination_by l => l.length
decreasing_by simp only [List.length_drop, List.length_cons]; omega
theorem topW_nil (st : (List (List UInt8) × Option (List UInt8) × UInt8)) : topW [] st = (st.2.1.getD []).length := by rw [topW]
theorem topW_cons (c : UInt8) (t : List UInt8) (st : (List (List UInt8) × Option (List UInt8) × UInt8)) : topW (c :: t) st = max (st.2.1.getD []).length (if (readW c t).2.2 ≠ 0 then 0 else match takeW (readW c t).1 (decide (1 < (readW c t).2.1)) st with
    | none => 0
    | some st' => topW (t.drop ((readW c t).2.1 - 1)) st') := by rw [topW]
theorem topW_now (l : List UInt8) (st : (List (List UInt8) × Option (List UInt8) × UInt8)) : (st.2.1.getD []).length ≤ topW l st := by
  cases l with
  | nil => rw [topW_nil]; exact Nat.le_refl _
  | cons c t => rw [topW_cons]; exact Nat.le_max_left _ _
theorem topW_some {c : UInt8} {t : List UInt8} {st st' : (List (List UInt8) × Option (List UInt8) × UInt8)} (h1 : (readW c t).2.2 = 0) (h2 : takeW (readW c t).1 (decide (1 < (readW c t).2.1)) st = some st') : topW (c :: t) st = max (st.2.1.getD []).length (topW (t.drop ((readW c t).2.1 - 1)) st') := by
  rw [topW_cons, if_neg (by simpa using h1), h2]
theorem topW_step {c : UInt8} {t : List UInt8} {st st' : (List (List UInt8) × Option (List UInt8) × UInt8)} (h1 : (readW c t).2.2 = 0) (h2 : takeW (readW c t).1 (decide (1 < (readW c t).2.1)) st = some st') : topW (t.drop ((readW c t).2.1 - 1)) st' ≤ topW (c :: t) st := by
  rw [topW_some h1 h2]
  exact Nat.le_max_right _ _
theorem takeW_word {c : UInt8} {e : Bool} {st st' : (List (List UInt8) × Option (List UInt8) × UInt8)} (h : takeW c e st = some st') : (st'.2.1.getD []).length ≤ (st.2.1.getD []).length + 1 := by
  obtain ⟨ws, cur, q⟩ := st
  unfold takeW at h
  dsimp only at h
  split at h
  · injection h with h; subst h; simp
  · split at h
    · cases h
    · split at h
      · injection h with h; subst h; simp
      · split at h
        · injection h with h; subst h; simp
        · split at h <;> (injection h with h; subst h; simp)
theorem topW_le (n : Nat) : ∀ (l : List UInt8) (st : (List (List UInt8) × Option (List UInt8) × UInt8)), l.length ≤ n → topW l st ≤ (st.2.1.getD []).length + l.length := by
  induction n with
  | zero =>
    intro l st hl
    obtain rfl : l = [] := List.eq_nil_of_length_eq_zero (by omega)
    rw [topW_nil]; omega
  | succ n ih =>
    intro l st hl
    match l, hl with
    | [], _ => rw [topW_nil]; omega
    | c :: t, hl =>
      rw [topW_cons]
      refine Nat.max_le.2 ⟨by omega, ?_⟩
      split
      · exact Nat.zero_le _
      · split
        · exact Nat.zero_le _
        · rename_i st' h2
          have h3 := takeW_word h2
          have h4 := ih (t.drop ((readW c t).2.1 - 1)) st' (by simp only [List.length_drop, List.length_cons] at hl ⊢; omega)
          simp only [List.length_drop, List.length_cons] at h4 ⊢
          omega
def topS (l : List UInt8) : Nat := topW l ([], none, 0)
theorem topS_le (l : List UInt8) : topS l ≤ l.length := by
  have := topW_le _ l ([], none, 0) (Nat.le_refl _)
  unfold topS
  simpa using this
theorem mach_at {l : List UInt8} {c : UInt8} {t : List UInt8} (hl : l = c :: t) (st : (List (List UInt8) × Option (List UInt8) × UInt8)) : ((readW c t).2.2 ≠ 0 → machW l st = ([], (readW c t).2.2)) ∧ ((readW c t).2.2 = 0 → takeW (readW c t).1 (decide (1 < (readW c t).2.1)) st = none → machW l st = ([], 2)) ∧
    ∀ st', (readW c t).2.2 = 0 → takeW (readW c t).1 (decide (1 < (readW c t).2.1)) st = some st' → machW l st = machW (t.drop ((readW c t).2.1 - 1)) st' ∧ topW (t.drop ((readW c t).2.1 - 1)) st' ≤ topW l st := by
  subst hl
  refine ⟨fun h => ?_, fun h h2 => ?_, fun st' h h2 => ⟨machW_step h h2, topW_step h h2⟩⟩
  · rw [machW_cons, if_pos h]
  · rw [machW_cons, if_neg (by simpa using h), h2]
theorem readW_pos {c : UInt8} {t : List UInt8} (h : (readW c t).2.2 = 0) : 1 ≤ (readW c t).2.1 := by
  unfold readW at h ⊢
  by_cases b1 : badW c = true
  · rw [if_pos b1] at h; exact absurd h (by simp)
  · rw [if_neg b1] at h ⊢
    by_cases b2 : c = 92
    · rw [if_pos b2] at h ⊢
      by_cases b3 : (escW t).2 = 0
      · rw [if_pos b3] at h; exact absurd h (by simp)
      · rw [if_neg b3]; show 1 ≤ (escW t).2 + 1; omega
    · rw [if_neg b2]; exact Nat.le_refl _
end Go.Proofs.YtadifolonbkamaaGreatDoor.Wd
