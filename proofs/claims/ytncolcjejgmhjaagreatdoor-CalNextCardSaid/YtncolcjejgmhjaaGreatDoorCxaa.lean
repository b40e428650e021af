/- Days and seconds on plain numbers: leap years, how many days lie ahead of a year, of a month; each day has one year, one -/
namespace Go.Proofs.YtncolcjejgmhjaaGreatDoor
def leapB (y : Int) : Bool := (y % 4 == 0 && !(y % 100 == 0)) || y % 400 == 0
def lp (y : Int) : Int := if leapB y = true then 1 else 0
theorem lp_01 (y : Int) : lp y = 0 ∨ lp y = 1 := by unfold lp; split <;> simp
theorem leapB_iff (y : Int) : leapB y = true ↔ (y % 4 = 0 ∧ ¬ y % 100 = 0) ∨ y % 400 = 0 := by simp [leapB]
def leaps (y : Int) : Int := y / 4 - y / 100 + y / 400
theorem leaps_succ (y : Int) : leaps (y + 1) = leaps y + lp (y + 1) := by
  have h := leapB_iff (y + 1)
  unfold leaps lp
  by_cases hb : leapB (y + 1) = true
  · rw [if_pos hb]
    have := h.1 hb
    omega
  · rw [if_neg hb]
    have : ¬ (((y + 1) % 4 = 0 ∧ ¬ (y + 1) % 100 = 0) ∨ (y + 1) % 400 = 0) := fun e => hb (h.2 e)
    omega
def yst (y : Int) : Int := 365 * (y - 2000) + (leaps (y - 1) - leaps 1999)
theorem yst_2000 : yst 2000 = 0 := by unfold yst leaps; omega
theorem yst_2200 : yst 2200 = 73049 := by unfold yst leaps; omega
theorem yst_succ (y : Int) : yst (y + 1) = yst y + 365 + lp y := by
  have := leaps_succ (y - 1)
  unfold yst
  rw [show y + 1 - 1 = y - 1 + 1 by omega, this, show y - 1 + 1 = y by omega]
  omega
theorem yst_le {a b : Int} (h : a ≤ b) : yst a + 365 * (b - a) ≤ yst b := by
  unfold yst leaps
  omega
theorem yst_lt {a b : Int} (h : a < b) : yst (a + 1) ≤ yst b := by
  have := yst_le (a := a + 1) (b := b) (by omega)
  omega
def dim (y m : Int) : Int :=
  if m = 2 then 28 + lp y else if m = 4 ∨ m = 6 ∨ m = 9 ∨ m = 11 then 30 else if 1 ≤ m ∧ m ≤ 12 then 31 else 0
def mst (y m : Int) : Int :=
  if m ≤ 1 then 0 else if m = 2 then 31 else lp y + (if m = 3 then 59 else if m = 4 then 90 else if m = 5 then 120 else if m = 6 then 151 else if m = 7 then 181 else if m = 8 then 212 else if m = 9 then 243 else if m = 10 then 273 else if m = 11 then 304 else if m = 12 then 334 else 365)
theorem month_cases {m : Int} (h1 : 1 ≤ m) (h2 : m ≤ 12) : m = 1 ∨ m = 2 ∨ m = 3 ∨ m = 4 ∨ m = 5 ∨ m = 6 ∨ m = 7 ∨ m = 8 ∨ m = 9 ∨ m = 10 ∨ m = 11 ∨ m = 12 := by omega
theorem mst_succ (y m : Int) (h1 : 1 ≤ m) (h2 : m ≤ 12) : mst y (m + 1) = mst y m + dim y m := by
  rcases month_cases h1 h2 with rfl | rfl | rfl | rfl | rfl | rfl | rfl | rfl | rfl | rfl | rfl | rfl <;> simp [mst, dim] <;> omega
theorem mst_1 (y : Int) : mst y 1 = 0 := by simp [mst]
theorem mst_13 (y : Int) : mst y 13 = 365 + lp y := by simp [mst]; omega
theorem dim_bd (y m : Int) (h1 : 1 ≤ m) (h2 : m ≤ 12) : 28 ≤ dim y m ∧ dim y m ≤ 31 := by
  have := lp_01 y
  rcases month_cases h1 h2 with rfl | rfl | rfl | rfl | rfl | rfl | rfl | rfl | rfl | rfl | rfl | rfl <;> simp [dim] <;> omega
theorem dim_none (y m : Int) (h : m < 1 ∨ 12 < m) : dim y m = 0 := by
  unfold dim
  rw [if_neg (by omega), if_neg (by omega), if_neg (by omega)]
theorem mst_bd (y m : Int) (h1 : 1 ≤ m) (h2 : m ≤ 13) : 0 ≤ mst y m ∧ mst y m ≤ 366 := by
  have := lp_01 y
  by_cases h : m = 13
  · subst h; rw [mst_13]; omega
  · rcases month_cases h1 (by omega) with rfl | rfl | rfl | rfl | rfl | rfl | rfl | rfl | rfl | rfl | rfl | rfl <;> simp [mst] <;> omega
theorem mst_mono (y : Int) {a b : Int} (h1 : 1 ≤ a) (h2 : b ≤ 13) (h : a < b) : mst y (a + 1) ≤ mst y b := by
  have hl := lp_01 y
  have hb : b = 13 ∨ b ≤ 12 := by omega
  rcases month_cases h1 (by omega) with rfl | rfl | rfl | rfl | rfl | rfl | rfl | rfl | rfl | rfl | rfl | rfl
  all_goals
    rcases hb with rfl | hb
    · simp [mst]; try omega
    · rcases month_cases (m := b) (by omega) hb with rfl | rfl | rfl | rfl | rfl | rfl | rfl | rfl | rfl | rfl | rfl | rfl
      all_goals first | omega | (simp [mst]; done) | (simp [mst]; omega)
def num (y m d : Int) : Int := yst y + mst y m + d - 1
structure IsDay (y m d : Int) : Prop where
  y0 : 2000 ≤ y
  y1 : y ≤ 2199
  m0 : 1 ≤ m
  m1 : m ≤ 12
  d0 : 1 ≤ d
  d1 : d ≤ dim y m
theorem num_in_year {y m d : Int} (h : IsDay y m d) : yst y ≤ num y m d ∧ num y m d < yst (y + 1) := by
  obtain ⟨y0, y1, m0, m1, d0, d1⟩ := h
  have a := mst_bd y m m0 (by omega)
  have b := mst_succ y m m0 m1
  have c : mst y (m + 1) ≤ mst y 13 := by
    by_cases e : m = 12
    · subst e; exact Int.le_refl _
    · have := mst_mono y (a := m + 1) (b := 13) (by omega) (by omega) (by omega)
      have b2 := mst_succ y (m + 1) (by omega) (by omega)
      have := (dim_bd y (m + 1) (by omega) (by omega)).1
      omega
  rw [mst_13] at c
  rw [yst_succ]
  unfold num
  omega
theorem num_bd {y m d : Int} (h : IsDay y m d) : 0 ≤ num y m d ∧ num y m d < 73049 := by
  have a := num_in_year h
  have b := yst_le (a := 2000) (b := y) h.y0
  have c := yst_le (a := y + 1) (b := 2200) (by have := h.y1; omega)
  rw [yst_2000] at b
  rw [yst_2200] at c
  have := h.y0; have := h.y1
  omega
theorem num_lt {y m d y' m' d' : Int} (h : IsDay y m d) (h' : IsDay y' m' d') (hl : y < y' ∨ y = y' ∧ (m < m' ∨ m = m' ∧ d < d')) : num y m d < num y' m' d' := by
  rcases hl with hl | ⟨rfl, hl | ⟨rfl, hl⟩⟩
  · have a := num_in_year h
    have b := num_in_year h'
    have c := yst_lt hl
    omega
  · have b := mst_succ y m h.m0 h.m1
    have c := mst_mono y h.m0 (b := m') (by have := h'.m1; omega) hl
    have := h.d1; have := h'.d0
    unfold num; omega
  · unfold num; omega
theorem num_inj {y m d y' m' d' : Int} (h : IsDay y m d) (h' : IsDay y' m' d') (e : num y m d = num y' m' d') : y = y' ∧ m = m' ∧ d = d' := by
  have hy : y = y' := by
    rcases Int.lt_trichotomy y y' with l | l | l
    · have := num_lt h h' (.inl l); omega
    · exact l
    · have := num_lt h' h (.inl l); omega
  subst hy
  have hm : m = m' := by
    rcases Int.lt_trichotomy m m' with l | l | l
    · have := num_lt h h' (.inr ⟨rfl, .inl l⟩); omega
    · exact l
    · have := num_lt h' h (.inr ⟨rfl, .inl l⟩); omega
  subst hm
  refine ⟨rfl, rfl, ?_⟩
  unfold num at e; omega
structure IsDate (t y m d hh mi ss wd : Int) : Prop where
  day : IsDay y m d
  h0 : 0 ≤ hh
  h1 : hh ≤ 23
  m0 : 0 ≤ mi
  m1 : mi ≤ 59
  s0 : 0 ≤ ss
  s1 : ss ≤ 59
  t_eq : t = 86400 * num y m d + 3600 * hh + 60 * mi + ss
  w_eq : wd = (num y m d + 5) % 7 + 1
theorem IsDate.bd {t y m d hh mi ss wd : Int} (h : IsDate t y m d hh mi ss wd) : 0 ≤ t ∧ t < 6311433600 := by
  obtain ⟨hd, h0, h1, m0, m1, s0, s1, te, _⟩ := h
  have := num_bd hd
  omega
theorem IsDate.inj {t y m d hh mi ss wd y' m' d' hh' mi' ss' wd' : Int} (h : IsDate t y m d hh mi ss wd) (h' : IsDate t y' m' d' hh' mi' ss' wd') :
    y = y' ∧ m = m' ∧ d = d' ∧ hh = hh' ∧ mi = mi' ∧ ss = ss' ∧ wd = wd' := by
  obtain ⟨hd, h0, h1, m0, m1, s0, s1, te, we⟩ := h
  obtain ⟨hd', h0', h1', m0', m1', s0', s1', te', we'⟩ := h'
  have e : num y m d = num y' m' d' := by omega
  obtain ⟨rfl, rfl, rfl⟩ := num_inj hd hd' e
  exact ⟨rfl, rfl, rfl, by omega, by omega, by omega, by omega⟩
theorem day_of_year {n y : Int} (h0 : 2000 ≤ y) (h1 : y ≤ 2199) (a : yst y ≤ n) (b : n < yst (y + 1)) : ∃ m d, IsDay y m d ∧ num y m d = n := by
  have hl := lp_01 y
  rw [yst_succ] at b
  have key : ∀ k : Nat, k ≤ 12 → mst y ((k : Int) + 1) ≤ n - yst y ∨ ∃ m d, IsDay y m d ∧ num y m d = n := by
    intro k
    induction k with
    | zero => intro _; left; simp [mst]; omega
    | succ k ih =>
      intro hk
      rcases ih (by omega) with hm | hm
      · by_cases hlt : n - yst y < mst y ((k : Int) + 1 + 1)
        · right
          have s := mst_succ y ((k : Int) + 1) (by omega) (by omega)
          refine ⟨(k : Int) + 1, n - yst y - mst y ((k : Int) + 1) + 1, ⟨h0, h1, by omega, by omega, by omega, by omega⟩, ?_⟩
          unfold num; omega
        · left
          have : ((k + 1 : Nat) : Int) + 1 = (k : Int) + 1 + 1 := by omega
          rw [this]; omega
      · exact .inr hm
  rcases key 12 (by omega) with h | h
  · have : ((12 : Nat) : Int) + 1 = 13 := rfl
    rw [this, mst_13] at h
    omega
  · exact h
end Go.Proofs.YtncolcjejgmhjaaGreatDoor
