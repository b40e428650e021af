/- Days and seconds on plain numbers: leap years, how many days lie ahead of a year, of a month; each day has one year, one -/
namespace Go.Proofs.YtadifolonbkamaaGreatDoor.Ca
def leapB (y : Int) : Bool := (y % 4 == 0 && !(y % 100 == 0)) || y % 400 == 0
def lp (y : Int) : Int := if leapB y = true then 1 else 0
theorem lp_01 (y : Int) : lp y = 0 ∨ lp y = 1 := by unfold lp; split <;> simp
theorem leapB_iff (y : Int) : leapB y = true ↔ (y % 4 = 0 ∧ ¬ y % 100 = 0) ∨ y % 400 = 0 := by simp [leapB]
def leaps (y : Int) : Int := y / 4 - y / 100 + y / 400
theorem leaps_succ (y : Int) : leaps (y + 1) = leaps y + lp (y + 1) := by
  have h := leapB_iff (y + 1)
  unfold leaps lp
  by_cases hb : leapB (y + 1) = true
  · rw [if_pos hb]
    have := h.1 hb
    omega
  · rw [if_neg hb]
    have : ¬ (((y + 1) % 4 = 0 ∧ ¬ (y + 1) % 100 = 0) ∨ (y + 1) % 400 = 0) := fun e => hb (h.2 e)
    omega
def yst (y : Int) : Int := 365 * (y - 2000) + (leaps (y - 1) - leaps 1999)
theorem yst_2000 : yst 2000 = 0 := by unfold yst leaps; omega
theorem yst_2200 : yst 2200 = 73049 := by unfold yst leaps; omega
theorem yst_succ (y : Int) : yst (y + 1) = yst y + 365 + lp y := by
  have := leaps_succ (y - 1)
  unfold yst
  rw [show y + 1 - 1 = y - 1 + 1 by omega, this, show y - 1 + 1 = y by omega]
  omega
theorem yst_le {a b : Int} (h : a ≤ b) : yst a + 365 * (b - a) ≤ yst b := by
  unfold yst leaps
  omega
theorem yst_lt {a b : Int} (h : a < b) : yst (a + 1) ≤ yst b := by
  have := yst_le (a := a + 1) (b := b) (by omega)
  omega
def dim (y m : Int) : Int :=
  if m = 2 then 28 + lp y else if m = 4 ∨ m = 6 ∨ m = 9 ∨ m = 11 then 30 else if 1 ≤ m ∧ m ≤ 12 then 31 else 0
def mst (y m : Int) : Int :=
  if m ≤ 1 then 0 else if m = 2 then 31 else lp y + (if m = 3 then 59 else if m = 4 then 90 else if m = 5 then 120 else if m = 6 then 151 else if m = 7 then 181 else if m = 8 then 212 else if m = 9 then 243 else if m = 10 then 273 else if m = 11 then 304 else if m = 12 then 334 else 365)
theorem month_cases {m : Int} (h1 : 1 ≤ m) (h2 : m ≤ 12) : m = 1 ∨ m = 2 ∨ m = 3 ∨ m = 4 ∨ m = 5 ∨ m = 6 ∨ m = 7 ∨ m = 8 ∨ m = 9 ∨ m = 10 ∨ m = 11 ∨ m = 12 := by omega
theorem mst_succ (y m : Int) (h1 : 1 ≤ m) (h2 : m ≤ 12) : mst y (m + 1) = mst y m + dim y m := by
  rcases month_cases h1 h2 with rfl | rfl | rfl | rfl | rfl | rfl | rfl | rfl | rfl | rfl | rfl | rfl <;> simp [mst, dim] <;> omega
theorem mst_13 (y : Int) : mst y 13 = 365 + lp y := by simp [mst]; omega
theorem dim_bd (y m : Int) (h1 : 1 ≤ m) (h2 : m ≤ 12) : 28 ≤ dim y m ∧ dim y m ≤ 31 := by
  have := lp_01 y
  rcases month_cases h1 h2 with rfl | rfl | rfl | rfl | rfl | rfl | rfl | rfl | rfl | rfl | rfl | rfl <;> simp [dim] <;> omega
theorem dim_none (y m : Int) (h : m < 1 ∨ 12 < m) : dim y m = 0 := by
  unfold dim
  rw [if_neg (by omega), if_neg (by omega), if_neg (by omega)]
theorem mst_bd (y m : Int) (h1 : 1 ≤ m) (h2 : m ≤ 13) : 0 ≤ mst y m ∧ mst y m ≤ 366 := by
  have := lp_01 y
  by_cases h : m = 13
  · subst h; rw [mst_13]; omega
  · rcases month_cases h1 (by omega) with rfl | rfl | rfl | rfl | rfl | rfl | rfl | rfl | rfl | rfl | rfl | rfl <;> simp [mst] <;> omega
theorem mst_mono (y : Int) {a b : Int} (h1 : 1 ≤ a) (h2 : b ≤ 13) (h : a < b) : mst y (a + 1) ≤ mst y b := by
  have hl := lp_01 y
  have hb : b = 13 ∨ b ≤ 12 := by omega
  rcases month_cases h1 (by omega) with rfl | rfl | rfl | rfl | rfl | rfl | rfl | rfl | rfl | rfl | rfl | rfl
  all_goals
    rcases hb with rfl | hb
    · simp [mst]; try omega
    · rcases month_cases (m := b) (by omega) hb with rfl | rfl | rfl | rfl | rfl | rfl | rfl | rfl | rfl | rfl | rfl | rfl
      all_goals first | omega | (simp [mst]; done) | (simp [mst]; omega)
def num (y m d : Int) : Int := yst y + mst y m + d - 1
structure IsDay (y m d : Int) : Prop where
  y0 : 2000 ≤ y
  y1 : y ≤ 2199
  m0 : 1 ≤ m
  m1 : m ≤ 12
  d0 : 1 ≤ d
  d1 : d ≤ dim y m
theorem num_in_year {y m d : Int} (h : IsDay y m d) : yst y ≤ num y m d ∧ num y m d < yst (y + 1) := by
  obtain ⟨y0, y1, m0, m1, d0, d1⟩ := h
  have a := mst_bd y m m0 (by omega)
  have b := mst_succ y m m0 m1
  have c : mst y (m + 1) ≤ mst y 13 := by
    by_cases e : m = 12
    · subst e; exact Int.le_refl _
    · have := mst_mono y (a := m + 1) (b := 13) (by omega) (by omega) (by omega)
      have b2 := mst_succ y (m + 1) (by omega) (by omega)
      have := (dim_bd y (m + 1) (by omega) (by omega)).1
      omega
  rw [mst_13] at c
  rw [yst_succ]
  unfold num
  omega
theorem num_bd {y m d : Int} (h : IsDay y m d) : 0 ≤ num y m d ∧ num y m d < 73049 := by
  have a := num_in_year h
  have b := yst_le (a := 2000) (b := y) h.y0
  have c := yst_le (a := y + 1) (b := 2200) (by have := h.y1; omega)
  rw [yst_2000] at b
  rw [yst_2200] at c
  have := h.y0; have := h.y1
  omega
theorem num_lt {y m d y' m' d' : Int} (h : IsDay y m d) (h' : IsDay y' m' d') (hl : y < y' ∨ y = y' ∧ (m < m' ∨ m = m' ∧ d < d')) : num y m d < num y' m' d' := by
  rcases hl with hl | ⟨rfl, hl | ⟨rfl, hl⟩⟩
  · have a := num_in_year h
    have b := num_in_year h'
    have c := yst_lt hl
    omega
  · have b := mst_succ y m h.m0 h.m1
    have c := mst_mono y h.m0 (b := m') (by have := h'.m1; omega) hl
    have := h.d1; have := h'.d0
    unfold num; omega
  · unfold num; omega
theorem num_inj {y m d y' m' d' : Int} (h : IsDay y m d) (h' : IsDay y' m' d') (e : num y m d = num y' m' d') : y = y' ∧ m = m' ∧ d = d' := by
  have hy : y = y' := by
    rcases Int.lt_trichotomy y y' with l | l | l
    · have := num_lt h h' (.inl l); omega
    · exact l
    · have := num_lt h' h (.inl l); omega
  subst hy
  have hm : m = m' := by
    rcases Int.lt_trichotomy m m' with l | l | l
    · have := num_lt h h' (.inr ⟨rfl, .inl l⟩); omega
    · exact l
    · have := num_lt h' h (.inr ⟨rfl, .inl l⟩); omega
  subst hm
  refine ⟨rfl, rfl, ?_⟩
  unfold num at e; omega
structure IsDate (t y m d hh mi ss wd : Int) : Prop where
  day : IsDay y m d
  h0 : 0 ≤ hh
  h1 : hh ≤ 23
  m0 : 0 ≤ mi
  m1 : mi ≤ 59
  s0 : 0 ≤ ss
  s1 : ss ≤ 59
  t_eq : t = 86400 * num y m d + 3600 * hh + 60 * mi + ss
  w_eq : wd = (num y m d + 5) % 7 + 1
theorem IsDate.bd {t y m d hh mi ss wd : Int} (h : IsDate t y m d hh mi ss wd) : 0 ≤ t ∧ t < 6311433600 := by
  obtain ⟨hd, h0, h1, m0, m1, s0, s1, te, _⟩ := h
  have := num_bd hd
  omega
theorem IsDate.inj {t y m d hh mi ss wd y' m' d' hh' mi' ss' wd' : Int} (h : IsDate t y m d hh mi ss wd) (h' : IsDate t y' m' d' hh' mi' ss' wd') :
    y = y' ∧ m = m' ∧ d = d' ∧ hh = hh' ∧ mi = mi' ∧ ss = ss' ∧ wd = wd' := by
  obtain ⟨hd, h0, h1, m0, m1, s0, s1, te, we⟩ := h
  obtain ⟨hd', h0', h1', m0', m1', s0', s1', te', we'⟩ := h'
  have e : num y m d = num y' m' d' := by omega
  obtain ⟨rfl, rfl, rfl⟩ := num_inj hd hd' e
  exact ⟨rfl, rfl, rfl, by omega, by omega, by omega, by omega⟩
theorem day_of_year {n y : Int} (h0 : 2000 ≤ y) (h1 : y ≤ 2199) (a : yst y ≤ n) (b : n < yst (y + 1)) : ∃ m d, IsDay y m d ∧ num y m d = n := by
  have hl := lp_01 y
  rw [yst_succ] at b
  have key : ∀ k : Nat, k ≤ 12 → mst y ((k : Int) + 1) ≤ n - yst y ∨ ∃ m d, IsDay y m d ∧ num y m d = n := by
    intro k
    induction k with
    | zero => intro _; left; simp [mst]; omega
    | succ k ih =>
      intro hk
      rcases ih (by omega) with hm | hm
      · by_cases hlt : n - yst y < mst y ((k : Int) + 1 + 1)
        · right
          have s := mst_succ y ((k : Int) + 1) (by omega) (by omega)
          refine ⟨(k : Int) + 1, n - yst y - mst y ((k : Int) + 1) + 1, ⟨h0, h1, by omega, by omega, by omega, by omega⟩, ?_⟩
          unfold num; omega
        · left
          have : ((k + 1 : Nat) : Int) + 1 = (k : Int) + 1 + 1 := by omega
          rw [this]; omega
      · exact .inr hm
  rcases key 12 (by omega) with h | h
  · have : ((12 : Nat) : Int) + 1 = 13 := rfl
    rw [this, mst_13] at h
    omega
  · exact h
end Go.Proofs.YtadifolonbkamaaGreatDoor.Ca
namespace Go.Proofs.YtadifolonbkamaaGreatDoor.Ca
theorem exists_day {n : Int} (h0 : 0 ≤ n) (h1 : n < 73049) : ∃ p : Int × Int × Int, IsDay p.1 p.2.1 p.2.2 ∧ num p.1 p.2.1 p.2.2 = n := by
  have key : ∀ k : Nat, k ≤ 200 → yst (2000 + (k : Int)) ≤ n ∨ ∃ p : Int × Int × Int, IsDay p.1 p.2.1 p.2.2 ∧ num p.1 p.2.1 p.2.2 = n := by
    intro k
    induction k with
    | zero => intro _; left; have := yst_2000; simp; omega
    | succ k ih =>
      intro hk
      rcases ih (by omega) with hm | hm
      · by_cases hlt : n < yst (2000 + (k : Int) + 1)
        · right
          obtain ⟨m, d, h, e⟩ := day_of_year (y := 2000 + (k : Int)) (by omega) (by omega) hm hlt
          exact ⟨(2000 + (k : Int), m, d), h, e⟩
        · left
          have : 2000 + ((k + 1 : Nat) : Int) = 2000 + (k : Int) + 1 := by omega
          rw [this]; omega
      · exact .inr hm
  rcases key 200 (by omega) with h | h
  · have : 2000 + ((200 : Nat) : Int) = 2200 := rfl
    rw [this, yst_2200] at h
    omega
  · exact h
noncomputable def dayOf (n : Int) : Int × Int × Int := Classical.epsilon fun p => IsDay p.1 p.2.1 p.2.2 ∧ num p.1 p.2.1 p.2.2 = n
theorem dayOf_spec {n : Int} (h0 : 0 ≤ n) (h1 : n < 73049) : IsDay (dayOf n).1 (dayOf n).2.1 (dayOf n).2.2 ∧ num (dayOf n).1 (dayOf n).2.1 (dayOf n).2.2 = n :=
  Classical.epsilon_spec (p := fun p : Int × Int × Int => IsDay p.1 p.2.1 p.2.2 ∧ num p.1 p.2.1 p.2.2 = n) (exists_day h0 h1)
def isT (t : Int) : Bool := decide (0 ≤ t ∧ t < 6311433600)
theorem isT_iff (t : Int) : isT t = true ↔ 0 ≤ t ∧ t < 6311433600 := by simp [isT]
noncomputable def fY (t : Int) : Int := if isT t = true then (dayOf (t / 86400)).1 else 0
noncomputable def fM (t : Int) : Int := if isT t = true then (dayOf (t / 86400)).2.1 else 0
noncomputable def fD (t : Int) : Int := if isT t = true then (dayOf (t / 86400)).2.2 else 0
def fH (t : Int) : Int := if isT t = true then t % 86400 / 3600 else 0
def fI (t : Int) : Int := if isT t = true then t % 3600 / 60 else 0
def fS (t : Int) : Int := if isT t = true then t % 60 else 0
def fW (t : Int) : Int := if isT t = true then (t / 86400 + 5) % 7 + 1 else 0
theorem date_of {t : Int} (h : isT t = true) : IsDate t (fY t) (fM t) (fD t) (fH t) (fI t) (fS t) (fW t) := by
  have hb := (isT_iff t).1 h
  obtain ⟨h1, h2⟩ := dayOf_spec (n := t / 86400) (by omega) (by omega)
  unfold fY fM fD fH fI fS fW
  simp only [if_pos h]
  exact ⟨h1, by omega, by omega, by omega, by omega, by omega, by omega, by omega, by rw [h2]⟩
theorem date_eq {t y m d hh mi ss wd : Int} (h : IsDate t y m d hh mi ss wd) : isT t = true ∧ fY t = y ∧ fM t = m ∧ fD t = d ∧ fH t = hh ∧ fI t = mi ∧ fS t = ss ∧ fW t = wd := by
  have hb := h.bd
  have ht := (isT_iff t).2 hb
  obtain ⟨a, b, c, e, f, g, i⟩ := (date_of ht).inj h
  exact ⟨ht, a, b, c, e, f, g, i⟩
def isDayB (y m d : Int) : Bool := decide (2000 ≤ y ∧ y ≤ 2199 ∧ 1 ≤ d ∧ d ≤ dim y m)
theorem isDayB_iff (y m d : Int) : isDayB y m d = true ↔ IsDay y m d := by
  unfold isDayB
  simp only [decide_eq_true_eq]
  constructor
  · rintro ⟨a, b, c, e⟩
    have : 1 ≤ m ∧ m ≤ 12 := by
      by_cases hm : m < 1 ∨ 12 < m
      · have := dim_none y m hm; omega
      · omega
    exact ⟨a, b, this.1, this.2, c, e⟩
  · rintro ⟨a, b, c, e, f, g⟩
    exact ⟨a, b, f, g⟩
def isClB (hh mi ss : Int) : Bool := decide (0 ≤ hh ∧ hh ≤ 23 ∧ 0 ≤ mi ∧ mi ≤ 59 ∧ 0 ≤ ss ∧ ss ≤ 59)
theorem isClB_iff (hh mi ss : Int) : isClB hh mi ss = true ↔ 0 ≤ hh ∧ hh ≤ 23 ∧ 0 ≤ mi ∧ mi ≤ 59 ∧ 0 ≤ ss ∧ ss ≤ 59 := by simp [isClB]
def toOk (y m d hh mi ss : Int) : Bool := isDayB y m d && isClB hh mi ss
def toN (y m d hh mi ss : Int) : Int := if toOk y m d hh mi ss = true then 86400 * num y m d + 3600 * hh + 60 * mi + ss else 0
theorem to_date {y m d hh mi ss : Int} (h : toOk y m d hh mi ss = true) : IsDate (toN y m d hh mi ss) y m d hh mi ss ((num y m d + 5) % 7 + 1) := by
  have e : toN y m d hh mi ss = 86400 * num y m d + 3600 * hh + 60 * mi + ss := if_pos h
  unfold toOk at h
  rw [Bool.and_eq_true] at h
  have h1 := (isDayB_iff y m d).1 h.1
  obtain ⟨a, b, c, f, g, i⟩ := (isClB_iff hh mi ss).1 h.2
  exact ⟨h1, a, b, c, f, g, i, e, rfl⟩
end Go.Proofs.YtadifolonbkamaaGreatDoor.Ca
namespace Go.Proofs.YtadifolonbkamaaGreatDoor.Ca
structure Pt where
  a : Int
  b : Int
  s : Int
structure Cl where
  ds : List Int
  yr : List Pt
  mo : List Pt
  dy : List Pt
  hr : List Pt
  mi : List Pt
  se : List Pt
def lo : Nat → Int
  | 0 => 2000
  | 1 => 1
  | 2 => 1
  | _ => 0
def hi : Nat → Int
  | 0 => 2199
  | 1 => 12
  | 2 => 31
  | 3 => 23
  | _ => 59
theorem lo_bd (f : Nat) : 0 ≤ lo f ∧ lo f ≤ hi f ∧ hi f ≤ 2199 := by
  match f with
  | 0 => decide
  | 1 => decide
  | 2 => decide
  | 3 => decide
  | n + 4 => exact (show (0 : Int) ≤ 0 ∧ (0 : Int) ≤ 59 ∧ (59 : Int) ≤ 2199 by decide)
def Cl.fld (c : Cl) : Nat → List Pt
  | 0 => c.yr
  | 1 => c.mo
  | 2 => c.dy
  | 3 => c.hr
  | 4 => c.mi
  | _ => c.se
def mayP (f : Nat) (p : Pt) : Bool := decide (0 ≤ p.s ∧ p.s ≤ 9999 ∧ (p.a = -1 ∧ p.b = -1 ∨ lo f ≤ p.a ∧ p.a ≤ hi f ∧ (p.b = -1 ∨ p.a ≤ p.b ∧ p.b ≤ hi f)))
theorem mayP_iff (f : Nat) (p : Pt) : mayP f p = true ↔ 0 ≤ p.s ∧ p.s ≤ 9999 ∧ (p.a = -1 ∧ p.b = -1 ∨ lo f ≤ p.a ∧ p.a ≤ hi f ∧ (p.b = -1 ∨ p.a ≤ p.b ∧ p.b ≤ hi f)) := by simp [mayP]
def mayF (f : Nat) (l : List Pt) : Bool := decide (1 ≤ l.length ∧ l.length ≤ 4) && l.all (mayP f)
theorem mayF_iff (f : Nat) (l : List Pt) : mayF f l = true ↔ (1 ≤ l.length ∧ l.length ≤ 4) ∧ ∀ p ∈ l, mayP f p = true := by simp [mayF]
def risesB : Int → List Int → Bool
  | _, [] => true
  | x, d :: r => decide (x < d ∧ d ≤ 7) && risesB d r
def mayC (c : Cl) : Bool := risesB 0 c.ds && (mayF 0 c.yr && (mayF 1 c.mo && (mayF 2 c.dy && (mayF 3 c.hr && (mayF 4 c.mi && mayF 5 c.se)))))
theorem mayC_iff (c : Cl) : mayC c = true ↔ risesB 0 c.ds = true ∧ mayF 0 c.yr = true ∧ mayF 1 c.mo = true ∧ mayF 2 c.dy = true ∧ mayF 3 c.hr = true ∧ mayF 4 c.mi = true ∧ mayF 5 c.se = true := by
  simp [mayC]
def ptA (f : Nat) (p : Pt) : Int := if p.a = -1 then lo f else p.a
def ptB (f : Nat) (p : Pt) : Int := if p.a = -1 then hi f else if p.b = -1 then (if p.s = 0 then p.a else hi f) else p.b
def ptS (p : Pt) : Int := max p.s 1
def inP (f : Nat) (p : Pt) (n : Int) : Bool := decide (ptA f p ≤ n ∧ n ≤ ptB f p ∧ (n - ptA f p) % ptS p = 0)
theorem inP_iff (f : Nat) (p : Pt) (n : Int) : inP f p n = true ↔ ptA f p ≤ n ∧ n ≤ ptB f p ∧ (n - ptA f p) % ptS p = 0 := by simp [inP]
def inF (f : Nat) (l : List Pt) (n : Int) : Bool := l.any fun p => inP f p n
def dayB (ds : List Int) (wd : Int) : Bool := ds.isEmpty || ds.contains wd
noncomputable def numsB (c : Cl) (t : Int) : Bool :=
  inF 0 c.yr (fY t) && (inF 1 c.mo (fM t) && (inF 2 c.dy (fD t) && (inF 3 c.hr (fH t) && (inF 4 c.mi (fI t) && inF 5 c.se (fS t)))))
noncomputable def matchB (c : Cl) (t : Int) : Bool := mayC c && (isT t && (dayB c.ds (fW t) && numsB c t))
theorem matchB_iff (c : Cl) (t : Int) : matchB c t = true ↔ mayC c = true ∧ isT t = true ∧ dayB c.ds (fW t) = true ∧ numsB c t = true := by simp [matchB]
def Cl.put (c : Cl) (f : Nat) (l : List Pt) : Cl :=
  match f with
  | 0 => { c with yr := l }
  | 1 => { c with mo := l }
  | 2 => { c with dy := l }
  | 3 => { c with hr := l }
  | 4 => { c with mi := l }
  | _ => { c with se := l }
end Go.Proofs.YtadifolonbkamaaGreatDoor.Ca
