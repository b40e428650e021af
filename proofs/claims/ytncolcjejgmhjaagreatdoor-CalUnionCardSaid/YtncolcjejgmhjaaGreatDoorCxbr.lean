/- CalNext, the plain part: what the document's search by days, hours, minutes and seconds knows at each place. -/
import Derived.Test.YtncolcjejgmhjaaGreatDoorCxac
namespace Go.Proofs.YtncolcjejgmhjaaGreatDoor
def NoneTo (l : Cl) (x t : Int) : Prop := ∀ s, x < s → s < t → matchB l s = false
theorem none_start (l : Cl) {x t : Int} (h : t ≤ x + 1) : NoneTo l x t := fun s h1 h2 => by omega
theorem none_more {l : Cl} {x t t' : Int} (h : NoneTo l x t) (h2 : ∀ s, t ≤ s → s < t' → x < s → matchB l s = false) : NoneTo l x t' := fun s h1 h3 => by
  by_cases c : s < t
  · exact h s h1 c
  · exact h2 s (by omega) h3 h1
theorem next_max (l : Cl) (x : Int) : nextN l (max x (-1)) = nextN l x ∧ nextOk l (max x (-1)) = nextOk l x := by
  by_cases c : -1 ≤ x
  · rw [Int.max_eq_left c]; exact ⟨rfl, rfl⟩
  · rw [Int.max_eq_right (by omega)]
    have key : nextO l (-1) = nextO l x := by
      refine nextO_eq ?_
      have hs := nextO_spec l x
      cases e : nextO l x with
      | none => rw [e] at hs; exact fun s h => hs s (by omega)
      | some t =>
        rw [e] at hs
        have := match_bd hs.2.1
        exact ⟨by omega, hs.2.1, fun s h1 h2 => hs.2.2 s (by omega) h2⟩
    unfold nextN nextOk
    rw [key]; exact ⟨rfl, rfl⟩
theorem next_may {l : Cl} (h : mayC l = false) (x : Int) : nextN l x = 0 ∧ nextOk l x = false :=
  next_none fun s _ => by unfold matchB; rw [h]; rfl
theorem next_late (l : Cl) {x : Int} (h : 6311433599 ≤ x) : nextN l x = 0 ∧ nextOk l x = false :=
  next_none fun s hs => by
    cases e : matchB l s with
    | false => rfl
    | true => have := match_bd e; omega
theorem next_end {l : Cl} {x t : Int} (h : NoneTo l x t) (ht : 6311433600 ≤ t) : nextN l x = 0 ∧ nextOk l x = false :=
  next_none fun s hs => by
    cases e : matchB l s with
    | false => rfl
    | true => have := match_bd e; have := h s hs (by omega); rw [e] at this; cases this
theorem next_here {l : Cl} {x t : Int} (h : NoneTo l x t) (hx : x < t) (hm : matchB l t = true) : nextN l x = t ∧ nextOk l x = true := next_is hx hm h
noncomputable def dY (n : Int) : Int := (dayOf n).1
noncomputable def dM (n : Int) : Int := (dayOf n).2.1
noncomputable def dD (n : Int) : Int := (dayOf n).2.2
def dW (n : Int) : Int := (n + 5) % 7 + 1
theorem sec_of {n s : Int} (h0 : 0 ≤ n) (h1 : n < 73049) (a : n * 86400 ≤ s) (b : s < n * 86400 + 86400) : isT s = true ∧ s / 86400 = n := by
  refine ⟨(isT_iff s).2 (by omega), by omega⟩
theorem sec_f {n s : Int} (h0 : 0 ≤ n) (h1 : n < 73049) (a : n * 86400 ≤ s) (b : s < n * 86400 + 86400) : fY s = dY n ∧ fM s = dM n ∧ fD s = dD n ∧ fW s = dW n := by
  obtain ⟨e1, e2⟩ := sec_of h0 h1 a b
  unfold fY fM fD fW dY dM dD dW
  rw [if_pos e1, if_pos e1, if_pos e1, if_pos e1, e2]
  exact ⟨rfl, rfl, rfl, rfl⟩
theorem day_date {n : Int} (h0 : 0 ≤ n) (h1 : n < 73049) : isT (n * 86400) = true ∧ fY (n * 86400) = dY n ∧ fM (n * 86400) = dM n ∧ fD (n * 86400) = dD n ∧ fW (n * 86400) = dW n :=
  ⟨(sec_of h0 h1 (Int.le_refl _) (by omega)).1, sec_f h0 h1 (Int.le_refl _) (by omega)⟩
theorem day_bd {n : Int} (h0 : 0 ≤ n) (h1 : n < 73049) : 2000 ≤ dY n ∧ dY n ≤ 2199 ∧ 1 ≤ dM n ∧ dM n ≤ 12 ∧ 1 ≤ dD n ∧ dD n ≤ 31 := by
  have h := (dayOf_spec h0 h1).1
  have := h.y0; have := h.y1; have := h.m0; have := h.m1; have := h.d0; have := h.d1
  have := (dim_bd (dayOf n).1 (dayOf n).2.1 h.m0 h.m1).2
  unfold dY dM dD
  omega
def endT (y : Int) : Int := 86400 * num y 12 31
theorem year_ok {y : Int} (h0 : 2000 ≤ y) (h1 : y ≤ 2199) : toOk y 12 31 0 0 0 = true ∧ toN y 12 31 0 0 0 = endT y := by
  have hd : isDayB y 12 31 = true := by
    rw [isDayB]
    have : dim y 12 = 31 := by simp [dim]
    rw [this]; simp; omega
  have hok : toOk y 12 31 0 0 0 = true := by unfold toOk; rw [hd]; rfl
  refine ⟨hok, ?_⟩
  unfold toN endT
  rw [if_pos hok]; omega
theorem year_day {y : Int} (h0 : 2000 ≤ y) (h1 : y ≤ 2199) : IsDay y 12 31 := (isDayB_iff y 12 31).1 (by
  rw [isDayB]
  have : dim y 12 = 31 := by simp [dim]
  rw [this]; simp; omega)
theorem year_end {n : Int} (h0 : 0 ≤ n) (h1 : n < 73049) : n ≤ num (dY n) 12 31 ∧ num (dY n) 12 31 < 73049 ∧ 0 ≤ endT (dY n) ∧ endT (dY n) / 86400 = num (dY n) 12 31 ∧ endT (dY n) < 6311433600 ∧ ∀ k, n ≤ k → k ≤ num (dY n) 12 31 → dY k = dY n := by
  obtain ⟨a0, a1, _⟩ := day_bd h0 h1
  obtain ⟨hs, he⟩ := dayOf_spec h0 h1
  have hy := year_day a0 a1
  have hb := num_bd hy
  have hle : n ≤ num (dY n) 12 31 := by
    by_cases c : num (dY n) 12 31 < n
    · exfalso
      by_cases e : (dayOf n).2.1 = 12 ∧ (dayOf n).2.2 = 31
      · have h : num (dayOf n).1 12 31 = n := by have h := he; rw [e.1, e.2] at h; exact h
        exact absurd h (Int.ne_of_lt c)
      · have := num_lt hs hy (.inr ⟨rfl, by
          have := hs.m1; have := hs.d1
          have := (dim_bd (dayOf n).1 (dayOf n).2.1 hs.m0 hs.m1).2
          omega⟩)
        rw [he] at this
        omega
    · omega
  refine ⟨hle, hb.2, by unfold endT; omega, by unfold endT; omega, by unfold endT; omega, fun k hk1 hk2 => ?_⟩
  obtain ⟨ks, ke⟩ := dayOf_spec (n := k) (by omega) (by omega)
  rcases Int.lt_trichotomy (dayOf k).1 (dayOf n).1 with c | c | c
  · have := num_lt ks hs (.inl c)
    rw [ke, he] at this
    omega
  · exact c
  · have := num_lt hy ks (.inl c)
    rw [ke] at this
    omega
theorem skip_year {l : Cl} {x n : Int} (h0 : 0 ≤ n) (h1 : n < 73049) (h : NoneTo l x (n * 86400)) (hy : inF 0 l.yr (dY n) = false) : NoneTo l x ((num (dY n) 12 31 + 1) * 86400) :=
  none_more h fun s a b _ => by
    obtain ⟨_, c1, _, _, _, hk⟩ := year_end h0 h1
    have e := (sec_f (n := s / 86400) (s := s) (by omega) (by omega) (by omega) (by omega)).1
    rw [hk _ (by omega) (by omega)] at e
    unfold matchB numsB
    rw [e, hy]; simp
theorem skip_day {l : Cl} {x n : Int} (h0 : 0 ≤ n) (h1 : n < 73049) (h : NoneTo l x (n * 86400)) (hd : (inF 1 l.mo (dM n) && (inF 2 l.dy (dD n) && dayB l.ds (dW n))) = false) : NoneTo l x ((n + 1) * 86400) :=
  none_more h fun s a b _ => by
    obtain ⟨_, e2, e3, e4⟩ := sec_f h0 h1 a (by omega)
    unfold matchB numsB
    rw [e2, e3, e4]
    cases e1 : inF 1 l.mo (dM n) with
    | false => simp
    | true =>
      cases e5 : inF 2 l.dy (dD n) with
      | false => simp
      | true =>
        rw [e1, e5] at hd
        have : dayB l.ds (dW n) = false := by simpa using hd
        rw [this]; simp
def GoodDay (l : Cl) (n : Int) : Prop := mayC l = true ∧ inF 0 l.yr (dY n) = true ∧ inF 1 l.mo (dM n) = true ∧ inF 2 l.dy (dD n) = true ∧ dayB l.ds (dW n) = true
theorem match_in {l : Cl} {n s : Int} (h0 : 0 ≤ n) (h1 : n < 73049) (hg : GoodDay l n) (a : n * 86400 ≤ s) (b : s < n * 86400 + 86400) :
    matchB l s = (inF 3 l.hr ((s - n * 86400) / 3600) && (inF 4 l.mi ((s - n * 86400) % 3600 / 60) && inF 5 l.se ((s - n * 86400) % 60))) := by
  obtain ⟨g0, g1, g2, g3, g4⟩ := hg
  obtain ⟨e1, e2, e3, e4⟩ := sec_f h0 h1 a b
  obtain ⟨t1, _⟩ := sec_of h0 h1 a b
  unfold matchB numsB
  rw [g0, t1, e4, g4, e1, e2, e3, g1, g2, g3]
  have f1 : fH s = (s - n * 86400) / 3600 := by unfold fH; rw [if_pos t1]; omega
  have f2 : fI s = (s - n * 86400) % 3600 / 60 := by unfold fI; rw [if_pos t1]; omega
  have f3 : fS s = (s - n * 86400) % 60 := by unfold fS; rw [if_pos t1]; omega
  rw [f1, f2, f3]; simp
theorem skip_hour {l : Cl} {x n h : Int} (h0 : 0 ≤ n) (h1 : n < 73049) (hg : GoodDay l n) (a : 0 ≤ h) (b : h < 24) {t : Int} (ht : n * 86400 + h * 3600 ≤ t) (hn : NoneTo l x t) (hh : inF 3 l.hr h = false) : NoneTo l x (n * 86400 + (h + 1) * 3600) :=
  none_more hn fun s c d _ => by
    rw [match_in h0 h1 hg (by omega) (by omega), show (s - n * 86400) / 3600 = h by omega, hh]; rfl
theorem skip_min {l : Cl} {x n h m : Int} (h0 : 0 ≤ n) (h1 : n < 73049) (hg : GoodDay l n) (a : 0 ≤ h) (b : h < 24) (a2 : 0 ≤ m) (b2 : m < 60) {t : Int} (ht : n * 86400 + h * 3600 + m * 60 ≤ t) (hn : NoneTo l x t) (hm : inF 4 l.mi m = false) : NoneTo l x (n * 86400 + h * 3600 + (m + 1) * 60) :=
  none_more hn fun s c d _ => by
    rw [match_in h0 h1 hg (by omega) (by omega), show (s - n * 86400) % 3600 / 60 = m by omega, hm]; simp
theorem match_at {l : Cl} {n h m k : Int} (h0 : 0 ≤ n) (h1 : n < 73049) (hg : GoodDay l n) (a : 0 ≤ h) (b : h < 24) (a2 : 0 ≤ m) (b2 : m < 60) (a3 : 0 ≤ k) (b3 : k < 60) (hh : inF 3 l.hr h = true) (hm : inF 4 l.mi m = true) :
    matchB l (n * 86400 + h * 3600 + m * 60 + k) = inF 5 l.se k := by
  rw [match_in h0 h1 hg (by omega) (by omega), show (n * 86400 + h * 3600 + m * 60 + k - n * 86400) / 3600 = h by omega, show (n * 86400 + h * 3600 + m * 60 + k - n * 86400) % 3600 / 60 = m by omega, show (n * 86400 + h * 3600 + m * 60 + k - n * 86400) % 60 = k by omega, hh, hm]; simp
theorem skip_sec {l : Cl} {x n h m k : Int} (h0 : 0 ≤ n) (h1 : n < 73049) (hg : GoodDay l n) (a : 0 ≤ h) (b : h < 24) (a2 : 0 ≤ m) (b2 : m < 60) (a3 : 0 ≤ k) (b3 : k < 60) (hh : inF 3 l.hr h = true) (hm : inF 4 l.mi m = true)
    (hn : NoneTo l x (n * 86400 + h * 3600 + m * 60 + k)) (hk : inF 5 l.se k = false ∨ n * 86400 + h * 3600 + m * 60 + k ≤ x) : NoneTo l x (n * 86400 + h * 3600 + m * 60 + (k + 1)) :=
  none_more hn fun s c d e => by
    obtain rfl : s = n * 86400 + h * 3600 + m * 60 + k := by omega
    rw [match_at h0 h1 hg a b a2 b2 a3 b3 hh hm]
    rcases hk with hk | hk
    · exact hk
    · omega
end Go.Proofs.YtncolcjejgmhjaaGreatDoor
