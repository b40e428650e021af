/- Spans on plain lists of bytes: words, their sum, the written form, and that what is written is read as it was. It speaks -/
import Derived.Test.YteflddgcddcejaaGreatDoorCwaa
namespace Go.Proofs.YteflddgcddcejaaGreatDoor
def isDig (c : UInt8) : Bool := decide (48 ≤ c.toNat) && decide (c.toNat ≤ 57)
def unitL (s : List UInt8) : Nat :=
  if s = [] ∨ s = [115] ∨ s = [115, 101, 99] then 1
  else if s = [109] ∨ s = [109, 105, 110] then 60
  else if s = [104] ∨ s = [104, 114] then 3600
  else if s = [100] ∨ s = [100, 97, 121] then 86400
  else if s = [119] ∨ s = [119, 101, 101, 107] then 604800
  else 0
def valL (l : List UInt8) : Nat := l.foldl (fun n c => 10 * n + (c.toNat - 48)) 0
def wordV (w : List UInt8) : Option Nat :=
  if w.takeWhile isDig = [] ∨ 10 < (w.takeWhile isDig).length ∨ unitL (w.dropWhile isDig) = 0 then none
  else some (valL (w.takeWhile isDig) * unitL (w.dropWhile isDig))
def good (ws : List (List UInt8)) : Prop := ∀ w ∈ ws, (wordV w).isSome = true
def decL (n : Nat) : List UInt8 := if h : n < 10 then [UInt8.ofNat (48 + n)] else decL (n / 10) ++ [UInt8.ofNat (48 + n % 10)]
termination_by n
theorem decL_ne (n : Nat) : decL n ≠ [] := by
  rw [decL]; split <;> simp
theorem decL_len (k n : Nat) (h : n < 10 ^ (k + 1)) : (decL n).length ≤ k + 1 := by
  induction k generalizing n with
  | zero => rw [decL, dif_pos (by omega)]; simp
  | succ k ih =>
    rw [decL]
    split
    · simp
    · next h2 =>
      have : n / 10 < 10 ^ (k + 1) := by rw [Nat.pow_succ] at h; omega
      have := ih _ this
      simp; omega
end Go.Proofs.YteflddgcddcejaaGreatDoor
namespace Go.Proofs.YteflddgcddcejaaGreatDoor
theorem exists_day {n : Int} (h0 : 0 ≤ n) (h1 : n < 73049) : ∃ p : Int × Int × Int, IsDay p.1 p.2.1 p.2.2 ∧ num p.1 p.2.1 p.2.2 = n := by
  have key : ∀ k : Nat, k ≤ 200 → yst (2000 + (k : Int)) ≤ n ∨ ∃ p : Int × Int × Int, IsDay p.1 p.2.1 p.2.2 ∧ num p.1 p.2.1 p.2.2 = n := by
    intro k
    induction k with
    | zero => intro _; left; have := yst_2000; simp; omega
    | succ k ih =>
      intro hk
      rcases ih (by omega) with hm | hm
      · by_cases hlt : n < yst (2000 + (k : Int) + 1)
        · right
          obtain ⟨m, d, h, e⟩ := day_of_year (y := 2000 + (k : Int)) (by omega) (by omega) hm hlt
          exact ⟨(2000 + (k : Int), m, d), h, e⟩
        · left
          have : 2000 + ((k + 1 : Nat) : Int) = 2000 + (k : Int) + 1 := by omega
          rw [this]; omega
      · exact .inr hm
  rcases key 200 (by omega) with h | h
  · have : 2000 + ((200 : Nat) : Int) = 2200 := rfl
    rw [this, yst_2200] at h
    omega
  · exact h
noncomputable def dayOf (n : Int) : Int × Int × Int := Classical.epsilon fun p => IsDay p.1 p.2.1 p.2.2 ∧ num p.1 p.2.1 p.2.2 = n
theorem dayOf_spec {n : Int} (h0 : 0 ≤ n) (h1 : n < 73049) : IsDay (dayOf n).1 (dayOf n).2.1 (dayOf n).2.2 ∧ num (dayOf n).1 (dayOf n).2.1 (dayOf n).2.2 = n :=
  Classical.epsilon_spec (p := fun p : Int × Int × Int => IsDay p.1 p.2.1 p.2.2 ∧ num p.1 p.2.1 p.2.2 = n) (exists_day h0 h1)
def isT (t : Int) : Bool := decide (0 ≤ t ∧ t < 6311433600)
theorem isT_iff (t : Int) : isT t = true ↔ 0 ≤ t ∧ t < 6311433600 := by simp [isT]
noncomputable def fY (t : Int) : Int := if isT t = true then (dayOf (t / 86400)).1 else 0
noncomputable def fM (t : Int) : Int := if isT t = true then (dayOf (t / 86400)).2.1 else 0
noncomputable def fD (t : Int) : Int := if isT t = true then (dayOf (t / 86400)).2.2 else 0
def fH (t : Int) : Int := if isT t = true then t % 86400 / 3600 else 0
def fI (t : Int) : Int := if isT t = true then t % 3600 / 60 else 0
def fS (t : Int) : Int := if isT t = true then t % 60 else 0
def fW (t : Int) : Int := if isT t = true then (t / 86400 + 5) % 7 + 1 else 0
theorem date_of {t : Int} (h : isT t = true) : IsDate t (fY t) (fM t) (fD t) (fH t) (fI t) (fS t) (fW t) := by
  have hb := (isT_iff t).1 h
  obtain ⟨h1, h2⟩ := dayOf_spec (n := t / 86400) (by omega) (by omega)
  unfold fY fM fD fH fI fS fW
  simp only [if_pos h]
  exact ⟨h1, by omega, by omega, by omega, by omega, by omega, by omega, by omega, by rw [h2]⟩
theorem date_no {t : Int} (h : isT t = false) : fY t = 0 ∧ fM t = 0 ∧ fD t = 0 ∧ fH t = 0 ∧ fI t = 0 ∧ fS t = 0 ∧ fW t = 0 := by
  unfold fY fM fD fH fI fS fW
  simp [h]
theorem date_eq {t y m d hh mi ss wd : Int} (h : IsDate t y m d hh mi ss wd) : isT t = true ∧ fY t = y ∧ fM t = m ∧ fD t = d ∧ fH t = hh ∧ fI t = mi ∧ fS t = ss ∧ fW t = wd := by
  have hb := h.bd
  have ht := (isT_iff t).2 hb
  obtain ⟨a, b, c, e, f, g, i⟩ := (date_of ht).inj h
  exact ⟨ht, a, b, c, e, f, g, i⟩
def isDayB (y m d : Int) : Bool := decide (2000 ≤ y ∧ y ≤ 2199 ∧ 1 ≤ d ∧ d ≤ dim y m)
theorem isDayB_iff (y m d : Int) : isDayB y m d = true ↔ IsDay y m d := by
  unfold isDayB
  simp only [decide_eq_true_eq]
  constructor
  · rintro ⟨a, b, c, e⟩
    have : 1 ≤ m ∧ m ≤ 12 := by
      by_cases hm : m < 1 ∨ 12 < m
      · have := dim_none y m hm; omega
      · omega
    exact ⟨a, b, this.1, this.2, c, e⟩
  · rintro ⟨a, b, c, e, f, g⟩
    exact ⟨a, b, f, g⟩
def isClB (hh mi ss : Int) : Bool := decide (0 ≤ hh ∧ hh ≤ 23 ∧ 0 ≤ mi ∧ mi ≤ 59 ∧ 0 ≤ ss ∧ ss ≤ 59)
theorem isClB_iff (hh mi ss : Int) : isClB hh mi ss = true ↔ 0 ≤ hh ∧ hh ≤ 23 ∧ 0 ≤ mi ∧ mi ≤ 59 ∧ 0 ≤ ss ∧ ss ≤ 59 := by simp [isClB]
def toOk (y m d hh mi ss : Int) : Bool := isDayB y m d && isClB hh mi ss
def toN (y m d hh mi ss : Int) : Int := if toOk y m d hh mi ss = true then 86400 * num y m d + 3600 * hh + 60 * mi + ss else 0
theorem to_date {y m d hh mi ss : Int} (h : toOk y m d hh mi ss = true) : IsDate (toN y m d hh mi ss) y m d hh mi ss ((num y m d + 5) % 7 + 1) := by
  have e : toN y m d hh mi ss = 86400 * num y m d + 3600 * hh + 60 * mi + ss := if_pos h
  unfold toOk at h
  rw [Bool.and_eq_true] at h
  have h1 := (isDayB_iff y m d).1 h.1
  obtain ⟨a, b, c, f, g, i⟩ := (isClB_iff hh mi ss).1 h.2
  exact ⟨h1, a, b, c, f, g, i, e, rfl⟩
theorem to_no {y m d hh mi ss : Int} (h : toOk y m d hh mi ss = false) : toN y m d hh mi ss = 0 := by unfold toN; rw [h]; rfl
theorem to_of {t y m d hh mi ss wd : Int} (h : IsDate t y m d hh mi ss wd) : toOk y m d hh mi ss = true ∧ toN y m d hh mi ss = t := by
  obtain ⟨hd, h0, h1, m0, m1, s0, s1, te, we⟩ := h
  have : toOk y m d hh mi ss = true := by
    unfold toOk
    rw [(isDayB_iff y m d).2 hd, (isClB_iff hh mi ss).2 ⟨h0, h1, m0, m1, s0, s1⟩]; rfl
  exact ⟨this, by unfold toN; rw [if_pos this, te]⟩
end Go.Proofs.YteflddgcddcejaaGreatDoor
namespace Go.Proofs.YteflddgcddcejaaGreatDoor
structure Pt where
  a : Int
  b : Int
  s : Int
structure Cl where
  ds : List Int
  yr : List Pt
  mo : List Pt
  dy : List Pt
  hr : List Pt
  mi : List Pt
  se : List Pt
def lo : Nat → Int
  | 0 => 2000
  | 1 => 1
  | 2 => 1
  | _ => 0
def hi : Nat → Int
  | 0 => 2199
  | 1 => 12
  | 2 => 31
  | 3 => 23
  | _ => 59
theorem lo_bd (f : Nat) : 0 ≤ lo f ∧ lo f ≤ hi f ∧ hi f ≤ 2199 := by
  match f with
  | 0 => decide
  | 1 => decide
  | 2 => decide
  | 3 => decide
  | n + 4 => exact (show (0 : Int) ≤ 0 ∧ (0 : Int) ≤ 59 ∧ (59 : Int) ≤ 2199 by decide)
def Cl.fld (c : Cl) : Nat → List Pt
  | 0 => c.yr
  | 1 => c.mo
  | 2 => c.dy
  | 3 => c.hr
  | 4 => c.mi
  | _ => c.se
def mayP (f : Nat) (p : Pt) : Bool := decide (0 ≤ p.s ∧ p.s ≤ 9999 ∧ (p.a = -1 ∧ p.b = -1 ∨ lo f ≤ p.a ∧ p.a ≤ hi f ∧ (p.b = -1 ∨ p.a ≤ p.b ∧ p.b ≤ hi f)))
theorem mayP_iff (f : Nat) (p : Pt) : mayP f p = true ↔ 0 ≤ p.s ∧ p.s ≤ 9999 ∧ (p.a = -1 ∧ p.b = -1 ∨ lo f ≤ p.a ∧ p.a ≤ hi f ∧ (p.b = -1 ∨ p.a ≤ p.b ∧ p.b ≤ hi f)) := by simp [mayP]
def mayF (f : Nat) (l : List Pt) : Bool := decide (1 ≤ l.length ∧ l.length ≤ 4) && l.all (mayP f)
theorem mayF_iff (f : Nat) (l : List Pt) : mayF f l = true ↔ (1 ≤ l.length ∧ l.length ≤ 4) ∧ ∀ p ∈ l, mayP f p = true := by simp [mayF]
def risesB : Int → List Int → Bool
  | _, [] => true
  | x, d :: r => decide (x < d ∧ d ≤ 7) && risesB d r
def mayC (c : Cl) : Bool := risesB 0 c.ds && (mayF 0 c.yr && (mayF 1 c.mo && (mayF 2 c.dy && (mayF 3 c.hr && (mayF 4 c.mi && mayF 5 c.se)))))
theorem mayC_iff (c : Cl) : mayC c = true ↔ risesB 0 c.ds = true ∧ mayF 0 c.yr = true ∧ mayF 1 c.mo = true ∧ mayF 2 c.dy = true ∧ mayF 3 c.hr = true ∧ mayF 4 c.mi = true ∧ mayF 5 c.se = true := by
  simp [mayC]
def ptA (f : Nat) (p : Pt) : Int := if p.a = -1 then lo f else p.a
def ptB (f : Nat) (p : Pt) : Int := if p.a = -1 then hi f else if p.b = -1 then (if p.s = 0 then p.a else hi f) else p.b
def ptS (p : Pt) : Int := max p.s 1
def inP (f : Nat) (p : Pt) (n : Int) : Bool := decide (ptA f p ≤ n ∧ n ≤ ptB f p ∧ (n - ptA f p) % ptS p = 0)
theorem inP_iff (f : Nat) (p : Pt) (n : Int) : inP f p n = true ↔ ptA f p ≤ n ∧ n ≤ ptB f p ∧ (n - ptA f p) % ptS p = 0 := by simp [inP]
def inF (f : Nat) (l : List Pt) (n : Int) : Bool := l.any fun p => inP f p n
def dayB (ds : List Int) (wd : Int) : Bool := ds.isEmpty || ds.contains wd
noncomputable def numsB (c : Cl) (t : Int) : Bool :=
  inF 0 c.yr (fY t) && (inF 1 c.mo (fM t) && (inF 2 c.dy (fD t) && (inF 3 c.hr (fH t) && (inF 4 c.mi (fI t) && inF 5 c.se (fS t)))))
noncomputable def matchB (c : Cl) (t : Int) : Bool := mayC c && (isT t && (dayB c.ds (fW t) && numsB c t))
theorem matchB_iff (c : Cl) (t : Int) : matchB c t = true ↔ mayC c = true ∧ isT t = true ∧ dayB c.ds (fW t) = true ∧ numsB c t = true := by simp [matchB]
theorem match_bd {c : Cl} {t : Int} (h : matchB c t = true) : 0 ≤ t ∧ t < 6311433600 := (isT_iff t).1 ((matchB_iff c t).1 h).2.1
def IsNext (c : Cl) (x : Int) : Option Int → Prop
  | some t => x < t ∧ matchB c t = true ∧ ∀ s, x < s → s < t → matchB c s = false
  | none => ∀ s, x < s → matchB c s = false
theorem IsNext.uniq {c : Cl} {x : Int} {o o' : Option Int} (h : IsNext c x o) (h' : IsNext c x o') : o = o' := by
  cases o with
  | none => cases o' with
    | none => rfl
    | some t' => have := h t' h'.1; rw [h'.2.1] at this; cases this
  | some t => cases o' with
    | none => have := h' t h.1; rw [h.2.1] at this; cases this
    | some t' =>
      rcases Int.lt_trichotomy t t' with l | l | l
      · have := h'.2.2 t h.1 l; rw [h.2.1] at this; cases this
      · rw [l]
      · have := h.2.2 t' h'.1 l; rw [h'.2.1] at this; cases this
theorem next_exists (c : Cl) (x : Int) : ∃ o, IsNext c x o := by
  have key : ∀ k : Nat, (∃ o, IsNext c x o) ∨ ∀ s, x < s → s ≤ x + k → matchB c s = false := by
    intro k
    induction k with
    | zero => right; intro s h1 h2; omega
    | succ k ih =>
      rcases ih with h | h
      · exact .inl h
      · rcases hm : matchB c (x + k + 1) with _ | _
        · right
          intro s h1 h2
          by_cases e : s = x + k + 1
          · rw [e]; exact hm
          · exact h s h1 (by omega)
        · left
          exact ⟨some (x + k + 1), by omega, hm, fun s h1 h2 => h s h1 (by omega)⟩
  rcases key (6311433600 - x).toNat with h | h
  · exact h
  · refine ⟨none, fun s hs => ?_⟩
    rcases hm : matchB c s with _ | _
    · rfl
    · have := match_bd hm
      have := h s hs (by omega)
      rw [hm] at this; cases this
noncomputable def nextO (c : Cl) (x : Int) : Option Int := Classical.epsilon (IsNext c x)
theorem nextO_spec (c : Cl) (x : Int) : IsNext c x (nextO c x) := Classical.epsilon_spec (next_exists c x)
theorem nextO_eq {c : Cl} {x : Int} {o : Option Int} (h : IsNext c x o) : nextO c x = o := (nextO_spec c x).uniq h
noncomputable def nextN (c : Cl) (x : Int) : Int := (nextO c x).getD 0
noncomputable def nextOk (c : Cl) (x : Int) : Bool := (nextO c x).isSome
theorem next_is {c : Cl} {x t : Int} (h1 : x < t) (h2 : matchB c t = true) (h3 : ∀ s, x < s → s < t → matchB c s = false) : nextN c x = t ∧ nextOk c x = true := by
  have := nextO_eq (o := some t) (x := x) (c := c) ⟨h1, h2, h3⟩
  unfold nextN nextOk
  rw [this]; exact ⟨rfl, rfl⟩
theorem next_none {c : Cl} {x : Int} (h : ∀ s, x < s → matchB c s = false) : nextN c x = 0 ∧ nextOk c x = false := by
  have := nextO_eq (o := none) (x := x) (c := c) h
  unfold nextN nextOk
  rw [this]; exact ⟨rfl, rfl⟩
theorem inF_app (f : Nat) (p q : List Pt) (n : Int) : inF f (p ++ q) n = (inF f p n || inF f q n) := by unfold inF; rw [List.any_append]
def Cl.put (c : Cl) (f : Nat) (l : List Pt) : Cl :=
  match f with
  | 0 => { c with yr := l }
  | 1 => { c with mo := l }
  | 2 => { c with dy := l }
  | 3 => { c with hr := l }
  | 4 => { c with mi := l }
  | _ => { c with se := l }
end Go.Proofs.YteflddgcddcejaaGreatDoor
