/- Spans on plain lists of bytes: words, their sum, the written form, and that what is written is read as it was. It speaks -/
import Derived.Test.YtncolcjejgmhjaaGreatDoorCxaa
namespace Go.Proofs.YtncolcjejgmhjaaGreatDoor
def isDig (c : UInt8) : Bool := decide (48 ≤ c.toNat) && decide (c.toNat ≤ 57)
def unitL (s : List UInt8) : Nat :=
  if s = [] ∨ s = [115] ∨ s = [115, 101, 99] then 1
  else if s = [109] ∨ s = [109, 105, 110] then 60
  else if s = [104] ∨ s = [104, 114] then 3600
  else if s = [100] ∨ s = [100, 97, 121] then 86400
  else if s = [119] ∨ s = [119, 101, 101, 107] then 604800
  else 0
def valL (l : List UInt8) : Nat := l.foldl (fun n c => 10 * n + (c.toNat - 48)) 0
def wordV (w : List UInt8) : Option Nat :=
  if w.takeWhile isDig = [] ∨ 10 < (w.takeWhile isDig).length ∨ unitL (w.dropWhile isDig) = 0 then none
  else some (valL (w.takeWhile isDig) * unitL (w.dropWhile isDig))
def good (ws : List (List UInt8)) : Prop := ∀ w ∈ ws, (wordV w).isSome = true
def decL (n : Nat) : List UInt8 := if h : n < 10 then [UInt8.ofNat (48 + n)] else decL (n / 10) ++ [UInt8.ofNat (48 + n % 10)]
termination_by n
theorem decL_ne (n : Nat) : decL n ≠ [] := by
  rw [decL]; split <;> simp
theorem decL_len (k n : Nat) (h : n < 10 ^ (k + 1)) : (decL n).length ≤ k + 1 := by
  induction k generalizing n with
  | zero => rw [decL, dif_pos (by omega)]; simp
  | succ k ih =>
    rw [decL]
    split
    · simp
    · next h2 =>
      have : n / 10 < 10 ^ (k + 1) := by rw [Nat.pow_succ] at h; omega
      have := ih _ this
      simp; omega
end Go.Proofs.YtncolcjejgmhjaaGreatDoor
namespace Go.Proofs.YtncolcjejgmhjaaGreatDoor
theorem exists_day {n : Int} (h0 : 0 ≤ n) (h1 : n < 73049) : ∃ p : Int × Int × Int, IsDay p.1 p.2.1 p.2.2 ∧ num p.1 p.2.1 p.2.2 = n := by
  have key : ∀ k : Nat, k ≤ 200 → yst (2000 + (k : Int)) ≤ n ∨ ∃ p : Int × Int × Int, IsDay p.1 p.2.1 p.2.2 ∧ num p.1 p.2.1 p.2.2 = n := by
    intro k
    induction k with
    | zero => intro _; left; have := yst_2000; simp; omega
    | succ k ih =>
      intro hk
      rcases ih (by omega) with hm | hm
      · by_cases hlt : n < yst (2000 + (k : Int) + 1)
        · right
          obtain ⟨m, d, h, e⟩ := day_of_year (y := 2000 + (k : Int)) (by omega) (by omega) hm hlt
          exact ⟨(2000 + (k : Int), m, d), h, e⟩
        · left
          have : 2000 + ((k + 1 : Nat) : Int) = 2000 + (k : Int) + 1 := by omega
          rw [this]; omega
      · exact .inr hm
  rcases key 200 (by omega) with h | h
  · have : 2000 + ((200 : Nat) : Int) = 2200 := rfl
    rw [this, yst_2200] at h
    omega
  · exact h
noncomputable def dayOf (n : Int) : Int × Int × Int := Classical.epsilon fun p => IsDay p.1 p.2.1 p.2.2 ∧ num p.1 p.2.1 p.2.2 = n
theorem dayOf_spec {n : Int} (h0 : 0 ≤ n) (h1 : n < 73049) : IsDay (dayOf n).1 (dayOf n).2.1 (dayOf n).2.2 ∧ num (dayOf n).1 (dayOf n).2.1 (dayOf n).2.2 = n :=
  Classical.epsilon_spec (p := fun p : Int × Int × Int => IsDay p.1 p.2.1 p.2.2 ∧ num p.1 p.2.1 p.2.2 = n) (exists_day h0 h1)
def isT (t : Int) : Bool := decide (0 ≤ t ∧ t < 6311433600)
theorem isT_iff (t : Int) : isT t = true ↔ 0 ≤ t ∧ t < 6311433600 := by simp [isT]
noncomputable def fY (t : Int) : Int := if isT t = true then (dayOf (t / 86400)).1 else 0
noncomputable def fM (t : Int) : Int := if isT t = true then (dayOf (t / 86400)).2.1 else 0
noncomputable def fD (t : Int) : Int := if isT t = true then (dayOf (t / 86400)).2.2 else 0
def fH (t : Int) : Int := if isT t = true then t % 86400 / 3600 else 0
def fI (t : Int) : Int := if isT t = true then t % 3600 / 60 else 0
def fS (t : Int) : Int := if isT t = true then t % 60 else 0
def fW (t : Int) : Int := if isT t = true then (t / 86400 + 5) % 7 + 1 else 0
theorem date_of {t : Int} (h : isT t = true) : IsDate t (fY t) (fM t) (fD t) (fH t) (fI t) (fS t) (fW t) := by
  have hb := (isT_iff t).1 h
  obtain ⟨h1, h2⟩ := dayOf_spec (n := t / 86400) (by omega) (by omega)
  unfold fY fM fD fH fI fS fW
  simp only [if_pos h]
  exact ⟨h1, by omega, by omega, by omega, by omega, by omega, by omega, by omega, by rw [h2]⟩
theorem date_no {t : Int} (h : isT t = false) : fY t = 0 ∧ fM t = 0 ∧ fD t = 0 ∧ fH t = 0 ∧ fI t = 0 ∧ fS t = 0 ∧ fW t = 0 := by
  unfold fY fM fD fH fI fS fW
  simp [h]
theorem date_eq {t y m d hh mi ss wd : Int} (h : IsDate t y m d hh mi ss wd) : isT t = true ∧ fY t = y ∧ fM t = m ∧ fD t = d ∧ fH t = hh ∧ fI t = mi ∧ fS t = ss ∧ fW t = wd := by
  have hb := h.bd
  have ht := (isT_iff t).2 hb
  obtain ⟨a, b, c, e, f, g, i⟩ := (date_of ht).inj h
  exact ⟨ht, a, b, c, e, f, g, i⟩
def isDayB (y m d : Int) : Bool := decide (2000 ≤ y ∧ y ≤ 2199 ∧ 1 ≤ d ∧ d ≤ dim y m)
theorem isDayB_iff (y m d : Int) : isDayB y m d = true ↔ IsDay y m d := by
  unfold isDayB
  simp only [decide_eq_true_eq]
  constructor
  · rintro ⟨a, b, c, e⟩
    have : 1 ≤ m ∧ m ≤ 12 := by
      by_cases hm : m < 1 ∨ 12 < m
      · have := dim_none y m hm; omega
      · omega
    exact ⟨a, b, this.1, this.2, c, e⟩
  · rintro ⟨a, b, c, e, f, g⟩
    exact ⟨a, b, f, g⟩
def isClB (hh mi ss : Int) : Bool := decide (0 ≤ hh ∧ hh ≤ 23 ∧ 0 ≤ mi ∧ mi ≤ 59 ∧ 0 ≤ ss ∧ ss ≤ 59)
theorem isClB_iff (hh mi ss : Int) : isClB hh mi ss = true ↔ 0 ≤ hh ∧ hh ≤ 23 ∧ 0 ≤ mi ∧ mi ≤ 59 ∧ 0 ≤ ss ∧ ss ≤ 59 := by simp [isClB]
def toOk (y m d hh mi ss : Int) : Bool := isDayB y m d && isClB hh mi ss
def toN (y m d hh mi ss : Int) : Int := if toOk y m d hh mi ss = true then 86400 * num y m d + 3600 * hh + 60 * mi + ss else 0
theorem to_date {y m d hh mi ss : Int} (h : toOk y m d hh mi ss = true) : IsDate (toN y m d hh mi ss) y m d hh mi ss ((num y m d + 5) % 7 + 1) := by
  have e : toN y m d hh mi ss = 86400 * num y m d + 3600 * hh + 60 * mi + ss := if_pos h
  unfold toOk at h
  rw [Bool.and_eq_true] at h
  have h1 := (isDayB_iff y m d).1 h.1
  obtain ⟨a, b, c, f, g, i⟩ := (isClB_iff hh mi ss).1 h.2
  exact ⟨h1, a, b, c, f, g, i, e, rfl⟩
theorem to_no {y m d hh mi ss : Int} (h : toOk y m d hh mi ss = false) : toN y m d hh mi ss = 0 := by unfold toN; rw [h]; rfl
theorem to_of {t y m d hh mi ss wd : Int} (h : IsDate t y m d hh mi ss wd) : toOk y m d hh mi ss = true ∧ toN y m d hh mi ss = t := by
  obtain ⟨hd, h0, h1, m0, m1, s0, s1, te, we⟩ := h
  have : toOk y m d hh mi ss = true := by
    unfold toOk
    rw [(isDayB_iff y m d).2 hd, (isClB_iff hh mi ss).2 ⟨h0, h1, m0, m1, s0, s1⟩]; rfl
  exact ⟨this, by unfold toN; rw [if_pos this, te]⟩
end Go.Proofs.YtncolcjejgmhjaaGreatDoor
