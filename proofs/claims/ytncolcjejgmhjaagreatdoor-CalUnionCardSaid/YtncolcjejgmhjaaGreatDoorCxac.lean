/- Calendars on plain lists: whether one may be, whether it has a second, which second is the next; the laws of chapter 4 t -/
import Derived.Test.YtncolcjejgmhjaaGreatDoorCxab
namespace Go.Proofs.YtncolcjejgmhjaaGreatDoor
structure Pt where
  a : Int
  b : Int
  s : Int
structure Cl where
  ds : List Int
  yr : List Pt
  mo : List Pt
  dy : List Pt
  hr : List Pt
  mi : List Pt
  se : List Pt
def lo : Nat → Int
  | 0 => 2000
  | 1 => 1
  | 2 => 1
  | _ => 0
def hi : Nat → Int
  | 0 => 2199
  | 1 => 12
  | 2 => 31
  | 3 => 23
  | _ => 59
theorem lo_bd (f : Nat) : 0 ≤ lo f ∧ lo f ≤ hi f ∧ hi f ≤ 2199 := by
  match f with
  | 0 => decide
  | 1 => decide
  | 2 => decide
  | 3 => decide
  | n + 4 => exact (show (0 : Int) ≤ 0 ∧ (0 : Int) ≤ 59 ∧ (59 : Int) ≤ 2199 by decide)
def Cl.fld (c : Cl) : Nat → List Pt
  | 0 => c.yr
  | 1 => c.mo
  | 2 => c.dy
  | 3 => c.hr
  | 4 => c.mi
  | _ => c.se
def mayP (f : Nat) (p : Pt) : Bool := decide (0 ≤ p.s ∧ p.s ≤ 9999 ∧ (p.a = -1 ∧ p.b = -1 ∨ lo f ≤ p.a ∧ p.a ≤ hi f ∧ (p.b = -1 ∨ p.a ≤ p.b ∧ p.b ≤ hi f)))
theorem mayP_iff (f : Nat) (p : Pt) : mayP f p = true ↔ 0 ≤ p.s ∧ p.s ≤ 9999 ∧ (p.a = -1 ∧ p.b = -1 ∨ lo f ≤ p.a ∧ p.a ≤ hi f ∧ (p.b = -1 ∨ p.a ≤ p.b ∧ p.b ≤ hi f)) := by simp [mayP]
def mayF (f : Nat) (l : List Pt) : Bool := decide (1 ≤ l.length ∧ l.length ≤ 4) && l.all (mayP f)
theorem mayF_iff (f : Nat) (l : List Pt) : mayF f l = true ↔ (1 ≤ l.length ∧ l.length ≤ 4) ∧ ∀ p ∈ l, mayP f p = true := by simp [mayF]
def risesB : Int → List Int → Bool
  | _, [] => true
  | x, d :: r => decide (x < d ∧ d ≤ 7) && risesB d r
def mayC (c : Cl) : Bool := risesB 0 c.ds && (mayF 0 c.yr && (mayF 1 c.mo && (mayF 2 c.dy && (mayF 3 c.hr && (mayF 4 c.mi && mayF 5 c.se)))))
theorem mayC_iff (c : Cl) : mayC c = true ↔ risesB 0 c.ds = true ∧ mayF 0 c.yr = true ∧ mayF 1 c.mo = true ∧ mayF 2 c.dy = true ∧ mayF 3 c.hr = true ∧ mayF 4 c.mi = true ∧ mayF 5 c.se = true := by
  simp [mayC]
def ptA (f : Nat) (p : Pt) : Int := if p.a = -1 then lo f else p.a
def ptB (f : Nat) (p : Pt) : Int := if p.a = -1 then hi f else if p.b = -1 then (if p.s = 0 then p.a else hi f) else p.b
def ptS (p : Pt) : Int := max p.s 1
def inP (f : Nat) (p : Pt) (n : Int) : Bool := decide (ptA f p ≤ n ∧ n ≤ ptB f p ∧ (n - ptA f p) % ptS p = 0)
theorem inP_iff (f : Nat) (p : Pt) (n : Int) : inP f p n = true ↔ ptA f p ≤ n ∧ n ≤ ptB f p ∧ (n - ptA f p) % ptS p = 0 := by simp [inP]
def inF (f : Nat) (l : List Pt) (n : Int) : Bool := l.any fun p => inP f p n
def dayB (ds : List Int) (wd : Int) : Bool := ds.isEmpty || ds.contains wd
noncomputable def numsB (c : Cl) (t : Int) : Bool :=
  inF 0 c.yr (fY t) && (inF 1 c.mo (fM t) && (inF 2 c.dy (fD t) && (inF 3 c.hr (fH t) && (inF 4 c.mi (fI t) && inF 5 c.se (fS t)))))
noncomputable def matchB (c : Cl) (t : Int) : Bool := mayC c && (isT t && (dayB c.ds (fW t) && numsB c t))
theorem matchB_iff (c : Cl) (t : Int) : matchB c t = true ↔ mayC c = true ∧ isT t = true ∧ dayB c.ds (fW t) = true ∧ numsB c t = true := by simp [matchB]
theorem match_bd {c : Cl} {t : Int} (h : matchB c t = true) : 0 ≤ t ∧ t < 6311433600 := (isT_iff t).1 ((matchB_iff c t).1 h).2.1
def IsNext (c : Cl) (x : Int) : Option Int → Prop
  | some t => x < t ∧ matchB c t = true ∧ ∀ s, x < s → s < t → matchB c s = false
  | none => ∀ s, x < s → matchB c s = false
theorem IsNext.uniq {c : Cl} {x : Int} {o o' : Option Int} (h : IsNext c x o) (h' : IsNext c x o') : o = o' := by
  cases o with
  | none => cases o' with
    | none => rfl
    | some t' => have := h t' h'.1; rw [h'.2.1] at this; cases this
  | some t => cases o' with
    | none => have := h' t h.1; rw [h.2.1] at this; cases this
    | some t' =>
      rcases Int.lt_trichotomy t t' with l | l | l
      · have := h'.2.2 t h.1 l; rw [h.2.1] at this; cases this
      · rw [l]
      · have := h.2.2 t' h'.1 l; rw [h'.2.1] at this; cases this
theorem next_exists (c : Cl) (x : Int) : ∃ o, IsNext c x o := by
  have key : ∀ k : Nat, (∃ o, IsNext c x o) ∨ ∀ s, x < s → s ≤ x + k → matchB c s = false := by
    intro k
    induction k with
    | zero => right; intro s h1 h2; omega
    | succ k ih =>
      rcases ih with h | h
      · exact .inl h
      · rcases hm : matchB c (x + k + 1) with _ | _
        · right
          intro s h1 h2
          by_cases e : s = x + k + 1
          · rw [e]; exact hm
          · exact h s h1 (by omega)
        · left
          exact ⟨some (x + k + 1), by omega, hm, fun s h1 h2 => h s h1 (by omega)⟩
  rcases key (6311433600 - x).toNat with h | h
  · exact h
  · refine ⟨none, fun s hs => ?_⟩
    rcases hm : matchB c s with _ | _
    · rfl
    · have := match_bd hm
      have := h s hs (by omega)
      rw [hm] at this; cases this
noncomputable def nextO (c : Cl) (x : Int) : Option Int := Classical.epsilon (IsNext c x)
theorem nextO_spec (c : Cl) (x : Int) : IsNext c x (nextO c x) := Classical.epsilon_spec (next_exists c x)
theorem nextO_eq {c : Cl} {x : Int} {o : Option Int} (h : IsNext c x o) : nextO c x = o := (nextO_spec c x).uniq h
noncomputable def nextN (c : Cl) (x : Int) : Int := (nextO c x).getD 0
noncomputable def nextOk (c : Cl) (x : Int) : Bool := (nextO c x).isSome
theorem next_yes {c : Cl} {x : Int} (h : nextOk c x = true) : x < nextN c x ∧ matchB c (nextN c x) = true ∧ ∀ s, x < s → s < nextN c x → matchB c s = false := by
  have hs := nextO_spec c x
  unfold nextOk at h
  unfold nextN
  cases e : nextO c x with
  | none => rw [e] at h; cases h
  | some t => rw [e] at hs; exact hs
theorem next_no {c : Cl} {x : Int} (h : nextOk c x = false) : nextN c x = 0 ∧ ∀ s, x < s → matchB c s = false := by
  have hs := nextO_spec c x
  unfold nextOk at h
  unfold nextN
  cases e : nextO c x with
  | none => rw [e] at hs; exact ⟨rfl, hs⟩
  | some t => rw [e] at h; cases h
theorem next_is {c : Cl} {x t : Int} (h1 : x < t) (h2 : matchB c t = true) (h3 : ∀ s, x < s → s < t → matchB c s = false) : nextN c x = t ∧ nextOk c x = true := by
  have := nextO_eq (o := some t) (x := x) (c := c) ⟨h1, h2, h3⟩
  unfold nextN nextOk
  rw [this]; exact ⟨rfl, rfl⟩
theorem next_none {c : Cl} {x : Int} (h : ∀ s, x < s → matchB c s = false) : nextN c x = 0 ∧ nextOk c x = false := by
  have := nextO_eq (o := none) (x := x) (c := c) h
  unfold nextN nextOk
  rw [this]; exact ⟨rfl, rfl⟩
theorem inF_app (f : Nat) (p q : List Pt) (n : Int) : inF f (p ++ q) n = (inF f p n || inF f q n) := by unfold inF; rw [List.any_append]
theorem mayF_app {f : Nat} {p q : List Pt} (hp : 1 ≤ p.length) (hq : 1 ≤ q.length) (h : p.length + q.length ≤ 4) : mayF f (p ++ q) = (mayF f p && mayF f q) := by
  unfold mayF
  rw [List.all_append, List.length_append, decide_eq_true (show 1 ≤ p.length + q.length ∧ p.length + q.length ≤ 4 by omega), decide_eq_true (show 1 ≤ p.length ∧ p.length ≤ 4 by omega), decide_eq_true (show 1 ≤ q.length ∧ q.length ≤ 4 by omega)]
  simp
def Cl.put (c : Cl) (f : Nat) (l : List Pt) : Cl :=
  match f with
  | 0 => { c with yr := l }
  | 1 => { c with mo := l }
  | 2 => { c with dy := l }
  | 3 => { c with hr := l }
  | 4 => { c with mi := l }
  | _ => { c with se := l }
theorem union_may (c : Cl) (f : Nat) {p q : List Pt} (hp : 1 ≤ p.length) (hq : 1 ≤ q.length) (h : p.length + q.length ≤ 4) : mayC (c.put f (p ++ q)) = (mayC (c.put f p) && mayC (c.put f q)) := by
  have a : ∀ g, mayF g (p ++ q) = (mayF g p && mayF g q) := fun g => mayF_app hp hq h
  match f with
  | 0 => simp only [Cl.put, mayC, a]; cases risesB 0 c.ds <;> cases mayF 0 p <;> cases mayF 0 q <;> cases mayF 1 c.mo <;> cases mayF 2 c.dy <;> cases mayF 3 c.hr <;> cases mayF 4 c.mi <;> cases mayF 5 c.se <;> rfl
  | 1 => simp only [Cl.put, mayC, a]; cases risesB 0 c.ds <;> cases mayF 1 p <;> cases mayF 1 q <;> cases mayF 0 c.yr <;> cases mayF 2 c.dy <;> cases mayF 3 c.hr <;> cases mayF 4 c.mi <;> cases mayF 5 c.se <;> rfl
  | 2 => simp only [Cl.put, mayC, a]; cases risesB 0 c.ds <;> cases mayF 2 p <;> cases mayF 2 q <;> cases mayF 0 c.yr <;> cases mayF 1 c.mo <;> cases mayF 3 c.hr <;> cases mayF 4 c.mi <;> cases mayF 5 c.se <;> rfl
  | 3 => simp only [Cl.put, mayC, a]; cases risesB 0 c.ds <;> cases mayF 3 p <;> cases mayF 3 q <;> cases mayF 0 c.yr <;> cases mayF 1 c.mo <;> cases mayF 2 c.dy <;> cases mayF 4 c.mi <;> cases mayF 5 c.se <;> rfl
  | 4 => simp only [Cl.put, mayC, a]; cases risesB 0 c.ds <;> cases mayF 4 p <;> cases mayF 4 q <;> cases mayF 0 c.yr <;> cases mayF 1 c.mo <;> cases mayF 2 c.dy <;> cases mayF 3 c.hr <;> cases mayF 5 c.se <;> rfl
  | n + 5 => simp only [Cl.put, mayC, a]; cases risesB 0 c.ds <;> cases mayF 5 p <;> cases mayF 5 q <;> cases mayF 0 c.yr <;> cases mayF 1 c.mo <;> cases mayF 2 c.dy <;> cases mayF 3 c.hr <;> cases mayF 4 c.mi <;> rfl
theorem union_match (c : Cl) (f : Nat) {p q : List Pt} (hp : 1 ≤ p.length) (hq : 1 ≤ q.length) (h : p.length + q.length ≤ 4) (hm : mayC (c.put f (p ++ q)) = true) (t : Int) :
    matchB (c.put f (p ++ q)) t = (matchB (c.put f p) t || matchB (c.put f q) t) := by
  have h1 := union_may c f hp hq h
  rw [hm] at h1
  have h1 := h1.symm
  rw [Bool.and_eq_true] at h1
  unfold matchB
  rw [hm, h1.1, h1.2]
  match f with
  | 0 => simp only [Cl.put, numsB, inF_app]; cases isT t <;> cases dayB c.ds (fW t) <;> cases inF 0 p (fY t) <;> cases inF 0 q (fY t) <;> simp
  | 1 => simp only [Cl.put, numsB, inF_app]; cases isT t <;> cases dayB c.ds (fW t) <;> cases inF 1 p (fM t) <;> cases inF 1 q (fM t) <;> simp
  | 2 => simp only [Cl.put, numsB, inF_app]; cases isT t <;> cases dayB c.ds (fW t) <;> cases inF 2 p (fD t) <;> cases inF 2 q (fD t) <;> simp
  | 3 => simp only [Cl.put, numsB, inF_app]; cases isT t <;> cases dayB c.ds (fW t) <;> cases inF 3 p (fH t) <;> cases inF 3 q (fH t) <;> simp
  | 4 => simp only [Cl.put, numsB, inF_app]; cases isT t <;> cases dayB c.ds (fW t) <;> cases inF 4 p (fI t) <;> cases inF 4 q (fI t) <;> simp
  | n + 5 => simp only [Cl.put, numsB, inF_app]; cases isT t <;> cases dayB c.ds (fW t) <;> cases inF 5 p (fS t) <;> cases inF 5 q (fS t) <;> simp
theorem union_next {u a b : Cl} (h : ∀ t, matchB u t = (matchB a t || matchB b t)) (x : Int) :
    nextOk u x = (nextOk a x || nextOk b x) ∧ (nextOk a x = true → nextOk b x = true → nextN u x = min (nextN a x) (nextN b x)) ∧ (nextOk a x = true → nextOk b x = false → nextN u x = nextN a x) ∧ (nextOk a x = false → nextOk b x = true → nextN u x = nextN b x) := by
  rcases ha : nextOk a x with _ | _ <;> rcases hb : nextOk b x with _ | _
  · have h1 := (next_no ha).2
    have h2 := (next_no hb).2
    have := next_none (c := u) (x := x) fun s hs => by rw [h, h1 s hs, h2 s hs]; rfl
    rw [this.2]; simp
  · have h1 := (next_no ha).2
    obtain ⟨b1, b2, b3⟩ := next_yes hb
    have := next_is (c := u) (x := x) b1 (by rw [h, b2]; simp) fun s hs hl => by rw [h, h1 s hs, b3 s hs hl]; rfl
    rw [this.2]; simp [this.1]
  · have h1 := (next_no hb).2
    obtain ⟨b1, b2, b3⟩ := next_yes ha
    have := next_is (c := u) (x := x) b1 (by rw [h, b2]; simp) fun s hs hl => by rw [h, h1 s hs, b3 s hs hl]; rfl
    rw [this.2]; simp [this.1]
  · obtain ⟨a1, a2, a3⟩ := next_yes ha
    obtain ⟨b1, b2, b3⟩ := next_yes hb
    by_cases hl : nextN a x ≤ nextN b x
    · have := next_is (c := u) (x := x) a1 (by rw [h, a2]; simp) fun s hs hl' => by rw [h, a3 s hs hl', b3 s hs (by omega)]; rfl
      rw [this.2, this.1]; simp; omega
    · have := next_is (c := u) (x := x) b1 (by rw [h, b2]; simp) fun s hs hl' => by rw [h, a3 s hs (by omega), b3 s hs hl']; rfl
      rw [this.2, this.1]; simp; omega
end Go.Proofs.YtncolcjejgmhjaaGreatDoor
