/- Calendars on plain lists: whether one may be, whether it has a second, which second is the next; the laws of chapter 4 that speak of these alone. It speaks of no code. -/
import Derived.Test.YtnbdcjohibfjaaaGreatDoorCvM
namespace Go.Proofs.YtnbdcjohibfjaaaGreatDoor

/-- A part: From, To, Step. -/
structure Pt where
  a : Int
  b : Int
  s : Int
/-- A calendar: weekdays, six fields. -/
structure Cl where
  ds : List Int
  yr : List Pt
  mo : List Pt
  dy : List Pt
  hr : List Pt
  mi : List Pt
  se : List Pt
def lo : Nat → Int
  | 0 => 2000
  | 1 => 1
  | 2 => 1
  | _ => 0
def hi : Nat → Int
  | 0 => 2199
  | 1 => 12
  | 2 => 31
  | 3 => 23
  | _ => 59
theorem lo_bd (f : Nat) : 0 ≤ lo f ∧ lo f ≤ hi f ∧ hi f ≤ 2199 := by
  match f with
  | 0 => decide
  | 1 => decide
  | 2 => decide
  | 3 => decide
  | n + 4 => exact (show (0 : Int) ≤ 0 ∧ (0 : Int) ≤ 59 ∧ (59 : Int) ≤ 2199 by decide)
def Cl.fld (c : Cl) : Nat → List Pt
  | 0 => c.yr
  | 1 => c.mo
  | 2 => c.dy
  | 3 => c.hr
  | 4 => c.mi
  | _ => c.se
def mayP (f : Nat) (p : Pt) : Bool := decide (0 ≤ p.s ∧ p.s ≤ 9999 ∧ (p.a = -1 ∧ p.b = -1 ∨ lo f ≤ p.a ∧ p.a ≤ hi f ∧ (p.b = -1 ∨ p.a ≤ p.b ∧ p.b ≤ hi f)))
theorem mayP_iff (f : Nat) (p : Pt) : mayP f p = true ↔ 0 ≤ p.s ∧ p.s ≤ 9999 ∧ (p.a = -1 ∧ p.b = -1 ∨ lo f ≤ p.a ∧ p.a ≤ hi f ∧ (p.b = -1 ∨ p.a ≤ p.b ∧ p.b ≤ hi f)) := by simp [mayP]
def mayF (f : Nat) (l : List Pt) : Bool := decide (1 ≤ l.length ∧ l.length ≤ 4) && l.all (mayP f)
theorem mayF_iff (f : Nat) (l : List Pt) : mayF f l = true ↔ (1 ≤ l.length ∧ l.length ≤ 4) ∧ ∀ p ∈ l, mayP f p = true := by simp [mayF]
/-- Do they rise from behind x on, up to 7? -/
def risesB : Int → List Int → Bool
  | _, [] => true
  | x, d :: r => decide (x < d ∧ d ≤ 7) && risesB d r
def mayC (c : Cl) : Bool := risesB 0 c.ds && (mayF 0 c.yr && (mayF 1 c.mo && (mayF 2 c.dy && (mayF 3 c.hr && (mayF 4 c.mi && mayF 5 c.se)))))
theorem mayC_iff (c : Cl) : mayC c = true ↔ risesB 0 c.ds = true ∧ mayF 0 c.yr = true ∧ mayF 1 c.mo = true ∧ mayF 2 c.dy = true ∧ mayF 3 c.hr = true ∧ mayF 4 c.mi = true ∧ mayF 5 c.se = true := by
  simp [mayC]
/-- A part's interval, its step. -/
def ptA (f : Nat) (p : Pt) : Int := if p.a = -1 then lo f else p.a
def ptB (f : Nat) (p : Pt) : Int := if p.a = -1 then hi f else if p.b = -1 then (if p.s = 0 then p.a else hi f) else p.b
def ptS (p : Pt) : Int := max p.s 1
def inP (f : Nat) (p : Pt) (n : Int) : Bool := decide (ptA f p ≤ n ∧ n ≤ ptB f p ∧ (n - ptA f p) % ptS p = 0)
theorem inP_iff (f : Nat) (p : Pt) (n : Int) : inP f p n = true ↔ ptA f p ≤ n ∧ n ≤ ptB f p ∧ (n - ptA f p) % ptS p = 0 := by simp [inP]
def inF (f : Nat) (l : List Pt) (n : Int) : Bool := l.any fun p => inP f p n
def dayB (ds : List Int) (wd : Int) : Bool := ds.isEmpty || ds.contains wd
noncomputable def numsB (c : Cl) (t : Int) : Bool :=
  inF 0 c.yr (fY t) && (inF 1 c.mo (fM t) && (inF 2 c.dy (fD t) && (inF 3 c.hr (fH t) && (inF 4 c.mi (fI t) && inF 5 c.se (fS t)))))
noncomputable def matchB (c : Cl) (t : Int) : Bool := mayC c && (isT t && (dayB c.ds (fW t) && numsB c t))
theorem matchB_iff (c : Cl) (t : Int) : matchB c t = true ↔ mayC c = true ∧ isT t = true ∧ dayB c.ds (fW t) = true ∧ numsB c t = true := by simp [matchB]
theorem match_bd {c : Cl} {t : Int} (h : matchB c t = true) : 0 ≤ t ∧ t < 6311433600 := (isT_iff t).1 ((matchB_iff c t).1 h).2.1

/-- Is it the next one that c has behind x? -/
def IsNext (c : Cl) (x : Int) : Option Int → Prop
  | some t => x < t ∧ matchB c t = true ∧ ∀ s, x < s → s < t → matchB c s = false
  | none => ∀ s, x < s → matchB c s = false
theorem IsNext.uniq {c : Cl} {x : Int} {o o' : Option Int} (h : IsNext c x o) (h' : IsNext c x o') : o = o' := by
  cases o with
  | none => cases o' with
    | none => rfl
    | some t' => have := h t' h'.1; rw [h'.2.1] at this; cases this
  | some t => cases o' with
    | none => have := h' t h.1; rw [h.2.1] at this; cases this
    | some t' =>
      rcases Int.lt_trichotomy t t' with l | l | l
      · have := h'.2.2 t h.1 l; rw [h.2.1] at this; cases this
      · rw [l]
      · have := h.2.2 t' h'.1 l; rw [h'.2.1] at this; cases this
theorem next_exists (c : Cl) (x : Int) : ∃ o, IsNext c x o := by
  have key : ∀ k : Nat, (∃ o, IsNext c x o) ∨ ∀ s, x < s → s ≤ x + k → matchB c s = false := by
    intro k
    induction k with
    | zero => right; intro s h1 h2; omega
    | succ k ih =>
      rcases ih with h | h
      · exact .inl h
      · rcases hm : matchB c (x + k + 1) with _ | _
        · right
          intro s h1 h2
          by_cases e : s = x + k + 1
          · rw [e]; exact hm
          · exact h s h1 (by omega)
        · left
          exact ⟨some (x + k + 1), by omega, hm, fun s h1 h2 => h s h1 (by omega)⟩
  rcases key (6311433600 - x).toNat with h | h
  · exact h
  · refine ⟨none, fun s hs => ?_⟩
    rcases hm : matchB c s with _ | _
    · rfl
    · have := match_bd hm
      have := h s hs (by omega)
      rw [hm] at this; cases this
noncomputable def nextO (c : Cl) (x : Int) : Option Int := Classical.epsilon (IsNext c x)
theorem nextO_spec (c : Cl) (x : Int) : IsNext c x (nextO c x) := Classical.epsilon_spec (next_exists c x)
theorem nextO_eq {c : Cl} {x : Int} {o : Option Int} (h : IsNext c x o) : nextO c x = o := (nextO_spec c x).uniq h
noncomputable def nextN (c : Cl) (x : Int) : Int := (nextO c x).getD 0
noncomputable def nextOk (c : Cl) (x : Int) : Bool := (nextO c x).isSome
theorem next_yes {c : Cl} {x : Int} (h : nextOk c x = true) : x < nextN c x ∧ matchB c (nextN c x) = true ∧ ∀ s, x < s → s < nextN c x → matchB c s = false := by
  have hs := nextO_spec c x
  unfold nextOk at h
  unfold nextN
  cases e : nextO c x with
  | none => rw [e] at h; cases h
  | some t => rw [e] at hs; exact hs
theorem next_no {c : Cl} {x : Int} (h : nextOk c x = false) : nextN c x = 0 ∧ ∀ s, x < s → matchB c s = false := by
  have hs := nextO_spec c x
  unfold nextOk at h
  unfold nextN
  cases e : nextO c x with
  | none => rw [e] at hs; exact ⟨rfl, hs⟩
  | some t => rw [e] at h; cases h
theorem next_is {c : Cl} {x t : Int} (h1 : x < t) (h2 : matchB c t = true) (h3 : ∀ s, x < s → s < t → matchB c s = false) : nextN c x = t ∧ nextOk c x = true := by
  have := nextO_eq (o := some t) (x := x) (c := c) ⟨h1, h2, h3⟩
  unfold nextN nextOk
  rw [this]; exact ⟨rfl, rfl⟩
theorem next_none {c : Cl} {x : Int} (h : ∀ s, x < s → matchB c s = false) : nextN c x = 0 ∧ nextOk c x = false := by
  have := nextO_eq (o := none) (x := x) (c := c) h
  unfold nextN nextOk
  rw [this]; exact ⟨rfl, rfl⟩

/-- CalRow: what comes next is next from any second between. -/
theorem row_back {c : Cl} {x b : Int} (h : nextOk c x = true) (h0 : 0 < b) (h1 : b ≤ nextN c x - x) : nextN c (nextN c x - b) = nextN c x ∧ nextOk c (nextN c x - b) = true := by
  obtain ⟨a, b', d⟩ := next_yes h
  exact next_is (by omega) b' fun s h2 h3 => d s (by omega) h3

theorem inF_app (f : Nat) (p q : List Pt) (n : Int) : inF f (p ++ q) n = (inF f p n || inF f q n) := by unfold inF; rw [List.any_append]
theorem mayF_app {f : Nat} {p q : List Pt} (hp : 1 ≤ p.length) (hq : 1 ≤ q.length) (h : p.length + q.length ≤ 4) : mayF f (p ++ q) = (mayF f p && mayF f q) := by
  unfold mayF
  rw [List.all_append, List.length_append, decide_eq_true (show 1 ≤ p.length + q.length ∧ p.length + q.length ≤ 4 by omega), decide_eq_true (show 1 ≤ p.length ∧ p.length ≤ 4 by omega), decide_eq_true (show 1 ≤ q.length ∧ q.length ≤ 4 by omega)]
  simp
/-- A calendar with another field. -/
def Cl.put (c : Cl) (f : Nat) (l : List Pt) : Cl :=
  match f with
  | 0 => { c with yr := l }
  | 1 => { c with mo := l }
  | 2 => { c with dy := l }
  | 3 => { c with hr := l }
  | 4 => { c with mi := l }
  | _ => { c with se := l }
theorem union_may (c : Cl) (f : Nat) {p q : List Pt} (hp : 1 ≤ p.length) (hq : 1 ≤ q.length) (h : p.length + q.length ≤ 4) : mayC (c.put f (p ++ q)) = (mayC (c.put f p) && mayC (c.put f q)) := by
  have a : ∀ g, mayF g (p ++ q) = (mayF g p && mayF g q) := fun g => mayF_app hp hq h
  match f with
  | 0 => simp only [Cl.put, mayC, a]; cases risesB 0 c.ds <;> cases mayF 0 p <;> cases mayF 0 q <;> cases mayF 1 c.mo <;> cases mayF 2 c.dy <;> cases mayF 3 c.hr <;> cases mayF 4 c.mi <;> cases mayF 5 c.se <;> rfl
  | 1 => simp only [Cl.put, mayC, a]; cases risesB 0 c.ds <;> cases mayF 1 p <;> cases mayF 1 q <;> cases mayF 0 c.yr <;> cases mayF 2 c.dy <;> cases mayF 3 c.hr <;> cases mayF 4 c.mi <;> cases mayF 5 c.se <;> rfl
  | 2 => simp only [Cl.put, mayC, a]; cases risesB 0 c.ds <;> cases mayF 2 p <;> cases mayF 2 q <;> cases mayF 0 c.yr <;> cases mayF 1 c.mo <;> cases mayF 3 c.hr <;> cases mayF 4 c.mi <;> cases mayF 5 c.se <;> rfl
  | 3 => simp only [Cl.put, mayC, a]; cases risesB 0 c.ds <;> cases mayF 3 p <;> cases mayF 3 q <;> cases mayF 0 c.yr <;> cases mayF 1 c.mo <;> cases mayF 2 c.dy <;> cases mayF 4 c.mi <;> cases mayF 5 c.se <;> rfl
  | 4 => simp only [Cl.put, mayC, a]; cases risesB 0 c.ds <;> cases mayF 4 p <;> cases mayF 4 q <;> cases mayF 0 c.yr <;> cases mayF 1 c.mo <;> cases mayF 2 c.dy <;> cases mayF 3 c.hr <;> cases mayF 5 c.se <;> rfl
  | n + 5 => simp only [Cl.put, mayC, a]; cases risesB 0 c.ds <;> cases mayF 5 p <;> cases mayF 5 q <;> cases mayF 0 c.yr <;> cases mayF 1 c.mo <;> cases mayF 2 c.dy <;> cases mayF 3 c.hr <;> cases mayF 4 c.mi <;> rfl
theorem union_match (c : Cl) (f : Nat) {p q : List Pt} (hp : 1 ≤ p.length) (hq : 1 ≤ q.length) (h : p.length + q.length ≤ 4) (hm : mayC (c.put f (p ++ q)) = true) (t : Int) :
    matchB (c.put f (p ++ q)) t = (matchB (c.put f p) t || matchB (c.put f q) t) := by
  have h1 := union_may c f hp hq h
  rw [hm] at h1
  have h1 := h1.symm
  rw [Bool.and_eq_true] at h1
  unfold matchB
  rw [hm, h1.1, h1.2]
  match f with
  | 0 => simp only [Cl.put, numsB, inF_app]; cases isT t <;> cases dayB c.ds (fW t) <;> cases inF 0 p (fY t) <;> cases inF 0 q (fY t) <;> simp
  | 1 => simp only [Cl.put, numsB, inF_app]; cases isT t <;> cases dayB c.ds (fW t) <;> cases inF 1 p (fM t) <;> cases inF 1 q (fM t) <;> simp
  | 2 => simp only [Cl.put, numsB, inF_app]; cases isT t <;> cases dayB c.ds (fW t) <;> cases inF 2 p (fD t) <;> cases inF 2 q (fD t) <;> simp
  | 3 => simp only [Cl.put, numsB, inF_app]; cases isT t <;> cases dayB c.ds (fW t) <;> cases inF 3 p (fH t) <;> cases inF 3 q (fH t) <;> simp
  | 4 => simp only [Cl.put, numsB, inF_app]; cases isT t <;> cases dayB c.ds (fW t) <;> cases inF 4 p (fI t) <;> cases inF 4 q (fI t) <;> simp
  | n + 5 => simp only [Cl.put, numsB, inF_app]; cases isT t <;> cases dayB c.ds (fW t) <;> cases inF 5 p (fS t) <;> cases inF 5 q (fS t) <;> simp
/-- CalUnion: the next of both together is the first one's of both. -/
theorem union_next {u a b : Cl} (h : ∀ t, matchB u t = (matchB a t || matchB b t)) (x : Int) :
    nextOk u x = (nextOk a x || nextOk b x) ∧ (nextOk a x = true → nextOk b x = true → nextN u x = min (nextN a x) (nextN b x)) ∧ (nextOk a x = true → nextOk b x = false → nextN u x = nextN a x) ∧ (nextOk a x = false → nextOk b x = true → nextN u x = nextN b x) := by
  rcases ha : nextOk a x with _ | _ <;> rcases hb : nextOk b x with _ | _
  · have h1 := (next_no ha).2
    have h2 := (next_no hb).2
    have := next_none (c := u) (x := x) fun s hs => by rw [h, h1 s hs, h2 s hs]; rfl
    rw [this.2]; simp
  · have h1 := (next_no ha).2
    obtain ⟨b1, b2, b3⟩ := next_yes hb
    have := next_is (c := u) (x := x) b1 (by rw [h, b2]; simp) fun s hs hl => by rw [h, h1 s hs, b3 s hs hl]; rfl
    rw [this.2]; simp [this.1]
  · have h1 := (next_no hb).2
    obtain ⟨b1, b2, b3⟩ := next_yes ha
    have := next_is (c := u) (x := x) b1 (by rw [h, b2]; simp) fun s hs hl => by rw [h, h1 s hs, b3 s hs hl]; rfl
    rw [this.2]; simp [this.1]
  · obtain ⟨a1, a2, a3⟩ := next_yes ha
    obtain ⟨b1, b2, b3⟩ := next_yes hb
    by_cases hl : nextN a x ≤ nextN b x
    · have := next_is (c := u) (x := x) a1 (by rw [h, a2]; simp) fun s hs hl' => by rw [h, a3 s hs hl', b3 s hs (by omega)]; rfl
      rw [this.2, this.1]; simp; omega
    · have := next_is (c := u) (x := x) b1 (by rw [h, b2]; simp) fun s hs hl' => by rw [h, a3 s hs (by omega), b3 s hs hl']; rfl
      rw [this.2, this.1]; simp; omega

/-- CalLess: what has less comes no earlier. -/
theorem less_next {c d : Cl} (h : ∀ t, matchB d t = true → matchB c t = true) {x : Int} (hd : nextOk d x = true) : nextOk c x = true ∧ nextN c x ≤ nextN d x := by
  obtain ⟨a1, a2, a3⟩ := next_yes hd
  have hm := h _ a2
  rcases hc : nextOk c x with _ | _
  · have := (next_no hc).2 _ a1; rw [hm] at this; cases this
  · obtain ⟨b1, b2, b3⟩ := next_yes hc
    refine ⟨rfl, ?_⟩
    by_cases hl : nextN c x ≤ nextN d x
    · exact hl
    · have := b3 _ a1 (by omega); rw [hm] at this; cases this
def Pt.times (p : Pt) (k : Int) : Pt := { p with s := p.s * k }
theorem times_in {f : Nat} {p : Pt} {k n : Int} (hk : 1 ≤ k) (h0 : 0 ≤ p.s) (h : inP f (p.times k) n = true) : inP f p n = true := by
  rw [inP_iff] at h ⊢
  have eA : ptA f (p.times k) = ptA f p := rfl
  have es : (p.times k).s = 0 ↔ p.s = 0 := by
    show p.s * k = 0 ↔ p.s = 0
    rw [Int.mul_eq_zero]; omega
  have eB : ptB f (p.times k) = ptB f p := by
    unfold ptB
    show (if p.a = -1 then hi f else if p.b = -1 then (if (p.times k).s = 0 then p.a else hi f) else p.b) = _
    by_cases hs : p.s = 0
    · rw [if_pos (es.2 hs), if_pos hs]
    · rw [if_neg (fun e => hs (es.1 e)), if_neg hs]
  rw [eA, eB] at h
  obtain ⟨h1, h2, h3⟩ := h
  refine ⟨h1, h2, ?_⟩
  by_cases hs : p.s = 0
  · unfold ptS; rw [hs]; exact Int.emod_one _
  · have e1 : ptS p = p.s := by unfold ptS; omega
    have e2 : ptS (p.times k) = p.s * k := by
      unfold ptS
      show max (p.s * k) 1 = p.s * k
      have : 1 * 1 ≤ p.s * k := Int.mul_le_mul (by omega) hk (by omega) (by omega)
      omega
    rw [e1]
    rw [e2] at h3
    exact Int.emod_eq_zero_of_dvd (Int.dvd_trans (Int.dvd_mul_right _ _) (Int.dvd_of_emod_eq_zero h3))
theorem times_may {f : Nat} {p : Pt} {k : Int} (hk : 1 ≤ k) (hs : p.s * k ≤ 9999) (h : mayP f p = true) : mayP f (p.times k) = true := by
  rw [mayP_iff] at h ⊢
  obtain ⟨h0, h1, h2⟩ := h
  exact ⟨Int.mul_nonneg h0 (by omega), hs, h2⟩
theorem less_match {c : Cl} {day k : Int} (hc : mayC c = true) (hk : 1 ≤ k) (hd0 : 1 ≤ day) (hd1 : day ≤ 7) (hday : dayB c.ds day = true) (hs : ∀ p ∈ c.se, p.s * k ≤ 9999) :
    mayC { c with ds := [day], se := c.se.map (·.times k) } = true ∧ ∀ t, matchB { c with ds := [day], se := c.se.map (·.times k) } t = true → matchB c t = true := by
  obtain ⟨m0, m1, m2, m3, m4, m5, m6⟩ := (mayC_iff c).1 hc
  have hse := (mayF_iff 5 c.se).1 m6
  constructor
  · rw [mayC_iff]
    refine ⟨by simp [risesB]; omega, m1, m2, m3, m4, m5, ?_⟩
    rw [mayF_iff]
    refine ⟨by simpa using hse.1, ?_⟩
    intro p hp
    obtain ⟨q, hq, rfl⟩ := List.mem_map.1 hp
    exact times_may hk (hs q hq) (hse.2 q hq)
  · intro t h
    rw [matchB_iff] at h ⊢
    obtain ⟨_, h2, h3, h4⟩ := h
    refine ⟨hc, h2, ?_, ?_⟩
    · have e : fW t = day := by simpa [dayB] using h3
      rw [e]; exact hday
    · unfold numsB at h4 ⊢
      simp only [Bool.and_eq_true] at h4 ⊢
      refine ⟨h4.1, h4.2.1, h4.2.2.1, h4.2.2.2.1, h4.2.2.2.2.1, ?_⟩
      have h5 := h4.2.2.2.2.2
      unfold inF at h5 ⊢
      rw [List.any_eq_true] at h5 ⊢
      obtain ⟨p, hp, hi⟩ := h5
      obtain ⟨q, hq, rfl⟩ := List.mem_map.1 hp
      exact ⟨q, hq, times_in hk ((mayP_iff 5 q).1 (hse.2 q hq)).1 hi⟩

/-- CalDays: with all weekdays named it is as with none. -/
theorem days_all {c : Cl} (t : Int) : matchB { c with ds := [] } t = matchB { c with ds := [1, 2, 3, 4, 5, 6, 7] } t := by
  unfold matchB
  have e1 : mayC { c with ds := [] } = mayC { c with ds := [1, 2, 3, 4, 5, 6, 7] } := by simp [mayC, risesB]
  rw [e1]
  rcases ht : isT t with _ | _
  · simp
  · have e2 : dayB [1, 2, 3, 4, 5, 6, 7] (fW t) = true := by
      have := (date_of ht).w_eq
      have h1 : fW t = 1 ∨ fW t = 2 ∨ fW t = 3 ∨ fW t = 4 ∨ fW t = 5 ∨ fW t = 6 ∨ fW t = 7 := by omega
      unfold dayB
      rcases h1 with h | h | h | h | h | h | h <;> rw [h] <;> decide
    have e3 : dayB [] (fW t) = true := rfl
    show (mayC _ && (true && (dayB [] (fW t) && numsB _ t))) = (mayC _ && (true && (dayB [1, 2, 3, 4, 5, 6, 7] (fW t) && numsB _ t)))
    rw [e2, e3]; rfl
theorem days_none {c : Cl} {t : Int} (h : matchB c t = true) : matchB { c with ds := [] } t = true := by
  rw [matchB_iff] at h ⊢
  obtain ⟨h1, h2, h3, h4⟩ := h
  rw [mayC_iff] at h1 ⊢
  exact ⟨⟨rfl, h1.2⟩, h2, rfl, h4⟩
end Go.Proofs.YtnbdcjohibfjaaaGreatDoor
