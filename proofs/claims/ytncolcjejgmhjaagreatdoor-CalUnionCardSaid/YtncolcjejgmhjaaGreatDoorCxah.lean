/- What comes next, by fields: the least number of a part, of a field; the least six numbers; the step to the next day. It  -/
import Derived.Test.YtncolcjejgmhjaaGreatDoorCxac
namespace Go.Proofs.YtncolcjejgmhjaaGreatDoor
theorem date_lt4 {s t y m d hh mi ss wd y' m' d' hh' mi' ss' wd' : Int} (h : IsDate s y m d hh mi ss wd) (h' : IsDate t y' m' d' hh' mi' ss' wd')
    (hl : y < y' ∨ y = y' ∧ (m < m' ∨ m = m' ∧ (d < d' ∨ d = d' ∧ (hh < hh' ∨ hh = hh' ∧ (mi < mi' ∨ mi = mi' ∧ ss < ss'))))) : s < t := by
  obtain ⟨hd, h0, h1, m0, m1, s0, s1, te, _⟩ := h
  obtain ⟨hd', h0', h1', m0', m1', s0', s1', te', _⟩ := h'
  rcases hl with hl | ⟨rfl, hl | ⟨rfl, hl | ⟨rfl, hl⟩⟩⟩
  · have := num_lt hd hd' (.inl hl); omega
  · have := num_lt hd hd' (.inr ⟨rfl, .inl hl⟩); omega
  · have := num_lt hd hd' (.inr ⟨rfl, .inr ⟨rfl, hl⟩⟩); omega
  · omega
theorem date_same4 {s t y m d hh mi ss wd wd' : Int} (h : IsDate s y m d hh mi ss wd) (h' : IsDate t y m d hh mi ss wd') : s = t := by
  have a := h.t_eq
  have b := h'.t_eq
  omega
def pLo (f : Nat) (p : Pt) (n : Int) : Int := if n ≤ ptA f p then ptA f p else ptA f p + ((n - ptA f p + ptS p - 1) / ptS p) * ptS p
def pOk (f : Nat) (p : Pt) (n : Int) : Bool := decide (pLo f p n ≤ ptB f p)
theorem ptS_pos (p : Pt) : 1 ≤ ptS p := by unfold ptS; omega
theorem ptAB {f : Nat} {p : Pt} (h : mayP f p = true) : ptA f p ≤ ptB f p ∧ lo f ≤ ptA f p ∧ ptB f p ≤ hi f := by
  have hm := (mayP_iff f p).1 h
  have hl := lo_bd f
  unfold ptA ptB
  split
  · omega
  · split
    · split <;> omega
    · omega
theorem in_range {f : Nat} {p : Pt} {n : Int} (h : mayP f p = true) (hn : inP f p n = true) : lo f ≤ n ∧ n ≤ hi f := by
  have := ptAB h
  have := (inP_iff f p n).1 hn
  omega
theorem inF_range {f : Nat} {l : List Pt} {n : Int} (h : mayF f l = true) (hn : inF f l n = true) : lo f ≤ n ∧ n ≤ hi f := by
  unfold inF at hn
  rw [List.any_eq_true] at hn
  obtain ⟨p, hp, hi⟩ := hn
  exact in_range (((mayF_iff f l).1 h).2 p hp) hi
theorem pLo_yes {f : Nat} {p : Pt} {n : Int} (hm : mayP f p = true) (h : pOk f p n = true) : n ≤ pLo f p n ∧ inP f p (pLo f p n) = true ∧ ∀ k, n ≤ k → inP f p k = true → pLo f p n ≤ k := by
  have hB := ptAB hm
  have hS := ptS_pos p
  have hk : pLo f p n ≤ ptB f p := of_decide_eq_true h
  unfold pLo at hk ⊢
  by_cases c : n ≤ ptA f p
  · rw [if_pos c] at hk ⊢
    refine ⟨c, (inP_iff _ _ _).2 ⟨Int.le_refl _, hk, by rw [Int.sub_self]; rfl⟩, fun k _ hk => ((inP_iff _ _ _).1 hk).1⟩
  · rw [if_neg c] at hk ⊢
    generalize hA : ptA f p = A at *
    generalize hSS : ptS p = S at *
    have e1 := Int.mul_ediv_add_emod (n - A + S - 1) S
    have e2 := Int.emod_nonneg (n - A + S - 1) (show S ≠ 0 by omega)
    have e3 := Int.emod_lt_of_pos (n - A + S - 1) (show 0 < S by omega)
    generalize (n - A + S - 1) / S = q at *
    rw [Int.mul_comm] at e1
    have q0 : 0 ≤ q * S := by omega
    refine ⟨by omega, (inP_iff _ _ _).2 ⟨by rw [hA]; omega, hk, by rw [hA, hSS, show A + q * S - A = q * S by omega]; exact Int.mul_emod_left _ _⟩, fun k h1 h2 => ?_⟩
    have h3 := (inP_iff _ _ _).1 h2
    rw [hA, hSS] at h3
    by_cases hl : A + q * S ≤ k
    · exact hl
    · exfalso
      have d1 := Int.dvd_of_emod_eq_zero h3.2.2
      have d2 : S ∣ q * S := Int.dvd_mul_left _ _
      have d3 := Int.dvd_sub d2 d1
      have := Int.le_of_dvd (by omega) d3
      omega
theorem pLo_no {f : Nat} {p : Pt} {n : Int} (hm : mayP f p = true) (h : pOk f p n = false) (k : Int) (hnk : n ≤ k) : inP f p k = false := by
  have hB := ptAB hm
  have hS := ptS_pos p
  have hk : ¬ pLo f p n ≤ ptB f p := of_decide_eq_false h
  rw [← Bool.not_eq_true]
  intro h2
  have h3 := (inP_iff _ _ _).1 h2
  apply hk
  unfold pLo
  by_cases c : n ≤ ptA f p
  · rw [if_pos c]; omega
  · rw [if_neg c]
    generalize hA : ptA f p = A at *
    generalize hSS : ptS p = S at *
    have e1 := Int.mul_ediv_add_emod (n - A + S - 1) S
    have e2 := Int.emod_nonneg (n - A + S - 1) (show S ≠ 0 by omega)
    have e3 := Int.emod_lt_of_pos (n - A + S - 1) (show 0 < S by omega)
    generalize (n - A + S - 1) / S = q at *
    rw [Int.mul_comm] at e1
    by_cases hl : A + q * S ≤ k
    · omega
    · exfalso
      have d1 := Int.dvd_of_emod_eq_zero h3.2.2
      have d2 : S ∣ q * S := Int.dvd_mul_left _ _
      have d3 := Int.dvd_sub d2 d1
      have := Int.le_of_dvd (by omega) d3
      omega
def lstStep (f : Nat) (n : Int) (o : Int × Bool) (p : Pt) : Int × Bool := if (pOk f p n && (!o.2 || decide (pLo f p n < o.1))) = true then (pLo f p n, true) else o
def lst (f : Nat) (n : Int) (l : List Pt) : Int × Bool := l.foldl (lstStep f n) (0, false)
def Lst (f : Nat) (n : Int) (l : List Pt) (o : Int × Bool) : Prop :=
  (o.2 = true → n ≤ o.1 ∧ inF f l o.1 = true ∧ ∀ k, n ≤ k → inF f l k = true → o.1 ≤ k) ∧ (o.2 = false → o.1 = 0 ∧ ∀ k, n ≤ k → inF f l k = false)
theorem inF_snoc (f : Nat) (l : List Pt) (p : Pt) (k : Int) : inF f (l ++ [p]) k = (inF f l k || inP f p k) := by
  rw [inF_app]; congr 1; simp [inF]
theorem lst_snoc (f : Nat) (n : Int) (l : List Pt) (p : Pt) : lst f n (l ++ [p]) = lstStep f n (lst f n l) p := by unfold lst; rw [List.foldl_append]; rfl
theorem lst_take {f : Nat} {n : Int} {l : List Pt} {k : Nat} {p : Pt} (h : l[k]? = some p) : lst f n (l.take (k + 1)) = lstStep f n (lst f n (l.take k)) p := by
  have e : l.take (k + 1) = l.take k ++ [p] := by rw [List.take_add_one, h]; rfl
  rw [e, lst_snoc]
theorem Lst.step {f : Nat} {n : Int} {l : List Pt} {o : Int × Bool} {p : Pt} (hm : mayP f p = true) (h : Lst f n l o) : Lst f n (l ++ [p]) (lstStep f n o p) := by
  obtain ⟨m, b⟩ := o
  unfold lstStep
  rcases hk : pOk f p n with _ | _
  · have hno := pLo_no hm hk
    rw [if_neg (by simp)]
    refine ⟨fun hb => ?_, fun hb => ?_⟩
    · obtain ⟨h1, h2, h3⟩ := h.1 hb
      refine ⟨h1, by rw [inF_snoc, h2]; rfl, fun k hk' hi => h3 k hk' ?_⟩
      rw [inF_snoc, hno k hk', Bool.or_false] at hi; exact hi
    · obtain ⟨h1, h2⟩ := h.2 hb
      exact ⟨h1, fun k hk' => by rw [inF_snoc, hno k hk', h2 k hk']; rfl⟩
  · obtain ⟨p1, p2, p3⟩ := pLo_yes hm hk
    cases b with
    | false =>
      have hz := h.2 rfl
      rw [if_pos (by simp)]
      refine ⟨fun _ => ⟨p1, by rw [inF_snoc, p2, Bool.or_true], fun k hk' hi => ?_⟩, fun hb => by cases hb⟩
      rw [inF_snoc, hz.2 k hk', Bool.false_or] at hi
      exact p3 k hk' hi
    | true =>
      obtain ⟨h1, h2, h3⟩ := h.1 rfl
      simp only at h1 h2 h3
      by_cases hl : pLo f p n < m
      · rw [if_pos (by simp [hl])]
        refine ⟨fun _ => ⟨p1, by rw [inF_snoc, p2, Bool.or_true], fun k hk' hi => ?_⟩, fun hb => by cases hb⟩
        rw [inF_snoc, Bool.or_eq_true] at hi
        rcases hi with hi | hi
        · have := h3 k hk' hi; show pLo f p n ≤ k; omega
        · exact p3 k hk' hi
      · rw [if_neg (by simp [hl])]
        refine ⟨fun _ => ⟨h1, by rw [inF_snoc, h2]; rfl, fun k hk' hi => ?_⟩, fun hb => by cases hb⟩
        rw [inF_snoc, Bool.or_eq_true] at hi
        rcases hi with hi | hi
        · exact h3 k hk' hi
        · have := p3 k hk' hi; show m ≤ k; omega
theorem lst_spec {f : Nat} {n : Int} {l : List Pt} (h : ∀ p ∈ l, mayP f p = true) : Lst f n l (lst f n l) := by
  have key : ∀ k : Nat, k ≤ l.length → Lst f n (l.take k) (lst f n (l.take k)) := by
    intro k
    induction k with
    | zero => intro _; exact ⟨fun hb => (by cases hb), fun _ => ⟨rfl, fun k _ => rfl⟩⟩
    | succ k ih =>
      intro hk
      have e : l[k]? = some l[k] := List.getElem?_eq_getElem (by omega)
      rw [lst_take e]
      have e2 : l.take (k + 1) = l.take k ++ [l[k]] := by rw [List.take_add_one, e]; rfl
      rw [e2]
      exact (ih (by omega)).step (h _ (List.getElem_mem _))
  have := key l.length (Nat.le_refl _)
  rwa [List.take_length] at this
def lfN (f : Nat) (l : List Pt) (n : Int) : Int := (lst f n l).1
def lfB (f : Nat) (l : List Pt) (n : Int) : Bool := (lst f n l).2
theorem lf_yes {f : Nat} {l : List Pt} {n : Int} (h : mayF f l = true) (hb : lfB f l n = true) : n ≤ lfN f l n ∧ inF f l (lfN f l n) = true ∧ ∀ k, n ≤ k → inF f l k = true → lfN f l n ≤ k :=
  (lst_spec ((mayF_iff f l).1 h).2).1 hb
theorem lf_no {f : Nat} {l : List Pt} {n : Int} (h : mayF f l = true) (hb : lfB f l n = false) : lfN f l n = 0 ∧ ∀ k, n ≤ k → inF f l k = false :=
  (lst_spec ((mayF_iff f l).1 h).2).2 hb
theorem lf_in {f : Nat} {l : List Pt} {n : Int} (h : mayF f l = true) : inF f l n = (lfB f l n && decide (lfN f l n = n)) := by
  rcases hb : lfB f l n with _ | _
  · rw [(lf_no h hb).2 n (Int.le_refl _)]; rfl
  · obtain ⟨h1, h2, h3⟩ := lf_yes h hb
    by_cases e : lfN f l n = n
    · rw [decide_eq_true e, ← e]; rw [e] at h2 ⊢; rw [h2]; rfl
    · rw [decide_eq_false e, Bool.and_false, ← Bool.not_eq_true]
      intro hi
      exact e (by have := h3 n (Int.le_refl _) hi; omega)
structure Six where
  y : Int
  m : Int
  d : Int
  h : Int
  i : Int
  s : Int
def Six.at (v : Six) : Nat → Int
  | 0 => v.y
  | 1 => v.m
  | 2 => v.d
  | 3 => v.h
  | 4 => v.i
  | _ => v.s
def Six.le (v u : Six) : Prop := v.y < u.y ∨ v.y = u.y ∧ (v.m < u.m ∨ v.m = u.m ∧ (v.d < u.d ∨ v.d = u.d ∧ (v.h < u.h ∨ v.h = u.h ∧ (v.i < u.i ∨ v.i = u.i ∧ v.s ≤ u.s))))
theorem Six.le_refl (v : Six) : v.le v := by unfold Six.le; omega
theorem Six.le_trans {a b c : Six} (h : a.le b) (h' : b.le c) : a.le c := by unfold Six.le at *; omega
def Six.good (c : Cl) (v : Six) : Prop := inF 0 c.yr v.y = true ∧ inF 1 c.mo v.m = true ∧ inF 2 c.dy v.d = true ∧ inF 3 c.hr v.h = true ∧ inF 4 c.mi v.i = true ∧ inF 5 c.se v.s = true
def Six.bd (v : Six) : Prop := 0 ≤ v.y ∧ v.y ≤ 2200 ∧ 0 ≤ v.m ∧ v.m ≤ 2200 ∧ 0 ≤ v.d ∧ v.d ≤ 2200 ∧ 0 ≤ v.h ∧ v.h ≤ 2200 ∧ 0 ≤ v.i ∧ v.i ≤ 2200 ∧ 0 ≤ v.s ∧ v.s ≤ 2200
def Six.far (v : Six) : Nat := (2201 * (2201 * (2201 * (2201 * (2201 * (2200 - v.y) + (2200 - v.m)) + (2200 - v.d)) + (2200 - v.h)) + (2200 - v.i)) + (2200 - v.s)).toNat
def Six.set (v : Six) (f : Nat) (x : Int) : Six :=
  match f with
  | 0 => ⟨x, 0, 0, 0, 0, 0⟩
  | 1 => ⟨v.y, x, 0, 0, 0, 0⟩
  | 2 => ⟨v.y, v.m, x, 0, 0, 0⟩
  | 3 => ⟨v.y, v.m, v.d, x, 0, 0⟩
  | 4 => ⟨v.y, v.m, v.d, v.h, x, 0⟩
  | _ => ⟨v.y, v.m, v.d, v.h, v.i, x⟩
def Six.upto (c : Cl) (v : Six) (f : Nat) : Prop := ∀ j, j < f → j < 6 → inF j (c.fld j) (v.at j) = true
theorem Six.upto_all {c : Cl} {v : Six} (h : v.upto c 6) : v.good c := ⟨h 0 (by omega) (by omega), h 1 (by omega) (by omega), h 2 (by omega) (by omega), h 3 (by omega) (by omega), h 4 (by omega) (by omega), h 5 (by omega) (by omega)⟩
theorem Six.good.at_ {c : Cl} {v : Six} (h : v.good c) {f : Nat} (hf : f < 6) : inF f (c.fld f) (v.at f) = true := by
  obtain ⟨a, b, e, g, i, j⟩ := h
  have : f = 0 ∨ f = 1 ∨ f = 2 ∨ f = 3 ∨ f = 4 ∨ f = 5 := by omega
  rcases this with rfl | rfl | rfl | rfl | rfl | rfl
  · exact a
  · exact b
  · exact e
  · exact g
  · exact i
  · exact j
theorem mayC_fld {c : Cl} (h : mayC c = true) {f : Nat} (hf : f < 6) : mayF f (c.fld f) = true := by
  obtain ⟨_, a, b, e, g, i, j⟩ := (mayC_iff c).1 h
  have : f = 0 ∨ f = 1 ∨ f = 2 ∨ f = 3 ∨ f = 4 ∨ f = 5 := by omega
  rcases this with rfl | rfl | rfl | rfl | rfl | rfl
  · exact a
  · exact b
  · exact e
  · exact g
  · exact i
  · exact j
theorem Six.good.nn {c : Cl} (hc : mayC c = true) {u : Six} (h : u.good c) : 0 ≤ u.y ∧ 0 ≤ u.m ∧ 0 ≤ u.d ∧ 0 ≤ u.h ∧ 0 ≤ u.i ∧ 0 ≤ u.s := by
  have b : ∀ f, f < 6 → 0 ≤ u.at f := fun f hf => by
    have h1 := inF_range (mayC_fld hc hf) (h.at_ hf)
    have h2 := (lo_bd f).1
    omega
  exact ⟨b 0 (by omega), b 1 (by omega), b 2 (by omega), b 3 (by omega), b 4 (by omega), b 5 (by omega)⟩
structure Adv (c : Cl) (n0 v : Six) (f : Nat) : Prop where
  bd : v.bd
  ahead : v.upto c f
  ge : n0.le v
  least : ∀ u : Six, u.good c → n0.le u → v.le u
theorem Adv.start {c : Cl} {n0 : Six} (h : n0.bd) : Adv c n0 n0 0 := ⟨h, fun j hj => absurd hj (by omega), n0.le_refl, fun _ _ h => h⟩
section
variable {c : Cl} {n0 v : Six} {f : Nat}
theorem six_f (h : f < 6) : f = 0 ∨ f = 1 ∨ f = 2 ∨ f = 3 ∨ f = 4 ∨ f = 5 := by omega
theorem Adv.next (h : Adv c n0 v f) (hi : inF f (c.fld f) (v.at f) = true) : Adv c n0 v (f + 1) :=
  ⟨h.bd, fun j hj h6 => by
    by_cases e : j = f
    · rw [e]; exact hi
    · exact h.ahead j (by omega) h6, h.ge, h.least⟩
theorem Adv.later (hc : mayC c = true) (h : Adv c n0 v f) (hf : f < 6) {m : Int} (h1 : v.at f < m) (hm : m ≤ 2200) (hi : inF f (c.fld f) m = true) (hl : ∀ k, v.at f ≤ k → inF f (c.fld f) k = true → m ≤ k) : Adv c n0 (v.set f m) (f + 1) := by
  obtain ⟨hb, ha, hg, hle⟩ := h
  have key : ∀ u : Six, u.good c → n0.le u → (v.set f m).le u := by
    intro u hu hn
    have a1 := hle u hu hn
    have a2 : v.at f ≤ u.at f → m ≤ u.at f := fun hh => hl _ hh (hu.at_ hf)
    have a3 := hu.nn hc
    clear hl hle ha hg hi hu hn
    unfold Six.le Six.bd at *
    rcases six_f hf with rfl | rfl | rfl | rfl | rfl | rfl <;> simp only [Six.at, Six.set] at * <;> omega
  refine ⟨?_, ?_, ?_, key⟩
  · clear key hl hle ha hg hi
    unfold Six.bd at *
    rcases six_f hf with rfl | rfl | rfl | rfl | rfl | rfl <;> simp only [Six.at, Six.set] at * <;> omega
  · intro j hj h6
    by_cases e : j = f
    · subst e
      have : (v.set j m).at j = m := by rcases six_f hf with rfl | rfl | rfl | rfl | rfl | rfl <;> rfl
      rw [this]; exact hi
    · have hjf : j < f := by omega
      have : (v.set f m).at j = v.at j := by
        rcases six_f hf with rfl | rfl | rfl | rfl | rfl | rfl <;> rcases six_f h6 with rfl | rfl | rfl | rfl | rfl | rfl <;> first | rfl | (exfalso; omega)
      rw [this]; exact ha j hjf h6
  · refine Six.le_trans hg ?_
    clear key hl hle ha hg hi
    unfold Six.le
    rcases six_f hf with rfl | rfl | rfl | rfl | rfl | rfl <;> simp only [Six.at, Six.set, true_and] at * <;> omega
theorem Adv.up (hc : mayC c = true) (h : Adv c n0 v (f + 1)) (hf : f + 1 < 6) (hi : ∀ k, v.at (f + 1) ≤ k → inF (f + 1) (c.fld (f + 1)) k = false) : Adv c n0 (v.set f (v.at f + 1)) f := by
  obtain ⟨hb, ha, hg, hle⟩ := h
  have hr := inF_range (mayC_fld hc (show f < 6 by omega)) (ha f (by omega) (by omega))
  have hr2 := (lo_bd f).2.2
  refine ⟨?_, ?_, ?_, ?_⟩
  · clear hi hle ha hg
    unfold Six.bd at *
    have : f = 0 ∨ f = 1 ∨ f = 2 ∨ f = 3 ∨ f = 4 := by omega
    rcases this with rfl | rfl | rfl | rfl | rfl <;> simp only [Six.at, Six.set] at * <;> omega
  · intro j hj h6
    have : (v.set f (v.at f + 1)).at j = v.at j := by
      rcases six_f (show f < 6 by omega) with rfl | rfl | rfl | rfl | rfl | rfl <;> rcases six_f h6 with rfl | rfl | rfl | rfl | rfl | rfl <;> first | rfl | (exfalso; omega)
    rw [this]; exact ha j (by omega) h6
  · refine Six.le_trans hg ?_
    clear hi hle ha hg
    unfold Six.le
    have : f = 0 ∨ f = 1 ∨ f = 2 ∨ f = 3 ∨ f = 4 := by omega
    rcases this with rfl | rfl | rfl | rfl | rfl <;> simp only [Six.at, Six.set, true_and] at * <;> omega
  · intro u hu hn
    have a1 := hle u hu hn
    have a2 : ¬ v.at (f + 1) ≤ u.at (f + 1) := fun hh => by have := hi _ hh; rw [hu.at_ hf] at this; cases this
    have a3 := hu.nn hc
    clear hi hle ha hg hu hn
    unfold Six.le Six.bd at *
    have : f = 0 ∨ f = 1 ∨ f = 2 ∨ f = 3 ∨ f = 4 := by omega
    rcases this with rfl | rfl | rfl | rfl | rfl <;> simp only [Six.at, Six.set] at * <;> omega
theorem Adv.none_ (h : Adv c n0 v 0) (hi : ∀ k, v.y ≤ k → inF 0 c.yr k = false) (u : Six) (hu : u.good c) : ¬ n0.le u := by
  intro hn
  have a1 := h.least u hu hn
  have a2 : ¬ v.y ≤ u.y := fun hh => by have := hi _ hh; rw [hu.1] at this; cases this
  unfold Six.le at a1
  omega
theorem Six.far_lt {v u : Six} (hv : v.bd) (hu : u.bd) (_h : v.le u) (hne : ¬ u.le v) : u.far < v.far := by
  unfold Six.far Six.bd Six.le at *
  omega
end
noncomputable def sixOf (t : Int) : Six := ⟨fY t, fM t, fD t, fH t, fI t, fS t⟩
theorem numsB_good (c : Cl) (t : Int) : numsB c t = true ↔ (sixOf t).good c := by
  unfold numsB Six.good sixOf
  simp only [Bool.and_eq_true]
theorem six_range {t : Int} (h : isT t = true) : 2000 ≤ fY t ∧ fY t ≤ 2199 ∧ 1 ≤ fM t ∧ fM t ≤ 12 ∧ 1 ≤ fD t ∧ fD t ≤ 31 ∧ 0 ≤ fH t ∧ fH t ≤ 23 ∧ 0 ≤ fI t ∧ fI t ≤ 59 ∧ 0 ≤ fS t ∧ fS t ≤ 59 := by
  obtain ⟨⟨a, b, c, d, e, f⟩, h0, h1, m0, m1, s0, s1, _, _⟩ := date_of h
  have := (dim_bd (fY t) (fM t) c d).2
  omega
theorem six_bd {t : Int} (h : isT t = true) : (sixOf t).bd := by
  have := six_range h
  unfold Six.bd sixOf
  simp only
  omega
theorem six_le {s t : Int} (hs : isT s = true) (ht : isT t = true) (h : (sixOf s).le (sixOf t)) : s ≤ t := by
  unfold Six.le sixOf at h
  simp only at h
  by_cases e : fY s = fY t ∧ fM s = fM t ∧ fD s = fD t ∧ fH s = fH t ∧ fI s = fI t ∧ fS s = fS t
  · have a := date_of hs
    rw [e.1, e.2.1, e.2.2.1, e.2.2.2.1, e.2.2.2.2.1, e.2.2.2.2.2] at a
    have := date_same4 a (date_of ht)
    omega
  · have := date_lt4 (date_of hs) (date_of ht) (by omega)
    omega
theorem le_six {s t : Int} (hs : isT s = true) (ht : isT t = true) (h : s ≤ t) : (sixOf s).le (sixOf t) := by
  by_cases e : (sixOf s).le (sixOf t)
  · exact e
  · exfalso
    unfold Six.le sixOf at e
    simp only at e
    have := date_lt4 (date_of ht) (date_of hs) (by omega)
    omega
theorem match_six {c : Cl} {t : Int} (h : matchB c t = true) : isT t = true ∧ dayB c.ds (fW t) = true ∧ (sixOf t).good c := by
  obtain ⟨_, h2, h3, h4⟩ := (matchB_iff c t).1 h
  exact ⟨h2, h3, (numsB_good c t).1 h4⟩
structure Nxt (c : Cl) (x : Int) (v : Six) : Prop where
  ge : (sixOf x).le v
  least : ∀ s, x ≤ s → matchB c s = true → v.le (sixOf s)
theorem Nxt.start {c : Cl} {x : Int} (hx : isT x = true) {v : Six} (h1 : (sixOf x).le v) (h2 : ∀ u : Six, u.good c → (sixOf x).le u → v.le u) : Nxt c x v :=
  ⟨h1, fun _ hs hm => h2 _ (match_six hm).2.2 (le_six hx (match_six hm).1 hs)⟩
theorem Nxt.start_no {c : Cl} {x : Int} (hx : isT x = true) (h : ∀ u : Six, u.good c → ¬ (sixOf x).le u) (s : Int) (hs : x ≤ s) : matchB c s = false := by
  rw [← Bool.not_eq_true]
  intro hm
  exact h _ (match_six hm).2.2 (le_six hx (match_six hm).1 hs)
def Six.tom (v : Six) : Six := ⟨v.y, v.m, v.d + 1, 0, 0, 0⟩
noncomputable def hitB (c : Cl) (v : Six) : Bool := toOk v.y v.m v.d v.h v.i v.s && dayB c.ds (fW (toN v.y v.m v.d v.h v.i v.s))
theorem six_to {v : Six} (h : toOk v.y v.m v.d v.h v.i v.s = true) : isT (toN v.y v.m v.d v.h v.i v.s) = true ∧ sixOf (toN v.y v.m v.d v.h v.i v.s) = v := by
  obtain ⟨e0, e1, e2, e3, e4, e5, e6, _⟩ := date_eq (to_date h)
  refine ⟨e0, ?_⟩
  unfold sixOf
  rw [e1, e2, e3, e4, e5, e6]
theorem Nxt.hit {c : Cl} {x : Int} {v : Six} (hc : mayC c = true) (hx : isT x = true) (h : Nxt c x v) (hg : v.good c) (ho : toOk v.y v.m v.d v.h v.i v.s = true) (hd : dayB c.ds (fW (toN v.y v.m v.d v.h v.i v.s)) = true) :
    x ≤ toN v.y v.m v.d v.h v.i v.s ∧ matchB c (toN v.y v.m v.d v.h v.i v.s) = true ∧ ∀ s, x ≤ s → s < toN v.y v.m v.d v.h v.i v.s → matchB c s = false := by
  obtain ⟨e0, e1⟩ := six_to ho
  generalize toN v.y v.m v.d v.h v.i v.s = t at *
  subst e1
  refine ⟨six_le hx e0 h.ge, (matchB_iff c t).2 ⟨hc, e0, hd, (numsB_good c t).2 hg⟩, fun s hs hl => ?_⟩
  rw [← Bool.not_eq_true]
  intro hm
  have := six_le e0 (match_six hm).1 (h.least s hs hm)
  omega
theorem Nxt.miss {c : Cl} {x : Int} {v : Six} (hc : mayC c = true) (h : Nxt c x v) (hg : v.good c) (hno : hitB c v = false) : ∀ s, x ≤ s → matchB c s = true → v.tom.le (sixOf s) := by
  intro s hs hm
  have hl := h.least s hs hm
  obtain ⟨hT, hD, hG⟩ := match_six hm
  have hr := six_range hT
  by_cases e : v.y = fY s ∧ v.m = fM s ∧ v.d = fD s
  · exfalso
    obtain ⟨e1, e2, e3⟩ := e
    have hday : isDayB v.y v.m v.d = true := by rw [isDayB_iff, e1, e2, e3]; exact (date_of hT).day
    have r : ∀ f, f < 6 → lo f ≤ v.at f ∧ v.at f ≤ hi f := fun f hf => inF_range (mayC_fld hc hf) (hg.at_ hf)
    have r3 := r 3 (by omega)
    have r4 := r 4 (by omega)
    have r5 := r 5 (by omega)
    have hcl : isClB v.h v.i v.s = true := (isClB_iff _ _ _).2 ⟨r3.1, r3.2, r4.1, r4.2, r5.1, r5.2⟩
    have ho : toOk v.y v.m v.d v.h v.i v.s = true := by unfold toOk; rw [hday, hcl]; rfl
    have hw : fW (toN v.y v.m v.d v.h v.i v.s) = fW s := by
      rw [(date_eq (to_date ho)).2.2.2.2.2.2.2, (date_of hT).w_eq, e1, e2, e3]
    unfold hitB at hno
    rw [ho, hw, hD] at hno
    cases hno
  · unfold Six.le Six.tom sixOf at *
    simp only at *
    omega
theorem Nxt.more {c : Cl} {x : Int} {v v' : Six} (h : Nxt c x v) (hm : ∀ s, x ≤ s → matchB c s = true → v.tom.le (sixOf s)) (h1 : v.tom.le v') (h2 : ∀ u : Six, u.good c → v.tom.le u → v'.le u) : Nxt c x v' :=
  ⟨Six.le_trans h.ge (Six.le_trans (by unfold Six.le Six.tom; simp only [true_and]; omega) h1), fun s hs hM => h2 _ (match_six hM).2.2 (hm s hs hM)⟩
theorem Nxt.more_no {c : Cl} {x : Int} {v : Six} (hm : ∀ s, x ≤ s → matchB c s = true → v.tom.le (sixOf s)) (h : ∀ u : Six, u.good c → ¬ v.tom.le u) (s : Int) (hs : x ≤ s) : matchB c s = false := by
  rw [← Bool.not_eq_true]
  intro hM
  exact h _ (match_six hM).2.2 (hm s hs hM)
theorem Six.good_bd {c : Cl} (hc : mayC c = true) {v : Six} (hg : v.good c) : v.bd := by
  have r : ∀ f, f < 6 → lo f ≤ v.at f ∧ v.at f ≤ hi f := fun f hf => inF_range (mayC_fld hc hf) (hg.at_ hf)
  have r0 := r 0 (by omega)
  have r1 := r 1 (by omega)
  have r2 := r 2 (by omega)
  have r3 := r 3 (by omega)
  have r4 := r 4 (by omega)
  have r5 := r 5 (by omega)
  simp only [Six.at, lo, hi] at r0 r1 r2 r3 r4 r5
  unfold Six.bd
  omega
theorem Six.tom_bd {c : Cl} (hc : mayC c = true) {v : Six} (hg : v.good c) : v.tom.bd := by
  have r2 : lo 2 ≤ v.d ∧ v.d ≤ hi 2 := inF_range (mayC_fld hc (show 2 < 6 by omega)) (hg.at_ (show 2 < 6 by omega))
  have := Six.good_bd hc hg
  simp only [lo, hi] at r2
  unfold Six.bd Six.tom at *
  simp only
  omega
theorem Six.tom_far {c : Cl} (hc : mayC c = true) {v v' : Six} (hg : v.good c) (hg' : v'.good c) (h : v.tom.le v') : v'.far < v.far := by
  refine Six.far_lt (Six.good_bd hc hg) (Six.good_bd hc hg') (Six.le_trans (by unfold Six.le Six.tom; simp only [true_and]; omega) h) ?_
  unfold Six.le Six.tom at *
  simp only at *
  omega
end Go.Proofs.YtncolcjejgmhjaaGreatDoor
