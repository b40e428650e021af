/- The developers' way to read an expression, on plain lists, and that it is the document's. It speaks of no code. -/
import Derived.Test.YtncolcjejgmhjaaGreatDoorCxad
namespace Go.Proofs.YtncolcjejgmhjaaGreatDoor
def cut1 (c : UInt8) : List UInt8 → List UInt8 × List UInt8 × Bool
  | [] => ([], [], false)
  | x :: r => if x = c then ([], r, true) else (x :: (cut1 c r).1, (cut1 c r).2.1, (cut1 c r).2.2)
theorem cut1_no {c : UInt8} {l : List UInt8} (h : (cut1 c l).2.2 = false) : c ∉ l ∧ (cut1 c l).1 = l := by
  induction l with
  | nil => exact ⟨by simp, rfl⟩
  | cons x l ih =>
    rw [cut1] at h ⊢
    by_cases e : x = c
    · rw [if_pos e] at h; cases h
    · rw [if_neg e] at h ⊢
      obtain ⟨h1, h2⟩ := ih h
      exact ⟨by simp only [List.mem_cons, not_or]; exact ⟨fun a => e a.symm, h1⟩, by show x :: _ = _; rw [h2]⟩
theorem cut1_yes {c : UInt8} {l : List UInt8} (h : (cut1 c l).2.2 = true) : c ∉ (cut1 c l).1 ∧ l = (cut1 c l).1 ++ c :: (cut1 c l).2.1 := by
  induction l with
  | nil => cases h
  | cons x l ih =>
    rw [cut1] at h ⊢
    by_cases e : x = c
    · rw [if_pos e]; subst e; exact ⟨by simp, rfl⟩
    · rw [if_neg e] at h ⊢
      obtain ⟨h1, h2⟩ := ih h
      exact ⟨by simp only [List.mem_cons, not_or]; exact ⟨fun a => e a.symm, h1⟩, by show x :: l = x :: (_ ++ _); rw [← h2]⟩
theorem numL_notQ {s : List UInt8} {c : UInt8} (h : c ∈ s) (hc : isDig c = false) : numL s = none := by
  unfold numL
  rw [if_neg]
  rintro ⟨_, _, h3⟩
  have := List.all_eq_true.1 h3 c h
  rw [hc] at this; cases this
theorem sgo_len (b : UInt8) (l w : List UInt8) : 1 ≤ (sgo b w l).length := by
  induction l generalizing w with
  | nil => simp [sgo]
  | cons c l ih =>
    rw [sgo]
    split
    · simp
    · exact ih _
theorem split_lenQ (b : UInt8) (l : List UInt8) : 1 ≤ (splitL b l).length := sgo_len b l []
theorem split_neQ (b : UInt8) (l : List UInt8) : splitL b l ≠ [] := fun h => by have := split_lenQ b l; rw [h] at this; simp at this
theorem sgo_two {b : UInt8} {l w : List UInt8} (h : b ∈ l) : 2 ≤ (sgo b w l).length := by
  induction l generalizing w with
  | nil => cases h
  | cons c l ih =>
    rw [sgo]
    by_cases e : c = b
    · rw [if_pos e, List.length_cons]; have := sgo_len b l []; omega
    · rw [if_neg e]
      rcases List.mem_cons.1 h with h | h
      · exact absurd h.symm e
      · exact ih h
theorem split_two {b : UInt8} {l : List UInt8} (h : b ∈ l) : 2 ≤ (splitL b l).length := sgo_two h
def partD (s : List UInt8) : Option Pt :=
  if (cut1 47 s).2.2 = true then (match numL (cut1 47 s).2.1 with
    | some k => if k = 0 then none else bodyP (cut1 47 s).1 k
    | none => none) else bodyP (cut1 47 s).1 0
theorem partD_eq (s : List UInt8) : partD s = partL s := by
  unfold partD partL
  rcases h : (cut1 47 s).2.2 with _ | _
  · obtain ⟨h1, h2⟩ := cut1_no h
    rw [if_neg (by simp), split_one h1, h2]
  · obtain ⟨h1, h2⟩ := cut1_yes h
    rw [if_pos rfl]
    generalize (cut1 47 s).1 = t at *
    generalize (cut1 47 s).2.1 = v at *
    rw [h2, split_cons h1]
    by_cases hv : (47 : UInt8) ∈ v
    · rw [numL_notQ hv (by decide)]
      have := split_two hv
      match splitL 47 v, this with
      | a :: b :: r, _ => rfl
    · rw [split_one hv]
      simp only
      cases numL v with
      | none => rfl
      | some k =>
        simp only
        by_cases hk : k = 0
        · rw [if_pos hk, if_neg (by omega)]
        · rw [if_neg hk, if_pos (by omega)]
theorem mapO_app {α β : Type} (g : α → Option β) (l m : List α) : mapO g (l ++ m) = (mapO g l).bind fun x => (mapO g m).map (x ++ ·) := by
  induction l with
  | nil => simp [mapO]
  | cons x l ih =>
    rw [List.cons_append, mapO, mapO, ih]
    cases g x with
    | none => rfl
    | some y =>
      cases mapO g l with
      | none => rfl
      | some ys => cases mapO g m <;> simp
def dayN (w : List UInt8) : Int := if w = dayL 1 then 1 else if w = dayL 2 then 2 else if w = dayL 3 then 3 else if w = dayL 4 then 4 else if w = dayL 5 then 5 else if w = dayL 6 then 6 else if w = dayL 7 then 7 else 0
theorem dayN_spec (w : List UInt8) : dayN w = 0 ∨ (1 ≤ dayN w ∧ dayN w ≤ 7 ∧ w = dayL (dayN w)) := by
  unfold dayN
  split
  · next h => exact .inr ⟨by omega, by omega, h⟩
  split
  · next h => exact .inr ⟨by omega, by omega, h⟩
  split
  · next h => exact .inr ⟨by omega, by omega, h⟩
  split
  · next h => exact .inr ⟨by omega, by omega, h⟩
  split
  · next h => exact .inr ⟨by omega, by omega, h⟩
  split
  · next h => exact .inr ⟨by omega, by omega, h⟩
  split
  · next h => exact .inr ⟨by omega, by omega, h⟩
  · exact .inl rfl
def pairD (a b : Int) : Option (Int × Int) := if a = 0 ∨ b < a then none else some (a, b)
def itemD (w : List UInt8) : Option (Int × Int) := match cutDots w with
  | some (x, y) => pairD (dayN x) (dayN y)
  | none => pairD (dayN w) (dayN w)
theorem cut_spec' {l x y : List UInt8} (h : cutDots l = some (x, y)) : l = x ++ 46 :: 46 :: y := by
  induction l generalizing x y with
  | nil => cases h
  | cons c l ih =>
    rw [cutDots] at h
    split at h
    · next hc =>
      obtain ⟨rfl, h2⟩ := hc
      have h' := Option.some.inj h
      cases l with
      | nil => cases h2
      | cons d r =>
        simp only [List.head?_cons, Option.some.injEq] at h2
        simp only [List.tail_cons, Prod.mk.injEq] at h'
        rw [← h'.1, ← h'.2, h2]; rfl
    · cases hr : cutDots l with
      | none => rw [hr] at h; cases h
      | some z =>
        rw [hr] at h
        have h' := Option.some.inj h
        simp only [Prod.mk.injEq] at h'
        rw [← h'.1, ← h'.2, List.cons_append, ← ih (x := z.1) (y := z.2) hr]
theorem items_ok : ∀ x ∈ items, itemD x.1 = some x.2 ∧ itemL x.1 = some x.2 := by decide
theorem items_one : ∀ d ∈ week, itemL (dayL d) = some (d, d) := by decide
theorem items_two : ∀ d ∈ week, ∀ e ∈ week, d ≤ e → itemL (dayL d ++ 46 :: 46 :: dayL e) = some (d, e) := by decide
theorem week_mem {d : Int} (h0 : 1 ≤ d) (h1 : d ≤ 7) : d ∈ week := by
  have h : d = 1 ∨ d = 2 ∨ d = 3 ∨ d = 4 ∨ d = 5 ∨ d = 6 ∨ d = 7 := by omega
  rcases h with rfl | rfl | rfl | rfl | rfl | rfl | rfl <;> decide
theorem itemD_eq (w : List UInt8) : itemD w = itemL w := by
  cases hl : itemL w with
  | some p =>
    unfold itemL at hl
    rw [Option.map_eq_some_iff] at hl
    obtain ⟨x, hx, rfl⟩ := hl
    have hm := List.mem_of_find?_eq_some hx
    have he : x.1 = w := by have := List.find?_some hx; simpa using this
    rw [← he]
    exact (items_ok x hm).1
  | none =>
    cases hd : itemD w with
    | none => rfl
    | some p =>
      exfalso
      have key : itemL w = some p := by
        unfold itemD at hd
        cases hc : cutDots w with
        | none =>
          rw [hc] at hd
          simp only [pairD] at hd
          split at hd
          · cases hd
          · next h =>
            rcases dayN_spec w with h0 | ⟨h0, h1, h2⟩
            · omega
            · have := items_one _ (week_mem h0 h1)
              rw [← h2] at this
              rw [this, hd]
        | some z =>
          obtain ⟨x, y⟩ := z
          rw [hc] at hd
          simp only [pairD] at hd
          split at hd
          · cases hd
          · next h =>
            rcases dayN_spec x with h0 | ⟨h0, h1, h2⟩
            · omega
            rcases dayN_spec y with g0 | ⟨g0, g1, g2⟩
            · omega
            have := items_two _ (week_mem h0 h1) _ (week_mem g0 g1) (by omega)
            rw [← h2, ← g2, ← cut_spec' hc] at this
            rw [this, hd]
      rw [hl] at key; cases key
def rangeD (p : Int × Int) : List Int := week.filter fun d => decide (p.1 ≤ d ∧ d ≤ p.2)
theorem rises_filter {ds : List Int} {P : Int → Bool} (h : risesB 0 ds = true) (hm : ∀ d, d ∈ ds ↔ d ∈ week ∧ P d = true) : week.filter P = ds := by
  have e : week = upto 0 7 := by decide
  have := upto_rises (x := 0) (k := 7) (ds := ds) (by decide) h
  rw [← e] at this
  rw [← this]
  refine List.filter_congr fun d hd => ?_
  rw [Bool.eq_iff_iff, decide_eq_true_iff, hm d]
  exact ⟨fun h => ⟨hd, h⟩, fun h => h.2⟩
theorem days_of {its : List (Int × Int)} {ds : List Int} (h : risesB 0 ds = true) (hm : ∀ d, d ∈ ds ↔ ∃ p ∈ its, d ∈ rangeD p) : week.filter (fun d => its.any fun x => decide (x.1 ≤ d ∧ d ≤ x.2)) = ds := by
  refine rises_filter h fun d => ?_
  rw [hm]
  constructor
  · rintro ⟨p, hp, hd⟩
    unfold rangeD at hd
    rw [List.mem_filter] at hd
    exact ⟨hd.1, List.any_eq_true.2 ⟨p, hp, hd.2⟩⟩
  · rintro ⟨hw, ha⟩
    obtain ⟨p, hp, hd⟩ := List.any_eq_true.1 ha
    exact ⟨p, hp, by unfold rangeD; rw [List.mem_filter]; exact ⟨hw, hd⟩⟩
def anyDate : List UInt8 := [42, 45, 42, 45, 42]
def midnight : List UInt8 := [48, 48, 58, 48, 48, 58, 48, 48]
def takeD (c : UInt8) (miss : List UInt8) : List (List UInt8) → List UInt8 × List (List UInt8)
  | [] => (miss, [])
  | w :: r => if c ∈ w then (w, r) else (miss, w :: r)
def clockD (time : List UInt8) : List (List UInt8) := if (splitL 58 time).length = 2 then splitL 58 time ++ [[48, 48]] else splitL 58 time
def fieldsD (date time : List UInt8) : Option (List (List Pt)) :=
  if (splitL 45 date).length = 3 ∧ (clockD time).length = 3 then mapO partsL (splitL 45 date ++ clockD time) else none
def calD (ds : List Int) (fs : List (List Pt)) : Cl := ⟨ds, fs.getD 0 [], fs.getD 1 [], fs.getD 2 [], fs.getD 3 [], fs.getD 4 [], fs.getD 5 []⟩
def restD (s : List UInt8) : List (List UInt8) := if (daysL ((splitL 32 s).headD [])).isSome = true then (splitL 32 s).tail else splitL 32 s
def exprD (s : List UInt8) : Option Cl :=
  if (takeD 58 midnight (takeD 45 anyDate (restD s)).2).2 = [] then (fieldsD (takeD 45 anyDate (restD s)).1 (takeD 58 midnight (takeD 45 anyDate (restD s)).2).1).map (calD ((daysL ((splitL 32 s).headD [])).getD [])) else none
def parseDv (s : List UInt8) : Option Cl :=
  if 400 < s.length then none else match exprD (shortL s) with
    | some c => if mayC c = true then some c else none
    | none => none
theorem bodyP_not {w : List UInt8} {k : Int} {c : UInt8} (hc : c ∈ w) (h1 : isDig c = false) (h2 : c ≠ 42) (h3 : c ≠ 46) : bodyP w k = none := by
  unfold bodyP
  rw [if_neg (by rintro rfl; simp at hc; exact h2 hc)]
  cases h : cutDots w with
  | none => simp only; rw [numL_notQ hc h1]
  | some z =>
    obtain ⟨x, y⟩ := z
    have e := cut_spec' h
    rw [e] at hc
    simp only [List.mem_append, List.mem_cons] at hc
    simp only
    rcases hc with hc | hc | hc | hc
    · rw [numL_notQ hc h1]
    · exact absurd hc h3
    · exact absurd hc h3
    · rw [numL_notQ hc h1]; cases numL x <;> rfl
theorem partL_not {s : List UInt8} {c : UInt8} (hc : c ∈ s) (h1 : isDig c = false) (h2 : c ≠ 42) (h3 : c ≠ 46) (h4 : c ≠ 47) : partL s = none := by
  rw [← partD_eq]
  unfold partD
  rcases h : (cut1 47 s).2.2 with _ | _
  · obtain ⟨_, e⟩ := cut1_no h
    rw [if_neg (by simp), e]
    exact bodyP_not hc h1 h2 h3
  · obtain ⟨_, e⟩ := cut1_yes h
    rw [if_pos rfl]
    rw [e] at hc
    simp only [List.mem_append, List.mem_cons] at hc
    rcases hc with hc | hc | hc
    · cases numL (cut1 47 s).2.1 with
      | none => rfl
      | some k => simp only; split
                  · rfl
                  · exact bodyP_not hc h1 h2 h3
    · exact absurd hc h4
    · rw [numL_notQ hc h1]
theorem partsL_not {s : List UInt8} {c : UInt8} (hc : c ∈ s) (h1 : isDig c = false) (h2 : c ≠ 42) (h3 : c ≠ 46) (h4 : c ≠ 47) (h5 : c ≠ 44) : partsL s = none := by
  obtain ⟨w, hw, hcw⟩ := split_mem (by_ := 44) h5 hc
  exact mapO_none hw (partL_not hcw h1 h2 h3 h4)
def finC (o : Option Cl) : Option Cl := match o with
  | some c => if mayC c = true then some c else none
  | none => none
def finR (o : Option Rd) : Option Cl := match o with
  | some x => if mayC (calOf x.ds x.fs) = true then some (calOf x.ds x.fs) else none
  | none => none
theorem may_nil {c : Cl} {f : Nat} (hf : f < 6) (h : c.fld f = []) : mayC c = false := by
  rw [← Bool.not_eq_true]
  intro hm
  obtain ⟨_, a, b, e, g, i, j⟩ := (mayC_iff c).1 hm
  have : f = 0 ∨ f = 1 ∨ f = 2 ∨ f = 3 ∨ f = 4 ∨ f = 5 := by omega
  rcases this with rfl | rfl | rfl | rfl | rfl | rfl
  · have := ((mayF_iff _ _).1 a).1.1; rw [show c.yr = [] from h] at this; simp at this
  · have := ((mayF_iff _ _).1 b).1.1; rw [show c.mo = [] from h] at this; simp at this
  · have := ((mayF_iff _ _).1 e).1.1; rw [show c.dy = [] from h] at this; simp at this
  · have := ((mayF_iff _ _).1 g).1.1; rw [show c.hr = [] from h] at this; simp at this
  · have := ((mayF_iff _ _).1 i).1.1; rw [show c.mi = [] from h] at this; simp at this
  · have := ((mayF_iff _ _).1 j).1.1; rw [show c.se = [] from h] at this; simp at this
theorem mapO_six {g : List UInt8 → Option (List Pt)} {a b c d e f : List UInt8} {A B C D E F : List Pt} (ha : g a = some A) (hb : g b = some B) (hc : g c = some C) (hd : g d = some D) (he : g e = some E) (hf : g f = some F) :
    mapO g [a, b, c, d, e, f] = some [A, B, C, D, E, F] := by
  simp [mapO, ha, hb, hc, hd, he, hf]
theorem fin_six (ds : List Int) (a b c d e f : List UInt8) : finC ((mapO partsL [a, b, c, d, e, f]).map (calD ds)) = finR (some ⟨3, ds, [a, b, c, d, e, f]⟩) := by
  have bad : ∀ x ∈ [a, b, c, d, e, f], partsL x = none → mapO partsL [a, b, c, d, e, f] = none := fun x hx h => mapO_none hx h
  unfold finR
  simp only
  cases ha : partsL a with
  | none => rw [bad a (by simp) ha, may_nil (f := 0) (by omega) (by show (partsL a).getD [] = []; rw [ha]; rfl)]; rfl
  | some A =>
  cases hb : partsL b with
  | none => rw [bad b (by simp) hb, may_nil (f := 1) (by omega) (by show (partsL b).getD [] = []; rw [hb]; rfl)]; rfl
  | some B =>
  cases hc : partsL c with
  | none => rw [bad c (by simp) hc, may_nil (f := 2) (by omega) (by show (partsL c).getD [] = []; rw [hc]; rfl)]; rfl
  | some C =>
  cases hd : partsL d with
  | none => rw [bad d (by simp) hd, may_nil (f := 3) (by omega) (by show (partsL d).getD [] = []; rw [hd]; rfl)]; rfl
  | some D =>
  cases he : partsL e with
  | none => rw [bad e (by simp) he, may_nil (f := 4) (by omega) (by show (partsL e).getD [] = []; rw [he]; rfl)]; rfl
  | some E =>
  cases hf : partsL f with
  | none => rw [bad f (by simp) hf, may_nil (f := 5) (by omega) (by show (partsL f).getD [] = []; rw [hf]; rfl)]; rfl
  | some F =>
    rw [mapO_six ha hb hc hd he hf]
    have e1 : calOf ds [a, b, c, d, e, f] = ⟨ds, A, B, C, D, E, F⟩ := by
      simp [calOf, ha, hb, hc, hd, he, hf]
    rw [e1]
    rfl
theorem fold_end (x : Rd) (hx : 3 ≤ x.st) (w : List UInt8) (r : List (List UInt8)) : foldR x (w :: r) = none := by
  rw [foldR]
  unfold stepR
  rw [if_neg (by omega), if_neg (by omega), if_neg (by omega)]
theorem len_one {b : UInt8} {w : List UInt8} (h : b ∉ w) : (splitL b w).length = 1 := by rw [split_one h]; rfl
theorem list3 {α : Type} {l : List α} (h : l.length = 3) : ∃ a b c, l = [a, b, c] := by
  match l, h with
  | [a, b, c], _ => exact ⟨a, b, c, rfl⟩
theorem list2 {α : Type} {l : List α} (h : l.length = 2) : ∃ a b, l = [a, b] := by
  match l, h with
  | [a, b], _ => exact ⟨a, b, rfl⟩
def dev2 (ds : List Int) (ws : List (List UInt8)) : Option Cl :=
  finC (if (takeD 58 midnight (takeD 45 anyDate ws).2).2 = [] then (fieldsD (takeD 45 anyDate ws).1 (takeD 58 midnight (takeD 45 anyDate ws).2).1).map (calD ds) else none)
theorem split_any : splitL 45 anyDate = [[42], [42], [42]] := by decide
theorem split_mid : splitL 58 midnight = [[48, 48], [48, 48], [48, 48]] := by decide
theorem take_yes {c : UInt8} {m w : List UInt8} {r : List (List UInt8)} (h : c ∈ w) : takeD c m (w :: r) = (w, r) := by rw [takeD, if_pos h]
theorem take_no {c : UInt8} {m w : List UInt8} {r : List (List UInt8)} (h : c ∉ w) : takeD c m (w :: r) = (m, w :: r) := by rw [takeD, if_neg h]
theorem take_nil (c : UInt8) (m : List UInt8) : takeD c m [] = (m, []) := rfl
theorem fields_fin (ds : List Int) {t u : List UInt8} {a b c : List UInt8} (ht : splitL 45 t = [a, b, c]) (hu : (splitL 58 u).length = 2 ∨ (splitL 58 u).length = 3) :
    finC ((fieldsD t u).map (calD ds)) = finR (some ⟨3, ds, [a, b, c] ++ (splitL 58 u ++ [[48, 48], [48, 48], [48, 48]].drop (splitL 58 u).length)⟩) := by
  rcases hu with h | h
  · obtain ⟨d, e, hs⟩ := list2 h
    have hc : clockD u = [d, e, [48, 48]] := by unfold clockD; rw [if_pos h, hs]; rfl
    unfold fieldsD
    rw [if_pos ⟨by rw [ht]; rfl, by rw [hc]; rfl⟩, ht, hc, hs]
    exact fin_six ds a b c d e [48, 48]
  · obtain ⟨d, e, f, hs⟩ := list3 h
    have hc : clockD u = [d, e, f] := by unfold clockD; rw [if_neg (by omega), hs]
    unfold fieldsD
    rw [if_pos ⟨by rw [ht]; rfl, by rw [hc]; rfl⟩, ht, hc, hs]
    exact fin_six ds a b c d e f
theorem fields_none {t u : List UInt8} (h : (splitL 45 t).length ≠ 3 ∨ ((splitL 58 u).length ≠ 2 ∧ (splitL 58 u).length ≠ 3)) : fieldsD t u = none := by
  unfold fieldsD
  rw [if_neg]
  rintro ⟨h1, h2⟩
  rcases h with h | h
  · exact h h1
  · unfold clockD at h2
    rw [if_neg h.1] at h2
    exact h.2 h2
theorem fin_bad (ds : List Int) {a b c w : List UInt8} (h45 : (45 : UInt8) ∈ w) (hu : (splitL 58 w).length = 2 ∨ (splitL 58 w).length = 3) :
    finR (some ⟨3, ds, [a, b, c] ++ (splitL 58 w ++ [[48, 48], [48, 48], [48, 48]].drop (splitL 58 w).length)⟩) = none := by
  obtain ⟨v, hv, hc⟩ := split_mem (by_ := 58) (by decide) h45
  have hn : partsL v = none := partsL_not hc (by decide) (by decide) (by decide) (by decide) (by decide)
  rcases hu with h | h
  · obtain ⟨d, e, hs⟩ := list2 h
    rw [hs] at hv ⊢
    show finR (some ⟨3, ds, [a, b, c, d, e, [48, 48]]⟩) = none
    rw [← fin_six, mapO_none (x := v) (by simp only [List.mem_cons, List.not_mem_nil, or_false] at hv ⊢; grind) hn]; rfl
  · obtain ⟨d, e, f, hs⟩ := list3 h
    rw [hs] at hv ⊢
    show finR (some ⟨3, ds, [a, b, c, d, e, f]⟩) = none
    rw [← fin_six, mapO_none (x := v) (by simp only [List.mem_cons, List.not_mem_nil, or_false] at hv ⊢; grind) hn]; rfl
theorem read_two (ds : List Int) (st : Nat) (hst : st ≤ 1) (ws : List (List UInt8)) (h0 : st = 0 → ∀ w r, ws = w :: r → daysL w = none) :
    finR (foldR ⟨st, ds, [[42], [42], [42], [48, 48], [48, 48], [48, 48]]⟩ ws) = dev2 ds ws := by
  cases ws with
  | nil =>
    unfold dev2
    rw [take_nil, take_nil, if_pos rfl, fields_fin ds split_any (.inr (by rw [split_mid]; rfl)), split_mid]
    rfl
  | cons w r =>
    rw [foldR]
    by_cases hA : (45 : UInt8) ∈ w
    · have hD : daysL w = none := days_other (.inl rfl) hA
      by_cases hl : (splitL 45 w).length = 3
      · obtain ⟨a, b, c, hs⟩ := list3 hl
        have e1 : stepR ⟨st, ds, [[42], [42], [42], [48, 48], [48, 48], [48, 48]]⟩ w = some ⟨2, ds, [a, b, c, [48, 48], [48, 48], [48, 48]]⟩ := by
          unfold stepR
          rw [if_neg (by rw [hD]; simp), if_pos ⟨hl, by show st < 2; omega⟩, hs]; rfl
        rw [e1]
        simp only
        unfold dev2
        rw [take_yes hA]
        simp only
        cases r with
        | nil =>
          rw [take_nil, if_pos rfl, fields_fin ds hs (.inr (by rw [split_mid]; rfl)), split_mid]
          rfl
        | cons v r =>
          rw [foldR]
          have e2 : ∀ hb : (splitL 58 v).length = 2 ∨ (splitL 58 v).length = 3, stepR ⟨2, ds, [a, b, c, [48, 48], [48, 48], [48, 48]]⟩ v = some ⟨3, ds, [a, b, c] ++ (splitL 58 v ++ [[48, 48], [48, 48], [48, 48]].drop (splitL 58 v).length)⟩ := by
            intro hb
            unfold stepR
            rw [if_neg (by simp), if_neg (by simp), if_pos ⟨hb, by simp⟩]
            rcases hb with h | h <;> rw [h] <;> rfl
          have e3 : ¬ ((splitL 58 v).length = 2 ∨ (splitL 58 v).length = 3) → stepR ⟨2, ds, [a, b, c, [48, 48], [48, 48], [48, 48]]⟩ v = none := by
            intro hb
            unfold stepR
            rw [if_neg (by simp), if_neg (by simp), if_neg (fun h => hb h.1)]
          by_cases hB : (58 : UInt8) ∈ v
          · rw [take_yes hB]
            simp only
            by_cases hb : (splitL 58 v).length = 2 ∨ (splitL 58 v).length = 3
            · rw [e2 hb]
              simp only
              cases r with
              | nil => rw [if_pos rfl, fields_fin ds hs hb]; rfl
              | cons x r => rw [fold_end _ (Nat.le_refl _), if_neg (by simp)]; rfl
            · rw [e3 hb, fields_none (.inr (by omega))]
              simp only [Option.map_none, ite_self]; rfl
          · have h1 := len_one hB
            rw [e3 (by omega), take_no hB, if_neg (by simp)]; rfl
      · have e4 : dev2 ds (w :: r) = none := by
          unfold dev2
          rw [take_yes hA]
          simp only
          rw [fields_none (.inl hl)]
          simp only [Option.map_none, ite_self]; rfl
        rw [e4]
        by_cases hb : (splitL 58 w).length = 2 ∨ (splitL 58 w).length = 3
        · have e1 : stepR ⟨st, ds, [[42], [42], [42], [48, 48], [48, 48], [48, 48]]⟩ w = some ⟨3, ds, [[42], [42], [42]] ++ (splitL 58 w ++ [[48, 48], [48, 48], [48, 48]].drop (splitL 58 w).length)⟩ := by
            unfold stepR
            rw [if_neg (by rw [hD]; simp), if_neg (fun h => hl h.1), if_pos ⟨hb, by show st < 3; omega⟩]
            rcases hb with h | h <;> rw [h] <;> rfl
          rw [e1]
          simp only
          cases r with
          | nil => exact fin_bad ds hA hb
          | cons x r => rw [fold_end _ (Nat.le_refl _)]; rfl
        · have e1 : stepR ⟨st, ds, [[42], [42], [42], [48, 48], [48, 48], [48, 48]]⟩ w = none := by
            unfold stepR
            rw [if_neg (by rw [hD]; simp), if_neg (fun h => hl h.1), if_neg (fun h => hb h.1)]
          rw [e1]; rfl
    · have l45 := len_one hA
      by_cases hB : (58 : UInt8) ∈ w
      · have hD : daysL w = none := days_other (.inr rfl) hB
        have e5 : dev2 ds (w :: r) = finC (if r = [] then (fieldsD anyDate w).map (calD ds) else none) := by
          unfold dev2
          rw [take_no hA, take_yes hB]
        rw [e5]
        by_cases hb : (splitL 58 w).length = 2 ∨ (splitL 58 w).length = 3
        · have e1 : stepR ⟨st, ds, [[42], [42], [42], [48, 48], [48, 48], [48, 48]]⟩ w = some ⟨3, ds, [[42], [42], [42]] ++ (splitL 58 w ++ [[48, 48], [48, 48], [48, 48]].drop (splitL 58 w).length)⟩ := by
            unfold stepR
            rw [if_neg (by rw [hD]; simp), if_neg (by omega), if_pos ⟨hb, by show st < 3; omega⟩]
            rcases hb with h | h <;> rw [h] <;> rfl
          rw [e1]
          simp only
          cases r with
          | nil => rw [if_pos rfl, fields_fin ds split_any hb]; rfl
          | cons x r => rw [fold_end _ (Nat.le_refl _), if_neg (by simp)]; rfl
        · have e1 : stepR ⟨st, ds, [[42], [42], [42], [48, 48], [48, 48], [48, 48]]⟩ w = none := by
            unfold stepR
            rw [if_neg (by rw [hD]; simp), if_neg (by omega), if_neg (fun h => hb h.1)]
          rw [e1, fields_none (.inr (by omega))]
          simp only [Option.map_none, ite_self]; rfl
      · have l58 := len_one hB
        have e1 : stepR ⟨st, ds, [[42], [42], [42], [48, 48], [48, 48], [48, 48]]⟩ w = none := by
          unfold stepR
          rw [if_neg (by
            rintro ⟨h1, h2⟩
            rw [h0 (by simp only at h2; omega) w r rfl] at h1
            cases h1), if_neg (by omega), if_neg (by omega)]
        have e2 : dev2 ds (w :: r) = none := by
          unfold dev2
          rw [take_no hA, take_no hB, if_neg (by simp)]; rfl
        rw [e1, e2]; rfl
theorem dev2_long (ds : List Int) (ws : List (List UInt8)) (h : 3 ≤ ws.length) : dev2 ds ws = none := by
  have key : ∀ c m (l : List (List UInt8)), l.length ≤ (takeD c m l).2.length + 1 := by
    intro c m l
    cases l with
    | nil => simp [takeD]
    | cons w r =>
      rw [takeD]
      split <;> simp
  have h1 := key 45 anyDate ws
  have h2 := key 58 midnight (takeD 45 anyDate ws).2
  unfold dev2
  rw [if_neg (by intro e; rw [e] at h2; simp at h2; omega)]; rfl
theorem parse_same (s : List UInt8) : parseDv s = parseC s := by
  unfold parseDv parseC
  by_cases hl : 400 < s.length
  · rw [if_pos hl, if_pos hl]
  rw [if_neg hl, if_neg hl]
  generalize shortL s = u
  show finC (exprD u) = if 3 < (splitL 32 u).length then none else finR (foldR rd0 (splitL 32 u))
  have e : finC (exprD u) = dev2 ((daysL ((splitL 32 u).headD [])).getD []) (restD u) := rfl
  rw [e]
  unfold restD
  have hne := split_neQ 32 u
  generalize splitL 32 u = ws at *
  cases ws with
  | nil => exact absurd rfl hne
  | cons w r =>
    simp only [List.headD_cons, List.tail_cons]
    rcases Option.eq_none_or_eq_some (daysL w) with hd | ⟨ds, hd⟩
    case inr =>
      simp only [hd, Option.isSome_some, if_true, Option.getD_some]
      by_cases h3 : 3 < (w :: r).length
      · rw [if_pos h3, dev2_long _ _ (by simp at h3; omega)]
      · rw [if_neg h3, foldR]
        have e1 : stepR rd0 w = some ⟨1, ds, [[42], [42], [42], [48, 48], [48, 48], [48, 48]]⟩ := by
          unfold stepR
          rw [if_pos ⟨by rw [hd]; rfl, by decide⟩, hd]; rfl
        rw [e1]
        exact (read_two ds 1 (Nat.le_refl _) r (fun h => absurd h (by omega))).symm
    case inl =>
      simp only [hd, Option.isSome_none, Bool.false_eq_true, if_false, Option.getD_none]
      by_cases h3 : 3 < (w :: r).length
      · rw [if_pos h3, dev2_long _ _ (by omega)]
      · rw [if_neg h3]
        exact (read_two [] 0 (by omega) (w :: r) (fun _ x y e => by injection e with e1 e2; rw [← e1]; exact hd)).symm
end Go.Proofs.YtncolcjejgmhjaaGreatDoor
