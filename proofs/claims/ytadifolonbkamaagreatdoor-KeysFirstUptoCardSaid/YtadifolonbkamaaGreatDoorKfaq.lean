/- Calendar expressions on plain lists of bytes: how one is written, how a text is read, and that what is written is read as it was. It speaks of no code. What comes next, by fields: the least number of a part, of a field; the least six numbers; the step to the next day. It speaks of no code. -/
import Derived.Test.YtadifolonbkamaaGreatDoorKfab
import Derived.Test.YtadifolonbkamaaGreatDoorKfap
namespace Go.Proofs.YtadifolonbkamaaGreatDoor.Ca
def sgo (by_ : UInt8) : List UInt8 → List UInt8 → List (List UInt8)
  | w, [] => [w]
  | w, c :: r => if c = by_ then w :: sgo by_ [] r else sgo by_ (w ++ [c]) r
/-- A text in pieces, at each of one byte. -/
def splitL (by_ : UInt8) (l : List UInt8) : List (List UInt8) := sgo by_ [] l
theorem sgo_plain (by_ : UInt8) (l w : List UInt8) (h : by_ ∉ l) (r : List UInt8) : sgo by_ w (l ++ r) = sgo by_ (w ++ l) r := by
  induction l generalizing w with
  | nil => simp
  | cons c l ih =>
    rw [List.cons_append, sgo, if_neg (by rintro rfl; exact h (by simp)), ih _ (fun hc => h (by simp [hc]))]
    simp
theorem split_one {by_ : UInt8} {l : List UInt8} (h : by_ ∉ l) : splitL by_ l = [l] := by
  have := sgo_plain by_ l [] h []
  rw [List.append_nil] at this
  unfold splitL
  rw [this]; rfl
theorem split_cons {by_ : UInt8} {l : List UInt8} (h : by_ ∉ l) (r : List UInt8) : splitL by_ (l ++ by_ :: r) = l :: splitL by_ r := by
  unfold splitL
  rw [sgo_plain by_ l [] h, List.nil_append, sgo, if_pos rfl]
theorem sgo_mem (by_ : UInt8) (l w : List UInt8) {c : UInt8} (hc : c ≠ by_) (h : c ∈ w ++ l) : ∃ v ∈ sgo by_ w l, c ∈ v := by
  induction l generalizing w with
  | nil => exact ⟨w, by simp [sgo], by simpa using h⟩
  | cons x l ih =>
    rw [sgo]
    by_cases hx : x = by_
    · rw [if_pos hx]
      rcases List.mem_append.1 h with h | h
      · exact ⟨w, by simp, h⟩
      · rcases List.mem_cons.1 h with h | h
        · exact absurd (h.trans hx) hc
        · obtain ⟨v, hv, hcv⟩ := ih [] (by simpa using h)
          exact ⟨v, by simp [hv], hcv⟩
    · rw [if_neg hx]
      exact ih (w ++ [x]) (by simpa using h)
theorem split_mem {by_ : UInt8} {l : List UInt8} {c : UInt8} (hc : c ≠ by_) (h : c ∈ l) : ∃ v ∈ splitL by_ l, c ∈ v := sgo_mem by_ l [] hc (by simpa using h)
/-- Pieces with a byte between. -/
def joinL (c : UInt8) : List (List UInt8) → List UInt8
  | [] => []
  | w :: r => w ++ r.flatMap fun v => c :: v
/-- A number of 1 to 4 digits. -/
def numL (s : List UInt8) : Option Nat := if 1 ≤ s.length ∧ s.length ≤ 4 ∧ s.all isDig = true then some (valL s) else none
def padL (d n : Nat) : List UInt8 := List.replicate (d - (decL n).length) 48 ++ decL n
/-- What is ahead of the first two points, and behind them. -/
def cutDots : List UInt8 → Option (List UInt8 × List UInt8)
  | [] => none
  | c :: r => if c = 46 ∧ r.head? = some 46 then some ([], r.tail) else (cutDots r).map fun x => (c :: x.1, x.2)
def bodyP (w : List UInt8) (k : Int) : Option Pt :=
  if w = [42] then some ⟨-1, -1, k⟩ else match cutDots w with
    | some (x, y) => match numL x, numL y with
      | some i, some j => some ⟨i, j, k⟩
      | _, _ => none
    | none => match numL w with
      | some i => some ⟨i, -1, k⟩
      | none => none
/-- A text's part. -/
def partL (s : List UInt8) : Option Pt := match splitL 47 s with
  | [w] => bodyP w 0
  | [w, v] => match numL v with
    | some k => if 1 ≤ k then bodyP w k else none
    | none => none
  | _ => none
def dg (f : Nat) : Nat := if f = 0 then 4 else 2
/-- A part's text. -/
def ptBody (f : Nat) (p : Pt) : List UInt8 := (if 0 ≤ p.a then padL (dg f) p.a.toNat else [42]) ++ (if 0 ≤ p.b then 46 :: 46 :: padL (dg f) p.b.toNat else [])
def ptL (f : Nat) (p : Pt) : List UInt8 := ptBody f p ++ (if 0 < p.s then 47 :: decL p.s.toNat else [])
/-- Some texts' parts, all of them. -/
def mapO {α β : Type} (g : α → Option β) : List α → Option (List β)
  | [] => some []
  | x :: r => match g x with
    | some y => (mapO g r).map (y :: ·)
    | none => none
theorem mapO_none {α β : Type} {g : α → Option β} {l : List α} {x : α} (hx : x ∈ l) (h : g x = none) : mapO g l = none := by
  induction l with
  | nil => cases hx
  | cons y l ih =>
    rw [mapO]
    rcases List.mem_cons.1 hx with rfl | hx
    · rw [h]
    · rw [ih hx]
      cases g y <;> rfl
def partsL (s : List UInt8) : Option (List Pt) := mapO partL (splitL 44 s)
def fieldL (f : Nat) (l : List Pt) : List UInt8 := joinL 44 (l.map (ptL f))
/-- The weekdays' names. -/
def dayL (d : Int) : List UInt8 :=
  if d = 1 then [77, 111, 110] else if d = 2 then [84, 117, 101] else if d = 3 then [87, 101, 100] else if d = 4 then [84, 104, 117] else if d = 5 then [70, 114, 105] else if d = 6 then [83, 97, 116] else [83, 117, 110]
def week : List Int := [1, 2, 3, 4, 5, 6, 7]
/-- All items that there are, and which days each names. -/
def items : List (List UInt8 × Int × Int) :=
  week.map (fun d => (dayL d, d, d)) ++ week.flatMap fun d => (week.filter fun e => decide (d ≤ e)).map fun e => (dayL d ++ 46 :: 46 :: dayL e, d, e)
def itemL (w : List UInt8) : Option (Int × Int) := (items.find? fun x => x.1 == w).map (·.2)
def daysL (s : List UInt8) : Option (List Int) := match mapO itemL (splitL 44 s) with
  | some its => some (week.filter fun d => its.any fun x => decide (x.1 ≤ d ∧ d ≤ x.2))
  | none => none
theorem item_other {w : List UInt8} {c : UInt8} (hc : c = 45 ∨ c = 58) (h : c ∈ w) : itemL w = none := by
  unfold itemL
  rw [Option.map_eq_none_iff, List.find?_eq_none]
  intro x hx e
  have e' : x.1 = w := by simpa using e
  have key : ∀ x ∈ items, (45 : UInt8) ∉ x.1 ∧ (58 : UInt8) ∉ x.1 := by decide
  have := key x hx
  rw [e'] at this
  rcases hc with rfl | rfl
  · exact this.1 h
  · exact this.2 h
theorem days_other {s : List UInt8} {c : UInt8} (hc : c = 45 ∨ c = 58) (h : c ∈ s) : daysL s = none := by
  obtain ⟨w, hw, hcw⟩ := split_mem (by_ := 44) (by rcases hc with rfl | rfl <;> decide) h
  unfold daysL
  rw [mapO_none hw (item_other hc hcw)]
/-- The days x + 1 .. x + k. -/
def upto : Int → Nat → List Int
  | _, 0 => []
  | x, k + 1 => (x + 1) :: upto (x + 1) k
theorem upto_gt {x d : Int} {k : Nat} (h : d ∈ upto x k) : x < d := by
  induction k generalizing x with
  | zero => cases h
  | succ k ih =>
    rcases List.mem_cons.1 h with rfl | h
    · omega
    · have := ih h; omega
theorem rises_bd {x : Int} {ds : List Int} (h : risesB x ds = true) : ∀ d ∈ ds, x < d ∧ d ≤ 7 := by
  induction ds generalizing x with
  | nil => intro d hd; cases hd
  | cons e ds ih =>
    simp only [risesB, Bool.and_eq_true, decide_eq_true_eq] at h
    intro d hd
    rcases List.mem_cons.1 hd with rfl | hd
    · exact h.1
    · have := ih h.2 d hd; omega
theorem upto_rises {x : Int} {k : Nat} {ds : List Int} (hk : x + k = 7) (h : risesB x ds = true) : (upto x k).filter (fun d => decide (d ∈ ds)) = ds := by
  induction k generalizing x ds with
  | zero =>
    cases ds with
    | nil => rfl
    | cons d ds => have := (rises_bd h d (by simp)); omega
  | succ k ih =>
    cases ds with
    | nil => rw [List.filter_eq_nil_iff.2 (by simp)]
    | cons d ds =>
      have hb := rises_bd h
      simp only [risesB, Bool.and_eq_true, decide_eq_true_eq] at h
      by_cases e : d = x + 1
      · subst e
        have e1 : (upto (x + 1) k).filter (fun d => decide (d ∈ (x + 1) :: ds)) = (upto (x + 1) k).filter (fun d => decide (d ∈ ds)) := by
          apply List.filter_congr
          intro y hy
          have := upto_gt hy
          have : y ≠ x + 1 := by omega
          simp [this]
        rw [upto, List.filter_cons_of_pos (by simp), e1, ih (by omega) h.2]
      · have hx : (x + 1) ∉ d :: ds := by
          intro hm
          rcases List.mem_cons.1 hm with hm | hm
          · exact e hm.symm
          · have := rises_bd h.2 _ hm; have := h.1; omega
        rw [upto, List.filter_cons_of_neg (by simpa using hx)]
        refine ih (by omega) ?_
        simp only [risesB, Bool.and_eq_true, decide_eq_true_eq]
        exact ⟨⟨by omega, h.1.2⟩, h.2⟩
/-- The words of the table. -/
def shortL (s : List UInt8) : List UInt8 :=
  if s = [109, 105, 110, 117, 116, 101, 108, 121] then [42, 45, 42, 45, 42, 32, 42, 58, 42, 58, 48, 48]
  else if s = [104, 111, 117, 114, 108, 121] then [42, 45, 42, 45, 42, 32, 42, 58, 48, 48, 58, 48, 48]
  else if s = [100, 97, 105, 108, 121] then [42, 45, 42, 45, 42, 32, 48, 48, 58, 48, 48, 58, 48, 48]
  else if s = [119, 101, 101, 107, 108, 121] then [77, 111, 110, 32, 42, 45, 42, 45, 42, 32, 48, 48, 58, 48, 48, 58, 48, 48]
  else if s = [109, 111, 110, 116, 104, 108, 121] then [42, 45, 42, 45, 48, 49, 32, 48, 48, 58, 48, 48, 58, 48, 48]
  else if s = [121, 101, 97, 114, 108, 121] then [42, 45, 48, 49, 45, 48, 49, 32, 48, 48, 58, 48, 48, 58, 48, 48]
  else s
/-- What has been read: how far, the weekdays, the texts of the six fields. -/
structure Rd where
  st : Nat
  ds : List Int
  fs : List (List UInt8)
def rd0 : Rd := ⟨0, [], [[42], [42], [42], [48, 48], [48, 48], [48, 48]]⟩
def stepR (x : Rd) (w : List UInt8) : Option Rd :=
  if (daysL w).isSome = true ∧ x.st < 1 then some { x with st := 1, ds := (daysL w).getD [] }
  else if (splitL 45 w).length = 3 ∧ x.st < 2 then some { x with st := 2, fs := splitL 45 w ++ x.fs.drop 3 }
  else if ((splitL 58 w).length = 2 ∨ (splitL 58 w).length = 3) ∧ x.st < 3 then some { x with st := 3, fs := x.fs.take 3 ++ (splitL 58 w ++ x.fs.drop (3 + (splitL 58 w).length)) }
  else none
def foldR : Rd → List (List UInt8) → Option Rd
  | x, [] => some x
  | x, w :: r => match stepR x w with
    | some y => foldR y r
    | none => none
/-- A calendar of weekdays and six fields' texts. -/
def calOf (ds : List Int) (fs : List (List UInt8)) : Cl :=
  ⟨ds, (partsL (fs.getD 0 [])).getD [], (partsL (fs.getD 1 [])).getD [], (partsL (fs.getD 2 [])).getD [], (partsL (fs.getD 3 [])).getD [], (partsL (fs.getD 4 [])).getD [], (partsL (fs.getD 5 [])).getD []⟩
/-- A text's calendar. -/
def parseC (s : List UInt8) : Option Cl :=
  if 400 < s.length then none else if 3 < (splitL 32 (shortL s)).length then none else match foldR rd0 (splitL 32 (shortL s)) with
    | some x => if mayC (calOf x.ds x.fs) = true then some (calOf x.ds x.fs) else none
    | none => none
def dateL (c : Cl) : List UInt8 := fieldL 0 c.yr ++ 45 :: (fieldL 1 c.mo ++ 45 :: fieldL 2 c.dy)
def timeL (c : Cl) : List UInt8 := fieldL 3 c.hr ++ 58 :: (fieldL 4 c.mi ++ 58 :: fieldL 5 c.se)
def bodyL (c : Cl) : List UInt8 := dateL c ++ 32 :: timeL c
end Go.Proofs.YtadifolonbkamaaGreatDoor.Ca
namespace Go.Proofs.YtadifolonbkamaaGreatDoor.Ca
theorem ptAB {f : Nat} {p : Pt} (h : mayP f p = true) : ptA f p ≤ ptB f p ∧ lo f ≤ ptA f p ∧ ptB f p ≤ hi f := by
  have hm := (mayP_iff f p).1 h
  have hl := lo_bd f
  unfold ptA ptB
  split
  · omega
  · split
    · split <;> omega
    · omega
theorem in_range {f : Nat} {p : Pt} {n : Int} (h : mayP f p = true) (hn : inP f p n = true) : lo f ≤ n ∧ n ≤ hi f := by
  have := ptAB h
  have := (inP_iff f p n).1 hn
  omega
theorem inF_range {f : Nat} {l : List Pt} {n : Int} (h : mayF f l = true) (hn : inF f l n = true) : lo f ≤ n ∧ n ≤ hi f := by
  unfold inF at hn
  rw [List.any_eq_true] at hn
  obtain ⟨p, hp, hi⟩ := hn
  exact in_range (((mayF_iff f l).1 h).2 p hp) hi
/-- Six numbers. -/
structure Six where
  y : Int
  m : Int
  d : Int
  h : Int
  i : Int
  s : Int
def Six.at (v : Six) : Nat → Int
  | 0 => v.y
  | 1 => v.m
  | 2 => v.d
  | 3 => v.h
  | 4 => v.i
  | _ => v.s
def Six.le (v u : Six) : Prop := v.y < u.y ∨ v.y = u.y ∧ (v.m < u.m ∨ v.m = u.m ∧ (v.d < u.d ∨ v.d = u.d ∧ (v.h < u.h ∨ v.h = u.h ∧ (v.i < u.i ∨ v.i = u.i ∧ v.s ≤ u.s))))
theorem Six.le_refl (v : Six) : v.le v := by unfold Six.le; omega
theorem Six.le_trans {a b c : Six} (h : a.le b) (h' : b.le c) : a.le c := by unfold Six.le at *; omega
/-- Does each field have its number? -/
def Six.good (c : Cl) (v : Six) : Prop := inF 0 c.yr v.y = true ∧ inF 1 c.mo v.m = true ∧ inF 2 c.dy v.d = true ∧ inF 3 c.hr v.h = true ∧ inF 4 c.mi v.i = true ∧ inF 5 c.se v.s = true
/-- Numbers within what the loop may hold. -/
def Six.bd (v : Six) : Prop := 0 ≤ v.y ∧ v.y ≤ 2200 ∧ 0 ≤ v.m ∧ v.m ≤ 2200 ∧ 0 ≤ v.d ∧ v.d ≤ 2200 ∧ 0 ≤ v.h ∧ v.h ≤ 2200 ∧ 0 ≤ v.i ∧ v.i ≤ 2200 ∧ 0 ≤ v.s ∧ v.s ≤ 2200
/-- How far they are from the end. -/
def Six.far (v : Six) : Nat := (2201 * (2201 * (2201 * (2201 * (2201 * (2200 - v.y) + (2200 - v.m)) + (2200 - v.d)) + (2200 - v.h)) + (2200 - v.i)) + (2200 - v.s)).toNat
/-- One field's number set, those behind it at nought. -/
def Six.set (v : Six) (f : Nat) (x : Int) : Six :=
  match f with
  | 0 => ⟨x, 0, 0, 0, 0, 0⟩
  | 1 => ⟨v.y, x, 0, 0, 0, 0⟩
  | 2 => ⟨v.y, v.m, x, 0, 0, 0⟩
  | 3 => ⟨v.y, v.m, v.d, x, 0, 0⟩
  | 4 => ⟨v.y, v.m, v.d, v.h, x, 0⟩
  | _ => ⟨v.y, v.m, v.d, v.h, v.i, x⟩
/-- The fields ahead of f have their numbers. -/
def Six.upto (c : Cl) (v : Six) (f : Nat) : Prop := ∀ j, j < f → j < 6 → inF j (c.fld j) (v.at j) = true
theorem Six.good.at_ {c : Cl} {v : Six} (h : v.good c) {f : Nat} (hf : f < 6) : inF f (c.fld f) (v.at f) = true := by
  obtain ⟨a, b, e, g, i, j⟩ := h
  have : f = 0 ∨ f = 1 ∨ f = 2 ∨ f = 3 ∨ f = 4 ∨ f = 5 := by omega
  rcases this with rfl | rfl | rfl | rfl | rfl | rfl
  · exact a
  · exact b
  · exact e
  · exact g
  · exact i
  · exact j
theorem mayC_fld {c : Cl} (h : mayC c = true) {f : Nat} (hf : f < 6) : mayF f (c.fld f) = true := by
  obtain ⟨_, a, b, e, g, i, j⟩ := (mayC_iff c).1 h
  have : f = 0 ∨ f = 1 ∨ f = 2 ∨ f = 3 ∨ f = 4 ∨ f = 5 := by omega
  rcases this with rfl | rfl | rfl | rfl | rfl | rfl
  · exact a
  · exact b
  · exact e
  · exact g
  · exact i
  · exact j
theorem Six.good.nn {c : Cl} (hc : mayC c = true) {u : Six} (h : u.good c) : 0 ≤ u.y ∧ 0 ≤ u.m ∧ 0 ≤ u.d ∧ 0 ≤ u.h ∧ 0 ≤ u.i ∧ 0 ≤ u.s := by
  have b : ∀ f, f < 6 → 0 ≤ u.at f := fun f hf => by
    have h1 := inF_range (mayC_fld hc hf) (h.at_ hf)
    have h2 := (lo_bd f).1
    omega
  exact ⟨b 0 (by omega), b 1 (by omega), b 2 (by omega), b 3 (by omega), b 4 (by omega), b 5 (by omega)⟩
/-- What the search keeps: v is not before n0, and no good one between. -/
structure Adv (c : Cl) (n0 v : Six) (f : Nat) : Prop where
  bd : v.bd
  ahead : v.upto c f
  ge : n0.le v
  least : ∀ u : Six, u.good c → n0.le u → v.le u
section
variable {c : Cl} {n0 v : Six} {f : Nat}
theorem six_f (h : f < 6) : f = 0 ∨ f = 1 ∨ f = 2 ∨ f = 3 ∨ f = 4 ∨ f = 5 := by omega
/-- The field has its number already. -/
theorem Adv.next (h : Adv c n0 v f) (hi : inF f (c.fld f) (v.at f) = true) : Adv c n0 v (f + 1) :=
  ⟨h.bd, fun j hj h6 => by
    by_cases e : j = f
    · rw [e]; exact hi
    · exact h.ahead j (by omega) h6, h.ge, h.least⟩
/-- The field has a later one. -/
theorem Adv.later (hc : mayC c = true) (h : Adv c n0 v f) (hf : f < 6) {m : Int} (h1 : v.at f < m) (hm : m ≤ 2200) (hi : inF f (c.fld f) m = true) (hl : ∀ k, v.at f ≤ k → inF f (c.fld f) k = true → m ≤ k) : Adv c n0 (v.set f m) (f + 1) := by
  obtain ⟨hb, ha, hg, hle⟩ := h
  have key : ∀ u : Six, u.good c → n0.le u → (v.set f m).le u := by
    intro u hu hn
    have a1 := hle u hu hn
    have a2 : v.at f ≤ u.at f → m ≤ u.at f := fun hh => hl _ hh (hu.at_ hf)
    have a3 := hu.nn hc
    clear hl hle ha hg hi hu hn
    unfold Six.le Six.bd at *
    rcases six_f hf with rfl | rfl | rfl | rfl | rfl | rfl <;> simp only [Six.at, Six.set] at * <;> omega
  refine ⟨?_, ?_, ?_, key⟩
  · clear key hl hle ha hg hi
    unfold Six.bd at *
    rcases six_f hf with rfl | rfl | rfl | rfl | rfl | rfl <;> simp only [Six.at, Six.set] at * <;> omega
  · intro j hj h6
    by_cases e : j = f
    · subst e
      have : (v.set j m).at j = m := by rcases six_f hf with rfl | rfl | rfl | rfl | rfl | rfl <;> rfl
      rw [this]; exact hi
    · have hjf : j < f := by omega
      have : (v.set f m).at j = v.at j := by
        rcases six_f hf with rfl | rfl | rfl | rfl | rfl | rfl <;> rcases six_f h6 with rfl | rfl | rfl | rfl | rfl | rfl <;> first | rfl | (exfalso; omega)
      rw [this]; exact ha j hjf h6
  · refine Six.le_trans hg ?_
    clear key hl hle ha hg hi
    unfold Six.le
    rcases six_f hf with rfl | rfl | rfl | rfl | rfl | rfl <;> simp only [Six.at, Six.set, true_and] at * <;> omega
/-- The first field has none: there are none. -/
theorem Adv.none_ (h : Adv c n0 v 0) (hi : ∀ k, v.y ≤ k → inF 0 c.yr k = false) (u : Six) (hu : u.good c) : ¬ n0.le u := by
  intro hn
  have a1 := h.least u hu hn
  have a2 : ¬ v.y ≤ u.y := fun hh => by have := hi _ hh; rw [hu.1] at this; cases this
  unfold Six.le at a1
  omega
end
/-- A second's six numbers. -/
noncomputable def sixOf (t : Int) : Six := ⟨fY t, fM t, fD t, fH t, fI t, fS t⟩
theorem numsB_good (c : Cl) (t : Int) : numsB c t = true ↔ (sixOf t).good c := by
  unfold numsB Six.good sixOf
  simp only [Bool.and_eq_true]
theorem six_range {t : Int} (h : isT t = true) : 2000 ≤ fY t ∧ fY t ≤ 2199 ∧ 1 ≤ fM t ∧ fM t ≤ 12 ∧ 1 ≤ fD t ∧ fD t ≤ 31 ∧ 0 ≤ fH t ∧ fH t ≤ 23 ∧ 0 ≤ fI t ∧ fI t ≤ 59 ∧ 0 ≤ fS t ∧ fS t ≤ 59 := by
  obtain ⟨⟨a, b, c, d, e, f⟩, h0, h1, m0, m1, s0, s1, _, _⟩ := date_of h
  have := (dim_bd (fY t) (fM t) c d).2
  omega
theorem match_six {c : Cl} {t : Int} (h : matchB c t = true) : isT t = true ∧ dayB c.ds (fW t) = true ∧ (sixOf t).good c := by
  obtain ⟨_, h2, h3, h4⟩ := (matchB_iff c t).1 h
  exact ⟨h2, h3, (numsB_good c t).1 h4⟩
/-- What the search over the days keeps: x is the first second, v the numbers reached. -/
structure Nxt (c : Cl) (x : Int) (v : Six) : Prop where
  ge : (sixOf x).le v
  least : ∀ s, x ≤ s → matchB c s = true → v.le (sixOf s)
/-- The next day's first numbers. -/
def Six.tom (v : Six) : Six := ⟨v.y, v.m, v.d + 1, 0, 0, 0⟩
/-- Is it a second, with a day that may be? -/
noncomputable def hitB (c : Cl) (v : Six) : Bool := toOk v.y v.m v.d v.h v.i v.s && dayB c.ds (fW (toN v.y v.m v.d v.h v.i v.s))
theorem Nxt.miss {c : Cl} {x : Int} {v : Six} (hc : mayC c = true) (h : Nxt c x v) (hg : v.good c) (hno : hitB c v = false) : ∀ s, x ≤ s → matchB c s = true → v.tom.le (sixOf s) := by
  intro s hs hm
  have hl := h.least s hs hm
  obtain ⟨hT, hD, hG⟩ := match_six hm
  have hr := six_range hT
  by_cases e : v.y = fY s ∧ v.m = fM s ∧ v.d = fD s
  · exfalso
    obtain ⟨e1, e2, e3⟩ := e
    have hday : isDayB v.y v.m v.d = true := by rw [isDayB_iff, e1, e2, e3]; exact (date_of hT).day
    have r : ∀ f, f < 6 → lo f ≤ v.at f ∧ v.at f ≤ hi f := fun f hf => inF_range (mayC_fld hc hf) (hg.at_ hf)
    have r3 := r 3 (by omega)
    have r4 := r 4 (by omega)
    have r5 := r 5 (by omega)
    have hcl : isClB v.h v.i v.s = true := (isClB_iff _ _ _).2 ⟨r3.1, r3.2, r4.1, r4.2, r5.1, r5.2⟩
    have ho : toOk v.y v.m v.d v.h v.i v.s = true := by unfold toOk; rw [hday, hcl]; rfl
    have hw : fW (toN v.y v.m v.d v.h v.i v.s) = fW s := by
      rw [(date_eq (to_date ho)).2.2.2.2.2.2.2, (date_of hT).w_eq, e1, e2, e3]
    unfold hitB at hno
    rw [ho, hw, hD] at hno
    cases hno
  · unfold Six.le Six.tom sixOf at *
    simp only at *
    omega
theorem Nxt.more {c : Cl} {x : Int} {v v' : Six} (h : Nxt c x v) (hm : ∀ s, x ≤ s → matchB c s = true → v.tom.le (sixOf s)) (h1 : v.tom.le v') (h2 : ∀ u : Six, u.good c → v.tom.le u → v'.le u) : Nxt c x v' :=
  ⟨Six.le_trans h.ge (Six.le_trans (by unfold Six.le Six.tom; simp only [true_and]; omega) h1), fun s hs hM => h2 _ (match_six hM).2.2 (hm s hs hM)⟩
end Go.Proofs.YtadifolonbkamaaGreatDoor.Ca
