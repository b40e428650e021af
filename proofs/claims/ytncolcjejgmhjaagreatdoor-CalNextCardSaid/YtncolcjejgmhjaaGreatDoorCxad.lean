/- Calendar expressions on plain lists of bytes: how one is written, how a text is read, and that what is written is read a -/
import Derived.Test.YtncolcjejgmhjaaGreatDoorCxab
import Derived.Test.YtncolcjejgmhjaaGreatDoorCxac
namespace Go.Proofs.YtncolcjejgmhjaaGreatDoor
def sgo (by_ : UInt8) : List UInt8 → List UInt8 → List (List UInt8)
  | w, [] => [w]
  | w, c :: r => if c = by_ then w :: sgo by_ [] r else sgo by_ (w ++ [c]) r
def splitL (by_ : UInt8) (l : List UInt8) : List (List UInt8) := sgo by_ [] l
theorem sgo_plain (by_ : UInt8) (l w : List UInt8) (h : by_ ∉ l) (r : List UInt8) : sgo by_ w (l ++ r) = sgo by_ (w ++ l) r := by
  induction l generalizing w with
  | nil => simp
  | cons c l ih =>
    rw [List.cons_append, sgo, if_neg (by rintro rfl; exact h (by simp)), ih _ (fun hc => h (by simp [hc]))]
    simp
theorem split_one {by_ : UInt8} {l : List UInt8} (h : by_ ∉ l) : splitL by_ l = [l] := by
  have := sgo_plain by_ l [] h []
  rw [List.append_nil] at this
  unfold splitL
  rw [this]; rfl
theorem split_cons {by_ : UInt8} {l : List UInt8} (h : by_ ∉ l) (r : List UInt8) : splitL by_ (l ++ by_ :: r) = l :: splitL by_ r := by
  unfold splitL
  rw [sgo_plain by_ l [] h, List.nil_append, sgo, if_pos rfl]
theorem sgo_mem (by_ : UInt8) (l w : List UInt8) {c : UInt8} (hc : c ≠ by_) (h : c ∈ w ++ l) : ∃ v ∈ sgo by_ w l, c ∈ v := by
  induction l generalizing w with
  | nil => exact ⟨w, by simp [sgo], by simpa using h⟩
  | cons x l ih =>
    rw [sgo]
    by_cases hx : x = by_
    · rw [if_pos hx]
      rcases List.mem_append.1 h with h | h
      · exact ⟨w, by simp, h⟩
      · rcases List.mem_cons.1 h with h | h
        · exact absurd (h.trans hx) hc
        · obtain ⟨v, hv, hcv⟩ := ih [] (by simpa using h)
          exact ⟨v, by simp [hv], hcv⟩
    · rw [if_neg hx]
      exact ih (w ++ [x]) (by simpa using h)
theorem split_mem {by_ : UInt8} {l : List UInt8} {c : UInt8} (hc : c ≠ by_) (h : c ∈ l) : ∃ v ∈ splitL by_ l, c ∈ v := sgo_mem by_ l [] hc (by simpa using h)
def joinL (c : UInt8) : List (List UInt8) → List UInt8
  | [] => []
  | w :: r => w ++ r.flatMap fun v => c :: v
theorem join_length {c : UInt8} {ws : List (List UInt8)} {k : Nat} (h : ∀ w ∈ ws, w.length ≤ k) : (joinL c ws).length ≤ ws.length * (k + 1) := by
  match ws with
  | [] => simp [joinL]
  | w :: r =>
    have hf : (r.flatMap fun v => c :: v).length ≤ r.length * (k + 1) := by
      have h' : ∀ v ∈ r, v.length ≤ k := fun v hv => h v (by simp [hv])
      clear h
      induction r with
      | nil => simp
      | cons v r ih =>
        have := ih fun x hx => h' x (by simp [hx])
        have := h' v (by simp)
        simp only [List.flatMap_cons, List.length_append, List.length_cons, Nat.succ_mul]
        omega
    have := h w (by simp)
    simp only [joinL, List.length_append, List.length_cons, Nat.succ_mul]
    omega
def numL (s : List UInt8) : Option Nat := if 1 ≤ s.length ∧ s.length ≤ 4 ∧ s.all isDig = true then some (valL s) else none
def padL (d n : Nat) : List UInt8 := List.replicate (d - (decL n).length) 48 ++ decL n
theorem padL_len {d n : Nat} (hd : d ≤ 4) (hn : n ≤ 9999) : 1 ≤ (padL d n).length ∧ (padL d n).length ≤ 4 := by
  have h1 := decL_len 3 n (by omega)
  have h2 := List.length_pos_iff.2 (decL_ne n)
  unfold padL
  rw [List.length_append, List.length_replicate]
  omega
theorem padL_len2 {d n : Nat} (hd : d ≤ 2) (hn : n ≤ 99) : (padL d n).length ≤ 2 := by
  have h1 := decL_len 1 n (by omega)
  unfold padL
  rw [List.length_append, List.length_replicate]
  omega
def cutDots : List UInt8 → Option (List UInt8 × List UInt8)
  | [] => none
  | c :: r => if c = 46 ∧ r.head? = some 46 then some ([], r.tail) else (cutDots r).map fun x => (c :: x.1, x.2)
def bodyP (w : List UInt8) (k : Int) : Option Pt :=
  if w = [42] then some ⟨-1, -1, k⟩ else match cutDots w with
    | some (x, y) => match numL x, numL y with
      | some i, some j => some ⟨i, j, k⟩
      | _, _ => none
    | none => match numL w with
      | some i => some ⟨i, -1, k⟩
      | none => none
def partL (s : List UInt8) : Option Pt := match splitL 47 s with
  | [w] => bodyP w 0
  | [w, v] => match numL v with
    | some k => if 1 ≤ k then bodyP w k else none
    | none => none
  | _ => none
def dg (f : Nat) : Nat := if f = 0 then 4 else 2
def ptBody (f : Nat) (p : Pt) : List UInt8 := (if 0 ≤ p.a then padL (dg f) p.a.toNat else [42]) ++ (if 0 ≤ p.b then 46 :: 46 :: padL (dg f) p.b.toNat else [])
def ptL (f : Nat) (p : Pt) : List UInt8 := ptBody f p ++ (if 0 < p.s then 47 :: decL p.s.toNat else [])
theorem dg_le (f : Nat) : dg f ≤ 4 := by unfold dg; split <;> omega
def mapO {α β : Type} (g : α → Option β) : List α → Option (List β)
  | [] => some []
  | x :: r => match g x with
    | some y => (mapO g r).map (y :: ·)
    | none => none
theorem mapO_none {α β : Type} {g : α → Option β} {l : List α} {x : α} (hx : x ∈ l) (h : g x = none) : mapO g l = none := by
  induction l with
  | nil => cases hx
  | cons y l ih =>
    rw [mapO]
    rcases List.mem_cons.1 hx with rfl | hx
    · rw [h]
    · rw [ih hx]
      cases g y <;> rfl
def partsL (s : List UInt8) : Option (List Pt) := mapO partL (splitL 44 s)
def fieldL (f : Nat) (l : List Pt) : List UInt8 := joinL 44 (l.map (ptL f))
def dayL (d : Int) : List UInt8 :=
  if d = 1 then [77, 111, 110] else if d = 2 then [84, 117, 101] else if d = 3 then [87, 101, 100] else if d = 4 then [84, 104, 117] else if d = 5 then [70, 114, 105] else if d = 6 then [83, 97, 116] else [83, 117, 110]
def week : List Int := [1, 2, 3, 4, 5, 6, 7]
def items : List (List UInt8 × Int × Int) :=
  week.map (fun d => (dayL d, d, d)) ++ week.flatMap fun d => (week.filter fun e => decide (d ≤ e)).map fun e => (dayL d ++ 46 :: 46 :: dayL e, d, e)
def itemL (w : List UInt8) : Option (Int × Int) := (items.find? fun x => x.1 == w).map (·.2)
def daysL (s : List UInt8) : Option (List Int) := match mapO itemL (splitL 44 s) with
  | some its => some (week.filter fun d => its.any fun x => decide (x.1 ≤ d ∧ d ≤ x.2))
  | none => none
theorem dayL_length (d : Int) : (dayL d).length = 3 := by
  unfold dayL
  repeat' split
  all_goals rfl
theorem item_other {w : List UInt8} {c : UInt8} (hc : c = 45 ∨ c = 58) (h : c ∈ w) : itemL w = none := by
  unfold itemL
  rw [Option.map_eq_none_iff, List.find?_eq_none]
  intro x hx e
  have e' : x.1 = w := by simpa using e
  have key : ∀ x ∈ items, (45 : UInt8) ∉ x.1 ∧ (58 : UInt8) ∉ x.1 := by decide
  have := key x hx
  rw [e'] at this
  rcases hc with rfl | rfl
  · exact this.1 h
  · exact this.2 h
theorem days_other {s : List UInt8} {c : UInt8} (hc : c = 45 ∨ c = 58) (h : c ∈ s) : daysL s = none := by
  obtain ⟨w, hw, hcw⟩ := split_mem (by_ := 44) (by rcases hc with rfl | rfl <;> decide) h
  unfold daysL
  rw [mapO_none hw (item_other hc hcw)]
def upto : Int → Nat → List Int
  | _, 0 => []
  | x, k + 1 => (x + 1) :: upto (x + 1) k
theorem upto_gt {x d : Int} {k : Nat} (h : d ∈ upto x k) : x < d := by
  induction k generalizing x with
  | zero => cases h
  | succ k ih =>
    rcases List.mem_cons.1 h with rfl | h
    · omega
    · have := ih h; omega
theorem rises_bd {x : Int} {ds : List Int} (h : risesB x ds = true) : ∀ d ∈ ds, x < d ∧ d ≤ 7 := by
  induction ds generalizing x with
  | nil => intro d hd; cases hd
  | cons e ds ih =>
    simp only [risesB, Bool.and_eq_true, decide_eq_true_eq] at h
    intro d hd
    rcases List.mem_cons.1 hd with rfl | hd
    · exact h.1
    · have := ih h.2 d hd; omega
theorem upto_rises {x : Int} {k : Nat} {ds : List Int} (hk : x + k = 7) (h : risesB x ds = true) : (upto x k).filter (fun d => decide (d ∈ ds)) = ds := by
  induction k generalizing x ds with
  | zero =>
    cases ds with
    | nil => rfl
    | cons d ds => have := (rises_bd h d (by simp)); omega
  | succ k ih =>
    cases ds with
    | nil => rw [List.filter_eq_nil_iff.2 (by simp)]
    | cons d ds =>
      have hb := rises_bd h
      simp only [risesB, Bool.and_eq_true, decide_eq_true_eq] at h
      by_cases e : d = x + 1
      · subst e
        have e1 : (upto (x + 1) k).filter (fun d => decide (d ∈ (x + 1) :: ds)) = (upto (x + 1) k).filter (fun d => decide (d ∈ ds)) := by
          apply List.filter_congr
          intro y hy
          have := upto_gt hy
          have : y ≠ x + 1 := by omega
          simp [this]
        rw [upto, List.filter_cons_of_pos (by simp), e1, ih (by omega) h.2]
      · have hx : (x + 1) ∉ d :: ds := by
          intro hm
          rcases List.mem_cons.1 hm with hm | hm
          · exact e hm.symm
          · have := rises_bd h.2 _ hm; have := h.1; omega
        rw [upto, List.filter_cons_of_neg (by simpa using hx)]
        refine ih (by omega) ?_
        simp only [risesB, Bool.and_eq_true, decide_eq_true_eq]
        exact ⟨⟨by omega, h.1.2⟩, h.2⟩
def shortL (s : List UInt8) : List UInt8 :=
  if s = [109, 105, 110, 117, 116, 101, 108, 121] then [42, 45, 42, 45, 42, 32, 42, 58, 42, 58, 48, 48]
  else if s = [104, 111, 117, 114, 108, 121] then [42, 45, 42, 45, 42, 32, 42, 58, 48, 48, 58, 48, 48]
  else if s = [100, 97, 105, 108, 121] then [42, 45, 42, 45, 42, 32, 48, 48, 58, 48, 48, 58, 48, 48]
  else if s = [119, 101, 101, 107, 108, 121] then [77, 111, 110, 32, 42, 45, 42, 45, 42, 32, 48, 48, 58, 48, 48, 58, 48, 48]
  else if s = [109, 111, 110, 116, 104, 108, 121] then [42, 45, 42, 45, 48, 49, 32, 48, 48, 58, 48, 48, 58, 48, 48]
  else if s = [121, 101, 97, 114, 108, 121] then [42, 45, 48, 49, 45, 48, 49, 32, 48, 48, 58, 48, 48, 58, 48, 48]
  else s
structure Rd where
  st : Nat
  ds : List Int
  fs : List (List UInt8)
def rd0 : Rd := ⟨0, [], [[42], [42], [42], [48, 48], [48, 48], [48, 48]]⟩
def stepR (x : Rd) (w : List UInt8) : Option Rd :=
  if (daysL w).isSome = true ∧ x.st < 1 then some { x with st := 1, ds := (daysL w).getD [] }
  else if (splitL 45 w).length = 3 ∧ x.st < 2 then some { x with st := 2, fs := splitL 45 w ++ x.fs.drop 3 }
  else if ((splitL 58 w).length = 2 ∨ (splitL 58 w).length = 3) ∧ x.st < 3 then some { x with st := 3, fs := x.fs.take 3 ++ (splitL 58 w ++ x.fs.drop (3 + (splitL 58 w).length)) }
  else none
def foldR : Rd → List (List UInt8) → Option Rd
  | x, [] => some x
  | x, w :: r => match stepR x w with
    | some y => foldR y r
    | none => none
def calOf (ds : List Int) (fs : List (List UInt8)) : Cl :=
  ⟨ds, (partsL (fs.getD 0 [])).getD [], (partsL (fs.getD 1 [])).getD [], (partsL (fs.getD 2 [])).getD [], (partsL (fs.getD 3 [])).getD [], (partsL (fs.getD 4 [])).getD [], (partsL (fs.getD 5 [])).getD []⟩
def parseC (s : List UInt8) : Option Cl :=
  if 400 < s.length then none else if 3 < (splitL 32 (shortL s)).length then none else match foldR rd0 (splitL 32 (shortL s)) with
    | some x => if mayC (calOf x.ds x.fs) = true then some (calOf x.ds x.fs) else none
    | none => none
def dateL (c : Cl) : List UInt8 := fieldL 0 c.yr ++ 45 :: (fieldL 1 c.mo ++ 45 :: fieldL 2 c.dy)
def timeL (c : Cl) : List UInt8 := fieldL 3 c.hr ++ 58 :: (fieldL 4 c.mi ++ 58 :: fieldL 5 c.se)
def bodyL (c : Cl) : List UInt8 := dateL c ++ 32 :: timeL c
def printC (c : Cl) : List UInt8 :=
  if mayC c = true then (if c.ds = [] then bodyL c else joinL 44 (c.ds.map dayL) ++ 32 :: bodyL c) else []
theorem pt_length (f : Nat) (p : Pt) (h : mayP f p = true) : (ptL f p).length ≤ if f = 0 then 15 else 11 := by
  obtain ⟨s0, s1, h⟩ := (mayP_iff f p).1 h
  have hs := decL_len 3 p.s.toNat (by omega)
  have hb := lo_bd f
  have ea : (if 0 ≤ p.a then padL (dg f) p.a.toNat else [42]).length ≤ (if f = 0 then 4 else 2) := by
    by_cases hf : f = 0
    · rw [if_pos hf]
      split
      · exact (padL_len (dg_le f) (by omega)).2
      · simp
    · rw [if_neg hf]
      have h59 : hi f ≤ 59 := by
        match f, hf with
        | 1, _ => decide
        | 2, _ => decide
        | 3, _ => decide
        | n + 4, _ => exact Int.le_refl _
      have hd : dg f = 2 := if_neg hf
      split
      · rw [hd]; exact padL_len2 (by omega) (by omega)
      · simp
  have eb : (if 0 ≤ p.b then 46 :: 46 :: padL (dg f) p.b.toNat else []).length ≤ (if f = 0 then 6 else 4) := by
    by_cases hf : f = 0
    · rw [if_pos hf]
      split
      · have := (padL_len (d := dg f) (n := p.b.toNat) (dg_le f) (by omega)).2
        simp only [List.length_cons]; omega
      · simp
    · rw [if_neg hf]
      have h59 : hi f ≤ 59 := by
        match f, hf with
        | 1, _ => decide
        | 2, _ => decide
        | 3, _ => decide
        | n + 4, _ => exact Int.le_refl _
      have hd : dg f = 2 := if_neg hf
      split
      · rw [hd]
        have := padL_len2 (d := 2) (n := p.b.toNat) (by omega) (by omega)
        simp only [List.length_cons]; omega
      · simp
  unfold ptL ptBody
  rw [List.length_append, List.length_append]
  by_cases hf : f = 0
  · rw [if_pos hf] at ea eb ⊢
    by_cases hs0 : 0 < p.s
    · rw [if_pos hs0, List.length_cons]; omega
    · rw [if_neg hs0, List.length_nil]; omega
  · rw [if_neg hf] at ea eb ⊢
    by_cases hs0 : 0 < p.s
    · rw [if_pos hs0, List.length_cons]; omega
    · rw [if_neg hs0, List.length_nil]; omega
theorem rises_length {x : Int} {ds : List Int} (h : risesB x ds = true) (hx : x ≤ 7) : (ds.length : Int) ≤ 7 - x := by
  induction ds generalizing x with
  | nil => simp; omega
  | cons d ds ih =>
    simp only [risesB, Bool.and_eq_true, decide_eq_true_eq] at h
    have := ih h.2 h.1.2
    simp only [List.length_cons]
    omega
theorem printC_none {c : Cl} (h : mayC c = false) : printC c = [] := by unfold printC; rw [h]; rfl
end Go.Proofs.YtncolcjejgmhjaaGreatDoor
