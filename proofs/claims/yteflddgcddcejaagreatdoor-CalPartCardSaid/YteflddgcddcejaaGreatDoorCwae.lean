/- The document's way to read an expression, on plain lists: numbers and points as whole numbers, a part, the weekdays by a -/
import Derived.Test.YteflddgcddcejaaGreatDoorCwad
namespace Go.Proofs.YteflddgcddcejaaGreatDoor
def numI (l : List UInt8) : Int := match numL l with
  | some n => n
  | none => -1
theorem numI_long {l : List UInt8} (h : l.length < 1 ∨ 4 < l.length) : numI l = -1 := by
  unfold numI numL; rw [if_neg (by omega)]
theorem numI_bad {l : List UInt8} {k : Nat} (h : k < l.length) (hd : isDig (l[k]'h) = false) : numI l = -1 := by
  unfold numI numL
  rw [if_neg]
  rintro ⟨_, _, h3⟩
  have := List.all_eq_true.1 h3 (l[k]'h) (List.getElem_mem h)
  rw [hd] at this; cases this
theorem numI_ok {l : List UInt8} (h0 : 1 ≤ l.length) (h4 : l.length ≤ 4) (h : ∀ c ∈ l, isDig c = true) : numI l = valL l := by
  unfold numI numL
  rw [if_pos ⟨h0, h4, List.all_eq_true.2 h⟩]
theorem val_snoc (l : List UInt8) (c : UInt8) : valL (l ++ [c]) = 10 * valL l + (c.toNat - 48) := by
  unfold valL; rw [List.foldl_append, List.foldl_cons, List.foldl_nil]
def ptsI (l : List UInt8) : Int := match cutDots l with
  | some (x, _) => x.length
  | none => -1
theorem cut_spec {l x y : List UInt8} (h : cutDots l = some (x, y)) : l = x ++ 46 :: 46 :: y := by
  induction l generalizing x y with
  | nil => cases h
  | cons c l ih =>
    rw [cutDots] at h
    split at h
    · next hc =>
      obtain ⟨rfl, h2⟩ := hc
      have h' := Option.some.inj h
      cases l with
      | nil => cases h2
      | cons d r =>
        simp only [List.head?_cons, Option.some.injEq] at h2
        simp only [List.tail_cons, Prod.mk.injEq] at h'
        rw [← h'.1, ← h'.2, h2]; rfl
    · cases hr : cutDots l with
      | none => rw [hr] at h; cases h
      | some z =>
        rw [hr] at h
        have h' := Option.some.inj h
        simp only [Prod.mk.injEq] at h'
        rw [← h'.1, ← h'.2, List.cons_append, ← ih (x := z.1) (y := z.2) hr]
def cutAt (l : List UInt8) (k : Nat) : Prop := cutDots l = (cutDots (l.drop k)).map fun z => (l.take k ++ z.1, z.2)
theorem cutAt_zero (l : List UInt8) : cutAt l 0 := by
  unfold cutAt
  rw [List.drop_zero, List.take_zero]
  cases cutDots l <;> rfl
theorem cut_pts {l : List UInt8} {k : Int} (h : ptsI l = k) (hk : 0 ≤ k) : cutDots l = some (l.take k.toNat, l.drop (k.toNat + 2)) := by
  unfold ptsI at h
  cases hc : cutDots l with
  | none => rw [hc] at h; simp only at h; omega
  | some z =>
    obtain ⟨x, y⟩ := z
    rw [hc] at h
    simp only at h
    have e := cut_spec hc
    have hx : k.toNat = x.length := by omega
    rw [hx]
    have e1 : l.take x.length = x := by rw [e, List.take_append_of_le_length (Nat.le_refl _), List.take_length]
    have e2 : l.drop (x.length + 2) = y := by
      rw [e, List.drop_append, List.drop_of_length_le (by omega), show x.length + 2 - x.length = 2 by omega]
      rfl
    rw [e1, e2]
theorem cut_none_pts {l : List UInt8} (h : ptsI l = -1) : cutDots l = none := by
  unfold ptsI at h
  cases hc : cutDots l with
  | none => rfl
  | some z => rw [hc] at h; simp only at h; omega
theorem pts_bd {l : List UInt8} (h : 0 ≤ ptsI l) : (ptsI l).toNat + 2 ≤ l.length := by
  unfold ptsI at *
  cases hc : cutDots l with
  | none => rw [hc] at h; simp only at h; omega
  | some z =>
    obtain ⟨x, y⟩ := z
    rw [hc] at h
    have e := congrArg List.length (cut_spec hc)
    simp only [List.length_append, List.length_cons] at e
    simp only
    omega
theorem pts_none {l : List UInt8} (h : ¬ 0 ≤ ptsI l) : ptsI l = -1 := by
  unfold ptsI at *
  cases hc : cutDots l with
  | none => rfl
  | some z => rw [hc] at h; simp only at h; omega
theorem numL_of {l : List UInt8} (h : 0 ≤ numI l) : numL l = some (numI l).toNat := by
  unfold numI at *
  cases hn : numL l with
  | none => rw [hn] at h; simp only at h; omega
  | some n => simp
theorem numL_not {l : List UInt8} (h : ¬ 0 ≤ numI l) : numL l = none := by
  unfold numI at *
  cases hn : numL l with
  | none => rfl
  | some n => rw [hn] at h; simp only at h; omega
def bodyI (w : List UInt8) : Int × Int × Bool :=
  if w = [42] then (-1, -1, true) else if 0 ≤ ptsI w then (numI (w.take (ptsI w).toNat), numI (w.drop ((ptsI w).toNat + 2)), decide (0 ≤ numI (w.take (ptsI w).toNat)) && decide (0 ≤ numI (w.drop ((ptsI w).toNat + 2))))
  else (numI w, -1, decide (0 ≤ numI w))
theorem body_same (w : List UInt8) (k : Int) : bodyP w k = if (bodyI w).2.2 = true then some ⟨(bodyI w).1, (bodyI w).2.1, k⟩ else none := by
  unfold bodyP bodyI
  by_cases h0 : w = [42]
  · rw [if_pos h0, if_pos h0]; rfl
  · rw [if_neg h0, if_neg h0]
    by_cases hp : 0 ≤ ptsI w
    · rw [if_pos hp, cut_pts rfl hp]
      simp only
      by_cases h1 : 0 ≤ numI (w.take (ptsI w).toNat)
      · by_cases h2 : 0 ≤ numI (w.drop ((ptsI w).toNat + 2))
        · rw [numL_of h1, numL_of h2, decide_eq_true h1, decide_eq_true h2]
          simp only [Bool.and_self, if_true]
          rw [Int.toNat_of_nonneg h1, Int.toNat_of_nonneg h2]
        · rw [numL_of h1, numL_not h2, decide_eq_false h2]
          simp
      · rw [numL_not h1, decide_eq_false h1]
        simp
    · rw [if_neg hp, cut_none_pts (pts_none hp)]
      simp only
      by_cases h1 : 0 ≤ numI w
      · rw [numL_of h1, decide_eq_true h1]; simp [Int.toNat_of_nonneg h1]
      · rw [numL_not h1, decide_eq_false h1]; simp
def partI (s : List UInt8) : Int × Int × Int × Bool :=
  if 2 < (splitL 47 s).length then (-1, -1, 0, false)
  else if (splitL 47 s).length = 2 ∧ numI ((splitL 47 s).getD 1 []) < 1 then (-1, -1, numI ((splitL 47 s).getD 1 []), false)
  else ((bodyI ((splitL 47 s).getD 0 [])).1, (bodyI ((splitL 47 s).getD 0 [])).2.1, if (splitL 47 s).length = 2 then numI ((splitL 47 s).getD 1 []) else 0, (bodyI ((splitL 47 s).getD 0 [])).2.2)
theorem split_ne (by_ : UInt8) (l : List UInt8) : 1 ≤ (splitL by_ l).length := by
  have key : ∀ (l w : List UInt8), 1 ≤ (sgo by_ w l).length := by
    intro l
    induction l with
    | nil => intro w; simp [sgo]
    | cons c l ih =>
      intro w
      rw [sgo]
      split
      · simp
      · exact ih _
  exact key l []
theorem sgo_cnt (b : UInt8) (l w : List UInt8) : (sgo b w l).length ≤ l.length + 1 := by
  induction l generalizing w with
  | nil => simp [sgo]
  | cons c l ih =>
    rw [sgo]
    split
    · have := ih []; simp; omega
    · have := ih (w ++ [c]); simp; omega
theorem split_len {b : UInt8} {l x : List UInt8} (h : x ∈ splitL b l) : x.length ≤ l.length := by
  have key : ∀ (l w : List UInt8), x ∈ sgo b w l → x.length ≤ w.length + l.length := by
    intro l
    induction l with
    | nil => intro w h; simp [sgo] at h; subst h; simp
    | cons c l ih =>
      intro w h
      rw [sgo] at h
      split at h
      · rcases List.mem_cons.1 h with rfl | h
        · simp
        · have := ih _ h; simp at this ⊢; omega
      · have := ih _ h; simp at this ⊢; omega
  have := key l [] h
  simpa using this
theorem part_same (s : List UInt8) : partL s = if (partI s).2.2.2 = true then some ⟨(partI s).1, (partI s).2.1, (partI s).2.2.1⟩ else none := by
  have h1 := split_ne 47 s
  unfold partL partI
  match h : splitL 47 s with
  | [] => rw [h] at h1; simp at h1
  | [w] => simp [body_same]
  | [w, v] =>
    simp only [List.length_cons, List.length_nil, List.getD_cons_zero, List.getD_cons_succ]
    by_cases hv : numI v < 1
    · by_cases h0 : 0 ≤ numI v
      · have h2 : ¬ 1 ≤ (numI v).toNat := by omega
        simp [numL_of h0, hv, h2]
      · simp [numL_not h0, hv]
    · have h0 : 0 ≤ numI v := by omega
      have h2 : 1 ≤ (numI v).toNat := by omega
      simp [numL_of h0, hv, h2, body_same, Int.toNat_of_nonneg h0]
  | a :: b :: c :: r => simp
def rngD (d k : Nat) : List (List UInt8 × Nat × Nat) := (List.range k).map fun j => (dayL d ++ 46 :: 46 :: dayL ((d + j : Nat) : Int), d, d + j)
def allD : Nat → List (List UInt8 × Nat × Nat)
  | 0 => []
  | n + 1 => allD n ++ (dayL ((n + 1 : Nat) : Int), n + 1, n + 1) :: rngD (n + 1) (8 - (n + 1))
def pickD (w : List UInt8) (l : List (List UInt8 × Nat × Nat)) : Nat × Nat := l.foldl (fun x it => if w = it.1 then it.2 else x) (0, 0)
theorem pick_snoc (w : List UInt8) (l : List (List UInt8 × Nat × Nat)) (it : List UInt8 × Nat × Nat) : pickD w (l ++ [it]) = if w = it.1 then it.2 else pickD w l := by
  unfold pickD; rw [List.foldl_append]; rfl
theorem rngD_succ (d k : Nat) : rngD d (k + 1) = rngD d k ++ [(dayL d ++ 46 :: 46 :: dayL ((d + k : Nat) : Int), d, d + k)] := by
  unfold rngD; rw [List.range_succ, List.map_append]; rfl
theorem pick_none {w : List UInt8} {l : List (List UInt8 × Nat × Nat)} (h : ∀ it ∈ l, it.1 ≠ w) : pickD w l = (0, 0) := by
  unfold pickD
  generalize (0, 0) = x
  induction l generalizing x with
  | nil => rfl
  | cons it l ih =>
    rw [List.foldl_cons, if_neg (fun e => h it (by simp) e.symm)]
    exact ih (fun y hy => h y (by simp [hy])) x
theorem pick_bd (w : List UInt8) (l : List (List UInt8 × Nat × Nat)) (h : ∀ it ∈ l, 1 ≤ it.2.1 ∧ it.2.1 ≤ it.2.2 ∧ it.2.2 ≤ 7) : pickD w l = (0, 0) ∨ 1 ≤ (pickD w l).1 ∧ (pickD w l).1 ≤ (pickD w l).2 ∧ (pickD w l).2 ≤ 7 := by
  have key : ∀ (l : List (List UInt8 × Nat × Nat)) (x : Nat × Nat), (∀ it ∈ l, 1 ≤ it.2.1 ∧ it.2.1 ≤ it.2.2 ∧ it.2.2 ≤ 7) → (x = (0, 0) ∨ 1 ≤ x.1 ∧ x.1 ≤ x.2 ∧ x.2 ≤ 7) →
      let y := l.foldl (fun x it => if w = it.1 then it.2 else x) x
      (y = (0, 0) ∨ 1 ≤ y.1 ∧ y.1 ≤ y.2 ∧ y.2 ≤ 7) := by
    intro l
    induction l with
    | nil => intro x _ hx; exact hx
    | cons it l ih =>
      intro x h hx
      rw [List.foldl_cons]
      refine ih _ (fun y hy => h y (by simp [hy])) ?_
      split
      · exact .inr (h it (by simp))
      · exact hx
  exact key l (0, 0) h (.inl rfl)
theorem allD_bd : ∀ it ∈ allD 7, 1 ≤ it.2.1 ∧ it.2.1 ≤ it.2.2 ∧ it.2.2 ≤ 7 := by decide +kernel
theorem pick_items : ∀ it ∈ items, ((pickD it.1 (allD 7)).1 : Int) = it.2.1 ∧ ((pickD it.1 (allD 7)).2 : Int) = it.2.2 ∧ itemL it.1 = some it.2 ∧ 1 ≤ it.2.1 := by decide +kernel
theorem all_items : ∀ it ∈ allD 7, ∃ x ∈ items, x.1 = it.1 := by decide +kernel
theorem item_pick (w : List UInt8) : itemL w = if (pickD w (allD 7)).1 = 0 then none else some (((pickD w (allD 7)).1 : Int), ((pickD w (allD 7)).2 : Int)) := by
  by_cases h : ∃ it ∈ items, it.1 = w
  · obtain ⟨it, hi, rfl⟩ := h
    obtain ⟨h1, h2, h3, h4⟩ := pick_items it hi
    rw [if_neg (by omega), h3, h1, h2]
  · have hn : pickD w (allD 7) = (0, 0) := pick_none fun it hi e => by
      obtain ⟨x, hx, hxe⟩ := all_items it hi
      exact h ⟨x, hx, hxe.trans e⟩
    rw [hn, if_pos rfl]
    unfold itemL
    rw [List.find?_eq_none.2 fun x hx => by
      rw [beq_iff_eq]
      exact fun e => h ⟨x, hx, e⟩]
    rfl
def marksD (l : List (Int × Int)) (j : Nat) : Bool := l.any fun x => decide (x.1 ≤ (j : Int) ∧ (j : Int) ≤ x.2)
def outD (f : Nat → Bool) : Nat → List Int
  | 0 => []
  | n + 1 => outD f n ++ if f (n + 1) = true then [((n + 1 : Nat) : Int)] else []
theorem out_len (f : Nat → Bool) (n : Nat) : (outD f n).length ≤ n := by
  induction n with
  | zero => simp [outD]
  | succ n ih => rw [outD]; split <;> simp <;> omega
theorem out_week (l : List (Int × Int)) : outD (marksD l) 7 = week.filter fun d => l.any fun x => decide (x.1 ≤ d ∧ d ≤ x.2) := by
  have e : ∀ j : Nat, (l.any fun x => decide (x.1 ≤ (j : Int) ∧ (j : Int) ≤ x.2)) = marksD l j := fun _ => rfl
  unfold week
  simp only [List.filter_cons, List.filter_nil]
  have h1 := e 1; have h2 := e 2; have h3 := e 3; have h4 := e 4; have h5 := e 5; have h6 := e 6; have h7 := e 7
  rw [show (1 : Int) = ((1 : Nat) : Int) from rfl, show (2 : Int) = ((2 : Nat) : Int) from rfl, show (3 : Int) = ((3 : Nat) : Int) from rfl, show (4 : Int) = ((4 : Nat) : Int) from rfl, show (5 : Int) = ((5 : Nat) : Int) from rfl, show (6 : Int) = ((6 : Nat) : Int) from rfl, show (7 : Int) = ((7 : Nat) : Int) from rfl]
  rw [h1, h2, h3, h4, h5, h6, h7]
  simp only [outD, List.nil_append]
  cases marksD l 1 <;> cases marksD l 2 <;> cases marksD l 3 <;> cases marksD l 4 <;> cases marksD l 5 <;> cases marksD l 6 <;> cases marksD l 7 <;> rfl
theorem mapO_snoc {α β : Type} {g : α → Option β} {l : List α} {r : List β} {x : α} {y : β} (h : mapO g l = some r) (hx : g x = some y) : mapO g (l ++ [x]) = some (r ++ [y]) := by
  induction l generalizing r with
  | nil =>
    have : r = [] := by simpa [mapO] using h.symm
    subst this
    simp [mapO, hx]
  | cons a l ih =>
    rw [mapO] at h
    cases ha : g a with
    | none => rw [ha] at h; cases h
    | some b =>
      rw [ha] at h
      simp only at h
      cases hl : mapO g l with
      | none => rw [hl] at h; cases h
      | some q =>
        rw [hl] at h
        have e : r = b :: q := by simpa using h.symm
        rw [List.cons_append, mapO, ha]
        simp only
        rw [ih hl, e]
        rfl
end Go.Proofs.YteflddgcddcejaaGreatDoor
