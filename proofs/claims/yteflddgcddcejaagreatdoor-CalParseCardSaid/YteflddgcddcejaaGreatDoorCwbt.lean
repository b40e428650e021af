/- The walk of the document's Parse of a calendar. -/
import Derived.Test.YteflddgcddcejaaGreatDoorCwak
import Derived.Test.YteflddgcddcejaaGreatDoorCwal
import Derived.Test.YteflddgcddcejaaGreatDoorCwbs
import Derived.Test.YteflddgcddcejaaGreatDoorCwar
import Derived.Test.YteflddgcddcejaaGreatDoorCwaf
import Derived.Laws.CopyOwn
import Derived.Deep.RegionHeld3
namespace Go.Proofs.YteflddgcddcejaaGreatDoor
open Go.RowKit
theorem strInfoT : (Tryz.prog.info? 9).map (·.size) = some 1 := by kernel_rfl
theorem setRow_blk {w : World} {g F : Nat} {t : TypeId} {cs cs' : Array Value} (h : Blk w g t cs) (hg : g ≠ F) : Blk (w.setRow F cs') g t cs := by
  unfold Blk at *
  rw [setRow_other w F g cs' hg]; exact h
theorem own_setRow {base size n F : Nat} {e : TypeId} {X : World} {v : Value} {xs : List Value} {cs' : Array Value} (h : X.ownsRow base e size v n xs) (hF : F < base) : (X.setRow F cs').ownsRow base e size v n xs := by
  obtain ⟨q1, q2⟩ := h
  refine ⟨q1, ?_⟩
  rcases q2 with q2 | ⟨g, cap, cur, hv, hg, hbk, hr⟩
  · exact .inl q2
  · exact .inr ⟨g, cap, cur, hv, hg, setRow_blk hbk (by omega), hr⟩
theorem own_lower {base base' size n : Nat} {e : TypeId} {X : World} {v : Value} {xs : List Value} (h : X.ownsRow base e size v n xs) (hb : base' ≤ base) : X.ownsRow base' e size v n xs := by
  obtain ⟨q1, q2⟩ := h
  refine ⟨q1, ?_⟩
  rcases q2 with q2 | ⟨g, cap, cur, hv, hg, hbk, hr⟩
  · exact .inl q2
  · exact .inr ⟨g, cap, cur, hv, by omega, hbk, hr⟩
theorem IntsAt.of_ownT {w : World} {base n : Nat} {A : Option Addr} {nv cv : Nat} {l : List Int} (h : w.ownsRow base 3 1 (.slice A nv cv) n (ints l)) (hn : l.length = n) (hm : n ≤ maxLen) : nv = n ∧ IntsAt w w.heap.size A n l := by
  rcases h.2 with ⟨h1, h2⟩ | ⟨g, cap, cur, h1, h2, h3, h4, h5, h6, h7⟩
  · injection h1 with h1 h11 h12
    subst h2
    have : l = [] := List.length_eq_zero_iff.1 hn
    subst this
    exact ⟨h11, rfl, Nat.zero_le _, Reads.none_⟩
  · injection h1 with h1 h11 h12
    subst h1 h11 h12
    refine ⟨rfl, hn, hm, by rw [show (ints l).length = l.length by simp [ints]]; omega, fun _ => ⟨_, rfl, (Array.getElem?_eq_some_iff.1 h3).1, fun j x hj => h.cells (g := g) rfl j x hj⟩⟩
def PartsV (s : ByteArray) (w : World) (e : Ending) (w' : World) : Prop :=
  ∃ (A : Option Addr) (n c : Nat), e = .returned (.slice A n c) ∧ PtsAt w' w'.heap.size A n ((partsL s.data.toList).getD []) ∧ Below w.heap.size w w'
theorem partsV_any (s : ByteArray) (hs : s.size ≤ 4194303) (w : World) : Calls Tryz.prog 24 #[.string s] w (PartsV s w) := by
  refine (parts_any s hs w).mono ?_
  rintro e w1 ⟨hb, hm⟩
  cases hp : partsL s.data.toList with
  | none =>
    rw [hp] at hm
    exact ⟨none, 0, 0, hm, by rw [hp]; exact ⟨rfl, Nat.zero_le _, Reads.none_⟩, hb⟩
  | some ps =>
    rw [hp] at hm
    obtain ⟨v, he, ho⟩ := hm
    have hl : ps.length ≤ s.size + 1 := by
      have h1 := mapO_lenT (show mapO partL (splitL 44 s.data.toList) = some ps from hp)
      have h2 := sgo_cnt 44 s.data.toList []
      rw [size_list] at h2
      unfold splitL at h1
      omega
    obtain ⟨A, c, hv, hP⟩ := PtsAt.of_own ho rfl (by unfold maxLen; omega)
    exact ⟨A, ps.length, c, by rw [he, hv], by rw [hp]; exact hP, hb⟩
def dCells (s : Sl) : Array Value := #[.slice s.A s.n s.c, .slice none 0 0, .slice none 0 0, .slice none 0 0, .slice none 0 0, .slice none 0 0, .slice none 0 0]
theorem fold_snoc {x y z : Rd} {l : List (List UInt8)} {w : List UInt8} (h : foldR x l = some y) (hs : stepR y w = some z) : foldR x (l ++ [w]) = some z := by
  induction l generalizing x with
  | nil => rw [foldR] at h; cases h; simp [foldR, hs]
  | cons a l ih =>
    rw [foldR] at h
    rw [List.cons_append, foldR]
    cases ha : stepR x a with
    | none => rw [ha] at h; cases h
    | some b => rw [ha] at h; simp only at h ⊢; exact ih h
theorem fold_stop {x y : Rd} {l r : List (List UInt8)} {w : List UInt8} (h : foldR x l = some y) (hs : stepR y w = none) : foldR x (l ++ w :: r) = none := by
  induction l generalizing x with
  | nil => rw [foldR] at h; cases h; simp [foldR, hs]
  | cons a l ih =>
    rw [foldR] at h
    rw [List.cons_append, foldR]
    cases ha : stepR x a with
    | none => rfl
    | some b => rw [ha] at h; simp only at h ⊢; exact ih h
theorem step_days1 {x : Rd} {w : List UInt8} {ds : List Int} (h : daysL w = some ds) (hst : x.st < 1) : stepR x w = some { x with st := 1, ds := ds } := by
  unfold stepR; rw [h]; simp [hst]
theorem step_date1 {x : Rd} {w : List UInt8} (h : ¬ ((daysL w).isSome = true ∧ x.st < 1)) (hl : (splitL 45 w).length = 3) (hst : x.st < 2) : stepR x w = some { x with st := 2, fs := splitL 45 w ++ x.fs.drop 3 } := by
  unfold stepR; rw [if_neg h, if_pos ⟨hl, hst⟩]
theorem step_time1 {x : Rd} {w : List UInt8} (h : ¬ ((daysL w).isSome = true ∧ x.st < 1)) (h2 : ¬ ((splitL 45 w).length = 3 ∧ x.st < 2)) (hl : (splitL 58 w).length = 2 ∨ (splitL 58 w).length = 3) (hst : x.st < 3) :
    stepR x w = some { x with st := 3, fs := x.fs.take 3 ++ (splitL 58 w ++ x.fs.drop (3 + (splitL 58 w).length)) } := by
  unfold stepR; rw [if_neg h, if_neg h2, if_pos ⟨hl, hst⟩]
theorem step_none1 {x : Rd} {w : List UInt8} (h : ¬ ((daysL w).isSome = true ∧ x.st < 1)) (h2 : ¬ ((splitL 45 w).length = 3 ∧ x.st < 2)) (h3 : ¬ (((splitL 58 w).length = 2 ∨ (splitL 58 w).length = 3) ∧ x.st < 3)) : stepR x w = none := by
  unfold stepR; rw [if_neg h, if_neg h2, if_neg h3]
theorem parseC_long {l : List UInt8} (h : 400 < l.length) : parseC l = none := by unfold parseC; rw [if_pos h]
theorem parseC_many {l : List UInt8} (h : 3 < (splitL 32 (shortL l)).length) : parseC l = none := by
  unfold parseC
  rw [if_pos h]
  split <;> rfl
theorem parseC_stop {l : List UInt8} (h : foldR rd0 (splitL 32 (shortL l)) = none) : parseC l = none := by
  unfold parseC
  split
  · rfl
  · split
    · rfl
    · rw [h]
theorem parseC_end {l : List UInt8} {x : Rd} (h0 : ¬ 400 < l.length) (h1 : ¬ 3 < (splitL 32 (shortL l)).length) (h : foldR rd0 (splitL 32 (shortL l)) = some x) : parseC l = if mayC (calOf x.ds x.fs) = true then some (calOf x.ds x.fs) else none := by
  unfold parseC
  rw [if_neg h0, if_neg h1, h]
theorem wcells_take (l : List (List UInt8)) (n : Nat) : (wcells l).take n = wcells (l.take n) := by unfold wcells; rw [List.map_take]
theorem wcells_drop (l : List (List UInt8)) (n : Nat) : (wcells l).drop n = wcells (l.drop n) := by unfold wcells; rw [List.map_drop]
theorem wcells_get (l : List (List UInt8)) (j : Nat) : (wcells l)[j]? = (l[j]?).map fun x => Value.string (str x) := by unfold wcells; rw [List.getElem?_map]
theorem wcells_one (l : List (List UInt8)) : ∀ v ∈ wcells l, v.oneCell' = true := by
  intro v hv
  unfold wcells at hv
  obtain ⟨x, _, rfl⟩ := List.mem_map.1 hv
  rfl
theorem calAt_of {w : World} {B : Nat} {sd s0 s1 s2 s3 s4 s5 : Sl} {ds : List Int} {fs : List (List UInt8)} (hd : IntsAt w B sd.A sd.n ds) (h0 : PtsAt w B s0.A s0.n ((partsL (fs.getD 0 [])).getD [])) (h1 : PtsAt w B s1.A s1.n ((partsL (fs.getD 1 [])).getD [])) (h2 : PtsAt w B s2.A s2.n ((partsL (fs.getD 2 [])).getD [])) (h3 : PtsAt w B s3.A s3.n ((partsL (fs.getD 3 [])).getD [])) (h4 : PtsAt w B s4.A s4.n ((partsL (fs.getD 4 [])).getD [])) (h5 : PtsAt w B s5.A s5.n ((partsL (fs.getD 5 [])).getD [])) :
    CalAt w B ⟨sd, s0, s1, s2, s3, s4, s5⟩ (calOf ds fs) :=
  ⟨hd, fun f => match f with
    | 0 => h0
    | 1 => h1
    | 2 => h2
    | 3 => h3
    | 4 => h4
    | 5 => h5
    | (_ + 6) => h5⟩
theorem daysL_len {w : List UInt8} {ds : List Int} (h : daysL w = some ds) : ds.length ≤ 7 := by
  unfold daysL at h
  split at h
  · have e := Option.some.inj h
    rw [← e]
    exact Nat.le_trans (List.length_filter_le _ _) (by decide)
  · cases h
def FldS (w1 : World) (F : Nat) (fs : List (List UInt8)) (W : World) : Prop := Blk W F 9 (wcells fs).toArray ∧ Below w1.heap.size w1 W
theorem FldS.drew {w1 W : World} {F : Nat} {fs : List (List UInt8)} (h : FldS w1 F fs W) : FldS w1 F fs W.drew := ⟨h.1, h.2.drew⟩
theorem FldS.call {w1 W W' : World} {F : Nat} {fs : List (List UInt8)} (h : FldS w1 F fs W) (hb : Below W.heap.size W W') : FldS w1 F fs W' := ⟨h.1.below hb h.1.lt, more3 h.2 h.2.size hb⟩
theorem FldS.set {w1 W : World} {F C : Nat} {fs : List (List UInt8)} (h : FldS w1 F fs W) (hC : w1.heap.size ≤ C) (hne : F ≠ C) (i : Nat) (v : Value) : FldS w1 F fs (W.setCell ⟨C, i, none⟩ v) := ⟨h.1.setOther (a := ⟨C, i, none⟩) hne v, h.2.setCell (p := ⟨C, i, none⟩) hC v⟩
set_option maxRecDepth 100000 in
set_option maxHeartbeats 16000000 in
theorem rParse_any (s : ByteArray) (hs : s.size ≤ maxLen) (w : World) :
    Calls Tryz.prog 9 #[.string s] w (ParseP s.data.toList w) := by
  unfold maxLen at hs
  have HB0 : Hid (Below w.heap.size w (w.alloc (.cells #[.slice none 0 0, .slice none 0 0, .slice none 0 0, .slice none 0 0, .slice none 0 0, .slice none 0 0, .slice none 0 0] 26))) := (Below.refl _ _).alloc (Nat.le_refl _) _
  have HR0 : Hid (Blk (w.alloc (.cells #[.slice none 0 0, .slice none 0 0, .slice none 0 0, .slice none 0 0, .slice none 0 0, .slice none 0 0, .slice none 0 0] 26)) w.heap.size 26 nilCh.cells) := Blk.new w _ _
  by_cases h4 : 400 < s.size
  · have HN : Hid (parseC s.data.toList = none) := parseC_long (by rw [size_list]; exact h4)
    have t4 : (400 : Int) < (s.size : Int) := by omega
    have t4b : decide ((400 : Int) < (s.size : Int)) = true := by simp; omega
    clear h4
    go_enter Tryz.func9, Tryz.ntmps9
    go_wp2_with (refine wpList_store_row rfl 26 (.tmp 2) (.tmp 17) (by rfl) w.heap.size nilCh.cells (by rfl) (by rfl) 26 nilCh.cells HR0.out (by kernel_rfl) rfl (ch_all _) ?_)
    exact bodyPost_ret (results_cell_tmp (p := 2) (q := 3) rfl _ _ w.heap.size 26 nilCh.cells _ _ rfl rfl (Blk.row HR0.out _) Tryz.underlying26 rfl (by kernel_rfl)) rfl (parseP_no HN.out (below_setRow HB0.out (Nat.le_refl _) _))
  have t4 : (s.size : Int) ≤ 400 := by omega
  have t4b : decide ((400 : Int) < (s.size : Int)) = false := by simp; omega
  have hsl : (str (shortL s.data.toList)).size ≤ 4000 := by
    have := shortL_small s.data.toList (by rw [size_list]; omega)
    rw [str_size]; omega
  have HLONG : Hid (¬ 400 < s.data.toList.length) := by show ¬ _; rw [size_list]; exact h4
  clear h4
  go_enter Tryz.func9, Tryz.ntmps9
  go_wp2_with fail
  generalize w.alloc (.cells #[.slice none 0 0, .slice none 0 0, .slice none 0 0, .slice none 0 0, .slice none 0 0, .slice none 0 0, .slice none 0 0] 26) = w0 at *
  refine (short_any _ _).mono ?_
  rintro e w0' ⟨rfl, rfl⟩
  go_wp2_with fail
  refine (Split_any (str (shortL s.data.toList)) 32 (by omega) _).mono ?_
  rintro e w1 ⟨v, rfl, hown, hb1⟩
  rw [str_list] at hown
  obtain ⟨A, nv, cv, rfl⟩ : ∃ A nv cv, v = .slice A nv cv := by
    rcases hown.2 with ⟨hv, _⟩ | ⟨g, cap, cur, hv, _⟩
    · exact ⟨_, _, _, hv⟩
    · exact ⟨_, _, _, hv⟩
  have HEND := fun x => Lib.hid (parseC_end (l := s.data.toList) (x := x) HLONG.out)
  have HMANY := Lib.hid (parseC_many (l := s.data.toList))
  have HSTOP := Lib.hid (parseC_stop (l := s.data.toList))
  have hrl : (splitL 32 (shortL s.data.toList)).length ≤ 4001 := by
    have := sgo_cnt 32 (shortL s.data.toList) []
    rw [str_size] at hsl
    unfold splitL
    omega
  have hsl2 : ∀ x ∈ splitL 32 (shortL s.data.toList), x.length ≤ 4000 := fun x hx => by
    have h1 := split_len hx
    rw [str_size] at hsl
    omega
  generalize splitL 32 (shortL s.data.toList) = rs at hown HEND HMANY HSTOP hrl hsl2
  obtain ⟨rfl, hcv, hra⟩ := rowAt_of_own hown (by unfold maxLen; omega)
  have HRA := Lib.hid hra
  have HSL := Lib.hid hsl2
  have HB1 := Lib.hid (more3 HB0.out HB0.out.size hb1)
  have HR1 := Lib.hid (HR0.out.below hb1 HR0.out.lt)
  have hRl := HR1.out.lt
  clear hown hb1 hra hsl2 HB0 HR0
  by_cases h3 : 3 < rs.length
  · have HN := Lib.hid (HMANY.out h3)
    have t3 : (3 : Int) < (rs.length : Int) := by omega
    clear h3 HEND HMANY HSTOP
    go_wp2_with (refine wpList_store_row rfl 26 (.tmp 2) (.tmp 24) (by rfl) w.heap.size nilCh.cells (by rfl) (by rfl) 26 nilCh.cells HR1.out (by kernel_rfl) rfl (ch_all _) ?_)
    exact bodyPost_ret (results_cell_tmp (p := 2) (q := 3) rfl _ _ w.heap.size 26 nilCh.cells _ _ rfl rfl (Blk.row HR1.out _) Tryz.underlying26 rfl (by kernel_rfl)) rfl (parseP_no HN.out (below_setRow HB1.out (Nat.le_refl _) _))
  have t3 : (rs.length : Int) ≤ 3 := by omega
  have HE2 := fun x => Lib.hid ((HEND x).out h3)
  clear h3 HEND HMANY
  have HC0 : Hid (Blk ((w1.alloc (.cells #[.slice none 0 0, .slice none 0 0, .slice none 0 0, .slice none 0 0, .slice none 0 0, .slice none 0 0, .slice none 0 0] 26)).alloc (.cells #[.string ⟨#[42]⟩, .string ⟨#[42]⟩, .string ⟨#[42]⟩, .string ⟨#[48, 48]⟩, .string ⟨#[48, 48]⟩, .string ⟨#[48, 48]⟩] 9)) w1.heap.size 26 (dCells ⟨none, 0, 0⟩)) := (Blk.new w1 _ _).alloc _
  have HF0 : Hid (Blk ((w1.alloc (.cells #[.slice none 0 0, .slice none 0 0, .slice none 0 0, .slice none 0 0, .slice none 0 0, .slice none 0 0, .slice none 0 0] 26)).alloc (.cells #[.string ⟨#[42]⟩, .string ⟨#[42]⟩, .string ⟨#[42]⟩, .string ⟨#[48, 48]⟩, .string ⟨#[48, 48]⟩, .string ⟨#[48, 48]⟩] 9)) (w1.heap.size + 1) 9 (wcells rd0.fs).toArray) := by
    have := Blk.new (w1.alloc (.cells #[.slice none 0 0, .slice none 0 0, .slice none 0 0, .slice none 0 0, .slice none 0 0, .slice none 0 0, .slice none 0 0] 26)) 9 #[.string ⟨#[42]⟩, .string ⟨#[42]⟩, .string ⟨#[42]⟩, .string ⟨#[48, 48]⟩, .string ⟨#[48, 48]⟩, .string ⟨#[48, 48]⟩]
    rw [World.size_alloc] at this
    exact this
  have HBb : Hid (Below w1.heap.size w1 ((w1.alloc (.cells #[.slice none 0 0, .slice none 0 0, .slice none 0 0, .slice none 0 0, .slice none 0 0, .slice none 0 0, .slice none 0 0] 26)).alloc (.cells #[.string ⟨#[42]⟩, .string ⟨#[42]⟩, .string ⟨#[42]⟩, .string ⟨#[48, 48]⟩, .string ⟨#[48, 48]⟩, .string ⟨#[48, 48]⟩] 9))) := ((Below.refl w1.heap.size w1).alloc (Nat.le_refl _) _).alloc (by simp) _
  have HFS : Hid (∀ f ∈ rd0.fs, f.length ≤ 4000) := by intro f hf; revert f; decide
  go_wp2_with fail
  generalize (w1.alloc (.cells #[.slice none 0 0, .slice none 0 0, .slice none 0 0, .slice none 0 0, .slice none 0 0, .slice none 0 0, .slice none 0 0] 26)).alloc (.cells #[.string ⟨#[42]⟩, .string ⟨#[42]⟩, .string ⟨#[42]⟩, .string ⟨#[48, 48]⟩, .string ⟨#[48, 48]⟩, .string ⟨#[48, 48]⟩] 9) = wb at *
  go_loopw [7, 29] (fun st i wr => ∃ (k : Nat) (x : Rd) (sl : Sl), k ≤ rs.length ∧ i = .int .i64 k ∧ st = .int .i64 x.st ∧ x.fs.length = 6 ∧ x.ds.length ≤ 7 ∧ Hid (foldR rd0 (rs.take k) = some x) ∧ Hid (Blk wr w1.heap.size 26 (dCells sl)) ∧ Hid (Blk wr (w1.heap.size + 1) 9 (wcells x.fs).toArray) ∧ Hid (wr.ownsRow (w1.heap.size + 2) 3 1 (.slice sl.A sl.n sl.c) x.ds.length (ints x.ds)) ∧ Hid (∀ f ∈ x.fs, f.length ≤ 4000) ∧ Hid (Below w1.heap.size w1 wr)) (fun st i wr => rs.length - (intOf i).toNat)
  case atStart => exact ⟨0, rd0, ⟨none, 0, 0⟩, Nat.zero_le _, rfl, rfl, rfl, by decide, rfl, HC0, HF0, World.ownsRow_nil _ _ _ _, HFS, HBb⟩
  case round =>
    obtain ⟨k, x, sl, hk, rfl, rfl, hx6, hx7, hfd, hC, hF, hD, hL, hB⟩ := hrel
    obtain ⟨wo, rfl⟩ : ∃ wo : World, wo = wr := ⟨_, rfl⟩
    have b0 : (0 : Int) ≤ (k : Int) := by omega
    have hFl := hF.out.lt
    have hCl := hC.out.lt
    by_cases hlt : k < rs.length
    · have b1 : (k : Int) < (rs.length : Int) := by omega
      obtain ⟨ad, y, rfl, hadB, hy, hcy⟩ := (HRA.out.below hB.out).at_ hlt
      have hyl : y.length ≤ 4000 := HSL.out y (List.mem_of_getElem? hy)
      have hys : (str y).size ≤ 4000 := by rw [str_size]; exact hyl
      have HY := Lib.hid hy
      have HNX : Hid (∀ z, stepR x y = some z → foldR rd0 (rs.take (k + 1)) = some z) := fun z hz => by
        rw [List.take_add_one, HY.out]
        exact fold_snoc hfd.out hz
      have HST : Hid (stepR x y = none → parseC s.data.toList = none) := fun hz => HSTOP.out (by
        rw [← List.take_append_drop k rs, List.drop_eq_getElem_cons hlt]
        have : rs[k] = y := by have := HY.out; rw [List.getElem?_eq_getElem hlt] at this; exact Option.some.inj this
        rw [this]
        exact fold_stop hfd.out hz)
      clear hy
      go_wp2_with fail
      refine (Split_any (str y) 45 (by omega) _).mono ?_
      rintro e w2 ⟨v1, rfl, hown1, hb2⟩
      rw [str_list] at hown1
      obtain ⟨A1, n1, c1, rfl⟩ : ∃ A nv cv, v1 = .slice A nv cv := by
        rcases hown1.2 with ⟨hv, _⟩ | ⟨g, cap, cur, hv, _⟩
        · exact ⟨_, _, _, hv⟩
        · exact ⟨_, _, _, hv⟩
      have HO1 := Lib.hid hown1
      have HB2 := Lib.hid hb2
      clear hown1 hb2
      go_wp2_with fail
      refine (Split_any (str y) 58 (by omega) _).mono ?_
      rintro e w3 ⟨v2, rfl, hown2, hb3⟩
      rw [str_list] at hown2
      obtain ⟨A2, n2, c2, rfl⟩ : ∃ A nv cv, v2 = .slice A nv cv := by
        rcases hown2.2 with ⟨hv, _⟩ | ⟨g, cap, cur, hv, _⟩
        · exact ⟨_, _, _, hv⟩
        · exact ⟨_, _, _, hv⟩
      have HO2 := Lib.hid hown2
      have HB3 := Lib.hid (more3 HB2.out HB2.out.size hb3)
      have HO1b := Lib.hid (own_belowT HO1.out hb3)
      clear hown2 hb3 HO1
      have HDA := Lib.hid (rdays_any (str y) (by omega) w3)
      go_wp2_with fail
      refine HDA.out.mono ?_
      rintro e w4 ⟨hb4, hdy⟩
      rw [str_list] at hdy
      have HB4 := Lib.hid (more3 HB3.out HB3.out.size hb4)
      have HO1c := Lib.hid (own_belowT HO1b.out hb4)
      have HO2c := Lib.hid (own_belowT HO2.out hb4)
      have HC4 := Lib.hid (hC.out.below HB4.out hCl)
      have HF4 := Lib.hid (hF.out.below HB4.out hFl)
      have HD4 := Lib.hid (own_belowT hD.out HB4.out)
      have HBw4 := Lib.hid (hB.out.trans (HB4.out.mono hB.out.size))
      have hs34 : wo.heap.size ≤ w3.heap.size := HB3.out.size
      have hs02 : wo.heap.size ≤ w2.heap.size := HB2.out.size
      have hwo1 : w1.heap.size + 2 ≤ wo.heap.size := by omega
      have hne1 := split_ne 45 y
      have hne2 := split_ne 58 y
      have hlen1 := fun x => split_len (b := 45) (l := y) (x := x)
      have hlen2 := fun x => split_len (b := 58) (l := y) (x := x)
      obtain ⟨rfl, g1, rfl, hg10, hg11, hcell1⟩ := own_first HO1c.out hne1
      obtain ⟨rfl, g2, rfl, hg20, hg21, hcell2⟩ := own_first HO2c.out hne2
      have HSD := Lib.hid (fun ds h hst => step_days1 (x := x) (w := y) (ds := ds) h hst)
      have HSA := Lib.hid (fun h hl hst => step_date1 (x := x) (w := y) h hl hst)
      have HSB := Lib.hid (fun h h2 hl hst => step_time1 (x := x) (w := y) h h2 hl hst)
      have HSN := Lib.hid (fun h h2 h3 => step_none1 (x := x) (w := y) h h2 h3)
      generalize splitL 45 y = la at *
      generalize splitL 58 y = lb at *
      have HCA := Lib.hid hcell1
      have HCB := Lib.hid hcell2
      have HLA := Lib.hid hlen1
      have HLB := Lib.hid hlen2
      clear hb4 HB2 HB3 HB4 HO1b HO2 HO1c HO2c HDA hcell1 hcell2 hlen1 hlen2
      have hst0 : (0 : Int) ≤ (x.st : Int) := by omega
      rcases hdd : daysL y with _ | ds
      · rw [hdd] at hdy
        have hdy : e = .returned (.tuple #[.slice none 0 0, .bool false]) := hdy
        subst hdy
        have HND : Hid (¬ ((daysL y).isSome = true ∧ x.st < 1)) := by rw [hdd]; rintro ⟨h, _⟩; cases h
        clear hdd HSD
        by_cases ha : la.length = 3 ∧ x.st < 2
        · obtain ⟨ha3, ha2⟩ := ha
          have q1 : ((la.length : Int) == 3) = true := by rw [ha3]; rfl
          have q2 : (x.st : Int) < 2 := by omega
          have HN1 := Lib.hid (HNX.out _ (HSA.out HND.out ha3 ha2))
          have hFs : ((wcells x.fs).toArray).size = 6 := by simp [wcells, hx6]
          have hcp := run_copy_row (P := Tryz.prog) w4 44 44 3 9 (w1.heap.size + 1) 0 6 6 ⟨g1, 0, none⟩ 3 c1 (wcells x.fs).toArray 9 (wcells la) Tryz.underlying44 strInfoT HF4.out (by rw [wcells_length, ha3]; rfl) (fun j v hj => by
            rw [wcells_get, Option.map_eq_some_iff] at hj
            obtain ⟨z, hz, rfl⟩ := hj
            have e : (⟨g1, 0, none⟩ : Addr).add j = ⟨g1, j, none⟩ := by unfold Addr.add; split <;> simp_all
            rw [e]
            exact HCA.out j z hz) (by rw [wcells_length, ha3, hFs]; decide) (wcells_one la)
          have hXe : ((wcells x.fs).toArray.toList.take 0 ++ wcells la ++ (wcells x.fs).toArray.toList.drop (0 + (wcells la).length)).toArray = (wcells (la ++ x.fs.drop 3)).toArray := by
            congr 1
            rw [wcells_app, ← wcells_drop, wcells_length, ha3]; rfl
          rw [hXe, wcells_length, ha3] at hcp
          clear hXe
          obtain ⟨X, hX⟩ : ∃ X, (wcells (la ++ x.fs.drop 3)).toArray = X := ⟨_, rfl⟩
          rw [hX] at hcp
          have HX := Lib.hid hX
          have hcp2 : (Builtin.copy_ #[44, 44] 3 #[.slice (some ⟨w1.heap.size + 1, 0, none⟩) 6 6, .slice (some ⟨g1, 0, none⟩) 3 c1]).run Tryz.prog w4 = .ok (.int .i64 3) (w4.setRow (w1.heap.size + 1) X) := hcp
          have HFn : Hid (Blk (w4.setRow (w1.heap.size + 1) X) (w1.heap.size + 1) 9 (wcells (la ++ x.fs.drop 3)).toArray) := by
            show Blk _ _ _ _
            rw [HX.out]; exact Blk.row HF4.out X
          have HCn := Lib.hid (setRow_blk (cs' := X) (F := w1.heap.size + 1) HC4.out (by omega))
          have HDn := Lib.hid (own_setRow (cs' := X) (F := w1.heap.size + 1) HD4.out (by omega))
          have HBn : Hid (Below w1.heap.size w1 (w4.setRow (w1.heap.size + 1) X)) := below_setRow HBw4.out (by omega) _
          clear hcp hX
          have HLn : Hid (∀ f ∈ la ++ x.fs.drop 3, f.length ≤ 4000) := by
            intro f hf
            rcases List.mem_append.1 hf with hf | hf
            · exact Nat.le_trans (HLA.out f hf) hyl
            · exact hL.out f (List.mem_of_mem_drop hf)
          have hl6 : (la ++ x.fs.drop 3).length = 6 := by rw [List.length_append, List.length_drop]; omega
          clear ha2
          go_wp2_with fail
          generalize w4.setRow (w1.heap.size + 1) X = w5 at *
          go_roundw
          case rel => exact ⟨k + 1, { x with st := 2, fs := la ++ x.fs.drop 3 }, sl, by omega, by go_num, rfl, hl6, hx7, HN1, HCn, HFn, HDn, HLn, HBn⟩
          case measure => simp [intOf]; omega
        · by_cases hb : (lb.length = 2 ∨ lb.length = 3) ∧ x.st < 3
          · obtain ⟨hb3, hb2⟩ := hb
            have q2 : (x.st : Int) < 3 := by omega
            have HN1 := Lib.hid (HNX.out _ (HSB.out HND.out ha hb3 hb2))
            have hFs : ((wcells x.fs).toArray).size = 6 := by simp [wcells, hx6]
            have hln : ∀ n, lb.length = n → n ≤ 3 → (Builtin.copy_ #[44, 44] 3 #[.slice (some ⟨w1.heap.size + 1, 3, none⟩) 3 3, .slice (some ⟨g2, 0, none⟩) n c2]).run Tryz.prog w4 = .ok (.int .i64 n) (w4.setRow (w1.heap.size + 1) (wcells (x.fs.take 3 ++ (lb ++ x.fs.drop (3 + lb.length)))).toArray) := by
              intro n hn h3
              have hcp := run_copy_row (P := Tryz.prog) w4 44 44 3 9 (w1.heap.size + 1) 3 3 3 ⟨g2, 0, none⟩ n c2 (wcells x.fs).toArray 9 (wcells lb) Tryz.underlying44 strInfoT HF4.out (by rw [wcells_length, hn]; exact (Nat.min_eq_left h3).symm) (fun j v hj => by
                rw [wcells_get, Option.map_eq_some_iff] at hj
                obtain ⟨z, hz, rfl⟩ := hj
                have e : (⟨g2, 0, none⟩ : Addr).add j = ⟨g2, j, none⟩ := by unfold Addr.add; split <;> simp_all
                rw [e]
                exact HCB.out j z hz) (by rw [wcells_length, hn, hFs]; omega) (wcells_one lb)
              have hXe : ((wcells x.fs).toArray.toList.take 3 ++ wcells lb ++ (wcells x.fs).toArray.toList.drop (3 + (wcells lb).length)).toArray = (wcells (x.fs.take 3 ++ (lb ++ x.fs.drop (3 + lb.length)))).toArray := by
                congr 1
                rw [wcells_app, wcells_app, ← wcells_drop, ← wcells_take, wcells_length, List.append_assoc]
              rw [hXe, wcells_length] at hcp
              rw [hn] at hcp ⊢
              exact hcp
            obtain ⟨X, hX⟩ : ∃ X, (wcells (x.fs.take 3 ++ (lb ++ x.fs.drop (3 + lb.length)))).toArray = X := ⟨_, rfl⟩
            rw [hX] at hln
            have HX := Lib.hid hX
            have HLN := Lib.hid hln
            have HFn : Hid (Blk (w4.setRow (w1.heap.size + 1) X) (w1.heap.size + 1) 9 (wcells (x.fs.take 3 ++ (lb ++ x.fs.drop (3 + lb.length)))).toArray) := by
              show Blk _ _ _ _
              rw [HX.out]; exact Blk.row HF4.out X
            have HCn := Lib.hid (setRow_blk (cs' := X) (F := w1.heap.size + 1) HC4.out (by omega))
            have HDn := Lib.hid (own_setRow (cs' := X) (F := w1.heap.size + 1) HD4.out (by omega))
            have HBn : Hid (Below w1.heap.size w1 (w4.setRow (w1.heap.size + 1) X)) := below_setRow HBw4.out (by omega) _
            clear hln hX
            have HLn : Hid (∀ f ∈ x.fs.take 3 ++ (lb ++ x.fs.drop (3 + lb.length)), f.length ≤ 4000) := by
              intro f hf
              rcases List.mem_append.1 hf with hf | hf
              · exact hL.out f (List.mem_of_mem_take hf)
              · rcases List.mem_append.1 hf with hf | hf
                · exact Nat.le_trans (HLB.out f hf) hyl
                · exact hL.out f (List.mem_of_mem_drop hf)
            have hl6 : (x.fs.take 3 ++ (lb ++ x.fs.drop (3 + lb.length))).length = 6 := by rw [List.length_append, List.length_append, List.length_take, List.length_drop]; omega
            clear hb2
            have qa : (((la.length : Int) == 3) && decide ((x.st : Int) < 2)) = false := by
              rw [Bool.and_eq_false_iff]
              by_cases h : la.length = 3
              · right; exact decide_eq_false (fun h2 => ha ⟨h, by omega⟩)
              · left; simp; omega
            rcases hb3 with hb3 | hb3
            all_goals
              by_cases h13 : la.length = 3
              all_goals
                first
                  | (have p1 : ((la.length : Int) == 3) = true := by rw [h13]; rfl
                     have p2 : decide ((x.st : Int) < 2) = false := decide_eq_false (fun h2 => ha ⟨h13, by omega⟩)
                     have p3 : (2 : Int) ≤ (x.st : Int) := by omega)
                  | (have p1 : ((la.length : Int) == 3) = false := by simp; omega)
                first
                  | (have p4 : ((lb.length : Int) == 2) = true := by rw [hb3]; rfl)
                  | (have p4 : ((lb.length : Int) == 2) = false := by rw [hb3]; rfl
                     have p5 : ((lb.length : Int) == 3) = true := by rw [hb3]; rfl)
                clear qa
                have hcp := HLN.out _ hb3 (by decide)
                go_wp2_with fail
                generalize w4.setRow (w1.heap.size + 1) X = w5 at *
                go_roundw
                case rel => exact ⟨k + 1, { x with st := 3, fs := x.fs.take 3 ++ (lb ++ x.fs.drop (3 + lb.length)) }, sl, by omega, by go_num, rfl, hl6, hx7, HN1, HCn, HFn, HDn, HLn, HBn⟩
                case measure => simp [intOf]; omega
          · have HN := Lib.hid (HST.out (HSN.out HND.out ha hb))
            have HR4 := Lib.hid (HR1.out.below HBw4.out hRl)
            have HBr := Lib.hid (HB1.out.trans (HBw4.out.mono HB1.out.size))
            by_cases h13 : la.length = 3
            all_goals
              first
                | (have p1 : ((la.length : Int) == 3) = true := by rw [h13]; rfl
                   have p2 : decide ((x.st : Int) < 2) = false := decide_eq_false (fun h2 => ha ⟨h13, by omega⟩)
                   have p3 : (2 : Int) ≤ (x.st : Int) := by omega)
                | (have p1 : ((la.length : Int) == 3) = false := by simp; omega)
              by_cases h22 : lb.length = 2
              all_goals
                first
                  | (have p4 : ((lb.length : Int) == 2) = true := by rw [h22]; rfl
                     have p6 : (3 : Int) ≤ (x.st : Int) := by by_cases h : x.st < 3; exact absurd ⟨.inl h22, h⟩ hb; omega
                     have p7 : decide ((x.st : Int) < 3) = false := decide_eq_false (by omega)
                     go_wp2_with (refine wpList_store_row rfl 26 (.tmp 2) (.tmp 42) (by rfl) w.heap.size nilCh.cells (by rfl) (by rfl) 26 nilCh.cells HR4.out (by kernel_rfl) rfl (ch_all _) ?_)
                     exact bodyPost_ret (results_cell_tmp (p := 2) (q := 3) rfl _ _ w.heap.size 26 nilCh.cells _ _ rfl rfl (Blk.row HR4.out _) Tryz.underlying26 rfl (by kernel_rfl)) rfl (parseP_no HN.out (below_setRow HBr.out (Nat.le_refl _) _)))
                  | (have p4 : ((lb.length : Int) == 2) = false := by simp; omega
                     by_cases h23 : lb.length = 3
                     all_goals
                       first
                         | (have p5 : ((lb.length : Int) == 3) = true := by rw [h23]; rfl
                            have p6 : (3 : Int) ≤ (x.st : Int) := by by_cases h : x.st < 3; exact absurd ⟨.inr h23, h⟩ hb; omega
                            have p7 : decide ((x.st : Int) < 3) = false := decide_eq_false (by omega))
                         | (have p5 : ((lb.length : Int) == 3) = false := by simp; omega)
                       go_wp2_with (refine wpList_store_row rfl 26 (.tmp 2) (.tmp 42) (by rfl) w.heap.size nilCh.cells (by rfl) (by rfl) 26 nilCh.cells HR4.out (by kernel_rfl) rfl (ch_all _) ?_)
                       exact bodyPost_ret (results_cell_tmp (p := 2) (q := 3) rfl _ _ w.heap.size 26 nilCh.cells _ _ rfl rfl (Blk.row HR4.out _) Tryz.underlying26 rfl (by kernel_rfl)) rfl (parseP_no HN.out (below_setRow HBr.out (Nat.le_refl _) _)))
      · rw [hdd] at hdy
        obtain ⟨vd, rfl, hod⟩ := hdy
        obtain ⟨Ad, nd, cd, rfl⟩ : ∃ A nv cv, vd = .slice A nv cv := by
          rcases hod.2 with ⟨hv, _⟩ | ⟨g, cap, cur, hv, _⟩
          · exact ⟨_, _, _, hv⟩
          · exact ⟨_, _, _, hv⟩
        have hd7 := daysL_len hdd
        by_cases hst : x.st < 1
        · have q2 : (x.st : Int) < 1 := by omega
          have HN1 := Lib.hid (HNX.out _ (HSD.out ds hdd hst))
          have HCn : Hid (Blk (w4.setCell ⟨w1.heap.size, 0, none⟩ (.slice Ad nd cd)) w1.heap.size 26 (dCells ⟨Ad, nd, cd⟩)) := HC4.out.setCellE 0 _
          have HFn := Lib.hid (HF4.out.setOther (a := ⟨w1.heap.size, 0, none⟩) (by simp) (.slice Ad nd cd))
          have HDn : Hid ((w4.setCell ⟨w1.heap.size, 0, none⟩ (.slice Ad nd cd)).ownsRow (w1.heap.size + 2) 3 1 (.slice Ad nd cd) ds.length (ints ds)) := own_set2 (own_lower hod (by omega)) (by show w1.heap.size < _; omega)
          have HBn : Hid (Below w1.heap.size w1 (w4.setCell ⟨w1.heap.size, 0, none⟩ (.slice Ad nd cd))) := HBw4.out.setCell (p := ⟨w1.heap.size, 0, none⟩) (Nat.le_refl _) _
          have c0 := HC4.out.cell 0
          have f0 := HC4.out.frozen 0
          clear hst hdd hod HSD HSA HSB HSN
          go_wp2_with fail
          generalize w4.setCell ⟨w1.heap.size, 0, none⟩ (.slice Ad nd cd) = w5 at *
          go_roundw
          case rel => exact ⟨k + 1, { x with st := 1, ds := ds }, ⟨Ad, nd, cd⟩, by omega, by go_num, rfl, hx6, hd7, HN1, HCn, HFn, HDn, hL, HBn⟩
          case measure => simp [intOf]; omega
        · have HND : Hid (¬ ((daysL y).isSome = true ∧ x.st < 1)) := fun h => hst h.2
          have q0 : (1 : Int) ≤ (x.st : Int) := by omega
          have q01 : decide ((x.st : Int) < 1) = false := decide_eq_false (by omega)
          clear hst hdd hod HSD
          by_cases ha : la.length = 3 ∧ x.st < 2
          · obtain ⟨ha3, ha2⟩ := ha
            have q1 : ((la.length : Int) == 3) = true := by rw [ha3]; rfl
            have q2 : (x.st : Int) < 2 := by omega
            have HN1 := Lib.hid (HNX.out _ (HSA.out HND.out ha3 ha2))
            have hFs : ((wcells x.fs).toArray).size = 6 := by simp [wcells, hx6]
            have hcp := run_copy_row (P := Tryz.prog) w4 44 44 3 9 (w1.heap.size + 1) 0 6 6 ⟨g1, 0, none⟩ 3 c1 (wcells x.fs).toArray 9 (wcells la) Tryz.underlying44 strInfoT HF4.out (by rw [wcells_length, ha3]; rfl) (fun j v hj => by
              rw [wcells_get, Option.map_eq_some_iff] at hj
              obtain ⟨z, hz, rfl⟩ := hj
              have e : (⟨g1, 0, none⟩ : Addr).add j = ⟨g1, j, none⟩ := by unfold Addr.add; split <;> simp_all
              rw [e]
              exact HCA.out j z hz) (by rw [wcells_length, ha3, hFs]; decide) (wcells_one la)
            have hXe : ((wcells x.fs).toArray.toList.take 0 ++ wcells la ++ (wcells x.fs).toArray.toList.drop (0 + (wcells la).length)).toArray = (wcells (la ++ x.fs.drop 3)).toArray := by
              congr 1
              rw [wcells_app, ← wcells_drop, wcells_length, ha3]; rfl
            rw [hXe, wcells_length, ha3] at hcp
            clear hXe
            obtain ⟨X, hX⟩ : ∃ X, (wcells (la ++ x.fs.drop 3)).toArray = X := ⟨_, rfl⟩
            rw [hX] at hcp
            have HX := Lib.hid hX
            have hcp2 : (Builtin.copy_ #[44, 44] 3 #[.slice (some ⟨w1.heap.size + 1, 0, none⟩) 6 6, .slice (some ⟨g1, 0, none⟩) 3 c1]).run Tryz.prog w4 = .ok (.int .i64 3) (w4.setRow (w1.heap.size + 1) X) := hcp
            have HFn : Hid (Blk (w4.setRow (w1.heap.size + 1) X) (w1.heap.size + 1) 9 (wcells (la ++ x.fs.drop 3)).toArray) := by
              show Blk _ _ _ _
              rw [HX.out]; exact Blk.row HF4.out X
            have HCn := Lib.hid (setRow_blk (cs' := X) (F := w1.heap.size + 1) HC4.out (by omega))
            have HDn := Lib.hid (own_setRow (cs' := X) (F := w1.heap.size + 1) HD4.out (by omega))
            have HBn : Hid (Below w1.heap.size w1 (w4.setRow (w1.heap.size + 1) X)) := below_setRow HBw4.out (by omega) _
            clear hcp hX
            have HLn : Hid (∀ f ∈ la ++ x.fs.drop 3, f.length ≤ 4000) := by
              intro f hf
              rcases List.mem_append.1 hf with hf | hf
              · exact Nat.le_trans (HLA.out f hf) hyl
              · exact hL.out f (List.mem_of_mem_drop hf)
            have hl6 : (la ++ x.fs.drop 3).length = 6 := by rw [List.length_append, List.length_drop]; omega
            clear ha2
            go_wp2_with fail
            generalize w4.setRow (w1.heap.size + 1) X = w5 at *
            go_roundw
            case rel => exact ⟨k + 1, { x with st := 2, fs := la ++ x.fs.drop 3 }, sl, by omega, by go_num, rfl, hl6, hx7, HN1, HCn, HFn, HDn, HLn, HBn⟩
            case measure => simp [intOf]; omega
          · by_cases hb : (lb.length = 2 ∨ lb.length = 3) ∧ x.st < 3
            · obtain ⟨hb3, hb2⟩ := hb
              have q2 : (x.st : Int) < 3 := by omega
              have HN1 := Lib.hid (HNX.out _ (HSB.out HND.out ha hb3 hb2))
              have hFs : ((wcells x.fs).toArray).size = 6 := by simp [wcells, hx6]
              have hln : ∀ n, lb.length = n → n ≤ 3 → (Builtin.copy_ #[44, 44] 3 #[.slice (some ⟨w1.heap.size + 1, 3, none⟩) 3 3, .slice (some ⟨g2, 0, none⟩) n c2]).run Tryz.prog w4 = .ok (.int .i64 n) (w4.setRow (w1.heap.size + 1) (wcells (x.fs.take 3 ++ (lb ++ x.fs.drop (3 + lb.length)))).toArray) := by
                intro n hn h3
                have hcp := run_copy_row (P := Tryz.prog) w4 44 44 3 9 (w1.heap.size + 1) 3 3 3 ⟨g2, 0, none⟩ n c2 (wcells x.fs).toArray 9 (wcells lb) Tryz.underlying44 strInfoT HF4.out (by rw [wcells_length, hn]; exact (Nat.min_eq_left h3).symm) (fun j v hj => by
                  rw [wcells_get, Option.map_eq_some_iff] at hj
                  obtain ⟨z, hz, rfl⟩ := hj
                  have e : (⟨g2, 0, none⟩ : Addr).add j = ⟨g2, j, none⟩ := by unfold Addr.add; split <;> simp_all
                  rw [e]
                  exact HCB.out j z hz) (by rw [wcells_length, hn, hFs]; omega) (wcells_one lb)
                have hXe : ((wcells x.fs).toArray.toList.take 3 ++ wcells lb ++ (wcells x.fs).toArray.toList.drop (3 + (wcells lb).length)).toArray = (wcells (x.fs.take 3 ++ (lb ++ x.fs.drop (3 + lb.length)))).toArray := by
                  congr 1
                  rw [wcells_app, wcells_app, ← wcells_drop, ← wcells_take, wcells_length, List.append_assoc]
                rw [hXe, wcells_length] at hcp
                rw [hn] at hcp ⊢
                exact hcp
              obtain ⟨X, hX⟩ : ∃ X, (wcells (x.fs.take 3 ++ (lb ++ x.fs.drop (3 + lb.length)))).toArray = X := ⟨_, rfl⟩
              rw [hX] at hln
              have HX := Lib.hid hX
              have HLN := Lib.hid hln
              have HFn : Hid (Blk (w4.setRow (w1.heap.size + 1) X) (w1.heap.size + 1) 9 (wcells (x.fs.take 3 ++ (lb ++ x.fs.drop (3 + lb.length)))).toArray) := by
                show Blk _ _ _ _
                rw [HX.out]; exact Blk.row HF4.out X
              have HCn := Lib.hid (setRow_blk (cs' := X) (F := w1.heap.size + 1) HC4.out (by omega))
              have HDn := Lib.hid (own_setRow (cs' := X) (F := w1.heap.size + 1) HD4.out (by omega))
              have HBn : Hid (Below w1.heap.size w1 (w4.setRow (w1.heap.size + 1) X)) := below_setRow HBw4.out (by omega) _
              clear hln hX
              have HLn : Hid (∀ f ∈ x.fs.take 3 ++ (lb ++ x.fs.drop (3 + lb.length)), f.length ≤ 4000) := by
                intro f hf
                rcases List.mem_append.1 hf with hf | hf
                · exact hL.out f (List.mem_of_mem_take hf)
                · rcases List.mem_append.1 hf with hf | hf
                  · exact Nat.le_trans (HLB.out f hf) hyl
                  · exact hL.out f (List.mem_of_mem_drop hf)
              have hl6 : (x.fs.take 3 ++ (lb ++ x.fs.drop (3 + lb.length))).length = 6 := by rw [List.length_append, List.length_append, List.length_take, List.length_drop]; omega
              clear hb2
              have qa : (((la.length : Int) == 3) && decide ((x.st : Int) < 2)) = false := by
                rw [Bool.and_eq_false_iff]
                by_cases h : la.length = 3
                · right; exact decide_eq_false (fun h2 => ha ⟨h, by omega⟩)
                · left; simp; omega
              rcases hb3 with hb3 | hb3
              all_goals
                by_cases h13 : la.length = 3
                all_goals
                  first
                    | (have p1 : ((la.length : Int) == 3) = true := by rw [h13]; rfl
                       have p2 : decide ((x.st : Int) < 2) = false := decide_eq_false (fun h2 => ha ⟨h13, by omega⟩)
                       have p3 : (2 : Int) ≤ (x.st : Int) := by omega)
                    | (have p1 : ((la.length : Int) == 3) = false := by simp; omega)
                  first
                    | (have p4 : ((lb.length : Int) == 2) = true := by rw [hb3]; rfl)
                    | (have p4 : ((lb.length : Int) == 2) = false := by rw [hb3]; rfl
                       have p5 : ((lb.length : Int) == 3) = true := by rw [hb3]; rfl)
                  clear qa
                  have hcp := HLN.out _ hb3 (by decide)
                  go_wp2_with fail
                  generalize w4.setRow (w1.heap.size + 1) X = w5 at *
                  go_roundw
                  case rel => exact ⟨k + 1, { x with st := 3, fs := x.fs.take 3 ++ (lb ++ x.fs.drop (3 + lb.length)) }, sl, by omega, by go_num, rfl, hl6, hx7, HN1, HCn, HFn, HDn, HLn, HBn⟩
                  case measure => simp [intOf]; omega
            · have HN := Lib.hid (HST.out (HSN.out HND.out ha hb))
              have HR4 := Lib.hid (HR1.out.below HBw4.out hRl)
              have HBr := Lib.hid (HB1.out.trans (HBw4.out.mono HB1.out.size))
              by_cases h13 : la.length = 3
              all_goals
                first
                  | (have p1 : ((la.length : Int) == 3) = true := by rw [h13]; rfl
                     have p2 : decide ((x.st : Int) < 2) = false := decide_eq_false (fun h2 => ha ⟨h13, by omega⟩)
                     have p3 : (2 : Int) ≤ (x.st : Int) := by omega)
                  | (have p1 : ((la.length : Int) == 3) = false := by simp; omega)
                by_cases h22 : lb.length = 2
                all_goals
                  first
                    | (have p4 : ((lb.length : Int) == 2) = true := by rw [h22]; rfl
                       have p6 : (3 : Int) ≤ (x.st : Int) := by by_cases h : x.st < 3; exact absurd ⟨.inl h22, h⟩ hb; omega
                       have p7 : decide ((x.st : Int) < 3) = false := decide_eq_false (by omega)
                       go_wp2_with (refine wpList_store_row rfl 26 (.tmp 2) (.tmp 42) (by rfl) w.heap.size nilCh.cells (by rfl) (by rfl) 26 nilCh.cells HR4.out (by kernel_rfl) rfl (ch_all _) ?_)
                       exact bodyPost_ret (results_cell_tmp (p := 2) (q := 3) rfl _ _ w.heap.size 26 nilCh.cells _ _ rfl rfl (Blk.row HR4.out _) Tryz.underlying26 rfl (by kernel_rfl)) rfl (parseP_no HN.out (below_setRow HBr.out (Nat.le_refl _) _)))
                    | (have p4 : ((lb.length : Int) == 2) = false := by simp; omega
                       by_cases h23 : lb.length = 3
                       all_goals
                         first
                           | (have p5 : ((lb.length : Int) == 3) = true := by rw [h23]; rfl
                              have p6 : (3 : Int) ≤ (x.st : Int) := by by_cases h : x.st < 3; exact absurd ⟨.inr h23, h⟩ hb; omega
                              have p7 : decide ((x.st : Int) < 3) = false := decide_eq_false (by omega))
                           | (have p5 : ((lb.length : Int) == 3) = false := by simp; omega)
                         go_wp2_with (refine wpList_store_row rfl 26 (.tmp 2) (.tmp 42) (by rfl) w.heap.size nilCh.cells (by rfl) (by rfl) 26 nilCh.cells HR4.out (by kernel_rfl) rfl (ch_all _) ?_)
                         exact bodyPost_ret (results_cell_tmp (p := 2) (q := 3) rfl _ _ w.heap.size 26 nilCh.cells _ _ rfl rfl (Blk.row HR4.out _) Tryz.underlying26 rfl (by kernel_rfl)) rfl (parseP_no HN.out (below_setRow HBr.out (Nat.le_refl _) _)))
    · obtain rfl : k = rs.length := by omega
      have HFD : Hid (foldR rd0 rs = some x) := by have := hfd.out; rwa [List.take_length] at this
      have HPE := Lib.hid ((HE2 x).out HFD.out)
      obtain ⟨sdA, sdn, sdc⟩ := sl
      dsimp only at hD
      have hds := hD.out
      obtain ⟨rfl, hID⟩ := IntsAt.of_ownT hds rfl (by unfold maxLen; omega)
      have HI0 := Lib.hid hID
      have hfsz : ∀ f ∈ x.fs, (str f).size ≤ 4194303 := fun f hf => by have := hL.out f hf; rw [str_size]; omega
      match hfs : x.fs, hx6 with
      | [f0, f1, f2, f3, f4, f5], _ =>
      rw [hfs] at hF hfsz HPE
      have hz0 := hfsz f0 (by simp)
      have hz1 := hfsz f1 (by simp)
      have hz2 := hfsz f2 (by simp)
      have hz3 := hfsz f3 (by simp)
      have hz4 := hfsz f4 (by simp)
      have hz5 := hfsz f5 (by simp)
      have HP0 := fun W => Lib.hid (partsV_any (str f0) hz0 W)
      have HP1 := fun W => Lib.hid (partsV_any (str f1) hz1 W)
      have HP2 := fun W => Lib.hid (partsV_any (str f2) hz2 W)
      have HP3 := fun W => Lib.hid (partsV_any (str f3) hz3 W)
      have HP4 := fun W => Lib.hid (partsV_any (str f4) hz4 W)
      have HP5 := fun W => Lib.hid (partsV_any (str f5) hz5 W)
      have HS : Hid (FldS w1 (w1.heap.size + 1) [f0, f1, f2, f3, f4, f5] wo) := ⟨hF.out, hB.out⟩
      clear hds hID hfsz hz0 hz1 hz2 hz3 hz4 hz5 hD hlt hfd HFD
      go_wp2_with fail
      refine wp_region_held_drew (S := fun W => FldS w1 (w1.heap.size + 1) [f0, f1, f2, f3, f4, f5] W) (by kernel_rfl) ?_ (fun hHeld => ?_)
      · exact HS.out.drew
      refine wpAnyH_take (i := 0) (v := ?v0) rfl (by kernel_rfl) (by kernel_rfl) (by kernel_rfl) (fun _ _ _ h => h) (Or.inl ⟨by rfl, ?hf0⟩) (by assumption) ?_
      case hf0 => (intro W hSw; (try dsimp only at hSw); go_simp; (try with_reducible rfl))
      try simp only [Act.put, List.getElem_toArray, List.getElem_cons_zero, List.setIfInBounds_toArray, List.set_cons_zero, List.set_cons_succ]
      refine wpAnyH_take (i := 1) (v := ?v1) rfl (by kernel_rfl) (by kernel_rfl) (by kernel_rfl) (fun _ _ _ h => h) (Or.inl ⟨by rfl, ?hf1⟩) (by assumption) ?_
      case hf1 => (intro W hSw; (try dsimp only at hSw); go_simp; (try with_reducible rfl))
      try simp only [Act.put, List.getElem_toArray, List.getElem_cons_zero, List.getElem_cons_succ, List.setIfInBounds_toArray, List.set_cons_zero, List.set_cons_succ]
      refine wpAnyH_take (i := 2) (v := .string (str f0)) rfl (by kernel_rfl) (by kernel_rfl) (by kernel_rfl) (fun _ _ _ h => h) (Or.inl ⟨by rfl, ?hf2⟩) (by assumption) ?_
      case hf2 => (intro W hSw; have z : W.cell? ⟨w1.heap.size + 1, 0, none⟩ = some (.string (str f0)) := hSw.1.cell 0; go_simp; (try with_reducible rfl))
      try simp only [Act.put, List.getElem_toArray, List.getElem_cons_zero, List.getElem_cons_succ, List.setIfInBounds_toArray, List.set_cons_zero, List.set_cons_succ]
      refine wpAnyH_take (i := 4) (v := ?v4) rfl (by kernel_rfl) (by kernel_rfl) (by kernel_rfl) (fun _ _ _ h => h) (Or.inl ⟨by rfl, ?hf4⟩) (by assumption) ?_
      case hf4 => (intro W hSw; (try dsimp only at hSw); go_simp; (try with_reducible rfl))
      try simp only [Act.put, List.getElem_toArray, List.getElem_cons_zero, List.getElem_cons_succ, List.setIfInBounds_toArray, List.set_cons_zero, List.set_cons_succ]
      refine wpAnyH_take (i := 5) (v := ?v5) rfl (by kernel_rfl) (by kernel_rfl) (by kernel_rfl) (fun _ _ _ h => h) (Or.inl ⟨by rfl, ?hf5⟩) (by assumption) ?_
      case hf5 => (intro W hSw; (try dsimp only at hSw); go_simp; (try with_reducible rfl))
      try simp only [Act.put, List.getElem_toArray, List.getElem_cons_zero, List.getElem_cons_succ, List.setIfInBounds_toArray, List.set_cons_zero, List.set_cons_succ]
      refine wpAnyH_take (i := 6) (v := .string (str f1)) rfl (by kernel_rfl) (by kernel_rfl) (by kernel_rfl) (fun _ _ _ h => h) (Or.inl ⟨by rfl, ?hf6⟩) (by assumption) ?_
      case hf6 => (intro W hSw; have z : W.cell? ⟨w1.heap.size + 1, 1, none⟩ = some (.string (str f1)) := hSw.1.cell 1; go_simp; (try with_reducible rfl))
      try simp only [Act.put, List.getElem_toArray, List.getElem_cons_zero, List.getElem_cons_succ, List.setIfInBounds_toArray, List.set_cons_zero, List.set_cons_succ]
      refine wpAnyH_take (i := 8) (v := ?v8) rfl (by kernel_rfl) (by kernel_rfl) (by kernel_rfl) (fun _ _ _ h => h) (Or.inl ⟨by rfl, ?hf8⟩) (by assumption) ?_
      case hf8 => (intro W hSw; (try dsimp only at hSw); go_simp; (try with_reducible rfl))
      try simp only [Act.put, List.getElem_toArray, List.getElem_cons_zero, List.getElem_cons_succ, List.setIfInBounds_toArray, List.set_cons_zero, List.set_cons_succ]
      refine wpAnyH_take (i := 9) (v := ?v9) rfl (by kernel_rfl) (by kernel_rfl) (by kernel_rfl) (fun _ _ _ h => h) (Or.inl ⟨by rfl, ?hf9⟩) (by assumption) ?_
      case hf9 => (intro W hSw; (try dsimp only at hSw); go_simp; (try with_reducible rfl))
      try simp only [Act.put, List.getElem_toArray, List.getElem_cons_zero, List.getElem_cons_succ, List.setIfInBounds_toArray, List.set_cons_zero, List.set_cons_succ]
      refine wpAnyH_take (i := 10) (v := .string (str f2)) rfl (by kernel_rfl) (by kernel_rfl) (by kernel_rfl) (fun _ _ _ h => h) (Or.inl ⟨by rfl, ?hf10⟩) (by assumption) ?_
      case hf10 => (intro W hSw; have z : W.cell? ⟨w1.heap.size + 1, 2, none⟩ = some (.string (str f2)) := hSw.1.cell 2; go_simp; (try with_reducible rfl))
      try simp only [Act.put, List.getElem_toArray, List.getElem_cons_zero, List.getElem_cons_succ, List.setIfInBounds_toArray, List.set_cons_zero, List.set_cons_succ]
      refine wpAnyH_take (i := 12) (v := ?v12) rfl (by kernel_rfl) (by kernel_rfl) (by kernel_rfl) (fun _ _ _ h => h) (Or.inl ⟨by rfl, ?hf12⟩) (by assumption) ?_
      case hf12 => (intro W hSw; (try dsimp only at hSw); go_simp; (try with_reducible rfl))
      try simp only [Act.put, List.getElem_toArray, List.getElem_cons_zero, List.getElem_cons_succ, List.setIfInBounds_toArray, List.set_cons_zero, List.set_cons_succ]
      refine wpAnyH_take (i := 13) (v := ?v13) rfl (by kernel_rfl) (by kernel_rfl) (by kernel_rfl) (fun _ _ _ h => h) (Or.inl ⟨by rfl, ?hf13⟩) (by assumption) ?_
      case hf13 => (intro W hSw; (try dsimp only at hSw); go_simp; (try with_reducible rfl))
      try simp only [Act.put, List.getElem_toArray, List.getElem_cons_zero, List.getElem_cons_succ, List.setIfInBounds_toArray, List.set_cons_zero, List.set_cons_succ]
      refine wpAnyH_take (i := 14) (v := .string (str f3)) rfl (by kernel_rfl) (by kernel_rfl) (by kernel_rfl) (fun _ _ _ h => h) (Or.inl ⟨by rfl, ?hf14⟩) (by assumption) ?_
      case hf14 => (intro W hSw; have z : W.cell? ⟨w1.heap.size + 1, 3, none⟩ = some (.string (str f3)) := hSw.1.cell 3; go_simp; (try with_reducible rfl))
      try simp only [Act.put, List.getElem_toArray, List.getElem_cons_zero, List.getElem_cons_succ, List.setIfInBounds_toArray, List.set_cons_zero, List.set_cons_succ]
      refine wpAnyH_take (i := 16) (v := ?v16) rfl (by kernel_rfl) (by kernel_rfl) (by kernel_rfl) (fun _ _ _ h => h) (Or.inl ⟨by rfl, ?hf16⟩) (by assumption) ?_
      case hf16 => (intro W hSw; (try dsimp only at hSw); go_simp; (try with_reducible rfl))
      try simp only [Act.put, List.getElem_toArray, List.getElem_cons_zero, List.getElem_cons_succ, List.setIfInBounds_toArray, List.set_cons_zero, List.set_cons_succ]
      refine wpAnyH_take (i := 17) (v := ?v17) rfl (by kernel_rfl) (by kernel_rfl) (by kernel_rfl) (fun _ _ _ h => h) (Or.inl ⟨by rfl, ?hf17⟩) (by assumption) ?_
      case hf17 => (intro W hSw; (try dsimp only at hSw); go_simp; (try with_reducible rfl))
      try simp only [Act.put, List.getElem_toArray, List.getElem_cons_zero, List.getElem_cons_succ, List.setIfInBounds_toArray, List.set_cons_zero, List.set_cons_succ]
      refine wpAnyH_take (i := 18) (v := .string (str f4)) rfl (by kernel_rfl) (by kernel_rfl) (by kernel_rfl) (fun _ _ _ h => h) (Or.inl ⟨by rfl, ?hf18⟩) (by assumption) ?_
      case hf18 => (intro W hSw; have z : W.cell? ⟨w1.heap.size + 1, 4, none⟩ = some (.string (str f4)) := hSw.1.cell 4; go_simp; (try with_reducible rfl))
      try simp only [Act.put, List.getElem_toArray, List.getElem_cons_zero, List.getElem_cons_succ, List.setIfInBounds_toArray, List.set_cons_zero, List.set_cons_succ]
      refine wpAnyH_take (i := 20) (v := ?v20) rfl (by kernel_rfl) (by kernel_rfl) (by kernel_rfl) (fun _ _ _ h => h) (Or.inl ⟨by rfl, ?hf20⟩) (by assumption) ?_
      case hf20 => (intro W hSw; (try dsimp only at hSw); go_simp; (try with_reducible rfl))
      try simp only [Act.put, List.getElem_toArray, List.getElem_cons_zero, List.getElem_cons_succ, List.setIfInBounds_toArray, List.set_cons_zero, List.set_cons_succ]
      refine wpAnyH_take (i := 21) (v := ?v21) rfl (by kernel_rfl) (by kernel_rfl) (by kernel_rfl) (fun _ _ _ h => h) (Or.inl ⟨by rfl, ?hf21⟩) (by assumption) ?_
      case hf21 => (intro W hSw; (try dsimp only at hSw); go_simp; (try with_reducible rfl))
      try simp only [Act.put, List.getElem_toArray, List.getElem_cons_zero, List.getElem_cons_succ, List.setIfInBounds_toArray, List.set_cons_zero, List.set_cons_succ]
      refine wpAnyH_take (i := 22) (v := .string (str f5)) rfl (by kernel_rfl) (by kernel_rfl) (by kernel_rfl) (fun _ _ _ h => h) (Or.inl ⟨by rfl, ?hf22⟩) (by assumption) ?_
      case hf22 => (intro W hSw; have z : W.cell? ⟨w1.heap.size + 1, 5, none⟩ = some (.string (str f5)) := hSw.1.cell 5; go_simp; (try with_reducible rfl))
      try simp only [Act.put, List.getElem_toArray, List.getElem_cons_zero, List.getElem_cons_succ, List.setIfInBounds_toArray, List.set_cons_zero, List.set_cons_succ]
      have HCa : Hid (Blk wo.drew w1.heap.size 26 (dCells ⟨sdA, x.ds.length, sdc⟩)) := hC.out
      have HIa : Hid (IntsAt wo.drew wo.drew.heap.size sdA x.ds.length x.ds) := HI0.out
      refine wpAnyH_ready (rs := [3]) (by kernel_rfl) (by simp) ?_
      refine AllReadyH.cons rfl (fun K hK => ?_) AllReadyH.nil
      go_simp
      refine (HP0 _).out.mono ?_
      rintro e x0 ⟨A0, n0, c0, rfl, hp0, hq0⟩
      rw [str_list] at hp0
      refine hK.out _ _ (hHeld.call hq0) (fun hHeld2 => ?_)
      clear hK K hHeld
      have hHeld := hHeld2
      clear hHeld2
      try simp only [Act.put, List.getElem_toArray, List.getElem_cons_zero, List.getElem_cons_succ, List.setIfInBounds_toArray, List.set_cons_zero, List.set_cons_succ]
      have HCb := Lib.hid (HCa.out.below hq0 HCa.out.lt)
      have HIb := Lib.hid ((HIa.out.below hq0).wide hq0.size)
      clear HCa HIa
      have HCa := HCb
      have HIa := HIb
      clear HCb HIb hq0
      refine wpAnyH_take (i := 24) (v := ?v24) rfl (by kernel_rfl) (by kernel_rfl) (by kernel_rfl) (fun _ _ _ h => h) (Or.inl ⟨by rfl, ?hf24⟩) (by assumption) ?_
      case hf24 => (intro W hSw; (try dsimp only at hSw); go_simp; (try with_reducible rfl))
      try simp only [Act.put, List.getElem_toArray, List.getElem_cons_zero, List.getElem_cons_succ, List.setIfInBounds_toArray, List.set_cons_zero, List.set_cons_succ]
      refine wpAnyH_ready (rs := [7]) (by kernel_rfl) (by simp) ?_
      refine AllReadyH.cons rfl (fun K hK => ?_) AllReadyH.nil
      go_simp
      refine (HP1 _).out.mono ?_
      rintro e x1 ⟨A1, n1, c1, rfl, hp1, hq1⟩
      rw [str_list] at hp1
      refine hK.out _ _ (hHeld.call hq1) (fun hHeld2 => ?_)
      clear hK K hHeld
      have hHeld := hHeld2
      clear hHeld2
      try simp only [Act.put, List.getElem_toArray, List.getElem_cons_zero, List.getElem_cons_succ, List.setIfInBounds_toArray, List.set_cons_zero, List.set_cons_succ]
      have HCb := Lib.hid (HCa.out.below hq1 HCa.out.lt)
      have HIb := Lib.hid ((HIa.out.below hq1).wide hq1.size)
      replace hp0 := (hp0.below hq1).wide hq1.size
      clear HCa HIa
      have HCa := HCb
      have HIa := HIb
      clear HCb HIb hq1
      refine wpAnyH_ready (rs := [11]) (by kernel_rfl) (by simp) ?_
      refine AllReadyH.cons rfl (fun K hK => ?_) AllReadyH.nil
      go_simp
      refine (HP2 _).out.mono ?_
      rintro e x2 ⟨A2, n2, c2, rfl, hp2, hq2⟩
      rw [str_list] at hp2
      refine hK.out _ _ (hHeld.call hq2) (fun hHeld2 => ?_)
      clear hK K hHeld
      have hHeld := hHeld2
      clear hHeld2
      try simp only [Act.put, List.getElem_toArray, List.getElem_cons_zero, List.getElem_cons_succ, List.setIfInBounds_toArray, List.set_cons_zero, List.set_cons_succ]
      have HCb := Lib.hid (HCa.out.below hq2 HCa.out.lt)
      have HIb := Lib.hid ((HIa.out.below hq2).wide hq2.size)
      replace hp0 := (hp0.below hq2).wide hq2.size
      replace hp1 := (hp1.below hq2).wide hq2.size
      clear HCa HIa
      have HCa := HCb
      have HIa := HIb
      clear HCb HIb hq2
      refine wpAnyH_ready (rs := [15]) (by kernel_rfl) (by simp) ?_
      refine AllReadyH.cons rfl (fun K hK => ?_) AllReadyH.nil
      go_simp
      refine (HP3 _).out.mono ?_
      rintro e x3 ⟨A3, n3, c3, rfl, hp3, hq3⟩
      rw [str_list] at hp3
      refine hK.out _ _ (hHeld.call hq3) (fun hHeld2 => ?_)
      clear hK K hHeld
      have hHeld := hHeld2
      clear hHeld2
      try simp only [Act.put, List.getElem_toArray, List.getElem_cons_zero, List.getElem_cons_succ, List.setIfInBounds_toArray, List.set_cons_zero, List.set_cons_succ]
      have HCb := Lib.hid (HCa.out.below hq3 HCa.out.lt)
      have HIb := Lib.hid ((HIa.out.below hq3).wide hq3.size)
      replace hp0 := (hp0.below hq3).wide hq3.size
      replace hp1 := (hp1.below hq3).wide hq3.size
      replace hp2 := (hp2.below hq3).wide hq3.size
      clear HCa HIa
      have HCa := HCb
      have HIa := HIb
      clear HCb HIb hq3
      refine wpAnyH_ready (rs := [19]) (by kernel_rfl) (by simp) ?_
      refine AllReadyH.cons rfl (fun K hK => ?_) AllReadyH.nil
      go_simp
      refine (HP4 _).out.mono ?_
      rintro e x4 ⟨A4, n4, c4, rfl, hp4, hq4⟩
      rw [str_list] at hp4
      refine hK.out _ _ (hHeld.call hq4) (fun hHeld2 => ?_)
      clear hK K hHeld
      have hHeld := hHeld2
      clear hHeld2
      try simp only [Act.put, List.getElem_toArray, List.getElem_cons_zero, List.getElem_cons_succ, List.setIfInBounds_toArray, List.set_cons_zero, List.set_cons_succ]
      have HCb := Lib.hid (HCa.out.below hq4 HCa.out.lt)
      have HIb := Lib.hid ((HIa.out.below hq4).wide hq4.size)
      replace hp0 := (hp0.below hq4).wide hq4.size
      replace hp1 := (hp1.below hq4).wide hq4.size
      replace hp2 := (hp2.below hq4).wide hq4.size
      replace hp3 := (hp3.below hq4).wide hq4.size
      clear HCa HIa
      have HCa := HCb
      have HIa := HIb
      clear HCb HIb hq4
      refine wpAnyH_ready (rs := [23]) (by kernel_rfl) (by simp) ?_
      refine AllReadyH.cons rfl (fun K hK => ?_) AllReadyH.nil
      go_simp
      refine (HP5 _).out.mono ?_
      rintro e x5 ⟨A5, n5, c5, rfl, hp5, hq5⟩
      rw [str_list] at hp5
      refine hK.out _ _ (hHeld.call hq5) (fun hHeld2 => ?_)
      clear hK K hHeld
      have hHeld := hHeld2
      clear hHeld2
      try simp only [Act.put, List.getElem_toArray, List.getElem_cons_zero, List.getElem_cons_succ, List.setIfInBounds_toArray, List.set_cons_zero, List.set_cons_succ]
      have HCb := Lib.hid (HCa.out.below hq5 HCa.out.lt)
      have HIb := Lib.hid ((HIa.out.below hq5).wide hq5.size)
      replace hp0 := (hp0.below hq5).wide hq5.size
      replace hp1 := (hp1.below hq5).wide hq5.size
      replace hp2 := (hp2.below hq5).wide hq5.size
      replace hp3 := (hp3.below hq5).wide hq5.size
      replace hp4 := (hp4.below hq5).wide hq5.size
      clear HCa HIa
      have HCa := HCb
      have HIa := HIb
      clear HCb HIb hq5
      have HK0 : Hid (Blk x5 w1.heap.size 26 #[.slice sdA x.ds.length sdc, .slice none 0 0, .slice none 0 0, .slice none 0 0, .slice none 0 0, .slice none 0 0, .slice none 0 0]) := HCa.out
      clear HCa
      have k0 := HK0.out.cell 1
      have l0 := HK0.out.frozen 1
      refine wpAnyH_ready (rs := [25]) (by kernel_rfl) (by simp) ?_
      refine AllReadyH.cons rfl (fun K hK => ?_) AllReadyH.nil
      go_simp
      have HK1 : Hid (Blk ((x5).setCell ⟨w1.heap.size, 1, none⟩ (.slice A0 n0 c0)) w1.heap.size 26 #[.slice sdA x.ds.length sdc, .slice A0 n0 c0, .slice none 0 0, .slice none 0 0, .slice none 0 0, .slice none 0 0, .slice none 0 0]) := HK0.out.setCellE 1 _
      refine hK.out _ _ (hHeld.set (C := w1.heap.size) (Nat.le_refl _) (by omega) 1 _) (fun hHeld2 => ?_)
      clear hK K hHeld
      have hHeld := hHeld2
      clear hHeld2 k0 l0
      try simp only [Act.put, List.getElem_toArray, List.getElem_cons_zero, List.getElem_cons_succ, List.setIfInBounds_toArray, List.set_cons_zero, List.set_cons_succ]
      replace hp0 := pts_keepN (w' := (x5).setCell ⟨w1.heap.size, 1, none⟩ (.slice A0 n0 c0)) hp0 HK0.out (noInt_ch ⟨⟨sdA, x.ds.length, sdc⟩, ⟨none, 0, 0⟩, ⟨none, 0, 0⟩, ⟨none, 0, 0⟩, ⟨none, 0, 0⟩, ⟨none, 0, 0⟩, ⟨none, 0, 0⟩⟩) (fun i hi => heap_setOtherE (by exact hi) _)
      replace hp1 := pts_keepN (w' := (x5).setCell ⟨w1.heap.size, 1, none⟩ (.slice A0 n0 c0)) hp1 HK0.out (noInt_ch ⟨⟨sdA, x.ds.length, sdc⟩, ⟨none, 0, 0⟩, ⟨none, 0, 0⟩, ⟨none, 0, 0⟩, ⟨none, 0, 0⟩, ⟨none, 0, 0⟩, ⟨none, 0, 0⟩⟩) (fun i hi => heap_setOtherE (by exact hi) _)
      replace hp2 := pts_keepN (w' := (x5).setCell ⟨w1.heap.size, 1, none⟩ (.slice A0 n0 c0)) hp2 HK0.out (noInt_ch ⟨⟨sdA, x.ds.length, sdc⟩, ⟨none, 0, 0⟩, ⟨none, 0, 0⟩, ⟨none, 0, 0⟩, ⟨none, 0, 0⟩, ⟨none, 0, 0⟩, ⟨none, 0, 0⟩⟩) (fun i hi => heap_setOtherE (by exact hi) _)
      replace hp3 := pts_keepN (w' := (x5).setCell ⟨w1.heap.size, 1, none⟩ (.slice A0 n0 c0)) hp3 HK0.out (noInt_ch ⟨⟨sdA, x.ds.length, sdc⟩, ⟨none, 0, 0⟩, ⟨none, 0, 0⟩, ⟨none, 0, 0⟩, ⟨none, 0, 0⟩, ⟨none, 0, 0⟩, ⟨none, 0, 0⟩⟩) (fun i hi => heap_setOtherE (by exact hi) _)
      replace hp4 := pts_keepN (w' := (x5).setCell ⟨w1.heap.size, 1, none⟩ (.slice A0 n0 c0)) hp4 HK0.out (noInt_ch ⟨⟨sdA, x.ds.length, sdc⟩, ⟨none, 0, 0⟩, ⟨none, 0, 0⟩, ⟨none, 0, 0⟩, ⟨none, 0, 0⟩, ⟨none, 0, 0⟩, ⟨none, 0, 0⟩⟩) (fun i hi => heap_setOtherE (by exact hi) _)
      replace hp5 := pts_keepN (w' := (x5).setCell ⟨w1.heap.size, 1, none⟩ (.slice A0 n0 c0)) hp5 HK0.out (noInt_ch ⟨⟨sdA, x.ds.length, sdc⟩, ⟨none, 0, 0⟩, ⟨none, 0, 0⟩, ⟨none, 0, 0⟩, ⟨none, 0, 0⟩, ⟨none, 0, 0⟩, ⟨none, 0, 0⟩⟩) (fun i hi => heap_setOtherE (by exact hi) _)
      have HIb := Lib.hid (ints_keepN (w' := (x5).setCell ⟨w1.heap.size, 1, none⟩ (.slice A0 n0 c0)) HIa.out HK0.out (noInt_ch ⟨⟨sdA, x.ds.length, sdc⟩, ⟨none, 0, 0⟩, ⟨none, 0, 0⟩, ⟨none, 0, 0⟩, ⟨none, 0, 0⟩, ⟨none, 0, 0⟩, ⟨none, 0, 0⟩⟩) (fun i hi => heap_setOtherE (by exact hi) _))
      clear HIa
      have HIa := HIb
      clear HIb HK0
      have hy0 : ((x5).setCell ⟨w1.heap.size, 1, none⟩ (.slice A0 n0 c0)).heap.size = (x5).heap.size := by simp [World.setCell]
      generalize (x5).setCell ⟨w1.heap.size, 1, none⟩ (.slice A0 n0 c0) = y0 at *
      refine wpAnyH_take (i := 26) (v := ?v26) rfl (by kernel_rfl) (by kernel_rfl) (by kernel_rfl) (fun _ _ _ h => h) (Or.inl ⟨by rfl, ?hf26⟩) (by assumption) ?_
      case hf26 => (intro W hSw; (try dsimp only at hSw); go_simp; (try with_reducible rfl))
      try simp only [Act.put, List.getElem_toArray, List.getElem_cons_zero, List.getElem_cons_succ, List.setIfInBounds_toArray, List.set_cons_zero, List.set_cons_succ]
      have k1 := HK1.out.cell 2
      have l1 := HK1.out.frozen 2
      refine wpAnyH_ready (rs := [27]) (by kernel_rfl) (by simp) ?_
      refine AllReadyH.cons rfl (fun K hK => ?_) AllReadyH.nil
      go_simp
      have HK2 : Hid (Blk ((y0).setCell ⟨w1.heap.size, 2, none⟩ (.slice A1 n1 c1)) w1.heap.size 26 #[.slice sdA x.ds.length sdc, .slice A0 n0 c0, .slice A1 n1 c1, .slice none 0 0, .slice none 0 0, .slice none 0 0, .slice none 0 0]) := HK1.out.setCellE 2 _
      refine hK.out _ _ (hHeld.set (C := w1.heap.size) (Nat.le_refl _) (by omega) 2 _) (fun hHeld2 => ?_)
      clear hK K hHeld
      have hHeld := hHeld2
      clear hHeld2 k1 l1
      try simp only [Act.put, List.getElem_toArray, List.getElem_cons_zero, List.getElem_cons_succ, List.setIfInBounds_toArray, List.set_cons_zero, List.set_cons_succ]
      replace hp0 := pts_keepN (w' := (y0).setCell ⟨w1.heap.size, 2, none⟩ (.slice A1 n1 c1)) hp0 HK1.out (noInt_ch ⟨⟨sdA, x.ds.length, sdc⟩, ⟨A0, n0, c0⟩, ⟨none, 0, 0⟩, ⟨none, 0, 0⟩, ⟨none, 0, 0⟩, ⟨none, 0, 0⟩, ⟨none, 0, 0⟩⟩) (fun i hi => heap_setOtherE (by exact hi) _)
      replace hp1 := pts_keepN (w' := (y0).setCell ⟨w1.heap.size, 2, none⟩ (.slice A1 n1 c1)) hp1 HK1.out (noInt_ch ⟨⟨sdA, x.ds.length, sdc⟩, ⟨A0, n0, c0⟩, ⟨none, 0, 0⟩, ⟨none, 0, 0⟩, ⟨none, 0, 0⟩, ⟨none, 0, 0⟩, ⟨none, 0, 0⟩⟩) (fun i hi => heap_setOtherE (by exact hi) _)
      replace hp2 := pts_keepN (w' := (y0).setCell ⟨w1.heap.size, 2, none⟩ (.slice A1 n1 c1)) hp2 HK1.out (noInt_ch ⟨⟨sdA, x.ds.length, sdc⟩, ⟨A0, n0, c0⟩, ⟨none, 0, 0⟩, ⟨none, 0, 0⟩, ⟨none, 0, 0⟩, ⟨none, 0, 0⟩, ⟨none, 0, 0⟩⟩) (fun i hi => heap_setOtherE (by exact hi) _)
      replace hp3 := pts_keepN (w' := (y0).setCell ⟨w1.heap.size, 2, none⟩ (.slice A1 n1 c1)) hp3 HK1.out (noInt_ch ⟨⟨sdA, x.ds.length, sdc⟩, ⟨A0, n0, c0⟩, ⟨none, 0, 0⟩, ⟨none, 0, 0⟩, ⟨none, 0, 0⟩, ⟨none, 0, 0⟩, ⟨none, 0, 0⟩⟩) (fun i hi => heap_setOtherE (by exact hi) _)
      replace hp4 := pts_keepN (w' := (y0).setCell ⟨w1.heap.size, 2, none⟩ (.slice A1 n1 c1)) hp4 HK1.out (noInt_ch ⟨⟨sdA, x.ds.length, sdc⟩, ⟨A0, n0, c0⟩, ⟨none, 0, 0⟩, ⟨none, 0, 0⟩, ⟨none, 0, 0⟩, ⟨none, 0, 0⟩, ⟨none, 0, 0⟩⟩) (fun i hi => heap_setOtherE (by exact hi) _)
      replace hp5 := pts_keepN (w' := (y0).setCell ⟨w1.heap.size, 2, none⟩ (.slice A1 n1 c1)) hp5 HK1.out (noInt_ch ⟨⟨sdA, x.ds.length, sdc⟩, ⟨A0, n0, c0⟩, ⟨none, 0, 0⟩, ⟨none, 0, 0⟩, ⟨none, 0, 0⟩, ⟨none, 0, 0⟩, ⟨none, 0, 0⟩⟩) (fun i hi => heap_setOtherE (by exact hi) _)
      have HIb := Lib.hid (ints_keepN (w' := (y0).setCell ⟨w1.heap.size, 2, none⟩ (.slice A1 n1 c1)) HIa.out HK1.out (noInt_ch ⟨⟨sdA, x.ds.length, sdc⟩, ⟨A0, n0, c0⟩, ⟨none, 0, 0⟩, ⟨none, 0, 0⟩, ⟨none, 0, 0⟩, ⟨none, 0, 0⟩, ⟨none, 0, 0⟩⟩) (fun i hi => heap_setOtherE (by exact hi) _))
      clear HIa
      have HIa := HIb
      clear HIb HK1
      have hy1 : ((y0).setCell ⟨w1.heap.size, 2, none⟩ (.slice A1 n1 c1)).heap.size = (y0).heap.size := by simp [World.setCell]
      generalize (y0).setCell ⟨w1.heap.size, 2, none⟩ (.slice A1 n1 c1) = y1 at *
      refine wpAnyH_take (i := 28) (v := ?v28) rfl (by kernel_rfl) (by kernel_rfl) (by kernel_rfl) (fun _ _ _ h => h) (Or.inl ⟨by rfl, ?hf28⟩) (by assumption) ?_
      case hf28 => (intro W hSw; (try dsimp only at hSw); go_simp; (try with_reducible rfl))
      try simp only [Act.put, List.getElem_toArray, List.getElem_cons_zero, List.getElem_cons_succ, List.setIfInBounds_toArray, List.set_cons_zero, List.set_cons_succ]
      have k2 := HK2.out.cell 3
      have l2 := HK2.out.frozen 3
      refine wpAnyH_ready (rs := [29]) (by kernel_rfl) (by simp) ?_
      refine AllReadyH.cons rfl (fun K hK => ?_) AllReadyH.nil
      go_simp
      have HK3 : Hid (Blk ((y1).setCell ⟨w1.heap.size, 3, none⟩ (.slice A2 n2 c2)) w1.heap.size 26 #[.slice sdA x.ds.length sdc, .slice A0 n0 c0, .slice A1 n1 c1, .slice A2 n2 c2, .slice none 0 0, .slice none 0 0, .slice none 0 0]) := HK2.out.setCellE 3 _
      refine hK.out _ _ (hHeld.set (C := w1.heap.size) (Nat.le_refl _) (by omega) 3 _) (fun hHeld2 => ?_)
      clear hK K hHeld
      have hHeld := hHeld2
      clear hHeld2 k2 l2
      try simp only [Act.put, List.getElem_toArray, List.getElem_cons_zero, List.getElem_cons_succ, List.setIfInBounds_toArray, List.set_cons_zero, List.set_cons_succ]
      replace hp0 := pts_keepN (w' := (y1).setCell ⟨w1.heap.size, 3, none⟩ (.slice A2 n2 c2)) hp0 HK2.out (noInt_ch ⟨⟨sdA, x.ds.length, sdc⟩, ⟨A0, n0, c0⟩, ⟨A1, n1, c1⟩, ⟨none, 0, 0⟩, ⟨none, 0, 0⟩, ⟨none, 0, 0⟩, ⟨none, 0, 0⟩⟩) (fun i hi => heap_setOtherE (by exact hi) _)
      replace hp1 := pts_keepN (w' := (y1).setCell ⟨w1.heap.size, 3, none⟩ (.slice A2 n2 c2)) hp1 HK2.out (noInt_ch ⟨⟨sdA, x.ds.length, sdc⟩, ⟨A0, n0, c0⟩, ⟨A1, n1, c1⟩, ⟨none, 0, 0⟩, ⟨none, 0, 0⟩, ⟨none, 0, 0⟩, ⟨none, 0, 0⟩⟩) (fun i hi => heap_setOtherE (by exact hi) _)
      replace hp2 := pts_keepN (w' := (y1).setCell ⟨w1.heap.size, 3, none⟩ (.slice A2 n2 c2)) hp2 HK2.out (noInt_ch ⟨⟨sdA, x.ds.length, sdc⟩, ⟨A0, n0, c0⟩, ⟨A1, n1, c1⟩, ⟨none, 0, 0⟩, ⟨none, 0, 0⟩, ⟨none, 0, 0⟩, ⟨none, 0, 0⟩⟩) (fun i hi => heap_setOtherE (by exact hi) _)
      replace hp3 := pts_keepN (w' := (y1).setCell ⟨w1.heap.size, 3, none⟩ (.slice A2 n2 c2)) hp3 HK2.out (noInt_ch ⟨⟨sdA, x.ds.length, sdc⟩, ⟨A0, n0, c0⟩, ⟨A1, n1, c1⟩, ⟨none, 0, 0⟩, ⟨none, 0, 0⟩, ⟨none, 0, 0⟩, ⟨none, 0, 0⟩⟩) (fun i hi => heap_setOtherE (by exact hi) _)
      replace hp4 := pts_keepN (w' := (y1).setCell ⟨w1.heap.size, 3, none⟩ (.slice A2 n2 c2)) hp4 HK2.out (noInt_ch ⟨⟨sdA, x.ds.length, sdc⟩, ⟨A0, n0, c0⟩, ⟨A1, n1, c1⟩, ⟨none, 0, 0⟩, ⟨none, 0, 0⟩, ⟨none, 0, 0⟩, ⟨none, 0, 0⟩⟩) (fun i hi => heap_setOtherE (by exact hi) _)
      replace hp5 := pts_keepN (w' := (y1).setCell ⟨w1.heap.size, 3, none⟩ (.slice A2 n2 c2)) hp5 HK2.out (noInt_ch ⟨⟨sdA, x.ds.length, sdc⟩, ⟨A0, n0, c0⟩, ⟨A1, n1, c1⟩, ⟨none, 0, 0⟩, ⟨none, 0, 0⟩, ⟨none, 0, 0⟩, ⟨none, 0, 0⟩⟩) (fun i hi => heap_setOtherE (by exact hi) _)
      have HIb := Lib.hid (ints_keepN (w' := (y1).setCell ⟨w1.heap.size, 3, none⟩ (.slice A2 n2 c2)) HIa.out HK2.out (noInt_ch ⟨⟨sdA, x.ds.length, sdc⟩, ⟨A0, n0, c0⟩, ⟨A1, n1, c1⟩, ⟨none, 0, 0⟩, ⟨none, 0, 0⟩, ⟨none, 0, 0⟩, ⟨none, 0, 0⟩⟩) (fun i hi => heap_setOtherE (by exact hi) _))
      clear HIa
      have HIa := HIb
      clear HIb HK2
      have hy2 : ((y1).setCell ⟨w1.heap.size, 3, none⟩ (.slice A2 n2 c2)).heap.size = (y1).heap.size := by simp [World.setCell]
      generalize (y1).setCell ⟨w1.heap.size, 3, none⟩ (.slice A2 n2 c2) = y2 at *
      refine wpAnyH_take (i := 30) (v := ?v30) rfl (by kernel_rfl) (by kernel_rfl) (by kernel_rfl) (fun _ _ _ h => h) (Or.inl ⟨by rfl, ?hf30⟩) (by assumption) ?_
      case hf30 => (intro W hSw; (try dsimp only at hSw); go_simp; (try with_reducible rfl))
      try simp only [Act.put, List.getElem_toArray, List.getElem_cons_zero, List.getElem_cons_succ, List.setIfInBounds_toArray, List.set_cons_zero, List.set_cons_succ]
      have k3 := HK3.out.cell 4
      have l3 := HK3.out.frozen 4
      refine wpAnyH_ready (rs := [31]) (by kernel_rfl) (by simp) ?_
      refine AllReadyH.cons rfl (fun K hK => ?_) AllReadyH.nil
      go_simp
      have HK4 : Hid (Blk ((y2).setCell ⟨w1.heap.size, 4, none⟩ (.slice A3 n3 c3)) w1.heap.size 26 #[.slice sdA x.ds.length sdc, .slice A0 n0 c0, .slice A1 n1 c1, .slice A2 n2 c2, .slice A3 n3 c3, .slice none 0 0, .slice none 0 0]) := HK3.out.setCellE 4 _
      refine hK.out _ _ (hHeld.set (C := w1.heap.size) (Nat.le_refl _) (by omega) 4 _) (fun hHeld2 => ?_)
      clear hK K hHeld
      have hHeld := hHeld2
      clear hHeld2 k3 l3
      try simp only [Act.put, List.getElem_toArray, List.getElem_cons_zero, List.getElem_cons_succ, List.setIfInBounds_toArray, List.set_cons_zero, List.set_cons_succ]
      replace hp0 := pts_keepN (w' := (y2).setCell ⟨w1.heap.size, 4, none⟩ (.slice A3 n3 c3)) hp0 HK3.out (noInt_ch ⟨⟨sdA, x.ds.length, sdc⟩, ⟨A0, n0, c0⟩, ⟨A1, n1, c1⟩, ⟨A2, n2, c2⟩, ⟨none, 0, 0⟩, ⟨none, 0, 0⟩, ⟨none, 0, 0⟩⟩) (fun i hi => heap_setOtherE (by exact hi) _)
      replace hp1 := pts_keepN (w' := (y2).setCell ⟨w1.heap.size, 4, none⟩ (.slice A3 n3 c3)) hp1 HK3.out (noInt_ch ⟨⟨sdA, x.ds.length, sdc⟩, ⟨A0, n0, c0⟩, ⟨A1, n1, c1⟩, ⟨A2, n2, c2⟩, ⟨none, 0, 0⟩, ⟨none, 0, 0⟩, ⟨none, 0, 0⟩⟩) (fun i hi => heap_setOtherE (by exact hi) _)
      replace hp2 := pts_keepN (w' := (y2).setCell ⟨w1.heap.size, 4, none⟩ (.slice A3 n3 c3)) hp2 HK3.out (noInt_ch ⟨⟨sdA, x.ds.length, sdc⟩, ⟨A0, n0, c0⟩, ⟨A1, n1, c1⟩, ⟨A2, n2, c2⟩, ⟨none, 0, 0⟩, ⟨none, 0, 0⟩, ⟨none, 0, 0⟩⟩) (fun i hi => heap_setOtherE (by exact hi) _)
      replace hp3 := pts_keepN (w' := (y2).setCell ⟨w1.heap.size, 4, none⟩ (.slice A3 n3 c3)) hp3 HK3.out (noInt_ch ⟨⟨sdA, x.ds.length, sdc⟩, ⟨A0, n0, c0⟩, ⟨A1, n1, c1⟩, ⟨A2, n2, c2⟩, ⟨none, 0, 0⟩, ⟨none, 0, 0⟩, ⟨none, 0, 0⟩⟩) (fun i hi => heap_setOtherE (by exact hi) _)
      replace hp4 := pts_keepN (w' := (y2).setCell ⟨w1.heap.size, 4, none⟩ (.slice A3 n3 c3)) hp4 HK3.out (noInt_ch ⟨⟨sdA, x.ds.length, sdc⟩, ⟨A0, n0, c0⟩, ⟨A1, n1, c1⟩, ⟨A2, n2, c2⟩, ⟨none, 0, 0⟩, ⟨none, 0, 0⟩, ⟨none, 0, 0⟩⟩) (fun i hi => heap_setOtherE (by exact hi) _)
      replace hp5 := pts_keepN (w' := (y2).setCell ⟨w1.heap.size, 4, none⟩ (.slice A3 n3 c3)) hp5 HK3.out (noInt_ch ⟨⟨sdA, x.ds.length, sdc⟩, ⟨A0, n0, c0⟩, ⟨A1, n1, c1⟩, ⟨A2, n2, c2⟩, ⟨none, 0, 0⟩, ⟨none, 0, 0⟩, ⟨none, 0, 0⟩⟩) (fun i hi => heap_setOtherE (by exact hi) _)
      have HIb := Lib.hid (ints_keepN (w' := (y2).setCell ⟨w1.heap.size, 4, none⟩ (.slice A3 n3 c3)) HIa.out HK3.out (noInt_ch ⟨⟨sdA, x.ds.length, sdc⟩, ⟨A0, n0, c0⟩, ⟨A1, n1, c1⟩, ⟨A2, n2, c2⟩, ⟨none, 0, 0⟩, ⟨none, 0, 0⟩, ⟨none, 0, 0⟩⟩) (fun i hi => heap_setOtherE (by exact hi) _))
      clear HIa
      have HIa := HIb
      clear HIb HK3
      have hy3 : ((y2).setCell ⟨w1.heap.size, 4, none⟩ (.slice A3 n3 c3)).heap.size = (y2).heap.size := by simp [World.setCell]
      generalize (y2).setCell ⟨w1.heap.size, 4, none⟩ (.slice A3 n3 c3) = y3 at *
      refine wpAnyH_take (i := 32) (v := ?v32) rfl (by kernel_rfl) (by kernel_rfl) (by kernel_rfl) (fun _ _ _ h => h) (Or.inl ⟨by rfl, ?hf32⟩) (by assumption) ?_
      case hf32 => (intro W hSw; (try dsimp only at hSw); go_simp; (try with_reducible rfl))
      try simp only [Act.put, List.getElem_toArray, List.getElem_cons_zero, List.getElem_cons_succ, List.setIfInBounds_toArray, List.set_cons_zero, List.set_cons_succ]
      have k4 := HK4.out.cell 5
      have l4 := HK4.out.frozen 5
      refine wpAnyH_ready (rs := [33]) (by kernel_rfl) (by simp) ?_
      refine AllReadyH.cons rfl (fun K hK => ?_) AllReadyH.nil
      go_simp
      have HK5 : Hid (Blk ((y3).setCell ⟨w1.heap.size, 5, none⟩ (.slice A4 n4 c4)) w1.heap.size 26 #[.slice sdA x.ds.length sdc, .slice A0 n0 c0, .slice A1 n1 c1, .slice A2 n2 c2, .slice A3 n3 c3, .slice A4 n4 c4, .slice none 0 0]) := HK4.out.setCellE 5 _
      refine hK.out _ _ (hHeld.set (C := w1.heap.size) (Nat.le_refl _) (by omega) 5 _) (fun hHeld2 => ?_)
      clear hK K hHeld
      have hHeld := hHeld2
      clear hHeld2 k4 l4
      try simp only [Act.put, List.getElem_toArray, List.getElem_cons_zero, List.getElem_cons_succ, List.setIfInBounds_toArray, List.set_cons_zero, List.set_cons_succ]
      replace hp0 := pts_keepN (w' := (y3).setCell ⟨w1.heap.size, 5, none⟩ (.slice A4 n4 c4)) hp0 HK4.out (noInt_ch ⟨⟨sdA, x.ds.length, sdc⟩, ⟨A0, n0, c0⟩, ⟨A1, n1, c1⟩, ⟨A2, n2, c2⟩, ⟨A3, n3, c3⟩, ⟨none, 0, 0⟩, ⟨none, 0, 0⟩⟩) (fun i hi => heap_setOtherE (by exact hi) _)
      replace hp1 := pts_keepN (w' := (y3).setCell ⟨w1.heap.size, 5, none⟩ (.slice A4 n4 c4)) hp1 HK4.out (noInt_ch ⟨⟨sdA, x.ds.length, sdc⟩, ⟨A0, n0, c0⟩, ⟨A1, n1, c1⟩, ⟨A2, n2, c2⟩, ⟨A3, n3, c3⟩, ⟨none, 0, 0⟩, ⟨none, 0, 0⟩⟩) (fun i hi => heap_setOtherE (by exact hi) _)
      replace hp2 := pts_keepN (w' := (y3).setCell ⟨w1.heap.size, 5, none⟩ (.slice A4 n4 c4)) hp2 HK4.out (noInt_ch ⟨⟨sdA, x.ds.length, sdc⟩, ⟨A0, n0, c0⟩, ⟨A1, n1, c1⟩, ⟨A2, n2, c2⟩, ⟨A3, n3, c3⟩, ⟨none, 0, 0⟩, ⟨none, 0, 0⟩⟩) (fun i hi => heap_setOtherE (by exact hi) _)
      replace hp3 := pts_keepN (w' := (y3).setCell ⟨w1.heap.size, 5, none⟩ (.slice A4 n4 c4)) hp3 HK4.out (noInt_ch ⟨⟨sdA, x.ds.length, sdc⟩, ⟨A0, n0, c0⟩, ⟨A1, n1, c1⟩, ⟨A2, n2, c2⟩, ⟨A3, n3, c3⟩, ⟨none, 0, 0⟩, ⟨none, 0, 0⟩⟩) (fun i hi => heap_setOtherE (by exact hi) _)
      replace hp4 := pts_keepN (w' := (y3).setCell ⟨w1.heap.size, 5, none⟩ (.slice A4 n4 c4)) hp4 HK4.out (noInt_ch ⟨⟨sdA, x.ds.length, sdc⟩, ⟨A0, n0, c0⟩, ⟨A1, n1, c1⟩, ⟨A2, n2, c2⟩, ⟨A3, n3, c3⟩, ⟨none, 0, 0⟩, ⟨none, 0, 0⟩⟩) (fun i hi => heap_setOtherE (by exact hi) _)
      replace hp5 := pts_keepN (w' := (y3).setCell ⟨w1.heap.size, 5, none⟩ (.slice A4 n4 c4)) hp5 HK4.out (noInt_ch ⟨⟨sdA, x.ds.length, sdc⟩, ⟨A0, n0, c0⟩, ⟨A1, n1, c1⟩, ⟨A2, n2, c2⟩, ⟨A3, n3, c3⟩, ⟨none, 0, 0⟩, ⟨none, 0, 0⟩⟩) (fun i hi => heap_setOtherE (by exact hi) _)
      have HIb := Lib.hid (ints_keepN (w' := (y3).setCell ⟨w1.heap.size, 5, none⟩ (.slice A4 n4 c4)) HIa.out HK4.out (noInt_ch ⟨⟨sdA, x.ds.length, sdc⟩, ⟨A0, n0, c0⟩, ⟨A1, n1, c1⟩, ⟨A2, n2, c2⟩, ⟨A3, n3, c3⟩, ⟨none, 0, 0⟩, ⟨none, 0, 0⟩⟩) (fun i hi => heap_setOtherE (by exact hi) _))
      clear HIa
      have HIa := HIb
      clear HIb HK4
      have hy4 : ((y3).setCell ⟨w1.heap.size, 5, none⟩ (.slice A4 n4 c4)).heap.size = (y3).heap.size := by simp [World.setCell]
      generalize (y3).setCell ⟨w1.heap.size, 5, none⟩ (.slice A4 n4 c4) = y4 at *
      refine wpAnyH_take (i := 34) (v := ?v34) rfl (by kernel_rfl) (by kernel_rfl) (by kernel_rfl) (fun _ _ _ h => h) (Or.inl ⟨by rfl, ?hf34⟩) (by assumption) ?_
      case hf34 => (intro W hSw; (try dsimp only at hSw); go_simp; (try with_reducible rfl))
      try simp only [Act.put, List.getElem_toArray, List.getElem_cons_zero, List.getElem_cons_succ, List.setIfInBounds_toArray, List.set_cons_zero, List.set_cons_succ]
      have k5 := HK5.out.cell 6
      have l5 := HK5.out.frozen 6
      refine wpAnyH_ready (rs := [35]) (by kernel_rfl) (by simp) ?_
      refine AllReadyH.cons rfl (fun K hK => ?_) AllReadyH.nil
      go_simp
      have HK6 : Hid (Blk ((y4).setCell ⟨w1.heap.size, 6, none⟩ (.slice A5 n5 c5)) w1.heap.size 26 #[.slice sdA x.ds.length sdc, .slice A0 n0 c0, .slice A1 n1 c1, .slice A2 n2 c2, .slice A3 n3 c3, .slice A4 n4 c4, .slice A5 n5 c5]) := HK5.out.setCellE 6 _
      refine hK.out _ _ (hHeld.set (C := w1.heap.size) (Nat.le_refl _) (by omega) 6 _) (fun hHeld2 => ?_)
      clear hK K hHeld
      have hHeld := hHeld2
      clear hHeld2 k5 l5
      try simp only [Act.put, List.getElem_toArray, List.getElem_cons_zero, List.getElem_cons_succ, List.setIfInBounds_toArray, List.set_cons_zero, List.set_cons_succ]
      replace hp0 := pts_keepN (w' := (y4).setCell ⟨w1.heap.size, 6, none⟩ (.slice A5 n5 c5)) hp0 HK5.out (noInt_ch ⟨⟨sdA, x.ds.length, sdc⟩, ⟨A0, n0, c0⟩, ⟨A1, n1, c1⟩, ⟨A2, n2, c2⟩, ⟨A3, n3, c3⟩, ⟨A4, n4, c4⟩, ⟨none, 0, 0⟩⟩) (fun i hi => heap_setOtherE (by exact hi) _)
      replace hp1 := pts_keepN (w' := (y4).setCell ⟨w1.heap.size, 6, none⟩ (.slice A5 n5 c5)) hp1 HK5.out (noInt_ch ⟨⟨sdA, x.ds.length, sdc⟩, ⟨A0, n0, c0⟩, ⟨A1, n1, c1⟩, ⟨A2, n2, c2⟩, ⟨A3, n3, c3⟩, ⟨A4, n4, c4⟩, ⟨none, 0, 0⟩⟩) (fun i hi => heap_setOtherE (by exact hi) _)
      replace hp2 := pts_keepN (w' := (y4).setCell ⟨w1.heap.size, 6, none⟩ (.slice A5 n5 c5)) hp2 HK5.out (noInt_ch ⟨⟨sdA, x.ds.length, sdc⟩, ⟨A0, n0, c0⟩, ⟨A1, n1, c1⟩, ⟨A2, n2, c2⟩, ⟨A3, n3, c3⟩, ⟨A4, n4, c4⟩, ⟨none, 0, 0⟩⟩) (fun i hi => heap_setOtherE (by exact hi) _)
      replace hp3 := pts_keepN (w' := (y4).setCell ⟨w1.heap.size, 6, none⟩ (.slice A5 n5 c5)) hp3 HK5.out (noInt_ch ⟨⟨sdA, x.ds.length, sdc⟩, ⟨A0, n0, c0⟩, ⟨A1, n1, c1⟩, ⟨A2, n2, c2⟩, ⟨A3, n3, c3⟩, ⟨A4, n4, c4⟩, ⟨none, 0, 0⟩⟩) (fun i hi => heap_setOtherE (by exact hi) _)
      replace hp4 := pts_keepN (w' := (y4).setCell ⟨w1.heap.size, 6, none⟩ (.slice A5 n5 c5)) hp4 HK5.out (noInt_ch ⟨⟨sdA, x.ds.length, sdc⟩, ⟨A0, n0, c0⟩, ⟨A1, n1, c1⟩, ⟨A2, n2, c2⟩, ⟨A3, n3, c3⟩, ⟨A4, n4, c4⟩, ⟨none, 0, 0⟩⟩) (fun i hi => heap_setOtherE (by exact hi) _)
      replace hp5 := pts_keepN (w' := (y4).setCell ⟨w1.heap.size, 6, none⟩ (.slice A5 n5 c5)) hp5 HK5.out (noInt_ch ⟨⟨sdA, x.ds.length, sdc⟩, ⟨A0, n0, c0⟩, ⟨A1, n1, c1⟩, ⟨A2, n2, c2⟩, ⟨A3, n3, c3⟩, ⟨A4, n4, c4⟩, ⟨none, 0, 0⟩⟩) (fun i hi => heap_setOtherE (by exact hi) _)
      have HIb := Lib.hid (ints_keepN (w' := (y4).setCell ⟨w1.heap.size, 6, none⟩ (.slice A5 n5 c5)) HIa.out HK5.out (noInt_ch ⟨⟨sdA, x.ds.length, sdc⟩, ⟨A0, n0, c0⟩, ⟨A1, n1, c1⟩, ⟨A2, n2, c2⟩, ⟨A3, n3, c3⟩, ⟨A4, n4, c4⟩, ⟨none, 0, 0⟩⟩) (fun i hi => heap_setOtherE (by exact hi) _))
      clear HIa
      have HIa := HIb
      clear HIb HK5
      have hy5 : ((y4).setCell ⟨w1.heap.size, 6, none⟩ (.slice A5 n5 c5)).heap.size = (y4).heap.size := by simp [World.setCell]
      generalize (y4).setCell ⟨w1.heap.size, 6, none⟩ (.slice A5 n5 c5) = y5 at *
      refine wpAnyH_done (by kernel_rfl) ?_ _
      have HCAL : Hid (CalAt y5 y5.heap.size ⟨⟨sdA, x.ds.length, sdc⟩, ⟨A0, n0, c0⟩, ⟨A1, n1, c1⟩, ⟨A2, n2, c2⟩, ⟨A3, n3, c3⟩, ⟨A4, n4, c4⟩, ⟨A5, n5, c5⟩⟩ (calOf x.ds [f0, f1, f2, f3, f4, f5])) := by
        have hsz : y5.heap.size = x5.heap.size := by rw [hy5, hy4, hy3, hy2, hy1, hy0]
        rw [hsz]
        exact calAt_of HIa.out hp0 hp1 hp2 hp3 hp4 hp5
      have HKC : Hid (Blk y5 w1.heap.size 26 (Ch.cells ⟨⟨sdA, x.ds.length, sdc⟩, ⟨A0, n0, c0⟩, ⟨A1, n1, c1⟩, ⟨A2, n2, c2⟩, ⟨A3, n3, c3⟩, ⟨A4, n4, c4⟩, ⟨A5, n5, c5⟩⟩)) := HK6.out
      have HBy := Lib.hid hHeld.2
      have HRy := Lib.hid (HR1.out.below hHeld.2 hRl)
      clear hp0 hp1 hp2 hp3 hp4 hp5 HIa HK6 hHeld hy0 hy1 hy2 hy3 hy4 hy5 HP0 HP1 HP2 HP3 HP4 HP5
      generalize hch : (⟨⟨sdA, x.ds.length, sdc⟩, ⟨A0, n0, c0⟩, ⟨A1, n1, c1⟩, ⟨A2, n2, c2⟩, ⟨A3, n3, c3⟩, ⟨A4, n4, c4⟩, ⟨A5, n5, c5⟩⟩ : Ch) = ch at HCAL HKC
      have HMAY := Lib.hid (MayCal_any ch _ y5 HCAL.out)
      go_wp2_with (refine wpList_load_row rfl 26 (.tmp 5) (by rfl) w1.heap.size (by rfl) 26 ch.cells (0, 0) _ HKC.out Tryz.underlying26 rfl (by kernel_rfl) ?_)
      refine HMAY.out.mono ?_
      rintro e z1 ⟨rfl, hbz⟩
      have HKz := Lib.hid (HKC.out.below hbz HKC.out.lt)
      have HRz := Lib.hid (HRy.out.below hbz (Nat.lt_of_lt_of_le hRl HBy.out.size))
      have HCz := Lib.hid ((HCAL.out.below hbz).wideM hbz.size)
      have HBz := Lib.hid (HB1.out.trans ((HBy.out.trans (hbz.mono HBy.out.size)).mono HB1.out.size))
      clear hbz
      rcases hm : mayC (calOf x.ds [f0, f1, f2, f3, f4, f5]) with _ | _
      · have HN : Hid (parseC s.data.toList = none) := by show _ = _; rw [HPE.out, hm]; rfl
        go_wp2_with (refine wpList_store_row rfl 26 (.tmp 2) (.tmp 113) (by rfl) w.heap.size nilCh.cells (by rfl) (by rfl) 26 nilCh.cells HRz.out (by kernel_rfl) rfl (ch_all _) ?_)
        exact bodyPost_ret (results_cell_tmp (p := 2) (q := 3) rfl _ _ w.heap.size 26 nilCh.cells _ _ rfl rfl (Blk.row HRz.out _) Tryz.underlying26 rfl (by kernel_rfl)) rfl (parseP_no HN.out (below_setRow HBz.out (Nat.le_refl _) _))
      · have HN : Hid (parseC s.data.toList = some (calOf x.ds [f0, f1, f2, f3, f4, f5])) := by show _ = _; rw [HPE.out, hm]; rfl
        go_wp2_with (first | (refine wpList_load_row rfl 26 (.tmp 5) (by rfl) w1.heap.size (by rfl) 26 ch.cells (0, 0) _ HKz.out Tryz.underlying26 rfl (by kernel_rfl) ?_) | (refine wpList_store_row rfl 26 (.tmp 2) (.tmp 114) (by rfl) w.heap.size ch.cells (by rfl) (by rfl) 26 nilCh.cells HRz.out (by kernel_rfl) rfl (ch_all _) ?_))
        refine bodyPost_ret (results_cell_tmp (p := 2) (q := 3) rfl _ _ w.heap.size 26 ch.cells _ _ rfl rfl (Blk.row HRz.out _) Tryz.underlying26 rfl (by kernel_rfl)) rfl ⟨ch, (by rw [HN.out]; rfl), (fun cl hcl => ?_), (fun hn => by rw [HN.out] at hn; cases hn), below_setRow HBz.out (Nat.le_refl _) _⟩
        rw [HN.out] at hcl
        cases hcl
        exact (cal_keepN HCz.out HRz.out (noInt_ch nilCh) (fun i hi => setRow_other _ _ _ _ hi)).wideM (by simp [World.setRow])
end Go.Proofs.YteflddgcddcejaaGreatDoor
