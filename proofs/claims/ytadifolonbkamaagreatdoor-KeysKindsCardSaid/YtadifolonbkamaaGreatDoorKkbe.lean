/- What comes next, by fields: the least number of a part, of a field; the least six numbers; the step to the next day. It speaks of no code. strings.SplitSeq at a blank: its pieces, one after the other. -/
import Derived.Test.YtadifolonbkamaaGreatDoorKkas
import Derived.Test.YtadifolonbkamaaGreatDoorKkaa
import Derived.Test.YtadifolonbkamaaGreatDoorKkae
import Derived.Test.YtadifolonbkamaaGreatDoorKkbd
import Derived.Test.YtadifolonbkamaaGreatDoorKkab
import Derived.RangeFuncNested
import Derived.RangeFuncBound
import Derived.RangeFuncCalls
import Derived.RangeFuncLeaves
import Derived.Shelf.Abstract
import Derived.Shelf.RegionOpen
import Derived.OwnWalkIn
import Derived.TacticsInMore
import Derived.LoopNIn
import Derived.LoopIn
namespace Go.Proofs.YtadifolonbkamaaGreatDoor.Ca
theorem ptAB {f : Nat} {p : Pt} (h : mayP f p = true) : ptA f p ≤ ptB f p ∧ lo f ≤ ptA f p ∧ ptB f p ≤ hi f := by
  have hm := (mayP_iff f p).1 h
  have hl := lo_bd f
  unfold ptA ptB
  split
  · omega
  · split
    · split <;> omega
    · omega
theorem in_range {f : Nat} {p : Pt} {n : Int} (h : mayP f p = true) (hn : inP f p n = true) : lo f ≤ n ∧ n ≤ hi f := by
  have := ptAB h
  have := (inP_iff f p n).1 hn
  omega
theorem inF_range {f : Nat} {l : List Pt} {n : Int} (h : mayF f l = true) (hn : inF f l n = true) : lo f ≤ n ∧ n ≤ hi f := by
  unfold inF at hn
  rw [List.any_eq_true] at hn
  obtain ⟨p, hp, hi⟩ := hn
  exact in_range (((mayF_iff f l).1 h).2 p hp) hi
/-- Six numbers. -/
structure Six where
  y : Int
  m : Int
  d : Int
  h : Int
  i : Int
  s : Int
def Six.at (v : Six) : Nat → Int
  | 0 => v.y
  | 1 => v.m
  | 2 => v.d
  | 3 => v.h
  | 4 => v.i
  | _ => v.s
def Six.le (v u : Six) : Prop := v.y < u.y ∨ v.y = u.y ∧ (v.m < u.m ∨ v.m = u.m ∧ (v.d < u.d ∨ v.d = u.d ∧ (v.h < u.h ∨ v.h = u.h ∧ (v.i < u.i ∨ v.i = u.i ∧ v.s ≤ u.s))))
theorem Six.le_refl (v : Six) : v.le v := by unfold Six.le; omega
theorem Six.le_trans {a b c : Six} (h : a.le b) (h' : b.le c) : a.le c := by unfold Six.le at *; omega
/-- Does each field have its number? -/
def Six.good (c : Cl) (v : Six) : Prop := inF 0 c.yr v.y = true ∧ inF 1 c.mo v.m = true ∧ inF 2 c.dy v.d = true ∧ inF 3 c.hr v.h = true ∧ inF 4 c.mi v.i = true ∧ inF 5 c.se v.s = true
/-- Numbers within what the loop may hold. -/
def Six.bd (v : Six) : Prop := 0 ≤ v.y ∧ v.y ≤ 2200 ∧ 0 ≤ v.m ∧ v.m ≤ 2200 ∧ 0 ≤ v.d ∧ v.d ≤ 2200 ∧ 0 ≤ v.h ∧ v.h ≤ 2200 ∧ 0 ≤ v.i ∧ v.i ≤ 2200 ∧ 0 ≤ v.s ∧ v.s ≤ 2200
/-- How far they are from the end. -/
def Six.far (v : Six) : Nat := (2201 * (2201 * (2201 * (2201 * (2201 * (2200 - v.y) + (2200 - v.m)) + (2200 - v.d)) + (2200 - v.h)) + (2200 - v.i)) + (2200 - v.s)).toNat
/-- One field's number set, those behind it at nought. -/
def Six.set (v : Six) (f : Nat) (x : Int) : Six :=
  match f with
  | 0 => ⟨x, 0, 0, 0, 0, 0⟩
  | 1 => ⟨v.y, x, 0, 0, 0, 0⟩
  | 2 => ⟨v.y, v.m, x, 0, 0, 0⟩
  | 3 => ⟨v.y, v.m, v.d, x, 0, 0⟩
  | 4 => ⟨v.y, v.m, v.d, v.h, x, 0⟩
  | _ => ⟨v.y, v.m, v.d, v.h, v.i, x⟩
/-- The fields ahead of f have their numbers. -/
def Six.upto (c : Cl) (v : Six) (f : Nat) : Prop := ∀ j, j < f → j < 6 → inF j (c.fld j) (v.at j) = true
theorem Six.good.at_ {c : Cl} {v : Six} (h : v.good c) {f : Nat} (hf : f < 6) : inF f (c.fld f) (v.at f) = true := by
  obtain ⟨a, b, e, g, i, j⟩ := h
  have : f = 0 ∨ f = 1 ∨ f = 2 ∨ f = 3 ∨ f = 4 ∨ f = 5 := by omega
  rcases this with rfl | rfl | rfl | rfl | rfl | rfl
  · exact a
  · exact b
  · exact e
  · exact g
  · exact i
  · exact j
theorem mayC_fld {c : Cl} (h : mayC c = true) {f : Nat} (hf : f < 6) : mayF f (c.fld f) = true := by
  obtain ⟨_, a, b, e, g, i, j⟩ := (mayC_iff c).1 h
  have : f = 0 ∨ f = 1 ∨ f = 2 ∨ f = 3 ∨ f = 4 ∨ f = 5 := by omega
  rcases this with rfl | rfl | rfl | rfl | rfl | rfl
  · exact a
  · exact b
  · exact e
  · exact g
  · exact i
  · exact j
theorem Six.good.nn {c : Cl} (hc : mayC c = true) {u : Six} (h : u.good c) : 0 ≤ u.y ∧ 0 ≤ u.m ∧ 0 ≤ u.d ∧ 0 ≤ u.h ∧ 0 ≤ u.i ∧ 0 ≤ u.s := by
  have b : ∀ f, f < 6 → 0 ≤ u.at f := fun f hf => by
    have h1 := inF_range (mayC_fld hc hf) (h.at_ hf)
    have h2 := (lo_bd f).1
    omega
  exact ⟨b 0 (by omega), b 1 (by omega), b 2 (by omega), b 3 (by omega), b 4 (by omega), b 5 (by omega)⟩
/-- What the search keeps: v is not before n0, and no good one between. -/
structure Adv (c : Cl) (n0 v : Six) (f : Nat) : Prop where
  bd : v.bd
  ahead : v.upto c f
  ge : n0.le v
  least : ∀ u : Six, u.good c → n0.le u → v.le u
section
variable {c : Cl} {n0 v : Six} {f : Nat}
theorem six_f (h : f < 6) : f = 0 ∨ f = 1 ∨ f = 2 ∨ f = 3 ∨ f = 4 ∨ f = 5 := by omega
/-- The field has its number already. -/
theorem Adv.next (h : Adv c n0 v f) (hi : inF f (c.fld f) (v.at f) = true) : Adv c n0 v (f + 1) :=
  ⟨h.bd, fun j hj h6 => by
    by_cases e : j = f
    · rw [e]; exact hi
    · exact h.ahead j (by omega) h6, h.ge, h.least⟩
/-- The field has a later one. -/
theorem Adv.later (hc : mayC c = true) (h : Adv c n0 v f) (hf : f < 6) {m : Int} (h1 : v.at f < m) (hm : m ≤ 2200) (hi : inF f (c.fld f) m = true) (hl : ∀ k, v.at f ≤ k → inF f (c.fld f) k = true → m ≤ k) : Adv c n0 (v.set f m) (f + 1) := by
  obtain ⟨hb, ha, hg, hle⟩ := h
  have key : ∀ u : Six, u.good c → n0.le u → (v.set f m).le u := by
    intro u hu hn
    have a1 := hle u hu hn
    have a2 : v.at f ≤ u.at f → m ≤ u.at f := fun hh => hl _ hh (hu.at_ hf)
    have a3 := hu.nn hc
    clear hl hle ha hg hi hu hn
    unfold Six.le Six.bd at *
    rcases six_f hf with rfl | rfl | rfl | rfl | rfl | rfl <;> simp only [Six.at, Six.set] at * <;> omega
  refine ⟨?_, ?_, ?_, key⟩
  · clear key hl hle ha hg hi
    unfold Six.bd at *
    rcases six_f hf with rfl | rfl | rfl | rfl | rfl | rfl <;> simp only [Six.at, Six.set] at * <;> omega
  · intro j hj h6
    by_cases e : j = f
    · subst e
      have : (v.set j m).at j = m := by rcases six_f hf with rfl | rfl | rfl | rfl | rfl | rfl <;> rfl
      rw [this]; exact hi
    · have hjf : j < f := by omega
      have : (v.set f m).at j = v.at j := by
        rcases six_f hf with rfl | rfl | rfl | rfl | rfl | rfl <;> rcases six_f h6 with rfl | rfl | rfl | rfl | rfl | rfl <;> first | rfl | (exfalso; omega)
      rw [this]; exact ha j hjf h6
  · refine Six.le_trans hg ?_
    clear key hl hle ha hg hi
    unfold Six.le
    rcases six_f hf with rfl | rfl | rfl | rfl | rfl | rfl <;> simp only [Six.at, Six.set, true_and] at * <;> omega
/-- The first field has none: there are none. -/
theorem Adv.none_ (h : Adv c n0 v 0) (hi : ∀ k, v.y ≤ k → inF 0 c.yr k = false) (u : Six) (hu : u.good c) : ¬ n0.le u := by
  intro hn
  have a1 := h.least u hu hn
  have a2 : ¬ v.y ≤ u.y := fun hh => by have := hi _ hh; rw [hu.1] at this; cases this
  unfold Six.le at a1
  omega
end
/-- A second's six numbers. -/
noncomputable def sixOf (t : Int) : Six := ⟨fY t, fM t, fD t, fH t, fI t, fS t⟩
theorem numsB_good (c : Cl) (t : Int) : numsB c t = true ↔ (sixOf t).good c := by
  unfold numsB Six.good sixOf
  simp only [Bool.and_eq_true]
theorem six_range {t : Int} (h : isT t = true) : 2000 ≤ fY t ∧ fY t ≤ 2199 ∧ 1 ≤ fM t ∧ fM t ≤ 12 ∧ 1 ≤ fD t ∧ fD t ≤ 31 ∧ 0 ≤ fH t ∧ fH t ≤ 23 ∧ 0 ≤ fI t ∧ fI t ≤ 59 ∧ 0 ≤ fS t ∧ fS t ≤ 59 := by
  obtain ⟨⟨a, b, c, d, e, f⟩, h0, h1, m0, m1, s0, s1, _, _⟩ := date_of h
  have := (dim_bd (fY t) (fM t) c d).2
  omega
theorem match_six {c : Cl} {t : Int} (h : matchB c t = true) : isT t = true ∧ dayB c.ds (fW t) = true ∧ (sixOf t).good c := by
  obtain ⟨_, h2, h3, h4⟩ := (matchB_iff c t).1 h
  exact ⟨h2, h3, (numsB_good c t).1 h4⟩
/-- What the search over the days keeps: x is the first second, v the numbers reached. -/
structure Nxt (c : Cl) (x : Int) (v : Six) : Prop where
  ge : (sixOf x).le v
  least : ∀ s, x ≤ s → matchB c s = true → v.le (sixOf s)
/-- The next day's first numbers. -/
def Six.tom (v : Six) : Six := ⟨v.y, v.m, v.d + 1, 0, 0, 0⟩
/-- Is it a second, with a day that may be? -/
noncomputable def hitB (c : Cl) (v : Six) : Bool := toOk v.y v.m v.d v.h v.i v.s && dayB c.ds (fW (toN v.y v.m v.d v.h v.i v.s))
theorem Nxt.miss {c : Cl} {x : Int} {v : Six} (hc : mayC c = true) (h : Nxt c x v) (hg : v.good c) (hno : hitB c v = false) : ∀ s, x ≤ s → matchB c s = true → v.tom.le (sixOf s) := by
  intro s hs hm
  have hl := h.least s hs hm
  obtain ⟨hT, hD, hG⟩ := match_six hm
  have hr := six_range hT
  by_cases e : v.y = fY s ∧ v.m = fM s ∧ v.d = fD s
  · exfalso
    obtain ⟨e1, e2, e3⟩ := e
    have hday : isDayB v.y v.m v.d = true := by rw [isDayB_iff, e1, e2, e3]; exact (date_of hT).day
    have r : ∀ f, f < 6 → lo f ≤ v.at f ∧ v.at f ≤ hi f := fun f hf => inF_range (mayC_fld hc hf) (hg.at_ hf)
    have r3 := r 3 (by omega)
    have r4 := r 4 (by omega)
    have r5 := r 5 (by omega)
    have hcl : isClB v.h v.i v.s = true := (isClB_iff _ _ _).2 ⟨r3.1, r3.2, r4.1, r4.2, r5.1, r5.2⟩
    have ho : toOk v.y v.m v.d v.h v.i v.s = true := by unfold toOk; rw [hday, hcl]; rfl
    have hw : fW (toN v.y v.m v.d v.h v.i v.s) = fW s := by
      rw [(date_eq (to_date ho)).2.2.2.2.2.2.2, (date_of hT).w_eq, e1, e2, e3]
    unfold hitB at hno
    rw [ho, hw, hD] at hno
    cases hno
  · unfold Six.le Six.tom sixOf at *
    simp only at *
    omega
theorem Nxt.more {c : Cl} {x : Int} {v v' : Six} (h : Nxt c x v) (hm : ∀ s, x ≤ s → matchB c s = true → v.tom.le (sixOf s)) (h1 : v.tom.le v') (h2 : ∀ u : Six, u.good c → v.tom.le u → v'.le u) : Nxt c x v' :=
  ⟨Six.le_trans h.ge (Six.le_trans (by unfold Six.le Six.tom; simp only [true_and]; omega) h1), fun s hs hM => h2 _ (match_six hM).2.2 (hm s hs hM)⟩
end Go.Proofs.YtadifolonbkamaaGreatDoor.Ca
namespace Go.Proofs.YtadifolonbkamaaGreatDoor.Ca
open Go.RowKit
attribute [local go_sem] Oper.semAt_some
theorem sgo_none (l w : List UInt8) (h : ∀ c ∈ l, c ≠ 44) : sgo 44 w l = [w ++ l] := by
  induction l generalizing w with
  | nil => simp [sgo]
  | cons c l ih =>
    rw [sgo, if_neg (h c (by simp)), ih _ (fun x hx => h x (by simp [hx]))]
    simp
theorem sgo_some (a b w : List UInt8) (h : ∀ c ∈ a, c ≠ 44) : sgo 44 w (a ++ 44 :: b) = (w ++ a) :: sgo 44 [] b := by
  induction a generalizing w with
  | nil => simp [sgo]
  | cons c a ih =>
    rw [List.cons_append, sgo, if_neg (h c (by simp)), ih _ (fun x hx => h x (by simp [hx]))]
    simp
/-- The pieces of a text. -/
def piecesS (s : ByteArray) : List ByteArray := (sgo 44 [] s.data.toList).map str
theorem pieces_none {s : ByteArray} (h : Lib.indexByte s.data.toList 44 = -1) : piecesS s = [s] := by
  have h1 := Lib.indexByte_none h
  unfold piecesS
  rw [sgo_none _ _ (fun c hc e => by
    obtain ⟨k, hk, rfl⟩ := List.getElem_of_mem hc
    exact h1 k (by rw [List.getElem?_eq_getElem hk, e]))]
  simp [str_data]
theorem pieces_some {s : ByteArray} {i : Nat} (h : Lib.indexByte s.data.toList 44 = i) : i < s.size ∧ piecesS s = s.extract 0 i :: piecesS (s.extract (i + 1) s.size) := by
  obtain ⟨h1, h2⟩ := Lib.indexByte_some h
  obtain ⟨hi, h3⟩ := List.getElem?_eq_some_iff.1 h1
  have hi' : i < s.size := by simpa using hi
  refine ⟨hi', ?_⟩
  unfold piecesS
  have e : s.data.toList = s.data.toList.take i ++ 44 :: s.data.toList.drop (i + 1) := by
    conv => lhs; rw [← List.take_append_drop i s.data.toList, List.drop_eq_getElem_cons hi, h3]
  rw [tail_list]
  conv => lhs; rw [e]
  rw [sgo_some _ _ _ (fun c hc e => by
    obtain ⟨k, hk, rfl⟩ := List.getElem_of_mem hc
    have hk' : k < i := by rw [List.length_take] at hk; omega
    refine h2 k hk' ?_
    rw [List.getElem_take] at e
    rw [List.getElem?_eq_getElem (by omega), e])]
  rw [List.map_cons, List.nil_append]
  congr 1
  refine (eq_str.2 ?_).symm
  rw [Lib.extract_data]
  simp
theorem pieces_size (l w : List UInt8) : ∀ p ∈ sgo 44 w l, p.length ≤ w.length + l.length := by
  induction l generalizing w with
  | nil => intro p hp; rw [sgo, List.mem_singleton] at hp; rw [hp]; simp
  | cons c l ih =>
    intro p hp
    rw [sgo] at hp
    split at hp
    · rcases List.mem_cons.1 hp with hp | hp
      · rw [hp]; simp
      · have := ih [] p hp; simp at this ⊢; omega
    · have := ih _ p hp; simp at this ⊢; omega
theorem piece_size {s x : ByteArray} (h : x ∈ piecesS s) : x.size ≤ s.size := by
  unfold piecesS at h
  obtain ⟨p, hp, rfl⟩ := List.mem_map.1 h
  have := pieces_size _ _ p hp
  rw [str_size]
  simpa using this
/-- How long the text is that is still to be parted. -/
def leftOf (C : Nat) (W : World) : Nat := match W.cell? ⟨C, 0, none⟩ with | some (.string t) => t.size | _ => 0
theorem leftOf_eq {C : Nat} {W : World} {t : ByteArray} (h : W.cell? ⟨C, 0, none⟩ = some (.string t)) : leftOf C W = t.size := by unfold leftOf; rw [h]
structure SplitAt (C : Nat) (t : ByteArray) (W : World) : Prop where
  b0 : W.heap[C]? = some (.cells #[.string t] 9 (0, 0))
  b1 : W.heap[C + 1]? = some (.cells #[.string ⟨#[44]⟩] 9 (0, 0))
  b2 : W.heap[C + 2]? = some (.cells #[.int .i64 0] 3 (0, 0))
theorem SplitAt.cells {C : Nat} {t : ByteArray} {W : World} (h : SplitAt C t W) : W.cell? ⟨C, 0, none⟩ = some (.string t) ∧ W.frozen? ⟨C, 0, none⟩ = false ∧ W.cell? ⟨C + 1, 0, none⟩ = some (.string ⟨#[44]⟩) ∧ W.cell? ⟨C + 2, 0, none⟩ = some (.int .i64 0) := by
  obtain ⟨b0, b1, b2⟩ := h
  exact ⟨Boxed.cell b0, Boxed.frozen b0, Boxed.cell b1, Boxed.cell b2⟩
theorem SplitAt.kept {C : Nat} {t : ByteArray} {W W' : World} (h : SplitAt C t W) (k : Kept C (C + 3) W W') : SplitAt C t W' :=
  ⟨(k C (by omega) (by omega)).trans h.b0, (k (C + 1) (by omega) (by omega)).trans h.b1, (k (C + 2) (by omega) (by omega)).trans h.b2⟩
theorem SplitAt.below {C B : Nat} {t : ByteArray} {W W' : World} (h : SplitAt C t W) (k : Below B W W') (hB : C + 3 ≤ B) : SplitAt C t W' :=
  ⟨(k.block C (by omega)).trans h.b0, (k.block (C + 1) (by omega)).trans h.b1, (k.block (C + 2) (by omega)).trans h.b2⟩
theorem SplitAt.set_ {C : Nat} {t : ByteArray} {W : World} (h : SplitAt C t W) (u : ByteArray) : SplitAt C u (W.setCell ⟨C, 0, none⟩ (.string u)) :=
  ⟨Boxed.set _ h.b0, (Below.heap_setCell W ⟨C, 0, none⟩ _ (C + 1) (by simp)).trans h.b1, (Below.heap_setCell W ⟨C, 0, none⟩ _ (C + 2) (by simp)).trans h.b2⟩
set_option maxRecDepth 100000 in
set_option maxHeartbeats 4000000 in
theorem split_seq (n : Nat) (hn : 1 ≤ n) (C : Nat) (s : ByteArray) (hs : s.size ≤ maxLen) (w : World) (hC : C + 3 ≤ w.heap.size) (h : SplitAt C s w) :
    SeqC Fence.wide n Tryz.prog 124 #[.pointer (some ⟨C + 1, 0, none⟩), .pointer (some ⟨C, 0, none⟩), .pointer (some ⟨C + 2, 0, none⟩)] (fun x => .string x) C (C + 3) (piecesS s) w := by
  unfold maxLen at hs
  intro l J Jx W hW hJ hJx hY h0
  have h1 := h.below hW hC
  refine callsIn_of_wp Tryz.func124 rfl trivial ?_ rfl
  simp only [Tryz.ntmps124, List.size_toArray, List.length_cons, List.length_nil, Nat.reduceAdd, Nat.reduceSub, Array.replicate_succ, Array.replicate_zero, List.push_toArray, List.append_toArray, List.nil_append, List.cons_append]
  obtain ⟨c0, f0, c1, c2⟩ := h1.cells
  have H1 := Lib.hid h1
  clear h1
  gi_wp2
  gi_loopw [7] (fun v wr => ∃ (pre : List ByteArray) (rest : ByteArray), rest.size ≤ s.size ∧ Hid (piecesS s = pre ++ piecesS rest) ∧ Hid (SplitAt C rest wr) ∧ Hid (J pre wr)) (fun v wr => leftOf C wr)
  case atStart => exact ⟨[], s, Nat.le_refl _, rfl, H1, h0⟩
  case round =>
    obtain ⟨pre, rest, hle, hp, hat, hj⟩ := hrel
    obtain ⟨d0, g0, d1, d2⟩ := hat.out.cells
    have hidx := Lib.indexByte_ge rest.data.toList 44
    by_cases hix : Lib.indexByte rest.data.toList 44 = -1
    · have hps := pieces_none hix
      obtain ⟨fn, tmps, assign, body, hy, hR⟩ := hY pre rest [] wr (by rw [hp.out, hps]) hj.out
      have HX := Lib.hid hix
      have HP := Lib.hid (hp.out.trans (by rw [hps]))
      clear hix hps hidx
      gi_wp2_with (refine ⟨trivial, ?_⟩; gi_at_call 126; refine (callsIn_wide.2 (Tryz.strings_Index_one _ _ _)).mono ?_; rintro e w' ⟨rfl, rfl⟩; rw [HX.out])
      refine hR.mono ?_
      rintro e W' (⟨rfl, hJ', hk⟩ | ⟨rfl, hJx'⟩)
      · gi_wp2
        go_end0
        exact ⟨⟨_, rfl⟩, .inl (by rw [HP.out]; exact hJ')⟩
      · gi_wp2
        go_end0
        exact ⟨⟨_, rfl⟩, .inr ⟨_, ⟨[], by rw [HP.out]; simp⟩, hJx'⟩⟩
    · obtain ⟨i, hi⟩ : ∃ i : Nat, Lib.indexByte rest.data.toList 44 = i := ⟨(Lib.indexByte rest.data.toList 44).toNat, by omega⟩
      obtain ⟨hlt, hps⟩ := pieces_some hi
      obtain ⟨fn, tmps, assign, body, hy, hR⟩ := hY pre (rest.extract 0 i) (piecesS (rest.extract (i + 1) rest.size)) wr (by rw [hp.out, hps]) hj.out
      have HX := Lib.hid hi
      have HP := Lib.hid (hp.out.trans (by rw [hps]))
      clear hix hps hidx hi
      have k0 : (0 : Int) ≤ (i : Int) := by omega
      have k1 : (i : Int) ≤ (rest.size : Int) := by omega
      have k2 : (0 : Int) ≤ (i : Int) + 1 := by omega
      have k3 : (i : Int) + 1 ≤ (rest.size : Int) := by omega
      gi_wp2_with (refine ⟨trivial, ?_⟩; gi_at_call 126; refine (callsIn_wide.2 (Tryz.strings_Index_one _ _ _)).mono ?_; rintro e w' ⟨rfl, rfl⟩; rw [HX.out])
      refine hR.mono ?_
      rintro e W' (⟨rfl, hJ', hk⟩ | ⟨rfl, hJx'⟩)
      · have hat' := hat.out.kept hk
        obtain ⟨m0, m1, m2, m3⟩ := hat'.cells
        have Hset := Lib.hid (hat'.set_ (rest.extract (i + 1) rest.size))
        have HJ2 := Lib.hid (hJ _ _ _ hJ' (grownBy_setCell' W' C (.string (rest.extract (i + 1) rest.size))))
        have hsz : (rest.extract (i + 1) rest.size).size = rest.size - (i + 1) := by rw [ByteArray.size_extract]; omega
        have hl0 := leftOf_eq d0
        have hl1 := leftOf_eq Hset.out.cells.1
        rw [hsz] at hl1
        have hle2 : (rest.extract (i + 1) rest.size).size ≤ s.size := by omega
        have HL0 := Lib.hid hl0
        have HL1 := Lib.hid hl1
        clear hat' hl0 hl1 hsz hJ' hk
        gi_wp2
        go_roundw
        case rel => exact ⟨pre ++ [rest.extract 0 i], rest.extract (i + 1) rest.size, hle2, Lib.hid (by rw [HP.out]; simp), Hset, HJ2⟩
        case measure => rw [HL0.out, HL1.out]; omega
      · gi_wp2
        refine bodyPost_ret (results_none rfl _ _ _) rfl ?_
        exact ⟨⟨_, rfl⟩, .inr ⟨_, ⟨piecesS (rest.extract (i + 1) rest.size), by rw [HP.out]; simp⟩, hJx'⟩⟩
end Go.Proofs.YtadifolonbkamaaGreatDoor.Ca
