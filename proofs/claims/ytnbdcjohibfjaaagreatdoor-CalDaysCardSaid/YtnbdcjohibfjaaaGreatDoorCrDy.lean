/- The walk of the law CalDays. -/
import Derived.Test.YtnbdcjohibfjaaaGreatDoorCqY
import Derived.Test.YtnbdcjohibfjaaaGreatDoorCrS
namespace Go.Proofs.YtnbdcjohibfjaaaGreatDoor
open Go.RowKit

theorem calAt_days {W : World} {B : Nat} {c : Ch} {l : Cl} (h : CalAt W B c l) (s : Sl) (ds : List Int) (hi : IntsAt W B s.A s.n ds) : CalAt W B { c with d := s } { l with ds := ds } :=
  ⟨hi, fun f => match f with
    | 0 => h.2 0
    | 1 => h.2 1
    | 2 => h.2 2
    | 3 => h.2 3
    | 4 => h.2 4
    | 5 => h.2 5
    | (f + 6) => h.2 (f + 6)⟩
theorem ints_seven {W : World} {B : Nat} (h : Blk W B 3 #[.int .i64 1, .int .i64 2, .int .i64 3, .int .i64 4, .int .i64 5, .int .i64 6, .int .i64 7]) : IntsAt W W.heap.size (some ⟨B, 0, none⟩) 7 [1, 2, 3, 4, 5, 6, 7] := by
  refine ⟨rfl, by unfold maxLen; decide, rfl, fun _ => ⟨_, rfl, h.lt, fun j u hj => ?_⟩⟩
  have e : (⟨B, 0, none⟩ : Addr).add j = ⟨B, j, none⟩ := by unfold Addr.add; split <;> simp_all
  rw [e, h.cell j, ← hj]
  match j with
  | 0 | 1 | 2 | 3 | 4 | 5 | 6 => rfl
  | (j + 7) => rfl
/-- What stands while the copies are asked. -/
def DayS (w : World) (c ce cf : Ch) (B1 B2 B3 : Nat) (W : World) : Prop :=
  Blk W w.heap.size 26 c.cells ∧ Blk W B1 26 ce.cells ∧ Blk W B2 26 cf.cells ∧ Blk W B3 3 #[.int .i64 1, .int .i64 2, .int .i64 3, .int .i64 4, .int .i64 5, .int .i64 6, .int .i64 7] ∧ Below w.heap.size w W
theorem DayS.drew {w W : World} {c ce cf : Ch} {B1 B2 B3 : Nat} (h : DayS w c ce cf B1 B2 B3 W) : DayS w c ce cf B1 B2 B3 W.drew := ⟨h.1, h.2.1, h.2.2.1, h.2.2.2.1, h.2.2.2.2.drew⟩
theorem DayS.call {w W W' : World} {c ce cf : Ch} {B1 B2 B3 : Nat} (h : DayS w c ce cf B1 B2 B3 W) (hb : Below W.heap.size W W') : DayS w c ce cf B1 B2 B3 W' :=
  ⟨h.1.below hb h.1.lt, h.2.1.below hb h.2.1.lt, h.2.2.1.below hb h.2.2.1.lt, h.2.2.2.1.below hb h.2.2.2.1.lt, more3 h.2.2.2.2 h.2.2.2.2.size hb⟩
theorem DayS.below {w W : World} {c ce cf : Ch} {B1 B2 B3 : Nat} (h : DayS w c ce cf B1 B2 B3 W) : Below w.heap.size w W := h.2.2.2.2
noncomputable def dateC (t : Int) : Array Value := #[.int .i64 (fY t), .int .i64 (fM t), .int .i64 (fD t), .int .i64 (fH t), .int .i64 (fI t), .int .i64 (fS t), .int .i64 (fW t)]
theorem date_all (t : Int) : (dateC t).all (·.oneCell') = true := one7 _ _ _ _ _ _ _
/-- Has one of the first k days been it? -/
def hasD (ds : List Int) (x : Int) (k : Nat) : Bool := ds.isEmpty || (ds.take k).contains x
theorem hasD_succ {ds : List Int} {x y : Int} {k : Nat} (h : ds[k]? = some y) : hasD ds x (k + 1) = (hasD ds x k || (y == x)) := by
  unfold hasD
  rw [List.take_add_one, h]
  have e : (ds.take k ++ [y]).contains x = ((ds.take k).contains x || (y == x)) := by
    rw [Bool.eq_iff_iff, Bool.or_eq_true, List.contains_iff_mem, List.contains_iff_mem, List.mem_append, List.mem_singleton, beq_iff_eq]
    exact ⟨fun h => h.imp id Eq.symm, fun h => h.imp id Eq.symm⟩
  show (ds.isEmpty || (ds.take k ++ [y]).contains x) = _
  rw [e, Bool.or_assoc]
theorem hasD_all {ds : List Int} {x : Int} {k : Nat} (h : ds.length ≤ k) : hasD ds x k = dayB ds x := by
  unfold hasD dayB
  rw [List.take_of_length_le h]
theorem hasD_zero (ds : List Int) (x : Int) : hasD ds x 0 = ((ds.length : Int) == 0) := by
  unfold hasD
  cases ds with
  | nil => rfl
  | cons a t => simp; omega

set_option maxRecDepth 100000 in
set_option maxHeartbeats 40000000 in
theorem CalDays_any (c : Ch) (l : Cl) (t : Int) (w : World) (htab : TabM w) (hc : CalAt w w.heap.size c l) :
    Calls Tryz.prog 9 #[.agg c.cells, .int .i64 t] w fun e w' => e = .returned (.bool true) ∧ Below w.heap.size w w' := by
  have HT := Lib.hid htab
  have HC := Lib.hid hc
  clear htab hc
  go_enter Tryz.func9, Tryz.ntmps9
  go_wp2_with fail
  refine (shown4_any _ (HT.out.below ((Below.refl _ _).alloc (Nat.le_refl _) _))).mono ?_
  rintro e w1 ⟨rfl, hq1⟩
  have HK1 : Hid (Blk w1 w.heap.size 26 c.cells) := (Blk.new w _ _).below hq1 (by simp)
  have HB1 := Lib.hid (more3 ((Below.refl w.heap.size w).alloc (Nat.le_refl _) _) (by simp) hq1)
  clear hq1
  go_wp2_with fail
  refine (Of_any t _).mono ?_
  rintro e w2 ⟨rfl, hq2⟩
  have HK2 := Lib.hid (HK1.out.below hq2 HK1.out.lt)
  have HB2 := Lib.hid (more3 HB1.out HB1.out.size hq2)
  clear hq2 HK1 HB1
  have HZ0 : Hid (Blk (w2.alloc (.cells #[.int .i64 0, .int .i64 0, .int .i64 0, .int .i64 0, .int .i64 0, .int .i64 0, .int .i64 0] 39)) w2.heap.size 39 #[.int .i64 0, .int .i64 0, .int .i64 0, .int .i64 0, .int .i64 0, .int .i64 0, .int .i64 0]) := Blk.new w2 _ _
  have hb3 : Below w2.heap.size w2 ((w2.alloc (.cells #[.int .i64 0, .int .i64 0, .int .i64 0, .int .i64 0, .int .i64 0, .int .i64 0, .int .i64 0] 39)).setRow w2.heap.size (dateC t)) := below_setRow ((Below.refl _ _).alloc (Nat.le_refl _) _) (Nat.le_refl _) _
  have HD3 : Hid (Blk ((w2.alloc (.cells #[.int .i64 0, .int .i64 0, .int .i64 0, .int .i64 0, .int .i64 0, .int .i64 0, .int .i64 0] 39)).setRow w2.heap.size (dateC t)) w2.heap.size 39 (dateC t)) := HZ0.out.row _
  have HK3 : Hid (Blk ((w2.alloc (.cells #[.int .i64 0, .int .i64 0, .int .i64 0, .int .i64 0, .int .i64 0, .int .i64 0, .int .i64 0] 39)).setRow w2.heap.size (dateC t)) w.heap.size 26 c.cells) := HK2.out.below hb3 HK2.out.lt
  have HB3 : Hid (Below w.heap.size w ((w2.alloc (.cells #[.int .i64 0, .int .i64 0, .int .i64 0, .int .i64 0, .int .i64 0, .int .i64 0, .int .i64 0] 39)).setRow w2.heap.size (dateC t))) := more3 HB2.out HB2.out.size hb3
  clear hb3
  go_wp2_with (first | (refine wpList_store_row rfl 39 (.tmp 5) (.tmp 17) (by rfl) w2.heap.size (dateC t) (by rfl) (by rfl) 39 #[.int .i64 0, .int .i64 0, .int .i64 0, .int .i64 0, .int .i64 0, .int .i64 0, .int .i64 0] HZ0.out (by kernel_rfl) rfl (date_all t) ?_; generalize ((w2.alloc (.cells #[.int .i64 0, .int .i64 0, .int .i64 0, .int .i64 0, .int .i64 0, .int .i64 0, .int .i64 0] 39)).setRow w2.heap.size (dateC t)) = w3 at *) | (refine wpList_load_row rfl 26 (.tmp 2) (by rfl) w.heap.size (by rfl) 26 c.cells (0, 0) _ HK3.out Tryz.underlying26 rfl (by kernel_rfl) ?_))
  refine (Match_any c l t _ (HT.out.below HB3.out).t (HC.out.at_ HB3.out)).mono ?_
  rintro e w4 ⟨rfl, hq4⟩
  have HK4 := Lib.hid (HK3.out.below hq4 HK3.out.lt)
  have HD4 := Lib.hid (HD3.out.below hq4 HD3.out.lt)
  have HB4 := Lib.hid (more3 HB3.out HB3.out.size hq4)
  clear hq4 HK3 HB3 HD3 HK2 HB2 HZ0
  cases hmt : matchB l t with
  | false =>
    have HK := HK4
    have HB := HB4
    clear HK4 HB4 HD4
    generalize w4 = wa at *
    have HD0 : Hid (Blk (wa.alloc (.cells #[.slice none 0 0, .slice none 0 0, .slice none 0 0, .slice none 0 0, .slice none 0 0, .slice none 0 0, .slice none 0 0] 26)) wa.heap.size 26 nilCh.cells) := Blk.new wa _ _
    have hb1 : Below wa.heap.size wa ((wa.alloc (.cells #[.slice none 0 0, .slice none 0 0, .slice none 0 0, .slice none 0 0, .slice none 0 0, .slice none 0 0, .slice none 0 0] 26)).setRow wa.heap.size c.cells) := below_setRow ((Below.refl _ _).alloc (Nat.le_refl _) _) (Nat.le_refl _) _
    have HE1 : Hid (Blk ((wa.alloc (.cells #[.slice none 0 0, .slice none 0 0, .slice none 0 0, .slice none 0 0, .slice none 0 0, .slice none 0 0, .slice none 0 0] 26)).setRow wa.heap.size c.cells) wa.heap.size 26 c.cells) := HD0.out.row _
    have HK1 : Hid (Blk ((wa.alloc (.cells #[.slice none 0 0, .slice none 0 0, .slice none 0 0, .slice none 0 0, .slice none 0 0, .slice none 0 0, .slice none 0 0] 26)).setRow wa.heap.size c.cells) w.heap.size 26 c.cells) := HK.out.below hb1 HK.out.lt
    have HB5 : Hid (Below w.heap.size w ((wa.alloc (.cells #[.slice none 0 0, .slice none 0 0, .slice none 0 0, .slice none 0 0, .slice none 0 0, .slice none 0 0, .slice none 0 0] 26)).setRow wa.heap.size c.cells)) := more3 HB.out HB.out.size hb1
    have HS1 : Hid (((wa.alloc (.cells #[.slice none 0 0, .slice none 0 0, .slice none 0 0, .slice none 0 0, .slice none 0 0, .slice none 0 0, .slice none 0 0] 26)).setRow wa.heap.size c.cells).heap.size = wa.heap.size + 1) := by show _ = _; rw [size_row]; simp
    have h0a : w.heap.size < wa.heap.size := HK.out.lt
    clear hb1
    go_wp2_with (first
      | (refine wpList_load_row rfl 26 (.tmp 2) (by rfl) w.heap.size (by rfl) 26 c.cells (0, 0) _ HK.out Tryz.underlying26 rfl (by kernel_rfl) ?_)
      | (refine wpList_store_row rfl 26 (.tmp 10) (.tmp 50) (by rfl) wa.heap.size c.cells (by rfl) (by rfl) 26 nilCh.cells HD0.out (by kernel_rfl) rfl (ch_all _) ?_; generalize ((wa.alloc (.cells #[.slice none 0 0, .slice none 0 0, .slice none 0 0, .slice none 0 0, .slice none 0 0, .slice none 0 0, .slice none 0 0] 26)).setRow wa.heap.size c.cells) = w5 at *; have k5 : w5.cell? ⟨wa.heap.size, 0, none⟩ = some (.slice c.d.A c.d.n c.d.c) := HE1.out.cell 0; have f5 : w5.frozen? ⟨wa.heap.size, 0, none⟩ = false := HE1.out.frozen 0; have HE2 : Hid (Blk (w5.setCell ⟨wa.heap.size, 0, none⟩ (.slice none 0 0)) wa.heap.size 26 ({ c with d := ⟨none, 0, 0⟩ } : Ch).cells) := HE1.out.setCell 0 _; have HK2 : Hid (Blk (w5.setCell ⟨wa.heap.size, 0, none⟩ (.slice none 0 0)) w.heap.size 26 c.cells) := HK1.out.setOther (a := ⟨wa.heap.size, 0, none⟩) (Nat.ne_of_lt h0a) _; have HB6 : Hid (Below w.heap.size w (w5.setCell ⟨wa.heap.size, 0, none⟩ (.slice none 0 0))) := HB5.out.setCell (p := ⟨wa.heap.size, 0, none⟩) (Nat.le_of_lt h0a) _; have HN0 : Hid (Blk ((w5.setCell ⟨wa.heap.size, 0, none⟩ (.slice none 0 0)).alloc (.cells #[.slice none 0 0, .slice none 0 0, .slice none 0 0, .slice none 0 0, .slice none 0 0, .slice none 0 0, .slice none 0 0] 26)) w5.heap.size 26 nilCh.cells) := (show Blk _ _ _ _ from by have hx := Blk.new (w5.setCell ⟨wa.heap.size, 0, none⟩ (.slice none 0 0)) 26 nilCh.cells; rw [size_cell] at hx; exact hx))
      | (refine wpList_load_row rfl 26 (.tmp 2) (by rfl) w.heap.size (by rfl) 26 c.cells (0, 0) _ HK2.out Tryz.underlying26 rfl (by kernel_rfl) ?_)
      | (refine wpList_store_row rfl 26 (.tmp 11) (.tmp 52) (by rfl) w5.heap.size c.cells (by rfl) (by rfl) 26 nilCh.cells HN0.out (by kernel_rfl) rfl (ch_all _) ?_; have HE3 : Hid (Blk (((w5.setCell ⟨wa.heap.size, 0, none⟩ (.slice none 0 0)).alloc (.cells #[.slice none 0 0, .slice none 0 0, .slice none 0 0, .slice none 0 0, .slice none 0 0, .slice none 0 0, .slice none 0 0] 26)).setRow w5.heap.size c.cells) wa.heap.size 26 ({ c with d := ⟨none, 0, 0⟩ } : Ch).cells) := (HE2.out.alloc _).setRowOther (by have := HS1.out; omega) _; have HK3 : Hid (Blk (((w5.setCell ⟨wa.heap.size, 0, none⟩ (.slice none 0 0)).alloc (.cells #[.slice none 0 0, .slice none 0 0, .slice none 0 0, .slice none 0 0, .slice none 0 0, .slice none 0 0, .slice none 0 0] 26)).setRow w5.heap.size c.cells) w.heap.size 26 c.cells) := (HK2.out.alloc _).setRowOther (by have := HS1.out; omega) _; have HF3 : Hid (Blk (((w5.setCell ⟨wa.heap.size, 0, none⟩ (.slice none 0 0)).alloc (.cells #[.slice none 0 0, .slice none 0 0, .slice none 0 0, .slice none 0 0, .slice none 0 0, .slice none 0 0, .slice none 0 0] 26)).setRow w5.heap.size c.cells) w5.heap.size 26 c.cells) := HN0.out.row _; have HB7 : Hid (Below w.heap.size w (((w5.setCell ⟨wa.heap.size, 0, none⟩ (.slice none 0 0)).alloc (.cells #[.slice none 0 0, .slice none 0 0, .slice none 0 0, .slice none 0 0, .slice none 0 0, .slice none 0 0, .slice none 0 0] 26)).setRow w5.heap.size c.cells)) := below_setRow (HB6.out.alloc HB6.out.size _) (by have := HS1.out; omega) _; have HS3 : Hid ((((w5.setCell ⟨wa.heap.size, 0, none⟩ (.slice none 0 0)).alloc (.cells #[.slice none 0 0, .slice none 0 0, .slice none 0 0, .slice none 0 0, .slice none 0 0, .slice none 0 0, .slice none 0 0] 26)).setRow w5.heap.size c.cells).heap.size = w5.heap.size + 1) := (show _ = _ from by rw [size_row]; simp); generalize (((w5.setCell ⟨wa.heap.size, 0, none⟩ (.slice none 0 0)).alloc (.cells #[.slice none 0 0, .slice none 0 0, .slice none 0 0, .slice none 0 0, .slice none 0 0, .slice none 0 0, .slice none 0 0] 26)).setRow w5.heap.size c.cells) = w6 at *; clear k5 f5; have k6 : (w6.alloc (.cells #[.int .i64 1, .int .i64 2, .int .i64 3, .int .i64 4, .int .i64 5, .int .i64 6, .int .i64 7] 3)).cell? ⟨w5.heap.size, 0, none⟩ = some (.slice c.d.A c.d.n c.d.c) := (HF3.out.alloc _).cell 0; have f6 : (w6.alloc (.cells #[.int .i64 1, .int .i64 2, .int .i64 3, .int .i64 4, .int .i64 5, .int .i64 6, .int .i64 7] 3)).frozen? ⟨w5.heap.size, 0, none⟩ = false := (HF3.out.alloc _).frozen 0; have k7 : w6.cell? ⟨w5.heap.size, 0, none⟩ = some (.slice c.d.A c.d.n c.d.c) := HF3.out.cell 0; have f7 : w6.frozen? ⟨w5.heap.size, 0, none⟩ = false := HF3.out.frozen 0))
    have hwl : w.heap.size ≤ w6.heap.size := HB7.out.size
    have HR : Hid (DayS w c ({ c with d := ⟨none, 0, 0⟩ } : Ch) ({ c with d := ⟨some ⟨w6.heap.size, 0, none⟩, 7, 7⟩ } : Ch) wa.heap.size w5.heap.size w6.heap.size ((w6.alloc (.cells #[.int .i64 1, .int .i64 2, .int .i64 3, .int .i64 4, .int .i64 5, .int .i64 6, .int .i64 7] 3)).setCell ⟨w5.heap.size, 0, none⟩ (.slice (some ⟨w6.heap.size, 0, none⟩) 7 7))) := ⟨(HK3.out.alloc _).setOther (a := ⟨w5.heap.size, 0, none⟩) (by have := HS1.out; show w.heap.size ≠ w5.heap.size; omega) _, (HE3.out.alloc _).setOther (a := ⟨w5.heap.size, 0, none⟩) (by have := HS1.out; show wa.heap.size ≠ w5.heap.size; omega) _, (HF3.out.alloc _).setCell 0 _, (Blk.new w6 _ _).setOther (a := ⟨w5.heap.size, 0, none⟩) (by have := HS3.out; show w6.heap.size ≠ w5.heap.size; omega) _, (HB7.out.alloc hwl _).setCell (p := ⟨w5.heap.size, 0, none⟩) (by have := HS1.out; show w.heap.size ≤ w5.heap.size; omega) _⟩
    have HMC : Hid (∀ W, DayS w c ({ c with d := ⟨none, 0, 0⟩ } : Ch) ({ c with d := ⟨some ⟨w6.heap.size, 0, none⟩, 7, 7⟩ } : Ch) wa.heap.size w5.heap.size w6.heap.size W → Calls Tryz.prog 21 #[.agg c.cells, .int .i64 t] W fun e w' => e = .returned (.bool false) ∧ Below W.heap.size W w') := fun W h => by
      have hx := Match_any c l t W (HT.out.below h.below).t (HC.out.at_ h.below)
      rw [hmt] at hx
      exact hx
    obtain ⟨me, hme⟩ : ∃ me, matchB { l with ds := [] } t = me := ⟨_, rfl⟩
    have HME : Hid (∀ W, DayS w c ({ c with d := ⟨none, 0, 0⟩ } : Ch) ({ c with d := ⟨some ⟨w6.heap.size, 0, none⟩, 7, 7⟩ } : Ch) wa.heap.size w5.heap.size w6.heap.size W → Calls Tryz.prog 21 #[.agg ({ c with d := ⟨none, 0, 0⟩ } : Ch).cells, .int .i64 t] W fun e w' => e = .returned (.bool me) ∧ Below W.heap.size W w') := fun W h => by
      have hx := Match_any ({ c with d := ⟨none, 0, 0⟩ } : Ch) { l with ds := [] } t W (HT.out.below h.below).t (calAt_days (HC.out.at_ h.below) ⟨none, 0, 0⟩ [] ⟨rfl, Nat.zero_le _, Reads.none_⟩)
      rw [hme] at hx
      exact hx
    have HMF : Hid (∀ W, DayS w c ({ c with d := ⟨none, 0, 0⟩ } : Ch) ({ c with d := ⟨some ⟨w6.heap.size, 0, none⟩, 7, 7⟩ } : Ch) wa.heap.size w5.heap.size w6.heap.size W → Calls Tryz.prog 21 #[.agg ({ c with d := ⟨some ⟨w6.heap.size, 0, none⟩, 7, 7⟩ } : Ch).cells, .int .i64 t] W fun e w' => e = .returned (.bool me) ∧ Below W.heap.size W w') := fun W h => by
      have hx := Match_any ({ c with d := ⟨some ⟨w6.heap.size, 0, none⟩, 7, 7⟩ } : Ch) { l with ds := [1, 2, 3, 4, 5, 6, 7] } t W (HT.out.below h.below).t (calAt_days (HC.out.at_ h.below) ⟨some ⟨w6.heap.size, 0, none⟩, 7, 7⟩ [1, 2, 3, 4, 5, 6, 7] (ints_seven h.2.2.2.1))
      rw [← days_all, hme] at hx
      exact hx
    have hR := HR.out
    clear k6 f6 k7 f7
    clear HE3 HK3 HF3 HB7 HS3 HS1 HD0 HE1 HK1 HB5 HE2 HK2 HB6 HN0
    cases me with
    | false =>
      refine wp_region_held_drew (S := fun W => DayS w c ({ c with d := ⟨none, 0, 0⟩ } : Ch) ({ c with d := ⟨some ⟨w6.heap.size, 0, none⟩, 7, 7⟩ } : Ch) wa.heap.size w5.heap.size w6.heap.size W) (by kernel_rfl) ?_ (fun hHeld => ?_)
      · exact hR.drew
      refine wpAnyH_take (i := 0) (v := .agg ({ c with d := ⟨none, 0, 0⟩ } : Ch).cells) rfl (by kernel_rfl) (by kernel_rfl) (by kernel_rfl) (fun _ _ _ h => h) (Or.inl ⟨by rfl, ?hy0F⟩) (by assumption) ?_
      case hy0F => (intro W hSw; exact load_yields _ _ (.tmp 10) (by rfl) (by rfl) hSw.2.1 rfl)
      try simp only [Act.put, List.getElem_toArray, List.getElem_cons_zero, List.setIfInBounds_toArray, List.set_cons_zero, List.set_cons_succ]
      refine wpAnyH_take (i := 1) (v := ?v1F) rfl (by kernel_rfl) (by kernel_rfl) (by kernel_rfl) (fun _ _ _ h => h) (Or.inl ⟨by rfl, ?hy1F⟩) (by assumption) ?_
      case hy1F => (intro w hSw; (try dsimp only at hSw); go_simp; (try with_reducible rfl))
      try simp only [Act.put, List.getElem_toArray, List.getElem_cons_zero, List.getElem_cons_succ, List.setIfInBounds_toArray, List.set_cons_zero, List.set_cons_succ]
      refine wpAnyH_take (i := 3) (v := .agg ({ c with d := ⟨some ⟨w6.heap.size, 0, none⟩, 7, 7⟩ } : Ch).cells) rfl (by kernel_rfl) (by kernel_rfl) (by kernel_rfl) (fun _ _ _ h => h) (Or.inl ⟨by rfl, ?hy3F⟩) (by assumption) ?_
      case hy3F => (intro W hSw; exact load_yields _ _ (.tmp 11) (by rfl) (by rfl) hSw.2.2.1 rfl)
      try simp only [Act.put, List.getElem_toArray, List.getElem_cons_zero, List.getElem_cons_succ, List.setIfInBounds_toArray, List.set_cons_zero, List.set_cons_succ]
      refine wpAnyH_take (i := 4) (v := ?v4F) rfl (by kernel_rfl) (by kernel_rfl) (by kernel_rfl) (fun _ _ _ h => h) (Or.inl ⟨by rfl, ?hy4F⟩) (by assumption) ?_
      case hy4F => (intro w hSw; (try dsimp only at hSw); go_simp; (try with_reducible rfl))
      try simp only [Act.put, List.getElem_toArray, List.getElem_cons_zero, List.getElem_cons_succ, List.setIfInBounds_toArray, List.set_cons_zero, List.set_cons_succ]
      refine wpAnyH_ready (rs := [2]) (by kernel_rfl) (by simp) ?_
      refine AllReadyH.cons rfl (fun K hK => ?_) AllReadyH.nil
      go_simp
      (refine (HME.out _ (by exact hHeld)).mono ?_; rintro e wq1 ⟨rfl, hbq1⟩)
      refine hK.out _ _ ?_ (fun hHeld2 => ?_)
      · exact hHeld.call hbq1
      clear hK K hHeld hbq1
      have hHeld := hHeld2
      clear hHeld2
      try simp only [Act.put, List.getElem_toArray, List.getElem_cons_zero, List.getElem_cons_succ, List.setIfInBounds_toArray, List.set_cons_zero, List.set_cons_succ]
      refine wpAnyH_ready (rs := [5]) (by kernel_rfl) (by simp) ?_
      refine AllReadyH.cons rfl (fun K hK => ?_) AllReadyH.nil
      go_simp
      (refine (HMF.out _ (by exact hHeld)).mono ?_; rintro e wq2 ⟨rfl, hbq2⟩)
      refine hK.out _ _ ?_ (fun hHeld2 => ?_)
      · exact hHeld.call hbq2
      clear hK K hHeld hbq2
      have hHeld := hHeld2
      clear hHeld2
      try simp only [Act.put, List.getElem_toArray, List.getElem_cons_zero, List.getElem_cons_succ, List.setIfInBounds_toArray, List.set_cons_zero, List.set_cons_succ]
      refine wpAnyH_take (i := 6) (v := ?v6F) rfl (by kernel_rfl) (by kernel_rfl) (by kernel_rfl) (fun _ _ _ h => h) (Or.inl ⟨by rfl, ?hy6F⟩) (by assumption) ?_
      case hy6F => (intro w hSw; (try dsimp only at hSw); go_simp; (try with_reducible rfl))
      try simp only [Act.put, List.getElem_toArray, List.getElem_cons_zero, List.getElem_cons_succ, List.setIfInBounds_toArray, List.set_cons_zero, List.set_cons_succ]
      refine wpAnyH_take (i := 7) (v := ?v7F) rfl (by kernel_rfl) (by kernel_rfl) (by kernel_rfl) (fun _ _ _ h => h) (Or.inl ⟨by rfl, ?hy7F⟩) (by assumption) ?_
      case hy7F => (intro w hSw; (try dsimp only at hSw); go_simp; (try with_reducible rfl))
      try simp only [Act.put, List.getElem_toArray, List.getElem_cons_zero, List.getElem_cons_succ, List.setIfInBounds_toArray, List.set_cons_zero, List.set_cons_succ]
      refine wpAnyH_take (i := 8) (v := .agg c.cells) rfl (by kernel_rfl) (by kernel_rfl) (by kernel_rfl) (fun _ _ _ h => h) (Or.inl ⟨by rfl, ?hy8F⟩) (by assumption) ?_
      case hy8F => (intro W hSw; exact load_yields _ _ (.tmp 2) (by rfl) (by rfl) hSw.1 rfl)
      try simp only [Act.put, List.getElem_toArray, List.getElem_cons_zero, List.getElem_cons_succ, List.setIfInBounds_toArray, List.set_cons_zero, List.set_cons_succ]
      refine wpAnyH_take (i := 9) (v := ?v9F) rfl (by kernel_rfl) (by kernel_rfl) (by kernel_rfl) (fun _ _ _ h => h) (Or.inl ⟨by rfl, ?hy9F⟩) (by assumption) ?_
      case hy9F => (intro w hSw; (try dsimp only at hSw); go_simp; (try with_reducible rfl))
      try simp only [Act.put, List.getElem_toArray, List.getElem_cons_zero, List.getElem_cons_succ, List.setIfInBounds_toArray, List.set_cons_zero, List.set_cons_succ]
      refine wpAnyH_ready (rs := [10]) (by kernel_rfl) (by simp) ?_
      refine AllReadyH.cons rfl (fun K hK => ?_) AllReadyH.nil
      go_simp
      (refine (HMC.out _ (by exact hHeld)).mono ?_; rintro e wq3 ⟨rfl, hbq3⟩)
      refine hK.out _ _ ?_ (fun hHeld2 => ?_)
      · exact hHeld.call hbq3
      clear hK K hHeld hbq3
      have hHeld := hHeld2
      clear hHeld2
      try simp only [Act.put, List.getElem_toArray, List.getElem_cons_zero, List.getElem_cons_succ, List.setIfInBounds_toArray, List.set_cons_zero, List.set_cons_succ]
      refine wpAnyH_take (i := 11) (v := ?v11F) rfl (by kernel_rfl) (by kernel_rfl) (by kernel_rfl) (fun _ _ _ h => h) (Or.inl ⟨by rfl, ?hy11F⟩) (by assumption) ?_
      case hy11F => (intro w hSw; (try dsimp only at hSw); go_simp; (try with_reducible rfl))
      try simp only [Act.put, List.getElem_toArray, List.getElem_cons_zero, List.getElem_cons_succ, List.setIfInBounds_toArray, List.set_cons_zero, List.set_cons_succ]
      refine wpAnyH_take (i := 12) (v := ?v12F) rfl (by kernel_rfl) (by kernel_rfl) (by kernel_rfl) (fun _ _ _ h => h) (Or.inl ⟨by rfl, ?hy12F⟩) (by assumption) ?_
      case hy12F => (intro w hSw; (try dsimp only at hSw); go_simp; (try with_reducible rfl))
      try simp only [Act.put, List.getElem_toArray, List.getElem_cons_zero, List.getElem_cons_succ, List.setIfInBounds_toArray, List.set_cons_zero, List.set_cons_succ]
      refine wpAnyH_take (i := 13) (v := undef) rfl (by kernel_rfl) (by kernel_rfl) (by kernel_rfl) (fun _ _ _ h => h) (Or.inr ⟨by rfl, rfl⟩) (by assumption) ?_
      try simp only [Act.put, List.getElem_toArray, List.getElem_cons_zero, List.getElem_cons_succ, List.setIfInBounds_toArray, List.set_cons_zero, List.set_cons_succ]
      refine wpAnyH_take (i := 14) (v := undef) rfl (by kernel_rfl) (by kernel_rfl) (by kernel_rfl) (fun _ _ _ h => h) (Or.inr ⟨by rfl, rfl⟩) (by assumption) ?_
      try simp only [Act.put, List.getElem_toArray, List.getElem_cons_zero, List.getElem_cons_succ, List.setIfInBounds_toArray, List.set_cons_zero, List.set_cons_succ]
      refine wpAnyH_take (i := 15) (v := undef) rfl (by kernel_rfl) (by kernel_rfl) (by kernel_rfl) (fun _ _ _ h => h) (Or.inr ⟨by rfl, rfl⟩) (by assumption) ?_
      try simp only [Act.put, List.getElem_toArray, List.getElem_cons_zero, List.getElem_cons_succ, List.setIfInBounds_toArray, List.set_cons_zero, List.set_cons_succ]
      refine wpAnyH_take (i := 16) (v := ?v16F) rfl (by kernel_rfl) (by kernel_rfl) (by kernel_rfl) (fun _ _ _ h => h) (Or.inl ⟨by rfl, ?hy16F⟩) (by assumption) ?_
      case hy16F => (intro w hSw; (try dsimp only at hSw); go_simp; (try with_reducible rfl))
      try simp only [Act.put, List.getElem_toArray, List.getElem_cons_zero, List.getElem_cons_succ, List.setIfInBounds_toArray, List.set_cons_zero, List.set_cons_succ]
      refine wpAnyH_take (i := 17) (v := ?v17F) rfl (by kernel_rfl) (by kernel_rfl) (by kernel_rfl) (fun _ _ _ h => h) (Or.inl ⟨by rfl, ?hy17F⟩) (by assumption) ?_
      case hy17F => (intro w hSw; (try dsimp only at hSw); go_simp; (try with_reducible rfl))
      try simp only [Act.put, List.getElem_toArray, List.getElem_cons_zero, List.getElem_cons_succ, List.setIfInBounds_toArray, List.set_cons_zero, List.set_cons_succ]
      refine wpAnyH_take (i := 18) (v := ?v18F) rfl (by kernel_rfl) (by kernel_rfl) (by kernel_rfl) (fun _ _ _ h => h) (Or.inl ⟨by rfl, ?hy18F⟩) (by assumption) ?_
      case hy18F => (intro w hSw; (try dsimp only at hSw); go_simp; (try with_reducible rfl))
      try simp only [Act.put, List.getElem_toArray, List.getElem_cons_zero, List.getElem_cons_succ, List.setIfInBounds_toArray, List.set_cons_zero, List.set_cons_succ]
      refine wpAnyH_done (by kernel_rfl) ?_ _
      have HBz : Hid (Below w.heap.size w _) := hHeld.below
      go_wp2_with fail
      go_ret
      exact ⟨rfl, HBz.out⟩
    | true =>
      refine wp_region_held_drew (S := fun W => DayS w c ({ c with d := ⟨none, 0, 0⟩ } : Ch) ({ c with d := ⟨some ⟨w6.heap.size, 0, none⟩, 7, 7⟩ } : Ch) wa.heap.size w5.heap.size w6.heap.size W) (by kernel_rfl) ?_ (fun hHeld => ?_)
      · exact hR.drew
      refine wpAnyH_take (i := 0) (v := .agg ({ c with d := ⟨none, 0, 0⟩ } : Ch).cells) rfl (by kernel_rfl) (by kernel_rfl) (by kernel_rfl) (fun _ _ _ h => h) (Or.inl ⟨by rfl, ?hy0G⟩) (by assumption) ?_
      case hy0G => (intro W hSw; exact load_yields _ _ (.tmp 10) (by rfl) (by rfl) hSw.2.1 rfl)
      try simp only [Act.put, List.getElem_toArray, List.getElem_cons_zero, List.setIfInBounds_toArray, List.set_cons_zero, List.set_cons_succ]
      refine wpAnyH_take (i := 1) (v := ?v1G) rfl (by kernel_rfl) (by kernel_rfl) (by kernel_rfl) (fun _ _ _ h => h) (Or.inl ⟨by rfl, ?hy1G⟩) (by assumption) ?_
      case hy1G => (intro w hSw; (try dsimp only at hSw); go_simp; (try with_reducible rfl))
      try simp only [Act.put, List.getElem_toArray, List.getElem_cons_zero, List.getElem_cons_succ, List.setIfInBounds_toArray, List.set_cons_zero, List.set_cons_succ]
      refine wpAnyH_take (i := 3) (v := .agg ({ c with d := ⟨some ⟨w6.heap.size, 0, none⟩, 7, 7⟩ } : Ch).cells) rfl (by kernel_rfl) (by kernel_rfl) (by kernel_rfl) (fun _ _ _ h => h) (Or.inl ⟨by rfl, ?hy3G⟩) (by assumption) ?_
      case hy3G => (intro W hSw; exact load_yields _ _ (.tmp 11) (by rfl) (by rfl) hSw.2.2.1 rfl)
      try simp only [Act.put, List.getElem_toArray, List.getElem_cons_zero, List.getElem_cons_succ, List.setIfInBounds_toArray, List.set_cons_zero, List.set_cons_succ]
      refine wpAnyH_take (i := 4) (v := ?v4G) rfl (by kernel_rfl) (by kernel_rfl) (by kernel_rfl) (fun _ _ _ h => h) (Or.inl ⟨by rfl, ?hy4G⟩) (by assumption) ?_
      case hy4G => (intro w hSw; (try dsimp only at hSw); go_simp; (try with_reducible rfl))
      try simp only [Act.put, List.getElem_toArray, List.getElem_cons_zero, List.getElem_cons_succ, List.setIfInBounds_toArray, List.set_cons_zero, List.set_cons_succ]
      refine wpAnyH_ready (rs := [2]) (by kernel_rfl) (by simp) ?_
      refine AllReadyH.cons rfl (fun K hK => ?_) AllReadyH.nil
      go_simp
      (refine (HME.out _ (by exact hHeld)).mono ?_; rintro e wq1 ⟨rfl, hbq1⟩)
      refine hK.out _ _ ?_ (fun hHeld2 => ?_)
      · exact hHeld.call hbq1
      clear hK K hHeld hbq1
      have hHeld := hHeld2
      clear hHeld2
      try simp only [Act.put, List.getElem_toArray, List.getElem_cons_zero, List.getElem_cons_succ, List.setIfInBounds_toArray, List.set_cons_zero, List.set_cons_succ]
      refine wpAnyH_ready (rs := [5]) (by kernel_rfl) (by simp) ?_
      refine AllReadyH.cons rfl (fun K hK => ?_) AllReadyH.nil
      go_simp
      (refine (HMF.out _ (by exact hHeld)).mono ?_; rintro e wq2 ⟨rfl, hbq2⟩)
      refine hK.out _ _ ?_ (fun hHeld2 => ?_)
      · exact hHeld.call hbq2
      clear hK K hHeld hbq2
      have hHeld := hHeld2
      clear hHeld2
      try simp only [Act.put, List.getElem_toArray, List.getElem_cons_zero, List.getElem_cons_succ, List.setIfInBounds_toArray, List.set_cons_zero, List.set_cons_succ]
      refine wpAnyH_take (i := 6) (v := ?v6G) rfl (by kernel_rfl) (by kernel_rfl) (by kernel_rfl) (fun _ _ _ h => h) (Or.inl ⟨by rfl, ?hy6G⟩) (by assumption) ?_
      case hy6G => (intro w hSw; (try dsimp only at hSw); go_simp; (try with_reducible rfl))
      try simp only [Act.put, List.getElem_toArray, List.getElem_cons_zero, List.getElem_cons_succ, List.setIfInBounds_toArray, List.set_cons_zero, List.set_cons_succ]
      refine wpAnyH_take (i := 7) (v := ?v7G) rfl (by kernel_rfl) (by kernel_rfl) (by kernel_rfl) (fun _ _ _ h => h) (Or.inl ⟨by rfl, ?hy7G⟩) (by assumption) ?_
      case hy7G => (intro w hSw; (try dsimp only at hSw); go_simp; (try with_reducible rfl))
      try simp only [Act.put, List.getElem_toArray, List.getElem_cons_zero, List.getElem_cons_succ, List.setIfInBounds_toArray, List.set_cons_zero, List.set_cons_succ]
      refine wpAnyH_take (i := 8) (v := .agg c.cells) rfl (by kernel_rfl) (by kernel_rfl) (by kernel_rfl) (fun _ _ _ h => h) (Or.inl ⟨by rfl, ?hy8G⟩) (by assumption) ?_
      case hy8G => (intro W hSw; exact load_yields _ _ (.tmp 2) (by rfl) (by rfl) hSw.1 rfl)
      try simp only [Act.put, List.getElem_toArray, List.getElem_cons_zero, List.getElem_cons_succ, List.setIfInBounds_toArray, List.set_cons_zero, List.set_cons_succ]
      refine wpAnyH_take (i := 9) (v := ?v9G) rfl (by kernel_rfl) (by kernel_rfl) (by kernel_rfl) (fun _ _ _ h => h) (Or.inl ⟨by rfl, ?hy9G⟩) (by assumption) ?_
      case hy9G => (intro w hSw; (try dsimp only at hSw); go_simp; (try with_reducible rfl))
      try simp only [Act.put, List.getElem_toArray, List.getElem_cons_zero, List.getElem_cons_succ, List.setIfInBounds_toArray, List.set_cons_zero, List.set_cons_succ]
      refine wpAnyH_ready (rs := [10]) (by kernel_rfl) (by simp) ?_
      refine AllReadyH.cons rfl (fun K hK => ?_) AllReadyH.nil
      go_simp
      (refine (HMC.out _ (by exact hHeld)).mono ?_; rintro e wq3 ⟨rfl, hbq3⟩)
      refine hK.out _ _ ?_ (fun hHeld2 => ?_)
      · exact hHeld.call hbq3
      clear hK K hHeld hbq3
      have hHeld := hHeld2
      clear hHeld2
      try simp only [Act.put, List.getElem_toArray, List.getElem_cons_zero, List.getElem_cons_succ, List.setIfInBounds_toArray, List.set_cons_zero, List.set_cons_succ]
      refine wpAnyH_take (i := 11) (v := ?v11G) rfl (by kernel_rfl) (by kernel_rfl) (by kernel_rfl) (fun _ _ _ h => h) (Or.inl ⟨by rfl, ?hy11G⟩) (by assumption) ?_
      case hy11G => (intro w hSw; (try dsimp only at hSw); go_simp; (try with_reducible rfl))
      try simp only [Act.put, List.getElem_toArray, List.getElem_cons_zero, List.getElem_cons_succ, List.setIfInBounds_toArray, List.set_cons_zero, List.set_cons_succ]
      refine wpAnyH_take (i := 12) (v := ?v12G) rfl (by kernel_rfl) (by kernel_rfl) (by kernel_rfl) (fun _ _ _ h => h) (Or.inl ⟨by rfl, ?hy12G⟩) (by assumption) ?_
      case hy12G => (intro w hSw; (try dsimp only at hSw); go_simp; (try with_reducible rfl))
      try simp only [Act.put, List.getElem_toArray, List.getElem_cons_zero, List.getElem_cons_succ, List.setIfInBounds_toArray, List.set_cons_zero, List.set_cons_succ]
      refine wpAnyH_take (i := 13) (v := undef) rfl (by kernel_rfl) (by kernel_rfl) (by kernel_rfl) (fun _ _ _ h => h) (Or.inr ⟨by rfl, rfl⟩) (by assumption) ?_
      try simp only [Act.put, List.getElem_toArray, List.getElem_cons_zero, List.getElem_cons_succ, List.setIfInBounds_toArray, List.set_cons_zero, List.set_cons_succ]
      refine wpAnyH_take (i := 14) (v := undef) rfl (by kernel_rfl) (by kernel_rfl) (by kernel_rfl) (fun _ _ _ h => h) (Or.inr ⟨by rfl, rfl⟩) (by assumption) ?_
      try simp only [Act.put, List.getElem_toArray, List.getElem_cons_zero, List.getElem_cons_succ, List.setIfInBounds_toArray, List.set_cons_zero, List.set_cons_succ]
      refine wpAnyH_take (i := 15) (v := undef) rfl (by kernel_rfl) (by kernel_rfl) (by kernel_rfl) (fun _ _ _ h => h) (Or.inr ⟨by rfl, rfl⟩) (by assumption) ?_
      try simp only [Act.put, List.getElem_toArray, List.getElem_cons_zero, List.getElem_cons_succ, List.setIfInBounds_toArray, List.set_cons_zero, List.set_cons_succ]
      refine wpAnyH_take (i := 16) (v := ?v16G) rfl (by kernel_rfl) (by kernel_rfl) (by kernel_rfl) (fun _ _ _ h => h) (Or.inl ⟨by rfl, ?hy16G⟩) (by assumption) ?_
      case hy16G => (intro w hSw; (try dsimp only at hSw); go_simp; (try with_reducible rfl))
      try simp only [Act.put, List.getElem_toArray, List.getElem_cons_zero, List.getElem_cons_succ, List.setIfInBounds_toArray, List.set_cons_zero, List.set_cons_succ]
      refine wpAnyH_take (i := 17) (v := ?v17G) rfl (by kernel_rfl) (by kernel_rfl) (by kernel_rfl) (fun _ _ _ h => h) (Or.inl ⟨by rfl, ?hy17G⟩) (by assumption) ?_
      case hy17G => (intro w hSw; (try dsimp only at hSw); go_simp; (try with_reducible rfl))
      try simp only [Act.put, List.getElem_toArray, List.getElem_cons_zero, List.getElem_cons_succ, List.setIfInBounds_toArray, List.set_cons_zero, List.set_cons_succ]
      refine wpAnyH_take (i := 18) (v := ?v18G) rfl (by kernel_rfl) (by kernel_rfl) (by kernel_rfl) (fun _ _ _ h => h) (Or.inl ⟨by rfl, ?hy18G⟩) (by assumption) ?_
      case hy18G => (intro w hSw; (try dsimp only at hSw); go_simp; (try with_reducible rfl))
      try simp only [Act.put, List.getElem_toArray, List.getElem_cons_zero, List.getElem_cons_succ, List.setIfInBounds_toArray, List.set_cons_zero, List.set_cons_succ]
      refine wpAnyH_done (by kernel_rfl) ?_ _
      have HBz : Hid (Below w.heap.size w _) := hHeld.below
      go_wp2_with fail
      go_ret
      exact ⟨rfl, HBz.out⟩
  | true =>
    obtain ⟨m1, m2, m3, m4⟩ := (matchB_iff l t).1 hmt
    have HM1 := Lib.hid m1
    have HM3 := Lib.hid m3
    clear m1 m3 m4
    go_wp2_with (refine wpList_wantN (by rfl) ?_; refine wp_load_row 26 (.tmp 2) (by rfl) w.heap.size (by rfl) 26 c.cells (0, 0) _ HK4.out Tryz.underlying26 rfl (by kernel_rfl) ?_)
    have hm5 := May_any c l w4 (HT.out.below HB4.out).t (HC.out.at_ HB4.out)
    rw [HM1.out] at hm5
    refine hm5.mono ?_
    rintro e w5 ⟨rfl, hq5⟩
    have HK5 := Lib.hid (HK4.out.below hq5 HK4.out.lt)
    have HD5 := Lib.hid (HD4.out.below hq5 HD4.out.lt)
    have HB5 := Lib.hid (more3 HB4.out HB4.out.size hq5)
    have HI5 : Hid (IntsAt w5 w5.heap.size c.d.A c.d.n l.ds) := (HC.out.at_ HB5.out).1
    clear hq5 hm5 HK4 HD4 HB4
    have hn : c.d.n = l.ds.length := HI5.out.1.symm
    have hmx := HI5.out.2.1
    unfold maxLen at hmx
    have k0 : w5.cell? ⟨w.heap.size, 0, none⟩ = some (.slice c.d.A l.ds.length c.d.c) := by rw [← hn]; exact HK5.out.cell 0
    have k6 : w5.cell? ⟨w2.heap.size, 6, none⟩ = some (.int .i64 (fW t)) := HD5.out.cell 6
    have HI6 : Hid (IntsAt w5 w5.heap.size c.d.A l.ds.length l.ds) := by have := HI5.out; rwa [hn] at this
    have HZ := Lib.hid (hasD_zero l.ds (fW t)).symm
    rw [hn] at hmx
    clear HI5 hn
    generalize fW t = wd at *
    go_wp2_with fail
    rw [HZ.out]
    go_loopw [7, 36] (fun x i wr => ∃ k : Nat, k ≤ l.ds.length ∧ x = .bool (hasD l.ds wd k) ∧ i = .int .i64 k ∧ w5 = wr) (fun x i wr => l.ds.length - (intOf i).toNat)
    case atStart => exact ⟨0, Nat.zero_le _, rfl, rfl, by first | rfl | trivial⟩
    case round =>
      obtain ⟨k, hk, rfl, rfl, rfl⟩ := hrel
      by_cases hlt : k < l.ds.length
      · have i0 : (0 : Int) ≤ (k : Int) := by omega
        have i1 : (k : Int) < (l.ds.length : Int) := by omega
        obtain ⟨ad, hA, _, e1⟩ := HI6.out.at_ hlt
        have hge : l.ds[k]? = some (l.ds.getD k 0) := by rw [List.getD_eq_getElem?_getD, List.getElem?_eq_getElem hlt]; rfl
        have HS := Lib.hid (hasD_succ (x := wd) hge)
        obtain ⟨y, hy⟩ : ∃ y, l.ds.getD k 0 = y := ⟨_, rfl⟩
        rw [hy] at e1 HS
        rw [hA] at k0
        clear hge hy
        cases hh : hasD l.ds wd k with
        | true =>
          rw [hh] at HS
          go_wp2_with fail
          go_roundw
          case rel => exact ⟨k + 1, by omega, by rw [HS.out]; rfl, by go_num, by first | rfl | trivial⟩
          case measure => simp [intOf]; omega
        | false =>
          rw [hh] at HS
          go_wp2_with fail
          go_roundw
          case rel => exact ⟨k + 1, by omega, by rw [HS.out]; rfl, by go_num, by first | rfl | trivial⟩
          case measure => simp [intOf]; omega
      · have i1 : ¬ ((k : Int) < (l.ds.length : Int)) := by omega
        have hh : hasD l.ds wd k = true := by rw [hasD_all (by omega)]; exact HM3.out
        rw [hh]
        have HK := HK5
        have HB := HB5
        clear HK5 HB5 HD5 hh k0 k6 HI6 HZ
        generalize w5 = wa at *
        have HD0 : Hid (Blk (wa.alloc (.cells #[.slice none 0 0, .slice none 0 0, .slice none 0 0, .slice none 0 0, .slice none 0 0, .slice none 0 0, .slice none 0 0] 26)) wa.heap.size 26 nilCh.cells) := Blk.new wa _ _
        have hb1 : Below wa.heap.size wa ((wa.alloc (.cells #[.slice none 0 0, .slice none 0 0, .slice none 0 0, .slice none 0 0, .slice none 0 0, .slice none 0 0, .slice none 0 0] 26)).setRow wa.heap.size c.cells) := below_setRow ((Below.refl _ _).alloc (Nat.le_refl _) _) (Nat.le_refl _) _
        have HE1 : Hid (Blk ((wa.alloc (.cells #[.slice none 0 0, .slice none 0 0, .slice none 0 0, .slice none 0 0, .slice none 0 0, .slice none 0 0, .slice none 0 0] 26)).setRow wa.heap.size c.cells) wa.heap.size 26 c.cells) := HD0.out.row _
        have HK1 : Hid (Blk ((wa.alloc (.cells #[.slice none 0 0, .slice none 0 0, .slice none 0 0, .slice none 0 0, .slice none 0 0, .slice none 0 0, .slice none 0 0] 26)).setRow wa.heap.size c.cells) w.heap.size 26 c.cells) := HK.out.below hb1 HK.out.lt
        have HB5 : Hid (Below w.heap.size w ((wa.alloc (.cells #[.slice none 0 0, .slice none 0 0, .slice none 0 0, .slice none 0 0, .slice none 0 0, .slice none 0 0, .slice none 0 0] 26)).setRow wa.heap.size c.cells)) := more3 HB.out HB.out.size hb1
        have HS1 : Hid (((wa.alloc (.cells #[.slice none 0 0, .slice none 0 0, .slice none 0 0, .slice none 0 0, .slice none 0 0, .slice none 0 0, .slice none 0 0] 26)).setRow wa.heap.size c.cells).heap.size = wa.heap.size + 1) := by show _ = _; rw [size_row]; simp
        have h0a : w.heap.size < wa.heap.size := HK.out.lt
        clear hb1
        go_wp2_with (first
          | (refine wpList_load_row rfl 26 (.tmp 2) (by rfl) w.heap.size (by rfl) 26 c.cells (0, 0) _ HK.out Tryz.underlying26 rfl (by kernel_rfl) ?_)
          | (refine wpList_store_row rfl 26 (.tmp 10) (.tmp 50) (by rfl) wa.heap.size c.cells (by rfl) (by rfl) 26 nilCh.cells HD0.out (by kernel_rfl) rfl (ch_all _) ?_; generalize ((wa.alloc (.cells #[.slice none 0 0, .slice none 0 0, .slice none 0 0, .slice none 0 0, .slice none 0 0, .slice none 0 0, .slice none 0 0] 26)).setRow wa.heap.size c.cells) = w5 at *; have k5 : w5.cell? ⟨wa.heap.size, 0, none⟩ = some (.slice c.d.A c.d.n c.d.c) := HE1.out.cell 0; have f5 : w5.frozen? ⟨wa.heap.size, 0, none⟩ = false := HE1.out.frozen 0; have HE2 : Hid (Blk (w5.setCell ⟨wa.heap.size, 0, none⟩ (.slice none 0 0)) wa.heap.size 26 ({ c with d := ⟨none, 0, 0⟩ } : Ch).cells) := HE1.out.setCell 0 _; have HK2 : Hid (Blk (w5.setCell ⟨wa.heap.size, 0, none⟩ (.slice none 0 0)) w.heap.size 26 c.cells) := HK1.out.setOther (a := ⟨wa.heap.size, 0, none⟩) (Nat.ne_of_lt h0a) _; have HB6 : Hid (Below w.heap.size w (w5.setCell ⟨wa.heap.size, 0, none⟩ (.slice none 0 0))) := HB5.out.setCell (p := ⟨wa.heap.size, 0, none⟩) (Nat.le_of_lt h0a) _; have HN0 : Hid (Blk ((w5.setCell ⟨wa.heap.size, 0, none⟩ (.slice none 0 0)).alloc (.cells #[.slice none 0 0, .slice none 0 0, .slice none 0 0, .slice none 0 0, .slice none 0 0, .slice none 0 0, .slice none 0 0] 26)) w5.heap.size 26 nilCh.cells) := (show Blk _ _ _ _ from by have hx := Blk.new (w5.setCell ⟨wa.heap.size, 0, none⟩ (.slice none 0 0)) 26 nilCh.cells; rw [size_cell] at hx; exact hx))
          | (refine wpList_load_row rfl 26 (.tmp 2) (by rfl) w.heap.size (by rfl) 26 c.cells (0, 0) _ HK2.out Tryz.underlying26 rfl (by kernel_rfl) ?_)
          | (refine wpList_store_row rfl 26 (.tmp 11) (.tmp 52) (by rfl) w5.heap.size c.cells (by rfl) (by rfl) 26 nilCh.cells HN0.out (by kernel_rfl) rfl (ch_all _) ?_; have HE3 : Hid (Blk (((w5.setCell ⟨wa.heap.size, 0, none⟩ (.slice none 0 0)).alloc (.cells #[.slice none 0 0, .slice none 0 0, .slice none 0 0, .slice none 0 0, .slice none 0 0, .slice none 0 0, .slice none 0 0] 26)).setRow w5.heap.size c.cells) wa.heap.size 26 ({ c with d := ⟨none, 0, 0⟩ } : Ch).cells) := (HE2.out.alloc _).setRowOther (by have := HS1.out; omega) _; have HK3 : Hid (Blk (((w5.setCell ⟨wa.heap.size, 0, none⟩ (.slice none 0 0)).alloc (.cells #[.slice none 0 0, .slice none 0 0, .slice none 0 0, .slice none 0 0, .slice none 0 0, .slice none 0 0, .slice none 0 0] 26)).setRow w5.heap.size c.cells) w.heap.size 26 c.cells) := (HK2.out.alloc _).setRowOther (by have := HS1.out; omega) _; have HF3 : Hid (Blk (((w5.setCell ⟨wa.heap.size, 0, none⟩ (.slice none 0 0)).alloc (.cells #[.slice none 0 0, .slice none 0 0, .slice none 0 0, .slice none 0 0, .slice none 0 0, .slice none 0 0, .slice none 0 0] 26)).setRow w5.heap.size c.cells) w5.heap.size 26 c.cells) := HN0.out.row _; have HB7 : Hid (Below w.heap.size w (((w5.setCell ⟨wa.heap.size, 0, none⟩ (.slice none 0 0)).alloc (.cells #[.slice none 0 0, .slice none 0 0, .slice none 0 0, .slice none 0 0, .slice none 0 0, .slice none 0 0, .slice none 0 0] 26)).setRow w5.heap.size c.cells)) := below_setRow (HB6.out.alloc HB6.out.size _) (by have := HS1.out; omega) _; have HS3 : Hid ((((w5.setCell ⟨wa.heap.size, 0, none⟩ (.slice none 0 0)).alloc (.cells #[.slice none 0 0, .slice none 0 0, .slice none 0 0, .slice none 0 0, .slice none 0 0, .slice none 0 0, .slice none 0 0] 26)).setRow w5.heap.size c.cells).heap.size = w5.heap.size + 1) := (show _ = _ from by rw [size_row]; simp); generalize (((w5.setCell ⟨wa.heap.size, 0, none⟩ (.slice none 0 0)).alloc (.cells #[.slice none 0 0, .slice none 0 0, .slice none 0 0, .slice none 0 0, .slice none 0 0, .slice none 0 0, .slice none 0 0] 26)).setRow w5.heap.size c.cells) = w6 at *; clear k5 f5; have k6 : (w6.alloc (.cells #[.int .i64 1, .int .i64 2, .int .i64 3, .int .i64 4, .int .i64 5, .int .i64 6, .int .i64 7] 3)).cell? ⟨w5.heap.size, 0, none⟩ = some (.slice c.d.A c.d.n c.d.c) := (HF3.out.alloc _).cell 0; have f6 : (w6.alloc (.cells #[.int .i64 1, .int .i64 2, .int .i64 3, .int .i64 4, .int .i64 5, .int .i64 6, .int .i64 7] 3)).frozen? ⟨w5.heap.size, 0, none⟩ = false := (HF3.out.alloc _).frozen 0; have k7 : w6.cell? ⟨w5.heap.size, 0, none⟩ = some (.slice c.d.A c.d.n c.d.c) := HF3.out.cell 0; have f7 : w6.frozen? ⟨w5.heap.size, 0, none⟩ = false := HF3.out.frozen 0))
        have hwl : w.heap.size ≤ w6.heap.size := HB7.out.size
        have HR : Hid (DayS w c ({ c with d := ⟨none, 0, 0⟩ } : Ch) ({ c with d := ⟨some ⟨w6.heap.size, 0, none⟩, 7, 7⟩ } : Ch) wa.heap.size w5.heap.size w6.heap.size ((w6.alloc (.cells #[.int .i64 1, .int .i64 2, .int .i64 3, .int .i64 4, .int .i64 5, .int .i64 6, .int .i64 7] 3)).setCell ⟨w5.heap.size, 0, none⟩ (.slice (some ⟨w6.heap.size, 0, none⟩) 7 7))) := ⟨(HK3.out.alloc _).setOther (a := ⟨w5.heap.size, 0, none⟩) (by have := HS1.out; show w.heap.size ≠ w5.heap.size; omega) _, (HE3.out.alloc _).setOther (a := ⟨w5.heap.size, 0, none⟩) (by have := HS1.out; show wa.heap.size ≠ w5.heap.size; omega) _, (HF3.out.alloc _).setCell 0 _, (Blk.new w6 _ _).setOther (a := ⟨w5.heap.size, 0, none⟩) (by have := HS3.out; show w6.heap.size ≠ w5.heap.size; omega) _, (HB7.out.alloc hwl _).setCell (p := ⟨w5.heap.size, 0, none⟩) (by have := HS1.out; show w.heap.size ≤ w5.heap.size; omega) _⟩
        have HMC : Hid (∀ W, DayS w c ({ c with d := ⟨none, 0, 0⟩ } : Ch) ({ c with d := ⟨some ⟨w6.heap.size, 0, none⟩, 7, 7⟩ } : Ch) wa.heap.size w5.heap.size w6.heap.size W → Calls Tryz.prog 21 #[.agg c.cells, .int .i64 t] W fun e w' => e = .returned (.bool true) ∧ Below W.heap.size W w') := fun W h => by
          have hx := Match_any c l t W (HT.out.below h.below).t (HC.out.at_ h.below)
          rw [hmt] at hx
          exact hx
        obtain ⟨me, hme⟩ : ∃ me, matchB { l with ds := [] } t = me := ⟨_, rfl⟩
        have HME : Hid (∀ W, DayS w c ({ c with d := ⟨none, 0, 0⟩ } : Ch) ({ c with d := ⟨some ⟨w6.heap.size, 0, none⟩, 7, 7⟩ } : Ch) wa.heap.size w5.heap.size w6.heap.size W → Calls Tryz.prog 21 #[.agg ({ c with d := ⟨none, 0, 0⟩ } : Ch).cells, .int .i64 t] W fun e w' => e = .returned (.bool me) ∧ Below W.heap.size W w') := fun W h => by
          have hx := Match_any ({ c with d := ⟨none, 0, 0⟩ } : Ch) { l with ds := [] } t W (HT.out.below h.below).t (calAt_days (HC.out.at_ h.below) ⟨none, 0, 0⟩ [] ⟨rfl, Nat.zero_le _, Reads.none_⟩)
          rw [hme] at hx
          exact hx
        have HMF : Hid (∀ W, DayS w c ({ c with d := ⟨none, 0, 0⟩ } : Ch) ({ c with d := ⟨some ⟨w6.heap.size, 0, none⟩, 7, 7⟩ } : Ch) wa.heap.size w5.heap.size w6.heap.size W → Calls Tryz.prog 21 #[.agg ({ c with d := ⟨some ⟨w6.heap.size, 0, none⟩, 7, 7⟩ } : Ch).cells, .int .i64 t] W fun e w' => e = .returned (.bool me) ∧ Below W.heap.size W w') := fun W h => by
          have hx := Match_any ({ c with d := ⟨some ⟨w6.heap.size, 0, none⟩, 7, 7⟩ } : Ch) { l with ds := [1, 2, 3, 4, 5, 6, 7] } t W (HT.out.below h.below).t (calAt_days (HC.out.at_ h.below) ⟨some ⟨w6.heap.size, 0, none⟩, 7, 7⟩ [1, 2, 3, 4, 5, 6, 7] (ints_seven h.2.2.2.1))
          rw [← days_all, hme] at hx
          exact hx
        have hR := HR.out
        clear k6 f6 k7 f7
        clear HE3 HK3 HF3 HB7 HS3 HS1 HD0 HE1 HK1 HB5 HE2 HK2 HB6 HN0
        obtain rfl : me = true := by rw [← hme]; exact days_none hmt
        refine wp_region_held_drew (S := fun W => DayS w c ({ c with d := ⟨none, 0, 0⟩ } : Ch) ({ c with d := ⟨some ⟨w6.heap.size, 0, none⟩, 7, 7⟩ } : Ch) wa.heap.size w5.heap.size w6.heap.size W) (by kernel_rfl) ?_ (fun hHeld => ?_)
        · exact hR.drew
        refine wpAnyH_take (i := 0) (v := .agg ({ c with d := ⟨none, 0, 0⟩ } : Ch).cells) rfl (by kernel_rfl) (by kernel_rfl) (by kernel_rfl) (fun _ _ _ h => h) (Or.inl ⟨by rfl, ?hy0H⟩) (by assumption) ?_
        case hy0H => (intro W hSw; exact load_yields _ _ (.tmp 10) (by rfl) (by rfl) hSw.2.1 rfl)
        try simp only [Act.put, List.getElem_toArray, List.getElem_cons_zero, List.setIfInBounds_toArray, List.set_cons_zero, List.set_cons_succ]
        refine wpAnyH_take (i := 1) (v := ?v1H) rfl (by kernel_rfl) (by kernel_rfl) (by kernel_rfl) (fun _ _ _ h => h) (Or.inl ⟨by rfl, ?hy1H⟩) (by assumption) ?_
        case hy1H => (intro w hSw; (try dsimp only at hSw); go_simp; (try with_reducible rfl))
        try simp only [Act.put, List.getElem_toArray, List.getElem_cons_zero, List.getElem_cons_succ, List.setIfInBounds_toArray, List.set_cons_zero, List.set_cons_succ]
        refine wpAnyH_take (i := 3) (v := .agg ({ c with d := ⟨some ⟨w6.heap.size, 0, none⟩, 7, 7⟩ } : Ch).cells) rfl (by kernel_rfl) (by kernel_rfl) (by kernel_rfl) (fun _ _ _ h => h) (Or.inl ⟨by rfl, ?hy3H⟩) (by assumption) ?_
        case hy3H => (intro W hSw; exact load_yields _ _ (.tmp 11) (by rfl) (by rfl) hSw.2.2.1 rfl)
        try simp only [Act.put, List.getElem_toArray, List.getElem_cons_zero, List.getElem_cons_succ, List.setIfInBounds_toArray, List.set_cons_zero, List.set_cons_succ]
        refine wpAnyH_take (i := 4) (v := ?v4H) rfl (by kernel_rfl) (by kernel_rfl) (by kernel_rfl) (fun _ _ _ h => h) (Or.inl ⟨by rfl, ?hy4H⟩) (by assumption) ?_
        case hy4H => (intro w hSw; (try dsimp only at hSw); go_simp; (try with_reducible rfl))
        try simp only [Act.put, List.getElem_toArray, List.getElem_cons_zero, List.getElem_cons_succ, List.setIfInBounds_toArray, List.set_cons_zero, List.set_cons_succ]
        refine wpAnyH_ready (rs := [2]) (by kernel_rfl) (by simp) ?_
        refine AllReadyH.cons rfl (fun K hK => ?_) AllReadyH.nil
        go_simp
        (refine (HME.out _ (by exact hHeld)).mono ?_; rintro e wq1 ⟨rfl, hbq1⟩)
        refine hK.out _ _ ?_ (fun hHeld2 => ?_)
        · exact hHeld.call hbq1
        clear hK K hHeld hbq1
        have hHeld := hHeld2
        clear hHeld2
        try simp only [Act.put, List.getElem_toArray, List.getElem_cons_zero, List.getElem_cons_succ, List.setIfInBounds_toArray, List.set_cons_zero, List.set_cons_succ]
        refine wpAnyH_ready (rs := [5]) (by kernel_rfl) (by simp) ?_
        refine AllReadyH.cons rfl (fun K hK => ?_) AllReadyH.nil
        go_simp
        (refine (HMF.out _ (by exact hHeld)).mono ?_; rintro e wq2 ⟨rfl, hbq2⟩)
        refine hK.out _ _ ?_ (fun hHeld2 => ?_)
        · exact hHeld.call hbq2
        clear hK K hHeld hbq2
        have hHeld := hHeld2
        clear hHeld2
        try simp only [Act.put, List.getElem_toArray, List.getElem_cons_zero, List.getElem_cons_succ, List.setIfInBounds_toArray, List.set_cons_zero, List.set_cons_succ]
        refine wpAnyH_take (i := 6) (v := ?v6H) rfl (by kernel_rfl) (by kernel_rfl) (by kernel_rfl) (fun _ _ _ h => h) (Or.inl ⟨by rfl, ?hy6H⟩) (by assumption) ?_
        case hy6H => (intro w hSw; (try dsimp only at hSw); go_simp; (try with_reducible rfl))
        try simp only [Act.put, List.getElem_toArray, List.getElem_cons_zero, List.getElem_cons_succ, List.setIfInBounds_toArray, List.set_cons_zero, List.set_cons_succ]
        refine wpAnyH_take (i := 7) (v := ?v7H) rfl (by kernel_rfl) (by kernel_rfl) (by kernel_rfl) (fun _ _ _ h => h) (Or.inl ⟨by rfl, ?hy7H⟩) (by assumption) ?_
        case hy7H => (intro w hSw; (try dsimp only at hSw); go_simp; (try with_reducible rfl))
        try simp only [Act.put, List.getElem_toArray, List.getElem_cons_zero, List.getElem_cons_succ, List.setIfInBounds_toArray, List.set_cons_zero, List.set_cons_succ]
        refine wpAnyH_take (i := 8) (v := .agg c.cells) rfl (by kernel_rfl) (by kernel_rfl) (by kernel_rfl) (fun _ _ _ h => h) (Or.inl ⟨by rfl, ?hy8H⟩) (by assumption) ?_
        case hy8H => (intro W hSw; exact load_yields _ _ (.tmp 2) (by rfl) (by rfl) hSw.1 rfl)
        try simp only [Act.put, List.getElem_toArray, List.getElem_cons_zero, List.getElem_cons_succ, List.setIfInBounds_toArray, List.set_cons_zero, List.set_cons_succ]
        refine wpAnyH_take (i := 9) (v := ?v9H) rfl (by kernel_rfl) (by kernel_rfl) (by kernel_rfl) (fun _ _ _ h => h) (Or.inl ⟨by rfl, ?hy9H⟩) (by assumption) ?_
        case hy9H => (intro w hSw; (try dsimp only at hSw); go_simp; (try with_reducible rfl))
        try simp only [Act.put, List.getElem_toArray, List.getElem_cons_zero, List.getElem_cons_succ, List.setIfInBounds_toArray, List.set_cons_zero, List.set_cons_succ]
        refine wpAnyH_ready (rs := [10]) (by kernel_rfl) (by simp) ?_
        refine AllReadyH.cons rfl (fun K hK => ?_) AllReadyH.nil
        go_simp
        (refine (HMC.out _ (by exact hHeld)).mono ?_; rintro e wq3 ⟨rfl, hbq3⟩)
        refine hK.out _ _ ?_ (fun hHeld2 => ?_)
        · exact hHeld.call hbq3
        clear hK K hHeld hbq3
        have hHeld := hHeld2
        clear hHeld2
        try simp only [Act.put, List.getElem_toArray, List.getElem_cons_zero, List.getElem_cons_succ, List.setIfInBounds_toArray, List.set_cons_zero, List.set_cons_succ]
        refine wpAnyH_take (i := 11) (v := ?v11H) rfl (by kernel_rfl) (by kernel_rfl) (by kernel_rfl) (fun _ _ _ h => h) (Or.inl ⟨by rfl, ?hy11H⟩) (by assumption) ?_
        case hy11H => (intro w hSw; (try dsimp only at hSw); go_simp; (try with_reducible rfl))
        try simp only [Act.put, List.getElem_toArray, List.getElem_cons_zero, List.getElem_cons_succ, List.setIfInBounds_toArray, List.set_cons_zero, List.set_cons_succ]
        refine wpAnyH_take (i := 12) (v := ?v12H) rfl (by kernel_rfl) (by kernel_rfl) (by kernel_rfl) (fun _ _ _ h => h) (Or.inl ⟨by rfl, ?hy12H⟩) (by assumption) ?_
        case hy12H => (intro w hSw; (try dsimp only at hSw); go_simp; (try with_reducible rfl))
        try simp only [Act.put, List.getElem_toArray, List.getElem_cons_zero, List.getElem_cons_succ, List.setIfInBounds_toArray, List.set_cons_zero, List.set_cons_succ]
        refine wpAnyH_take (i := 13) (v := .agg ({ c with d := ⟨none, 0, 0⟩ } : Ch).cells) rfl (by kernel_rfl) (by kernel_rfl) (by kernel_rfl) (fun _ _ _ h => h) (Or.inl ⟨by rfl, ?hy13H⟩) (by assumption) ?_
        case hy13H => (intro W hSw; exact load_yields _ _ (.tmp 10) (by rfl) (by rfl) hSw.2.1 rfl)
        try simp only [Act.put, List.getElem_toArray, List.getElem_cons_zero, List.getElem_cons_succ, List.setIfInBounds_toArray, List.set_cons_zero, List.set_cons_succ]
        refine wpAnyH_take (i := 14) (v := ?v14H) rfl (by kernel_rfl) (by kernel_rfl) (by kernel_rfl) (fun _ _ _ h => h) (Or.inl ⟨by rfl, ?hy14H⟩) (by assumption) ?_
        case hy14H => (intro w hSw; (try dsimp only at hSw); go_simp; (try with_reducible rfl))
        try simp only [Act.put, List.getElem_toArray, List.getElem_cons_zero, List.getElem_cons_succ, List.setIfInBounds_toArray, List.set_cons_zero, List.set_cons_succ]
        refine wpAnyH_ready (rs := [15]) (by kernel_rfl) (by simp) ?_
        refine AllReadyH.cons rfl (fun K hK => ?_) AllReadyH.nil
        go_simp
        (refine (HME.out _ (by exact hHeld)).mono ?_; rintro e wq4 ⟨rfl, hbq4⟩)
        refine hK.out _ _ ?_ (fun hHeld2 => ?_)
        · exact hHeld.call hbq4
        clear hK K hHeld hbq4
        have hHeld := hHeld2
        clear hHeld2
        try simp only [Act.put, List.getElem_toArray, List.getElem_cons_zero, List.getElem_cons_succ, List.setIfInBounds_toArray, List.set_cons_zero, List.set_cons_succ]
        refine wpAnyH_take (i := 16) (v := ?v16H) rfl (by kernel_rfl) (by kernel_rfl) (by kernel_rfl) (fun _ _ _ h => h) (Or.inl ⟨by rfl, ?hy16H⟩) (by assumption) ?_
        case hy16H => (intro w hSw; (try dsimp only at hSw); go_simp; (try with_reducible rfl))
        try simp only [Act.put, List.getElem_toArray, List.getElem_cons_zero, List.getElem_cons_succ, List.setIfInBounds_toArray, List.set_cons_zero, List.set_cons_succ]
        refine wpAnyH_take (i := 17) (v := ?v17H) rfl (by kernel_rfl) (by kernel_rfl) (by kernel_rfl) (fun _ _ _ h => h) (Or.inl ⟨by rfl, ?hy17H⟩) (by assumption) ?_
        case hy17H => (intro w hSw; (try dsimp only at hSw); go_simp; (try with_reducible rfl))
        try simp only [Act.put, List.getElem_toArray, List.getElem_cons_zero, List.getElem_cons_succ, List.setIfInBounds_toArray, List.set_cons_zero, List.set_cons_succ]
        refine wpAnyH_take (i := 18) (v := ?v18H) rfl (by kernel_rfl) (by kernel_rfl) (by kernel_rfl) (fun _ _ _ h => h) (Or.inl ⟨by rfl, ?hy18H⟩) (by assumption) ?_
        case hy18H => (intro w hSw; (try dsimp only at hSw); go_simp; (try with_reducible rfl))
        try simp only [Act.put, List.getElem_toArray, List.getElem_cons_zero, List.getElem_cons_succ, List.setIfInBounds_toArray, List.set_cons_zero, List.set_cons_succ]
        refine wpAnyH_done (by kernel_rfl) ?_ _
        have HBz : Hid (Below w.heap.size w _) := hHeld.below
        go_wp2_with fail
        go_ret
        exact ⟨rfl, HBz.out⟩
end Go.Proofs.YtnbdcjohibfjaaaGreatDoor
