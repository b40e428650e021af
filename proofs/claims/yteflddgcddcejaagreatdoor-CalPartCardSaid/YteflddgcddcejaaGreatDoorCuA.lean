/- The walk of the law CalPart. -/
import Derived.Test.YteflddgcddcejaaGreatDoorCuL
import Derived.Deep.RegionHeld3
import Derived.Deep.Cut
import Derived.Deep.DeepCutAuto
import Derived.BigQuiet
namespace Go.Proofs.YteflddgcddcejaaGreatDoor
open Go.RowKit

theorem grow_one (w : World) (cs : Array Value) (t : TypeId) : ∃ b w', w.heap.size = b ∧ w.alloc (.cells cs t) = w' ∧ Blk w' b t cs ∧ (∀ {g : Nat} {t' : TypeId} {cs' : Array Value}, Blk w g t' cs' → Blk w' g t' cs') ∧ Below w.heap.size w w' :=
  ⟨_, _, rfl, rfl, Blk.new w _ _, fun h => h.alloc _, (Below.refl _ _).alloc (Nat.le_refl _) _⟩
theorem all_blk (w : World) : Calls Tryz.prog 13 #[] w fun e w' => ∃ b, e = .returned (.slice (some ⟨b, 0, none⟩) 1 1) ∧ Blk w' b 35 #[.int .i64 (-1), .int .i64 (-1), .int .i64 0] ∧ (∀ {g : Nat} {t' : TypeId} {cs' : Array Value}, Blk w g t' cs' → Blk w' g t' cs') ∧ Below w.heap.size w w' := by
  refine (all_any w).mono ?_
  rintro e w' ⟨rfl, rfl⟩
  exact ⟨_, rfl, Blk.new w _ _, fun h => h.alloc _, (Below.refl _ _).alloc (Nat.le_refl _) _⟩
theorem may3 {p : Pt} : mayP 3 p = true ↔ 0 ≤ p.s ∧ p.s ≤ 9999 ∧ (p.a = -1 ∧ p.b = -1 ∨ p.a ≠ -1 ∧ 0 ≤ p.a ∧ p.a ≤ 23 ∧ (p.b = -1 ∨ p.a ≤ p.b ∧ p.b ≤ 23)) := by
  rw [mayP_iff]
  have e1 : lo 3 = 0 := rfl
  have e2 : hi 3 = 23 := rfl
  rw [e1, e2]
  omega
theorem blk_drew {w : World} {g : Nat} {t : TypeId} {cs : Array Value} (h : Blk w g t cs) : Blk w.drew g t cs := h
theorem partS_of {w W : World} {p : Pt} (h : Blk W w.heap.size 35 #[.int .i64 p.a, .int .i64 p.b, .int .i64 p.s]) (hb : Below w.heap.size w W) : W.cell? ⟨w.heap.size, 0, none⟩ = some (.int .i64 p.a) ∧ W.cell? ⟨w.heap.size, 1, none⟩ = some (.int .i64 p.b) ∧ W.cell? ⟨w.heap.size, 2, none⟩ = some (.int .i64 p.s) ∧ Blk W w.heap.size 35 #[.int .i64 p.a, .int .i64 p.b, .int .i64 p.s] ∧ Below w.heap.size w W :=
  ⟨h.cell 0, h.cell 1, h.cell 2, h, hb⟩
theorem partS_step {w W W' : World} {p : Pt} (h : W.cell? ⟨w.heap.size, 0, none⟩ = some (.int .i64 p.a) ∧ W.cell? ⟨w.heap.size, 1, none⟩ = some (.int .i64 p.b) ∧ W.cell? ⟨w.heap.size, 2, none⟩ = some (.int .i64 p.s) ∧ Blk W w.heap.size 35 #[.int .i64 p.a, .int .i64 p.b, .int .i64 p.s] ∧ Below w.heap.size w W) (hx : ∀ {g : Nat} {t' : TypeId} {cs' : Array Value}, Blk W g t' cs' → Blk W' g t' cs') (hL : Below W.heap.size W W') : W'.cell? ⟨w.heap.size, 0, none⟩ = some (.int .i64 p.a) ∧ W'.cell? ⟨w.heap.size, 1, none⟩ = some (.int .i64 p.b) ∧ W'.cell? ⟨w.heap.size, 2, none⟩ = some (.int .i64 p.s) ∧ Blk W' w.heap.size 35 #[.int .i64 p.a, .int .i64 p.b, .int .i64 p.s] ∧ Below w.heap.size w W' :=
  partS_of (hx h.2.2.2.1) (more3 h.2.2.2.2 h.2.2.2.2.size hL)
/-- The calendar that the law makes: its fields' rows are the blocks b0, b1, b2, b4, b5, b6. -/
def hourCh (b0 b1 b2 b4 b5 b6 : Nat) : Ch := ⟨⟨none, 0, 0⟩, ⟨some ⟨b0, 0, none⟩, 1, 1⟩, ⟨some ⟨b1, 0, none⟩, 1, 1⟩, ⟨some ⟨b2, 0, none⟩, 1, 1⟩, ⟨some ⟨b4, 0, none⟩, 1, 1⟩, ⟨some ⟨b5, 0, none⟩, 1, 1⟩, ⟨some ⟨b6, 0, none⟩, 1, 1⟩⟩
theorem part_row {w : World} {g : Nat} {p : Pt} (h : Blk w g 35 #[.int .i64 p.a, .int .i64 p.b, .int .i64 p.s]) : PtsAt w w.heap.size (some ⟨g, 0, none⟩) 1 [p] := by
  refine ⟨rfl, by unfold maxLen; omega, rfl, fun _ => ⟨_, rfl, h.lt, fun j u hj => ?_⟩⟩
  have e : (⟨g, 0, none⟩ : Addr).add j = ⟨g, j, none⟩ := by unfold Addr.add; split <;> simp_all
  rw [e, h.cell j]
  exact (by
    match j, hj with
    | 0, hj => exact hj
    | 1, hj => exact hj
    | 2, hj => exact hj
    | (j + 3), hj => simp [pts, ptCells] at hj)
theorem hour_at {W : World} {b0 b1 b2 b4 b5 b6 : Nat} {p : Pt} (h0 : Blk W b0 35 #[.int .i64 (-1), .int .i64 (-1), .int .i64 0]) (h1 : Blk W b1 35 #[.int .i64 (-1), .int .i64 (-1), .int .i64 0]) (h2 : Blk W b2 35 #[.int .i64 (-1), .int .i64 (-1), .int .i64 0]) (h4 : Blk W b4 35 #[.int .i64 p.a, .int .i64 p.b, .int .i64 p.s]) (h5 : Blk W b5 35 #[.int .i64 (-1), .int .i64 (-1), .int .i64 0]) (h6 : Blk W b6 35 #[.int .i64 (-1), .int .i64 (-1), .int .i64 0]) : CalAt W W.heap.size (hourCh b0 b1 b2 b4 b5 b6) (hourC p) :=
  ⟨⟨rfl, Nat.zero_le _, Reads.none_⟩, fun f => match f with
    | 0 => part_row (p := ⟨-1, -1, 0⟩) h0
    | 1 => part_row (p := ⟨-1, -1, 0⟩) h1
    | 2 => part_row (p := ⟨-1, -1, 0⟩) h2
    | 3 => part_row h4
    | 4 => part_row (p := ⟨-1, -1, 0⟩) h5
    | 5 => part_row (p := ⟨-1, -1, 0⟩) h6
    | (_ + 6) => part_row (p := ⟨-1, -1, 0⟩) h6⟩
theorem blk_ne {w : World} {g b : Nat} {t t' : TypeId} {cs cs' : Array Value} (h : Blk w g t cs) (h' : Blk w b t' cs') (ht : t ≠ t') : g ≠ b := by
  rintro rfl
  unfold Blk at h h'
  rw [h] at h'
  injection h' with h'
  injection h' with _ h' _
  exact ht h'
theorem row_keep {w : World} {g b : Nat} {t t' : TypeId} {cs cs' ds : Array Value} (h : Blk w g t cs) (h' : Blk w b t' cs') (ht : t ≠ t') : Blk (w.setRow b ds) g t cs := (heap_row_other _ _ _ _ (blk_ne h h' ht)).trans h
theorem hour_row {W : World} {b8 b0 b1 b2 b4 b5 b6 g : Nat} {p : Pt} (h8 : Blk W b8 26 nilCh.cells) (h0 : Blk W b0 35 #[.int .i64 (-1), .int .i64 (-1), .int .i64 0]) (h1 : Blk W b1 35 #[.int .i64 (-1), .int .i64 (-1), .int .i64 0]) (h2 : Blk W b2 35 #[.int .i64 (-1), .int .i64 (-1), .int .i64 0]) (h4 : Blk W b4 35 #[.int .i64 p.a, .int .i64 p.b, .int .i64 p.s]) (h5 : Blk W b5 35 #[.int .i64 (-1), .int .i64 (-1), .int .i64 0]) (h6 : Blk W b6 35 #[.int .i64 (-1), .int .i64 (-1), .int .i64 0]) (hg : Blk W g 35 #[.int .i64 p.a, .int .i64 p.b, .int .i64 p.s]) :
    CalAt (W.setRow b8 (hourCh b0 b1 b2 b4 b5 b6).cells) (W.setRow b8 (hourCh b0 b1 b2 b4 b5 b6).cells).heap.size (hourCh b0 b1 b2 b4 b5 b6) (hourC p) ∧ Blk (W.setRow b8 (hourCh b0 b1 b2 b4 b5 b6).cells) b8 26 (hourCh b0 b1 b2 b4 b5 b6).cells ∧ Blk (W.setRow b8 (hourCh b0 b1 b2 b4 b5 b6).cells) g 35 #[.int .i64 p.a, .int .i64 p.b, .int .i64 p.s] :=
  ⟨hour_at (row_keep h0 h8 (by decide)) (row_keep h1 h8 (by decide)) (row_keep h2 h8 (by decide)) (row_keep h4 h8 (by decide)) (row_keep h5 h8 (by decide)) (row_keep h6 h8 (by decide)), h8.row _, row_keep hg h8 (by decide)⟩
theorem via1 {F G : Nat → World → Prop} {C : Prop} (h : (∀ b0 w, F b0 w → G b0 w) → C) (h2 : ∀ b0 w, F b0 w → G b0 w) : C := h h2
theorem via2 {F G : Nat → Nat → World → Prop} {C : Prop} (h : (∀ b0 b1 w, F b0 b1 w → G b0 b1 w) → C) (h2 : ∀ b0 b1 w, F b0 b1 w → G b0 b1 w) : C := h h2
theorem via3 {F G : Nat → Nat → Nat → World → Prop} {C : Prop} (h : (∀ b0 b1 b2 w, F b0 b1 b2 w → G b0 b1 b2 w) → C) (h2 : ∀ b0 b1 b2 w, F b0 b1 b2 w → G b0 b1 b2 w) : C := h h2
theorem via4 {F G : Nat → Nat → Nat → Nat → World → Prop} {C : Prop} (h : (∀ b0 b1 b2 b3 w, F b0 b1 b2 b3 w → G b0 b1 b2 b3 w) → C) (h2 : ∀ b0 b1 b2 b3 w, F b0 b1 b2 b3 w → G b0 b1 b2 b3 w) : C := h h2
theorem via5 {F G : Nat → Nat → Nat → Nat → Nat → World → Prop} {C : Prop} (h : (∀ b0 b1 b2 b3 b4 w, F b0 b1 b2 b3 b4 w → G b0 b1 b2 b3 b4 w) → C) (h2 : ∀ b0 b1 b2 b3 b4 w, F b0 b1 b2 b3 b4 w → G b0 b1 b2 b3 b4 w) : C := h h2
theorem via6 {F G : Nat → Nat → Nat → Nat → Nat → Nat → World → Prop} {C : Prop} (h : (∀ b0 b1 b2 b3 b4 b5 w, F b0 b1 b2 b3 b4 b5 w → G b0 b1 b2 b3 b4 b5 w) → C) (h2 : ∀ b0 b1 b2 b3 b4 b5 w, F b0 b1 b2 b3 b4 b5 w → G b0 b1 b2 b3 b4 b5 w) : C := h h2
theorem via7 {F G : Nat → Nat → Nat → Nat → Nat → Nat → Nat → World → Prop} {C : Prop} (h : (∀ b0 b1 b2 b3 b4 b5 b6 w, F b0 b1 b2 b3 b4 b5 b6 w → G b0 b1 b2 b3 b4 b5 b6 w) → C) (h2 : ∀ b0 b1 b2 b3 b4 b5 b6 w, F b0 b1 b2 b3 b4 b5 b6 w → G b0 b1 b2 b3 b4 b5 b6 w) : C := h h2
set_option maxRecDepth 100000 in
set_option maxHeartbeats 8000000 in
theorem CalPart_any (p : Pt) (hour : Int) (hh : -9223372036854775808 ≤ hour ∧ hour ≤ 9223372036854775807) (w : World) (htab : TabM w) :
    Calls Tryz.prog 5 #[.agg #[.int .i64 p.a, .int .i64 p.b, .int .i64 p.s], .int .i64 hour] w fun e w' => e = .returned (.bool true) ∧ Below w.heap.size w w' := by
  have HT := Lib.hid htab
  have HH := Lib.hid hh
  clear htab hh
  have HBX : Hid (Blk (w.alloc (.cells #[.int .i64 p.a, .int .i64 p.b, .int .i64 p.s] 35)) w.heap.size 35 #[.int .i64 p.a, .int .i64 p.b, .int .i64 p.s]) := Blk.new w _ _
  have HB0 : Hid (Below w.heap.size w (w.alloc (.cells #[.int .i64 p.a, .int .i64 p.b, .int .i64 p.s] 35))) := (Below.refl _ _).alloc (Nat.le_refl _) _
  have HW0 : Hid (TabM (w.alloc (.cells #[.int .i64 p.a, .int .i64 p.b, .int .i64 p.s] 35))) := HT.out.below HB0.out
  by_cases h0 : hour < 0
  · have k0 : decide (hour < 0) = true := by simpa using h0
    go_enter Tryz.func5, Tryz.ntmps5
    go_wp2_with fail
    refine (shown4_any _ HW0.out).mono ?_
    rintro e u0 ⟨rfl, hb⟩
    have HB1 := Lib.hid (more3 HB0.out HB0.out.size hb)
    clear hb
    go_wp2_with fail
    go_ret
    exact ⟨rfl, HB1.out⟩
  by_cases h1 : 23 < hour
  · have k0 : decide (hour < 0) = false := by simpa using h0
    have k1 : decide (23 < hour) = true := by simpa using h1
    go_enter Tryz.func5, Tryz.ntmps5
    go_wp2_with fail
    refine (shown4_any _ HW0.out).mono ?_
    rintro e u0 ⟨rfl, hb⟩
    have HB1 := Lib.hid (more3 HB0.out HB0.out.size hb)
    clear hb
    go_wp2_with fail
    go_ret
    exact ⟨rfl, HB1.out⟩
  have k0 : decide (hour < 0) = false := by simpa using h0
  have k1 : decide (23 < hour) = false := by simpa using h1
  go_enter Tryz.func5, Tryz.ntmps5
  go_wp2_with fail
  refine (shown4_any _ HW0.out).mono ?_
  rintro e u0 ⟨rfl, hb⟩
  have HB1 := Lib.hid (more3 HB0.out HB0.out.size hb)
  have HX1 := Lib.hid (HBX.out.below hb HBX.out.lt)
  clear hb
  go_upto_region 5 with fail
  go_cut [5] (fun v wx => ∃ (b8 b0 b1 b2 b4 b5 b6 : Nat), v = .pointer (some ⟨b8, 0, none⟩) ∧ Hid (CalAt wx wx.heap.size (hourCh b0 b1 b2 b4 b5 b6) (hourC p)) ∧ Hid (Blk wx b8 26 (hourCh b0 b1 b2 b4 b5 b6).cells) ∧ Hid (Blk wx w.heap.size 35 #[.int .i64 p.a, .int .i64 p.b, .int .i64 p.s]) ∧ Hid (Below w.heap.size w wx))
  case first =>
    refine wp_region_held_drew (S := (fun W : World => W.cell? ⟨w.heap.size, 0, none⟩ = some (.int .i64 p.a) ∧ W.cell? ⟨w.heap.size, 1, none⟩ = some (.int .i64 p.b) ∧ W.cell? ⟨w.heap.size, 2, none⟩ = some (.int .i64 p.s) ∧ Blk W w.heap.size 35 #[.int .i64 p.a, .int .i64 p.b, .int .i64 p.s] ∧ Below w.heap.size w W)) (by kernel_rfl) ?_ (fun hHeld => ?_)
    · exact partS_of (blk_drew HX1.out) HB1.out.drew
    generalize u0.drew = u0 at *
    refine wpAnyH_take (i := 3) (v := ?v3n4) rfl (by kernel_rfl) (by kernel_rfl) (by kernel_rfl) (fun _ _ _ h => h) (Or.inl ⟨by rfl, ?hy3n4⟩) (by assumption) ?_
    case hy3n4 => (intro w hSw; (try dsimp only at hSw); go_simp; (try with_reducible rfl))
    try simp only [Act.put, List.getElem_toArray, List.getElem_cons_zero, List.getElem_cons_succ, List.setIfInBounds_toArray, List.set_cons_zero, List.set_cons_succ]
    exact via7 (F := fun b0 b1 b2 b4 b5 b6 b8 u => (u.cell? ⟨w.heap.size, 0, none⟩ = some (.int .i64 p.a) ∧ u.cell? ⟨w.heap.size, 1, none⟩ = some (.int .i64 p.b) ∧ u.cell? ⟨w.heap.size, 2, none⟩ = some (.int .i64 p.s) ∧ Blk u w.heap.size 35 #[.int .i64 p.a, .int .i64 p.b, .int .i64 p.s] ∧ Below w.heap.size w u) ∧ Hid (Blk u b0 35 #[.int .i64 (-1), .int .i64 (-1), .int .i64 0]) ∧ Hid (Blk u b1 35 #[.int .i64 (-1), .int .i64 (-1), .int .i64 0]) ∧ Hid (Blk u b2 35 #[.int .i64 (-1), .int .i64 (-1), .int .i64 0]) ∧ Hid (Blk u b4 35 #[.int .i64 p.a, .int .i64 p.b, .int .i64 p.s]) ∧ Hid (Blk u b5 35 #[.int .i64 (-1), .int .i64 (-1), .int .i64 0]) ∧ Hid (Blk u b6 35 #[.int .i64 (-1), .int .i64 (-1), .int .i64 0]) ∧ Hid (Blk u b8 26 #[.slice none 0 0, .slice none 0 0, .slice none 0 0, .slice none 0 0, .slice none 0 0, .slice none 0 0, .slice none 0 0] ∧ w.heap.size ≤ b8)) (fun k0124568 => by
      exact via6 (F := fun b0 b1 b2 b4 b5 b6 u => (u.cell? ⟨w.heap.size, 0, none⟩ = some (.int .i64 p.a) ∧ u.cell? ⟨w.heap.size, 1, none⟩ = some (.int .i64 p.b) ∧ u.cell? ⟨w.heap.size, 2, none⟩ = some (.int .i64 p.s) ∧ Blk u w.heap.size 35 #[.int .i64 p.a, .int .i64 p.b, .int .i64 p.s] ∧ Below w.heap.size w u) ∧ Hid (Blk u b0 35 #[.int .i64 (-1), .int .i64 (-1), .int .i64 0]) ∧ Hid (Blk u b1 35 #[.int .i64 (-1), .int .i64 (-1), .int .i64 0]) ∧ Hid (Blk u b2 35 #[.int .i64 (-1), .int .i64 (-1), .int .i64 0]) ∧ Hid (Blk u b4 35 #[.int .i64 p.a, .int .i64 p.b, .int .i64 p.s]) ∧ Hid (Blk u b5 35 #[.int .i64 (-1), .int .i64 (-1), .int .i64 0]) ∧ Hid (Blk u b6 35 #[.int .i64 (-1), .int .i64 (-1), .int .i64 0])) (fun k012456 => by
        exact via6 (F := fun b0 b1 b2 b5 b6 b8 u => (u.cell? ⟨w.heap.size, 0, none⟩ = some (.int .i64 p.a) ∧ u.cell? ⟨w.heap.size, 1, none⟩ = some (.int .i64 p.b) ∧ u.cell? ⟨w.heap.size, 2, none⟩ = some (.int .i64 p.s) ∧ Blk u w.heap.size 35 #[.int .i64 p.a, .int .i64 p.b, .int .i64 p.s] ∧ Below w.heap.size w u) ∧ Hid (Blk u b0 35 #[.int .i64 (-1), .int .i64 (-1), .int .i64 0]) ∧ Hid (Blk u b1 35 #[.int .i64 (-1), .int .i64 (-1), .int .i64 0]) ∧ Hid (Blk u b2 35 #[.int .i64 (-1), .int .i64 (-1), .int .i64 0]) ∧ Hid (Blk u b5 35 #[.int .i64 (-1), .int .i64 (-1), .int .i64 0]) ∧ Hid (Blk u b6 35 #[.int .i64 (-1), .int .i64 (-1), .int .i64 0]) ∧ Hid (Blk u b8 26 #[.slice none 0 0, .slice none 0 0, .slice none 0 0, .slice none 0 0, .slice none 0 0, .slice none 0 0, .slice none 0 0] ∧ w.heap.size ≤ b8)) (fun k012568 => by
          exact via6 (F := fun b0 b1 b2 b4 b5 b8 u => (u.cell? ⟨w.heap.size, 0, none⟩ = some (.int .i64 p.a) ∧ u.cell? ⟨w.heap.size, 1, none⟩ = some (.int .i64 p.b) ∧ u.cell? ⟨w.heap.size, 2, none⟩ = some (.int .i64 p.s) ∧ Blk u w.heap.size 35 #[.int .i64 p.a, .int .i64 p.b, .int .i64 p.s] ∧ Below w.heap.size w u) ∧ Hid (Blk u b0 35 #[.int .i64 (-1), .int .i64 (-1), .int .i64 0]) ∧ Hid (Blk u b1 35 #[.int .i64 (-1), .int .i64 (-1), .int .i64 0]) ∧ Hid (Blk u b2 35 #[.int .i64 (-1), .int .i64 (-1), .int .i64 0]) ∧ Hid (Blk u b4 35 #[.int .i64 p.a, .int .i64 p.b, .int .i64 p.s]) ∧ Hid (Blk u b5 35 #[.int .i64 (-1), .int .i64 (-1), .int .i64 0]) ∧ Hid (Blk u b8 26 #[.slice none 0 0, .slice none 0 0, .slice none 0 0, .slice none 0 0, .slice none 0 0, .slice none 0 0, .slice none 0 0] ∧ w.heap.size ≤ b8)) (fun k012458 => by
            exact via5 (F := fun b0 b1 b2 b5 b6 u => (u.cell? ⟨w.heap.size, 0, none⟩ = some (.int .i64 p.a) ∧ u.cell? ⟨w.heap.size, 1, none⟩ = some (.int .i64 p.b) ∧ u.cell? ⟨w.heap.size, 2, none⟩ = some (.int .i64 p.s) ∧ Blk u w.heap.size 35 #[.int .i64 p.a, .int .i64 p.b, .int .i64 p.s] ∧ Below w.heap.size w u) ∧ Hid (Blk u b0 35 #[.int .i64 (-1), .int .i64 (-1), .int .i64 0]) ∧ Hid (Blk u b1 35 #[.int .i64 (-1), .int .i64 (-1), .int .i64 0]) ∧ Hid (Blk u b2 35 #[.int .i64 (-1), .int .i64 (-1), .int .i64 0]) ∧ Hid (Blk u b5 35 #[.int .i64 (-1), .int .i64 (-1), .int .i64 0]) ∧ Hid (Blk u b6 35 #[.int .i64 (-1), .int .i64 (-1), .int .i64 0])) (fun k01256 => by
              exact via5 (F := fun b0 b1 b2 b4 b5 u => (u.cell? ⟨w.heap.size, 0, none⟩ = some (.int .i64 p.a) ∧ u.cell? ⟨w.heap.size, 1, none⟩ = some (.int .i64 p.b) ∧ u.cell? ⟨w.heap.size, 2, none⟩ = some (.int .i64 p.s) ∧ Blk u w.heap.size 35 #[.int .i64 p.a, .int .i64 p.b, .int .i64 p.s] ∧ Below w.heap.size w u) ∧ Hid (Blk u b0 35 #[.int .i64 (-1), .int .i64 (-1), .int .i64 0]) ∧ Hid (Blk u b1 35 #[.int .i64 (-1), .int .i64 (-1), .int .i64 0]) ∧ Hid (Blk u b2 35 #[.int .i64 (-1), .int .i64 (-1), .int .i64 0]) ∧ Hid (Blk u b4 35 #[.int .i64 p.a, .int .i64 p.b, .int .i64 p.s]) ∧ Hid (Blk u b5 35 #[.int .i64 (-1), .int .i64 (-1), .int .i64 0])) (fun k01245 => by
                exact via5 (F := fun b0 b1 b2 b5 b8 u => (u.cell? ⟨w.heap.size, 0, none⟩ = some (.int .i64 p.a) ∧ u.cell? ⟨w.heap.size, 1, none⟩ = some (.int .i64 p.b) ∧ u.cell? ⟨w.heap.size, 2, none⟩ = some (.int .i64 p.s) ∧ Blk u w.heap.size 35 #[.int .i64 p.a, .int .i64 p.b, .int .i64 p.s] ∧ Below w.heap.size w u) ∧ Hid (Blk u b0 35 #[.int .i64 (-1), .int .i64 (-1), .int .i64 0]) ∧ Hid (Blk u b1 35 #[.int .i64 (-1), .int .i64 (-1), .int .i64 0]) ∧ Hid (Blk u b2 35 #[.int .i64 (-1), .int .i64 (-1), .int .i64 0]) ∧ Hid (Blk u b5 35 #[.int .i64 (-1), .int .i64 (-1), .int .i64 0]) ∧ Hid (Blk u b8 26 #[.slice none 0 0, .slice none 0 0, .slice none 0 0, .slice none 0 0, .slice none 0 0, .slice none 0 0, .slice none 0 0] ∧ w.heap.size ≤ b8)) (fun k01258 => by
                  exact via5 (F := fun b0 b1 b2 b4 b8 u => (u.cell? ⟨w.heap.size, 0, none⟩ = some (.int .i64 p.a) ∧ u.cell? ⟨w.heap.size, 1, none⟩ = some (.int .i64 p.b) ∧ u.cell? ⟨w.heap.size, 2, none⟩ = some (.int .i64 p.s) ∧ Blk u w.heap.size 35 #[.int .i64 p.a, .int .i64 p.b, .int .i64 p.s] ∧ Below w.heap.size w u) ∧ Hid (Blk u b0 35 #[.int .i64 (-1), .int .i64 (-1), .int .i64 0]) ∧ Hid (Blk u b1 35 #[.int .i64 (-1), .int .i64 (-1), .int .i64 0]) ∧ Hid (Blk u b2 35 #[.int .i64 (-1), .int .i64 (-1), .int .i64 0]) ∧ Hid (Blk u b4 35 #[.int .i64 p.a, .int .i64 p.b, .int .i64 p.s]) ∧ Hid (Blk u b8 26 #[.slice none 0 0, .slice none 0 0, .slice none 0 0, .slice none 0 0, .slice none 0 0, .slice none 0 0, .slice none 0 0] ∧ w.heap.size ≤ b8)) (fun k01248 => by
                    exact via4 (F := fun b0 b1 b2 b5 u => (u.cell? ⟨w.heap.size, 0, none⟩ = some (.int .i64 p.a) ∧ u.cell? ⟨w.heap.size, 1, none⟩ = some (.int .i64 p.b) ∧ u.cell? ⟨w.heap.size, 2, none⟩ = some (.int .i64 p.s) ∧ Blk u w.heap.size 35 #[.int .i64 p.a, .int .i64 p.b, .int .i64 p.s] ∧ Below w.heap.size w u) ∧ Hid (Blk u b0 35 #[.int .i64 (-1), .int .i64 (-1), .int .i64 0]) ∧ Hid (Blk u b1 35 #[.int .i64 (-1), .int .i64 (-1), .int .i64 0]) ∧ Hid (Blk u b2 35 #[.int .i64 (-1), .int .i64 (-1), .int .i64 0]) ∧ Hid (Blk u b5 35 #[.int .i64 (-1), .int .i64 (-1), .int .i64 0])) (fun k0125 => by
                      exact via4 (F := fun b0 b1 b2 b4 u => (u.cell? ⟨w.heap.size, 0, none⟩ = some (.int .i64 p.a) ∧ u.cell? ⟨w.heap.size, 1, none⟩ = some (.int .i64 p.b) ∧ u.cell? ⟨w.heap.size, 2, none⟩ = some (.int .i64 p.s) ∧ Blk u w.heap.size 35 #[.int .i64 p.a, .int .i64 p.b, .int .i64 p.s] ∧ Below w.heap.size w u) ∧ Hid (Blk u b0 35 #[.int .i64 (-1), .int .i64 (-1), .int .i64 0]) ∧ Hid (Blk u b1 35 #[.int .i64 (-1), .int .i64 (-1), .int .i64 0]) ∧ Hid (Blk u b2 35 #[.int .i64 (-1), .int .i64 (-1), .int .i64 0]) ∧ Hid (Blk u b4 35 #[.int .i64 p.a, .int .i64 p.b, .int .i64 p.s])) (fun k0124 => by
                        exact via4 (F := fun b0 b1 b2 b8 u => (u.cell? ⟨w.heap.size, 0, none⟩ = some (.int .i64 p.a) ∧ u.cell? ⟨w.heap.size, 1, none⟩ = some (.int .i64 p.b) ∧ u.cell? ⟨w.heap.size, 2, none⟩ = some (.int .i64 p.s) ∧ Blk u w.heap.size 35 #[.int .i64 p.a, .int .i64 p.b, .int .i64 p.s] ∧ Below w.heap.size w u) ∧ Hid (Blk u b0 35 #[.int .i64 (-1), .int .i64 (-1), .int .i64 0]) ∧ Hid (Blk u b1 35 #[.int .i64 (-1), .int .i64 (-1), .int .i64 0]) ∧ Hid (Blk u b2 35 #[.int .i64 (-1), .int .i64 (-1), .int .i64 0]) ∧ Hid (Blk u b8 26 #[.slice none 0 0, .slice none 0 0, .slice none 0 0, .slice none 0 0, .slice none 0 0, .slice none 0 0, .slice none 0 0] ∧ w.heap.size ≤ b8)) (fun k0128 => by
                          exact via4 (F := fun b0 b1 b4 b8 u => (u.cell? ⟨w.heap.size, 0, none⟩ = some (.int .i64 p.a) ∧ u.cell? ⟨w.heap.size, 1, none⟩ = some (.int .i64 p.b) ∧ u.cell? ⟨w.heap.size, 2, none⟩ = some (.int .i64 p.s) ∧ Blk u w.heap.size 35 #[.int .i64 p.a, .int .i64 p.b, .int .i64 p.s] ∧ Below w.heap.size w u) ∧ Hid (Blk u b0 35 #[.int .i64 (-1), .int .i64 (-1), .int .i64 0]) ∧ Hid (Blk u b1 35 #[.int .i64 (-1), .int .i64 (-1), .int .i64 0]) ∧ Hid (Blk u b4 35 #[.int .i64 p.a, .int .i64 p.b, .int .i64 p.s]) ∧ Hid (Blk u b8 26 #[.slice none 0 0, .slice none 0 0, .slice none 0 0, .slice none 0 0, .slice none 0 0, .slice none 0 0, .slice none 0 0] ∧ w.heap.size ≤ b8)) (fun k0148 => by
                            exact via3 (F := fun b0 b1 b2 u => (u.cell? ⟨w.heap.size, 0, none⟩ = some (.int .i64 p.a) ∧ u.cell? ⟨w.heap.size, 1, none⟩ = some (.int .i64 p.b) ∧ u.cell? ⟨w.heap.size, 2, none⟩ = some (.int .i64 p.s) ∧ Blk u w.heap.size 35 #[.int .i64 p.a, .int .i64 p.b, .int .i64 p.s] ∧ Below w.heap.size w u) ∧ Hid (Blk u b0 35 #[.int .i64 (-1), .int .i64 (-1), .int .i64 0]) ∧ Hid (Blk u b1 35 #[.int .i64 (-1), .int .i64 (-1), .int .i64 0]) ∧ Hid (Blk u b2 35 #[.int .i64 (-1), .int .i64 (-1), .int .i64 0])) (fun k012 => by
                              exact via3 (F := fun b0 b1 b4 u => (u.cell? ⟨w.heap.size, 0, none⟩ = some (.int .i64 p.a) ∧ u.cell? ⟨w.heap.size, 1, none⟩ = some (.int .i64 p.b) ∧ u.cell? ⟨w.heap.size, 2, none⟩ = some (.int .i64 p.s) ∧ Blk u w.heap.size 35 #[.int .i64 p.a, .int .i64 p.b, .int .i64 p.s] ∧ Below w.heap.size w u) ∧ Hid (Blk u b0 35 #[.int .i64 (-1), .int .i64 (-1), .int .i64 0]) ∧ Hid (Blk u b1 35 #[.int .i64 (-1), .int .i64 (-1), .int .i64 0]) ∧ Hid (Blk u b4 35 #[.int .i64 p.a, .int .i64 p.b, .int .i64 p.s])) (fun k014 => by
                                exact via3 (F := fun b0 b1 b8 u => (u.cell? ⟨w.heap.size, 0, none⟩ = some (.int .i64 p.a) ∧ u.cell? ⟨w.heap.size, 1, none⟩ = some (.int .i64 p.b) ∧ u.cell? ⟨w.heap.size, 2, none⟩ = some (.int .i64 p.s) ∧ Blk u w.heap.size 35 #[.int .i64 p.a, .int .i64 p.b, .int .i64 p.s] ∧ Below w.heap.size w u) ∧ Hid (Blk u b0 35 #[.int .i64 (-1), .int .i64 (-1), .int .i64 0]) ∧ Hid (Blk u b1 35 #[.int .i64 (-1), .int .i64 (-1), .int .i64 0]) ∧ Hid (Blk u b8 26 #[.slice none 0 0, .slice none 0 0, .slice none 0 0, .slice none 0 0, .slice none 0 0, .slice none 0 0, .slice none 0 0] ∧ w.heap.size ≤ b8)) (fun k018 => by
                                  exact via3 (F := fun b0 b4 b8 u => (u.cell? ⟨w.heap.size, 0, none⟩ = some (.int .i64 p.a) ∧ u.cell? ⟨w.heap.size, 1, none⟩ = some (.int .i64 p.b) ∧ u.cell? ⟨w.heap.size, 2, none⟩ = some (.int .i64 p.s) ∧ Blk u w.heap.size 35 #[.int .i64 p.a, .int .i64 p.b, .int .i64 p.s] ∧ Below w.heap.size w u) ∧ Hid (Blk u b0 35 #[.int .i64 (-1), .int .i64 (-1), .int .i64 0]) ∧ Hid (Blk u b4 35 #[.int .i64 p.a, .int .i64 p.b, .int .i64 p.s]) ∧ Hid (Blk u b8 26 #[.slice none 0 0, .slice none 0 0, .slice none 0 0, .slice none 0 0, .slice none 0 0, .slice none 0 0, .slice none 0 0] ∧ w.heap.size ≤ b8)) (fun k048 => by
                                    exact via2 (F := fun b0 b1 u => (u.cell? ⟨w.heap.size, 0, none⟩ = some (.int .i64 p.a) ∧ u.cell? ⟨w.heap.size, 1, none⟩ = some (.int .i64 p.b) ∧ u.cell? ⟨w.heap.size, 2, none⟩ = some (.int .i64 p.s) ∧ Blk u w.heap.size 35 #[.int .i64 p.a, .int .i64 p.b, .int .i64 p.s] ∧ Below w.heap.size w u) ∧ Hid (Blk u b0 35 #[.int .i64 (-1), .int .i64 (-1), .int .i64 0]) ∧ Hid (Blk u b1 35 #[.int .i64 (-1), .int .i64 (-1), .int .i64 0])) (fun k01 => by
                                      exact via2 (F := fun b0 b4 u => (u.cell? ⟨w.heap.size, 0, none⟩ = some (.int .i64 p.a) ∧ u.cell? ⟨w.heap.size, 1, none⟩ = some (.int .i64 p.b) ∧ u.cell? ⟨w.heap.size, 2, none⟩ = some (.int .i64 p.s) ∧ Blk u w.heap.size 35 #[.int .i64 p.a, .int .i64 p.b, .int .i64 p.s] ∧ Below w.heap.size w u) ∧ Hid (Blk u b0 35 #[.int .i64 (-1), .int .i64 (-1), .int .i64 0]) ∧ Hid (Blk u b4 35 #[.int .i64 p.a, .int .i64 p.b, .int .i64 p.s])) (fun k04 => by
                                        exact via2 (F := fun b0 b8 u => (u.cell? ⟨w.heap.size, 0, none⟩ = some (.int .i64 p.a) ∧ u.cell? ⟨w.heap.size, 1, none⟩ = some (.int .i64 p.b) ∧ u.cell? ⟨w.heap.size, 2, none⟩ = some (.int .i64 p.s) ∧ Blk u w.heap.size 35 #[.int .i64 p.a, .int .i64 p.b, .int .i64 p.s] ∧ Below w.heap.size w u) ∧ Hid (Blk u b0 35 #[.int .i64 (-1), .int .i64 (-1), .int .i64 0]) ∧ Hid (Blk u b8 26 #[.slice none 0 0, .slice none 0 0, .slice none 0 0, .slice none 0 0, .slice none 0 0, .slice none 0 0, .slice none 0 0] ∧ w.heap.size ≤ b8)) (fun k08 => by
                                          exact via2 (F := fun b4 b8 u => (u.cell? ⟨w.heap.size, 0, none⟩ = some (.int .i64 p.a) ∧ u.cell? ⟨w.heap.size, 1, none⟩ = some (.int .i64 p.b) ∧ u.cell? ⟨w.heap.size, 2, none⟩ = some (.int .i64 p.s) ∧ Blk u w.heap.size 35 #[.int .i64 p.a, .int .i64 p.b, .int .i64 p.s] ∧ Below w.heap.size w u) ∧ Hid (Blk u b4 35 #[.int .i64 p.a, .int .i64 p.b, .int .i64 p.s]) ∧ Hid (Blk u b8 26 #[.slice none 0 0, .slice none 0 0, .slice none 0 0, .slice none 0 0, .slice none 0 0, .slice none 0 0, .slice none 0 0] ∧ w.heap.size ≤ b8)) (fun k48 => by
                                            exact via1 (F := fun b0 u => (u.cell? ⟨w.heap.size, 0, none⟩ = some (.int .i64 p.a) ∧ u.cell? ⟨w.heap.size, 1, none⟩ = some (.int .i64 p.b) ∧ u.cell? ⟨w.heap.size, 2, none⟩ = some (.int .i64 p.s) ∧ Blk u w.heap.size 35 #[.int .i64 p.a, .int .i64 p.b, .int .i64 p.s] ∧ Below w.heap.size w u) ∧ Hid (Blk u b0 35 #[.int .i64 (-1), .int .i64 (-1), .int .i64 0])) (fun k0 => by
                                              exact via1 (F := fun b4 u => (u.cell? ⟨w.heap.size, 0, none⟩ = some (.int .i64 p.a) ∧ u.cell? ⟨w.heap.size, 1, none⟩ = some (.int .i64 p.b) ∧ u.cell? ⟨w.heap.size, 2, none⟩ = some (.int .i64 p.s) ∧ Blk u w.heap.size 35 #[.int .i64 p.a, .int .i64 p.b, .int .i64 p.s] ∧ Below w.heap.size w u) ∧ Hid (Blk u b4 35 #[.int .i64 p.a, .int .i64 p.b, .int .i64 p.s])) (fun k4 => by
                                                exact via1 (F := fun b8 u => (u.cell? ⟨w.heap.size, 0, none⟩ = some (.int .i64 p.a) ∧ u.cell? ⟨w.heap.size, 1, none⟩ = some (.int .i64 p.b) ∧ u.cell? ⟨w.heap.size, 2, none⟩ = some (.int .i64 p.s) ∧ Blk u w.heap.size 35 #[.int .i64 p.a, .int .i64 p.b, .int .i64 p.s] ∧ Below w.heap.size w u) ∧ Hid (Blk u b8 26 #[.slice none 0 0, .slice none 0 0, .slice none 0 0, .slice none 0 0, .slice none 0 0, .slice none 0 0, .slice none 0 0] ∧ w.heap.size ≤ b8)) (fun k8 => by
                                                  refine wpAnyH_ready (rs := [0, 4, 8]) (by kernel_rfl) (by simp) ?_
                                                  refine AllReadyH.cons rfl (fun K hK => ?_) (AllReadyH.cons rfl (fun K hK => ?_) (AllReadyH.cons rfl (fun K hK => ?_) AllReadyH.nil))
                                                  · go_simp
                                                    refine (all_blk _).mono ?_
                                                    rintro e u' ⟨b0, rfl, hF, hx, hL⟩
                                                    refine hK.out _ _ ?_ (fun hHeld2 => ?_)
                                                    · exact partS_step hHeld hx hL
                                                    clear hK K
                                                    try simp only [Act.put, List.getElem_toArray, List.getElem_cons_zero, List.getElem_cons_succ, List.setIfInBounds_toArray, List.set_cons_zero, List.set_cons_succ]
                                                    exact k0 b0 u' ⟨hHeld2, Lib.hid hF⟩
                                                  · go_simp
                                                    obtain ⟨b4, u', eb, ew, hF, hx, hL⟩ := grow_one u0 #[.int .i64 p.a, .int .i64 p.b, .int .i64 p.s] 35
                                                    simp only [eb, ew]
                                                    have hge := Nat.le_of_eq eb
                                                    clear eb ew
                                                    refine hK.out _ _ ?_ (fun hHeld2 => ?_)
                                                    · exact partS_step hHeld hx hL
                                                    clear hK K
                                                    try simp only [Act.put, List.getElem_toArray, List.getElem_cons_zero, List.getElem_cons_succ, List.setIfInBounds_toArray, List.set_cons_zero, List.set_cons_succ]
                                                    exact k4 b4 u' ⟨hHeld2, Lib.hid hF⟩
                                                  · go_simp
                                                    obtain ⟨b8, u', eb, ew, hF, hx, hL⟩ := grow_one u0 #[.slice none 0 0, .slice none 0 0, .slice none 0 0, .slice none 0 0, .slice none 0 0, .slice none 0 0, .slice none 0 0] 26
                                                    simp only [eb, ew]
                                                    have hge := Nat.le_of_eq eb
                                                    clear eb ew
                                                    refine hK.out _ _ ?_ (fun hHeld2 => ?_)
                                                    · exact partS_step hHeld hx hL
                                                    clear hK K
                                                    try simp only [Act.put, List.getElem_toArray, List.getElem_cons_zero, List.getElem_cons_succ, List.setIfInBounds_toArray, List.set_cons_zero, List.set_cons_succ]
                                                    exact k8 b8 u' ⟨hHeld2, Lib.hid ⟨hF, Nat.le_trans hHeld.2.2.2.2.size hge⟩⟩
                                                  ) (fun b8 u hF => by
                                                  obtain ⟨hHeld, F8⟩ := hF
                                                  refine wpAnyH_ready (rs := [0, 4]) (by kernel_rfl) (by simp) ?_
                                                  refine AllReadyH.cons rfl (fun K hK => ?_) (AllReadyH.cons rfl (fun K hK => ?_) AllReadyH.nil)
                                                  · go_simp
                                                    refine (all_blk _).mono ?_
                                                    rintro e u' ⟨b0, rfl, hF, hx, hL⟩
                                                    refine hK.out _ _ ?_ (fun hHeld2 => ?_)
                                                    · exact partS_step hHeld hx hL
                                                    clear hK K
                                                    try simp only [Act.put, List.getElem_toArray, List.getElem_cons_zero, List.getElem_cons_succ, List.setIfInBounds_toArray, List.set_cons_zero, List.set_cons_succ]
                                                    exact k08 b0 b8 u' ⟨hHeld2, Lib.hid hF, Lib.hid ⟨hx F8.out.1, F8.out.2⟩⟩
                                                  · go_simp
                                                    obtain ⟨b4, u', eb, ew, hF, hx, hL⟩ := grow_one u #[.int .i64 p.a, .int .i64 p.b, .int .i64 p.s] 35
                                                    simp only [eb, ew]
                                                    have hge := Nat.le_of_eq eb
                                                    clear eb ew
                                                    refine hK.out _ _ ?_ (fun hHeld2 => ?_)
                                                    · exact partS_step hHeld hx hL
                                                    clear hK K
                                                    try simp only [Act.put, List.getElem_toArray, List.getElem_cons_zero, List.getElem_cons_succ, List.setIfInBounds_toArray, List.set_cons_zero, List.set_cons_succ]
                                                    exact k48 b4 b8 u' ⟨hHeld2, Lib.hid hF, Lib.hid ⟨hx F8.out.1, F8.out.2⟩⟩
                                                  )
                                                ) (fun b4 u hF => by
                                                obtain ⟨hHeld, F4⟩ := hF
                                                refine wpAnyH_ready (rs := [0, 8]) (by kernel_rfl) (by simp) ?_
                                                refine AllReadyH.cons rfl (fun K hK => ?_) (AllReadyH.cons rfl (fun K hK => ?_) AllReadyH.nil)
                                                · go_simp
                                                  refine (all_blk _).mono ?_
                                                  rintro e u' ⟨b0, rfl, hF, hx, hL⟩
                                                  refine hK.out _ _ ?_ (fun hHeld2 => ?_)
                                                  · exact partS_step hHeld hx hL
                                                  clear hK K
                                                  try simp only [Act.put, List.getElem_toArray, List.getElem_cons_zero, List.getElem_cons_succ, List.setIfInBounds_toArray, List.set_cons_zero, List.set_cons_succ]
                                                  exact k04 b0 b4 u' ⟨hHeld2, Lib.hid hF, Lib.hid (hx F4.out)⟩
                                                · go_simp
                                                  obtain ⟨b8, u', eb, ew, hF, hx, hL⟩ := grow_one u #[.slice none 0 0, .slice none 0 0, .slice none 0 0, .slice none 0 0, .slice none 0 0, .slice none 0 0, .slice none 0 0] 26
                                                  simp only [eb, ew]
                                                  have hge := Nat.le_of_eq eb
                                                  clear eb ew
                                                  refine hK.out _ _ ?_ (fun hHeld2 => ?_)
                                                  · exact partS_step hHeld hx hL
                                                  clear hK K
                                                  try simp only [Act.put, List.getElem_toArray, List.getElem_cons_zero, List.getElem_cons_succ, List.setIfInBounds_toArray, List.set_cons_zero, List.set_cons_succ]
                                                  exact k48 b4 b8 u' ⟨hHeld2, Lib.hid (hx F4.out), Lib.hid ⟨hF, Nat.le_trans hHeld.2.2.2.2.size hge⟩⟩
                                                )
                                              ) (fun b0 u hF => by
                                              obtain ⟨hHeld, F0⟩ := hF
                                              refine wpAnyH_ready (rs := [1, 4, 8]) (by kernel_rfl) (by simp) ?_
                                              refine AllReadyH.cons rfl (fun K hK => ?_) (AllReadyH.cons rfl (fun K hK => ?_) (AllReadyH.cons rfl (fun K hK => ?_) AllReadyH.nil))
                                              · go_simp
                                                refine (all_blk _).mono ?_
                                                rintro e u' ⟨b1, rfl, hF, hx, hL⟩
                                                refine hK.out _ _ ?_ (fun hHeld2 => ?_)
                                                · exact partS_step hHeld hx hL
                                                clear hK K
                                                try simp only [Act.put, List.getElem_toArray, List.getElem_cons_zero, List.getElem_cons_succ, List.setIfInBounds_toArray, List.set_cons_zero, List.set_cons_succ]
                                                exact k01 b0 b1 u' ⟨hHeld2, Lib.hid (hx F0.out), Lib.hid hF⟩
                                              · go_simp
                                                obtain ⟨b4, u', eb, ew, hF, hx, hL⟩ := grow_one u #[.int .i64 p.a, .int .i64 p.b, .int .i64 p.s] 35
                                                simp only [eb, ew]
                                                have hge := Nat.le_of_eq eb
                                                clear eb ew
                                                refine hK.out _ _ ?_ (fun hHeld2 => ?_)
                                                · exact partS_step hHeld hx hL
                                                clear hK K
                                                try simp only [Act.put, List.getElem_toArray, List.getElem_cons_zero, List.getElem_cons_succ, List.setIfInBounds_toArray, List.set_cons_zero, List.set_cons_succ]
                                                exact k04 b0 b4 u' ⟨hHeld2, Lib.hid (hx F0.out), Lib.hid hF⟩
                                              · go_simp
                                                obtain ⟨b8, u', eb, ew, hF, hx, hL⟩ := grow_one u #[.slice none 0 0, .slice none 0 0, .slice none 0 0, .slice none 0 0, .slice none 0 0, .slice none 0 0, .slice none 0 0] 26
                                                simp only [eb, ew]
                                                have hge := Nat.le_of_eq eb
                                                clear eb ew
                                                refine hK.out _ _ ?_ (fun hHeld2 => ?_)
                                                · exact partS_step hHeld hx hL
                                                clear hK K
                                                try simp only [Act.put, List.getElem_toArray, List.getElem_cons_zero, List.getElem_cons_succ, List.setIfInBounds_toArray, List.set_cons_zero, List.set_cons_succ]
                                                exact k08 b0 b8 u' ⟨hHeld2, Lib.hid (hx F0.out), Lib.hid ⟨hF, Nat.le_trans hHeld.2.2.2.2.size hge⟩⟩
                                              )
                                            ) (fun b4 b8 u hF => by
                                            obtain ⟨hHeld, F4, F8⟩ := hF
                                            refine wpAnyH_ready (rs := [0]) (by kernel_rfl) (by simp) ?_
                                            refine AllReadyH.cons rfl (fun K hK => ?_) AllReadyH.nil
                                            · go_simp
                                              refine (all_blk _).mono ?_
                                              rintro e u' ⟨b0, rfl, hF, hx, hL⟩
                                              refine hK.out _ _ ?_ (fun hHeld2 => ?_)
                                              · exact partS_step hHeld hx hL
                                              clear hK K
                                              try simp only [Act.put, List.getElem_toArray, List.getElem_cons_zero, List.getElem_cons_succ, List.setIfInBounds_toArray, List.set_cons_zero, List.set_cons_succ]
                                              exact k048 b0 b4 b8 u' ⟨hHeld2, Lib.hid hF, Lib.hid (hx F4.out), Lib.hid ⟨hx F8.out.1, F8.out.2⟩⟩
                                            )
                                          ) (fun b0 b8 u hF => by
                                          obtain ⟨hHeld, F0, F8⟩ := hF
                                          refine wpAnyH_ready (rs := [1, 4]) (by kernel_rfl) (by simp) ?_
                                          refine AllReadyH.cons rfl (fun K hK => ?_) (AllReadyH.cons rfl (fun K hK => ?_) AllReadyH.nil)
                                          · go_simp
                                            refine (all_blk _).mono ?_
                                            rintro e u' ⟨b1, rfl, hF, hx, hL⟩
                                            refine hK.out _ _ ?_ (fun hHeld2 => ?_)
                                            · exact partS_step hHeld hx hL
                                            clear hK K
                                            try simp only [Act.put, List.getElem_toArray, List.getElem_cons_zero, List.getElem_cons_succ, List.setIfInBounds_toArray, List.set_cons_zero, List.set_cons_succ]
                                            exact k018 b0 b1 b8 u' ⟨hHeld2, Lib.hid (hx F0.out), Lib.hid hF, Lib.hid ⟨hx F8.out.1, F8.out.2⟩⟩
                                          · go_simp
                                            obtain ⟨b4, u', eb, ew, hF, hx, hL⟩ := grow_one u #[.int .i64 p.a, .int .i64 p.b, .int .i64 p.s] 35
                                            simp only [eb, ew]
                                            have hge := Nat.le_of_eq eb
                                            clear eb ew
                                            refine hK.out _ _ ?_ (fun hHeld2 => ?_)
                                            · exact partS_step hHeld hx hL
                                            clear hK K
                                            try simp only [Act.put, List.getElem_toArray, List.getElem_cons_zero, List.getElem_cons_succ, List.setIfInBounds_toArray, List.set_cons_zero, List.set_cons_succ]
                                            exact k048 b0 b4 b8 u' ⟨hHeld2, Lib.hid (hx F0.out), Lib.hid hF, Lib.hid ⟨hx F8.out.1, F8.out.2⟩⟩
                                          )
                                        ) (fun b0 b4 u hF => by
                                        obtain ⟨hHeld, F0, F4⟩ := hF
                                        refine wpAnyH_ready (rs := [1, 8]) (by kernel_rfl) (by simp) ?_
                                        refine AllReadyH.cons rfl (fun K hK => ?_) (AllReadyH.cons rfl (fun K hK => ?_) AllReadyH.nil)
                                        · go_simp
                                          refine (all_blk _).mono ?_
                                          rintro e u' ⟨b1, rfl, hF, hx, hL⟩
                                          refine hK.out _ _ ?_ (fun hHeld2 => ?_)
                                          · exact partS_step hHeld hx hL
                                          clear hK K
                                          try simp only [Act.put, List.getElem_toArray, List.getElem_cons_zero, List.getElem_cons_succ, List.setIfInBounds_toArray, List.set_cons_zero, List.set_cons_succ]
                                          exact k014 b0 b1 b4 u' ⟨hHeld2, Lib.hid (hx F0.out), Lib.hid hF, Lib.hid (hx F4.out)⟩
                                        · go_simp
                                          obtain ⟨b8, u', eb, ew, hF, hx, hL⟩ := grow_one u #[.slice none 0 0, .slice none 0 0, .slice none 0 0, .slice none 0 0, .slice none 0 0, .slice none 0 0, .slice none 0 0] 26
                                          simp only [eb, ew]
                                          have hge := Nat.le_of_eq eb
                                          clear eb ew
                                          refine hK.out _ _ ?_ (fun hHeld2 => ?_)
                                          · exact partS_step hHeld hx hL
                                          clear hK K
                                          try simp only [Act.put, List.getElem_toArray, List.getElem_cons_zero, List.getElem_cons_succ, List.setIfInBounds_toArray, List.set_cons_zero, List.set_cons_succ]
                                          exact k048 b0 b4 b8 u' ⟨hHeld2, Lib.hid (hx F0.out), Lib.hid (hx F4.out), Lib.hid ⟨hF, Nat.le_trans hHeld.2.2.2.2.size hge⟩⟩
                                        )
                                      ) (fun b0 b1 u hF => by
                                      obtain ⟨hHeld, F0, F1⟩ := hF
                                      refine wpAnyH_ready (rs := [2, 4, 8]) (by kernel_rfl) (by simp) ?_
                                      refine AllReadyH.cons rfl (fun K hK => ?_) (AllReadyH.cons rfl (fun K hK => ?_) (AllReadyH.cons rfl (fun K hK => ?_) AllReadyH.nil))
                                      · go_simp
                                        refine (all_blk _).mono ?_
                                        rintro e u' ⟨b2, rfl, hF, hx, hL⟩
                                        refine hK.out _ _ ?_ (fun hHeld2 => ?_)
                                        · exact partS_step hHeld hx hL
                                        clear hK K
                                        try simp only [Act.put, List.getElem_toArray, List.getElem_cons_zero, List.getElem_cons_succ, List.setIfInBounds_toArray, List.set_cons_zero, List.set_cons_succ]
                                        exact k012 b0 b1 b2 u' ⟨hHeld2, Lib.hid (hx F0.out), Lib.hid (hx F1.out), Lib.hid hF⟩
                                      · go_simp
                                        obtain ⟨b4, u', eb, ew, hF, hx, hL⟩ := grow_one u #[.int .i64 p.a, .int .i64 p.b, .int .i64 p.s] 35
                                        simp only [eb, ew]
                                        have hge := Nat.le_of_eq eb
                                        clear eb ew
                                        refine hK.out _ _ ?_ (fun hHeld2 => ?_)
                                        · exact partS_step hHeld hx hL
                                        clear hK K
                                        try simp only [Act.put, List.getElem_toArray, List.getElem_cons_zero, List.getElem_cons_succ, List.setIfInBounds_toArray, List.set_cons_zero, List.set_cons_succ]
                                        exact k014 b0 b1 b4 u' ⟨hHeld2, Lib.hid (hx F0.out), Lib.hid (hx F1.out), Lib.hid hF⟩
                                      · go_simp
                                        obtain ⟨b8, u', eb, ew, hF, hx, hL⟩ := grow_one u #[.slice none 0 0, .slice none 0 0, .slice none 0 0, .slice none 0 0, .slice none 0 0, .slice none 0 0, .slice none 0 0] 26
                                        simp only [eb, ew]
                                        have hge := Nat.le_of_eq eb
                                        clear eb ew
                                        refine hK.out _ _ ?_ (fun hHeld2 => ?_)
                                        · exact partS_step hHeld hx hL
                                        clear hK K
                                        try simp only [Act.put, List.getElem_toArray, List.getElem_cons_zero, List.getElem_cons_succ, List.setIfInBounds_toArray, List.set_cons_zero, List.set_cons_succ]
                                        exact k018 b0 b1 b8 u' ⟨hHeld2, Lib.hid (hx F0.out), Lib.hid (hx F1.out), Lib.hid ⟨hF, Nat.le_trans hHeld.2.2.2.2.size hge⟩⟩
                                      )
                                    ) (fun b0 b4 b8 u hF => by
                                    obtain ⟨hHeld, F0, F4, F8⟩ := hF
                                    refine wpAnyH_ready (rs := [1]) (by kernel_rfl) (by simp) ?_
                                    refine AllReadyH.cons rfl (fun K hK => ?_) AllReadyH.nil
                                    · go_simp
                                      refine (all_blk _).mono ?_
                                      rintro e u' ⟨b1, rfl, hF, hx, hL⟩
                                      refine hK.out _ _ ?_ (fun hHeld2 => ?_)
                                      · exact partS_step hHeld hx hL
                                      clear hK K
                                      try simp only [Act.put, List.getElem_toArray, List.getElem_cons_zero, List.getElem_cons_succ, List.setIfInBounds_toArray, List.set_cons_zero, List.set_cons_succ]
                                      exact k0148 b0 b1 b4 b8 u' ⟨hHeld2, Lib.hid (hx F0.out), Lib.hid hF, Lib.hid (hx F4.out), Lib.hid ⟨hx F8.out.1, F8.out.2⟩⟩
                                    )
                                  ) (fun b0 b1 b8 u hF => by
                                  obtain ⟨hHeld, F0, F1, F8⟩ := hF
                                  refine wpAnyH_ready (rs := [2, 4]) (by kernel_rfl) (by simp) ?_
                                  refine AllReadyH.cons rfl (fun K hK => ?_) (AllReadyH.cons rfl (fun K hK => ?_) AllReadyH.nil)
                                  · go_simp
                                    refine (all_blk _).mono ?_
                                    rintro e u' ⟨b2, rfl, hF, hx, hL⟩
                                    refine hK.out _ _ ?_ (fun hHeld2 => ?_)
                                    · exact partS_step hHeld hx hL
                                    clear hK K
                                    try simp only [Act.put, List.getElem_toArray, List.getElem_cons_zero, List.getElem_cons_succ, List.setIfInBounds_toArray, List.set_cons_zero, List.set_cons_succ]
                                    exact k0128 b0 b1 b2 b8 u' ⟨hHeld2, Lib.hid (hx F0.out), Lib.hid (hx F1.out), Lib.hid hF, Lib.hid ⟨hx F8.out.1, F8.out.2⟩⟩
                                  · go_simp
                                    obtain ⟨b4, u', eb, ew, hF, hx, hL⟩ := grow_one u #[.int .i64 p.a, .int .i64 p.b, .int .i64 p.s] 35
                                    simp only [eb, ew]
                                    have hge := Nat.le_of_eq eb
                                    clear eb ew
                                    refine hK.out _ _ ?_ (fun hHeld2 => ?_)
                                    · exact partS_step hHeld hx hL
                                    clear hK K
                                    try simp only [Act.put, List.getElem_toArray, List.getElem_cons_zero, List.getElem_cons_succ, List.setIfInBounds_toArray, List.set_cons_zero, List.set_cons_succ]
                                    exact k0148 b0 b1 b4 b8 u' ⟨hHeld2, Lib.hid (hx F0.out), Lib.hid (hx F1.out), Lib.hid hF, Lib.hid ⟨hx F8.out.1, F8.out.2⟩⟩
                                  )
                                ) (fun b0 b1 b4 u hF => by
                                obtain ⟨hHeld, F0, F1, F4⟩ := hF
                                refine wpAnyH_ready (rs := [2, 8]) (by kernel_rfl) (by simp) ?_
                                refine AllReadyH.cons rfl (fun K hK => ?_) (AllReadyH.cons rfl (fun K hK => ?_) AllReadyH.nil)
                                · go_simp
                                  refine (all_blk _).mono ?_
                                  rintro e u' ⟨b2, rfl, hF, hx, hL⟩
                                  refine hK.out _ _ ?_ (fun hHeld2 => ?_)
                                  · exact partS_step hHeld hx hL
                                  clear hK K
                                  try simp only [Act.put, List.getElem_toArray, List.getElem_cons_zero, List.getElem_cons_succ, List.setIfInBounds_toArray, List.set_cons_zero, List.set_cons_succ]
                                  exact k0124 b0 b1 b2 b4 u' ⟨hHeld2, Lib.hid (hx F0.out), Lib.hid (hx F1.out), Lib.hid hF, Lib.hid (hx F4.out)⟩
                                · go_simp
                                  obtain ⟨b8, u', eb, ew, hF, hx, hL⟩ := grow_one u #[.slice none 0 0, .slice none 0 0, .slice none 0 0, .slice none 0 0, .slice none 0 0, .slice none 0 0, .slice none 0 0] 26
                                  simp only [eb, ew]
                                  have hge := Nat.le_of_eq eb
                                  clear eb ew
                                  refine hK.out _ _ ?_ (fun hHeld2 => ?_)
                                  · exact partS_step hHeld hx hL
                                  clear hK K
                                  try simp only [Act.put, List.getElem_toArray, List.getElem_cons_zero, List.getElem_cons_succ, List.setIfInBounds_toArray, List.set_cons_zero, List.set_cons_succ]
                                  exact k0148 b0 b1 b4 b8 u' ⟨hHeld2, Lib.hid (hx F0.out), Lib.hid (hx F1.out), Lib.hid (hx F4.out), Lib.hid ⟨hF, Nat.le_trans hHeld.2.2.2.2.size hge⟩⟩
                                )
                              ) (fun b0 b1 b2 u hF => by
                              obtain ⟨hHeld, F0, F1, F2⟩ := hF
                              refine wpAnyH_ready (rs := [4, 5, 8]) (by kernel_rfl) (by simp) ?_
                              refine AllReadyH.cons rfl (fun K hK => ?_) (AllReadyH.cons rfl (fun K hK => ?_) (AllReadyH.cons rfl (fun K hK => ?_) AllReadyH.nil))
                              · go_simp
                                obtain ⟨b4, u', eb, ew, hF, hx, hL⟩ := grow_one u #[.int .i64 p.a, .int .i64 p.b, .int .i64 p.s] 35
                                simp only [eb, ew]
                                have hge := Nat.le_of_eq eb
                                clear eb ew
                                refine hK.out _ _ ?_ (fun hHeld2 => ?_)
                                · exact partS_step hHeld hx hL
                                clear hK K
                                try simp only [Act.put, List.getElem_toArray, List.getElem_cons_zero, List.getElem_cons_succ, List.setIfInBounds_toArray, List.set_cons_zero, List.set_cons_succ]
                                exact k0124 b0 b1 b2 b4 u' ⟨hHeld2, Lib.hid (hx F0.out), Lib.hid (hx F1.out), Lib.hid (hx F2.out), Lib.hid hF⟩
                              · go_simp
                                refine (all_blk _).mono ?_
                                rintro e u' ⟨b5, rfl, hF, hx, hL⟩
                                refine hK.out _ _ ?_ (fun hHeld2 => ?_)
                                · exact partS_step hHeld hx hL
                                clear hK K
                                try simp only [Act.put, List.getElem_toArray, List.getElem_cons_zero, List.getElem_cons_succ, List.setIfInBounds_toArray, List.set_cons_zero, List.set_cons_succ]
                                exact k0125 b0 b1 b2 b5 u' ⟨hHeld2, Lib.hid (hx F0.out), Lib.hid (hx F1.out), Lib.hid (hx F2.out), Lib.hid hF⟩
                              · go_simp
                                obtain ⟨b8, u', eb, ew, hF, hx, hL⟩ := grow_one u #[.slice none 0 0, .slice none 0 0, .slice none 0 0, .slice none 0 0, .slice none 0 0, .slice none 0 0, .slice none 0 0] 26
                                simp only [eb, ew]
                                have hge := Nat.le_of_eq eb
                                clear eb ew
                                refine hK.out _ _ ?_ (fun hHeld2 => ?_)
                                · exact partS_step hHeld hx hL
                                clear hK K
                                try simp only [Act.put, List.getElem_toArray, List.getElem_cons_zero, List.getElem_cons_succ, List.setIfInBounds_toArray, List.set_cons_zero, List.set_cons_succ]
                                exact k0128 b0 b1 b2 b8 u' ⟨hHeld2, Lib.hid (hx F0.out), Lib.hid (hx F1.out), Lib.hid (hx F2.out), Lib.hid ⟨hF, Nat.le_trans hHeld.2.2.2.2.size hge⟩⟩
                              )
                            ) (fun b0 b1 b4 b8 u hF => by
                            obtain ⟨hHeld, F0, F1, F4, F8⟩ := hF
                            refine wpAnyH_ready (rs := [2]) (by kernel_rfl) (by simp) ?_
                            refine AllReadyH.cons rfl (fun K hK => ?_) AllReadyH.nil
                            · go_simp
                              refine (all_blk _).mono ?_
                              rintro e u' ⟨b2, rfl, hF, hx, hL⟩
                              refine hK.out _ _ ?_ (fun hHeld2 => ?_)
                              · exact partS_step hHeld hx hL
                              clear hK K
                              try simp only [Act.put, List.getElem_toArray, List.getElem_cons_zero, List.getElem_cons_succ, List.setIfInBounds_toArray, List.set_cons_zero, List.set_cons_succ]
                              exact k01248 b0 b1 b2 b4 b8 u' ⟨hHeld2, Lib.hid (hx F0.out), Lib.hid (hx F1.out), Lib.hid hF, Lib.hid (hx F4.out), Lib.hid ⟨hx F8.out.1, F8.out.2⟩⟩
                            )
                          ) (fun b0 b1 b2 b8 u hF => by
                          obtain ⟨hHeld, F0, F1, F2, F8⟩ := hF
                          refine wpAnyH_ready (rs := [4, 5]) (by kernel_rfl) (by simp) ?_
                          refine AllReadyH.cons rfl (fun K hK => ?_) (AllReadyH.cons rfl (fun K hK => ?_) AllReadyH.nil)
                          · go_simp
                            obtain ⟨b4, u', eb, ew, hF, hx, hL⟩ := grow_one u #[.int .i64 p.a, .int .i64 p.b, .int .i64 p.s] 35
                            simp only [eb, ew]
                            have hge := Nat.le_of_eq eb
                            clear eb ew
                            refine hK.out _ _ ?_ (fun hHeld2 => ?_)
                            · exact partS_step hHeld hx hL
                            clear hK K
                            try simp only [Act.put, List.getElem_toArray, List.getElem_cons_zero, List.getElem_cons_succ, List.setIfInBounds_toArray, List.set_cons_zero, List.set_cons_succ]
                            exact k01248 b0 b1 b2 b4 b8 u' ⟨hHeld2, Lib.hid (hx F0.out), Lib.hid (hx F1.out), Lib.hid (hx F2.out), Lib.hid hF, Lib.hid ⟨hx F8.out.1, F8.out.2⟩⟩
                          · go_simp
                            refine (all_blk _).mono ?_
                            rintro e u' ⟨b5, rfl, hF, hx, hL⟩
                            refine hK.out _ _ ?_ (fun hHeld2 => ?_)
                            · exact partS_step hHeld hx hL
                            clear hK K
                            try simp only [Act.put, List.getElem_toArray, List.getElem_cons_zero, List.getElem_cons_succ, List.setIfInBounds_toArray, List.set_cons_zero, List.set_cons_succ]
                            exact k01258 b0 b1 b2 b5 b8 u' ⟨hHeld2, Lib.hid (hx F0.out), Lib.hid (hx F1.out), Lib.hid (hx F2.out), Lib.hid hF, Lib.hid ⟨hx F8.out.1, F8.out.2⟩⟩
                          )
                        ) (fun b0 b1 b2 b4 u hF => by
                        obtain ⟨hHeld, F0, F1, F2, F4⟩ := hF
                        refine wpAnyH_ready (rs := [5, 8]) (by kernel_rfl) (by simp) ?_
                        refine AllReadyH.cons rfl (fun K hK => ?_) (AllReadyH.cons rfl (fun K hK => ?_) AllReadyH.nil)
                        · go_simp
                          refine (all_blk _).mono ?_
                          rintro e u' ⟨b5, rfl, hF, hx, hL⟩
                          refine hK.out _ _ ?_ (fun hHeld2 => ?_)
                          · exact partS_step hHeld hx hL
                          clear hK K
                          try simp only [Act.put, List.getElem_toArray, List.getElem_cons_zero, List.getElem_cons_succ, List.setIfInBounds_toArray, List.set_cons_zero, List.set_cons_succ]
                          exact k01245 b0 b1 b2 b4 b5 u' ⟨hHeld2, Lib.hid (hx F0.out), Lib.hid (hx F1.out), Lib.hid (hx F2.out), Lib.hid (hx F4.out), Lib.hid hF⟩
                        · go_simp
                          obtain ⟨b8, u', eb, ew, hF, hx, hL⟩ := grow_one u #[.slice none 0 0, .slice none 0 0, .slice none 0 0, .slice none 0 0, .slice none 0 0, .slice none 0 0, .slice none 0 0] 26
                          simp only [eb, ew]
                          have hge := Nat.le_of_eq eb
                          clear eb ew
                          refine hK.out _ _ ?_ (fun hHeld2 => ?_)
                          · exact partS_step hHeld hx hL
                          clear hK K
                          try simp only [Act.put, List.getElem_toArray, List.getElem_cons_zero, List.getElem_cons_succ, List.setIfInBounds_toArray, List.set_cons_zero, List.set_cons_succ]
                          exact k01248 b0 b1 b2 b4 b8 u' ⟨hHeld2, Lib.hid (hx F0.out), Lib.hid (hx F1.out), Lib.hid (hx F2.out), Lib.hid (hx F4.out), Lib.hid ⟨hF, Nat.le_trans hHeld.2.2.2.2.size hge⟩⟩
                        )
                      ) (fun b0 b1 b2 b5 u hF => by
                      obtain ⟨hHeld, F0, F1, F2, F5⟩ := hF
                      refine wpAnyH_ready (rs := [4, 6, 8]) (by kernel_rfl) (by simp) ?_
                      refine AllReadyH.cons rfl (fun K hK => ?_) (AllReadyH.cons rfl (fun K hK => ?_) (AllReadyH.cons rfl (fun K hK => ?_) AllReadyH.nil))
                      · go_simp
                        obtain ⟨b4, u', eb, ew, hF, hx, hL⟩ := grow_one u #[.int .i64 p.a, .int .i64 p.b, .int .i64 p.s] 35
                        simp only [eb, ew]
                        have hge := Nat.le_of_eq eb
                        clear eb ew
                        refine hK.out _ _ ?_ (fun hHeld2 => ?_)
                        · exact partS_step hHeld hx hL
                        clear hK K
                        try simp only [Act.put, List.getElem_toArray, List.getElem_cons_zero, List.getElem_cons_succ, List.setIfInBounds_toArray, List.set_cons_zero, List.set_cons_succ]
                        exact k01245 b0 b1 b2 b4 b5 u' ⟨hHeld2, Lib.hid (hx F0.out), Lib.hid (hx F1.out), Lib.hid (hx F2.out), Lib.hid hF, Lib.hid (hx F5.out)⟩
                      · go_simp
                        refine (all_blk _).mono ?_
                        rintro e u' ⟨b6, rfl, hF, hx, hL⟩
                        refine hK.out _ _ ?_ (fun hHeld2 => ?_)
                        · exact partS_step hHeld hx hL
                        clear hK K
                        try simp only [Act.put, List.getElem_toArray, List.getElem_cons_zero, List.getElem_cons_succ, List.setIfInBounds_toArray, List.set_cons_zero, List.set_cons_succ]
                        exact k01256 b0 b1 b2 b5 b6 u' ⟨hHeld2, Lib.hid (hx F0.out), Lib.hid (hx F1.out), Lib.hid (hx F2.out), Lib.hid (hx F5.out), Lib.hid hF⟩
                      · go_simp
                        obtain ⟨b8, u', eb, ew, hF, hx, hL⟩ := grow_one u #[.slice none 0 0, .slice none 0 0, .slice none 0 0, .slice none 0 0, .slice none 0 0, .slice none 0 0, .slice none 0 0] 26
                        simp only [eb, ew]
                        have hge := Nat.le_of_eq eb
                        clear eb ew
                        refine hK.out _ _ ?_ (fun hHeld2 => ?_)
                        · exact partS_step hHeld hx hL
                        clear hK K
                        try simp only [Act.put, List.getElem_toArray, List.getElem_cons_zero, List.getElem_cons_succ, List.setIfInBounds_toArray, List.set_cons_zero, List.set_cons_succ]
                        exact k01258 b0 b1 b2 b5 b8 u' ⟨hHeld2, Lib.hid (hx F0.out), Lib.hid (hx F1.out), Lib.hid (hx F2.out), Lib.hid (hx F5.out), Lib.hid ⟨hF, Nat.le_trans hHeld.2.2.2.2.size hge⟩⟩
                      )
                    ) (fun b0 b1 b2 b4 b8 u hF => by
                    obtain ⟨hHeld, F0, F1, F2, F4, F8⟩ := hF
                    refine wpAnyH_ready (rs := [5]) (by kernel_rfl) (by simp) ?_
                    refine AllReadyH.cons rfl (fun K hK => ?_) AllReadyH.nil
                    · go_simp
                      refine (all_blk _).mono ?_
                      rintro e u' ⟨b5, rfl, hF, hx, hL⟩
                      refine hK.out _ _ ?_ (fun hHeld2 => ?_)
                      · exact partS_step hHeld hx hL
                      clear hK K
                      try simp only [Act.put, List.getElem_toArray, List.getElem_cons_zero, List.getElem_cons_succ, List.setIfInBounds_toArray, List.set_cons_zero, List.set_cons_succ]
                      exact k012458 b0 b1 b2 b4 b5 b8 u' ⟨hHeld2, Lib.hid (hx F0.out), Lib.hid (hx F1.out), Lib.hid (hx F2.out), Lib.hid (hx F4.out), Lib.hid hF, Lib.hid ⟨hx F8.out.1, F8.out.2⟩⟩
                    )
                  ) (fun b0 b1 b2 b5 b8 u hF => by
                  obtain ⟨hHeld, F0, F1, F2, F5, F8⟩ := hF
                  refine wpAnyH_ready (rs := [4, 6]) (by kernel_rfl) (by simp) ?_
                  refine AllReadyH.cons rfl (fun K hK => ?_) (AllReadyH.cons rfl (fun K hK => ?_) AllReadyH.nil)
                  · go_simp
                    obtain ⟨b4, u', eb, ew, hF, hx, hL⟩ := grow_one u #[.int .i64 p.a, .int .i64 p.b, .int .i64 p.s] 35
                    simp only [eb, ew]
                    have hge := Nat.le_of_eq eb
                    clear eb ew
                    refine hK.out _ _ ?_ (fun hHeld2 => ?_)
                    · exact partS_step hHeld hx hL
                    clear hK K
                    try simp only [Act.put, List.getElem_toArray, List.getElem_cons_zero, List.getElem_cons_succ, List.setIfInBounds_toArray, List.set_cons_zero, List.set_cons_succ]
                    exact k012458 b0 b1 b2 b4 b5 b8 u' ⟨hHeld2, Lib.hid (hx F0.out), Lib.hid (hx F1.out), Lib.hid (hx F2.out), Lib.hid hF, Lib.hid (hx F5.out), Lib.hid ⟨hx F8.out.1, F8.out.2⟩⟩
                  · go_simp
                    refine (all_blk _).mono ?_
                    rintro e u' ⟨b6, rfl, hF, hx, hL⟩
                    refine hK.out _ _ ?_ (fun hHeld2 => ?_)
                    · exact partS_step hHeld hx hL
                    clear hK K
                    try simp only [Act.put, List.getElem_toArray, List.getElem_cons_zero, List.getElem_cons_succ, List.setIfInBounds_toArray, List.set_cons_zero, List.set_cons_succ]
                    exact k012568 b0 b1 b2 b5 b6 b8 u' ⟨hHeld2, Lib.hid (hx F0.out), Lib.hid (hx F1.out), Lib.hid (hx F2.out), Lib.hid (hx F5.out), Lib.hid hF, Lib.hid ⟨hx F8.out.1, F8.out.2⟩⟩
                  )
                ) (fun b0 b1 b2 b4 b5 u hF => by
                obtain ⟨hHeld, F0, F1, F2, F4, F5⟩ := hF
                refine wpAnyH_ready (rs := [6, 8]) (by kernel_rfl) (by simp) ?_
                refine AllReadyH.cons rfl (fun K hK => ?_) (AllReadyH.cons rfl (fun K hK => ?_) AllReadyH.nil)
                · go_simp
                  refine (all_blk _).mono ?_
                  rintro e u' ⟨b6, rfl, hF, hx, hL⟩
                  refine hK.out _ _ ?_ (fun hHeld2 => ?_)
                  · exact partS_step hHeld hx hL
                  clear hK K
                  try simp only [Act.put, List.getElem_toArray, List.getElem_cons_zero, List.getElem_cons_succ, List.setIfInBounds_toArray, List.set_cons_zero, List.set_cons_succ]
                  exact k012456 b0 b1 b2 b4 b5 b6 u' ⟨hHeld2, Lib.hid (hx F0.out), Lib.hid (hx F1.out), Lib.hid (hx F2.out), Lib.hid (hx F4.out), Lib.hid (hx F5.out), Lib.hid hF⟩
                · go_simp
                  obtain ⟨b8, u', eb, ew, hF, hx, hL⟩ := grow_one u #[.slice none 0 0, .slice none 0 0, .slice none 0 0, .slice none 0 0, .slice none 0 0, .slice none 0 0, .slice none 0 0] 26
                  simp only [eb, ew]
                  have hge := Nat.le_of_eq eb
                  clear eb ew
                  refine hK.out _ _ ?_ (fun hHeld2 => ?_)
                  · exact partS_step hHeld hx hL
                  clear hK K
                  try simp only [Act.put, List.getElem_toArray, List.getElem_cons_zero, List.getElem_cons_succ, List.setIfInBounds_toArray, List.set_cons_zero, List.set_cons_succ]
                  exact k012458 b0 b1 b2 b4 b5 b8 u' ⟨hHeld2, Lib.hid (hx F0.out), Lib.hid (hx F1.out), Lib.hid (hx F2.out), Lib.hid (hx F4.out), Lib.hid (hx F5.out), Lib.hid ⟨hF, Nat.le_trans hHeld.2.2.2.2.size hge⟩⟩
                )
              ) (fun b0 b1 b2 b5 b6 u hF => by
              obtain ⟨hHeld, F0, F1, F2, F5, F6⟩ := hF
              refine wpAnyH_ready (rs := [4, 8]) (by kernel_rfl) (by simp) ?_
              refine AllReadyH.cons rfl (fun K hK => ?_) (AllReadyH.cons rfl (fun K hK => ?_) AllReadyH.nil)
              · go_simp
                obtain ⟨b4, u', eb, ew, hF, hx, hL⟩ := grow_one u #[.int .i64 p.a, .int .i64 p.b, .int .i64 p.s] 35
                simp only [eb, ew]
                have hge := Nat.le_of_eq eb
                clear eb ew
                refine hK.out _ _ ?_ (fun hHeld2 => ?_)
                · exact partS_step hHeld hx hL
                clear hK K
                try simp only [Act.put, List.getElem_toArray, List.getElem_cons_zero, List.getElem_cons_succ, List.setIfInBounds_toArray, List.set_cons_zero, List.set_cons_succ]
                exact k012456 b0 b1 b2 b4 b5 b6 u' ⟨hHeld2, Lib.hid (hx F0.out), Lib.hid (hx F1.out), Lib.hid (hx F2.out), Lib.hid hF, Lib.hid (hx F5.out), Lib.hid (hx F6.out)⟩
              · go_simp
                obtain ⟨b8, u', eb, ew, hF, hx, hL⟩ := grow_one u #[.slice none 0 0, .slice none 0 0, .slice none 0 0, .slice none 0 0, .slice none 0 0, .slice none 0 0, .slice none 0 0] 26
                simp only [eb, ew]
                have hge := Nat.le_of_eq eb
                clear eb ew
                refine hK.out _ _ ?_ (fun hHeld2 => ?_)
                · exact partS_step hHeld hx hL
                clear hK K
                try simp only [Act.put, List.getElem_toArray, List.getElem_cons_zero, List.getElem_cons_succ, List.setIfInBounds_toArray, List.set_cons_zero, List.set_cons_succ]
                exact k012568 b0 b1 b2 b5 b6 b8 u' ⟨hHeld2, Lib.hid (hx F0.out), Lib.hid (hx F1.out), Lib.hid (hx F2.out), Lib.hid (hx F5.out), Lib.hid (hx F6.out), Lib.hid ⟨hF, Nat.le_trans hHeld.2.2.2.2.size hge⟩⟩
              )
            ) (fun b0 b1 b2 b4 b5 b8 u hF => by
            obtain ⟨hHeld, F0, F1, F2, F4, F5, F8⟩ := hF
            refine wpAnyH_ready (rs := [6]) (by kernel_rfl) (by simp) ?_
            refine AllReadyH.cons rfl (fun K hK => ?_) AllReadyH.nil
            · go_simp
              refine (all_blk _).mono ?_
              rintro e u' ⟨b6, rfl, hF, hx, hL⟩
              refine hK.out _ _ ?_ (fun hHeld2 => ?_)
              · exact partS_step hHeld hx hL
              clear hK K
              try simp only [Act.put, List.getElem_toArray, List.getElem_cons_zero, List.getElem_cons_succ, List.setIfInBounds_toArray, List.set_cons_zero, List.set_cons_succ]
              refine wpAnyH_take (i := 7) (v := ?v7n1) rfl (by kernel_rfl) (by kernel_rfl) (by kernel_rfl) (fun _ _ _ h => h) (Or.inl ⟨by rfl, ?hy7n1⟩) (by assumption) ?_
              case hy7n1 => (intro w hSw; (try dsimp only at hSw); go_simp; (try with_reducible rfl))
              try simp only [Act.put, List.getElem_toArray, List.getElem_cons_zero, List.getElem_cons_succ, List.setIfInBounds_toArray, List.set_cons_zero, List.set_cons_succ]
              exact k0124568 b0 b1 b2 b4 b5 b6 b8 u' ⟨hHeld2, Lib.hid (hx F0.out), Lib.hid (hx F1.out), Lib.hid (hx F2.out), Lib.hid (hx F4.out), Lib.hid (hx F5.out), Lib.hid hF, Lib.hid ⟨hx F8.out.1, F8.out.2⟩⟩
            )
          ) (fun b0 b1 b2 b5 b6 b8 u hF => by
          obtain ⟨hHeld, F0, F1, F2, F5, F6, F8⟩ := hF
          refine wpAnyH_ready (rs := [4]) (by kernel_rfl) (by simp) ?_
          refine AllReadyH.cons rfl (fun K hK => ?_) AllReadyH.nil
          · go_simp
            obtain ⟨b4, u', eb, ew, hF, hx, hL⟩ := grow_one u #[.int .i64 p.a, .int .i64 p.b, .int .i64 p.s] 35
            simp only [eb, ew]
            have hge := Nat.le_of_eq eb
            clear eb ew
            refine hK.out _ _ ?_ (fun hHeld2 => ?_)
            · exact partS_step hHeld hx hL
            clear hK K
            try simp only [Act.put, List.getElem_toArray, List.getElem_cons_zero, List.getElem_cons_succ, List.setIfInBounds_toArray, List.set_cons_zero, List.set_cons_succ]
            refine wpAnyH_take (i := 7) (v := ?v7n2) rfl (by kernel_rfl) (by kernel_rfl) (by kernel_rfl) (fun _ _ _ h => h) (Or.inl ⟨by rfl, ?hy7n2⟩) (by assumption) ?_
            case hy7n2 => (intro w hSw; (try dsimp only at hSw); go_simp; (try with_reducible rfl))
            try simp only [Act.put, List.getElem_toArray, List.getElem_cons_zero, List.getElem_cons_succ, List.setIfInBounds_toArray, List.set_cons_zero, List.set_cons_succ]
            exact k0124568 b0 b1 b2 b4 b5 b6 b8 u' ⟨hHeld2, Lib.hid (hx F0.out), Lib.hid (hx F1.out), Lib.hid (hx F2.out), Lib.hid hF, Lib.hid (hx F5.out), Lib.hid (hx F6.out), Lib.hid ⟨hx F8.out.1, F8.out.2⟩⟩
          )
        ) (fun b0 b1 b2 b4 b5 b6 u hF => by
        obtain ⟨hHeld, F0, F1, F2, F4, F5, F6⟩ := hF
        refine wpAnyH_take (i := 7) (v := ?v7n3) rfl (by kernel_rfl) (by kernel_rfl) (by kernel_rfl) (fun _ _ _ h => h) (Or.inl ⟨by rfl, ?hy7n3⟩) (by assumption) ?_
        case hy7n3 => (intro w hSw; (try dsimp only at hSw); go_simp; (try with_reducible rfl))
        try simp only [Act.put, List.getElem_toArray, List.getElem_cons_zero, List.getElem_cons_succ, List.setIfInBounds_toArray, List.set_cons_zero, List.set_cons_succ]
        refine wpAnyH_ready (rs := [8]) (by kernel_rfl) (by simp) ?_
        refine AllReadyH.cons rfl (fun K hK => ?_) AllReadyH.nil
        · go_simp
          obtain ⟨b8, u', eb, ew, hF, hx, hL⟩ := grow_one u #[.slice none 0 0, .slice none 0 0, .slice none 0 0, .slice none 0 0, .slice none 0 0, .slice none 0 0, .slice none 0 0] 26
          simp only [eb, ew]
          have hge := Nat.le_of_eq eb
          clear eb ew
          refine hK.out _ _ ?_ (fun hHeld2 => ?_)
          · exact partS_step hHeld hx hL
          clear hK K
          try simp only [Act.put, List.getElem_toArray, List.getElem_cons_zero, List.getElem_cons_succ, List.setIfInBounds_toArray, List.set_cons_zero, List.set_cons_succ]
          exact k0124568 b0 b1 b2 b4 b5 b6 b8 u' ⟨hHeld2, Lib.hid (hx F0.out), Lib.hid (hx F1.out), Lib.hid (hx F2.out), Lib.hid (hx F4.out), Lib.hid (hx F5.out), Lib.hid (hx F6.out), Lib.hid ⟨hF, Nat.le_trans hHeld.2.2.2.2.size hge⟩⟩
        )
      ) (fun b0 b1 b2 b4 b5 b6 b8 u hF => by
      obtain ⟨hHeld, F0, F1, F2, F4, F5, F6, F8⟩ := hF
      refine wpAnyH_ready (rs := [9]) (by kernel_rfl) (by simp) ?_
      refine AllReadyH.cons rfl (fun K hK => ?_) AllReadyH.nil
      rw [if_pos (by rfl)]
      refine wp_store_row 26 (.tmp 5) (.tmp 26) (by rfl) b8 (hourCh b0 b1 b2 b4 b5 b6).cells (by rfl) (by rfl) 26 nilCh.cells F8.out.1 (by kernel_rfl) rfl (ch_all _) ?_
      have HP := Lib.hid (hour_row F8.out.1 F0.out F1.out F2.out F4.out F5.out F6.out hHeld.2.2.2.1)
      have HL := Lib.hid (below_setRow hHeld.2.2.2.2 F8.out.2 (hourCh b0 b1 b2 b4 b5 b6).cells)
      refine hK.out _ _ (partS_of HP.out.2.2 HL.out) (fun _ => ?_)
      clear hK K hHeld F0 F1 F2 F4 F5 F6 F8
      refine wpAnyH_done (by kernel_rfl) ?_ _
      go_wp2_with fail
      go_meet
      exact ⟨b8, b0, b1, b2, b4, b5, b6, rfl, Lib.hid HP.out.1, Lib.hid HP.out.2.1, Lib.hid HP.out.2.2, HL⟩
      )
  case rest =>
    obtain ⟨b8, b0, b1, b2, b4, b5, b6, rfl, HC, HK, HX, HB⟩ := hcut
    have c0 : wc.cell? ⟨w.heap.size, 0, none⟩ = some (.int .i64 p.a) := HX.out.cell 0
    have c1 : wc.cell? ⟨w.heap.size, 1, none⟩ = some (.int .i64 p.b) := HX.out.cell 1
    have c2 : wc.cell? ⟨w.heap.size, 2, none⟩ = some (.int .i64 p.s) := HX.out.cell 2
    clear HX1 HB1 HBX HB0 HW0
    obtain ⟨m, hm⟩ : ∃ m, mayP 3 p = m := ⟨_, rfl⟩
    have HM := Lib.hid hm
    clear hm
    go_upto_region 6 with fail
    go_cut [6] (fun v wx => v = .bool m ∧ wx = wc)
    case first =>
      by_cases hA : 0 ≤ p.s
      · by_cases hB : p.s ≤ 9999
        · by_cases hC : p.a = -1
          · by_cases hD : p.b = -1
            · have hm : mayP 3 p = true := may3.2 (by omega)
              obtain rfl : true = m := hm.symm.trans HM.out
              clear hm HM
              have qA : decide (0 ≤ p.s) = true := by simp; omega
              have qB : decide (p.s ≤ 9999) = true := by simp; omega
              have qC : (p.a == -1) = true := by simp; omega
              have qD : (p.b == -1) = true := by simp; omega
              clear HT HH HC HK HX HB
              go_wp2_with fail
              go_meet
              exact ⟨rfl, rfl⟩
            · have hm : mayP 3 p = false := Bool.eq_false_iff.2 (fun h => by have := may3.1 h; omega)
              obtain rfl : false = m := hm.symm.trans HM.out
              clear hm HM
              have qA : decide (0 ≤ p.s) = true := by simp; omega
              have qB : decide (p.s ≤ 9999) = true := by simp; omega
              have qC : (p.a == -1) = true := by simp; omega
              have qD : (p.b == -1) = false := by simp; omega
              have qE : decide (0 ≤ p.a) = false := by simp; omega
              clear HT HH HC HK HX HB
              go_wp2_with fail
              go_meet
              exact ⟨rfl, rfl⟩
          · by_cases hE : 0 ≤ p.a
            · by_cases hF : p.a ≤ 23
              · by_cases hD : p.b = -1
                · have hm : mayP 3 p = true := may3.2 (by omega)
                  obtain rfl : true = m := hm.symm.trans HM.out
                  clear hm HM
                  have qA : decide (0 ≤ p.s) = true := by simp; omega
                  have qB : decide (p.s ≤ 9999) = true := by simp; omega
                  have qC : (p.a == -1) = false := by simp; omega
                  have qE : decide (0 ≤ p.a) = true := by simp; omega
                  have qF : decide (p.a ≤ 23) = true := by simp; omega
                  have qD : (p.b == -1) = true := by simp; omega
                  clear HT HH HC HK HX HB
                  go_wp2_with fail
                  go_meet
                  exact ⟨rfl, rfl⟩
                · by_cases hG : p.a ≤ p.b
                  · by_cases hH : p.b ≤ 23
                    · have hm : mayP 3 p = true := may3.2 (by omega)
                      obtain rfl : true = m := hm.symm.trans HM.out
                      clear hm HM
                      have qA : decide (0 ≤ p.s) = true := by simp; omega
                      have qB : decide (p.s ≤ 9999) = true := by simp; omega
                      have qC : (p.a == -1) = false := by simp; omega
                      have qE : decide (0 ≤ p.a) = true := by simp; omega
                      have qF : decide (p.a ≤ 23) = true := by simp; omega
                      have qD : (p.b == -1) = false := by simp; omega
                      have qG : decide (p.a ≤ p.b) = true := by simp; omega
                      have qH : decide (p.b ≤ 23) = true := by simp; omega
                      clear HT HH HC HK HX HB
                      go_wp2_with fail
                      go_meet
                      exact ⟨rfl, rfl⟩
                    · have hm : mayP 3 p = false := Bool.eq_false_iff.2 (fun h => by have := may3.1 h; omega)
                      obtain rfl : false = m := hm.symm.trans HM.out
                      clear hm HM
                      have qA : decide (0 ≤ p.s) = true := by simp; omega
                      have qB : decide (p.s ≤ 9999) = true := by simp; omega
                      have qC : (p.a == -1) = false := by simp; omega
                      have qE : decide (0 ≤ p.a) = true := by simp; omega
                      have qF : decide (p.a ≤ 23) = true := by simp; omega
                      have qD : (p.b == -1) = false := by simp; omega
                      have qG : decide (p.a ≤ p.b) = true := by simp; omega
                      have qH : decide (p.b ≤ 23) = false := by simp; omega
                      clear HT HH HC HK HX HB
                      go_wp2_with fail
                      go_meet
                      exact ⟨rfl, rfl⟩
                  · have hm : mayP 3 p = false := Bool.eq_false_iff.2 (fun h => by have := may3.1 h; omega)
                    obtain rfl : false = m := hm.symm.trans HM.out
                    clear hm HM
                    have qA : decide (0 ≤ p.s) = true := by simp; omega
                    have qB : decide (p.s ≤ 9999) = true := by simp; omega
                    have qC : (p.a == -1) = false := by simp; omega
                    have qE : decide (0 ≤ p.a) = true := by simp; omega
                    have qF : decide (p.a ≤ 23) = true := by simp; omega
                    have qD : (p.b == -1) = false := by simp; omega
                    have qG : decide (p.a ≤ p.b) = false := by simp; omega
                    clear HT HH HC HK HX HB
                    go_wp2_with fail
                    go_meet
                    exact ⟨rfl, rfl⟩
              · have hm : mayP 3 p = false := Bool.eq_false_iff.2 (fun h => by have := may3.1 h; omega)
                obtain rfl : false = m := hm.symm.trans HM.out
                clear hm HM
                have qA : decide (0 ≤ p.s) = true := by simp; omega
                have qB : decide (p.s ≤ 9999) = true := by simp; omega
                have qC : (p.a == -1) = false := by simp; omega
                have qE : decide (0 ≤ p.a) = true := by simp; omega
                have qF : decide (p.a ≤ 23) = false := by simp; omega
                clear HT HH HC HK HX HB
                go_wp2_with fail
                go_meet
                exact ⟨rfl, rfl⟩
            · have hm : mayP 3 p = false := Bool.eq_false_iff.2 (fun h => by have := may3.1 h; omega)
              obtain rfl : false = m := hm.symm.trans HM.out
              clear hm HM
              have qA : decide (0 ≤ p.s) = true := by simp; omega
              have qB : decide (p.s ≤ 9999) = true := by simp; omega
              have qC : (p.a == -1) = false := by simp; omega
              have qE : decide (0 ≤ p.a) = false := by simp; omega
              clear HT HH HC HK HX HB
              go_wp2_with fail
              go_meet
              exact ⟨rfl, rfl⟩
        · have hm : mayP 3 p = false := Bool.eq_false_iff.2 (fun h => by have := may3.1 h; omega)
          obtain rfl : false = m := hm.symm.trans HM.out
          clear hm HM
          have qA : decide (0 ≤ p.s) = true := by simp; omega
          have qB : decide (p.s ≤ 9999) = false := by simp; omega
          clear HT HH HC HK HX HB
          go_wp2_with fail
          go_meet
          exact ⟨rfl, rfl⟩
      · have hm : mayP 3 p = false := Bool.eq_false_iff.2 (fun h => by have := may3.1 h; omega)
        obtain rfl : false = m := hm.symm.trans HM.out
        clear hm HM
        have qA : decide (0 ≤ p.s) = false := by simp; omega
        clear HT HH HC HK HX HB
        go_wp2_with fail
        go_meet
        exact ⟨rfl, rfl⟩
    case rest =>
      obtain ⟨rfl, rfl⟩ := hcut
      go_wp2_with fail
      go_quiet (fail)
      go_upto_if 79 with fail
      have HT2 : Hid (TabM (wc.drewN nq)) := HT.out.below (below_drewN HB.out _)
      have HC2 : Hid (CalAt (wc.drewN nq) (wc.drewN nq).heap.size (hourCh b0 b1 b2 b4 b5 b6) (hourC p)) := HC
      have HK2 : Hid (Blk (wc.drewN nq) b8 26 (hourCh b0 b1 b2 b4 b5 b6).cells) := HK
      have HB2 : Hid (Below w.heap.size w (wc.drewN nq)) := Lib.hid (below_drewN HB.out _)
      clear HC HK HX HB c0 c1 c2 HT HH
      generalize wc.drewN nq = wd at *
      go_cut [7, 8] (fun f t wx => f = .int .i64 (fromL p) ∧ t = .int .i64 (toL1 p) ∧ wx = wd)
      case first =>
        by_cases hC : p.a = -1
        · have qC : (p.a == -1) = true := by simp; omega
          have HE1 : Hid (fromL p = 0) := if_pos hC
          have HE2 : Hid (toL1 p = 23) := if_pos hC
          clear hC
          go_wp2_with fail
          go_meet
          exact ⟨by rw [HE1.out], by rw [HE2.out], rfl⟩
        · have qC : (p.a == -1) = false := by simp; omega
          have HE1 : Hid (fromL p = p.a) := if_neg hC
          have HE2 : Hid (toL1 p = p.b) := if_neg hC
          clear hC
          go_wp2_with fail
          go_meet
          exact ⟨by rw [HE1.out], by rw [HE2.out], rfl⟩
      case rest =>
        obtain ⟨rfl, rfl, rfl⟩ := hcut
        go_upto_if 81 with fail
        go_cut [8] (fun t wx => t = .int .i64 (toL p) ∧ wx = wc)
        case first =>
          by_cases hC : toL1 p = -1
          · have qC : (toL1 p == -1) = true := by simp; omega
            by_cases hS : 0 < p.s
            · have qS : decide (0 < p.s) = true := by simp; omega
              have HE : Hid (toL p = 23) := by show _ = _; unfold toL; rw [if_pos hC, if_pos hS]
              clear hC
              go_wp2_with fail
              go_meet
              exact ⟨by rw [HE.out], rfl⟩
            · have qS : decide (0 < p.s) = false := by simp; omega
              have HE : Hid (toL p = fromL p) := by show _ = _; unfold toL; rw [if_pos hC, if_neg hS]
              clear hC
              go_wp2_with fail
              go_meet
              exact ⟨by rw [HE.out], rfl⟩
          · have qC : (toL1 p == -1) = false := by simp; omega
            have HE : Hid (toL p = toL1 p) := by show _ = _; unfold toL; rw [if_neg hC]
            clear hC
            go_wp2_with fail
            go_meet
            exact ⟨by rw [HE.out], rfl⟩
        case rest =>
          obtain ⟨rfl, rfl⟩ := hcut
          go_upto_if 86 with fail
          go_cut [9] (fun t wx => t = .int .i64 (stepL p) ∧ wx = wc)
          case first =>
            by_cases hS : p.s < 1
            · have qS : decide (p.s < 1) = true := by simp; omega
              have HE : Hid (stepL p = 1) := if_pos hS
              go_wp2_with fail
              go_meet
              exact ⟨by rw [HE.out], rfl⟩
            · have qS : decide (p.s < 1) = false := by simp; omega
              have HE : Hid (stepL p = p.s) := if_neg hS
              go_wp2_with fail
              go_meet
              exact ⟨by rw [HE.out], rfl⟩
          case rest =>
            obtain ⟨rfl, rfl⟩ := hcut
            go_upto_region 16 with fail
            go_cut [10] (fun v wx => v = .bool (matchB (hourC p) (3600 * hour + 5)) ∧ wx = wc)
            case first =>
              cases m with
              | false =>
                have HV : Hid (matchB (hourC p) (3600 * hour + 5) = false) := by show _ = _; rw [part_match p hour h0 h1, HM.out]; rfl
                go_wp2_with fail
                go_meet
                exact ⟨by rw [HV.out], rfl⟩
              | true =>
                have HV : Hid (matchB (hourC p) (3600 * hour + 5) = (decide (fromL p ≤ hour) && (decide (hour ≤ toL p) && decide ((hour - fromL p).tmod (stepL p) = 0)))) := by show _ = _; rw [part_match p hour h0 h1, HM.out, part_want p hour HM.out]; rfl
                have HF : Hid (0 ≤ fromL p ∧ fromL p ≤ 23 ∧ 1 ≤ stepL p ∧ stepL p ≤ 9999) := by
                  have h := may3.1 HM.out
                  refine ⟨?_, ?_, ?_, ?_⟩ <;> (first | (unfold fromL; split <;> omega) | (unfold stepL; split <;> omega))
                generalize fromL p = f at *
                generalize toL p = t at *
                generalize stepL p = s at *
                obtain ⟨f0, f1, s0, s1⟩ := HF.out
                by_cases g1 : f ≤ hour
                · have q1 : decide (f ≤ hour) = true := by simp; omega
                  by_cases g2 : hour ≤ t
                  · have q2 : decide (hour ≤ t) = true := by simp; omega
                    have HMD : Hid ((hour - f).tmod s = (hour - f) % s) := Int.tmod_eq_emod_of_nonneg (by omega)
                    by_cases g3 : (hour - f) % s = 0
                    · have q3 : ((hour - f) % s == 0) = true := by simp; exact g3
                      have HG := Lib.hid g3
                      clear g3
                      go_wp2_with fail
                      go_meet
                      exact ⟨by rw [HV.out, HMD.out, q1, q2, decide_eq_true HG.out]; rfl, rfl⟩
                    · have q3 : ((hour - f) % s == 0) = false := by simp; exact g3
                      have HG := Lib.hid g3
                      clear g3
                      go_wp2_with fail
                      go_meet
                      exact ⟨by rw [HV.out, HMD.out, q1, q2, decide_eq_false HG.out]; rfl, rfl⟩
                  · have q2 : decide (hour ≤ t) = false := by simp; omega
                    go_wp2_with fail
                    go_meet
                    exact ⟨by rw [HV.out, q1, q2]; rfl, rfl⟩
                · have q1 : decide (f ≤ hour) = false := by simp; omega
                  go_wp2_with fail
                  go_meet
                  exact ⟨by rw [HV.out, q1]; rfl, rfl⟩
            case rest =>
              obtain ⟨rfl, rfl⟩ := hcut
              obtain ⟨mb, hmb⟩ : ∃ mb, matchB (hourC p) (3600 * hour + 5) = mb := ⟨_, rfl⟩
              rw [hmb]
              have HMB := Lib.hid hmb
              clear hmb
              cases m <;> cases mb
              all_goals (
                go_wp2_with (refine wpList_load_row rfl 26 (.tmp 5) (by rfl) b8 (by rfl) 26 (hourCh b0 b1 b2 b4 b5 b6).cells (0, 0) _ HK2.out Tryz.underlying26 rfl (by kernel_rfl) ?_)
                have hm5 := May_any (hourCh b0 b1 b2 b4 b5 b6) (hourC p) wc HT2.out.t HC2.out
                rw [part_may, HM.out] at hm5
                refine hm5.mono ?_
                rintro e w5 ⟨rfl, hq5⟩
                have HK5 := Lib.hid (HK2.out.below hq5 HK2.out.lt)
                have HB5 := Lib.hid (more3 HB2.out HB2.out.size hq5)
                have HC5 := Lib.hid ((HC2.out.below hq5).wideM hq5.size)
                have HT5 := Lib.hid (HT2.out.below hq5)
                clear hq5 hm5
                go_wp2_with (refine wpList_wantN (by rfl) ?_; refine wp_load_row 26 (.tmp 5) (by rfl) b8 (by rfl) 26 (hourCh b0 b1 b2 b4 b5 b6).cells (0, 0) _ HK5.out Tryz.underlying26 rfl (by kernel_rfl) ?_)
                have hm6 := Match_any (hourCh b0 b1 b2 b4 b5 b6) (hourC p) (3600 * hour + 5) w5 HT5.out.t HC5.out
                rw [HMB.out] at hm6
                refine hm6.mono ?_
                rintro e w6 ⟨rfl, hq6⟩
                have HB6 := Lib.hid (more3 HB5.out HB5.out.size hq6)
                clear hq6 hm6
                go_wp2_with fail
                go_ret
                exact ⟨rfl, HB6.out⟩)
end Go.Proofs.YteflddgcddcejaaGreatDoor
