/- The walk of the law's with: a calendar with another field. -/
import Derived.Test.YtncolcjejgmhjaaGreatDoorCxbn
namespace Go.Proofs.YtncolcjejgmhjaaGreatDoor
open Go.RowKit
theorem results_cell_one {P : Program} {fn : Func} {p : Tmp} {ty : TypeId} (h : fn.results = #[.cell p ty]) (tmps : Array Value) (w : World) (g : Nat) (t : TypeId) (cs : Array Value) (d : TypeDesc)
    (hp : tmps.getD p undef = .pointer (some ⟨g, 0, none⟩)) (hg : w.heap[g]? = some (.cells cs t (0, 0)))
    (hu : P.underlying ty = some d) (hd : (match d with | .struct _ | .array _ _ => true | _ => false) = true) (hi : (P.info? ty).map (·.size) = some cs.size) :
    (results fn tmps).run P w = .ok (.agg cs) w := results_cell_row h tmps w g t cs (0, 0) d hp hg hu hd hi
def Ch.put (c : Ch) (f : Nat) (s : Sl) : Ch :=
  match f with
  | 0 => { c with y := s }
  | 1 => { c with m := s }
  | 2 => { c with t := s }
  | 3 => { c with h := s }
  | 4 => { c with i := s }
  | _ => { c with s := s }
def fldW (field : Int) : Nat :=
  let v := bits .and .i64 field 7
  if v = 0 then 0 else if v = 1 then 1 else if v = 2 then 2 else if v = 3 then 3 else if v = 4 then 4 else 5
theorem fldW_eq {field v : Int} (h : bits .and .i64 field 7 = v) : fldW field = if v = 0 then 0 else if v = 1 then 1 else if v = 2 then 2 else if v = 3 then 3 else if v = 4 then 4 else 5 := by
  unfold fldW
  rw [h]
set_option maxRecDepth 100000 in
set_option maxHeartbeats 8000000 in
theorem with_any (c : Ch) (field : Int) (s : Sl) (w : World) :
    Calls Tryz.prog 8 #[.agg c.cells, .int .i64 field, .slice s.A s.n s.c] w fun e w' => e = .returned (.agg (c.put (fldW field) s).cells) ∧ (∀ {g : Nat} {t' : TypeId} {cs' : Array Value}, Blk w g t' cs' → Blk w' g t' cs') ∧ Below w.heap.size w w' := by
  obtain ⟨v, hv⟩ : ∃ v, bits .and .i64 field 7 = v := ⟨_, rfl⟩
  have HH : Hid True := trivial
  by_cases h0 : v = 0
  · have HV : Hid (fldW field = 0) := by show _ = _; rw [fldW_eq hv, h0]; rfl
    have q0 : (v == 0) = true := by simp; omega
    have HE : Hid ((c.cells.setIfInBounds 1 (.slice s.A s.n s.c)) = (c.put 0 s).cells) := rfl
    have HA : Hid (Blk ((w.alloc (.cells (c.cells.setIfInBounds 1 (.slice s.A s.n s.c)) 25)).alloc (.cells #[.slice none 0 0, .slice none 0 0, .slice none 0 0, .slice none 0 0, .slice none 0 0, .slice none 0 0, .slice none 0 0] 25)) w.heap.size 25 (c.put 0 s).cells) := ((Blk.new w _ (c.cells.setIfInBounds 1 (.slice s.A s.n s.c))).alloc _ : Blk ((w.alloc (.cells (c.cells.setIfInBounds 1 (.slice s.A s.n s.c)) 25)).alloc (.cells #[.slice none 0 0, .slice none 0 0, .slice none 0 0, .slice none 0 0, .slice none 0 0, .slice none 0 0, .slice none 0 0] 25)) w.heap.size 25 (c.cells.setIfInBounds 1 (.slice s.A s.n s.c)))
    have HR : Hid (Blk ((w.alloc (.cells (c.cells.setIfInBounds 1 (.slice s.A s.n s.c)) 25)).alloc (.cells #[.slice none 0 0, .slice none 0 0, .slice none 0 0, .slice none 0 0, .slice none 0 0, .slice none 0 0, .slice none 0 0] 25)) (w.heap.size + 1) 25 nilCh.cells) := by have h := Blk.new (w.alloc (.cells (c.cells.setIfInBounds 1 (.slice s.A s.n s.c)) 25)) 25 (#[.slice none 0 0, .slice none 0 0, .slice none 0 0, .slice none 0 0, .slice none 0 0, .slice none 0 0, .slice none 0 0]); rw [show (w.alloc (.cells (c.cells.setIfInBounds 1 (.slice s.A s.n s.c)) 25)).heap.size = w.heap.size + 1 by simp] at h; exact h
    have HB : Hid (Below w.heap.size w ((w.alloc (.cells (c.cells.setIfInBounds 1 (.slice s.A s.n s.c)) 25)).alloc (.cells #[.slice none 0 0, .slice none 0 0, .slice none 0 0, .slice none 0 0, .slice none 0 0, .slice none 0 0, .slice none 0 0] 25))) := ((Below.refl _ _).alloc (Nat.le_refl _) _).alloc (by simp) _
    have HX : Hid (∀ {g : Nat} {t' : TypeId} {cs' : Array Value}, Blk w g t' cs' → Blk ((w.alloc (.cells (c.cells.setIfInBounds 1 (.slice s.A s.n s.c)) 25)).alloc (.cells #[.slice none 0 0, .slice none 0 0, .slice none 0 0, .slice none 0 0, .slice none 0 0, .slice none 0 0, .slice none 0 0] 25)) g t' cs') := fun h => (h.alloc _).alloc _
    clear HH
    go_enter Tryz.func8, Tryz.ntmps8
    go_wp2_with (first | (refine wpList_load_row rfl 25 (.tmp 3) (by rfl) w.heap.size (by rfl) 25 (c.put 0 s).cells (0, 0) _ HA.out Tryz.underlying25 rfl (by kernel_rfl) ?_) | (refine wpList_store_row rfl 25 (.tmp 6) (.tmp 31) (by rfl) (w.heap.size + 1) (c.put 0 s).cells (by rfl) (by rfl) 25 nilCh.cells HR.out (by kernel_rfl) rfl (ch_all _) ?_))
    exact bodyPost_ret (results_cell_one (p := 6) rfl _ _ (w.heap.size + 1) 25 (c.put 0 s).cells _ rfl (Blk.row HR.out _) Tryz.underlying25 rfl (by kernel_rfl)) rfl ⟨by rw [HV.out], fun h => (heap_row_other _ _ _ _ (by have := h.lt; omega)).trans (HX.out h), below_setRow HB.out (Nat.le_succ _) _⟩
  by_cases h1 : v = 1
  · have HV : Hid (fldW field = 1) := by show _ = _; rw [fldW_eq hv, h1]; rfl
    have q0 : (v == 0) = false := by simp; omega
    have q1 : (v == 1) = true := by simp; omega
    have HE : Hid ((c.cells.setIfInBounds 2 (.slice s.A s.n s.c)) = (c.put 1 s).cells) := rfl
    have HA : Hid (Blk ((w.alloc (.cells (c.cells.setIfInBounds 2 (.slice s.A s.n s.c)) 25)).alloc (.cells #[.slice none 0 0, .slice none 0 0, .slice none 0 0, .slice none 0 0, .slice none 0 0, .slice none 0 0, .slice none 0 0] 25)) w.heap.size 25 (c.put 1 s).cells) := ((Blk.new w _ (c.cells.setIfInBounds 2 (.slice s.A s.n s.c))).alloc _ : Blk ((w.alloc (.cells (c.cells.setIfInBounds 2 (.slice s.A s.n s.c)) 25)).alloc (.cells #[.slice none 0 0, .slice none 0 0, .slice none 0 0, .slice none 0 0, .slice none 0 0, .slice none 0 0, .slice none 0 0] 25)) w.heap.size 25 (c.cells.setIfInBounds 2 (.slice s.A s.n s.c)))
    have HR : Hid (Blk ((w.alloc (.cells (c.cells.setIfInBounds 2 (.slice s.A s.n s.c)) 25)).alloc (.cells #[.slice none 0 0, .slice none 0 0, .slice none 0 0, .slice none 0 0, .slice none 0 0, .slice none 0 0, .slice none 0 0] 25)) (w.heap.size + 1) 25 nilCh.cells) := by have h := Blk.new (w.alloc (.cells (c.cells.setIfInBounds 2 (.slice s.A s.n s.c)) 25)) 25 (#[.slice none 0 0, .slice none 0 0, .slice none 0 0, .slice none 0 0, .slice none 0 0, .slice none 0 0, .slice none 0 0]); rw [show (w.alloc (.cells (c.cells.setIfInBounds 2 (.slice s.A s.n s.c)) 25)).heap.size = w.heap.size + 1 by simp] at h; exact h
    have HB : Hid (Below w.heap.size w ((w.alloc (.cells (c.cells.setIfInBounds 2 (.slice s.A s.n s.c)) 25)).alloc (.cells #[.slice none 0 0, .slice none 0 0, .slice none 0 0, .slice none 0 0, .slice none 0 0, .slice none 0 0, .slice none 0 0] 25))) := ((Below.refl _ _).alloc (Nat.le_refl _) _).alloc (by simp) _
    have HX : Hid (∀ {g : Nat} {t' : TypeId} {cs' : Array Value}, Blk w g t' cs' → Blk ((w.alloc (.cells (c.cells.setIfInBounds 2 (.slice s.A s.n s.c)) 25)).alloc (.cells #[.slice none 0 0, .slice none 0 0, .slice none 0 0, .slice none 0 0, .slice none 0 0, .slice none 0 0, .slice none 0 0] 25)) g t' cs') := fun h => (h.alloc _).alloc _
    clear HH
    go_enter Tryz.func8, Tryz.ntmps8
    go_wp2_with (first | (refine wpList_load_row rfl 25 (.tmp 3) (by rfl) w.heap.size (by rfl) 25 (c.put 1 s).cells (0, 0) _ HA.out Tryz.underlying25 rfl (by kernel_rfl) ?_) | (refine wpList_store_row rfl 25 (.tmp 6) (.tmp 31) (by rfl) (w.heap.size + 1) (c.put 1 s).cells (by rfl) (by rfl) 25 nilCh.cells HR.out (by kernel_rfl) rfl (ch_all _) ?_))
    exact bodyPost_ret (results_cell_one (p := 6) rfl _ _ (w.heap.size + 1) 25 (c.put 1 s).cells _ rfl (Blk.row HR.out _) Tryz.underlying25 rfl (by kernel_rfl)) rfl ⟨by rw [HV.out], fun h => (heap_row_other _ _ _ _ (by have := h.lt; omega)).trans (HX.out h), below_setRow HB.out (Nat.le_succ _) _⟩
  by_cases h2 : v = 2
  · have HV : Hid (fldW field = 2) := by show _ = _; rw [fldW_eq hv, h2]; rfl
    have q0 : (v == 0) = false := by simp; omega
    have q1 : (v == 1) = false := by simp; omega
    have q2 : (v == 2) = true := by simp; omega
    have HE : Hid ((c.cells.setIfInBounds 3 (.slice s.A s.n s.c)) = (c.put 2 s).cells) := rfl
    have HA : Hid (Blk ((w.alloc (.cells (c.cells.setIfInBounds 3 (.slice s.A s.n s.c)) 25)).alloc (.cells #[.slice none 0 0, .slice none 0 0, .slice none 0 0, .slice none 0 0, .slice none 0 0, .slice none 0 0, .slice none 0 0] 25)) w.heap.size 25 (c.put 2 s).cells) := ((Blk.new w _ (c.cells.setIfInBounds 3 (.slice s.A s.n s.c))).alloc _ : Blk ((w.alloc (.cells (c.cells.setIfInBounds 3 (.slice s.A s.n s.c)) 25)).alloc (.cells #[.slice none 0 0, .slice none 0 0, .slice none 0 0, .slice none 0 0, .slice none 0 0, .slice none 0 0, .slice none 0 0] 25)) w.heap.size 25 (c.cells.setIfInBounds 3 (.slice s.A s.n s.c)))
    have HR : Hid (Blk ((w.alloc (.cells (c.cells.setIfInBounds 3 (.slice s.A s.n s.c)) 25)).alloc (.cells #[.slice none 0 0, .slice none 0 0, .slice none 0 0, .slice none 0 0, .slice none 0 0, .slice none 0 0, .slice none 0 0] 25)) (w.heap.size + 1) 25 nilCh.cells) := by have h := Blk.new (w.alloc (.cells (c.cells.setIfInBounds 3 (.slice s.A s.n s.c)) 25)) 25 (#[.slice none 0 0, .slice none 0 0, .slice none 0 0, .slice none 0 0, .slice none 0 0, .slice none 0 0, .slice none 0 0]); rw [show (w.alloc (.cells (c.cells.setIfInBounds 3 (.slice s.A s.n s.c)) 25)).heap.size = w.heap.size + 1 by simp] at h; exact h
    have HB : Hid (Below w.heap.size w ((w.alloc (.cells (c.cells.setIfInBounds 3 (.slice s.A s.n s.c)) 25)).alloc (.cells #[.slice none 0 0, .slice none 0 0, .slice none 0 0, .slice none 0 0, .slice none 0 0, .slice none 0 0, .slice none 0 0] 25))) := ((Below.refl _ _).alloc (Nat.le_refl _) _).alloc (by simp) _
    have HX : Hid (∀ {g : Nat} {t' : TypeId} {cs' : Array Value}, Blk w g t' cs' → Blk ((w.alloc (.cells (c.cells.setIfInBounds 3 (.slice s.A s.n s.c)) 25)).alloc (.cells #[.slice none 0 0, .slice none 0 0, .slice none 0 0, .slice none 0 0, .slice none 0 0, .slice none 0 0, .slice none 0 0] 25)) g t' cs') := fun h => (h.alloc _).alloc _
    clear HH
    go_enter Tryz.func8, Tryz.ntmps8
    go_wp2_with (first | (refine wpList_load_row rfl 25 (.tmp 3) (by rfl) w.heap.size (by rfl) 25 (c.put 2 s).cells (0, 0) _ HA.out Tryz.underlying25 rfl (by kernel_rfl) ?_) | (refine wpList_store_row rfl 25 (.tmp 6) (.tmp 31) (by rfl) (w.heap.size + 1) (c.put 2 s).cells (by rfl) (by rfl) 25 nilCh.cells HR.out (by kernel_rfl) rfl (ch_all _) ?_))
    exact bodyPost_ret (results_cell_one (p := 6) rfl _ _ (w.heap.size + 1) 25 (c.put 2 s).cells _ rfl (Blk.row HR.out _) Tryz.underlying25 rfl (by kernel_rfl)) rfl ⟨by rw [HV.out], fun h => (heap_row_other _ _ _ _ (by have := h.lt; omega)).trans (HX.out h), below_setRow HB.out (Nat.le_succ _) _⟩
  by_cases h3 : v = 3
  · have HV : Hid (fldW field = 3) := by show _ = _; rw [fldW_eq hv, h3]; rfl
    have q0 : (v == 0) = false := by simp; omega
    have q1 : (v == 1) = false := by simp; omega
    have q2 : (v == 2) = false := by simp; omega
    have q3 : (v == 3) = true := by simp; omega
    have HE : Hid ((c.cells.setIfInBounds 4 (.slice s.A s.n s.c)) = (c.put 3 s).cells) := rfl
    have HA : Hid (Blk ((w.alloc (.cells (c.cells.setIfInBounds 4 (.slice s.A s.n s.c)) 25)).alloc (.cells #[.slice none 0 0, .slice none 0 0, .slice none 0 0, .slice none 0 0, .slice none 0 0, .slice none 0 0, .slice none 0 0] 25)) w.heap.size 25 (c.put 3 s).cells) := ((Blk.new w _ (c.cells.setIfInBounds 4 (.slice s.A s.n s.c))).alloc _ : Blk ((w.alloc (.cells (c.cells.setIfInBounds 4 (.slice s.A s.n s.c)) 25)).alloc (.cells #[.slice none 0 0, .slice none 0 0, .slice none 0 0, .slice none 0 0, .slice none 0 0, .slice none 0 0, .slice none 0 0] 25)) w.heap.size 25 (c.cells.setIfInBounds 4 (.slice s.A s.n s.c)))
    have HR : Hid (Blk ((w.alloc (.cells (c.cells.setIfInBounds 4 (.slice s.A s.n s.c)) 25)).alloc (.cells #[.slice none 0 0, .slice none 0 0, .slice none 0 0, .slice none 0 0, .slice none 0 0, .slice none 0 0, .slice none 0 0] 25)) (w.heap.size + 1) 25 nilCh.cells) := by have h := Blk.new (w.alloc (.cells (c.cells.setIfInBounds 4 (.slice s.A s.n s.c)) 25)) 25 (#[.slice none 0 0, .slice none 0 0, .slice none 0 0, .slice none 0 0, .slice none 0 0, .slice none 0 0, .slice none 0 0]); rw [show (w.alloc (.cells (c.cells.setIfInBounds 4 (.slice s.A s.n s.c)) 25)).heap.size = w.heap.size + 1 by simp] at h; exact h
    have HB : Hid (Below w.heap.size w ((w.alloc (.cells (c.cells.setIfInBounds 4 (.slice s.A s.n s.c)) 25)).alloc (.cells #[.slice none 0 0, .slice none 0 0, .slice none 0 0, .slice none 0 0, .slice none 0 0, .slice none 0 0, .slice none 0 0] 25))) := ((Below.refl _ _).alloc (Nat.le_refl _) _).alloc (by simp) _
    have HX : Hid (∀ {g : Nat} {t' : TypeId} {cs' : Array Value}, Blk w g t' cs' → Blk ((w.alloc (.cells (c.cells.setIfInBounds 4 (.slice s.A s.n s.c)) 25)).alloc (.cells #[.slice none 0 0, .slice none 0 0, .slice none 0 0, .slice none 0 0, .slice none 0 0, .slice none 0 0, .slice none 0 0] 25)) g t' cs') := fun h => (h.alloc _).alloc _
    clear HH
    go_enter Tryz.func8, Tryz.ntmps8
    go_wp2_with (first | (refine wpList_load_row rfl 25 (.tmp 3) (by rfl) w.heap.size (by rfl) 25 (c.put 3 s).cells (0, 0) _ HA.out Tryz.underlying25 rfl (by kernel_rfl) ?_) | (refine wpList_store_row rfl 25 (.tmp 6) (.tmp 31) (by rfl) (w.heap.size + 1) (c.put 3 s).cells (by rfl) (by rfl) 25 nilCh.cells HR.out (by kernel_rfl) rfl (ch_all _) ?_))
    exact bodyPost_ret (results_cell_one (p := 6) rfl _ _ (w.heap.size + 1) 25 (c.put 3 s).cells _ rfl (Blk.row HR.out _) Tryz.underlying25 rfl (by kernel_rfl)) rfl ⟨by rw [HV.out], fun h => (heap_row_other _ _ _ _ (by have := h.lt; omega)).trans (HX.out h), below_setRow HB.out (Nat.le_succ _) _⟩
  by_cases h4 : v = 4
  · have HV : Hid (fldW field = 4) := by show _ = _; rw [fldW_eq hv, h4]; rfl
    have q0 : (v == 0) = false := by simp; omega
    have q1 : (v == 1) = false := by simp; omega
    have q2 : (v == 2) = false := by simp; omega
    have q3 : (v == 3) = false := by simp; omega
    have q4 : (v == 4) = true := by simp; omega
    have HE : Hid ((c.cells.setIfInBounds 5 (.slice s.A s.n s.c)) = (c.put 4 s).cells) := rfl
    have HA : Hid (Blk ((w.alloc (.cells (c.cells.setIfInBounds 5 (.slice s.A s.n s.c)) 25)).alloc (.cells #[.slice none 0 0, .slice none 0 0, .slice none 0 0, .slice none 0 0, .slice none 0 0, .slice none 0 0, .slice none 0 0] 25)) w.heap.size 25 (c.put 4 s).cells) := ((Blk.new w _ (c.cells.setIfInBounds 5 (.slice s.A s.n s.c))).alloc _ : Blk ((w.alloc (.cells (c.cells.setIfInBounds 5 (.slice s.A s.n s.c)) 25)).alloc (.cells #[.slice none 0 0, .slice none 0 0, .slice none 0 0, .slice none 0 0, .slice none 0 0, .slice none 0 0, .slice none 0 0] 25)) w.heap.size 25 (c.cells.setIfInBounds 5 (.slice s.A s.n s.c)))
    have HR : Hid (Blk ((w.alloc (.cells (c.cells.setIfInBounds 5 (.slice s.A s.n s.c)) 25)).alloc (.cells #[.slice none 0 0, .slice none 0 0, .slice none 0 0, .slice none 0 0, .slice none 0 0, .slice none 0 0, .slice none 0 0] 25)) (w.heap.size + 1) 25 nilCh.cells) := by have h := Blk.new (w.alloc (.cells (c.cells.setIfInBounds 5 (.slice s.A s.n s.c)) 25)) 25 (#[.slice none 0 0, .slice none 0 0, .slice none 0 0, .slice none 0 0, .slice none 0 0, .slice none 0 0, .slice none 0 0]); rw [show (w.alloc (.cells (c.cells.setIfInBounds 5 (.slice s.A s.n s.c)) 25)).heap.size = w.heap.size + 1 by simp] at h; exact h
    have HB : Hid (Below w.heap.size w ((w.alloc (.cells (c.cells.setIfInBounds 5 (.slice s.A s.n s.c)) 25)).alloc (.cells #[.slice none 0 0, .slice none 0 0, .slice none 0 0, .slice none 0 0, .slice none 0 0, .slice none 0 0, .slice none 0 0] 25))) := ((Below.refl _ _).alloc (Nat.le_refl _) _).alloc (by simp) _
    have HX : Hid (∀ {g : Nat} {t' : TypeId} {cs' : Array Value}, Blk w g t' cs' → Blk ((w.alloc (.cells (c.cells.setIfInBounds 5 (.slice s.A s.n s.c)) 25)).alloc (.cells #[.slice none 0 0, .slice none 0 0, .slice none 0 0, .slice none 0 0, .slice none 0 0, .slice none 0 0, .slice none 0 0] 25)) g t' cs') := fun h => (h.alloc _).alloc _
    clear HH
    go_enter Tryz.func8, Tryz.ntmps8
    go_wp2_with (first | (refine wpList_load_row rfl 25 (.tmp 3) (by rfl) w.heap.size (by rfl) 25 (c.put 4 s).cells (0, 0) _ HA.out Tryz.underlying25 rfl (by kernel_rfl) ?_) | (refine wpList_store_row rfl 25 (.tmp 6) (.tmp 31) (by rfl) (w.heap.size + 1) (c.put 4 s).cells (by rfl) (by rfl) 25 nilCh.cells HR.out (by kernel_rfl) rfl (ch_all _) ?_))
    exact bodyPost_ret (results_cell_one (p := 6) rfl _ _ (w.heap.size + 1) 25 (c.put 4 s).cells _ rfl (Blk.row HR.out _) Tryz.underlying25 rfl (by kernel_rfl)) rfl ⟨by rw [HV.out], fun h => (heap_row_other _ _ _ _ (by have := h.lt; omega)).trans (HX.out h), below_setRow HB.out (Nat.le_succ _) _⟩
  have HV : Hid (fldW field = 5) := by show _ = _; rw [fldW_eq hv, if_neg h0, if_neg h1, if_neg h2, if_neg h3, if_neg h4]
  have q0 : (v == 0) = false := by simp; omega
  have q1 : (v == 1) = false := by simp; omega
  have q2 : (v == 2) = false := by simp; omega
  have q3 : (v == 3) = false := by simp; omega
  have q4 : (v == 4) = false := by simp; omega
  have HE : Hid ((c.cells.setIfInBounds 6 (.slice s.A s.n s.c)) = (c.put 5 s).cells) := rfl
  have HA : Hid (Blk ((w.alloc (.cells (c.cells.setIfInBounds 6 (.slice s.A s.n s.c)) 25)).alloc (.cells #[.slice none 0 0, .slice none 0 0, .slice none 0 0, .slice none 0 0, .slice none 0 0, .slice none 0 0, .slice none 0 0] 25)) w.heap.size 25 (c.put 5 s).cells) := ((Blk.new w _ (c.cells.setIfInBounds 6 (.slice s.A s.n s.c))).alloc _ : Blk ((w.alloc (.cells (c.cells.setIfInBounds 6 (.slice s.A s.n s.c)) 25)).alloc (.cells #[.slice none 0 0, .slice none 0 0, .slice none 0 0, .slice none 0 0, .slice none 0 0, .slice none 0 0, .slice none 0 0] 25)) w.heap.size 25 (c.cells.setIfInBounds 6 (.slice s.A s.n s.c)))
  have HR : Hid (Blk ((w.alloc (.cells (c.cells.setIfInBounds 6 (.slice s.A s.n s.c)) 25)).alloc (.cells #[.slice none 0 0, .slice none 0 0, .slice none 0 0, .slice none 0 0, .slice none 0 0, .slice none 0 0, .slice none 0 0] 25)) (w.heap.size + 1) 25 nilCh.cells) := by have h := Blk.new (w.alloc (.cells (c.cells.setIfInBounds 6 (.slice s.A s.n s.c)) 25)) 25 (#[.slice none 0 0, .slice none 0 0, .slice none 0 0, .slice none 0 0, .slice none 0 0, .slice none 0 0, .slice none 0 0]); rw [show (w.alloc (.cells (c.cells.setIfInBounds 6 (.slice s.A s.n s.c)) 25)).heap.size = w.heap.size + 1 by simp] at h; exact h
  have HB : Hid (Below w.heap.size w ((w.alloc (.cells (c.cells.setIfInBounds 6 (.slice s.A s.n s.c)) 25)).alloc (.cells #[.slice none 0 0, .slice none 0 0, .slice none 0 0, .slice none 0 0, .slice none 0 0, .slice none 0 0, .slice none 0 0] 25))) := ((Below.refl _ _).alloc (Nat.le_refl _) _).alloc (by simp) _
  have HX : Hid (∀ {g : Nat} {t' : TypeId} {cs' : Array Value}, Blk w g t' cs' → Blk ((w.alloc (.cells (c.cells.setIfInBounds 6 (.slice s.A s.n s.c)) 25)).alloc (.cells #[.slice none 0 0, .slice none 0 0, .slice none 0 0, .slice none 0 0, .slice none 0 0, .slice none 0 0, .slice none 0 0] 25)) g t' cs') := fun h => (h.alloc _).alloc _
  clear HH
  go_enter Tryz.func8, Tryz.ntmps8
  go_wp2_with (first | (refine wpList_load_row rfl 25 (.tmp 3) (by rfl) w.heap.size (by rfl) 25 (c.put 5 s).cells (0, 0) _ HA.out Tryz.underlying25 rfl (by kernel_rfl) ?_) | (refine wpList_store_row rfl 25 (.tmp 6) (.tmp 31) (by rfl) (w.heap.size + 1) (c.put 5 s).cells (by rfl) (by rfl) 25 nilCh.cells HR.out (by kernel_rfl) rfl (ch_all _) ?_))
  exact bodyPost_ret (results_cell_one (p := 6) rfl _ _ (w.heap.size + 1) 25 (c.put 5 s).cells _ rfl (Blk.row HR.out _) Tryz.underlying25 rfl (by kernel_rfl)) rfl ⟨by rw [HV.out], fun h => (heap_row_other _ _ _ _ (by have := h.lt; omega)).trans (HX.out h), below_setRow HB.out (Nat.le_succ _) _⟩
end Go.Proofs.YtncolcjejgmhjaaGreatDoor
