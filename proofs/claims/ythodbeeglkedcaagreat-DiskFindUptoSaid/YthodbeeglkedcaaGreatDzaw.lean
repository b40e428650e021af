/- The walk of the document's Path. -/
import Derived.Test.YthodbeeglkedcaaGreatDzav
namespace Go.Proofs.YthodbeeglkedcaaGreat
open Go.RowKit
set_option maxRecDepth 100000 in
set_option maxHeartbeats 8000000 in
theorem Path_any (s : ByteArray) (hs : s.size ≤ 4194304) (w : World) :
    Calls Tryz.prog 42 #[.string s] w (PathP s w) := by
  have hlen : ∀ x ∈ splitL 47 s.data.toList, x.length ≤ 4194304 := fun x hx => by have := split_len hx; rw [size_list] at this; omega
  have hcnt : (splitL 47 s.data.toList).length ≤ 4194305 := by have := sgo_count 47 s.data.toList []; rw [size_list] at this; show (sgo 47 [] s.data.toList).length ≤ _; omega
  have HP2 := Lib.hid (fun a b => path_two_of (s := s.data.toList) (a := a) (b := b))
  have HP3 := Lib.hid (fun a b c => path_three_of (s := s.data.toList) (a := a) (b := b) (c := c))
  have HPO := Lib.hid (path_other (s := s.data.toList))
  have HR0 : Hid (Blk (w.alloc (.cells #[.int .i64 0, .string ⟨#[]⟩, .string ⟨#[]⟩, .string ⟨#[]⟩] 68)) w.heap.size 68 (wyA noWy)) := Blk.new w _ _
  have HB0 : Hid (Below w.heap.size w (w.alloc (.cells #[.int .i64 0, .string ⟨#[]⟩, .string ⟨#[]⟩, .string ⟨#[]⟩] 68))) := (Below.refl _ w).alloc (Nat.le_refl _) _
  have HSp : Hid (∀ w : World, Calls Tryz.prog 65 #[.string s, .int .u8 47] w (fun e w' => ∃ v, e = .returned v ∧ w'.ownsRow w.heap.size 9 1 v (splitL 47 s.data.toList).length (wcells (splitL 47 s.data.toList)) ∧ Below w.heap.size w w')) := fun w => Split_any s 47 hs w
  unfold PathP
  generalize s.data.toList = sl at *
  generalize hl : splitL 47 sl = l at *
  go_enter Tryz.func42, Tryz.ntmps42
  go_wp2_with fail
  generalize w.alloc (.cells #[.int .i64 0, .string ⟨#[]⟩, .string ⟨#[]⟩, .string ⟨#[]⟩] 68) = w0 at *
  refine (HSp.out _).mono ?_
  rintro e1 w1 ⟨v, rfl, hv, hb1⟩
  obtain ⟨A, c, rfl, hrow⟩ := own_row hv (by unfold maxLen; omega)
  have HR1 := Lib.hid (HR0.out.below hb1 HR0.out.lt)
  have HB1 := Lib.hid (more3 HB0.out HB0.out.size hb1)
  have HL := Lib.hid hrow
  clear hb1 hrow hv HR0 HB0 HSp
  have hRl := HR1.out.lt
  by_cases hn2 : l.length < 2
  · have HV := Lib.hid (HPO.out (.inl hn2))
    have n1 : decide ((l.length : Int) < 2) = true := by simp; omega
    clear HP2 HP3 HPO hn2
    go_wp2_with fail
    refine wp_region_held_drew (S := fun W => Below w1.heap.size w1 W) (by kernel_rfl) ?_ (fun hHeld => ?_)
    · exact (Below.refl _ w1).drew
    refine wpAnyH_take (i := 0) (v := ?v0_1) rfl (by kernel_rfl) (by kernel_rfl) (by kernel_rfl) (fun _ _ _ h => h) (Or.inl ⟨by rfl, ?hy0_1⟩) (by assumption) ?_
    case hy0_1 => (intro w hSw; (try dsimp only at hSw); go_simp; (try with_reducible rfl))
    try simp only [Act.put, List.getElem_toArray, List.getElem_cons_zero, List.setIfInBounds_toArray, List.set_cons_zero, List.set_cons_succ]
    refine wpAnyH_take (i := 1) (v := ?v1_1) rfl (by kernel_rfl) (by kernel_rfl) (by kernel_rfl) (fun _ _ _ h => h) (Or.inl ⟨by rfl, ?hy1_1⟩) (by assumption) ?_
    case hy1_1 => (intro w hSw; (try dsimp only at hSw); go_simp; (try with_reducible rfl))
    try simp only [Act.put, List.getElem_toArray, List.getElem_cons_zero, List.getElem_cons_succ, List.setIfInBounds_toArray, List.set_cons_zero, List.set_cons_succ]
    refine wpAnyH_take (i := 2) (v := ?v2_1) rfl (by kernel_rfl) (by kernel_rfl) (by kernel_rfl) (fun _ _ _ h => h) (Or.inl ⟨by rfl, ?hy2_1⟩) (by assumption) ?_
    case hy2_1 => (intro w hSw; (try dsimp only at hSw); go_simp; (try with_reducible rfl))
    try simp only [Act.put, List.getElem_toArray, List.getElem_cons_zero, List.getElem_cons_succ, List.setIfInBounds_toArray, List.set_cons_zero, List.set_cons_succ]
    refine wpAnyH_take (i := 3) (v := ?v3_1) rfl (by kernel_rfl) (by kernel_rfl) (by kernel_rfl) (fun _ _ _ h => h) (Or.inl ⟨by rfl, ?hy3_1⟩) (by assumption) ?_
    case hy3_1 => (intro w hSw; (try dsimp only at hSw); go_simp; (try with_reducible rfl))
    try simp only [Act.put, List.getElem_toArray, List.getElem_cons_zero, List.getElem_cons_succ, List.setIfInBounds_toArray, List.set_cons_zero, List.set_cons_succ]
    refine wpAnyH_take (i := 4) (v := undef) rfl (by kernel_rfl) (by kernel_rfl) (by kernel_rfl) (fun _ _ _ h => h) (Or.inr ⟨by rfl, rfl⟩) (by assumption) ?_
    try simp only [Act.put, List.getElem_toArray, List.getElem_cons_zero, List.getElem_cons_succ, List.setIfInBounds_toArray, List.set_cons_zero, List.set_cons_succ]
    refine wpAnyH_take (i := 5) (v := undef) rfl (by kernel_rfl) (by kernel_rfl) (by kernel_rfl) (fun _ _ _ h => h) (Or.inr ⟨by rfl, rfl⟩) (by assumption) ?_
    try simp only [Act.put, List.getElem_toArray, List.getElem_cons_zero, List.getElem_cons_succ, List.setIfInBounds_toArray, List.set_cons_zero, List.set_cons_succ]
    refine wpAnyH_take (i := 6) (v := undef) rfl (by kernel_rfl) (by kernel_rfl) (by kernel_rfl) (fun _ _ _ h => h) (Or.inr ⟨by rfl, rfl⟩) (by assumption) ?_
    try simp only [Act.put, List.getElem_toArray, List.getElem_cons_zero, List.getElem_cons_succ, List.setIfInBounds_toArray, List.set_cons_zero, List.set_cons_succ]
    refine wpAnyH_take (i := 7) (v := ?v7_1) rfl (by kernel_rfl) (by kernel_rfl) (by kernel_rfl) (fun _ _ _ h => h) (Or.inl ⟨by rfl, ?hy7_1⟩) (by assumption) ?_
    case hy7_1 => (intro w hSw; (try dsimp only at hSw); go_simp; (try with_reducible rfl))
    try simp only [Act.put, List.getElem_toArray, List.getElem_cons_zero, List.getElem_cons_succ, List.setIfInBounds_toArray, List.set_cons_zero, List.set_cons_succ]
    refine wpAnyH_take (i := 8) (v := ?v8_1) rfl (by kernel_rfl) (by kernel_rfl) (by kernel_rfl) (fun _ _ _ h => h) (Or.inl ⟨by rfl, ?hy8_1⟩) (by assumption) ?_
    case hy8_1 => (intro w hSw; (try dsimp only at hSw); go_simp; (try with_reducible rfl))
    try simp only [Act.put, List.getElem_toArray, List.getElem_cons_zero, List.getElem_cons_succ, List.setIfInBounds_toArray, List.set_cons_zero, List.set_cons_succ]
    refine wpAnyH_take (i := 9) (v := undef) rfl (by kernel_rfl) (by kernel_rfl) (by kernel_rfl) (fun _ _ _ h => h) (Or.inr ⟨by rfl, rfl⟩) (by assumption) ?_
    try simp only [Act.put, List.getElem_toArray, List.getElem_cons_zero, List.getElem_cons_succ, List.setIfInBounds_toArray, List.set_cons_zero, List.set_cons_succ]
    refine wpAnyH_take (i := 10) (v := undef) rfl (by kernel_rfl) (by kernel_rfl) (by kernel_rfl) (fun _ _ _ h => h) (Or.inr ⟨by rfl, rfl⟩) (by assumption) ?_
    try simp only [Act.put, List.getElem_toArray, List.getElem_cons_zero, List.getElem_cons_succ, List.setIfInBounds_toArray, List.set_cons_zero, List.set_cons_succ]
    refine wpAnyH_take (i := 11) (v := undef) rfl (by kernel_rfl) (by kernel_rfl) (by kernel_rfl) (fun _ _ _ h => h) (Or.inr ⟨by rfl, rfl⟩) (by assumption) ?_
    try simp only [Act.put, List.getElem_toArray, List.getElem_cons_zero, List.getElem_cons_succ, List.setIfInBounds_toArray, List.set_cons_zero, List.set_cons_succ]
    refine wpAnyH_take (i := 12) (v := undef) rfl (by kernel_rfl) (by kernel_rfl) (by kernel_rfl) (fun _ _ _ h => h) (Or.inr ⟨by rfl, rfl⟩) (by assumption) ?_
    try simp only [Act.put, List.getElem_toArray, List.getElem_cons_zero, List.getElem_cons_succ, List.setIfInBounds_toArray, List.set_cons_zero, List.set_cons_succ]
    refine wpAnyH_take (i := 13) (v := undef) rfl (by kernel_rfl) (by kernel_rfl) (by kernel_rfl) (fun _ _ _ h => h) (Or.inr ⟨by rfl, rfl⟩) (by assumption) ?_
    try simp only [Act.put, List.getElem_toArray, List.getElem_cons_zero, List.getElem_cons_succ, List.setIfInBounds_toArray, List.set_cons_zero, List.set_cons_succ]
    refine wpAnyH_take (i := 14) (v := undef) rfl (by kernel_rfl) (by kernel_rfl) (by kernel_rfl) (fun _ _ _ h => h) (Or.inr ⟨by rfl, rfl⟩) (by assumption) ?_
    try simp only [Act.put, List.getElem_toArray, List.getElem_cons_zero, List.getElem_cons_succ, List.setIfInBounds_toArray, List.set_cons_zero, List.set_cons_succ]
    refine wpAnyH_take (i := 15) (v := ?v15_1) rfl (by kernel_rfl) (by kernel_rfl) (by kernel_rfl) (fun _ _ _ h => h) (Or.inl ⟨by rfl, ?hy15_1⟩) (by assumption) ?_
    case hy15_1 => (intro w hSw; (try dsimp only at hSw); go_simp; (try with_reducible rfl))
    try simp only [Act.put, List.getElem_toArray, List.getElem_cons_zero, List.getElem_cons_succ, List.setIfInBounds_toArray, List.set_cons_zero, List.set_cons_succ]
    refine wpAnyH_done (by kernel_rfl) ?_ _
    have HR2 := Lib.hid (HR1.out.below hHeld hRl)
    have HB2 := Lib.hid (more3 HB1.out HB1.out.size hHeld)
    go_wp2_with (refine wpList_store_row rfl 68 (.tmp 2) (.tmp 29) (by rfl) w.heap.size (wyA noWy) (by rfl) (by rfl) 68 (wyA noWy) HR2.out (by kernel_rfl) rfl (wyA_all _) ?_)
    exact bodyPost_ret (results_cell_one (p := 2) rfl _ _ w.heap.size 68 (wyA noWy) _ rfl (Blk.row HR2.out _) Tryz.underlying68 rfl (by kernel_rfl)) rfl ⟨by rw [HV.out], below_setRow HB2.out (Nat.le_refl _) _⟩
  have n1 : decide ((l.length : Int) < 2) = false := by simp; omega
  by_cases hn3 : 3 < l.length
  · have HV := Lib.hid (HPO.out (.inr hn3))
    have n2 : decide ((3 : Int) < (l.length : Int)) = true := by simp; omega
    clear HP2 HP3 HPO hn3 hn2
    go_wp2_with fail
    refine wp_region_held_drew (S := fun W => Below w1.heap.size w1 W) (by kernel_rfl) ?_ (fun hHeld => ?_)
    · exact (Below.refl _ w1).drew
    refine wpAnyH_take (i := 0) (v := ?v0_2) rfl (by kernel_rfl) (by kernel_rfl) (by kernel_rfl) (fun _ _ _ h => h) (Or.inl ⟨by rfl, ?hy0_2⟩) (by assumption) ?_
    case hy0_2 => (intro w hSw; (try dsimp only at hSw); go_simp; (try with_reducible rfl))
    try simp only [Act.put, List.getElem_toArray, List.getElem_cons_zero, List.setIfInBounds_toArray, List.set_cons_zero, List.set_cons_succ]
    refine wpAnyH_take (i := 1) (v := ?v1_2) rfl (by kernel_rfl) (by kernel_rfl) (by kernel_rfl) (fun _ _ _ h => h) (Or.inl ⟨by rfl, ?hy1_2⟩) (by assumption) ?_
    case hy1_2 => (intro w hSw; (try dsimp only at hSw); go_simp; (try with_reducible rfl))
    try simp only [Act.put, List.getElem_toArray, List.getElem_cons_zero, List.getElem_cons_succ, List.setIfInBounds_toArray, List.set_cons_zero, List.set_cons_succ]
    refine wpAnyH_take (i := 2) (v := ?v2_2) rfl (by kernel_rfl) (by kernel_rfl) (by kernel_rfl) (fun _ _ _ h => h) (Or.inl ⟨by rfl, ?hy2_2⟩) (by assumption) ?_
    case hy2_2 => (intro w hSw; (try dsimp only at hSw); go_simp; (try with_reducible rfl))
    try simp only [Act.put, List.getElem_toArray, List.getElem_cons_zero, List.getElem_cons_succ, List.setIfInBounds_toArray, List.set_cons_zero, List.set_cons_succ]
    refine wpAnyH_take (i := 3) (v := ?v3_2) rfl (by kernel_rfl) (by kernel_rfl) (by kernel_rfl) (fun _ _ _ h => h) (Or.inl ⟨by rfl, ?hy3_2⟩) (by assumption) ?_
    case hy3_2 => (intro w hSw; (try dsimp only at hSw); go_simp; (try with_reducible rfl))
    try simp only [Act.put, List.getElem_toArray, List.getElem_cons_zero, List.getElem_cons_succ, List.setIfInBounds_toArray, List.set_cons_zero, List.set_cons_succ]
    refine wpAnyH_take (i := 4) (v := ?v4_2) rfl (by kernel_rfl) (by kernel_rfl) (by kernel_rfl) (fun _ _ _ h => h) (Or.inl ⟨by rfl, ?hy4_2⟩) (by assumption) ?_
    case hy4_2 => (intro w hSw; (try dsimp only at hSw); go_simp; (try with_reducible rfl))
    try simp only [Act.put, List.getElem_toArray, List.getElem_cons_zero, List.getElem_cons_succ, List.setIfInBounds_toArray, List.set_cons_zero, List.set_cons_succ]
    refine wpAnyH_take (i := 5) (v := ?v5_2) rfl (by kernel_rfl) (by kernel_rfl) (by kernel_rfl) (fun _ _ _ h => h) (Or.inl ⟨by rfl, ?hy5_2⟩) (by assumption) ?_
    case hy5_2 => (intro w hSw; (try dsimp only at hSw); go_simp; (try with_reducible rfl))
    try simp only [Act.put, List.getElem_toArray, List.getElem_cons_zero, List.getElem_cons_succ, List.setIfInBounds_toArray, List.set_cons_zero, List.set_cons_succ]
    refine wpAnyH_take (i := 6) (v := ?v6_2) rfl (by kernel_rfl) (by kernel_rfl) (by kernel_rfl) (fun _ _ _ h => h) (Or.inl ⟨by rfl, ?hy6_2⟩) (by assumption) ?_
    case hy6_2 => (intro w hSw; (try dsimp only at hSw); go_simp; (try with_reducible rfl))
    try simp only [Act.put, List.getElem_toArray, List.getElem_cons_zero, List.getElem_cons_succ, List.setIfInBounds_toArray, List.set_cons_zero, List.set_cons_succ]
    refine wpAnyH_take (i := 7) (v := ?v7_2) rfl (by kernel_rfl) (by kernel_rfl) (by kernel_rfl) (fun _ _ _ h => h) (Or.inl ⟨by rfl, ?hy7_2⟩) (by assumption) ?_
    case hy7_2 => (intro w hSw; (try dsimp only at hSw); go_simp; (try with_reducible rfl))
    try simp only [Act.put, List.getElem_toArray, List.getElem_cons_zero, List.getElem_cons_succ, List.setIfInBounds_toArray, List.set_cons_zero, List.set_cons_succ]
    refine wpAnyH_take (i := 8) (v := ?v8_2) rfl (by kernel_rfl) (by kernel_rfl) (by kernel_rfl) (fun _ _ _ h => h) (Or.inl ⟨by rfl, ?hy8_2⟩) (by assumption) ?_
    case hy8_2 => (intro w hSw; (try dsimp only at hSw); go_simp; (try with_reducible rfl))
    try simp only [Act.put, List.getElem_toArray, List.getElem_cons_zero, List.getElem_cons_succ, List.setIfInBounds_toArray, List.set_cons_zero, List.set_cons_succ]
    refine wpAnyH_take (i := 9) (v := undef) rfl (by kernel_rfl) (by kernel_rfl) (by kernel_rfl) (fun _ _ _ h => h) (Or.inr ⟨by rfl, rfl⟩) (by assumption) ?_
    try simp only [Act.put, List.getElem_toArray, List.getElem_cons_zero, List.getElem_cons_succ, List.setIfInBounds_toArray, List.set_cons_zero, List.set_cons_succ]
    refine wpAnyH_take (i := 10) (v := undef) rfl (by kernel_rfl) (by kernel_rfl) (by kernel_rfl) (fun _ _ _ h => h) (Or.inr ⟨by rfl, rfl⟩) (by assumption) ?_
    try simp only [Act.put, List.getElem_toArray, List.getElem_cons_zero, List.getElem_cons_succ, List.setIfInBounds_toArray, List.set_cons_zero, List.set_cons_succ]
    refine wpAnyH_take (i := 11) (v := undef) rfl (by kernel_rfl) (by kernel_rfl) (by kernel_rfl) (fun _ _ _ h => h) (Or.inr ⟨by rfl, rfl⟩) (by assumption) ?_
    try simp only [Act.put, List.getElem_toArray, List.getElem_cons_zero, List.getElem_cons_succ, List.setIfInBounds_toArray, List.set_cons_zero, List.set_cons_succ]
    refine wpAnyH_take (i := 12) (v := undef) rfl (by kernel_rfl) (by kernel_rfl) (by kernel_rfl) (fun _ _ _ h => h) (Or.inr ⟨by rfl, rfl⟩) (by assumption) ?_
    try simp only [Act.put, List.getElem_toArray, List.getElem_cons_zero, List.getElem_cons_succ, List.setIfInBounds_toArray, List.set_cons_zero, List.set_cons_succ]
    refine wpAnyH_take (i := 13) (v := undef) rfl (by kernel_rfl) (by kernel_rfl) (by kernel_rfl) (fun _ _ _ h => h) (Or.inr ⟨by rfl, rfl⟩) (by assumption) ?_
    try simp only [Act.put, List.getElem_toArray, List.getElem_cons_zero, List.getElem_cons_succ, List.setIfInBounds_toArray, List.set_cons_zero, List.set_cons_succ]
    refine wpAnyH_take (i := 14) (v := undef) rfl (by kernel_rfl) (by kernel_rfl) (by kernel_rfl) (fun _ _ _ h => h) (Or.inr ⟨by rfl, rfl⟩) (by assumption) ?_
    try simp only [Act.put, List.getElem_toArray, List.getElem_cons_zero, List.getElem_cons_succ, List.setIfInBounds_toArray, List.set_cons_zero, List.set_cons_succ]
    refine wpAnyH_take (i := 15) (v := ?v15_2) rfl (by kernel_rfl) (by kernel_rfl) (by kernel_rfl) (fun _ _ _ h => h) (Or.inl ⟨by rfl, ?hy15_2⟩) (by assumption) ?_
    case hy15_2 => (intro w hSw; (try dsimp only at hSw); go_simp; (try with_reducible rfl))
    try simp only [Act.put, List.getElem_toArray, List.getElem_cons_zero, List.getElem_cons_succ, List.setIfInBounds_toArray, List.set_cons_zero, List.set_cons_succ]
    refine wpAnyH_done (by kernel_rfl) ?_ _
    have HR2 := Lib.hid (HR1.out.below hHeld hRl)
    have HB2 := Lib.hid (more3 HB1.out HB1.out.size hHeld)
    go_wp2_with (refine wpList_store_row rfl 68 (.tmp 2) (.tmp 29) (by rfl) w.heap.size (wyA noWy) (by rfl) (by rfl) 68 (wyA noWy) HR2.out (by kernel_rfl) rfl (wyA_all _) ?_)
    exact bodyPost_ret (results_cell_one (p := 2) rfl _ _ w.heap.size 68 (wyA noWy) _ rfl (Blk.row HR2.out _) Tryz.underlying68 rfl (by kernel_rfl)) rfl ⟨by rw [HV.out], below_setRow HB2.out (Nat.le_refl _) _⟩
  have n2 : decide ((3 : Int) < (l.length : Int)) = false := by simp; omega
  have n3 : 0 < l.length := by omega
  have hsh : (∃ x y, l = [x, y]) ∨ (∃ x y z, l = [x, y, z]) := by
    match l, hn2, hn3 with
    | [x, y], _, _ => exact .inl ⟨x, y, rfl⟩
    | [x, y, z], _, _ => exact .inr ⟨x, y, z, rfl⟩
    | [], h, _ => exact absurd (by simp) h
    | [x], h, _ => exact absurd (by simp) h
    | _ :: _ :: _ :: _ :: _, _, h => exact absurd (by simp) h
  clear HPO
  obtain ⟨ad, a, rfl, hab, ha, qa⟩ := HL.out.at_ (k := 0) (by omega)
  have hal := hlen a (List.mem_of_getElem? ha)
  have ha0 : w1.cell? ad = some (.string (str a)) := qa
  clear qa
  have hHas : ∀ (PA : Option Addr) (pc : Nat) (W : World), RowAt W W.heap.size PA 3 plc → Calls Tryz.prog 25 #[.slice PA 3 pc, .string (str a)] W fun e w' => e = .returned (.bool (decide (a ∈ plc))) ∧ W = w' := fun PA pc W h => by
    have := Has_any PA 3 pc _ plc (str a) W h
    rw [str_list, any_plc] at this
    exact this
  have HH := Lib.hid hHas
  clear hHas
  by_cases hap : a ∈ plc
  · rw [decide_eq_true hap] at HH
    have HA0 := Lib.hid ha
    clear ha
    go_wp2_with fail
    refine wp_region_held_drew (S := fun W => Below w1.heap.size w1 W) (by kernel_rfl) ?_ (fun hHeld => ?_)
    · exact (Below.refl _ w1).drew
    refine wpAnyH_take (i := 0) (v := ?v0_3) rfl (by kernel_rfl) (by kernel_rfl) (by kernel_rfl) (fun _ _ _ h => h) (Or.inl ⟨by rfl, ?hy0_3⟩) (by assumption) ?_
    case hy0_3 => (intro w hSw; (try dsimp only at hSw); go_simp; (try with_reducible rfl))
    try simp only [Act.put, List.getElem_toArray, List.getElem_cons_zero, List.setIfInBounds_toArray, List.set_cons_zero, List.set_cons_succ]
    refine wpAnyH_take (i := 1) (v := ?v1_3) rfl (by kernel_rfl) (by kernel_rfl) (by kernel_rfl) (fun _ _ _ h => h) (Or.inl ⟨by rfl, ?hy1_3⟩) (by assumption) ?_
    case hy1_3 => (intro w hSw; (try dsimp only at hSw); go_simp; (try with_reducible rfl))
    try simp only [Act.put, List.getElem_toArray, List.getElem_cons_zero, List.getElem_cons_succ, List.setIfInBounds_toArray, List.set_cons_zero, List.set_cons_succ]
    refine wpAnyH_take (i := 2) (v := ?v2_3) rfl (by kernel_rfl) (by kernel_rfl) (by kernel_rfl) (fun _ _ _ h => h) (Or.inl ⟨by rfl, ?hy2_3⟩) (by assumption) ?_
    case hy2_3 => (intro w hSw; (try dsimp only at hSw); go_simp; (try with_reducible rfl))
    try simp only [Act.put, List.getElem_toArray, List.getElem_cons_zero, List.getElem_cons_succ, List.setIfInBounds_toArray, List.set_cons_zero, List.set_cons_succ]
    refine wpAnyH_take (i := 3) (v := ?v3_3) rfl (by kernel_rfl) (by kernel_rfl) (by kernel_rfl) (fun _ _ _ h => h) (Or.inl ⟨by rfl, ?hy3_3⟩) (by assumption) ?_
    case hy3_3 => (intro w hSw; (try dsimp only at hSw); go_simp; (try with_reducible rfl))
    try simp only [Act.put, List.getElem_toArray, List.getElem_cons_zero, List.getElem_cons_succ, List.setIfInBounds_toArray, List.set_cons_zero, List.set_cons_succ]
    refine wpAnyH_take (i := 4) (v := ?v4_3) rfl (by kernel_rfl) (by kernel_rfl) (by kernel_rfl) (fun _ _ _ h => h) (Or.inl ⟨by rfl, ?hy4_3⟩) (by assumption) ?_
    case hy4_3 => (intro w hSw; (try dsimp only at hSw); go_simp; (try with_reducible rfl))
    try simp only [Act.put, List.getElem_toArray, List.getElem_cons_zero, List.getElem_cons_succ, List.setIfInBounds_toArray, List.set_cons_zero, List.set_cons_succ]
    refine wpAnyH_take (i := 5) (v := ?v5_3) rfl (by kernel_rfl) (by kernel_rfl) (by kernel_rfl) (fun _ _ _ h => h) (Or.inl ⟨by rfl, ?hy5_3⟩) (by assumption) ?_
    case hy5_3 => (intro w hSw; (try dsimp only at hSw); go_simp; (try with_reducible rfl))
    try simp only [Act.put, List.getElem_toArray, List.getElem_cons_zero, List.getElem_cons_succ, List.setIfInBounds_toArray, List.set_cons_zero, List.set_cons_succ]
    refine wpAnyH_take (i := 6) (v := ?v6_3) rfl (by kernel_rfl) (by kernel_rfl) (by kernel_rfl) (fun _ _ _ h => h) (Or.inl ⟨by rfl, ?hy6_3⟩) (by assumption) ?_
    case hy6_3 => (intro w hSw; (try dsimp only at hSw); go_simp; (try with_reducible rfl))
    try simp only [Act.put, List.getElem_toArray, List.getElem_cons_zero, List.getElem_cons_succ, List.setIfInBounds_toArray, List.set_cons_zero, List.set_cons_succ]
    refine wpAnyH_take (i := 7) (v := ?v7_3) rfl (by kernel_rfl) (by kernel_rfl) (by kernel_rfl) (fun _ _ _ h => h) (Or.inl ⟨by rfl, ?hy7_3⟩) (by assumption) ?_
    case hy7_3 => (intro w hSw; (try dsimp only at hSw); go_simp; (try with_reducible rfl))
    try simp only [Act.put, List.getElem_toArray, List.getElem_cons_zero, List.getElem_cons_succ, List.setIfInBounds_toArray, List.set_cons_zero, List.set_cons_succ]
    refine wpAnyH_take (i := 8) (v := ?v8_3) rfl (by kernel_rfl) (by kernel_rfl) (by kernel_rfl) (fun _ _ _ h => h) (Or.inl ⟨by rfl, ?hy8_3⟩) (by assumption) ?_
    case hy8_3 => (intro w hSw; (try dsimp only at hSw); go_simp; (try with_reducible rfl))
    try simp only [Act.put, List.getElem_toArray, List.getElem_cons_zero, List.getElem_cons_succ, List.setIfInBounds_toArray, List.set_cons_zero, List.set_cons_succ]
    refine wpAnyH_take (i := 10) (v := ?v10_3) rfl (by kernel_rfl) (by kernel_rfl) (by kernel_rfl) (fun _ _ _ h => h) (Or.inl ⟨by rfl, ?hy10_3⟩) (by assumption) ?_
    case hy10_3 => (intro w hSw; (try dsimp only at hSw); go_simp; (try with_reducible rfl))
    try simp only [Act.put, List.getElem_toArray, List.getElem_cons_zero, List.getElem_cons_succ, List.setIfInBounds_toArray, List.set_cons_zero, List.set_cons_succ]
    refine wpAnyH_take (i := 11) (v := ?v11_3) rfl (by kernel_rfl) (by kernel_rfl) (by kernel_rfl) (fun _ _ _ h => h) (Or.inl ⟨by rfl, ?hy11_3⟩) (by assumption) ?_
    case hy11_3 => (intro w hSw; (try dsimp only at hSw); go_simp; (try with_reducible rfl))
    try simp only [Act.put, List.getElem_toArray, List.getElem_cons_zero, List.getElem_cons_succ, List.setIfInBounds_toArray, List.set_cons_zero, List.set_cons_succ]
    refine wpAnyH_take (i := 12) (v := ?v12_3) rfl (by kernel_rfl) (by kernel_rfl) (by kernel_rfl) (fun _ _ _ h => h) (Or.inl ⟨by rfl, ?hy12_3⟩) (by assumption) ?_
    case hy12_3 => (intro w hSw; have q0 := (Below.cell hSw hab).trans ha0; (try dsimp only at hSw); go_simp; (try with_reducible rfl))
    try simp only [Act.put, List.getElem_toArray, List.getElem_cons_zero, List.getElem_cons_succ, List.setIfInBounds_toArray, List.set_cons_zero, List.set_cons_succ]
    refine wpAnyH_ready (rs := [9]) (by kernel_rfl) (by simp) ?_
    refine AllReadyH.cons rfl (fun K hK => ?_) AllReadyH.nil
    go_simp
    (refine (places_any _).mono ?_; rintro e wq ⟨PA, pc, rfl, hpr, hbq⟩)
    refine hK.out _ _ ?_ (fun hHeld2 => ?_)
    · exact more hHeld hbq
    clear hK K hHeld hbq
    have hHeld := hHeld2
    clear hHeld2
    try simp only [Act.put, List.getElem_toArray, List.getElem_cons_zero, List.getElem_cons_succ, List.setIfInBounds_toArray, List.set_cons_zero, List.set_cons_succ]
    refine wpAnyH_ready (rs := [13]) (by kernel_rfl) (by simp) ?_
    refine AllReadyH.cons rfl (fun K hK => ?_) AllReadyH.nil
    go_simp
    (refine (HH.out _ _ _ (by exact hpr)).mono ?_; rintro e wq2 ⟨rfl, rfl⟩)
    refine hK.out _ _ ?_ (fun hHeld2 => ?_)
    · exact hHeld
    clear hK K hHeld 
    have hHeld := hHeld2
    clear hHeld2
    try simp only [Act.put, List.getElem_toArray, List.getElem_cons_zero, List.getElem_cons_succ, List.setIfInBounds_toArray, List.set_cons_zero, List.set_cons_succ]
    refine wpAnyH_take (i := 14) (v := ?v14_3) rfl (by kernel_rfl) (by kernel_rfl) (by kernel_rfl) (fun _ _ _ h => h) (Or.inl ⟨by rfl, ?hy14_3⟩) (by assumption) ?_
    case hy14_3 => (intro w hSw; (try dsimp only at hSw); go_simp; (try with_reducible rfl))
    try simp only [Act.put, List.getElem_toArray, List.getElem_cons_zero, List.getElem_cons_succ, List.setIfInBounds_toArray, List.set_cons_zero, List.set_cons_succ]
    refine wpAnyH_take (i := 15) (v := ?v15_3) rfl (by kernel_rfl) (by kernel_rfl) (by kernel_rfl) (fun _ _ _ h => h) (Or.inl ⟨by rfl, ?hy15_3⟩) (by assumption) ?_
    case hy15_3 => (intro w hSw; (try dsimp only at hSw); go_simp; (try with_reducible rfl))
    try simp only [Act.put, List.getElem_toArray, List.getElem_cons_zero, List.getElem_cons_succ, List.setIfInBounds_toArray, List.set_cons_zero, List.set_cons_succ]
    refine wpAnyH_done (by kernel_rfl) ?_ _
    have HL2 := Lib.hid (HL.out.below hHeld)
    have HR2 := Lib.hid (HR1.out.below hHeld hRl)
    have HB2 := Lib.hid (more3 HB1.out HB1.out.size hHeld)
    have hRl2 := HR2.out.lt
    have hab2 : ad.block < wq.heap.size := Nat.lt_of_lt_of_le hab hHeld.size
    rcases hsh with ⟨x, b, rfl⟩ | ⟨x, b, c2, rfl⟩
    · obtain rfl : x = a := by simpa using HA0.out
      have q0 : wq.cell? ad = some (.string (str x)) := row_one HL2.out (j := 0) rfl
      have q1 : wq.cell? ⟨ad.block, ad.off + 1, none⟩ = some (.string (str b)) := row_one HL2.out (j := 1) rfl
      have HW0 : Hid (Blk (wq.alloc (.cells #[.int .i64 0, .string (str x), .string ⟨#[]⟩, .string ⟨#[]⟩] 68)) wq.heap.size 68 (wyA ⟨0, x, [], []⟩)) := Blk.new wq _ _
      have HR3 : Hid (Blk (wq.alloc (.cells #[.int .i64 0, .string (str x), .string ⟨#[]⟩, .string ⟨#[]⟩] 68)) w.heap.size 68 (wyA noWy)) := HR2.out.alloc _
      have HB3 : Hid (Below w.heap.size w (wq.alloc (.cells #[.int .i64 0, .string (str x), .string ⟨#[]⟩, .string ⟨#[]⟩] 68))) := HB2.out.alloc HB2.out.size _
      have HM := Lib.hid (fun w => Nm.rMay_any (str b) (by rw [str_size]; unfold maxLen; have := hlen b (by simp); omega) w)
      have HVV := Lib.hid (HP2.out x b rfl)
      clear HP2 HP3 HA0
      go_wp2_with fail
      generalize hz : wq.alloc (.cells #[.int .i64 0, .string (str x), .string ⟨#[]⟩, .string ⟨#[]⟩] 68) = wz at *
      have q1z : wz.cell? ⟨ad.block, ad.off + 1, none⟩ = some (.string (str b)) := by
        rw [← hz]
        exact (((Below.refl _ wq).alloc (Nat.le_refl _) _).cell (p := ⟨ad.block, ad.off + 1, none⟩) hab2).trans q1
      have hzs : wz.heap.size = wq.heap.size + 1 := by rw [← hz]; simp
      clear hz
      rcases hg : Nm.goodP (str b) with _ | _
      · have HV : Hid (pathW nmsP sl = noWy) := by show _ = _; rw [HVV.out, if_neg (fun h => by have h2 : Nm.goodP (str b) = true := h.2; rw [hg] at h2; cases h2)]
        rw [hg] at HM
        clear hg HVV
        refine (HM.out _).mono ?_
        rintro e4 w4 ⟨rfl, hb4⟩
        have HR4 := Lib.hid (HR3.out.below hb4 HR3.out.lt)
        have HB4 := Lib.hid (more3 HB3.out HB3.out.size hb4)
        go_wp2_with (refine wpList_store_row rfl 68 (.tmp 2) (.tmp 42) (by rfl) w.heap.size (wyA noWy) (by rfl) (by rfl) 68 (wyA noWy) HR4.out (by kernel_rfl) rfl (wyA_all _) ?_)
        exact bodyPost_ret (results_cell_one (p := 2) rfl _ _ w.heap.size 68 (wyA noWy) _ rfl (Blk.row HR4.out _) Tryz.underlying68 rfl (by kernel_rfl)) rfl ⟨by rw [HV.out], below_setRow HB4.out (Nat.le_refl _) _⟩
      · have HV : Hid (pathW nmsP sl = ⟨1, x, b, []⟩) := by show _ = _; rw [HVV.out, if_pos ⟨hap, hg⟩]
        rw [hg] at HM
        clear hg HVV
        refine (HM.out _).mono ?_
        rintro e4 w4 ⟨rfl, hb4⟩
        have HR4 := Lib.hid (HR3.out.below hb4 HR3.out.lt)
        have HB4 := Lib.hid (more3 HB3.out HB3.out.size hb4)
        have HW4 := Lib.hid (HW0.out.below hb4 HW0.out.lt)
        have q1w : w4.cell? ⟨ad.block, ad.off + 1, none⟩ = some (.string (str b)) := (hb4.cell (p := ⟨ad.block, ad.off + 1, none⟩) (by show ad.block < _; omega)).trans q1z
        have k0 : w4.cell? ⟨wq.heap.size, 0, none⟩ = some (.int .i64 0) := HW4.out.cell 0
        have k2 : w4.cell? ⟨wq.heap.size, 2, none⟩ = some (.string ⟨#[]⟩) := HW4.out.cell 2
        have g0 : w4.frozen? ⟨wq.heap.size, 0, none⟩ = false := HW4.out.frozen 0
        have g2 : w4.frozen? ⟨wq.heap.size, 2, none⟩ = false := HW4.out.frozen 2
        go_wp2_with fail
        go_region_with fail
        all_goals
          go_wp2_with (first | (refine wpList_load_row rfl 68 (.tmp 4) (by rfl) wq.heap.size (by rfl) 68 (wyA ⟨1, x, b, []⟩) (0, 0) _ (by first | exact Blk.drew (Blk.setCell (Blk.setCell HW4.out 0 _) 2 _) | exact Blk.drew (Blk.setCell (Blk.setCell HW4.out 2 _) 0 _)) Tryz.underlying68 rfl (by kernel_rfl) ?_) | (refine wpList_store_row rfl 68 (.tmp 2) (.tmp 48) (by rfl) w.heap.size (wyA ⟨1, x, b, []⟩) (by rfl) (by rfl) 68 (wyA noWy) (by first | exact Blk.drew (Blk.setOther (Blk.setOther HR4.out (by show w.heap.size ≠ wq.heap.size; omega) _) (by show w.heap.size ≠ wq.heap.size; omega) _)) (by kernel_rfl) rfl (wyA_all _) ?_))
          exact bodyPost_ret (results_cell_one (p := 2) rfl _ _ w.heap.size 68 (wyA ⟨1, x, b, []⟩) _ rfl (Blk.row (by first | exact Blk.drew (Blk.setOther (Blk.setOther HR4.out (by show w.heap.size ≠ wq.heap.size; omega) _) (by show w.heap.size ≠ wq.heap.size; omega) _)) _) Tryz.underlying68 rfl (by kernel_rfl)) rfl ⟨by rw [HV.out], below_setRow (Below.drew (Below.setCell (Below.setCell HB4.out (by show w.heap.size ≤ wq.heap.size; omega) _) (by show w.heap.size ≤ wq.heap.size; omega) _)) (Nat.le_refl _) _⟩
    · obtain rfl : x = a := by simpa using HA0.out
      rw [show (([x, b, c2].length : Nat) : Int) = (3 : Int) from rfl, show [x, b, c2].length = 3 from rfl]
      have q0 : wq.cell? ad = some (.string (str x)) := row_one HL2.out (j := 0) rfl
      have q1 : wq.cell? ⟨ad.block, ad.off + 1, none⟩ = some (.string (str b)) := row_one HL2.out (j := 1) rfl
      have q2 : wq.cell? ⟨ad.block, ad.off + 2, none⟩ = some (.string (str c2)) := row_one HL2.out (j := 2) rfl
      have hbl : b.length ≤ 4194304 := hlen b (by simp)
      have hcl : c2.length ≤ 4194304 := hlen c2 (by simp)
      have HVV : Hid (pathW nmsP sl = if (wyN x b c2 3).k = 0 then noWy else wyN x b c2 3) := by show _ = _; rw [HP3.out x b c2 rfl, if_pos hap]
      have HW0 : Hid (Blk (wq.alloc (.cells #[.int .i64 0, .string (str x), .string ⟨#[]⟩, .string ⟨#[]⟩] 68)) wq.heap.size 68 (wyA (wyN x b c2 0))) := Blk.new wq _ _
      have HR3 : Hid (Blk (wq.alloc (.cells #[.int .i64 0, .string (str x), .string ⟨#[]⟩, .string ⟨#[]⟩] 68)) w.heap.size 68 (wyA noWy)) := HR2.out.alloc _
      have HB3 : Hid (Below w.heap.size w (wq.alloc (.cells #[.int .i64 0, .string (str x), .string ⟨#[]⟩, .string ⟨#[]⟩] 68))) := HB2.out.alloc HB2.out.size _
      have hzs : (wq.alloc (.cells #[.int .i64 0, .string (str x), .string ⟨#[]⟩, .string ⟨#[]⟩] 68)).heap.size = wq.heap.size + 1 := by simp
      have q1z := (((Below.refl _ wq).alloc (Nat.le_refl _) (.cells #[.int .i64 0, .string (str x), .string ⟨#[]⟩, .string ⟨#[]⟩] 68)).cell (p := ⟨ad.block, ad.off + 1, none⟩) hab2).trans q1
      have q2z := (((Below.refl _ wq).alloc (Nat.le_refl _) (.cells #[.int .i64 0, .string (str x), .string ⟨#[]⟩, .string ⟨#[]⟩] 68)).cell (p := ⟨ad.block, ad.off + 2, none⟩) hab2).trans q2
      have HE := fun wz => Lib.hid (rowAt_new wz 9 endsE (by decide))
      clear HP2 HP3 HA0 q1 q2
      go_wp2_with fail
      generalize wq.alloc (.cells #[.int .i64 0, .string (str x), .string ⟨#[]⟩, .string ⟨#[]⟩] 68) = wz at *
      have HE1 : Hid (RowAt (wz.alloc (.cells #[.string ⟨#[46, 100]⟩, .string ⟨#[46, 119, 97, 110, 116, 115]⟩, .string ⟨#[46, 114, 101, 113, 117, 105, 114, 101, 115]⟩] 9)) (wz.alloc (.cells #[.string ⟨#[46, 100]⟩, .string ⟨#[46, 119, 97, 110, 116, 115]⟩, .string ⟨#[46, 114, 101, 113, 117, 105, 114, 101, 115]⟩] 9)).heap.size (some ⟨wz.heap.size, 0, none⟩) 3 endsE) := (HE wz).out
      have HW1 : Hid (Blk (wz.alloc (.cells #[.string ⟨#[46, 100]⟩, .string ⟨#[46, 119, 97, 110, 116, 115]⟩, .string ⟨#[46, 114, 101, 113, 117, 105, 114, 101, 115]⟩] 9)) wq.heap.size 68 (wyA (wyN x b c2 0))) := HW0.out.alloc _
      have HR4 : Hid (Blk (wz.alloc (.cells #[.string ⟨#[46, 100]⟩, .string ⟨#[46, 119, 97, 110, 116, 115]⟩, .string ⟨#[46, 114, 101, 113, 117, 105, 114, 101, 115]⟩] 9)) w.heap.size 68 (wyA noWy)) := HR3.out.alloc _
      have HB4 : Hid (Below w.heap.size w (wz.alloc (.cells #[.string ⟨#[46, 100]⟩, .string ⟨#[46, 119, 97, 110, 116, 115]⟩, .string ⟨#[46, 114, 101, 113, 117, 105, 114, 101, 115]⟩] 9))) := HB3.out.alloc HB3.out.size _
      have hes : (wz.alloc (.cells #[.string ⟨#[46, 100]⟩, .string ⟨#[46, 119, 97, 110, 116, 115]⟩, .string ⟨#[46, 114, 101, 113, 117, 105, 114, 101, 115]⟩] 9)).heap.size = wz.heap.size + 1 := by simp
      have q1e := (((Below.refl _ wz).alloc (Nat.le_refl _) (.cells #[.string ⟨#[46, 100]⟩, .string ⟨#[46, 119, 97, 110, 116, 115]⟩, .string ⟨#[46, 114, 101, 113, 117, 105, 114, 101, 115]⟩] 9)).cell (p := ⟨ad.block, ad.off + 1, none⟩) (by show ad.block < _; omega)).trans q1z
      have q2e := (((Below.refl _ wz).alloc (Nat.le_refl _) (.cells #[.string ⟨#[46, 100]⟩, .string ⟨#[46, 119, 97, 110, 116, 115]⟩, .string ⟨#[46, 114, 101, 113, 117, 105, 114, 101, 115]⟩] 9)).cell (p := ⟨ad.block, ad.off + 2, none⟩) (by show ad.block < _; omega)).trans q2z
      clear HE HW0 HR3 HB3 q1z q2z
      generalize wz.alloc (.cells #[.string ⟨#[46, 100]⟩, .string ⟨#[46, 119, 97, 110, 116, 115]⟩, .string ⟨#[46, 114, 101, 113, 117, 105, 114, 101, 115]⟩] 9) = we at *
      clear hHeld hap n1 n2 n3 hn2 hn3 hl hlen hcnt HH ha0 HL HL2 q0 hpr HR1 HB1 HR2 HB2 hal
      go_loopw [51] (fun i wr => ∃ k : Nat, k ≤ 3 ∧ i = .int .i64 k ∧ Hid (we.grownBy wr (some wq.heap.size)) ∧ Hid (Blk wr wq.heap.size 68 (wyA (wyN x b c2 k)))) (fun i wr => 3 - (intOf i).toNat)
      case atStart => exact ⟨0, by omega, rfl, only_of_below (Below.refl _ _) _, HW1⟩
      case round =>
        obtain ⟨k, hk, rfl, hG, hW⟩ := hrel
        have hsz := hG.out.size
        have HBr := Lib.hid (below_only HB4.out hG.out (by omega) HB4.out.size)
        have HRr := Lib.hid (HR4.out.grown hG.out (by intro e; injection e with e; omega))
        have hWl := hW.out.lt
        have q1 : wr.cell? ⟨ad.block, ad.off + 1, none⟩ = some (.string (str b)) := (cell_only hG.out _ _ (by omega) (by omega)).trans q1e
        have q2 : wr.cell? ⟨ad.block, ad.off + 2, none⟩ = some (.string (str c2)) := (cell_only hG.out _ _ (by omega) (by omega)).trans q2e
        obtain ⟨y, hy⟩ : ∃ y, wyN x b c2 k = y := ⟨_, rfl⟩
        have HY := Lib.hid hy
        rw [hy] at hW
        clear hy
        by_cases hlt : k < 3
        · have b0 : (0 : Int) ≤ (k : Int) := by omega
          have b1 : (k : Int) < 3 := by omega
          obtain ⟨e, he⟩ : ∃ e, endsE[k]? = some e := ⟨_, List.getElem?_eq_getElem (by simpa [endsE] using hlt)⟩
          have qe : wr.cell? ⟨wz.heap.size, k, none⟩ = some (.string (str e)) := by
            have := row_one HE1.out he
            rw [add_cellO] at this
            exact (cell_only hG.out _ _ (by omega) (by omega)).trans this
          rw [hzs] at qe
          have HEe := Lib.hid he
          have hel : e.length ≤ 4194304 := by rcases endsE_cases he with ⟨_, rfl⟩ | ⟨_, rfl⟩ | ⟨_, rfl⟩ <;> decide
          clear he
          by_cases hu : ∃ u, endsL e b = some u ∧ nmsP.good u = true
          · obtain ⟨u, hue, hug⟩ := hu
            have hul := ends_len hue
            have HEnd := Lib.hid (fun W => ends_some hue hbl hel W)
            have HM : Hid (∀ W, Calls Tryz.prog 18 #[.string (str u)] W fun e w' => e = .returned (.bool true) ∧ Below W.heap.size W w') := fun W => by
              have := Nm.rMay_any (str u) (by rw [str_size]; unfold maxLen; omega) W
              rw [show Nm.goodP (str u) = true from hug] at this
              exact this
            have HUE := Lib.hid hue
            have HUG := Lib.hid hug
            clear hue hug
            go_wp2_with fail
            refine (HEnd.out _).mono ?_
            rintro e2 w2 ⟨rfl, rfl⟩
            go_wp2_with fail
            refine (HM.out _).mono ?_
            rintro e3 w3 ⟨rfl, hb3⟩
            have hG3 := Lib.hid (only_below hG.out hb3 (by omega))
            have HB3 := Lib.hid (more3 HBr.out HBr.out.size hb3)
            have HR3 := Lib.hid (HRr.out.below hb3 HRr.out.lt)
            have HW3 := Lib.hid (hW.out.below hb3 hWl)
            have hs3 := hb3.size
            have q13 := (hb3.cell (p := ⟨ad.block, ad.off + 1, none⟩) (by show ad.block < _; omega)).trans q1
            have q23 := (hb3.cell (p := ⟨ad.block, ad.off + 2, none⟩) (by show ad.block < _; omega)).trans q2
            clear hb3 q1 q2 hG HBr HRr hW HEnd HM
            have k2 : w3.cell? ⟨wq.heap.size, 2, none⟩ = some (.string (str y.u)) := HW3.out.cell 2
            have g2 : w3.frozen? ⟨wq.heap.size, 2, none⟩ = false := HW3.out.frozen 2
            have HW4 : Hid (Blk (w3.setCell ⟨wq.heap.size, 2, none⟩ (.string (str u))) wq.heap.size 68 (wyA ⟨y.k, y.pl, u, y.o⟩)) := HW3.out.setCell 2 _
            have hG4 : Hid (we.grownBy (w3.setCell ⟨wq.heap.size, 2, none⟩ (.string (str u))) (some wq.heap.size)) := only_setCell hG3.out (.inl rfl) _
            have hws : (w3.setCell ⟨wq.heap.size, 2, none⟩ (.string (str u))).heap.size = w3.heap.size := by simp [World.setCell]
            have q24 : (w3.setCell ⟨wq.heap.size, 2, none⟩ (.string (str u))).cell? ⟨ad.block, ad.off + 2, none⟩ = some (.string (str c2)) := (cell_only hG4.out _ _ (by omega) (by omega)).trans q2e
            obtain ⟨xx, okb, HC⟩ : ∃ (xx : List UInt8) (okb : Bool), Hid ((∀ W : World, Calls Tryz.prog 66 #[.string (str c2), .string ⟨#[46, 99, 111, 110, 102]⟩] W fun e w' => e = .returned (.tuple #[.string (str xx), .bool okb]) ∧ W = w') ∧ xx.length ≤ 4194304 ∧ ((okb = true ∧ endsL dotC c2 = some xx) ∨ (okb = false ∧ endsL dotC c2 = none))) := by
              rcases hc : endsL dotC c2 with _ | xx
              · exact ⟨[], false, fun W => ends_none hc hcl (by decide) W, by simp, .inr ⟨rfl, rfl⟩⟩
              · exact ⟨xx, true, fun W => ends_some hc hcl (by decide) W, by have := ends_len hc; omega, .inl ⟨rfl, rfl⟩⟩
            go_wp2_with fail
            generalize w3.setCell ⟨wq.heap.size, 2, none⟩ (.string (str u)) = w4 at *
            refine (HC.out.1 _).mono ?_
            rintro e4 w5 ⟨rfl, rfl⟩
            clear q13 q23 HW3 hG3 HB3 HR3 k2 g2
            have k0 : w4.cell? ⟨wq.heap.size, 0, none⟩ = some (.int .i64 y.k) := HW4.out.cell 0
            have k3 : w4.cell? ⟨wq.heap.size, 3, none⟩ = some (.string (str y.o)) := HW4.out.cell 3
            have g0 : w4.frozen? ⟨wq.heap.size, 0, none⟩ = false := HW4.out.frozen 0
            have g3 : w4.frozen? ⟨wq.heap.size, 3, none⟩ = false := HW4.out.frozen 3
            by_cases hk0 : k = 0
            · have hy0 : y = ⟨0, x, [], []⟩ := by rw [← HY.out, hk0]; rfl
              have HNx : Hid (wyN x b c2 (k + 1) = conf x u c2) := by
                show _ = _
                have he0 : e = dotD := by
                  rcases endsE_cases HEe.out with ⟨_, h⟩ | ⟨h, _⟩ | ⟨h, _⟩
                  · exact h
                  · omega
                  · omega
                rw [hk0]
                exact wyN_conf (by rw [← he0]; exact HUE.out) HUG.out
              have t0 : ((k : Int) == 0) = true := by simp [hk0]
              have t1 : decide (0 < k) = false := by simp [hk0]
              rcases HC.out.2.2 with ⟨rfl, hc⟩ | ⟨rfl, hc⟩
              · have HD := Lib.hid (fun W => dropName_any (str xx) (by rw [str_size]; unfold maxLen; have := HC.out.2.1; omega) W)
                rcases hd : dropN xx with _ | _
                · have HN : Hid (wyN x b c2 (k + 1) = ⟨y.k, y.pl, u, y.o⟩) := by
                    show _ = _
                    rw [HNx.out, hy0]
                    unfold conf
                    rw [hc]
                    simp only
                    rw [if_neg (by rw [hd]; simp)]
                  rw [show dropS (str xx) = false from hd] at HD
                  clear hk0 hy0 hc hd HNx
                  go_wp2_with fail
                  refine (HD.out _).mono ?_
                  rintro e6 w6 ⟨rfl, rfl⟩
                  go_wp2_with fail
                  go_roundw
                  case rel => exact ⟨k + 1, by omega, by go_num, hG4, by rw [HN.out]; exact HW4⟩
                  case measure => simp [intOf]; omega
                · have HN : Hid (wyN x b c2 (k + 1) = ⟨2, x, u, xx⟩) := by
                    show _ = _
                    rw [HNx.out]
                    unfold conf
                    rw [hc]
                    simp only
                    rw [if_pos hd]
                  have HW6 : Hid (Blk ((w4.setCell ⟨wq.heap.size, 0, none⟩ (.int .i64 2)).setCell ⟨wq.heap.size, 3, none⟩ (.string (str xx))) wq.heap.size 68 (wyA ⟨2, x, u, xx⟩)) := by
                    have h1 := (HW4.out.setCell 0 (.int .i64 2)).setCell 3 (.string (str xx))
                    rw [hy0] at h1
                    exact h1
                  have hG6 : Hid (we.grownBy ((w4.setCell ⟨wq.heap.size, 0, none⟩ (.int .i64 2)).setCell ⟨wq.heap.size, 3, none⟩ (.string (str xx))) (some wq.heap.size)) := only_setCell (only_setCell hG4.out (.inl rfl) _) (.inl rfl) _
                  rw [show dropS (str xx) = true from hd] at HD
                  clear hk0 hy0 hc hd HNx
                  go_wp2_with fail
                  refine (HD.out _).mono ?_
                  rintro e6 w6 ⟨rfl, rfl⟩
                  go_wp2_with fail
                  go_roundw
                  case rel => exact ⟨k + 1, by omega, by go_num, hG6, by rw [HN.out]; exact HW6⟩
                  case measure => simp [intOf]; omega
              · have HN : Hid (wyN x b c2 (k + 1) = ⟨y.k, y.pl, u, y.o⟩) := by
                  show _ = _
                  rw [HNx.out, hy0]
                  unfold conf
                  rw [hc]
                clear hk0 hy0 hc HNx
                go_wp2_with fail
                go_roundw
                case rel => exact ⟨k + 1, by omega, by go_num, hG4, by rw [HN.out]; exact HW4⟩
                case measure => simp [intOf]; omega
            · have HNx : Hid (wyN x b c2 (k + 1) = wishW nmsP ((k : Int) + 2) y u c2) := by
                show _ = _
                rw [← HY.out]
                exact wyN_wish HEe.out (by omega) HUE.out HUG.out
              have t0 : ((k : Int) == 0) = false := by simp; omega
              have t1 : decide (0 < k) = true := by simp; omega
              have t2 : 0 < k := by omega
              have HMc := Lib.hid (fun W => Nm.rMay_any (str c2) (by rw [str_size]; unfold maxLen; omega) W)
              have HTc := Lib.hid (fun W => Nm.rIsTemplate_any (str c2) (by rw [str_size]; unfold maxLen; omega) W)
              clear HC hk0
              rcases hgc : Nm.goodP (str c2) with _ | _
              · have HN : Hid (wyN x b c2 (k + 1) = ⟨y.k, y.pl, u, y.o⟩) := by
                  show _ = _
                  rw [HNx.out]
                  unfold wishW
                  rw [if_neg (fun h => by have h2 : Nm.goodP (str c2) = true := h.1; rw [hgc] at h2; cases h2)]
                rw [hgc] at HMc
                clear hgc HNx HTc
                go_wp2_with fail
                refine (HMc.out _).mono ?_
                rintro e6 w6 ⟨rfl, hb6⟩
                have hG6 := Lib.hid (only_below hG4.out hb6 (by have := hG4.out.size; omega))
                have HW6 := Lib.hid (HW4.out.below hb6 HW4.out.lt)
                go_wp2_with fail
                go_roundw
                case rel => exact ⟨k + 1, by omega, by go_num, hG6, by rw [HN.out]; exact HW6⟩
                case measure => simp [intOf]; omega
              · rw [hgc] at HMc
                rcases htc : (Nm.atP (str c2) && (Nm.instP (str c2)).toList.isEmpty) with _ | _
                · have HN : Hid (wyN x b c2 (k + 1) = ⟨(k : Int) + 2, y.pl, u, c2⟩) := by
                    show _ = _
                    rw [HNx.out]
                    unfold wishW
                    rw [if_pos ⟨hgc, htc⟩]
                  rw [htc] at HTc
                  clear hgc HNx htc
                  go_wp2_with fail
                  refine (HMc.out _).mono ?_
                  rintro e6 w6 ⟨rfl, hb6⟩
                  have hG6 := Lib.hid (only_below hG4.out hb6 (by have := hG4.out.size; omega))
                  have HW6 := Lib.hid (HW4.out.below hb6 HW4.out.lt)
                  have q26 : w6.cell? ⟨ad.block, ad.off + 2, none⟩ = some (.string (str c2)) := (cell_only hG6.out _ _ (by omega) (by omega)).trans q2e
                  go_wp2_with fail
                  refine (HTc.out _).mono ?_
                  rintro e7 w7 ⟨rfl, hb7⟩
                  have hG7 := Lib.hid (only_below hG6.out hb7 (by have := hG6.out.size; omega))
                  have HW7 := Lib.hid (HW6.out.below hb7 HW6.out.lt)
                  have q27 : w7.cell? ⟨ad.block, ad.off + 2, none⟩ = some (.string (str c2)) := (cell_only hG7.out _ _ (by omega) (by omega)).trans q2e
                  have k07 : w7.cell? ⟨wq.heap.size, 0, none⟩ = some (.int .i64 y.k) := HW7.out.cell 0
                  have k37 : w7.cell? ⟨wq.heap.size, 3, none⟩ = some (.string (str y.o)) := HW7.out.cell 3
                  have g07 : w7.frozen? ⟨wq.heap.size, 0, none⟩ = false := HW7.out.frozen 0
                  have g37 : w7.frozen? ⟨wq.heap.size, 3, none⟩ = false := HW7.out.frozen 3
                  have hadd : IntKind.i64.wrap ((k : Int) + 2) = (k : Int) + 2 := IntWalk.i64_in _ (by omega)
                  clear hb6 hb7 hG6 HW6 q26 k0 k3 g0 g3 q24 HW4
                  go_wp2_with fail
                  go_region_with fail
                  all_goals
                    go_wp2_with fail
                    go_roundw
                    case rel => exact ⟨k + 1, by omega, by go_num, only_drewN (only_setCell (only_setCell hG7.out (.inl rfl) _) (.inl rfl) _) 1, by rw [HN.out]; first | exact Blk.drew (Blk.setCell (Blk.setCell HW7.out 0 _) 3 _) | exact Blk.drew (Blk.setCell (Blk.setCell HW7.out 3 _) 0 _)⟩
                    case measure => simp [intOf]; omega
                · have HN : Hid (wyN x b c2 (k + 1) = ⟨y.k, y.pl, u, y.o⟩) := by
                    show _ = _
                    rw [HNx.out]
                    unfold wishW
                    rw [if_neg (fun h => by have h2 : (Nm.atP (str c2) && (Nm.instP (str c2)).toList.isEmpty) = false := h.2; rw [htc] at h2; cases h2)]
                  rw [htc] at HTc
                  clear hgc HNx htc
                  go_wp2_with fail
                  refine (HMc.out _).mono ?_
                  rintro e6 w6 ⟨rfl, hb6⟩
                  have hG6 := Lib.hid (only_below hG4.out hb6 (by have := hG4.out.size; omega))
                  have HW6 := Lib.hid (HW4.out.below hb6 HW4.out.lt)
                  have q26 : w6.cell? ⟨ad.block, ad.off + 2, none⟩ = some (.string (str c2)) := (cell_only hG6.out _ _ (by omega) (by omega)).trans q2e
                  go_wp2_with fail
                  refine (HTc.out _).mono ?_
                  rintro e7 w7 ⟨rfl, hb7⟩
                  have hG7 := Lib.hid (only_below hG6.out hb7 (by have := hG6.out.size; omega))
                  have HW7 := Lib.hid (HW6.out.below hb7 HW6.out.lt)
                  go_wp2_with fail
                  go_roundw
                  case rel => exact ⟨k + 1, by omega, by go_num, hG7, by rw [HN.out]; exact HW7⟩
                  case measure => simp [intOf]; omega
          · have HN : Hid (wyN x b c2 (k + 1) = y) := by
              show _ = _
              rw [← HY.out]
              exact wyN_none HEe.out (fun u hue => by
                rcases hg : nmsP.good u with _ | _
                · rfl
                · exact absurd ⟨u, hue, hg⟩ hu)
            rcases hue : endsL e b with _ | u
            · have HEnd := Lib.hid (fun W => ends_none hue hbl hel W)
              clear hue hu
              go_wp2_with fail
              refine (HEnd.out _).mono ?_
              rintro e2 w2 ⟨rfl, rfl⟩
              go_wp2_with fail
              go_roundw
              case rel => exact ⟨k + 1, by omega, by go_num, hG, by rw [HN.out]; exact hW⟩
              case measure => simp [intOf]; omega
            · have hul := ends_len hue
              have hug : nmsP.good u = false := by
                rcases hg : nmsP.good u with _ | _
                · rfl
                · exact absurd ⟨u, hue, hg⟩ hu
              have HEnd := Lib.hid (fun W => ends_some hue hbl hel W)
              have HM : Hid (∀ W, Calls Tryz.prog 18 #[.string (str u)] W fun e w' => e = .returned (.bool false) ∧ Below W.heap.size W w') := fun W => by
                have := Nm.rMay_any (str u) (by rw [str_size]; unfold maxLen; omega) W
                rw [show Nm.goodP (str u) = false from hug] at this
                exact this
              clear hue hug hu
              go_wp2_with fail
              refine (HEnd.out _).mono ?_
              rintro e2 w2 ⟨rfl, rfl⟩
              go_wp2_with fail
              refine (HM.out _).mono ?_
              rintro e3 w3 ⟨rfl, hb3⟩
              have hG3 := Lib.hid (only_below hG.out hb3 (by omega))
              have HW3 := Lib.hid (hW.out.below hb3 hWl)
              go_wp2_with fail
              go_roundw
              case rel => exact ⟨k + 1, by omega, by go_num, hG3, by rw [HN.out]; exact HW3⟩
              case measure => simp [intOf]; omega
        · obtain rfl : k = 3 := by omega
          clear hlt
          have k0 : wr.cell? ⟨wq.heap.size, 0, none⟩ = some (.int .i64 y.k) := hW.out.cell 0
          by_cases hk0 : y.k = 0
          · have HV : Hid (pathW nmsP sl = noWy) := by show _ = _; rw [HVV.out, HY.out, if_pos hk0]
            have t0 : (y.k == 0) = true := by simp [hk0]
            clear hk0
            go_wp2_with (refine wpList_store_row rfl 68 (.tmp 2) (.tmp 118) (by rfl) w.heap.size (wyA noWy) (by rfl) (by rfl) 68 (wyA noWy) HRr.out (by kernel_rfl) rfl (wyA_all _) ?_)
            exact bodyPost_ret (results_cell_one (p := 2) rfl _ _ w.heap.size 68 (wyA noWy) _ rfl (Blk.row HRr.out _) Tryz.underlying68 rfl (by kernel_rfl)) rfl ⟨by rw [HV.out], below_setRow HBr.out (Nat.le_refl _) _⟩
          · have HV : Hid (pathW nmsP sl = y) := by show _ = _; rw [HVV.out, HY.out, if_neg hk0]
            have t0 : (y.k == 0) = false := by simp [hk0]
            clear hk0
            go_wp2_with (first | (refine wpList_load_row rfl 68 (.tmp 4) (by rfl) wq.heap.size (by rfl) 68 (wyA y) (0, 0) _ hW.out Tryz.underlying68 rfl (by kernel_rfl) ?_) | (refine wpList_store_row rfl 68 (.tmp 2) (.tmp 119) (by rfl) w.heap.size (wyA y) (by rfl) (by rfl) 68 (wyA noWy) HRr.out (by kernel_rfl) rfl (wyA_all _) ?_))
            exact bodyPost_ret (results_cell_one (p := 2) rfl _ _ w.heap.size 68 (wyA y) _ rfl (Blk.row HRr.out _) Tryz.underlying68 rfl (by kernel_rfl)) rfl ⟨by rw [HV.out], below_setRow HBr.out (Nat.le_refl _) _⟩
  · have HV : Hid (pathW nmsP sl = noWy) := by
      show _ = _
      rcases hsh with ⟨x, y, rfl⟩ | ⟨x, y, z, rfl⟩
      · obtain rfl : x = a := by simpa using ha
        rw [HP2.out x y rfl, if_neg (fun h => hap h.1)]
      · obtain rfl : x = a := by simpa using ha
        rw [HP3.out x y z rfl, if_neg hap]
    rw [decide_eq_false hap] at HH
    clear HP2 HP3 hn2 hn3 hap ha hsh
    go_wp2_with fail
    refine wp_region_held_drew (S := fun W => Below w1.heap.size w1 W) (by kernel_rfl) ?_ (fun hHeld => ?_)
    · exact (Below.refl _ w1).drew
    refine wpAnyH_take (i := 0) (v := ?v0_4) rfl (by kernel_rfl) (by kernel_rfl) (by kernel_rfl) (fun _ _ _ h => h) (Or.inl ⟨by rfl, ?hy0_4⟩) (by assumption) ?_
    case hy0_4 => (intro w hSw; (try dsimp only at hSw); go_simp; (try with_reducible rfl))
    try simp only [Act.put, List.getElem_toArray, List.getElem_cons_zero, List.setIfInBounds_toArray, List.set_cons_zero, List.set_cons_succ]
    refine wpAnyH_take (i := 1) (v := ?v1_4) rfl (by kernel_rfl) (by kernel_rfl) (by kernel_rfl) (fun _ _ _ h => h) (Or.inl ⟨by rfl, ?hy1_4⟩) (by assumption) ?_
    case hy1_4 => (intro w hSw; (try dsimp only at hSw); go_simp; (try with_reducible rfl))
    try simp only [Act.put, List.getElem_toArray, List.getElem_cons_zero, List.getElem_cons_succ, List.setIfInBounds_toArray, List.set_cons_zero, List.set_cons_succ]
    refine wpAnyH_take (i := 2) (v := ?v2_4) rfl (by kernel_rfl) (by kernel_rfl) (by kernel_rfl) (fun _ _ _ h => h) (Or.inl ⟨by rfl, ?hy2_4⟩) (by assumption) ?_
    case hy2_4 => (intro w hSw; (try dsimp only at hSw); go_simp; (try with_reducible rfl))
    try simp only [Act.put, List.getElem_toArray, List.getElem_cons_zero, List.getElem_cons_succ, List.setIfInBounds_toArray, List.set_cons_zero, List.set_cons_succ]
    refine wpAnyH_take (i := 3) (v := ?v3_4) rfl (by kernel_rfl) (by kernel_rfl) (by kernel_rfl) (fun _ _ _ h => h) (Or.inl ⟨by rfl, ?hy3_4⟩) (by assumption) ?_
    case hy3_4 => (intro w hSw; (try dsimp only at hSw); go_simp; (try with_reducible rfl))
    try simp only [Act.put, List.getElem_toArray, List.getElem_cons_zero, List.getElem_cons_succ, List.setIfInBounds_toArray, List.set_cons_zero, List.set_cons_succ]
    refine wpAnyH_take (i := 4) (v := ?v4_4) rfl (by kernel_rfl) (by kernel_rfl) (by kernel_rfl) (fun _ _ _ h => h) (Or.inl ⟨by rfl, ?hy4_4⟩) (by assumption) ?_
    case hy4_4 => (intro w hSw; (try dsimp only at hSw); go_simp; (try with_reducible rfl))
    try simp only [Act.put, List.getElem_toArray, List.getElem_cons_zero, List.getElem_cons_succ, List.setIfInBounds_toArray, List.set_cons_zero, List.set_cons_succ]
    refine wpAnyH_take (i := 5) (v := ?v5_4) rfl (by kernel_rfl) (by kernel_rfl) (by kernel_rfl) (fun _ _ _ h => h) (Or.inl ⟨by rfl, ?hy5_4⟩) (by assumption) ?_
    case hy5_4 => (intro w hSw; (try dsimp only at hSw); go_simp; (try with_reducible rfl))
    try simp only [Act.put, List.getElem_toArray, List.getElem_cons_zero, List.getElem_cons_succ, List.setIfInBounds_toArray, List.set_cons_zero, List.set_cons_succ]
    refine wpAnyH_take (i := 6) (v := ?v6_4) rfl (by kernel_rfl) (by kernel_rfl) (by kernel_rfl) (fun _ _ _ h => h) (Or.inl ⟨by rfl, ?hy6_4⟩) (by assumption) ?_
    case hy6_4 => (intro w hSw; (try dsimp only at hSw); go_simp; (try with_reducible rfl))
    try simp only [Act.put, List.getElem_toArray, List.getElem_cons_zero, List.getElem_cons_succ, List.setIfInBounds_toArray, List.set_cons_zero, List.set_cons_succ]
    refine wpAnyH_take (i := 7) (v := ?v7_4) rfl (by kernel_rfl) (by kernel_rfl) (by kernel_rfl) (fun _ _ _ h => h) (Or.inl ⟨by rfl, ?hy7_4⟩) (by assumption) ?_
    case hy7_4 => (intro w hSw; (try dsimp only at hSw); go_simp; (try with_reducible rfl))
    try simp only [Act.put, List.getElem_toArray, List.getElem_cons_zero, List.getElem_cons_succ, List.setIfInBounds_toArray, List.set_cons_zero, List.set_cons_succ]
    refine wpAnyH_take (i := 8) (v := ?v8_4) rfl (by kernel_rfl) (by kernel_rfl) (by kernel_rfl) (fun _ _ _ h => h) (Or.inl ⟨by rfl, ?hy8_4⟩) (by assumption) ?_
    case hy8_4 => (intro w hSw; (try dsimp only at hSw); go_simp; (try with_reducible rfl))
    try simp only [Act.put, List.getElem_toArray, List.getElem_cons_zero, List.getElem_cons_succ, List.setIfInBounds_toArray, List.set_cons_zero, List.set_cons_succ]
    refine wpAnyH_take (i := 10) (v := ?v10_4) rfl (by kernel_rfl) (by kernel_rfl) (by kernel_rfl) (fun _ _ _ h => h) (Or.inl ⟨by rfl, ?hy10_4⟩) (by assumption) ?_
    case hy10_4 => (intro w hSw; (try dsimp only at hSw); go_simp; (try with_reducible rfl))
    try simp only [Act.put, List.getElem_toArray, List.getElem_cons_zero, List.getElem_cons_succ, List.setIfInBounds_toArray, List.set_cons_zero, List.set_cons_succ]
    refine wpAnyH_take (i := 11) (v := ?v11_4) rfl (by kernel_rfl) (by kernel_rfl) (by kernel_rfl) (fun _ _ _ h => h) (Or.inl ⟨by rfl, ?hy11_4⟩) (by assumption) ?_
    case hy11_4 => (intro w hSw; (try dsimp only at hSw); go_simp; (try with_reducible rfl))
    try simp only [Act.put, List.getElem_toArray, List.getElem_cons_zero, List.getElem_cons_succ, List.setIfInBounds_toArray, List.set_cons_zero, List.set_cons_succ]
    refine wpAnyH_take (i := 12) (v := ?v12_4) rfl (by kernel_rfl) (by kernel_rfl) (by kernel_rfl) (fun _ _ _ h => h) (Or.inl ⟨by rfl, ?hy12_4⟩) (by assumption) ?_
    case hy12_4 => (intro w hSw; have q0 := (Below.cell hSw hab).trans ha0; (try dsimp only at hSw); go_simp; (try with_reducible rfl))
    try simp only [Act.put, List.getElem_toArray, List.getElem_cons_zero, List.getElem_cons_succ, List.setIfInBounds_toArray, List.set_cons_zero, List.set_cons_succ]
    refine wpAnyH_ready (rs := [9]) (by kernel_rfl) (by simp) ?_
    refine AllReadyH.cons rfl (fun K hK => ?_) AllReadyH.nil
    go_simp
    (refine (places_any _).mono ?_; rintro e wq ⟨PA, pc, rfl, hpr, hbq⟩)
    refine hK.out _ _ ?_ (fun hHeld2 => ?_)
    · exact more hHeld hbq
    clear hK K hHeld hbq
    have hHeld := hHeld2
    clear hHeld2
    try simp only [Act.put, List.getElem_toArray, List.getElem_cons_zero, List.getElem_cons_succ, List.setIfInBounds_toArray, List.set_cons_zero, List.set_cons_succ]
    refine wpAnyH_ready (rs := [13]) (by kernel_rfl) (by simp) ?_
    refine AllReadyH.cons rfl (fun K hK => ?_) AllReadyH.nil
    go_simp
    (refine (HH.out _ _ _ (by exact hpr)).mono ?_; rintro e wq2 ⟨rfl, rfl⟩)
    refine hK.out _ _ ?_ (fun hHeld2 => ?_)
    · exact hHeld
    clear hK K hHeld 
    have hHeld := hHeld2
    clear hHeld2
    try simp only [Act.put, List.getElem_toArray, List.getElem_cons_zero, List.getElem_cons_succ, List.setIfInBounds_toArray, List.set_cons_zero, List.set_cons_succ]
    refine wpAnyH_take (i := 14) (v := ?v14_4) rfl (by kernel_rfl) (by kernel_rfl) (by kernel_rfl) (fun _ _ _ h => h) (Or.inl ⟨by rfl, ?hy14_4⟩) (by assumption) ?_
    case hy14_4 => (intro w hSw; (try dsimp only at hSw); go_simp; (try with_reducible rfl))
    try simp only [Act.put, List.getElem_toArray, List.getElem_cons_zero, List.getElem_cons_succ, List.setIfInBounds_toArray, List.set_cons_zero, List.set_cons_succ]
    refine wpAnyH_take (i := 15) (v := ?v15_4) rfl (by kernel_rfl) (by kernel_rfl) (by kernel_rfl) (fun _ _ _ h => h) (Or.inl ⟨by rfl, ?hy15_4⟩) (by assumption) ?_
    case hy15_4 => (intro w hSw; (try dsimp only at hSw); go_simp; (try with_reducible rfl))
    try simp only [Act.put, List.getElem_toArray, List.getElem_cons_zero, List.getElem_cons_succ, List.setIfInBounds_toArray, List.set_cons_zero, List.set_cons_succ]
    refine wpAnyH_done (by kernel_rfl) ?_ _
    have HR2 := Lib.hid (HR1.out.below hHeld hRl)
    have HB2 := Lib.hid (more3 HB1.out HB1.out.size hHeld)
    go_wp2_with (refine wpList_store_row rfl 68 (.tmp 2) (.tmp 29) (by rfl) w.heap.size (wyA noWy) (by rfl) (by rfl) 68 (wyA noWy) HR2.out (by kernel_rfl) rfl (wyA_all _) ?_)
    exact bodyPost_ret (results_cell_one (p := 2) rfl _ _ w.heap.size 68 (wyA noWy) _ rfl (Blk.row HR2.out _) Tryz.underlying68 rfl (by kernel_rfl)) rfl ⟨by rw [HV.out], below_setRow HB2.out (Nat.le_refl _) _⟩
end Go.Proofs.YthodbeeglkedcaaGreat
