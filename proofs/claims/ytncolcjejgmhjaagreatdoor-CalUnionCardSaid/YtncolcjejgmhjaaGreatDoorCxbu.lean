/- The walk of the law CalUnion. -/
import Derived.Test.YtncolcjejgmhjaaGreatDoorCxbo
import Derived.Test.YtncolcjejgmhjaaGreatDoorCxbt
import Derived.Deep.RegionHeld3
import Derived.Deep.Cut
import Derived.Deep.DeepCutAuto
namespace Go.Proofs.YtncolcjejgmhjaaGreatDoor
open Go.RowKit
theorem partInfoU : (Tryz.prog.info? 58).map (fun i => (i.zero, i.size, i.bytes)) = some (some (.agg #[.int .i64 0, .int .i64 0, .int .i64 0]), 3, 24) := by kernel_rfl
theorem pts_one_cell (l : List Pt) : ∀ u ∈ pts l, u.oneCell' = true := by
  intro u hu
  unfold pts at hu
  rw [List.mem_flatMap] at hu
  obtain ⟨p, _, h⟩ := hu
  simp only [ptCells, List.mem_cons, List.not_mem_nil, or_false] at h
  rcases h with rfl | rfl | rfl <;> rfl
theorem pts_size (l : List Pt) : (pts l).length = l.length * 3 := by
  induction l with
  | nil => rfl
  | cons p l ih => unfold pts at *; rw [List.flatMap_cons, List.length_append, ih, List.length_cons]; show 3 + _ = _; omega
theorem pts_append (a b : List Pt) : pts (a ++ b) = pts a ++ pts b := List.flatMap_append ..
theorem wpList_append_parts {ops : Array Oper} {rest : List Oper} {o : Oper} {a : Act} {w : World} {Q : Exit → Act → World → Prop} (hgd : o.guard = none) (s x : Operand)
    (ho : o.op = .call { callee := .builtin .append, args := #[s, x], argTypes := #[23, 23] })
    (base : Nat) (v : Value) (ps qs : List Pt) (hs : a.eval s = v) (hown : w.ownsRow base 58 3 v ps.length (pts ps)) (A : Option Addr) (m c : Nat) (hx : a.eval x = .slice A m c) (hq : PtsAt w w.heap.size A m qs) (h1 : 1 ≤ m)
    (hl : ps.length + m ≤ 1000) (hbase : base ≤ w.heap.size)
    (h : ∀ v' w', w'.ownsRow base 58 3 v' (ps ++ qs).length (pts (ps ++ qs)) → w.grownBy w' v.ownBlock → wpList Tryz.prog ops Q rest (a.put o.dst v') w') : wpList Tryz.prog ops Q (o :: rest) a w := by
  obtain ⟨hm, hmx, _, hr⟩ := hq
  subst hm
  obtain ⟨ad, rfl, hlt, hin⟩ := hr (by omega)
  obtain ⟨i0, hi, hz0, hz1, hz2⟩ := info_parts partInfoU
  refine wpList_append_own w hgd s x 23 ho base 58 i0 _ 3 24 Tryz.underlying23 hi hz0 hz1 hz2 rfl (by decide) v ps.length (pts ps) hs hown ad qs.length c (pts qs) hx (pts_size qs) hin (pts_one_cell qs) (by unfold maxLen; omega) (by omega) hbase ?_
  intro v' w' ho hg _
  exact h v' w' (by rw [pts_append, List.length_append]; exact ho) hg
theorem CalAt.put {w : World} {B : Nat} {c : Ch} {l : Cl} (h : CalAt w B c l) {s : Sl} {ps : List Pt} (hp : PtsAt w B s.A s.n ps) (f : Nat) : CalAt w B (c.put f s) (l.put f ps) := by
  match f with
  | 0 => exact ⟨h.1, fun g => match g with | 0 => hp | 1 => h.2 1 | 2 => h.2 2 | 3 => h.2 3 | 4 => h.2 4 | (g + 5) => h.2 (g + 5)⟩
  | 1 => exact ⟨h.1, fun g => match g with | 0 => h.2 0 | 1 => hp | 2 => h.2 2 | 3 => h.2 3 | 4 => h.2 4 | (g + 5) => h.2 (g + 5)⟩
  | 2 => exact ⟨h.1, fun g => match g with | 0 => h.2 0 | 1 => h.2 1 | 2 => hp | 3 => h.2 3 | 4 => h.2 4 | (g + 5) => h.2 (g + 5)⟩
  | 3 => exact ⟨h.1, fun g => match g with | 0 => h.2 0 | 1 => h.2 1 | 2 => h.2 2 | 3 => hp | 4 => h.2 4 | (g + 5) => h.2 (g + 5)⟩
  | 4 => exact ⟨h.1, fun g => match g with | 0 => h.2 0 | 1 => h.2 1 | 2 => h.2 2 | 3 => h.2 3 | 4 => hp | (g + 5) => h.2 (g + 5)⟩
  | (f + 5) => exact ⟨h.1, fun g => match g with | 0 => h.2 0 | 1 => h.2 1 | 2 => h.2 2 | 3 => h.2 3 | 4 => h.2 4 | (g + 5) => hp⟩
theorem viau0 {F G : World → Prop} {C : Prop} (h : (∀  w, F  w → G  w) → C) (h2 : ∀  w, F  w → G  w) : C := h h2
theorem viau1 {F G : Nat → World → Prop} {C : Prop} (h : (∀ b0 w, F b0 w → G b0 w) → C) (h2 : ∀ b0 w, F b0 w → G b0 w) : C := h h2
theorem viau2 {F G : Nat → Nat → World → Prop} {C : Prop} (h : (∀ b0 b1 w, F b0 b1 w → G b0 b1 w) → C) (h2 : ∀ b0 b1 w, F b0 b1 w → G b0 b1 w) : C := h h2
theorem viau3 {F G : Nat → Nat → Nat → World → Prop} {C : Prop} (h : (∀ b0 b1 b2 w, F b0 b1 b2 w → G b0 b1 b2 w) → C) (h2 : ∀ b0 b1 b2 w, F b0 b1 b2 w → G b0 b1 b2 w) : C := h h2
set_option maxRecDepth 100000 in
set_option maxHeartbeats 8000000 in
theorem CalUnion_any (c : Ch) (l : Cl) (pA : Option Addr) (pn pc : Nat) (qA : Option Addr) (qn qc : Nat) (ps qs : List Pt) (field after : Int) (w : World) (htab : TabM w) (hc : CalAt w w.heap.size c l) (hp : PtsAt w w.heap.size pA pn ps) (hq : PtsAt w w.heap.size qA qn qs) (m1 : pn ≤ 140737488355327) (m2 : qn ≤ 140737488355327) :
    Calls Tryz.prog 4 #[.agg c.cells, .slice pA pn pc, .slice qA qn qc, .int .i64 field, .int .i64 after] w fun e w' => e = .returned (.bool true) ∧ Below w.heap.size w w' := by
  have HT := Lib.hid htab
  have HC := Lib.hid hc
  have HP := Lib.hid hp
  have HQ := Lib.hid hq
  clear htab hc hp hq
  have HBX : Hid (Blk (w.alloc (.cells c.cells 25)) w.heap.size 25 c.cells) := Blk.new w _ _
  have HB0 : Hid (Below w.heap.size w (w.alloc (.cells c.cells 25))) := (Below.refl _ _).alloc (Nat.le_refl _) _
  have HW0 : Hid (TabM (w.alloc (.cells c.cells 25))) := HT.out.below HB0.out
  by_cases k1 : pn < 1
  · have j1 : decide ((pn : Int) < 1) = true := by simp; omega
    go_enter Tryz.func4, Tryz.ntmps4
    go_wp2_with fail
    refine (shown4_any _ HW0.out).mono ?_
    rintro e u0 ⟨rfl, hb⟩
    have HB1 := Lib.hid (more3 HB0.out HB0.out.size hb)
    clear hb
    go_wp2_with fail
    go_ret
    exact ⟨rfl, HB1.out⟩
  by_cases k2 : qn < 1
  · have j1 : decide ((pn : Int) < 1) = false := by simp; omega
    have j2 : decide ((qn : Int) < 1) = true := by simp; omega
    go_enter Tryz.func4, Tryz.ntmps4
    go_wp2_with fail
    refine (shown4_any _ HW0.out).mono ?_
    rintro e u0 ⟨rfl, hb⟩
    have HB1 := Lib.hid (more3 HB0.out HB0.out.size hb)
    clear hb
    go_wp2_with fail
    go_ret
    exact ⟨rfl, HB1.out⟩
  by_cases k3 : 4 < pn + qn
  · have j1 : decide ((pn : Int) < 1) = false := by simp; omega
    have j2 : decide ((qn : Int) < 1) = false := by simp; omega
    have j3 : decide ((4 : Int) < (pn : Int) + (qn : Int)) = true := by simp; omega
    have j4 : (4 : Int) < (pn : Int) + (qn : Int) := by omega
    go_enter Tryz.func4, Tryz.ntmps4
    go_wp2_with fail
    refine (shown4_any _ HW0.out).mono ?_
    rintro e u0 ⟨rfl, hb⟩
    have HB1 := Lib.hid (more3 HB0.out HB0.out.size hb)
    clear hb
    go_wp2_with fail
    go_ret
    exact ⟨rfl, HB1.out⟩
  have j1 : decide ((pn : Int) < 1) = false := by simp; omega
  have j2 : decide ((qn : Int) < 1) = false := by simp; omega
  have j3 : decide ((4 : Int) < (pn : Int) + (qn : Int)) = false := by simp; omega
  have l1 : 1 ≤ pn := by omega
  have l2 : 1 ≤ qn := by omega
  have l3 : pn + qn ≤ 4 := by omega
  have HL : Hid (1 ≤ pn ∧ 1 ≤ qn ∧ pn + qn ≤ 4) := ⟨l1, l2, l3⟩
  clear k1 k2 k3 m1 m2
  go_enter Tryz.func4, Tryz.ntmps4
  go_wp2_with fail
  refine (shown4_any _ HW0.out).mono ?_
  rintro e u0 ⟨rfl, hb⟩
  have HB1 := Lib.hid (more3 HB0.out HB0.out.size hb)
  have HX1 := Lib.hid (HBX.out.below hb HBX.out.lt)
  clear hb
  have HP1 := Lib.hid ((HP.out.below HB1.out).wide HB1.out.size)
  have HQ1 := Lib.hid ((HQ.out.below HB1.out).wide HB1.out.size)
  go_upto_region 6 with (at_builtin; first
    | (refine wpList_append_parts rfl _ _ rfl u0.heap.size _ [] ps rfl (World.ownsRow_nil _ _ _ _) pA pn pc rfl HP1.out HL.out.1 (by have := HL.out.2.2; simp; omega) (Nat.le_refl _) ?_; intro v1 u1 hO1 hg1; have HO1 := Lib.hid hO1; have HG1 := Lib.hid ((Below.refl u0.heap.size u0).grown hg1 (Nat.le_refl _) (fun k hk => by cases hk)); clear hO1 hg1; have HQ2 := Lib.hid ((HQ1.out.below HG1.out).wide HG1.out.size))
    | (refine wpList_append_parts rfl _ _ rfl u0.heap.size _ ([] ++ ps) qs rfl HO1.out qA qn qc rfl HQ2.out HL.out.2.1 (by have := HL.out.2.2; have := HP1.out.1; simp; omega) HG1.out.size ?_; intro v2 u2 hO2 hg2; have HO2 := Lib.hid hO2; have HG2 := Lib.hid (HG1.out.grown hg2 HG1.out.size (fun k hk => (HO1.out.lt k hk).1)); clear hO2 hg2))
  obtain ⟨A2, c2, rfl, hU⟩ := PtsAt.of_own HO2.out rfl (by unfold maxLen; simp; have := HP1.out.1; have := HQ1.out.1; have := HL.out.2.2; omega)
  have HU := Lib.hid hU
  have HXX := Lib.hid (HX1.out.below HG2.out HX1.out.lt)
  have hwl : w.heap.size < u0.heap.size := HX1.out.lt
  have hwl2 : w.heap.size < u2.heap.size := HXX.out.lt
  have HBu := Lib.hid (more3 HB1.out HB1.out.size HG2.out)
  obtain ⟨nu, hnu⟩ : ∃ n, ([] ++ ps ++ qs).length = n := ⟨_, rfl⟩
  rw [hnu] at HU ⊢
  obtain ⟨ca, hca⟩ : ∃ x, c.put (fldW field) ⟨pA, pn, pc⟩ = x := ⟨_, rfl⟩
  obtain ⟨cb, hcb⟩ : ∃ x, c.put (fldW field) ⟨qA, qn, qc⟩ = x := ⟨_, rfl⟩
  obtain ⟨cu, hcu⟩ : ∃ x, c.put (fldW field) ⟨A2, nu, c2⟩ = x := ⟨_, rfl⟩
  have HWa := Lib.hid (fun W => with_any c field ⟨pA, pn, pc⟩ W)
  have HWb := Lib.hid (fun W => with_any c field ⟨qA, qn, qc⟩ W)
  have HWu := Lib.hid (fun W => with_any c field ⟨A2, nu, c2⟩ W)
  rw [hca] at HWa
  rw [hcb] at HWb
  rw [hcu] at HWu
  have Hca := Lib.hid hca
  have Hcb := Lib.hid hcb
  have Hcu := Lib.hid hcu
  clear hU HO2 HO1 HG1 hnu hca hcb hcu HB0 HW0 HBX HP1 HQ1 HQ2
  go_cut [12, 13, 14] (fun x y z wx => ∃ (b12 b13 b14 : Nat), x = .pointer (some ⟨b12, 0, none⟩) ∧ y = .pointer (some ⟨b13, 0, none⟩) ∧ z = .pointer (some ⟨b14, 0, none⟩) ∧ Hid (Blk wx b12 25 ca.cells) ∧ Hid (Blk wx b13 25 cb.cells) ∧ Hid (Blk wx b14 25 cu.cells) ∧ Hid (Blk wx w.heap.size 25 c.cells) ∧ Hid (Below u2.heap.size u2 wx))
  case first =>
    have HSS : Hid (Blk u2.drew w.heap.size 25 c.cells ∧ Below u2.heap.size u2 u2.drew) := ⟨blk_drew HXX.out, (Below.refl _ _).drew⟩
    clear HT HC HP HQ HB1 HX1 HG2 HU HXX HL l1 l2 l3 j1 j2 j3 HBu Hca Hcb Hcu
    generalize hub : u2 = ub at *
    refine wp_region_held_drew (S := (fun W : World => Blk W w.heap.size 25 c.cells ∧ Below ub.heap.size ub W)) (by kernel_rfl) HSS.out (fun hHeld => ?_)
    generalize ub.drew = u at *
    refine wpAnyH_take (i := 0) (v := .agg c.cells) rfl (by kernel_rfl) (by kernel_rfl) (by kernel_rfl) (fun _ _ _ h => h) (Or.inl ⟨by rfl, ?hy0n1⟩) (by assumption) ?_
    case hy0n1 => (intro W hSw; exact load_yields _ _ (.tmp 5) (by rfl) (by rfl) hSw.1 rfl)
    try simp only [Act.put, List.getElem_toArray, List.getElem_cons_zero, List.setIfInBounds_toArray, List.set_cons_zero, List.set_cons_succ]
    refine wpAnyH_take (i := 1) (v := ?v1n2) rfl (by kernel_rfl) (by kernel_rfl) (by kernel_rfl) (fun _ _ _ h => h) (Or.inl ⟨by rfl, ?hy1n2⟩) (by assumption) ?_
    case hy1n2 => (intro w hSw; (try dsimp only at hSw); go_simp; (try with_reducible rfl))
    try simp only [Act.put, List.getElem_toArray, List.getElem_cons_zero, List.getElem_cons_succ, List.setIfInBounds_toArray, List.set_cons_zero, List.set_cons_succ]
    refine wpAnyH_take (i := 2) (v := ?v2n3) rfl (by kernel_rfl) (by kernel_rfl) (by kernel_rfl) (fun _ _ _ h => h) (Or.inl ⟨by rfl, ?hy2n3⟩) (by assumption) ?_
    case hy2n3 => (intro w hSw; (try dsimp only at hSw); go_simp; (try with_reducible rfl))
    try simp only [Act.put, List.getElem_toArray, List.getElem_cons_zero, List.getElem_cons_succ, List.setIfInBounds_toArray, List.set_cons_zero, List.set_cons_succ]
    refine wpAnyH_take (i := 4) (v := .agg c.cells) rfl (by kernel_rfl) (by kernel_rfl) (by kernel_rfl) (fun _ _ _ h => h) (Or.inl ⟨by rfl, ?hy4n4⟩) (by assumption) ?_
    case hy4n4 => (intro W hSw; exact load_yields _ _ (.tmp 5) (by rfl) (by rfl) hSw.1 rfl)
    try simp only [Act.put, List.getElem_toArray, List.getElem_cons_zero, List.getElem_cons_succ, List.setIfInBounds_toArray, List.set_cons_zero, List.set_cons_succ]
    refine wpAnyH_take (i := 5) (v := ?v5n5) rfl (by kernel_rfl) (by kernel_rfl) (by kernel_rfl) (fun _ _ _ h => h) (Or.inl ⟨by rfl, ?hy5n5⟩) (by assumption) ?_
    case hy5n5 => (intro w hSw; (try dsimp only at hSw); go_simp; (try with_reducible rfl))
    try simp only [Act.put, List.getElem_toArray, List.getElem_cons_zero, List.getElem_cons_succ, List.setIfInBounds_toArray, List.set_cons_zero, List.set_cons_succ]
    refine wpAnyH_take (i := 6) (v := ?v6n6) rfl (by kernel_rfl) (by kernel_rfl) (by kernel_rfl) (fun _ _ _ h => h) (Or.inl ⟨by rfl, ?hy6n6⟩) (by assumption) ?_
    case hy6n6 => (intro w hSw; (try dsimp only at hSw); go_simp; (try with_reducible rfl))
    try simp only [Act.put, List.getElem_toArray, List.getElem_cons_zero, List.getElem_cons_succ, List.setIfInBounds_toArray, List.set_cons_zero, List.set_cons_succ]
    refine wpAnyH_take (i := 8) (v := .agg c.cells) rfl (by kernel_rfl) (by kernel_rfl) (by kernel_rfl) (fun _ _ _ h => h) (Or.inl ⟨by rfl, ?hy8n7⟩) (by assumption) ?_
    case hy8n7 => (intro W hSw; exact load_yields _ _ (.tmp 5) (by rfl) (by rfl) hSw.1 rfl)
    try simp only [Act.put, List.getElem_toArray, List.getElem_cons_zero, List.getElem_cons_succ, List.setIfInBounds_toArray, List.set_cons_zero, List.set_cons_succ]
    refine wpAnyH_take (i := 9) (v := ?v9n8) rfl (by kernel_rfl) (by kernel_rfl) (by kernel_rfl) (fun _ _ _ h => h) (Or.inl ⟨by rfl, ?hy9n8⟩) (by assumption) ?_
    case hy9n8 => (intro w hSw; (try dsimp only at hSw); go_simp; (try with_reducible rfl))
    try simp only [Act.put, List.getElem_toArray, List.getElem_cons_zero, List.getElem_cons_succ, List.setIfInBounds_toArray, List.set_cons_zero, List.set_cons_succ]
    refine wpAnyH_take (i := 10) (v := ?v10n9) rfl (by kernel_rfl) (by kernel_rfl) (by kernel_rfl) (fun _ _ _ h => h) (Or.inl ⟨by rfl, ?hy10n9⟩) (by assumption) ?_
    case hy10n9 => (intro w hSw; (try dsimp only at hSw); go_simp; (try with_reducible rfl))
    try simp only [Act.put, List.getElem_toArray, List.getElem_cons_zero, List.getElem_cons_succ, List.setIfInBounds_toArray, List.set_cons_zero, List.set_cons_succ]
    exact viau3 (F := fun b12 b13 b14 u => (Blk u w.heap.size 25 c.cells ∧ Below ub.heap.size ub u) ∧ Hid (Blk u b12 25 #[.slice none 0 0, .slice none 0 0, .slice none 0 0, .slice none 0 0, .slice none 0 0, .slice none 0 0, .slice none 0 0] ∧ ub.heap.size ≤ b12) ∧ Hid (Blk u b13 25 #[.slice none 0 0, .slice none 0 0, .slice none 0 0, .slice none 0 0, .slice none 0 0, .slice none 0 0, .slice none 0 0] ∧ ub.heap.size ≤ b13) ∧ Hid (Blk u b14 25 #[.slice none 0 0, .slice none 0 0, .slice none 0 0, .slice none 0 0, .slice none 0 0, .slice none 0 0, .slice none 0 0] ∧ ub.heap.size ≤ b14) ∧ Hid (b12 ≠ b13) ∧ Hid (b12 ≠ b14) ∧ Hid (b13 ≠ b14)) (fun k3_7_11_12_13_14 => by
      exact viau2 (F := fun b13 b14 u => (Blk u w.heap.size 25 c.cells ∧ Below ub.heap.size ub u) ∧ Hid (Blk u b13 25 #[.slice none 0 0, .slice none 0 0, .slice none 0 0, .slice none 0 0, .slice none 0 0, .slice none 0 0, .slice none 0 0] ∧ ub.heap.size ≤ b13) ∧ Hid (Blk u b14 25 #[.slice none 0 0, .slice none 0 0, .slice none 0 0, .slice none 0 0, .slice none 0 0, .slice none 0 0, .slice none 0 0] ∧ ub.heap.size ≤ b14) ∧ Hid (b13 ≠ b14)) (fun k3_7_11_13_14 => by
        exact viau2 (F := fun b12 b14 u => (Blk u w.heap.size 25 c.cells ∧ Below ub.heap.size ub u) ∧ Hid (Blk u b12 25 #[.slice none 0 0, .slice none 0 0, .slice none 0 0, .slice none 0 0, .slice none 0 0, .slice none 0 0, .slice none 0 0] ∧ ub.heap.size ≤ b12) ∧ Hid (Blk u b14 25 #[.slice none 0 0, .slice none 0 0, .slice none 0 0, .slice none 0 0, .slice none 0 0, .slice none 0 0, .slice none 0 0] ∧ ub.heap.size ≤ b14) ∧ Hid (b12 ≠ b14)) (fun k3_7_11_12_14 => by
          exact viau2 (F := fun b12 b13 u => (Blk u w.heap.size 25 c.cells ∧ Below ub.heap.size ub u) ∧ Hid (Blk u b12 25 #[.slice none 0 0, .slice none 0 0, .slice none 0 0, .slice none 0 0, .slice none 0 0, .slice none 0 0, .slice none 0 0] ∧ ub.heap.size ≤ b12) ∧ Hid (Blk u b13 25 #[.slice none 0 0, .slice none 0 0, .slice none 0 0, .slice none 0 0, .slice none 0 0, .slice none 0 0, .slice none 0 0] ∧ ub.heap.size ≤ b13) ∧ Hid (b12 ≠ b13)) (fun k3_7_11_12_13 => by
            exact viau3 (F := fun b12 b13 b14 u => (Blk u w.heap.size 25 c.cells ∧ Below ub.heap.size ub u) ∧ Hid (Blk u b12 25 #[.slice none 0 0, .slice none 0 0, .slice none 0 0, .slice none 0 0, .slice none 0 0, .slice none 0 0, .slice none 0 0] ∧ ub.heap.size ≤ b12) ∧ Hid (Blk u b13 25 #[.slice none 0 0, .slice none 0 0, .slice none 0 0, .slice none 0 0, .slice none 0 0, .slice none 0 0, .slice none 0 0] ∧ ub.heap.size ≤ b13) ∧ Hid (Blk u b14 25 #[.slice none 0 0, .slice none 0 0, .slice none 0 0, .slice none 0 0, .slice none 0 0, .slice none 0 0, .slice none 0 0] ∧ ub.heap.size ≤ b14) ∧ Hid (b12 ≠ b13) ∧ Hid (b12 ≠ b14) ∧ Hid (b13 ≠ b14)) (fun k3_7_12_13_14 => by
              exact viau1 (F := fun b14 u => (Blk u w.heap.size 25 c.cells ∧ Below ub.heap.size ub u) ∧ Hid (Blk u b14 25 #[.slice none 0 0, .slice none 0 0, .slice none 0 0, .slice none 0 0, .slice none 0 0, .slice none 0 0, .slice none 0 0] ∧ ub.heap.size ≤ b14)) (fun k3_7_11_14 => by
                exact viau1 (F := fun b13 u => (Blk u w.heap.size 25 c.cells ∧ Below ub.heap.size ub u) ∧ Hid (Blk u b13 25 #[.slice none 0 0, .slice none 0 0, .slice none 0 0, .slice none 0 0, .slice none 0 0, .slice none 0 0, .slice none 0 0] ∧ ub.heap.size ≤ b13)) (fun k3_7_11_13 => by
                  exact viau1 (F := fun b12 u => (Blk u w.heap.size 25 c.cells ∧ Below ub.heap.size ub u) ∧ Hid (Blk u b12 25 #[.slice none 0 0, .slice none 0 0, .slice none 0 0, .slice none 0 0, .slice none 0 0, .slice none 0 0, .slice none 0 0] ∧ ub.heap.size ≤ b12)) (fun k3_7_11_12 => by
                    exact viau2 (F := fun b13 b14 u => (Blk u w.heap.size 25 c.cells ∧ Below ub.heap.size ub u) ∧ Hid (Blk u b13 25 #[.slice none 0 0, .slice none 0 0, .slice none 0 0, .slice none 0 0, .slice none 0 0, .slice none 0 0, .slice none 0 0] ∧ ub.heap.size ≤ b13) ∧ Hid (Blk u b14 25 #[.slice none 0 0, .slice none 0 0, .slice none 0 0, .slice none 0 0, .slice none 0 0, .slice none 0 0, .slice none 0 0] ∧ ub.heap.size ≤ b14) ∧ Hid (b13 ≠ b14)) (fun k3_7_13_14 => by
                      exact viau2 (F := fun b12 b14 u => (Blk u w.heap.size 25 c.cells ∧ Below ub.heap.size ub u) ∧ Hid (Blk u b12 25 #[.slice none 0 0, .slice none 0 0, .slice none 0 0, .slice none 0 0, .slice none 0 0, .slice none 0 0, .slice none 0 0] ∧ ub.heap.size ≤ b12) ∧ Hid (Blk u b14 25 #[.slice none 0 0, .slice none 0 0, .slice none 0 0, .slice none 0 0, .slice none 0 0, .slice none 0 0, .slice none 0 0] ∧ ub.heap.size ≤ b14) ∧ Hid (b12 ≠ b14)) (fun k3_7_12_14 => by
                        exact viau2 (F := fun b12 b13 u => (Blk u w.heap.size 25 c.cells ∧ Below ub.heap.size ub u) ∧ Hid (Blk u b12 25 #[.slice none 0 0, .slice none 0 0, .slice none 0 0, .slice none 0 0, .slice none 0 0, .slice none 0 0, .slice none 0 0] ∧ ub.heap.size ≤ b12) ∧ Hid (Blk u b13 25 #[.slice none 0 0, .slice none 0 0, .slice none 0 0, .slice none 0 0, .slice none 0 0, .slice none 0 0, .slice none 0 0] ∧ ub.heap.size ≤ b13) ∧ Hid (b12 ≠ b13)) (fun k3_7_12_13 => by
                          exact viau3 (F := fun b12 b13 b14 u => (Blk u w.heap.size 25 c.cells ∧ Below ub.heap.size ub u) ∧ Hid (Blk u b12 25 #[.slice none 0 0, .slice none 0 0, .slice none 0 0, .slice none 0 0, .slice none 0 0, .slice none 0 0, .slice none 0 0] ∧ ub.heap.size ≤ b12) ∧ Hid (Blk u b13 25 #[.slice none 0 0, .slice none 0 0, .slice none 0 0, .slice none 0 0, .slice none 0 0, .slice none 0 0, .slice none 0 0] ∧ ub.heap.size ≤ b13) ∧ Hid (Blk u b14 25 #[.slice none 0 0, .slice none 0 0, .slice none 0 0, .slice none 0 0, .slice none 0 0, .slice none 0 0, .slice none 0 0] ∧ ub.heap.size ≤ b14) ∧ Hid (b12 ≠ b13) ∧ Hid (b12 ≠ b14) ∧ Hid (b13 ≠ b14)) (fun k3_12_13_14 => by
                            exact viau0 (F := fun u => (Blk u w.heap.size 25 c.cells ∧ Below ub.heap.size ub u)) (fun k3_7_11 => by
                              exact viau1 (F := fun b14 u => (Blk u w.heap.size 25 c.cells ∧ Below ub.heap.size ub u) ∧ Hid (Blk u b14 25 #[.slice none 0 0, .slice none 0 0, .slice none 0 0, .slice none 0 0, .slice none 0 0, .slice none 0 0, .slice none 0 0] ∧ ub.heap.size ≤ b14)) (fun k3_7_14 => by
                                exact viau1 (F := fun b13 u => (Blk u w.heap.size 25 c.cells ∧ Below ub.heap.size ub u) ∧ Hid (Blk u b13 25 #[.slice none 0 0, .slice none 0 0, .slice none 0 0, .slice none 0 0, .slice none 0 0, .slice none 0 0, .slice none 0 0] ∧ ub.heap.size ≤ b13)) (fun k3_7_13 => by
                                  exact viau1 (F := fun b12 u => (Blk u w.heap.size 25 c.cells ∧ Below ub.heap.size ub u) ∧ Hid (Blk u b12 25 #[.slice none 0 0, .slice none 0 0, .slice none 0 0, .slice none 0 0, .slice none 0 0, .slice none 0 0, .slice none 0 0] ∧ ub.heap.size ≤ b12)) (fun k3_7_12 => by
                                    exact viau2 (F := fun b13 b14 u => (Blk u w.heap.size 25 c.cells ∧ Below ub.heap.size ub u) ∧ Hid (Blk u b13 25 #[.slice none 0 0, .slice none 0 0, .slice none 0 0, .slice none 0 0, .slice none 0 0, .slice none 0 0, .slice none 0 0] ∧ ub.heap.size ≤ b13) ∧ Hid (Blk u b14 25 #[.slice none 0 0, .slice none 0 0, .slice none 0 0, .slice none 0 0, .slice none 0 0, .slice none 0 0, .slice none 0 0] ∧ ub.heap.size ≤ b14) ∧ Hid (b13 ≠ b14)) (fun k3_13_14 => by
                                      exact viau2 (F := fun b12 b14 u => (Blk u w.heap.size 25 c.cells ∧ Below ub.heap.size ub u) ∧ Hid (Blk u b12 25 #[.slice none 0 0, .slice none 0 0, .slice none 0 0, .slice none 0 0, .slice none 0 0, .slice none 0 0, .slice none 0 0] ∧ ub.heap.size ≤ b12) ∧ Hid (Blk u b14 25 #[.slice none 0 0, .slice none 0 0, .slice none 0 0, .slice none 0 0, .slice none 0 0, .slice none 0 0, .slice none 0 0] ∧ ub.heap.size ≤ b14) ∧ Hid (b12 ≠ b14)) (fun k3_12_14 => by
                                        exact viau2 (F := fun b12 b13 u => (Blk u w.heap.size 25 c.cells ∧ Below ub.heap.size ub u) ∧ Hid (Blk u b12 25 #[.slice none 0 0, .slice none 0 0, .slice none 0 0, .slice none 0 0, .slice none 0 0, .slice none 0 0, .slice none 0 0] ∧ ub.heap.size ≤ b12) ∧ Hid (Blk u b13 25 #[.slice none 0 0, .slice none 0 0, .slice none 0 0, .slice none 0 0, .slice none 0 0, .slice none 0 0, .slice none 0 0] ∧ ub.heap.size ≤ b13) ∧ Hid (b12 ≠ b13)) (fun k3_12_13 => by
                                          exact viau3 (F := fun b12 b13 b14 u => (Blk u w.heap.size 25 c.cells ∧ Below ub.heap.size ub u) ∧ Hid (Blk u b12 25 #[.slice none 0 0, .slice none 0 0, .slice none 0 0, .slice none 0 0, .slice none 0 0, .slice none 0 0, .slice none 0 0] ∧ ub.heap.size ≤ b12) ∧ Hid (Blk u b13 25 #[.slice none 0 0, .slice none 0 0, .slice none 0 0, .slice none 0 0, .slice none 0 0, .slice none 0 0, .slice none 0 0] ∧ ub.heap.size ≤ b13) ∧ Hid (Blk u b14 25 #[.slice none 0 0, .slice none 0 0, .slice none 0 0, .slice none 0 0, .slice none 0 0, .slice none 0 0, .slice none 0 0] ∧ ub.heap.size ≤ b14) ∧ Hid (b12 ≠ b13) ∧ Hid (b12 ≠ b14) ∧ Hid (b13 ≠ b14)) (fun k12_13_14 => by
                                            exact viau0 (F := fun u => (Blk u w.heap.size 25 c.cells ∧ Below ub.heap.size ub u)) (fun k3_7 => by
                                              exact viau1 (F := fun b14 u => (Blk u w.heap.size 25 c.cells ∧ Below ub.heap.size ub u) ∧ Hid (Blk u b14 25 #[.slice none 0 0, .slice none 0 0, .slice none 0 0, .slice none 0 0, .slice none 0 0, .slice none 0 0, .slice none 0 0] ∧ ub.heap.size ≤ b14)) (fun k3_14 => by
                                                exact viau1 (F := fun b13 u => (Blk u w.heap.size 25 c.cells ∧ Below ub.heap.size ub u) ∧ Hid (Blk u b13 25 #[.slice none 0 0, .slice none 0 0, .slice none 0 0, .slice none 0 0, .slice none 0 0, .slice none 0 0, .slice none 0 0] ∧ ub.heap.size ≤ b13)) (fun k3_13 => by
                                                  exact viau1 (F := fun b12 u => (Blk u w.heap.size 25 c.cells ∧ Below ub.heap.size ub u) ∧ Hid (Blk u b12 25 #[.slice none 0 0, .slice none 0 0, .slice none 0 0, .slice none 0 0, .slice none 0 0, .slice none 0 0, .slice none 0 0] ∧ ub.heap.size ≤ b12)) (fun k3_12 => by
                                                    exact viau2 (F := fun b13 b14 u => (Blk u w.heap.size 25 c.cells ∧ Below ub.heap.size ub u) ∧ Hid (Blk u b13 25 #[.slice none 0 0, .slice none 0 0, .slice none 0 0, .slice none 0 0, .slice none 0 0, .slice none 0 0, .slice none 0 0] ∧ ub.heap.size ≤ b13) ∧ Hid (Blk u b14 25 #[.slice none 0 0, .slice none 0 0, .slice none 0 0, .slice none 0 0, .slice none 0 0, .slice none 0 0, .slice none 0 0] ∧ ub.heap.size ≤ b14) ∧ Hid (b13 ≠ b14)) (fun k13_14 => by
                                                      exact viau2 (F := fun b12 b14 u => (Blk u w.heap.size 25 c.cells ∧ Below ub.heap.size ub u) ∧ Hid (Blk u b12 25 #[.slice none 0 0, .slice none 0 0, .slice none 0 0, .slice none 0 0, .slice none 0 0, .slice none 0 0, .slice none 0 0] ∧ ub.heap.size ≤ b12) ∧ Hid (Blk u b14 25 #[.slice none 0 0, .slice none 0 0, .slice none 0 0, .slice none 0 0, .slice none 0 0, .slice none 0 0, .slice none 0 0] ∧ ub.heap.size ≤ b14) ∧ Hid (b12 ≠ b14)) (fun k12_14 => by
                                                        exact viau2 (F := fun b12 b13 u => (Blk u w.heap.size 25 c.cells ∧ Below ub.heap.size ub u) ∧ Hid (Blk u b12 25 #[.slice none 0 0, .slice none 0 0, .slice none 0 0, .slice none 0 0, .slice none 0 0, .slice none 0 0, .slice none 0 0] ∧ ub.heap.size ≤ b12) ∧ Hid (Blk u b13 25 #[.slice none 0 0, .slice none 0 0, .slice none 0 0, .slice none 0 0, .slice none 0 0, .slice none 0 0, .slice none 0 0] ∧ ub.heap.size ≤ b13) ∧ Hid (b12 ≠ b13)) (fun k12_13 => by
                                                          exact viau0 (F := fun u => (Blk u w.heap.size 25 c.cells ∧ Below ub.heap.size ub u)) (fun k3 => by
                                                            exact viau1 (F := fun b14 u => (Blk u w.heap.size 25 c.cells ∧ Below ub.heap.size ub u) ∧ Hid (Blk u b14 25 #[.slice none 0 0, .slice none 0 0, .slice none 0 0, .slice none 0 0, .slice none 0 0, .slice none 0 0, .slice none 0 0] ∧ ub.heap.size ≤ b14)) (fun k14 => by
                                                              exact viau1 (F := fun b13 u => (Blk u w.heap.size 25 c.cells ∧ Below ub.heap.size ub u) ∧ Hid (Blk u b13 25 #[.slice none 0 0, .slice none 0 0, .slice none 0 0, .slice none 0 0, .slice none 0 0, .slice none 0 0, .slice none 0 0] ∧ ub.heap.size ≤ b13)) (fun k13 => by
                                                                exact viau1 (F := fun b12 u => (Blk u w.heap.size 25 c.cells ∧ Below ub.heap.size ub u) ∧ Hid (Blk u b12 25 #[.slice none 0 0, .slice none 0 0, .slice none 0 0, .slice none 0 0, .slice none 0 0, .slice none 0 0, .slice none 0 0] ∧ ub.heap.size ≤ b12)) (fun k12 => by
                                                                  refine wpAnyH_ready (rs := [3, 12, 13, 14]) (by kernel_rfl) (by simp) ?_
                                                                  refine AllReadyH.cons rfl (fun K hK => ?_) (AllReadyH.cons rfl (fun K hK => ?_) (AllReadyH.cons rfl (fun K hK => ?_) (AllReadyH.cons rfl (fun K hK => ?_) AllReadyH.nil)))
                                                                  · go_simp
                                                                    refine (HWa.out _).mono ?_
                                                                    rintro e u' ⟨rfl, hx, hL⟩
                                                                    refine hK.out _ _ ?_ (fun hHeld2 => ?_)
                                                                    · exact ⟨hx hHeld.1, more3 hHeld.2 hHeld.2.size hL⟩
                                                                    clear hK K
                                                                    try simp only [Act.put, List.getElem_toArray, List.getElem_cons_zero, List.getElem_cons_succ, List.setIfInBounds_toArray, List.set_cons_zero, List.set_cons_succ]
                                                                    exact k3  u' hHeld2
                                                                  · go_simp
                                                                    obtain ⟨b12, u', eb, ew, hF, hx, hL⟩ := grow_one u #[.slice none 0 0, .slice none 0 0, .slice none 0 0, .slice none 0 0, .slice none 0 0, .slice none 0 0, .slice none 0 0] 25
                                                                    simp only [eb, ew]
                                                                    have hge := Nat.le_of_eq eb
                                                                    clear eb ew
                                                                    refine hK.out _ _ ?_ (fun hHeld2 => ?_)
                                                                    · exact ⟨hx hHeld.1, more3 hHeld.2 hHeld.2.size hL⟩
                                                                    clear hK K
                                                                    try simp only [Act.put, List.getElem_toArray, List.getElem_cons_zero, List.getElem_cons_succ, List.setIfInBounds_toArray, List.set_cons_zero, List.set_cons_succ]
                                                                    exact k12 b12 u' ⟨hHeld2, Lib.hid ⟨hF, Nat.le_trans hHeld.2.size hge⟩⟩
                                                                  · go_simp
                                                                    obtain ⟨b13, u', eb, ew, hF, hx, hL⟩ := grow_one u #[.slice none 0 0, .slice none 0 0, .slice none 0 0, .slice none 0 0, .slice none 0 0, .slice none 0 0, .slice none 0 0] 25
                                                                    simp only [eb, ew]
                                                                    have hge := Nat.le_of_eq eb
                                                                    clear eb ew
                                                                    refine hK.out _ _ ?_ (fun hHeld2 => ?_)
                                                                    · exact ⟨hx hHeld.1, more3 hHeld.2 hHeld.2.size hL⟩
                                                                    clear hK K
                                                                    try simp only [Act.put, List.getElem_toArray, List.getElem_cons_zero, List.getElem_cons_succ, List.setIfInBounds_toArray, List.set_cons_zero, List.set_cons_succ]
                                                                    exact k13 b13 u' ⟨hHeld2, Lib.hid ⟨hF, Nat.le_trans hHeld.2.size hge⟩⟩
                                                                  · go_simp
                                                                    obtain ⟨b14, u', eb, ew, hF, hx, hL⟩ := grow_one u #[.slice none 0 0, .slice none 0 0, .slice none 0 0, .slice none 0 0, .slice none 0 0, .slice none 0 0, .slice none 0 0] 25
                                                                    simp only [eb, ew]
                                                                    have hge := Nat.le_of_eq eb
                                                                    clear eb ew
                                                                    refine hK.out _ _ ?_ (fun hHeld2 => ?_)
                                                                    · exact ⟨hx hHeld.1, more3 hHeld.2 hHeld.2.size hL⟩
                                                                    clear hK K
                                                                    try simp only [Act.put, List.getElem_toArray, List.getElem_cons_zero, List.getElem_cons_succ, List.setIfInBounds_toArray, List.set_cons_zero, List.set_cons_succ]
                                                                    exact k14 b14 u' ⟨hHeld2, Lib.hid ⟨hF, Nat.le_trans hHeld.2.size hge⟩⟩
                                                                  ) (fun b12 u hF => by
                                                                  obtain ⟨hHeld, F12⟩ := hF
                                                                  refine wpAnyH_ready (rs := [3, 13, 14]) (by kernel_rfl) (by simp) ?_
                                                                  refine AllReadyH.cons rfl (fun K hK => ?_) (AllReadyH.cons rfl (fun K hK => ?_) (AllReadyH.cons rfl (fun K hK => ?_) AllReadyH.nil))
                                                                  · go_simp
                                                                    refine (HWa.out _).mono ?_
                                                                    rintro e u' ⟨rfl, hx, hL⟩
                                                                    refine hK.out _ _ ?_ (fun hHeld2 => ?_)
                                                                    · exact ⟨hx hHeld.1, more3 hHeld.2 hHeld.2.size hL⟩
                                                                    clear hK K
                                                                    try simp only [Act.put, List.getElem_toArray, List.getElem_cons_zero, List.getElem_cons_succ, List.setIfInBounds_toArray, List.set_cons_zero, List.set_cons_succ]
                                                                    exact k3_12 b12 u' ⟨hHeld2, Lib.hid ⟨hx F12.out.1, F12.out.2⟩⟩
                                                                  · go_simp
                                                                    obtain ⟨b13, u', eb, ew, hF, hx, hL⟩ := grow_one u #[.slice none 0 0, .slice none 0 0, .slice none 0 0, .slice none 0 0, .slice none 0 0, .slice none 0 0, .slice none 0 0] 25
                                                                    simp only [eb, ew]
                                                                    have hge := Nat.le_of_eq eb
                                                                    have M12 : b12 ≠ b13 := by have := F12.out.1.lt; omega
                                                                    clear eb ew
                                                                    refine hK.out _ _ ?_ (fun hHeld2 => ?_)
                                                                    · exact ⟨hx hHeld.1, more3 hHeld.2 hHeld.2.size hL⟩
                                                                    clear hK K
                                                                    try simp only [Act.put, List.getElem_toArray, List.getElem_cons_zero, List.getElem_cons_succ, List.setIfInBounds_toArray, List.set_cons_zero, List.set_cons_succ]
                                                                    exact k12_13 b12 b13 u' ⟨hHeld2, Lib.hid ⟨hx F12.out.1, F12.out.2⟩, Lib.hid ⟨hF, Nat.le_trans hHeld.2.size hge⟩, Lib.hid M12⟩
                                                                  · go_simp
                                                                    obtain ⟨b14, u', eb, ew, hF, hx, hL⟩ := grow_one u #[.slice none 0 0, .slice none 0 0, .slice none 0 0, .slice none 0 0, .slice none 0 0, .slice none 0 0, .slice none 0 0] 25
                                                                    simp only [eb, ew]
                                                                    have hge := Nat.le_of_eq eb
                                                                    have M12 : b12 ≠ b14 := by have := F12.out.1.lt; omega
                                                                    clear eb ew
                                                                    refine hK.out _ _ ?_ (fun hHeld2 => ?_)
                                                                    · exact ⟨hx hHeld.1, more3 hHeld.2 hHeld.2.size hL⟩
                                                                    clear hK K
                                                                    try simp only [Act.put, List.getElem_toArray, List.getElem_cons_zero, List.getElem_cons_succ, List.setIfInBounds_toArray, List.set_cons_zero, List.set_cons_succ]
                                                                    exact k12_14 b12 b14 u' ⟨hHeld2, Lib.hid ⟨hx F12.out.1, F12.out.2⟩, Lib.hid ⟨hF, Nat.le_trans hHeld.2.size hge⟩, Lib.hid M12⟩
                                                                  )
                                                                ) (fun b13 u hF => by
                                                                obtain ⟨hHeld, F13⟩ := hF
                                                                refine wpAnyH_ready (rs := [3, 12, 14]) (by kernel_rfl) (by simp) ?_
                                                                refine AllReadyH.cons rfl (fun K hK => ?_) (AllReadyH.cons rfl (fun K hK => ?_) (AllReadyH.cons rfl (fun K hK => ?_) AllReadyH.nil))
                                                                · go_simp
                                                                  refine (HWa.out _).mono ?_
                                                                  rintro e u' ⟨rfl, hx, hL⟩
                                                                  refine hK.out _ _ ?_ (fun hHeld2 => ?_)
                                                                  · exact ⟨hx hHeld.1, more3 hHeld.2 hHeld.2.size hL⟩
                                                                  clear hK K
                                                                  try simp only [Act.put, List.getElem_toArray, List.getElem_cons_zero, List.getElem_cons_succ, List.setIfInBounds_toArray, List.set_cons_zero, List.set_cons_succ]
                                                                  exact k3_13 b13 u' ⟨hHeld2, Lib.hid ⟨hx F13.out.1, F13.out.2⟩⟩
                                                                · go_simp
                                                                  obtain ⟨b12, u', eb, ew, hF, hx, hL⟩ := grow_one u #[.slice none 0 0, .slice none 0 0, .slice none 0 0, .slice none 0 0, .slice none 0 0, .slice none 0 0, .slice none 0 0] 25
                                                                  simp only [eb, ew]
                                                                  have hge := Nat.le_of_eq eb
                                                                  have M13 : b13 ≠ b12 := by have := F13.out.1.lt; omega
                                                                  clear eb ew
                                                                  refine hK.out _ _ ?_ (fun hHeld2 => ?_)
                                                                  · exact ⟨hx hHeld.1, more3 hHeld.2 hHeld.2.size hL⟩
                                                                  clear hK K
                                                                  try simp only [Act.put, List.getElem_toArray, List.getElem_cons_zero, List.getElem_cons_succ, List.setIfInBounds_toArray, List.set_cons_zero, List.set_cons_succ]
                                                                  exact k12_13 b12 b13 u' ⟨hHeld2, Lib.hid ⟨hF, Nat.le_trans hHeld.2.size hge⟩, Lib.hid ⟨hx F13.out.1, F13.out.2⟩, Lib.hid (Ne.symm M13)⟩
                                                                · go_simp
                                                                  obtain ⟨b14, u', eb, ew, hF, hx, hL⟩ := grow_one u #[.slice none 0 0, .slice none 0 0, .slice none 0 0, .slice none 0 0, .slice none 0 0, .slice none 0 0, .slice none 0 0] 25
                                                                  simp only [eb, ew]
                                                                  have hge := Nat.le_of_eq eb
                                                                  have M13 : b13 ≠ b14 := by have := F13.out.1.lt; omega
                                                                  clear eb ew
                                                                  refine hK.out _ _ ?_ (fun hHeld2 => ?_)
                                                                  · exact ⟨hx hHeld.1, more3 hHeld.2 hHeld.2.size hL⟩
                                                                  clear hK K
                                                                  try simp only [Act.put, List.getElem_toArray, List.getElem_cons_zero, List.getElem_cons_succ, List.setIfInBounds_toArray, List.set_cons_zero, List.set_cons_succ]
                                                                  exact k13_14 b13 b14 u' ⟨hHeld2, Lib.hid ⟨hx F13.out.1, F13.out.2⟩, Lib.hid ⟨hF, Nat.le_trans hHeld.2.size hge⟩, Lib.hid M13⟩
                                                                )
                                                              ) (fun b14 u hF => by
                                                              obtain ⟨hHeld, F14⟩ := hF
                                                              refine wpAnyH_ready (rs := [3, 12, 13]) (by kernel_rfl) (by simp) ?_
                                                              refine AllReadyH.cons rfl (fun K hK => ?_) (AllReadyH.cons rfl (fun K hK => ?_) (AllReadyH.cons rfl (fun K hK => ?_) AllReadyH.nil))
                                                              · go_simp
                                                                refine (HWa.out _).mono ?_
                                                                rintro e u' ⟨rfl, hx, hL⟩
                                                                refine hK.out _ _ ?_ (fun hHeld2 => ?_)
                                                                · exact ⟨hx hHeld.1, more3 hHeld.2 hHeld.2.size hL⟩
                                                                clear hK K
                                                                try simp only [Act.put, List.getElem_toArray, List.getElem_cons_zero, List.getElem_cons_succ, List.setIfInBounds_toArray, List.set_cons_zero, List.set_cons_succ]
                                                                exact k3_14 b14 u' ⟨hHeld2, Lib.hid ⟨hx F14.out.1, F14.out.2⟩⟩
                                                              · go_simp
                                                                obtain ⟨b12, u', eb, ew, hF, hx, hL⟩ := grow_one u #[.slice none 0 0, .slice none 0 0, .slice none 0 0, .slice none 0 0, .slice none 0 0, .slice none 0 0, .slice none 0 0] 25
                                                                simp only [eb, ew]
                                                                have hge := Nat.le_of_eq eb
                                                                have M14 : b14 ≠ b12 := by have := F14.out.1.lt; omega
                                                                clear eb ew
                                                                refine hK.out _ _ ?_ (fun hHeld2 => ?_)
                                                                · exact ⟨hx hHeld.1, more3 hHeld.2 hHeld.2.size hL⟩
                                                                clear hK K
                                                                try simp only [Act.put, List.getElem_toArray, List.getElem_cons_zero, List.getElem_cons_succ, List.setIfInBounds_toArray, List.set_cons_zero, List.set_cons_succ]
                                                                exact k12_14 b12 b14 u' ⟨hHeld2, Lib.hid ⟨hF, Nat.le_trans hHeld.2.size hge⟩, Lib.hid ⟨hx F14.out.1, F14.out.2⟩, Lib.hid (Ne.symm M14)⟩
                                                              · go_simp
                                                                obtain ⟨b13, u', eb, ew, hF, hx, hL⟩ := grow_one u #[.slice none 0 0, .slice none 0 0, .slice none 0 0, .slice none 0 0, .slice none 0 0, .slice none 0 0, .slice none 0 0] 25
                                                                simp only [eb, ew]
                                                                have hge := Nat.le_of_eq eb
                                                                have M14 : b14 ≠ b13 := by have := F14.out.1.lt; omega
                                                                clear eb ew
                                                                refine hK.out _ _ ?_ (fun hHeld2 => ?_)
                                                                · exact ⟨hx hHeld.1, more3 hHeld.2 hHeld.2.size hL⟩
                                                                clear hK K
                                                                try simp only [Act.put, List.getElem_toArray, List.getElem_cons_zero, List.getElem_cons_succ, List.setIfInBounds_toArray, List.set_cons_zero, List.set_cons_succ]
                                                                exact k13_14 b13 b14 u' ⟨hHeld2, Lib.hid ⟨hF, Nat.le_trans hHeld.2.size hge⟩, Lib.hid ⟨hx F14.out.1, F14.out.2⟩, Lib.hid (Ne.symm M14)⟩
                                                              )
                                                            ) (fun  u hF => by
                                                            have hHeld := hF
                                                            refine wpAnyH_ready (rs := [7, 12, 13, 14]) (by kernel_rfl) (by simp) ?_
                                                            refine AllReadyH.cons rfl (fun K hK => ?_) (AllReadyH.cons rfl (fun K hK => ?_) (AllReadyH.cons rfl (fun K hK => ?_) (AllReadyH.cons rfl (fun K hK => ?_) AllReadyH.nil)))
                                                            · go_simp
                                                              refine (HWb.out _).mono ?_
                                                              rintro e u' ⟨rfl, hx, hL⟩
                                                              refine hK.out _ _ ?_ (fun hHeld2 => ?_)
                                                              · exact ⟨hx hHeld.1, more3 hHeld.2 hHeld.2.size hL⟩
                                                              clear hK K
                                                              try simp only [Act.put, List.getElem_toArray, List.getElem_cons_zero, List.getElem_cons_succ, List.setIfInBounds_toArray, List.set_cons_zero, List.set_cons_succ]
                                                              exact k3_7  u' hHeld2
                                                            · go_simp
                                                              obtain ⟨b12, u', eb, ew, hF, hx, hL⟩ := grow_one u #[.slice none 0 0, .slice none 0 0, .slice none 0 0, .slice none 0 0, .slice none 0 0, .slice none 0 0, .slice none 0 0] 25
                                                              simp only [eb, ew]
                                                              have hge := Nat.le_of_eq eb
                                                              clear eb ew
                                                              refine hK.out _ _ ?_ (fun hHeld2 => ?_)
                                                              · exact ⟨hx hHeld.1, more3 hHeld.2 hHeld.2.size hL⟩
                                                              clear hK K
                                                              try simp only [Act.put, List.getElem_toArray, List.getElem_cons_zero, List.getElem_cons_succ, List.setIfInBounds_toArray, List.set_cons_zero, List.set_cons_succ]
                                                              exact k3_12 b12 u' ⟨hHeld2, Lib.hid ⟨hF, Nat.le_trans hHeld.2.size hge⟩⟩
                                                            · go_simp
                                                              obtain ⟨b13, u', eb, ew, hF, hx, hL⟩ := grow_one u #[.slice none 0 0, .slice none 0 0, .slice none 0 0, .slice none 0 0, .slice none 0 0, .slice none 0 0, .slice none 0 0] 25
                                                              simp only [eb, ew]
                                                              have hge := Nat.le_of_eq eb
                                                              clear eb ew
                                                              refine hK.out _ _ ?_ (fun hHeld2 => ?_)
                                                              · exact ⟨hx hHeld.1, more3 hHeld.2 hHeld.2.size hL⟩
                                                              clear hK K
                                                              try simp only [Act.put, List.getElem_toArray, List.getElem_cons_zero, List.getElem_cons_succ, List.setIfInBounds_toArray, List.set_cons_zero, List.set_cons_succ]
                                                              exact k3_13 b13 u' ⟨hHeld2, Lib.hid ⟨hF, Nat.le_trans hHeld.2.size hge⟩⟩
                                                            · go_simp
                                                              obtain ⟨b14, u', eb, ew, hF, hx, hL⟩ := grow_one u #[.slice none 0 0, .slice none 0 0, .slice none 0 0, .slice none 0 0, .slice none 0 0, .slice none 0 0, .slice none 0 0] 25
                                                              simp only [eb, ew]
                                                              have hge := Nat.le_of_eq eb
                                                              clear eb ew
                                                              refine hK.out _ _ ?_ (fun hHeld2 => ?_)
                                                              · exact ⟨hx hHeld.1, more3 hHeld.2 hHeld.2.size hL⟩
                                                              clear hK K
                                                              try simp only [Act.put, List.getElem_toArray, List.getElem_cons_zero, List.getElem_cons_succ, List.setIfInBounds_toArray, List.set_cons_zero, List.set_cons_succ]
                                                              exact k3_14 b14 u' ⟨hHeld2, Lib.hid ⟨hF, Nat.le_trans hHeld.2.size hge⟩⟩
                                                            )
                                                          ) (fun b12 b13 u hF => by
                                                          obtain ⟨hHeld, F12, F13, N1213⟩ := hF
                                                          refine wpAnyH_ready (rs := [3, 14]) (by kernel_rfl) (by simp) ?_
                                                          refine AllReadyH.cons rfl (fun K hK => ?_) (AllReadyH.cons rfl (fun K hK => ?_) AllReadyH.nil)
                                                          · go_simp
                                                            refine (HWa.out _).mono ?_
                                                            rintro e u' ⟨rfl, hx, hL⟩
                                                            refine hK.out _ _ ?_ (fun hHeld2 => ?_)
                                                            · exact ⟨hx hHeld.1, more3 hHeld.2 hHeld.2.size hL⟩
                                                            clear hK K
                                                            try simp only [Act.put, List.getElem_toArray, List.getElem_cons_zero, List.getElem_cons_succ, List.setIfInBounds_toArray, List.set_cons_zero, List.set_cons_succ]
                                                            exact k3_12_13 b12 b13 u' ⟨hHeld2, Lib.hid ⟨hx F12.out.1, F12.out.2⟩, Lib.hid ⟨hx F13.out.1, F13.out.2⟩, N1213⟩
                                                          · go_simp
                                                            obtain ⟨b14, u', eb, ew, hF, hx, hL⟩ := grow_one u #[.slice none 0 0, .slice none 0 0, .slice none 0 0, .slice none 0 0, .slice none 0 0, .slice none 0 0, .slice none 0 0] 25
                                                            simp only [eb, ew]
                                                            have hge := Nat.le_of_eq eb
                                                            have M12 : b12 ≠ b14 := by have := F12.out.1.lt; omega
                                                            have M13 : b13 ≠ b14 := by have := F13.out.1.lt; omega
                                                            clear eb ew
                                                            refine hK.out _ _ ?_ (fun hHeld2 => ?_)
                                                            · exact ⟨hx hHeld.1, more3 hHeld.2 hHeld.2.size hL⟩
                                                            clear hK K
                                                            try simp only [Act.put, List.getElem_toArray, List.getElem_cons_zero, List.getElem_cons_succ, List.setIfInBounds_toArray, List.set_cons_zero, List.set_cons_succ]
                                                            exact k12_13_14 b12 b13 b14 u' ⟨hHeld2, Lib.hid ⟨hx F12.out.1, F12.out.2⟩, Lib.hid ⟨hx F13.out.1, F13.out.2⟩, Lib.hid ⟨hF, Nat.le_trans hHeld.2.size hge⟩, N1213, Lib.hid M12, Lib.hid M13⟩
                                                          )
                                                        ) (fun b12 b14 u hF => by
                                                        obtain ⟨hHeld, F12, F14, N1214⟩ := hF
                                                        refine wpAnyH_ready (rs := [3, 13]) (by kernel_rfl) (by simp) ?_
                                                        refine AllReadyH.cons rfl (fun K hK => ?_) (AllReadyH.cons rfl (fun K hK => ?_) AllReadyH.nil)
                                                        · go_simp
                                                          refine (HWa.out _).mono ?_
                                                          rintro e u' ⟨rfl, hx, hL⟩
                                                          refine hK.out _ _ ?_ (fun hHeld2 => ?_)
                                                          · exact ⟨hx hHeld.1, more3 hHeld.2 hHeld.2.size hL⟩
                                                          clear hK K
                                                          try simp only [Act.put, List.getElem_toArray, List.getElem_cons_zero, List.getElem_cons_succ, List.setIfInBounds_toArray, List.set_cons_zero, List.set_cons_succ]
                                                          exact k3_12_14 b12 b14 u' ⟨hHeld2, Lib.hid ⟨hx F12.out.1, F12.out.2⟩, Lib.hid ⟨hx F14.out.1, F14.out.2⟩, N1214⟩
                                                        · go_simp
                                                          obtain ⟨b13, u', eb, ew, hF, hx, hL⟩ := grow_one u #[.slice none 0 0, .slice none 0 0, .slice none 0 0, .slice none 0 0, .slice none 0 0, .slice none 0 0, .slice none 0 0] 25
                                                          simp only [eb, ew]
                                                          have hge := Nat.le_of_eq eb
                                                          have M12 : b12 ≠ b13 := by have := F12.out.1.lt; omega
                                                          have M14 : b14 ≠ b13 := by have := F14.out.1.lt; omega
                                                          clear eb ew
                                                          refine hK.out _ _ ?_ (fun hHeld2 => ?_)
                                                          · exact ⟨hx hHeld.1, more3 hHeld.2 hHeld.2.size hL⟩
                                                          clear hK K
                                                          try simp only [Act.put, List.getElem_toArray, List.getElem_cons_zero, List.getElem_cons_succ, List.setIfInBounds_toArray, List.set_cons_zero, List.set_cons_succ]
                                                          exact k12_13_14 b12 b13 b14 u' ⟨hHeld2, Lib.hid ⟨hx F12.out.1, F12.out.2⟩, Lib.hid ⟨hF, Nat.le_trans hHeld.2.size hge⟩, Lib.hid ⟨hx F14.out.1, F14.out.2⟩, Lib.hid M12, N1214, Lib.hid (Ne.symm M14)⟩
                                                        )
                                                      ) (fun b13 b14 u hF => by
                                                      obtain ⟨hHeld, F13, F14, N1314⟩ := hF
                                                      refine wpAnyH_ready (rs := [3, 12]) (by kernel_rfl) (by simp) ?_
                                                      refine AllReadyH.cons rfl (fun K hK => ?_) (AllReadyH.cons rfl (fun K hK => ?_) AllReadyH.nil)
                                                      · go_simp
                                                        refine (HWa.out _).mono ?_
                                                        rintro e u' ⟨rfl, hx, hL⟩
                                                        refine hK.out _ _ ?_ (fun hHeld2 => ?_)
                                                        · exact ⟨hx hHeld.1, more3 hHeld.2 hHeld.2.size hL⟩
                                                        clear hK K
                                                        try simp only [Act.put, List.getElem_toArray, List.getElem_cons_zero, List.getElem_cons_succ, List.setIfInBounds_toArray, List.set_cons_zero, List.set_cons_succ]
                                                        exact k3_13_14 b13 b14 u' ⟨hHeld2, Lib.hid ⟨hx F13.out.1, F13.out.2⟩, Lib.hid ⟨hx F14.out.1, F14.out.2⟩, N1314⟩
                                                      · go_simp
                                                        obtain ⟨b12, u', eb, ew, hF, hx, hL⟩ := grow_one u #[.slice none 0 0, .slice none 0 0, .slice none 0 0, .slice none 0 0, .slice none 0 0, .slice none 0 0, .slice none 0 0] 25
                                                        simp only [eb, ew]
                                                        have hge := Nat.le_of_eq eb
                                                        have M13 : b13 ≠ b12 := by have := F13.out.1.lt; omega
                                                        have M14 : b14 ≠ b12 := by have := F14.out.1.lt; omega
                                                        clear eb ew
                                                        refine hK.out _ _ ?_ (fun hHeld2 => ?_)
                                                        · exact ⟨hx hHeld.1, more3 hHeld.2 hHeld.2.size hL⟩
                                                        clear hK K
                                                        try simp only [Act.put, List.getElem_toArray, List.getElem_cons_zero, List.getElem_cons_succ, List.setIfInBounds_toArray, List.set_cons_zero, List.set_cons_succ]
                                                        exact k12_13_14 b12 b13 b14 u' ⟨hHeld2, Lib.hid ⟨hF, Nat.le_trans hHeld.2.size hge⟩, Lib.hid ⟨hx F13.out.1, F13.out.2⟩, Lib.hid ⟨hx F14.out.1, F14.out.2⟩, Lib.hid (Ne.symm M13), Lib.hid (Ne.symm M14), N1314⟩
                                                      )
                                                    ) (fun b12 u hF => by
                                                    obtain ⟨hHeld, F12⟩ := hF
                                                    refine wpAnyH_ready (rs := [7, 13, 14]) (by kernel_rfl) (by simp) ?_
                                                    refine AllReadyH.cons rfl (fun K hK => ?_) (AllReadyH.cons rfl (fun K hK => ?_) (AllReadyH.cons rfl (fun K hK => ?_) AllReadyH.nil))
                                                    · go_simp
                                                      refine (HWb.out _).mono ?_
                                                      rintro e u' ⟨rfl, hx, hL⟩
                                                      refine hK.out _ _ ?_ (fun hHeld2 => ?_)
                                                      · exact ⟨hx hHeld.1, more3 hHeld.2 hHeld.2.size hL⟩
                                                      clear hK K
                                                      try simp only [Act.put, List.getElem_toArray, List.getElem_cons_zero, List.getElem_cons_succ, List.setIfInBounds_toArray, List.set_cons_zero, List.set_cons_succ]
                                                      exact k3_7_12 b12 u' ⟨hHeld2, Lib.hid ⟨hx F12.out.1, F12.out.2⟩⟩
                                                    · go_simp
                                                      obtain ⟨b13, u', eb, ew, hF, hx, hL⟩ := grow_one u #[.slice none 0 0, .slice none 0 0, .slice none 0 0, .slice none 0 0, .slice none 0 0, .slice none 0 0, .slice none 0 0] 25
                                                      simp only [eb, ew]
                                                      have hge := Nat.le_of_eq eb
                                                      have M12 : b12 ≠ b13 := by have := F12.out.1.lt; omega
                                                      clear eb ew
                                                      refine hK.out _ _ ?_ (fun hHeld2 => ?_)
                                                      · exact ⟨hx hHeld.1, more3 hHeld.2 hHeld.2.size hL⟩
                                                      clear hK K
                                                      try simp only [Act.put, List.getElem_toArray, List.getElem_cons_zero, List.getElem_cons_succ, List.setIfInBounds_toArray, List.set_cons_zero, List.set_cons_succ]
                                                      exact k3_12_13 b12 b13 u' ⟨hHeld2, Lib.hid ⟨hx F12.out.1, F12.out.2⟩, Lib.hid ⟨hF, Nat.le_trans hHeld.2.size hge⟩, Lib.hid M12⟩
                                                    · go_simp
                                                      obtain ⟨b14, u', eb, ew, hF, hx, hL⟩ := grow_one u #[.slice none 0 0, .slice none 0 0, .slice none 0 0, .slice none 0 0, .slice none 0 0, .slice none 0 0, .slice none 0 0] 25
                                                      simp only [eb, ew]
                                                      have hge := Nat.le_of_eq eb
                                                      have M12 : b12 ≠ b14 := by have := F12.out.1.lt; omega
                                                      clear eb ew
                                                      refine hK.out _ _ ?_ (fun hHeld2 => ?_)
                                                      · exact ⟨hx hHeld.1, more3 hHeld.2 hHeld.2.size hL⟩
                                                      clear hK K
                                                      try simp only [Act.put, List.getElem_toArray, List.getElem_cons_zero, List.getElem_cons_succ, List.setIfInBounds_toArray, List.set_cons_zero, List.set_cons_succ]
                                                      exact k3_12_14 b12 b14 u' ⟨hHeld2, Lib.hid ⟨hx F12.out.1, F12.out.2⟩, Lib.hid ⟨hF, Nat.le_trans hHeld.2.size hge⟩, Lib.hid M12⟩
                                                    )
                                                  ) (fun b13 u hF => by
                                                  obtain ⟨hHeld, F13⟩ := hF
                                                  refine wpAnyH_ready (rs := [7, 12, 14]) (by kernel_rfl) (by simp) ?_
                                                  refine AllReadyH.cons rfl (fun K hK => ?_) (AllReadyH.cons rfl (fun K hK => ?_) (AllReadyH.cons rfl (fun K hK => ?_) AllReadyH.nil))
                                                  · go_simp
                                                    refine (HWb.out _).mono ?_
                                                    rintro e u' ⟨rfl, hx, hL⟩
                                                    refine hK.out _ _ ?_ (fun hHeld2 => ?_)
                                                    · exact ⟨hx hHeld.1, more3 hHeld.2 hHeld.2.size hL⟩
                                                    clear hK K
                                                    try simp only [Act.put, List.getElem_toArray, List.getElem_cons_zero, List.getElem_cons_succ, List.setIfInBounds_toArray, List.set_cons_zero, List.set_cons_succ]
                                                    exact k3_7_13 b13 u' ⟨hHeld2, Lib.hid ⟨hx F13.out.1, F13.out.2⟩⟩
                                                  · go_simp
                                                    obtain ⟨b12, u', eb, ew, hF, hx, hL⟩ := grow_one u #[.slice none 0 0, .slice none 0 0, .slice none 0 0, .slice none 0 0, .slice none 0 0, .slice none 0 0, .slice none 0 0] 25
                                                    simp only [eb, ew]
                                                    have hge := Nat.le_of_eq eb
                                                    have M13 : b13 ≠ b12 := by have := F13.out.1.lt; omega
                                                    clear eb ew
                                                    refine hK.out _ _ ?_ (fun hHeld2 => ?_)
                                                    · exact ⟨hx hHeld.1, more3 hHeld.2 hHeld.2.size hL⟩
                                                    clear hK K
                                                    try simp only [Act.put, List.getElem_toArray, List.getElem_cons_zero, List.getElem_cons_succ, List.setIfInBounds_toArray, List.set_cons_zero, List.set_cons_succ]
                                                    exact k3_12_13 b12 b13 u' ⟨hHeld2, Lib.hid ⟨hF, Nat.le_trans hHeld.2.size hge⟩, Lib.hid ⟨hx F13.out.1, F13.out.2⟩, Lib.hid (Ne.symm M13)⟩
                                                  · go_simp
                                                    obtain ⟨b14, u', eb, ew, hF, hx, hL⟩ := grow_one u #[.slice none 0 0, .slice none 0 0, .slice none 0 0, .slice none 0 0, .slice none 0 0, .slice none 0 0, .slice none 0 0] 25
                                                    simp only [eb, ew]
                                                    have hge := Nat.le_of_eq eb
                                                    have M13 : b13 ≠ b14 := by have := F13.out.1.lt; omega
                                                    clear eb ew
                                                    refine hK.out _ _ ?_ (fun hHeld2 => ?_)
                                                    · exact ⟨hx hHeld.1, more3 hHeld.2 hHeld.2.size hL⟩
                                                    clear hK K
                                                    try simp only [Act.put, List.getElem_toArray, List.getElem_cons_zero, List.getElem_cons_succ, List.setIfInBounds_toArray, List.set_cons_zero, List.set_cons_succ]
                                                    exact k3_13_14 b13 b14 u' ⟨hHeld2, Lib.hid ⟨hx F13.out.1, F13.out.2⟩, Lib.hid ⟨hF, Nat.le_trans hHeld.2.size hge⟩, Lib.hid M13⟩
                                                  )
                                                ) (fun b14 u hF => by
                                                obtain ⟨hHeld, F14⟩ := hF
                                                refine wpAnyH_ready (rs := [7, 12, 13]) (by kernel_rfl) (by simp) ?_
                                                refine AllReadyH.cons rfl (fun K hK => ?_) (AllReadyH.cons rfl (fun K hK => ?_) (AllReadyH.cons rfl (fun K hK => ?_) AllReadyH.nil))
                                                · go_simp
                                                  refine (HWb.out _).mono ?_
                                                  rintro e u' ⟨rfl, hx, hL⟩
                                                  refine hK.out _ _ ?_ (fun hHeld2 => ?_)
                                                  · exact ⟨hx hHeld.1, more3 hHeld.2 hHeld.2.size hL⟩
                                                  clear hK K
                                                  try simp only [Act.put, List.getElem_toArray, List.getElem_cons_zero, List.getElem_cons_succ, List.setIfInBounds_toArray, List.set_cons_zero, List.set_cons_succ]
                                                  exact k3_7_14 b14 u' ⟨hHeld2, Lib.hid ⟨hx F14.out.1, F14.out.2⟩⟩
                                                · go_simp
                                                  obtain ⟨b12, u', eb, ew, hF, hx, hL⟩ := grow_one u #[.slice none 0 0, .slice none 0 0, .slice none 0 0, .slice none 0 0, .slice none 0 0, .slice none 0 0, .slice none 0 0] 25
                                                  simp only [eb, ew]
                                                  have hge := Nat.le_of_eq eb
                                                  have M14 : b14 ≠ b12 := by have := F14.out.1.lt; omega
                                                  clear eb ew
                                                  refine hK.out _ _ ?_ (fun hHeld2 => ?_)
                                                  · exact ⟨hx hHeld.1, more3 hHeld.2 hHeld.2.size hL⟩
                                                  clear hK K
                                                  try simp only [Act.put, List.getElem_toArray, List.getElem_cons_zero, List.getElem_cons_succ, List.setIfInBounds_toArray, List.set_cons_zero, List.set_cons_succ]
                                                  exact k3_12_14 b12 b14 u' ⟨hHeld2, Lib.hid ⟨hF, Nat.le_trans hHeld.2.size hge⟩, Lib.hid ⟨hx F14.out.1, F14.out.2⟩, Lib.hid (Ne.symm M14)⟩
                                                · go_simp
                                                  obtain ⟨b13, u', eb, ew, hF, hx, hL⟩ := grow_one u #[.slice none 0 0, .slice none 0 0, .slice none 0 0, .slice none 0 0, .slice none 0 0, .slice none 0 0, .slice none 0 0] 25
                                                  simp only [eb, ew]
                                                  have hge := Nat.le_of_eq eb
                                                  have M14 : b14 ≠ b13 := by have := F14.out.1.lt; omega
                                                  clear eb ew
                                                  refine hK.out _ _ ?_ (fun hHeld2 => ?_)
                                                  · exact ⟨hx hHeld.1, more3 hHeld.2 hHeld.2.size hL⟩
                                                  clear hK K
                                                  try simp only [Act.put, List.getElem_toArray, List.getElem_cons_zero, List.getElem_cons_succ, List.setIfInBounds_toArray, List.set_cons_zero, List.set_cons_succ]
                                                  exact k3_13_14 b13 b14 u' ⟨hHeld2, Lib.hid ⟨hF, Nat.le_trans hHeld.2.size hge⟩, Lib.hid ⟨hx F14.out.1, F14.out.2⟩, Lib.hid (Ne.symm M14)⟩
                                                )
                                              ) (fun  u hF => by
                                              have hHeld := hF
                                              refine wpAnyH_ready (rs := [11, 12, 13, 14]) (by kernel_rfl) (by simp) ?_
                                              refine AllReadyH.cons rfl (fun K hK => ?_) (AllReadyH.cons rfl (fun K hK => ?_) (AllReadyH.cons rfl (fun K hK => ?_) (AllReadyH.cons rfl (fun K hK => ?_) AllReadyH.nil)))
                                              · go_simp
                                                refine (HWu.out _).mono ?_
                                                rintro e u' ⟨rfl, hx, hL⟩
                                                refine hK.out _ _ ?_ (fun hHeld2 => ?_)
                                                · exact ⟨hx hHeld.1, more3 hHeld.2 hHeld.2.size hL⟩
                                                clear hK K
                                                try simp only [Act.put, List.getElem_toArray, List.getElem_cons_zero, List.getElem_cons_succ, List.setIfInBounds_toArray, List.set_cons_zero, List.set_cons_succ]
                                                exact k3_7_11  u' hHeld2
                                              · go_simp
                                                obtain ⟨b12, u', eb, ew, hF, hx, hL⟩ := grow_one u #[.slice none 0 0, .slice none 0 0, .slice none 0 0, .slice none 0 0, .slice none 0 0, .slice none 0 0, .slice none 0 0] 25
                                                simp only [eb, ew]
                                                have hge := Nat.le_of_eq eb
                                                clear eb ew
                                                refine hK.out _ _ ?_ (fun hHeld2 => ?_)
                                                · exact ⟨hx hHeld.1, more3 hHeld.2 hHeld.2.size hL⟩
                                                clear hK K
                                                try simp only [Act.put, List.getElem_toArray, List.getElem_cons_zero, List.getElem_cons_succ, List.setIfInBounds_toArray, List.set_cons_zero, List.set_cons_succ]
                                                exact k3_7_12 b12 u' ⟨hHeld2, Lib.hid ⟨hF, Nat.le_trans hHeld.2.size hge⟩⟩
                                              · go_simp
                                                obtain ⟨b13, u', eb, ew, hF, hx, hL⟩ := grow_one u #[.slice none 0 0, .slice none 0 0, .slice none 0 0, .slice none 0 0, .slice none 0 0, .slice none 0 0, .slice none 0 0] 25
                                                simp only [eb, ew]
                                                have hge := Nat.le_of_eq eb
                                                clear eb ew
                                                refine hK.out _ _ ?_ (fun hHeld2 => ?_)
                                                · exact ⟨hx hHeld.1, more3 hHeld.2 hHeld.2.size hL⟩
                                                clear hK K
                                                try simp only [Act.put, List.getElem_toArray, List.getElem_cons_zero, List.getElem_cons_succ, List.setIfInBounds_toArray, List.set_cons_zero, List.set_cons_succ]
                                                exact k3_7_13 b13 u' ⟨hHeld2, Lib.hid ⟨hF, Nat.le_trans hHeld.2.size hge⟩⟩
                                              · go_simp
                                                obtain ⟨b14, u', eb, ew, hF, hx, hL⟩ := grow_one u #[.slice none 0 0, .slice none 0 0, .slice none 0 0, .slice none 0 0, .slice none 0 0, .slice none 0 0, .slice none 0 0] 25
                                                simp only [eb, ew]
                                                have hge := Nat.le_of_eq eb
                                                clear eb ew
                                                refine hK.out _ _ ?_ (fun hHeld2 => ?_)
                                                · exact ⟨hx hHeld.1, more3 hHeld.2 hHeld.2.size hL⟩
                                                clear hK K
                                                try simp only [Act.put, List.getElem_toArray, List.getElem_cons_zero, List.getElem_cons_succ, List.setIfInBounds_toArray, List.set_cons_zero, List.set_cons_succ]
                                                exact k3_7_14 b14 u' ⟨hHeld2, Lib.hid ⟨hF, Nat.le_trans hHeld.2.size hge⟩⟩
                                              )
                                            ) (fun b12 b13 b14 u hF => by
                                            obtain ⟨hHeld, F12, F13, F14, N1213, N1214, N1314⟩ := hF
                                            refine wpAnyH_ready (rs := [3]) (by kernel_rfl) (by simp) ?_
                                            refine AllReadyH.cons rfl (fun K hK => ?_) AllReadyH.nil
                                            · go_simp
                                              refine (HWa.out _).mono ?_
                                              rintro e u' ⟨rfl, hx, hL⟩
                                              refine hK.out _ _ ?_ (fun hHeld2 => ?_)
                                              · exact ⟨hx hHeld.1, more3 hHeld.2 hHeld.2.size hL⟩
                                              clear hK K
                                              try simp only [Act.put, List.getElem_toArray, List.getElem_cons_zero, List.getElem_cons_succ, List.setIfInBounds_toArray, List.set_cons_zero, List.set_cons_succ]
                                              exact k3_12_13_14 b12 b13 b14 u' ⟨hHeld2, Lib.hid ⟨hx F12.out.1, F12.out.2⟩, Lib.hid ⟨hx F13.out.1, F13.out.2⟩, Lib.hid ⟨hx F14.out.1, F14.out.2⟩, N1213, N1214, N1314⟩
                                            )
                                          ) (fun b12 b13 u hF => by
                                          obtain ⟨hHeld, F12, F13, N1213⟩ := hF
                                          refine wpAnyH_ready (rs := [7, 14]) (by kernel_rfl) (by simp) ?_
                                          refine AllReadyH.cons rfl (fun K hK => ?_) (AllReadyH.cons rfl (fun K hK => ?_) AllReadyH.nil)
                                          · go_simp
                                            refine (HWb.out _).mono ?_
                                            rintro e u' ⟨rfl, hx, hL⟩
                                            refine hK.out _ _ ?_ (fun hHeld2 => ?_)
                                            · exact ⟨hx hHeld.1, more3 hHeld.2 hHeld.2.size hL⟩
                                            clear hK K
                                            try simp only [Act.put, List.getElem_toArray, List.getElem_cons_zero, List.getElem_cons_succ, List.setIfInBounds_toArray, List.set_cons_zero, List.set_cons_succ]
                                            exact k3_7_12_13 b12 b13 u' ⟨hHeld2, Lib.hid ⟨hx F12.out.1, F12.out.2⟩, Lib.hid ⟨hx F13.out.1, F13.out.2⟩, N1213⟩
                                          · go_simp
                                            obtain ⟨b14, u', eb, ew, hF, hx, hL⟩ := grow_one u #[.slice none 0 0, .slice none 0 0, .slice none 0 0, .slice none 0 0, .slice none 0 0, .slice none 0 0, .slice none 0 0] 25
                                            simp only [eb, ew]
                                            have hge := Nat.le_of_eq eb
                                            have M12 : b12 ≠ b14 := by have := F12.out.1.lt; omega
                                            have M13 : b13 ≠ b14 := by have := F13.out.1.lt; omega
                                            clear eb ew
                                            refine hK.out _ _ ?_ (fun hHeld2 => ?_)
                                            · exact ⟨hx hHeld.1, more3 hHeld.2 hHeld.2.size hL⟩
                                            clear hK K
                                            try simp only [Act.put, List.getElem_toArray, List.getElem_cons_zero, List.getElem_cons_succ, List.setIfInBounds_toArray, List.set_cons_zero, List.set_cons_succ]
                                            exact k3_12_13_14 b12 b13 b14 u' ⟨hHeld2, Lib.hid ⟨hx F12.out.1, F12.out.2⟩, Lib.hid ⟨hx F13.out.1, F13.out.2⟩, Lib.hid ⟨hF, Nat.le_trans hHeld.2.size hge⟩, N1213, Lib.hid M12, Lib.hid M13⟩
                                          )
                                        ) (fun b12 b14 u hF => by
                                        obtain ⟨hHeld, F12, F14, N1214⟩ := hF
                                        refine wpAnyH_ready (rs := [7, 13]) (by kernel_rfl) (by simp) ?_
                                        refine AllReadyH.cons rfl (fun K hK => ?_) (AllReadyH.cons rfl (fun K hK => ?_) AllReadyH.nil)
                                        · go_simp
                                          refine (HWb.out _).mono ?_
                                          rintro e u' ⟨rfl, hx, hL⟩
                                          refine hK.out _ _ ?_ (fun hHeld2 => ?_)
                                          · exact ⟨hx hHeld.1, more3 hHeld.2 hHeld.2.size hL⟩
                                          clear hK K
                                          try simp only [Act.put, List.getElem_toArray, List.getElem_cons_zero, List.getElem_cons_succ, List.setIfInBounds_toArray, List.set_cons_zero, List.set_cons_succ]
                                          exact k3_7_12_14 b12 b14 u' ⟨hHeld2, Lib.hid ⟨hx F12.out.1, F12.out.2⟩, Lib.hid ⟨hx F14.out.1, F14.out.2⟩, N1214⟩
                                        · go_simp
                                          obtain ⟨b13, u', eb, ew, hF, hx, hL⟩ := grow_one u #[.slice none 0 0, .slice none 0 0, .slice none 0 0, .slice none 0 0, .slice none 0 0, .slice none 0 0, .slice none 0 0] 25
                                          simp only [eb, ew]
                                          have hge := Nat.le_of_eq eb
                                          have M12 : b12 ≠ b13 := by have := F12.out.1.lt; omega
                                          have M14 : b14 ≠ b13 := by have := F14.out.1.lt; omega
                                          clear eb ew
                                          refine hK.out _ _ ?_ (fun hHeld2 => ?_)
                                          · exact ⟨hx hHeld.1, more3 hHeld.2 hHeld.2.size hL⟩
                                          clear hK K
                                          try simp only [Act.put, List.getElem_toArray, List.getElem_cons_zero, List.getElem_cons_succ, List.setIfInBounds_toArray, List.set_cons_zero, List.set_cons_succ]
                                          exact k3_12_13_14 b12 b13 b14 u' ⟨hHeld2, Lib.hid ⟨hx F12.out.1, F12.out.2⟩, Lib.hid ⟨hF, Nat.le_trans hHeld.2.size hge⟩, Lib.hid ⟨hx F14.out.1, F14.out.2⟩, Lib.hid M12, N1214, Lib.hid (Ne.symm M14)⟩
                                        )
                                      ) (fun b13 b14 u hF => by
                                      obtain ⟨hHeld, F13, F14, N1314⟩ := hF
                                      refine wpAnyH_ready (rs := [7, 12]) (by kernel_rfl) (by simp) ?_
                                      refine AllReadyH.cons rfl (fun K hK => ?_) (AllReadyH.cons rfl (fun K hK => ?_) AllReadyH.nil)
                                      · go_simp
                                        refine (HWb.out _).mono ?_
                                        rintro e u' ⟨rfl, hx, hL⟩
                                        refine hK.out _ _ ?_ (fun hHeld2 => ?_)
                                        · exact ⟨hx hHeld.1, more3 hHeld.2 hHeld.2.size hL⟩
                                        clear hK K
                                        try simp only [Act.put, List.getElem_toArray, List.getElem_cons_zero, List.getElem_cons_succ, List.setIfInBounds_toArray, List.set_cons_zero, List.set_cons_succ]
                                        exact k3_7_13_14 b13 b14 u' ⟨hHeld2, Lib.hid ⟨hx F13.out.1, F13.out.2⟩, Lib.hid ⟨hx F14.out.1, F14.out.2⟩, N1314⟩
                                      · go_simp
                                        obtain ⟨b12, u', eb, ew, hF, hx, hL⟩ := grow_one u #[.slice none 0 0, .slice none 0 0, .slice none 0 0, .slice none 0 0, .slice none 0 0, .slice none 0 0, .slice none 0 0] 25
                                        simp only [eb, ew]
                                        have hge := Nat.le_of_eq eb
                                        have M13 : b13 ≠ b12 := by have := F13.out.1.lt; omega
                                        have M14 : b14 ≠ b12 := by have := F14.out.1.lt; omega
                                        clear eb ew
                                        refine hK.out _ _ ?_ (fun hHeld2 => ?_)
                                        · exact ⟨hx hHeld.1, more3 hHeld.2 hHeld.2.size hL⟩
                                        clear hK K
                                        try simp only [Act.put, List.getElem_toArray, List.getElem_cons_zero, List.getElem_cons_succ, List.setIfInBounds_toArray, List.set_cons_zero, List.set_cons_succ]
                                        exact k3_12_13_14 b12 b13 b14 u' ⟨hHeld2, Lib.hid ⟨hF, Nat.le_trans hHeld.2.size hge⟩, Lib.hid ⟨hx F13.out.1, F13.out.2⟩, Lib.hid ⟨hx F14.out.1, F14.out.2⟩, Lib.hid (Ne.symm M13), Lib.hid (Ne.symm M14), N1314⟩
                                      )
                                    ) (fun b12 u hF => by
                                    obtain ⟨hHeld, F12⟩ := hF
                                    refine wpAnyH_ready (rs := [11, 13, 14]) (by kernel_rfl) (by simp) ?_
                                    refine AllReadyH.cons rfl (fun K hK => ?_) (AllReadyH.cons rfl (fun K hK => ?_) (AllReadyH.cons rfl (fun K hK => ?_) AllReadyH.nil))
                                    · go_simp
                                      refine (HWu.out _).mono ?_
                                      rintro e u' ⟨rfl, hx, hL⟩
                                      refine hK.out _ _ ?_ (fun hHeld2 => ?_)
                                      · exact ⟨hx hHeld.1, more3 hHeld.2 hHeld.2.size hL⟩
                                      clear hK K
                                      try simp only [Act.put, List.getElem_toArray, List.getElem_cons_zero, List.getElem_cons_succ, List.setIfInBounds_toArray, List.set_cons_zero, List.set_cons_succ]
                                      exact k3_7_11_12 b12 u' ⟨hHeld2, Lib.hid ⟨hx F12.out.1, F12.out.2⟩⟩
                                    · go_simp
                                      obtain ⟨b13, u', eb, ew, hF, hx, hL⟩ := grow_one u #[.slice none 0 0, .slice none 0 0, .slice none 0 0, .slice none 0 0, .slice none 0 0, .slice none 0 0, .slice none 0 0] 25
                                      simp only [eb, ew]
                                      have hge := Nat.le_of_eq eb
                                      have M12 : b12 ≠ b13 := by have := F12.out.1.lt; omega
                                      clear eb ew
                                      refine hK.out _ _ ?_ (fun hHeld2 => ?_)
                                      · exact ⟨hx hHeld.1, more3 hHeld.2 hHeld.2.size hL⟩
                                      clear hK K
                                      try simp only [Act.put, List.getElem_toArray, List.getElem_cons_zero, List.getElem_cons_succ, List.setIfInBounds_toArray, List.set_cons_zero, List.set_cons_succ]
                                      exact k3_7_12_13 b12 b13 u' ⟨hHeld2, Lib.hid ⟨hx F12.out.1, F12.out.2⟩, Lib.hid ⟨hF, Nat.le_trans hHeld.2.size hge⟩, Lib.hid M12⟩
                                    · go_simp
                                      obtain ⟨b14, u', eb, ew, hF, hx, hL⟩ := grow_one u #[.slice none 0 0, .slice none 0 0, .slice none 0 0, .slice none 0 0, .slice none 0 0, .slice none 0 0, .slice none 0 0] 25
                                      simp only [eb, ew]
                                      have hge := Nat.le_of_eq eb
                                      have M12 : b12 ≠ b14 := by have := F12.out.1.lt; omega
                                      clear eb ew
                                      refine hK.out _ _ ?_ (fun hHeld2 => ?_)
                                      · exact ⟨hx hHeld.1, more3 hHeld.2 hHeld.2.size hL⟩
                                      clear hK K
                                      try simp only [Act.put, List.getElem_toArray, List.getElem_cons_zero, List.getElem_cons_succ, List.setIfInBounds_toArray, List.set_cons_zero, List.set_cons_succ]
                                      exact k3_7_12_14 b12 b14 u' ⟨hHeld2, Lib.hid ⟨hx F12.out.1, F12.out.2⟩, Lib.hid ⟨hF, Nat.le_trans hHeld.2.size hge⟩, Lib.hid M12⟩
                                    )
                                  ) (fun b13 u hF => by
                                  obtain ⟨hHeld, F13⟩ := hF
                                  refine wpAnyH_ready (rs := [11, 12, 14]) (by kernel_rfl) (by simp) ?_
                                  refine AllReadyH.cons rfl (fun K hK => ?_) (AllReadyH.cons rfl (fun K hK => ?_) (AllReadyH.cons rfl (fun K hK => ?_) AllReadyH.nil))
                                  · go_simp
                                    refine (HWu.out _).mono ?_
                                    rintro e u' ⟨rfl, hx, hL⟩
                                    refine hK.out _ _ ?_ (fun hHeld2 => ?_)
                                    · exact ⟨hx hHeld.1, more3 hHeld.2 hHeld.2.size hL⟩
                                    clear hK K
                                    try simp only [Act.put, List.getElem_toArray, List.getElem_cons_zero, List.getElem_cons_succ, List.setIfInBounds_toArray, List.set_cons_zero, List.set_cons_succ]
                                    exact k3_7_11_13 b13 u' ⟨hHeld2, Lib.hid ⟨hx F13.out.1, F13.out.2⟩⟩
                                  · go_simp
                                    obtain ⟨b12, u', eb, ew, hF, hx, hL⟩ := grow_one u #[.slice none 0 0, .slice none 0 0, .slice none 0 0, .slice none 0 0, .slice none 0 0, .slice none 0 0, .slice none 0 0] 25
                                    simp only [eb, ew]
                                    have hge := Nat.le_of_eq eb
                                    have M13 : b13 ≠ b12 := by have := F13.out.1.lt; omega
                                    clear eb ew
                                    refine hK.out _ _ ?_ (fun hHeld2 => ?_)
                                    · exact ⟨hx hHeld.1, more3 hHeld.2 hHeld.2.size hL⟩
                                    clear hK K
                                    try simp only [Act.put, List.getElem_toArray, List.getElem_cons_zero, List.getElem_cons_succ, List.setIfInBounds_toArray, List.set_cons_zero, List.set_cons_succ]
                                    exact k3_7_12_13 b12 b13 u' ⟨hHeld2, Lib.hid ⟨hF, Nat.le_trans hHeld.2.size hge⟩, Lib.hid ⟨hx F13.out.1, F13.out.2⟩, Lib.hid (Ne.symm M13)⟩
                                  · go_simp
                                    obtain ⟨b14, u', eb, ew, hF, hx, hL⟩ := grow_one u #[.slice none 0 0, .slice none 0 0, .slice none 0 0, .slice none 0 0, .slice none 0 0, .slice none 0 0, .slice none 0 0] 25
                                    simp only [eb, ew]
                                    have hge := Nat.le_of_eq eb
                                    have M13 : b13 ≠ b14 := by have := F13.out.1.lt; omega
                                    clear eb ew
                                    refine hK.out _ _ ?_ (fun hHeld2 => ?_)
                                    · exact ⟨hx hHeld.1, more3 hHeld.2 hHeld.2.size hL⟩
                                    clear hK K
                                    try simp only [Act.put, List.getElem_toArray, List.getElem_cons_zero, List.getElem_cons_succ, List.setIfInBounds_toArray, List.set_cons_zero, List.set_cons_succ]
                                    exact k3_7_13_14 b13 b14 u' ⟨hHeld2, Lib.hid ⟨hx F13.out.1, F13.out.2⟩, Lib.hid ⟨hF, Nat.le_trans hHeld.2.size hge⟩, Lib.hid M13⟩
                                  )
                                ) (fun b14 u hF => by
                                obtain ⟨hHeld, F14⟩ := hF
                                refine wpAnyH_ready (rs := [11, 12, 13]) (by kernel_rfl) (by simp) ?_
                                refine AllReadyH.cons rfl (fun K hK => ?_) (AllReadyH.cons rfl (fun K hK => ?_) (AllReadyH.cons rfl (fun K hK => ?_) AllReadyH.nil))
                                · go_simp
                                  refine (HWu.out _).mono ?_
                                  rintro e u' ⟨rfl, hx, hL⟩
                                  refine hK.out _ _ ?_ (fun hHeld2 => ?_)
                                  · exact ⟨hx hHeld.1, more3 hHeld.2 hHeld.2.size hL⟩
                                  clear hK K
                                  try simp only [Act.put, List.getElem_toArray, List.getElem_cons_zero, List.getElem_cons_succ, List.setIfInBounds_toArray, List.set_cons_zero, List.set_cons_succ]
                                  exact k3_7_11_14 b14 u' ⟨hHeld2, Lib.hid ⟨hx F14.out.1, F14.out.2⟩⟩
                                · go_simp
                                  obtain ⟨b12, u', eb, ew, hF, hx, hL⟩ := grow_one u #[.slice none 0 0, .slice none 0 0, .slice none 0 0, .slice none 0 0, .slice none 0 0, .slice none 0 0, .slice none 0 0] 25
                                  simp only [eb, ew]
                                  have hge := Nat.le_of_eq eb
                                  have M14 : b14 ≠ b12 := by have := F14.out.1.lt; omega
                                  clear eb ew
                                  refine hK.out _ _ ?_ (fun hHeld2 => ?_)
                                  · exact ⟨hx hHeld.1, more3 hHeld.2 hHeld.2.size hL⟩
                                  clear hK K
                                  try simp only [Act.put, List.getElem_toArray, List.getElem_cons_zero, List.getElem_cons_succ, List.setIfInBounds_toArray, List.set_cons_zero, List.set_cons_succ]
                                  exact k3_7_12_14 b12 b14 u' ⟨hHeld2, Lib.hid ⟨hF, Nat.le_trans hHeld.2.size hge⟩, Lib.hid ⟨hx F14.out.1, F14.out.2⟩, Lib.hid (Ne.symm M14)⟩
                                · go_simp
                                  obtain ⟨b13, u', eb, ew, hF, hx, hL⟩ := grow_one u #[.slice none 0 0, .slice none 0 0, .slice none 0 0, .slice none 0 0, .slice none 0 0, .slice none 0 0, .slice none 0 0] 25
                                  simp only [eb, ew]
                                  have hge := Nat.le_of_eq eb
                                  have M14 : b14 ≠ b13 := by have := F14.out.1.lt; omega
                                  clear eb ew
                                  refine hK.out _ _ ?_ (fun hHeld2 => ?_)
                                  · exact ⟨hx hHeld.1, more3 hHeld.2 hHeld.2.size hL⟩
                                  clear hK K
                                  try simp only [Act.put, List.getElem_toArray, List.getElem_cons_zero, List.getElem_cons_succ, List.setIfInBounds_toArray, List.set_cons_zero, List.set_cons_succ]
                                  exact k3_7_13_14 b13 b14 u' ⟨hHeld2, Lib.hid ⟨hF, Nat.le_trans hHeld.2.size hge⟩, Lib.hid ⟨hx F14.out.1, F14.out.2⟩, Lib.hid (Ne.symm M14)⟩
                                )
                              ) (fun  u hF => by
                              have hHeld := hF
                              refine wpAnyH_ready (rs := [12, 13, 14]) (by kernel_rfl) (by simp) ?_
                              refine AllReadyH.cons rfl (fun K hK => ?_) (AllReadyH.cons rfl (fun K hK => ?_) (AllReadyH.cons rfl (fun K hK => ?_) AllReadyH.nil))
                              · go_simp
                                obtain ⟨b12, u', eb, ew, hF, hx, hL⟩ := grow_one u #[.slice none 0 0, .slice none 0 0, .slice none 0 0, .slice none 0 0, .slice none 0 0, .slice none 0 0, .slice none 0 0] 25
                                simp only [eb, ew]
                                have hge := Nat.le_of_eq eb
                                clear eb ew
                                refine hK.out _ _ ?_ (fun hHeld2 => ?_)
                                · exact ⟨hx hHeld.1, more3 hHeld.2 hHeld.2.size hL⟩
                                clear hK K
                                try simp only [Act.put, List.getElem_toArray, List.getElem_cons_zero, List.getElem_cons_succ, List.setIfInBounds_toArray, List.set_cons_zero, List.set_cons_succ]
                                exact k3_7_11_12 b12 u' ⟨hHeld2, Lib.hid ⟨hF, Nat.le_trans hHeld.2.size hge⟩⟩
                              · go_simp
                                obtain ⟨b13, u', eb, ew, hF, hx, hL⟩ := grow_one u #[.slice none 0 0, .slice none 0 0, .slice none 0 0, .slice none 0 0, .slice none 0 0, .slice none 0 0, .slice none 0 0] 25
                                simp only [eb, ew]
                                have hge := Nat.le_of_eq eb
                                clear eb ew
                                refine hK.out _ _ ?_ (fun hHeld2 => ?_)
                                · exact ⟨hx hHeld.1, more3 hHeld.2 hHeld.2.size hL⟩
                                clear hK K
                                try simp only [Act.put, List.getElem_toArray, List.getElem_cons_zero, List.getElem_cons_succ, List.setIfInBounds_toArray, List.set_cons_zero, List.set_cons_succ]
                                exact k3_7_11_13 b13 u' ⟨hHeld2, Lib.hid ⟨hF, Nat.le_trans hHeld.2.size hge⟩⟩
                              · go_simp
                                obtain ⟨b14, u', eb, ew, hF, hx, hL⟩ := grow_one u #[.slice none 0 0, .slice none 0 0, .slice none 0 0, .slice none 0 0, .slice none 0 0, .slice none 0 0, .slice none 0 0] 25
                                simp only [eb, ew]
                                have hge := Nat.le_of_eq eb
                                clear eb ew
                                refine hK.out _ _ ?_ (fun hHeld2 => ?_)
                                · exact ⟨hx hHeld.1, more3 hHeld.2 hHeld.2.size hL⟩
                                clear hK K
                                try simp only [Act.put, List.getElem_toArray, List.getElem_cons_zero, List.getElem_cons_succ, List.setIfInBounds_toArray, List.set_cons_zero, List.set_cons_succ]
                                exact k3_7_11_14 b14 u' ⟨hHeld2, Lib.hid ⟨hF, Nat.le_trans hHeld.2.size hge⟩⟩
                              )
                            ) (fun b12 b13 b14 u hF => by
                            obtain ⟨hHeld, F12, F13, F14, N1213, N1214, N1314⟩ := hF
                            refine wpAnyH_ready (rs := [7]) (by kernel_rfl) (by simp) ?_
                            refine AllReadyH.cons rfl (fun K hK => ?_) AllReadyH.nil
                            · go_simp
                              refine (HWb.out _).mono ?_
                              rintro e u' ⟨rfl, hx, hL⟩
                              refine hK.out _ _ ?_ (fun hHeld2 => ?_)
                              · exact ⟨hx hHeld.1, more3 hHeld.2 hHeld.2.size hL⟩
                              clear hK K
                              try simp only [Act.put, List.getElem_toArray, List.getElem_cons_zero, List.getElem_cons_succ, List.setIfInBounds_toArray, List.set_cons_zero, List.set_cons_succ]
                              exact k3_7_12_13_14 b12 b13 b14 u' ⟨hHeld2, Lib.hid ⟨hx F12.out.1, F12.out.2⟩, Lib.hid ⟨hx F13.out.1, F13.out.2⟩, Lib.hid ⟨hx F14.out.1, F14.out.2⟩, N1213, N1214, N1314⟩
                            )
                          ) (fun b12 b13 u hF => by
                          obtain ⟨hHeld, F12, F13, N1213⟩ := hF
                          refine wpAnyH_ready (rs := [11, 14]) (by kernel_rfl) (by simp) ?_
                          refine AllReadyH.cons rfl (fun K hK => ?_) (AllReadyH.cons rfl (fun K hK => ?_) AllReadyH.nil)
                          · go_simp
                            refine (HWu.out _).mono ?_
                            rintro e u' ⟨rfl, hx, hL⟩
                            refine hK.out _ _ ?_ (fun hHeld2 => ?_)
                            · exact ⟨hx hHeld.1, more3 hHeld.2 hHeld.2.size hL⟩
                            clear hK K
                            try simp only [Act.put, List.getElem_toArray, List.getElem_cons_zero, List.getElem_cons_succ, List.setIfInBounds_toArray, List.set_cons_zero, List.set_cons_succ]
                            exact k3_7_11_12_13 b12 b13 u' ⟨hHeld2, Lib.hid ⟨hx F12.out.1, F12.out.2⟩, Lib.hid ⟨hx F13.out.1, F13.out.2⟩, N1213⟩
                          · go_simp
                            obtain ⟨b14, u', eb, ew, hF, hx, hL⟩ := grow_one u #[.slice none 0 0, .slice none 0 0, .slice none 0 0, .slice none 0 0, .slice none 0 0, .slice none 0 0, .slice none 0 0] 25
                            simp only [eb, ew]
                            have hge := Nat.le_of_eq eb
                            have M12 : b12 ≠ b14 := by have := F12.out.1.lt; omega
                            have M13 : b13 ≠ b14 := by have := F13.out.1.lt; omega
                            clear eb ew
                            refine hK.out _ _ ?_ (fun hHeld2 => ?_)
                            · exact ⟨hx hHeld.1, more3 hHeld.2 hHeld.2.size hL⟩
                            clear hK K
                            try simp only [Act.put, List.getElem_toArray, List.getElem_cons_zero, List.getElem_cons_succ, List.setIfInBounds_toArray, List.set_cons_zero, List.set_cons_succ]
                            exact k3_7_12_13_14 b12 b13 b14 u' ⟨hHeld2, Lib.hid ⟨hx F12.out.1, F12.out.2⟩, Lib.hid ⟨hx F13.out.1, F13.out.2⟩, Lib.hid ⟨hF, Nat.le_trans hHeld.2.size hge⟩, N1213, Lib.hid M12, Lib.hid M13⟩
                          )
                        ) (fun b12 b14 u hF => by
                        obtain ⟨hHeld, F12, F14, N1214⟩ := hF
                        refine wpAnyH_ready (rs := [11, 13]) (by kernel_rfl) (by simp) ?_
                        refine AllReadyH.cons rfl (fun K hK => ?_) (AllReadyH.cons rfl (fun K hK => ?_) AllReadyH.nil)
                        · go_simp
                          refine (HWu.out _).mono ?_
                          rintro e u' ⟨rfl, hx, hL⟩
                          refine hK.out _ _ ?_ (fun hHeld2 => ?_)
                          · exact ⟨hx hHeld.1, more3 hHeld.2 hHeld.2.size hL⟩
                          clear hK K
                          try simp only [Act.put, List.getElem_toArray, List.getElem_cons_zero, List.getElem_cons_succ, List.setIfInBounds_toArray, List.set_cons_zero, List.set_cons_succ]
                          exact k3_7_11_12_14 b12 b14 u' ⟨hHeld2, Lib.hid ⟨hx F12.out.1, F12.out.2⟩, Lib.hid ⟨hx F14.out.1, F14.out.2⟩, N1214⟩
                        · go_simp
                          obtain ⟨b13, u', eb, ew, hF, hx, hL⟩ := grow_one u #[.slice none 0 0, .slice none 0 0, .slice none 0 0, .slice none 0 0, .slice none 0 0, .slice none 0 0, .slice none 0 0] 25
                          simp only [eb, ew]
                          have hge := Nat.le_of_eq eb
                          have M12 : b12 ≠ b13 := by have := F12.out.1.lt; omega
                          have M14 : b14 ≠ b13 := by have := F14.out.1.lt; omega
                          clear eb ew
                          refine hK.out _ _ ?_ (fun hHeld2 => ?_)
                          · exact ⟨hx hHeld.1, more3 hHeld.2 hHeld.2.size hL⟩
                          clear hK K
                          try simp only [Act.put, List.getElem_toArray, List.getElem_cons_zero, List.getElem_cons_succ, List.setIfInBounds_toArray, List.set_cons_zero, List.set_cons_succ]
                          exact k3_7_12_13_14 b12 b13 b14 u' ⟨hHeld2, Lib.hid ⟨hx F12.out.1, F12.out.2⟩, Lib.hid ⟨hF, Nat.le_trans hHeld.2.size hge⟩, Lib.hid ⟨hx F14.out.1, F14.out.2⟩, Lib.hid M12, N1214, Lib.hid (Ne.symm M14)⟩
                        )
                      ) (fun b13 b14 u hF => by
                      obtain ⟨hHeld, F13, F14, N1314⟩ := hF
                      refine wpAnyH_ready (rs := [11, 12]) (by kernel_rfl) (by simp) ?_
                      refine AllReadyH.cons rfl (fun K hK => ?_) (AllReadyH.cons rfl (fun K hK => ?_) AllReadyH.nil)
                      · go_simp
                        refine (HWu.out _).mono ?_
                        rintro e u' ⟨rfl, hx, hL⟩
                        refine hK.out _ _ ?_ (fun hHeld2 => ?_)
                        · exact ⟨hx hHeld.1, more3 hHeld.2 hHeld.2.size hL⟩
                        clear hK K
                        try simp only [Act.put, List.getElem_toArray, List.getElem_cons_zero, List.getElem_cons_succ, List.setIfInBounds_toArray, List.set_cons_zero, List.set_cons_succ]
                        exact k3_7_11_13_14 b13 b14 u' ⟨hHeld2, Lib.hid ⟨hx F13.out.1, F13.out.2⟩, Lib.hid ⟨hx F14.out.1, F14.out.2⟩, N1314⟩
                      · go_simp
                        obtain ⟨b12, u', eb, ew, hF, hx, hL⟩ := grow_one u #[.slice none 0 0, .slice none 0 0, .slice none 0 0, .slice none 0 0, .slice none 0 0, .slice none 0 0, .slice none 0 0] 25
                        simp only [eb, ew]
                        have hge := Nat.le_of_eq eb
                        have M13 : b13 ≠ b12 := by have := F13.out.1.lt; omega
                        have M14 : b14 ≠ b12 := by have := F14.out.1.lt; omega
                        clear eb ew
                        refine hK.out _ _ ?_ (fun hHeld2 => ?_)
                        · exact ⟨hx hHeld.1, more3 hHeld.2 hHeld.2.size hL⟩
                        clear hK K
                        try simp only [Act.put, List.getElem_toArray, List.getElem_cons_zero, List.getElem_cons_succ, List.setIfInBounds_toArray, List.set_cons_zero, List.set_cons_succ]
                        exact k3_7_12_13_14 b12 b13 b14 u' ⟨hHeld2, Lib.hid ⟨hF, Nat.le_trans hHeld.2.size hge⟩, Lib.hid ⟨hx F13.out.1, F13.out.2⟩, Lib.hid ⟨hx F14.out.1, F14.out.2⟩, Lib.hid (Ne.symm M13), Lib.hid (Ne.symm M14), N1314⟩
                      )
                    ) (fun b12 u hF => by
                    obtain ⟨hHeld, F12⟩ := hF
                    refine wpAnyH_ready (rs := [13, 14]) (by kernel_rfl) (by simp) ?_
                    refine AllReadyH.cons rfl (fun K hK => ?_) (AllReadyH.cons rfl (fun K hK => ?_) AllReadyH.nil)
                    · go_simp
                      obtain ⟨b13, u', eb, ew, hF, hx, hL⟩ := grow_one u #[.slice none 0 0, .slice none 0 0, .slice none 0 0, .slice none 0 0, .slice none 0 0, .slice none 0 0, .slice none 0 0] 25
                      simp only [eb, ew]
                      have hge := Nat.le_of_eq eb
                      have M12 : b12 ≠ b13 := by have := F12.out.1.lt; omega
                      clear eb ew
                      refine hK.out _ _ ?_ (fun hHeld2 => ?_)
                      · exact ⟨hx hHeld.1, more3 hHeld.2 hHeld.2.size hL⟩
                      clear hK K
                      try simp only [Act.put, List.getElem_toArray, List.getElem_cons_zero, List.getElem_cons_succ, List.setIfInBounds_toArray, List.set_cons_zero, List.set_cons_succ]
                      exact k3_7_11_12_13 b12 b13 u' ⟨hHeld2, Lib.hid ⟨hx F12.out.1, F12.out.2⟩, Lib.hid ⟨hF, Nat.le_trans hHeld.2.size hge⟩, Lib.hid M12⟩
                    · go_simp
                      obtain ⟨b14, u', eb, ew, hF, hx, hL⟩ := grow_one u #[.slice none 0 0, .slice none 0 0, .slice none 0 0, .slice none 0 0, .slice none 0 0, .slice none 0 0, .slice none 0 0] 25
                      simp only [eb, ew]
                      have hge := Nat.le_of_eq eb
                      have M12 : b12 ≠ b14 := by have := F12.out.1.lt; omega
                      clear eb ew
                      refine hK.out _ _ ?_ (fun hHeld2 => ?_)
                      · exact ⟨hx hHeld.1, more3 hHeld.2 hHeld.2.size hL⟩
                      clear hK K
                      try simp only [Act.put, List.getElem_toArray, List.getElem_cons_zero, List.getElem_cons_succ, List.setIfInBounds_toArray, List.set_cons_zero, List.set_cons_succ]
                      exact k3_7_11_12_14 b12 b14 u' ⟨hHeld2, Lib.hid ⟨hx F12.out.1, F12.out.2⟩, Lib.hid ⟨hF, Nat.le_trans hHeld.2.size hge⟩, Lib.hid M12⟩
                    )
                  ) (fun b13 u hF => by
                  obtain ⟨hHeld, F13⟩ := hF
                  refine wpAnyH_ready (rs := [12, 14]) (by kernel_rfl) (by simp) ?_
                  refine AllReadyH.cons rfl (fun K hK => ?_) (AllReadyH.cons rfl (fun K hK => ?_) AllReadyH.nil)
                  · go_simp
                    obtain ⟨b12, u', eb, ew, hF, hx, hL⟩ := grow_one u #[.slice none 0 0, .slice none 0 0, .slice none 0 0, .slice none 0 0, .slice none 0 0, .slice none 0 0, .slice none 0 0] 25
                    simp only [eb, ew]
                    have hge := Nat.le_of_eq eb
                    have M13 : b13 ≠ b12 := by have := F13.out.1.lt; omega
                    clear eb ew
                    refine hK.out _ _ ?_ (fun hHeld2 => ?_)
                    · exact ⟨hx hHeld.1, more3 hHeld.2 hHeld.2.size hL⟩
                    clear hK K
                    try simp only [Act.put, List.getElem_toArray, List.getElem_cons_zero, List.getElem_cons_succ, List.setIfInBounds_toArray, List.set_cons_zero, List.set_cons_succ]
                    exact k3_7_11_12_13 b12 b13 u' ⟨hHeld2, Lib.hid ⟨hF, Nat.le_trans hHeld.2.size hge⟩, Lib.hid ⟨hx F13.out.1, F13.out.2⟩, Lib.hid (Ne.symm M13)⟩
                  · go_simp
                    obtain ⟨b14, u', eb, ew, hF, hx, hL⟩ := grow_one u #[.slice none 0 0, .slice none 0 0, .slice none 0 0, .slice none 0 0, .slice none 0 0, .slice none 0 0, .slice none 0 0] 25
                    simp only [eb, ew]
                    have hge := Nat.le_of_eq eb
                    have M13 : b13 ≠ b14 := by have := F13.out.1.lt; omega
                    clear eb ew
                    refine hK.out _ _ ?_ (fun hHeld2 => ?_)
                    · exact ⟨hx hHeld.1, more3 hHeld.2 hHeld.2.size hL⟩
                    clear hK K
                    try simp only [Act.put, List.getElem_toArray, List.getElem_cons_zero, List.getElem_cons_succ, List.setIfInBounds_toArray, List.set_cons_zero, List.set_cons_succ]
                    exact k3_7_11_13_14 b13 b14 u' ⟨hHeld2, Lib.hid ⟨hx F13.out.1, F13.out.2⟩, Lib.hid ⟨hF, Nat.le_trans hHeld.2.size hge⟩, Lib.hid M13⟩
                  )
                ) (fun b14 u hF => by
                obtain ⟨hHeld, F14⟩ := hF
                refine wpAnyH_ready (rs := [12, 13]) (by kernel_rfl) (by simp) ?_
                refine AllReadyH.cons rfl (fun K hK => ?_) (AllReadyH.cons rfl (fun K hK => ?_) AllReadyH.nil)
                · go_simp
                  obtain ⟨b12, u', eb, ew, hF, hx, hL⟩ := grow_one u #[.slice none 0 0, .slice none 0 0, .slice none 0 0, .slice none 0 0, .slice none 0 0, .slice none 0 0, .slice none 0 0] 25
                  simp only [eb, ew]
                  have hge := Nat.le_of_eq eb
                  have M14 : b14 ≠ b12 := by have := F14.out.1.lt; omega
                  clear eb ew
                  refine hK.out _ _ ?_ (fun hHeld2 => ?_)
                  · exact ⟨hx hHeld.1, more3 hHeld.2 hHeld.2.size hL⟩
                  clear hK K
                  try simp only [Act.put, List.getElem_toArray, List.getElem_cons_zero, List.getElem_cons_succ, List.setIfInBounds_toArray, List.set_cons_zero, List.set_cons_succ]
                  exact k3_7_11_12_14 b12 b14 u' ⟨hHeld2, Lib.hid ⟨hF, Nat.le_trans hHeld.2.size hge⟩, Lib.hid ⟨hx F14.out.1, F14.out.2⟩, Lib.hid (Ne.symm M14)⟩
                · go_simp
                  obtain ⟨b13, u', eb, ew, hF, hx, hL⟩ := grow_one u #[.slice none 0 0, .slice none 0 0, .slice none 0 0, .slice none 0 0, .slice none 0 0, .slice none 0 0, .slice none 0 0] 25
                  simp only [eb, ew]
                  have hge := Nat.le_of_eq eb
                  have M14 : b14 ≠ b13 := by have := F14.out.1.lt; omega
                  clear eb ew
                  refine hK.out _ _ ?_ (fun hHeld2 => ?_)
                  · exact ⟨hx hHeld.1, more3 hHeld.2 hHeld.2.size hL⟩
                  clear hK K
                  try simp only [Act.put, List.getElem_toArray, List.getElem_cons_zero, List.getElem_cons_succ, List.setIfInBounds_toArray, List.set_cons_zero, List.set_cons_succ]
                  exact k3_7_11_13_14 b13 b14 u' ⟨hHeld2, Lib.hid ⟨hF, Nat.le_trans hHeld.2.size hge⟩, Lib.hid ⟨hx F14.out.1, F14.out.2⟩, Lib.hid (Ne.symm M14)⟩
                )
              ) (fun b12 b13 b14 u hF => by
              obtain ⟨hHeld, F12, F13, F14, N1213, N1214, N1314⟩ := hF
              refine wpAnyH_ready (rs := [11]) (by kernel_rfl) (by simp) ?_
              refine AllReadyH.cons rfl (fun K hK => ?_) AllReadyH.nil
              · go_simp
                refine (HWu.out _).mono ?_
                rintro e u' ⟨rfl, hx, hL⟩
                refine hK.out _ _ ?_ (fun hHeld2 => ?_)
                · exact ⟨hx hHeld.1, more3 hHeld.2 hHeld.2.size hL⟩
                clear hK K
                try simp only [Act.put, List.getElem_toArray, List.getElem_cons_zero, List.getElem_cons_succ, List.setIfInBounds_toArray, List.set_cons_zero, List.set_cons_succ]
                exact k3_7_11_12_13_14 b12 b13 b14 u' ⟨hHeld2, Lib.hid ⟨hx F12.out.1, F12.out.2⟩, Lib.hid ⟨hx F13.out.1, F13.out.2⟩, Lib.hid ⟨hx F14.out.1, F14.out.2⟩, N1213, N1214, N1314⟩
              )
            ) (fun b12 b13 u hF => by
            obtain ⟨hHeld, F12, F13, N1213⟩ := hF
            refine wpAnyH_ready (rs := [14]) (by kernel_rfl) (by simp) ?_
            refine AllReadyH.cons rfl (fun K hK => ?_) AllReadyH.nil
            · go_simp
              obtain ⟨b14, u', eb, ew, hF, hx, hL⟩ := grow_one u #[.slice none 0 0, .slice none 0 0, .slice none 0 0, .slice none 0 0, .slice none 0 0, .slice none 0 0, .slice none 0 0] 25
              simp only [eb, ew]
              have hge := Nat.le_of_eq eb
              have M12 : b12 ≠ b14 := by have := F12.out.1.lt; omega
              have M13 : b13 ≠ b14 := by have := F13.out.1.lt; omega
              clear eb ew
              refine hK.out _ _ ?_ (fun hHeld2 => ?_)
              · exact ⟨hx hHeld.1, more3 hHeld.2 hHeld.2.size hL⟩
              clear hK K
              try simp only [Act.put, List.getElem_toArray, List.getElem_cons_zero, List.getElem_cons_succ, List.setIfInBounds_toArray, List.set_cons_zero, List.set_cons_succ]
              exact k3_7_11_12_13_14 b12 b13 b14 u' ⟨hHeld2, Lib.hid ⟨hx F12.out.1, F12.out.2⟩, Lib.hid ⟨hx F13.out.1, F13.out.2⟩, Lib.hid ⟨hF, Nat.le_trans hHeld.2.size hge⟩, N1213, Lib.hid M12, Lib.hid M13⟩
            )
          ) (fun b12 b14 u hF => by
          obtain ⟨hHeld, F12, F14, N1214⟩ := hF
          refine wpAnyH_ready (rs := [13]) (by kernel_rfl) (by simp) ?_
          refine AllReadyH.cons rfl (fun K hK => ?_) AllReadyH.nil
          · go_simp
            obtain ⟨b13, u', eb, ew, hF, hx, hL⟩ := grow_one u #[.slice none 0 0, .slice none 0 0, .slice none 0 0, .slice none 0 0, .slice none 0 0, .slice none 0 0, .slice none 0 0] 25
            simp only [eb, ew]
            have hge := Nat.le_of_eq eb
            have M12 : b12 ≠ b13 := by have := F12.out.1.lt; omega
            have M14 : b14 ≠ b13 := by have := F14.out.1.lt; omega
            clear eb ew
            refine hK.out _ _ ?_ (fun hHeld2 => ?_)
            · exact ⟨hx hHeld.1, more3 hHeld.2 hHeld.2.size hL⟩
            clear hK K
            try simp only [Act.put, List.getElem_toArray, List.getElem_cons_zero, List.getElem_cons_succ, List.setIfInBounds_toArray, List.set_cons_zero, List.set_cons_succ]
            exact k3_7_11_12_13_14 b12 b13 b14 u' ⟨hHeld2, Lib.hid ⟨hx F12.out.1, F12.out.2⟩, Lib.hid ⟨hF, Nat.le_trans hHeld.2.size hge⟩, Lib.hid ⟨hx F14.out.1, F14.out.2⟩, Lib.hid M12, N1214, Lib.hid (Ne.symm M14)⟩
          )
        ) (fun b13 b14 u hF => by
        obtain ⟨hHeld, F13, F14, N1314⟩ := hF
        refine wpAnyH_ready (rs := [12]) (by kernel_rfl) (by simp) ?_
        refine AllReadyH.cons rfl (fun K hK => ?_) AllReadyH.nil
        · go_simp
          obtain ⟨b12, u', eb, ew, hF, hx, hL⟩ := grow_one u #[.slice none 0 0, .slice none 0 0, .slice none 0 0, .slice none 0 0, .slice none 0 0, .slice none 0 0, .slice none 0 0] 25
          simp only [eb, ew]
          have hge := Nat.le_of_eq eb
          have M13 : b13 ≠ b12 := by have := F13.out.1.lt; omega
          have M14 : b14 ≠ b12 := by have := F14.out.1.lt; omega
          clear eb ew
          refine hK.out _ _ ?_ (fun hHeld2 => ?_)
          · exact ⟨hx hHeld.1, more3 hHeld.2 hHeld.2.size hL⟩
          clear hK K
          try simp only [Act.put, List.getElem_toArray, List.getElem_cons_zero, List.getElem_cons_succ, List.setIfInBounds_toArray, List.set_cons_zero, List.set_cons_succ]
          exact k3_7_11_12_13_14 b12 b13 b14 u' ⟨hHeld2, Lib.hid ⟨hF, Nat.le_trans hHeld.2.size hge⟩, Lib.hid ⟨hx F13.out.1, F13.out.2⟩, Lib.hid ⟨hx F14.out.1, F14.out.2⟩, Lib.hid (Ne.symm M13), Lib.hid (Ne.symm M14), N1314⟩
        )
      ) (fun b12 b13 b14 u hF => by
      obtain ⟨hHeld, F12, F13, F14, N1213, N1214, N1314⟩ := hF
      have g12 : w.heap.size ≠ b12 := by have := F12.out.2; omega
      have g13 : w.heap.size ≠ b13 := by have := F13.out.2; omega
      have g14 : w.heap.size ≠ b14 := by have := F14.out.2; omega
      refine wpAnyH_ready (rs := [15]) (by kernel_rfl) (by simp) ?_
      refine AllReadyH.cons rfl (fun K hK => ?_) AllReadyH.nil
      rw [if_pos (by rfl)]
      refine wp_store_row 25 (.tmp 12) (.tmp 46) (by rfl) b12 ca.cells (by rfl) (by rfl) 25 #[.slice none 0 0, .slice none 0 0, .slice none 0 0, .slice none 0 0, .slice none 0 0, .slice none 0 0, .slice none 0 0] F12.out.1 (by kernel_rfl) rfl (ch_all _) ?_
      have hS12 : Blk (u.setRow b12 ca.cells) w.heap.size 25 c.cells ∧ Below ub.heap.size ub (u.setRow b12 ca.cells) := ⟨(heap_row_other _ _ _ _ g12).trans hHeld.1, below_setRow hHeld.2 F12.out.2 _⟩
      refine hK.out _ _ hS12 (fun hHeld2 => ?_)
      clear hK K hHeld
      have hHeld := hHeld2
      clear hHeld2
      replace F12 := Lib.hid (show Blk (u.setRow b12 ca.cells) b12 25 ca.cells ∧ ub.heap.size ≤ b12 from ⟨Blk.row F12.out.1 _, F12.out.2⟩)
      replace F13 := Lib.hid (show Blk (u.setRow b12 ca.cells) b13 25 #[.slice none 0 0, .slice none 0 0, .slice none 0 0, .slice none 0 0, .slice none 0 0, .slice none 0 0, .slice none 0 0] ∧ ub.heap.size ≤ b13 from ⟨(heap_row_other _ _ _ _ (Ne.symm N1213.out)).trans F13.out.1, F13.out.2⟩)
      replace F14 := Lib.hid (show Blk (u.setRow b12 ca.cells) b14 25 #[.slice none 0 0, .slice none 0 0, .slice none 0 0, .slice none 0 0, .slice none 0 0, .slice none 0 0, .slice none 0 0] ∧ ub.heap.size ≤ b14 from ⟨(heap_row_other _ _ _ _ (Ne.symm N1214.out)).trans F14.out.1, F14.out.2⟩)
      refine wpAnyH_ready (rs := [16]) (by kernel_rfl) (by simp) ?_
      refine AllReadyH.cons rfl (fun K hK => ?_) AllReadyH.nil
      rw [if_pos (by rfl)]
      refine wp_store_row 25 (.tmp 13) (.tmp 50) (by rfl) b13 cb.cells (by rfl) (by rfl) 25 #[.slice none 0 0, .slice none 0 0, .slice none 0 0, .slice none 0 0, .slice none 0 0, .slice none 0 0, .slice none 0 0] F13.out.1 (by kernel_rfl) rfl (ch_all _) ?_
      have hS13 : Blk ((u.setRow b12 ca.cells).setRow b13 cb.cells) w.heap.size 25 c.cells ∧ Below ub.heap.size ub ((u.setRow b12 ca.cells).setRow b13 cb.cells) := ⟨(heap_row_other _ _ _ _ g13).trans hHeld.1, below_setRow hHeld.2 F13.out.2 _⟩
      refine hK.out _ _ hS13 (fun hHeld2 => ?_)
      clear hK K hHeld
      have hHeld := hHeld2
      clear hHeld2
      replace F12 := Lib.hid (show Blk ((u.setRow b12 ca.cells).setRow b13 cb.cells) b12 25 ca.cells ∧ ub.heap.size ≤ b12 from ⟨(heap_row_other _ _ _ _ N1213.out).trans F12.out.1, F12.out.2⟩)
      replace F13 := Lib.hid (show Blk ((u.setRow b12 ca.cells).setRow b13 cb.cells) b13 25 cb.cells ∧ ub.heap.size ≤ b13 from ⟨Blk.row F13.out.1 _, F13.out.2⟩)
      replace F14 := Lib.hid (show Blk ((u.setRow b12 ca.cells).setRow b13 cb.cells) b14 25 #[.slice none 0 0, .slice none 0 0, .slice none 0 0, .slice none 0 0, .slice none 0 0, .slice none 0 0, .slice none 0 0] ∧ ub.heap.size ≤ b14 from ⟨(heap_row_other _ _ _ _ (Ne.symm N1314.out)).trans F14.out.1, F14.out.2⟩)
      refine wpAnyH_ready (rs := [17]) (by kernel_rfl) (by simp) ?_
      refine AllReadyH.cons rfl (fun K hK => ?_) AllReadyH.nil
      rw [if_pos (by rfl)]
      refine wp_store_row 25 (.tmp 14) (.tmp 54) (by rfl) b14 cu.cells (by rfl) (by rfl) 25 #[.slice none 0 0, .slice none 0 0, .slice none 0 0, .slice none 0 0, .slice none 0 0, .slice none 0 0, .slice none 0 0] F14.out.1 (by kernel_rfl) rfl (ch_all _) ?_
      have hS14 : Blk (((u.setRow b12 ca.cells).setRow b13 cb.cells).setRow b14 cu.cells) w.heap.size 25 c.cells ∧ Below ub.heap.size ub (((u.setRow b12 ca.cells).setRow b13 cb.cells).setRow b14 cu.cells) := ⟨(heap_row_other _ _ _ _ g14).trans hHeld.1, below_setRow hHeld.2 F14.out.2 _⟩
      refine hK.out _ _ hS14 (fun hHeld2 => ?_)
      clear hK K hHeld
      have hHeld := hHeld2
      clear hHeld2
      replace F12 := Lib.hid (show Blk (((u.setRow b12 ca.cells).setRow b13 cb.cells).setRow b14 cu.cells) b12 25 ca.cells ∧ ub.heap.size ≤ b12 from ⟨(heap_row_other _ _ _ _ N1214.out).trans F12.out.1, F12.out.2⟩)
      replace F13 := Lib.hid (show Blk (((u.setRow b12 ca.cells).setRow b13 cb.cells).setRow b14 cu.cells) b13 25 cb.cells ∧ ub.heap.size ≤ b13 from ⟨(heap_row_other _ _ _ _ N1314.out).trans F13.out.1, F13.out.2⟩)
      replace F14 := Lib.hid (show Blk (((u.setRow b12 ca.cells).setRow b13 cb.cells).setRow b14 cu.cells) b14 25 cu.cells ∧ ub.heap.size ≤ b14 from ⟨Blk.row F14.out.1 _, F14.out.2⟩)
      have HH := Lib.hid hHeld
      clear hHeld g12 g13 g14 hS12 hS13 hS14
      refine wpAnyH_done (by kernel_rfl) ?_ _
      go_wp2_with fail
      go_meet
      exact ⟨b12, b13, b14, rfl, rfl, rfl, Lib.hid F12.out.1, Lib.hid F13.out.1, Lib.hid F14.out.1, Lib.hid HH.out.1, Lib.hid HH.out.2⟩
      )
  case rest =>
    obtain ⟨b12, b13, b14, rfl, rfl, rfl, F12_0, F13_0, F14_0, FX, HBc⟩ := hcut
    have B0 : Hid (Below w.heap.size w wc) := more3 HBu.out HBu.out.size HBc.out
    have T0 : Hid (TabM wc) := HT.out.below B0.out
    have HPc : Hid (PtsAt wc wc.heap.size pA pn ps) := (HP.out.below B0.out).wide B0.out.size
    have HQc : Hid (PtsAt wc wc.heap.size qA qn qs) := (HQ.out.below B0.out).wide B0.out.size
    have HUc : Hid (PtsAt wc wc.heap.size A2 nu ([] ++ ps ++ qs)) := (HU.out.below HBc.out).wide HBc.out.size
    have HCc : Hid (CalAt wc wc.heap.size c l) := HC.out.at_ B0.out
    obtain ⟨la, hla⟩ : ∃ x, l.put (fldW field) ps = x := ⟨_, rfl⟩
    obtain ⟨lb, hlb⟩ : ∃ x, l.put (fldW field) qs = x := ⟨_, rfl⟩
    obtain ⟨lu, hlu⟩ : ∃ x, l.put (fldW field) (ps ++ qs) = x := ⟨_, rfl⟩
    have Ca0 : Hid (CalAt wc wc.heap.size ca la) := by show CalAt _ _ _ _; rw [← Hca.out, ← hla]; exact CalAt.put (s := ⟨pA, pn, pc⟩) HCc.out HPc.out _
    have Cb0 : Hid (CalAt wc wc.heap.size cb lb) := by show CalAt _ _ _ _; rw [← Hcb.out, ← hlb]; exact CalAt.put (s := ⟨qA, qn, qc⟩) HCc.out HQc.out _
    have Cu0 : Hid (CalAt wc wc.heap.size cu lu) := by show CalAt _ _ _ _; rw [← Hcu.out, ← hlu]; exact CalAt.put (s := ⟨A2, nu, c2⟩) HCc.out HUc.out _
    have hlen : 1 ≤ ps.length ∧ 1 ≤ qs.length ∧ ps.length + qs.length ≤ 4 := by have := HP.out.1; have := HQ.out.1; have := HL.out; omega
    have HMU : Hid (mayC lu = (mayC la && mayC lb)) := by show _ = _; rw [← hla, ← hlb, ← hlu]; exact union_may l _ hlen.1 hlen.2.1 hlen.2.2
    have HNX : Hid (mayC lu = true → nextOk lu after = (nextOk la after || nextOk lb after) ∧ (nextOk la after = true → nextOk lb after = true → nextN lu after = min (nextN la after) (nextN lb after)) ∧ (nextOk la after = true → nextOk lb after = false → nextN lu after = nextN la after) ∧ (nextOk la after = false → nextOk lb after = true → nextN lu after = nextN lb after)) := by
      intro hm
      refine union_next (fun t => ?_) after
      rw [← hla, ← hlb, ← hlu]
      exact union_match l _ hlen.1 hlen.2.1 hlen.2.2 (by rw [hlu]; exact hm) t
    clear hla hlb hlu hlen HT HC HP HQ HU HL HPc HQc HUc HCc HBc HBu Hca Hcb Hcu HWa HWb HWu HXX HG2 HB1 HX1 FX hwl hwl2 l1 l2 l3 j1 j2 j3
    have MA := Lib.hid (fun W h1 h2 => May_any ca la W h1 h2)
    have MB := Lib.hid (fun W h1 h2 => May_any cb lb W h1 h2)
    have MU := Lib.hid (fun W h1 h2 => May_any cu lu W h1 h2)
    have NA := Lib.hid (fun W h1 h2 => Next_any ca la after W h1 h2)
    have NB := Lib.hid (fun W h1 h2 => Next_any cb lb after W h1 h2)
    have NU := Lib.hid (fun W h1 h2 => Next_any cu lu after W h1 h2)
    rw [HMU.out] at MU HNX
    obtain ⟨ma, hma⟩ : ∃ b, mayC la = b := ⟨_, rfl⟩
    obtain ⟨mb, hmb⟩ : ∃ b, mayC lb = b := ⟨_, rfl⟩
    rw [hma] at MA
    rw [hmb] at MB
    rw [hma, hmb] at MU HNX
    clear hma hmb HMU
    cases ma with
    | false =>
      simp only [Bool.false_and] at MU
      clear HNX NA NB NU MB
      go_wp2_with (first | (refine wpList_load_row rfl 25 (.tmp 14) (by rfl) b14 (by rfl) 25 cu.cells (0, 0) _ F14_0.out Tryz.underlying25 rfl (by kernel_rfl) ?_) | (refine wpList_wantN (by rfl) ?_; refine wp_load_row 25 (.tmp 14) (by rfl) b14 (by rfl) 25 cu.cells (0, 0) _ F14_0.out Tryz.underlying25 rfl (by kernel_rfl) ?_))
      refine (MU.out _ T0.out.t Cu0.out).mono ?_
      rintro e w1 ⟨rfl, hq⟩
      have F12_1 := Lib.hid (F12_0.out.below hq F12_0.out.lt)
      have F13_1 := Lib.hid (F13_0.out.below hq F13_0.out.lt)
      have F14_1 := Lib.hid (F14_0.out.below hq F14_0.out.lt)
      have Ca1 := Lib.hid (Ca0.out.at_ hq)
      have Cb1 := Lib.hid (Cb0.out.at_ hq)
      have Cu1 := Lib.hid (Cu0.out.at_ hq)
      have T1 := Lib.hid (T0.out.below hq)
      have B1 := Lib.hid (more3 B0.out B0.out.size hq)
      clear hq T0 B0 F12_0 F13_0 F14_0 Ca0 Cb0 Cu0
      go_wp2_with (first | (refine wpList_load_row rfl 25 (.tmp 12) (by rfl) b12 (by rfl) 25 ca.cells (0, 0) _ F12_1.out Tryz.underlying25 rfl (by kernel_rfl) ?_) | (refine wpList_wantN (by rfl) ?_; refine wp_load_row 25 (.tmp 12) (by rfl) b12 (by rfl) 25 ca.cells (0, 0) _ F12_1.out Tryz.underlying25 rfl (by kernel_rfl) ?_))
      refine (MA.out _ T1.out.t Ca1.out).mono ?_
      rintro e w2 ⟨rfl, hq⟩
      have F12_2 := Lib.hid (F12_1.out.below hq F12_1.out.lt)
      have F13_2 := Lib.hid (F13_1.out.below hq F13_1.out.lt)
      have F14_2 := Lib.hid (F14_1.out.below hq F14_1.out.lt)
      have Ca2 := Lib.hid (Ca1.out.at_ hq)
      have Cb2 := Lib.hid (Cb1.out.at_ hq)
      have Cu2 := Lib.hid (Cu1.out.at_ hq)
      have T2 := Lib.hid (T1.out.below hq)
      have B2 := Lib.hid (more3 B1.out B1.out.size hq)
      clear hq T1 B1 F12_1 F13_1 F14_1 Ca1 Cb1 Cu1
      go_wp2_with fail
      go_ret
      exact ⟨rfl, B2.out⟩
    | true =>
      cases mb with
      | false =>
        simp only [Bool.and_false] at MU
        clear HNX NA NB NU
        go_wp2_with (first | (refine wpList_load_row rfl 25 (.tmp 14) (by rfl) b14 (by rfl) 25 cu.cells (0, 0) _ F14_0.out Tryz.underlying25 rfl (by kernel_rfl) ?_) | (refine wpList_wantN (by rfl) ?_; refine wp_load_row 25 (.tmp 14) (by rfl) b14 (by rfl) 25 cu.cells (0, 0) _ F14_0.out Tryz.underlying25 rfl (by kernel_rfl) ?_))
        refine (MU.out _ T0.out.t Cu0.out).mono ?_
        rintro e w1 ⟨rfl, hq⟩
        have F12_1 := Lib.hid (F12_0.out.below hq F12_0.out.lt)
        have F13_1 := Lib.hid (F13_0.out.below hq F13_0.out.lt)
        have F14_1 := Lib.hid (F14_0.out.below hq F14_0.out.lt)
        have Ca1 := Lib.hid (Ca0.out.at_ hq)
        have Cb1 := Lib.hid (Cb0.out.at_ hq)
        have Cu1 := Lib.hid (Cu0.out.at_ hq)
        have T1 := Lib.hid (T0.out.below hq)
        have B1 := Lib.hid (more3 B0.out B0.out.size hq)
        clear hq T0 B0 F12_0 F13_0 F14_0 Ca0 Cb0 Cu0
        go_wp2_with (first | (refine wpList_load_row rfl 25 (.tmp 12) (by rfl) b12 (by rfl) 25 ca.cells (0, 0) _ F12_1.out Tryz.underlying25 rfl (by kernel_rfl) ?_) | (refine wpList_wantN (by rfl) ?_; refine wp_load_row 25 (.tmp 12) (by rfl) b12 (by rfl) 25 ca.cells (0, 0) _ F12_1.out Tryz.underlying25 rfl (by kernel_rfl) ?_))
        refine (MA.out _ T1.out.t Ca1.out).mono ?_
        rintro e w2 ⟨rfl, hq⟩
        have F12_2 := Lib.hid (F12_1.out.below hq F12_1.out.lt)
        have F13_2 := Lib.hid (F13_1.out.below hq F13_1.out.lt)
        have F14_2 := Lib.hid (F14_1.out.below hq F14_1.out.lt)
        have Ca2 := Lib.hid (Ca1.out.at_ hq)
        have Cb2 := Lib.hid (Cb1.out.at_ hq)
        have Cu2 := Lib.hid (Cu1.out.at_ hq)
        have T2 := Lib.hid (T1.out.below hq)
        have B2 := Lib.hid (more3 B1.out B1.out.size hq)
        clear hq T1 B1 F12_1 F13_1 F14_1 Ca1 Cb1 Cu1
        go_wp2_with (first | (refine wpList_load_row rfl 25 (.tmp 13) (by rfl) b13 (by rfl) 25 cb.cells (0, 0) _ F13_2.out Tryz.underlying25 rfl (by kernel_rfl) ?_) | (refine wpList_wantN (by rfl) ?_; refine wp_load_row 25 (.tmp 13) (by rfl) b13 (by rfl) 25 cb.cells (0, 0) _ F13_2.out Tryz.underlying25 rfl (by kernel_rfl) ?_))
        refine (MB.out _ T2.out.t Cb2.out).mono ?_
        rintro e w3 ⟨rfl, hq⟩
        have F12_3 := Lib.hid (F12_2.out.below hq F12_2.out.lt)
        have F13_3 := Lib.hid (F13_2.out.below hq F13_2.out.lt)
        have F14_3 := Lib.hid (F14_2.out.below hq F14_2.out.lt)
        have Ca3 := Lib.hid (Ca2.out.at_ hq)
        have Cb3 := Lib.hid (Cb2.out.at_ hq)
        have Cu3 := Lib.hid (Cu2.out.at_ hq)
        have T3 := Lib.hid (T2.out.below hq)
        have B3 := Lib.hid (more3 B2.out B2.out.size hq)
        clear hq T2 B2 F12_2 F13_2 F14_2 Ca2 Cb2 Cu2
        go_wp2_with fail
        go_ret
        exact ⟨rfl, B3.out⟩
      | true =>
        have hnx := HNX.out rfl
        simp only [Bool.and_self] at MU
        clear HNX MA MB
        obtain ⟨oa, hoa⟩ : ∃ b, nextOk la after = b := ⟨_, rfl⟩
        obtain ⟨ob, hob⟩ : ∃ b, nextOk lb after = b := ⟨_, rfl⟩
        obtain ⟨x, hx⟩ : ∃ b, nextN la after = b := ⟨_, rfl⟩
        obtain ⟨y, hy⟩ : ∃ b, nextN lb after = b := ⟨_, rfl⟩
        rw [hoa, hob, hx, hy] at hnx
        rw [hoa, hx] at NA
        rw [hob, hy] at NB
        obtain ⟨n1, n2, n3, n4⟩ := hnx
        rw [n1] at NU
        clear hoa hob hx hy n1
        cases oa with
        | false =>
          cases ob with
          | false =>
            simp only [Bool.or_self] at NU
            generalize nextN lu after = z at NU
            clear n2 n3 n4
            go_wp2_with (first | (refine wpList_load_row rfl 25 (.tmp 14) (by rfl) b14 (by rfl) 25 cu.cells (0, 0) _ F14_0.out Tryz.underlying25 rfl (by kernel_rfl) ?_) | (refine wpList_wantN (by rfl) ?_; refine wp_load_row 25 (.tmp 14) (by rfl) b14 (by rfl) 25 cu.cells (0, 0) _ F14_0.out Tryz.underlying25 rfl (by kernel_rfl) ?_))
            refine (MU.out _ T0.out.t Cu0.out).mono ?_
            rintro e w1 ⟨rfl, hq⟩
            have F12_1 := Lib.hid (F12_0.out.below hq F12_0.out.lt)
            have F13_1 := Lib.hid (F13_0.out.below hq F13_0.out.lt)
            have F14_1 := Lib.hid (F14_0.out.below hq F14_0.out.lt)
            have Ca1 := Lib.hid (Ca0.out.at_ hq)
            have Cb1 := Lib.hid (Cb0.out.at_ hq)
            have Cu1 := Lib.hid (Cu0.out.at_ hq)
            have T1 := Lib.hid (T0.out.below hq)
            have B1 := Lib.hid (more3 B0.out B0.out.size hq)
            clear hq T0 B0 F12_0 F13_0 F14_0 Ca0 Cb0 Cu0
            go_wp2_with (first | (refine wpList_load_row rfl 25 (.tmp 12) (by rfl) b12 (by rfl) 25 ca.cells (0, 0) _ F12_1.out Tryz.underlying25 rfl (by kernel_rfl) ?_) | (refine wpList_wantN (by rfl) ?_; refine wp_load_row 25 (.tmp 12) (by rfl) b12 (by rfl) 25 ca.cells (0, 0) _ F12_1.out Tryz.underlying25 rfl (by kernel_rfl) ?_))
            refine (NA.out _ T1.out.t Ca1.out).mono ?_
            rintro e w2 ⟨rfl, hq⟩
            have F12_2 := Lib.hid (F12_1.out.below hq F12_1.out.lt)
            have F13_2 := Lib.hid (F13_1.out.below hq F13_1.out.lt)
            have F14_2 := Lib.hid (F14_1.out.below hq F14_1.out.lt)
            have Ca2 := Lib.hid (Ca1.out.at_ hq)
            have Cb2 := Lib.hid (Cb1.out.at_ hq)
            have Cu2 := Lib.hid (Cu1.out.at_ hq)
            have T2 := Lib.hid (T1.out.below hq)
            have B2 := Lib.hid (more3 B1.out B1.out.size hq)
            clear hq T1 B1 F12_1 F13_1 F14_1 Ca1 Cb1 Cu1
            go_wp2_with (first | (refine wpList_load_row rfl 25 (.tmp 13) (by rfl) b13 (by rfl) 25 cb.cells (0, 0) _ F13_2.out Tryz.underlying25 rfl (by kernel_rfl) ?_) | (refine wpList_wantN (by rfl) ?_; refine wp_load_row 25 (.tmp 13) (by rfl) b13 (by rfl) 25 cb.cells (0, 0) _ F13_2.out Tryz.underlying25 rfl (by kernel_rfl) ?_))
            refine (NB.out _ T2.out.t Cb2.out).mono ?_
            rintro e w3 ⟨rfl, hq⟩
            have F12_3 := Lib.hid (F12_2.out.below hq F12_2.out.lt)
            have F13_3 := Lib.hid (F13_2.out.below hq F13_2.out.lt)
            have F14_3 := Lib.hid (F14_2.out.below hq F14_2.out.lt)
            have Ca3 := Lib.hid (Ca2.out.at_ hq)
            have Cb3 := Lib.hid (Cb2.out.at_ hq)
            have Cu3 := Lib.hid (Cu2.out.at_ hq)
            have T3 := Lib.hid (T2.out.below hq)
            have B3 := Lib.hid (more3 B2.out B2.out.size hq)
            clear hq T2 B2 F12_2 F13_2 F14_2 Ca2 Cb2 Cu2
            go_wp2_with (first | (refine wpList_load_row rfl 25 (.tmp 14) (by rfl) b14 (by rfl) 25 cu.cells (0, 0) _ F14_3.out Tryz.underlying25 rfl (by kernel_rfl) ?_) | (refine wpList_wantN (by rfl) ?_; refine wp_load_row 25 (.tmp 14) (by rfl) b14 (by rfl) 25 cu.cells (0, 0) _ F14_3.out Tryz.underlying25 rfl (by kernel_rfl) ?_))
            refine (NU.out _ T3.out.t Cu3.out).mono ?_
            rintro e w4 ⟨rfl, hq⟩
            have F12_4 := Lib.hid (F12_3.out.below hq F12_3.out.lt)
            have F13_4 := Lib.hid (F13_3.out.below hq F13_3.out.lt)
            have F14_4 := Lib.hid (F14_3.out.below hq F14_3.out.lt)
            have Ca4 := Lib.hid (Ca3.out.at_ hq)
            have Cb4 := Lib.hid (Cb3.out.at_ hq)
            have Cu4 := Lib.hid (Cu3.out.at_ hq)
            have T4 := Lib.hid (T3.out.below hq)
            have B4 := Lib.hid (more3 B3.out B3.out.size hq)
            clear hq T3 B3 F12_3 F13_3 F14_3 Ca3 Cb3 Cu3
            go_wp2_with fail
            go_ret
            exact ⟨rfl, B4.out⟩
          | true =>
            simp only [Bool.false_or] at NU
            rw [n4 rfl rfl] at NU
            clear n2 n3 n4
            go_wp2_with (first | (refine wpList_load_row rfl 25 (.tmp 14) (by rfl) b14 (by rfl) 25 cu.cells (0, 0) _ F14_0.out Tryz.underlying25 rfl (by kernel_rfl) ?_) | (refine wpList_wantN (by rfl) ?_; refine wp_load_row 25 (.tmp 14) (by rfl) b14 (by rfl) 25 cu.cells (0, 0) _ F14_0.out Tryz.underlying25 rfl (by kernel_rfl) ?_))
            refine (MU.out _ T0.out.t Cu0.out).mono ?_
            rintro e w1 ⟨rfl, hq⟩
            have F12_1 := Lib.hid (F12_0.out.below hq F12_0.out.lt)
            have F13_1 := Lib.hid (F13_0.out.below hq F13_0.out.lt)
            have F14_1 := Lib.hid (F14_0.out.below hq F14_0.out.lt)
            have Ca1 := Lib.hid (Ca0.out.at_ hq)
            have Cb1 := Lib.hid (Cb0.out.at_ hq)
            have Cu1 := Lib.hid (Cu0.out.at_ hq)
            have T1 := Lib.hid (T0.out.below hq)
            have B1 := Lib.hid (more3 B0.out B0.out.size hq)
            clear hq T0 B0 F12_0 F13_0 F14_0 Ca0 Cb0 Cu0
            go_wp2_with (first | (refine wpList_load_row rfl 25 (.tmp 12) (by rfl) b12 (by rfl) 25 ca.cells (0, 0) _ F12_1.out Tryz.underlying25 rfl (by kernel_rfl) ?_) | (refine wpList_wantN (by rfl) ?_; refine wp_load_row 25 (.tmp 12) (by rfl) b12 (by rfl) 25 ca.cells (0, 0) _ F12_1.out Tryz.underlying25 rfl (by kernel_rfl) ?_))
            refine (NA.out _ T1.out.t Ca1.out).mono ?_
            rintro e w2 ⟨rfl, hq⟩
            have F12_2 := Lib.hid (F12_1.out.below hq F12_1.out.lt)
            have F13_2 := Lib.hid (F13_1.out.below hq F13_1.out.lt)
            have F14_2 := Lib.hid (F14_1.out.below hq F14_1.out.lt)
            have Ca2 := Lib.hid (Ca1.out.at_ hq)
            have Cb2 := Lib.hid (Cb1.out.at_ hq)
            have Cu2 := Lib.hid (Cu1.out.at_ hq)
            have T2 := Lib.hid (T1.out.below hq)
            have B2 := Lib.hid (more3 B1.out B1.out.size hq)
            clear hq T1 B1 F12_1 F13_1 F14_1 Ca1 Cb1 Cu1
            go_wp2_with (first | (refine wpList_load_row rfl 25 (.tmp 13) (by rfl) b13 (by rfl) 25 cb.cells (0, 0) _ F13_2.out Tryz.underlying25 rfl (by kernel_rfl) ?_) | (refine wpList_wantN (by rfl) ?_; refine wp_load_row 25 (.tmp 13) (by rfl) b13 (by rfl) 25 cb.cells (0, 0) _ F13_2.out Tryz.underlying25 rfl (by kernel_rfl) ?_))
            refine (NB.out _ T2.out.t Cb2.out).mono ?_
            rintro e w3 ⟨rfl, hq⟩
            have F12_3 := Lib.hid (F12_2.out.below hq F12_2.out.lt)
            have F13_3 := Lib.hid (F13_2.out.below hq F13_2.out.lt)
            have F14_3 := Lib.hid (F14_2.out.below hq F14_2.out.lt)
            have Ca3 := Lib.hid (Ca2.out.at_ hq)
            have Cb3 := Lib.hid (Cb2.out.at_ hq)
            have Cu3 := Lib.hid (Cu2.out.at_ hq)
            have T3 := Lib.hid (T2.out.below hq)
            have B3 := Lib.hid (more3 B2.out B2.out.size hq)
            clear hq T2 B2 F12_2 F13_2 F14_2 Ca2 Cb2 Cu2
            go_wp2_with (first | (refine wpList_load_row rfl 25 (.tmp 14) (by rfl) b14 (by rfl) 25 cu.cells (0, 0) _ F14_3.out Tryz.underlying25 rfl (by kernel_rfl) ?_) | (refine wpList_wantN (by rfl) ?_; refine wp_load_row 25 (.tmp 14) (by rfl) b14 (by rfl) 25 cu.cells (0, 0) _ F14_3.out Tryz.underlying25 rfl (by kernel_rfl) ?_))
            refine (NU.out _ T3.out.t Cu3.out).mono ?_
            rintro e w4 ⟨rfl, hq⟩
            have F12_4 := Lib.hid (F12_3.out.below hq F12_3.out.lt)
            have F13_4 := Lib.hid (F13_3.out.below hq F13_3.out.lt)
            have F14_4 := Lib.hid (F14_3.out.below hq F14_3.out.lt)
            have Ca4 := Lib.hid (Ca3.out.at_ hq)
            have Cb4 := Lib.hid (Cb3.out.at_ hq)
            have Cu4 := Lib.hid (Cu3.out.at_ hq)
            have T4 := Lib.hid (T3.out.below hq)
            have B4 := Lib.hid (more3 B3.out B3.out.size hq)
            clear hq T3 B3 F12_3 F13_3 F14_3 Ca3 Cb3 Cu3
            go_wp2_with fail
            go_ret
            exact ⟨rfl, B4.out⟩
        | true =>
          cases ob with
          | false =>
            simp only [Bool.true_or] at NU
            rw [n3 rfl rfl] at NU
            clear n2 n3 n4
            go_wp2_with (first | (refine wpList_load_row rfl 25 (.tmp 14) (by rfl) b14 (by rfl) 25 cu.cells (0, 0) _ F14_0.out Tryz.underlying25 rfl (by kernel_rfl) ?_) | (refine wpList_wantN (by rfl) ?_; refine wp_load_row 25 (.tmp 14) (by rfl) b14 (by rfl) 25 cu.cells (0, 0) _ F14_0.out Tryz.underlying25 rfl (by kernel_rfl) ?_))
            refine (MU.out _ T0.out.t Cu0.out).mono ?_
            rintro e w1 ⟨rfl, hq⟩
            have F12_1 := Lib.hid (F12_0.out.below hq F12_0.out.lt)
            have F13_1 := Lib.hid (F13_0.out.below hq F13_0.out.lt)
            have F14_1 := Lib.hid (F14_0.out.below hq F14_0.out.lt)
            have Ca1 := Lib.hid (Ca0.out.at_ hq)
            have Cb1 := Lib.hid (Cb0.out.at_ hq)
            have Cu1 := Lib.hid (Cu0.out.at_ hq)
            have T1 := Lib.hid (T0.out.below hq)
            have B1 := Lib.hid (more3 B0.out B0.out.size hq)
            clear hq T0 B0 F12_0 F13_0 F14_0 Ca0 Cb0 Cu0
            go_wp2_with (first | (refine wpList_load_row rfl 25 (.tmp 12) (by rfl) b12 (by rfl) 25 ca.cells (0, 0) _ F12_1.out Tryz.underlying25 rfl (by kernel_rfl) ?_) | (refine wpList_wantN (by rfl) ?_; refine wp_load_row 25 (.tmp 12) (by rfl) b12 (by rfl) 25 ca.cells (0, 0) _ F12_1.out Tryz.underlying25 rfl (by kernel_rfl) ?_))
            refine (NA.out _ T1.out.t Ca1.out).mono ?_
            rintro e w2 ⟨rfl, hq⟩
            have F12_2 := Lib.hid (F12_1.out.below hq F12_1.out.lt)
            have F13_2 := Lib.hid (F13_1.out.below hq F13_1.out.lt)
            have F14_2 := Lib.hid (F14_1.out.below hq F14_1.out.lt)
            have Ca2 := Lib.hid (Ca1.out.at_ hq)
            have Cb2 := Lib.hid (Cb1.out.at_ hq)
            have Cu2 := Lib.hid (Cu1.out.at_ hq)
            have T2 := Lib.hid (T1.out.below hq)
            have B2 := Lib.hid (more3 B1.out B1.out.size hq)
            clear hq T1 B1 F12_1 F13_1 F14_1 Ca1 Cb1 Cu1
            go_wp2_with (first | (refine wpList_load_row rfl 25 (.tmp 13) (by rfl) b13 (by rfl) 25 cb.cells (0, 0) _ F13_2.out Tryz.underlying25 rfl (by kernel_rfl) ?_) | (refine wpList_wantN (by rfl) ?_; refine wp_load_row 25 (.tmp 13) (by rfl) b13 (by rfl) 25 cb.cells (0, 0) _ F13_2.out Tryz.underlying25 rfl (by kernel_rfl) ?_))
            refine (NB.out _ T2.out.t Cb2.out).mono ?_
            rintro e w3 ⟨rfl, hq⟩
            have F12_3 := Lib.hid (F12_2.out.below hq F12_2.out.lt)
            have F13_3 := Lib.hid (F13_2.out.below hq F13_2.out.lt)
            have F14_3 := Lib.hid (F14_2.out.below hq F14_2.out.lt)
            have Ca3 := Lib.hid (Ca2.out.at_ hq)
            have Cb3 := Lib.hid (Cb2.out.at_ hq)
            have Cu3 := Lib.hid (Cu2.out.at_ hq)
            have T3 := Lib.hid (T2.out.below hq)
            have B3 := Lib.hid (more3 B2.out B2.out.size hq)
            clear hq T2 B2 F12_2 F13_2 F14_2 Ca2 Cb2 Cu2
            go_wp2_with (first | (refine wpList_load_row rfl 25 (.tmp 14) (by rfl) b14 (by rfl) 25 cu.cells (0, 0) _ F14_3.out Tryz.underlying25 rfl (by kernel_rfl) ?_) | (refine wpList_wantN (by rfl) ?_; refine wp_load_row 25 (.tmp 14) (by rfl) b14 (by rfl) 25 cu.cells (0, 0) _ F14_3.out Tryz.underlying25 rfl (by kernel_rfl) ?_))
            refine (NU.out _ T3.out.t Cu3.out).mono ?_
            rintro e w4 ⟨rfl, hq⟩
            have F12_4 := Lib.hid (F12_3.out.below hq F12_3.out.lt)
            have F13_4 := Lib.hid (F13_3.out.below hq F13_3.out.lt)
            have F14_4 := Lib.hid (F14_3.out.below hq F14_3.out.lt)
            have Ca4 := Lib.hid (Ca3.out.at_ hq)
            have Cb4 := Lib.hid (Cb3.out.at_ hq)
            have Cu4 := Lib.hid (Cu3.out.at_ hq)
            have T4 := Lib.hid (T3.out.below hq)
            have B4 := Lib.hid (more3 B3.out B3.out.size hq)
            clear hq T3 B3 F12_3 F13_3 F14_3 Ca3 Cb3 Cu3
            go_wp2_with fail
            go_ret
            exact ⟨rfl, B4.out⟩
          | true =>
            simp only [Bool.true_or] at NU
            rw [n2 rfl rfl] at NU
            clear n2 n3 n4
            go_wp2_with (first | (refine wpList_load_row rfl 25 (.tmp 14) (by rfl) b14 (by rfl) 25 cu.cells (0, 0) _ F14_0.out Tryz.underlying25 rfl (by kernel_rfl) ?_) | (refine wpList_wantN (by rfl) ?_; refine wp_load_row 25 (.tmp 14) (by rfl) b14 (by rfl) 25 cu.cells (0, 0) _ F14_0.out Tryz.underlying25 rfl (by kernel_rfl) ?_))
            refine (MU.out _ T0.out.t Cu0.out).mono ?_
            rintro e w1 ⟨rfl, hq⟩
            have F12_1 := Lib.hid (F12_0.out.below hq F12_0.out.lt)
            have F13_1 := Lib.hid (F13_0.out.below hq F13_0.out.lt)
            have F14_1 := Lib.hid (F14_0.out.below hq F14_0.out.lt)
            have Ca1 := Lib.hid (Ca0.out.at_ hq)
            have Cb1 := Lib.hid (Cb0.out.at_ hq)
            have Cu1 := Lib.hid (Cu0.out.at_ hq)
            have T1 := Lib.hid (T0.out.below hq)
            have B1 := Lib.hid (more3 B0.out B0.out.size hq)
            clear hq T0 B0 F12_0 F13_0 F14_0 Ca0 Cb0 Cu0
            go_wp2_with (first | (refine wpList_load_row rfl 25 (.tmp 12) (by rfl) b12 (by rfl) 25 ca.cells (0, 0) _ F12_1.out Tryz.underlying25 rfl (by kernel_rfl) ?_) | (refine wpList_wantN (by rfl) ?_; refine wp_load_row 25 (.tmp 12) (by rfl) b12 (by rfl) 25 ca.cells (0, 0) _ F12_1.out Tryz.underlying25 rfl (by kernel_rfl) ?_))
            refine (NA.out _ T1.out.t Ca1.out).mono ?_
            rintro e w2 ⟨rfl, hq⟩
            have F12_2 := Lib.hid (F12_1.out.below hq F12_1.out.lt)
            have F13_2 := Lib.hid (F13_1.out.below hq F13_1.out.lt)
            have F14_2 := Lib.hid (F14_1.out.below hq F14_1.out.lt)
            have Ca2 := Lib.hid (Ca1.out.at_ hq)
            have Cb2 := Lib.hid (Cb1.out.at_ hq)
            have Cu2 := Lib.hid (Cu1.out.at_ hq)
            have T2 := Lib.hid (T1.out.below hq)
            have B2 := Lib.hid (more3 B1.out B1.out.size hq)
            clear hq T1 B1 F12_1 F13_1 F14_1 Ca1 Cb1 Cu1
            go_wp2_with (first | (refine wpList_load_row rfl 25 (.tmp 13) (by rfl) b13 (by rfl) 25 cb.cells (0, 0) _ F13_2.out Tryz.underlying25 rfl (by kernel_rfl) ?_) | (refine wpList_wantN (by rfl) ?_; refine wp_load_row 25 (.tmp 13) (by rfl) b13 (by rfl) 25 cb.cells (0, 0) _ F13_2.out Tryz.underlying25 rfl (by kernel_rfl) ?_))
            refine (NB.out _ T2.out.t Cb2.out).mono ?_
            rintro e w3 ⟨rfl, hq⟩
            have F12_3 := Lib.hid (F12_2.out.below hq F12_2.out.lt)
            have F13_3 := Lib.hid (F13_2.out.below hq F13_2.out.lt)
            have F14_3 := Lib.hid (F14_2.out.below hq F14_2.out.lt)
            have Ca3 := Lib.hid (Ca2.out.at_ hq)
            have Cb3 := Lib.hid (Cb2.out.at_ hq)
            have Cu3 := Lib.hid (Cu2.out.at_ hq)
            have T3 := Lib.hid (T2.out.below hq)
            have B3 := Lib.hid (more3 B2.out B2.out.size hq)
            clear hq T2 B2 F12_2 F13_2 F14_2 Ca2 Cb2 Cu2
            go_wp2_with (first | (refine wpList_load_row rfl 25 (.tmp 14) (by rfl) b14 (by rfl) 25 cu.cells (0, 0) _ F14_3.out Tryz.underlying25 rfl (by kernel_rfl) ?_) | (refine wpList_wantN (by rfl) ?_; refine wp_load_row 25 (.tmp 14) (by rfl) b14 (by rfl) 25 cu.cells (0, 0) _ F14_3.out Tryz.underlying25 rfl (by kernel_rfl) ?_))
            refine (NU.out _ T3.out.t Cu3.out).mono ?_
            rintro e w4 ⟨rfl, hq⟩
            have F12_4 := Lib.hid (F12_3.out.below hq F12_3.out.lt)
            have F13_4 := Lib.hid (F13_3.out.below hq F13_3.out.lt)
            have F14_4 := Lib.hid (F14_3.out.below hq F14_3.out.lt)
            have Ca4 := Lib.hid (Ca3.out.at_ hq)
            have Cb4 := Lib.hid (Cb3.out.at_ hq)
            have Cu4 := Lib.hid (Cu3.out.at_ hq)
            have T4 := Lib.hid (T3.out.below hq)
            have B4 := Lib.hid (more3 B3.out B3.out.size hq)
            clear hq T3 B3 F12_3 F13_3 F14_3 Ca3 Cb3 Cu3
            go_wp2_with fail
            all_goals (go_ret; exact ⟨ret_bool (by first | rfl | (simp; omega)), B4.out⟩)
end Go.Proofs.YtncolcjejgmhjaaGreatDoor
