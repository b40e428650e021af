/- The walk of the law KeysFirst. -/
import Derived.Test.YtadifolonbkamaaGreatDoorKfbr
import Derived.Test.YtadifolonbkamaaGreatDoorKfai
import Derived.Deep.RegionHeld3
import Derived.Deep.AppendLies
import Derived.Laws.OwnMore
namespace Go.Proofs.YtadifolonbkamaaGreatDoor
open Go.RowKit
theorem checkV_both (V : Ky → ByteArray → Int) (kind : Int) (a b : List Ln) : checkV V kind (a ++ b) = if (checkV V kind a).1 = 0 then checkV V kind b else checkV V kind a := by
  induction a with
  | nil => rfl
  | cons x a ih =>
    rw [List.cons_append, checkV, checkV]
    by_cases h : lineV V kind (str x.s) (str x.k) (str x.v) = 0
    · rw [if_pos h, if_pos h, ih]
    · rw [if_neg h, if_neg h, if_neg h]
theorem lns_one_cell (l : List Ln) : ∀ x ∈ lns l, x.oneCell' = true := by
  intro x hx
  obtain ⟨r, _, hr⟩ := List.mem_flatMap.1 hx
  simp [lnCells] at hr
  rcases hr with rfl | rfl | rfl | rfl <;> rfl
theorem lns_append (a b : List Ln) : lns (a ++ b) = lns a ++ lns b := by simp [lns]
/-- append of lines to a row of the call's own. -/
theorem wp_append_lines {o : Oper} {a : Act} {w : World} {K : Act → World → Prop} {Q : Exit → Act → World → Prop} (s x : Operand)
    (ho : o.op = .call { callee := .builtin .append, args := #[s, x], argTypes := #[35, 35] }) (base : Nat) (v : Value) (l l' : List Ln) (hs : a.eval s = v) (hown : w.ownsRow base 44 4 v l.length (lns l))
    (A : Option Addr) (n c B : Nat) (hx : a.eval x = .slice A n c) (hL : LnsAt w B A n l') (hA : A = none → c = 0) (hlen : l.length + n ≤ 2097152) (hbase : base ≤ w.heap.size)
    (h : ∀ v' w', w'.ownsRow base 44 4 v' (l ++ l').length (lns (l ++ l')) → w.grownBy w' v.ownBlock → K (a.put o.dst v') w') : o.wp Tryz.prog a w K Q := by
  obtain ⟨i0, hi, hz0, hz1, hz2⟩ := info_parts lineInfo
  obtain ⟨h1, h2, h3⟩ := hL
  subst h1
  cases A with
  | none =>
    have hn : l'.length = 0 := by
      rcases Nat.eq_zero_or_pos l'.length with h0 | h0
      · exact h0
      · obtain ⟨ad, e, _⟩ := h3 h0
        cases e
    have hc := hA rfl
    subst hc
    rw [hn] at hx
    have hl' : l' = [] := List.length_eq_zero_iff.1 hn
    subst hl'
    have hrun := run_append_owned_none (P := Tryz.prog) (w := w) base 35 o.type 44 i0 4 Tryz.underlying35 hi v l.length (lns l) hown
    unfold Oper.wp
    simp [execOp, ho, resolve, invoke, builtin, hs, hx, hrun, Result.andThen]
    rw [List.append_nil] at h
    exact h _ _ hown (World.grownBy.refl _ _)
  | some ad =>
    refine wp_append_own w s x 35 ho base 44 i0 _ 4 56 Tryz.underlying35 hi hz0 hz1 hz2 rfl (by decide) v l.length (lns l) hs hown ad l'.length c (lns l') hx (lns_length l') ?_ (lns_one_cell l') (by unfold maxLen; omega) (by omega) hbase ?_
    · intro j u hj
      have hpos : 0 < l'.length := by
        rcases Nat.eq_zero_or_pos l'.length with h0 | h0
        · rw [List.length_eq_zero_iff.1 h0] at hj; simp [lns] at hj
        · exact h0
      obtain ⟨ad', e, _, hc⟩ := h3 hpos
      cases e
      exact hc j u hj
    · intro v' w' h4 h5 _
      refine h v' w' ?_ h5
      rw [List.length_append, lns_append]
      exact h4
theorem flt_two : (Tryz.prog.info? 37).map (·.size) = some 2 := by kernel_rfl
theorem flt_yields {W : World} {g : Nat} {cs : Array Value} (o : Oper) (ev : Operand → Value) (x : Operand) (ho : o.op = .load 37 x) (hx : ev x = .pointer (some ⟨g, 0, none⟩)) (hB : Blk W g 37 cs) (hsz : cs.size = 2) : (execOp ev o).run Tryz.prog W = .ok (.value (.agg cs)) W := by
  unfold execOp
  simp only [ho, hx, Instr.loadAt, Instr.sureAddr, Sem.run_bind, Sem.run_pure, Result.andThen_ok, run_loadVar_row W g 37 37 cs (0, 0) _ hB Tryz.underlying37 rfl (by rw [hsz]; exact flt_two)]
/-- What stands while the rows are laid one behind the other: the first fault, and all that was there. -/
def FstS (w0 : World) (g : Nat) (cs : Array Value) (W : World) : Prop := Blk W g 37 cs ∧ Below w0.heap.size w0 W
theorem FstS.drew {w0 W : World} {g : Nat} {cs : Array Value} (h : FstS w0 g cs W) : FstS w0 g cs W.drew := ⟨h.1.drew, h.2.drew⟩
theorem FstS.call {w0 W W' : World} {g : Nat} {cs : Array Value} (h : FstS w0 g cs W) (hb : Below W.heap.size W W') : FstS w0 g cs W' := ⟨h.1.below hb h.1.lt, more3 h.2 h.2.size hb⟩
theorem FstS.grown {w0 W W' : World} {g : Nat} {cs : Array Value} {row : Option Nat} (h : FstS w0 g cs W) (hg : W.grownBy W' row) (hr : ∀ k, row = some k → w0.heap.size ≤ k) (hgl : g < w0.heap.size) : FstS w0 g cs W' :=
  ⟨(hg.block _ h.1.lt (fun e => by have := hr g e.symm; omega)).trans h.1, h.2.grown hg h.2.size hr⟩
set_option maxRecDepth 100000 in
set_option maxHeartbeats 16000000 in
theorem KeysFirst_any (kind : Int) (A0 : Option Addr) (n0 c0 : Nat) (l0 : List Ln) (A1 : Option Addr) (n1 c1 : Nat) (l1 : List Ln) (w : World) (h0 : LnsAt w w.heap.size A0 n0 l0) (h1 : LnsAt w w.heap.size A1 n1 l1)
    (hc0 : A0 = none → c0 = 0) (hc1 : A1 = none → c1 = 0) (hn : n0 + n1 ≤ 2097152) (hz0 : ∀ x ∈ l0, x.v.length ≤ 140737488355327) (hz1 : ∀ x ∈ l1, x.v.length ≤ 140737488355327) (ht : Ca.TabM w) :
    Calls Tryz.prog 6 #[.int .i64 kind, .slice A0 n0 c0, .slice A1 n1 c1] w fun e w' => e = .returned (.bool true) ∧ Below w.heap.size w w' := by
  obtain ⟨⟨f1, f2⟩, hf⟩ : ∃ p, checkV valueT kind l0 = p := ⟨_, rfl⟩
  obtain ⟨⟨g1, g2⟩, hg⟩ : ∃ p, checkV valueT kind l1 = p := ⟨_, rfl⟩
  have HBO := Lib.hid (checkV_both valueT kind l0 l1)
  rw [hf, hg] at HBO
  have HF := Lib.hid (check_flt hf)
  have HG := Lib.hid (check_flt hg)
  have HV : Hid (∀ x ∈ l0 ++ l1, ValueSays valueT x.s x.k (str x.v) w) := fun x hx => says_all _ _ _ (by rw [str_size]; rcases List.mem_append.1 hx with h | h; exact hz0 x h; exact hz1 x h) w ht
  have HV0 : Hid (∀ x ∈ l0, ValueSays valueT x.s x.k (str x.v) w) := fun x hx => HV.out x (List.mem_append_left _ hx)
  have HV1 : Hid (∀ x ∈ l1, ValueSays valueT x.s x.k (str x.v) w) := fun x hx => HV.out x (List.mem_append_right _ hx)
  have HL0 := Lib.hid h0
  have HL1 := Lib.hid h1
  have HA0 := Lib.hid hc0
  have HA1 := Lib.hid hc1
  have hq0 := h0.1
  have hq1 := h1.1
  clear hf hg h0 h1 hz0 hz1 ht hc0 hc1
  have hq := fun (W : World) (a b : Int) => run_eql_fault W a b a b
  go_enter Tryz.func6, Tryz.ntmps6
  go_wp2_with fail
  refine (shown_any _).mono ?_
  rintro e1 w1 ⟨rfl, hb1⟩
  have HB1 := Lib.hid hb1
  clear hb1
  go_wp2_with fail
  refine (Check_of valueT kind A0 n0 c0 w.heap.size l0 w w1 (HL0.out.below HB1.out) HB1.out.size HB1.out HV0.out).mono ?_
  rintro e2 w2 ⟨rfl, hb2⟩
  rw [HF.out]
  have HB2 := Lib.hid (more3 HB1.out HB1.out.size hb2)
  have HK3 : Hid (Blk (w2.alloc (.cells #[.int .i64 f1, .int .i64 f2] 37)) w2.heap.size 37 (fltA f1 f2)) := Blk.new w2 _ _
  have HB3 : Hid (Below w.heap.size w (w2.alloc (.cells #[.int .i64 f1, .int .i64 f2] 37))) := HB2.out.alloc HB2.out.size _
  have hz2 : w.heap.size ≤ w2.heap.size := HB2.out.size
  clear hb2 HB2 HB1
  by_cases hf0 : f1 = 0
  · have HE : Hid (checkV valueT kind (l0 ++ l1) = (g1, g2)) := by show _ = _; rw [HBO.out, if_pos hf0]
    have t0 : (f1 == 0) = true := by rw [hf0]; rfl
    clear hf0
    go_wp2_with fail
    generalize w2.alloc (.cells #[.int .i64 f1, .int .i64 f2] 37) = w3 at *
    refine (Check_of valueT kind A1 n1 c1 w.heap.size l1 w w3 (HL1.out.below HB3.out) HB3.out.size HB3.out HV1.out).mono ?_
    rintro e4 w4 ⟨rfl, hb4⟩
    rw [HG.out]
    have HK4 := Lib.hid (HK3.out.below hb4 HK3.out.lt)
    have HB4 := Lib.hid (more3 HB3.out HB3.out.size hb4)
    clear hb4
    go_wp2_with (refine wpList_store_row rfl 37 (.tmp 7) (.tmp 18) (by rfl) w2.heap.size (fltA g1 g2) (by rfl) (by rfl) 37 (fltA f1 f2) HK4.out (by kernel_rfl) rfl (fltA_all _ _) ?_)
    have HK5 : Hid (Blk (w4.setRow w2.heap.size (fltA g1 g2)) w2.heap.size 37 (fltA g1 g2)) := HK4.out.row _
    have HB5 : Hid (Below w.heap.size w (w4.setRow w2.heap.size (fltA g1 g2))) := below_setRow HB4.out hz2 _
    generalize w4.setRow w2.heap.size (fltA g1 g2) = wz at *
    have hEF := HE
    have HS : Hid (FstS wz w2.heap.size (fltA g1 g2) wz) := ⟨HK5.out, Below.refl _ _⟩
    have hgl : w2.heap.size < wz.heap.size := HK5.out.lt
    refine wp_region_held_drew (S := fun W => FstS wz w2.heap.size (fltA g1 g2) W) (by kernel_rfl) ?_ (fun hHeld => ?_)
    · exact HS.out.drew
    refine wpAnyH_take (i := 0) (v := ?v0) rfl (by kernel_rfl) (by kernel_rfl) (by kernel_rfl) (fun _ _ _ h => h) (Or.inl ⟨by rfl, ?hy0⟩) (by assumption) ?_
    case hy0 => (intro w hSw; (try dsimp only at hSw); go_simp; (try with_reducible rfl))
    try simp only [Act.put, List.getElem_toArray, List.getElem_cons_zero, List.setIfInBounds_toArray, List.set_cons_zero, List.set_cons_succ]
    refine wpAnyH_take (i := 1) (v := ?v1) rfl (by kernel_rfl) (by kernel_rfl) (by kernel_rfl) (fun _ _ _ h => h) (Or.inl ⟨by rfl, ?hy1⟩) (by assumption) ?_
    case hy1 => (intro w hSw; (try dsimp only at hSw); go_simp; (try with_reducible rfl))
    try simp only [Act.put, List.getElem_toArray, List.getElem_cons_zero, List.getElem_cons_succ, List.setIfInBounds_toArray, List.set_cons_zero, List.set_cons_succ]
    refine wpAnyH_take (i := 3) (v := ?v3) rfl (by kernel_rfl) (by kernel_rfl) (by kernel_rfl) (fun _ _ _ h => h) (Or.inl ⟨by rfl, ?hy3⟩) (by assumption) ?_
    case hy3 => (intro w hSw; (try dsimp only at hSw); go_simp; (try with_reducible rfl))
    try simp only [Act.put, List.getElem_toArray, List.getElem_cons_zero, List.getElem_cons_succ, List.setIfInBounds_toArray, List.set_cons_zero, List.set_cons_succ]
    refine wpAnyH_take (i := 6) (v := .agg (fltA g1 g2)) rfl (by kernel_rfl) (by kernel_rfl) (by kernel_rfl) (fun _ _ _ h => h) (Or.inl ⟨by rfl, ?hy6⟩) (by assumption) ?_
    case hy6 => (intro W hSw; exact flt_yields _ _ (.tmp 7) (by rfl) (by rfl) hSw.1 rfl)
    try simp only [Act.put, List.getElem_toArray, List.getElem_cons_zero, List.getElem_cons_succ, List.setIfInBounds_toArray, List.set_cons_zero, List.set_cons_succ]
    refine wpAnyH_ready (rs := [2]) (by kernel_rfl) (by simp) ?_
    refine AllReadyH.cons rfl (fun K hK => ?_) AllReadyH.nil
    refine wp_append_lines _ _ (by rfl) wz.heap.size (.slice none 0 0) [] l0 (by rfl) (World.ownsRow_nil _ _ _ _) A0 n0 c0 w.heap.size (by rfl) ((HL0.out.below HB5.out).below (hHeld.2.mono HB5.out.size)) HA0.out (by simp; omega) hHeld.2.size ?_
    intro v6 w6 ho6 hg6
    have hS6 := hHeld.grown hg6 (fun k hk => by cases hk) hgl
    refine hK.out _ _ hS6 (fun hHeld2 => ?_)
    clear hK K hHeld hg6
    have hHeld := hHeld2
    clear hHeld2
    try simp only [Act.put, List.getElem_toArray, List.getElem_cons_zero, List.getElem_cons_succ, List.setIfInBounds_toArray, List.set_cons_zero, List.set_cons_succ]
    refine wpAnyH_ready (rs := [4]) (by kernel_rfl) (by simp) ?_
    refine AllReadyH.cons rfl (fun K hK => ?_) AllReadyH.nil
    refine wp_append_lines _ _ (by rfl) wz.heap.size v6 ([] ++ l0) l1 (by rfl) ho6 A1 n1 c1 w.heap.size (by rfl) ((HL1.out.below HB5.out).below (hHeld.2.mono HB5.out.size)) HA1.out (by simp; omega) hHeld.2.size ?_
    intro v7 w7 ho7 hg7
    have hS7 := hHeld.grown hg7 (fun k hk => (ho6.lt k hk).1) hgl
    refine hK.out _ _ hS7 (fun hHeld2 => ?_)
    clear hK K hHeld hg7
    have hHeld := hHeld2
    clear hHeld2
    try simp only [Act.put, List.getElem_toArray, List.getElem_cons_zero, List.getElem_cons_succ, List.setIfInBounds_toArray, List.set_cons_zero, List.set_cons_succ]
    rw [List.nil_append] at ho7
    obtain ⟨A7, m7, c7, rfl⟩ : ∃ A7 m7 c7, v7 = .slice A7 m7 c7 := by
      rcases ho7.2 with ⟨hv, _⟩ | ⟨g, cap, cur, hv, _⟩
      · exact ⟨_, _, _, hv⟩
      · exact ⟨_, _, _, hv⟩
    have HV7 := HV
    have hE7 := hEF
    obtain ⟨ll, hll⟩ : ∃ ll, l0 ++ l1 = ll := ⟨_, rfl⟩
    have hlen : ll.length = l0.length + l1.length := by rw [← hll, List.length_append]
    rw [hll] at ho7 HV7 hE7
    obtain ⟨rfl, hl7⟩ := lnsAt_of_own ho7 rfl (by unfold maxLen; omega)
    have HC7 := Lib.hid (Check_of valueT kind A7 _ c7 w7.heap.size ll w w7 hl7 (Nat.le_refl _) (HB5.out.trans (hHeld.2.mono HB5.out.size)) HV7.out)
    rw [check_flt hE7.out] at HC7
    clear hlen hll
    refine wpAnyH_ready (rs := [5]) (by kernel_rfl) (by simp) ?_
    refine AllReadyH.cons rfl (fun K hK => ?_) AllReadyH.nil
    go_simp
    refine HC7.out.mono ?_
    rintro e8 w8 ⟨rfl, hb8⟩
    refine hK.out _ _ (hHeld.call hb8) (fun hHeld2 => ?_)
    clear hK K hHeld
    have hHeld := hHeld2
    clear hHeld2
    try simp only [Act.put, List.getElem_toArray, List.getElem_cons_zero, List.getElem_cons_succ, List.setIfInBounds_toArray, List.set_cons_zero, List.set_cons_succ]
    refine wpAnyH_take (i := 7) (v := .bool true) rfl (by kernel_rfl) (by kernel_rfl) (by kernel_rfl) (fun _ _ _ h => h) (Or.inl ⟨by rfl, ?hy7⟩) (by assumption) ?_
    case hy7 => (intro W hSw; (try dsimp only at hSw); unfold fltA; go_simp; (try with_reducible rfl))
    try simp only [Act.put, List.getElem_toArray, List.getElem_cons_zero, List.getElem_cons_succ, List.setIfInBounds_toArray, List.set_cons_zero, List.set_cons_succ]
    refine wpAnyH_take (i := 8) (v := ?v8) rfl (by kernel_rfl) (by kernel_rfl) (by kernel_rfl) (fun _ _ _ h => h) (Or.inl ⟨by rfl, ?hy8⟩) (by assumption) ?_
    case hy8 => (intro w hSw; (try dsimp only at hSw); go_simp; (try with_reducible rfl))
    try simp only [Act.put, List.getElem_toArray, List.getElem_cons_zero, List.getElem_cons_succ, List.setIfInBounds_toArray, List.set_cons_zero, List.set_cons_succ]
    refine wpAnyH_done (by kernel_rfl) ?_ _
    go_wp2_with fail
    go_ret
    exact ⟨rfl, HB5.out.trans (hHeld.2.mono HB5.out.size)⟩
  · have HE : Hid (checkV valueT kind (l0 ++ l1) = (f1, f2)) := by show _ = _; rw [HBO.out, if_neg hf0]
    have t0 : (f1 == 0) = false := by simpa using hf0
    clear hf0
    go_wp2_with fail
    have hEF := HE
    have HK5 := HK3
    have HB5 := HB3
    generalize w2.alloc (.cells #[.int .i64 f1, .int .i64 f2] 37) = wz at *
    have HS : Hid (FstS wz w2.heap.size (fltA f1 f2) wz) := ⟨HK5.out, Below.refl _ _⟩
    have hgl : w2.heap.size < wz.heap.size := HK5.out.lt
    refine wp_region_held_drew (S := fun W => FstS wz w2.heap.size (fltA f1 f2) W) (by kernel_rfl) ?_ (fun hHeld => ?_)
    · exact HS.out.drew
    refine wpAnyH_take (i := 0) (v := ?v0) rfl (by kernel_rfl) (by kernel_rfl) (by kernel_rfl) (fun _ _ _ h => h) (Or.inl ⟨by rfl, ?hy0⟩) (by assumption) ?_
    case hy0 => (intro w hSw; (try dsimp only at hSw); go_simp; (try with_reducible rfl))
    try simp only [Act.put, List.getElem_toArray, List.getElem_cons_zero, List.setIfInBounds_toArray, List.set_cons_zero, List.set_cons_succ]
    refine wpAnyH_take (i := 1) (v := ?v1) rfl (by kernel_rfl) (by kernel_rfl) (by kernel_rfl) (fun _ _ _ h => h) (Or.inl ⟨by rfl, ?hy1⟩) (by assumption) ?_
    case hy1 => (intro w hSw; (try dsimp only at hSw); go_simp; (try with_reducible rfl))
    try simp only [Act.put, List.getElem_toArray, List.getElem_cons_zero, List.getElem_cons_succ, List.setIfInBounds_toArray, List.set_cons_zero, List.set_cons_succ]
    refine wpAnyH_take (i := 3) (v := ?v3) rfl (by kernel_rfl) (by kernel_rfl) (by kernel_rfl) (fun _ _ _ h => h) (Or.inl ⟨by rfl, ?hy3⟩) (by assumption) ?_
    case hy3 => (intro w hSw; (try dsimp only at hSw); go_simp; (try with_reducible rfl))
    try simp only [Act.put, List.getElem_toArray, List.getElem_cons_zero, List.getElem_cons_succ, List.setIfInBounds_toArray, List.set_cons_zero, List.set_cons_succ]
    refine wpAnyH_take (i := 6) (v := .agg (fltA f1 f2)) rfl (by kernel_rfl) (by kernel_rfl) (by kernel_rfl) (fun _ _ _ h => h) (Or.inl ⟨by rfl, ?hy6⟩) (by assumption) ?_
    case hy6 => (intro W hSw; exact flt_yields _ _ (.tmp 7) (by rfl) (by rfl) hSw.1 rfl)
    try simp only [Act.put, List.getElem_toArray, List.getElem_cons_zero, List.getElem_cons_succ, List.setIfInBounds_toArray, List.set_cons_zero, List.set_cons_succ]
    refine wpAnyH_ready (rs := [2]) (by kernel_rfl) (by simp) ?_
    refine AllReadyH.cons rfl (fun K hK => ?_) AllReadyH.nil
    refine wp_append_lines _ _ (by rfl) wz.heap.size (.slice none 0 0) [] l0 (by rfl) (World.ownsRow_nil _ _ _ _) A0 n0 c0 w.heap.size (by rfl) ((HL0.out.below HB5.out).below (hHeld.2.mono HB5.out.size)) HA0.out (by simp; omega) hHeld.2.size ?_
    intro v6 w6 ho6 hg6
    have hS6 := hHeld.grown hg6 (fun k hk => by cases hk) hgl
    refine hK.out _ _ hS6 (fun hHeld2 => ?_)
    clear hK K hHeld hg6
    have hHeld := hHeld2
    clear hHeld2
    try simp only [Act.put, List.getElem_toArray, List.getElem_cons_zero, List.getElem_cons_succ, List.setIfInBounds_toArray, List.set_cons_zero, List.set_cons_succ]
    refine wpAnyH_ready (rs := [4]) (by kernel_rfl) (by simp) ?_
    refine AllReadyH.cons rfl (fun K hK => ?_) AllReadyH.nil
    refine wp_append_lines _ _ (by rfl) wz.heap.size v6 ([] ++ l0) l1 (by rfl) ho6 A1 n1 c1 w.heap.size (by rfl) ((HL1.out.below HB5.out).below (hHeld.2.mono HB5.out.size)) HA1.out (by simp; omega) hHeld.2.size ?_
    intro v7 w7 ho7 hg7
    have hS7 := hHeld.grown hg7 (fun k hk => (ho6.lt k hk).1) hgl
    refine hK.out _ _ hS7 (fun hHeld2 => ?_)
    clear hK K hHeld hg7
    have hHeld := hHeld2
    clear hHeld2
    try simp only [Act.put, List.getElem_toArray, List.getElem_cons_zero, List.getElem_cons_succ, List.setIfInBounds_toArray, List.set_cons_zero, List.set_cons_succ]
    rw [List.nil_append] at ho7
    obtain ⟨A7, m7, c7, rfl⟩ : ∃ A7 m7 c7, v7 = .slice A7 m7 c7 := by
      rcases ho7.2 with ⟨hv, _⟩ | ⟨g, cap, cur, hv, _⟩
      · exact ⟨_, _, _, hv⟩
      · exact ⟨_, _, _, hv⟩
    have HV7 := HV
    have hE7 := hEF
    obtain ⟨ll, hll⟩ : ∃ ll, l0 ++ l1 = ll := ⟨_, rfl⟩
    have hlen : ll.length = l0.length + l1.length := by rw [← hll, List.length_append]
    rw [hll] at ho7 HV7 hE7
    obtain ⟨rfl, hl7⟩ := lnsAt_of_own ho7 rfl (by unfold maxLen; omega)
    have HC7 := Lib.hid (Check_of valueT kind A7 _ c7 w7.heap.size ll w w7 hl7 (Nat.le_refl _) (HB5.out.trans (hHeld.2.mono HB5.out.size)) HV7.out)
    rw [check_flt hE7.out] at HC7
    clear hlen hll
    refine wpAnyH_ready (rs := [5]) (by kernel_rfl) (by simp) ?_
    refine AllReadyH.cons rfl (fun K hK => ?_) AllReadyH.nil
    go_simp
    refine HC7.out.mono ?_
    rintro e8 w8 ⟨rfl, hb8⟩
    refine hK.out _ _ (hHeld.call hb8) (fun hHeld2 => ?_)
    clear hK K hHeld
    have hHeld := hHeld2
    clear hHeld2
    try simp only [Act.put, List.getElem_toArray, List.getElem_cons_zero, List.getElem_cons_succ, List.setIfInBounds_toArray, List.set_cons_zero, List.set_cons_succ]
    refine wpAnyH_take (i := 7) (v := .bool true) rfl (by kernel_rfl) (by kernel_rfl) (by kernel_rfl) (fun _ _ _ h => h) (Or.inl ⟨by rfl, ?hy7⟩) (by assumption) ?_
    case hy7 => (intro W hSw; (try dsimp only at hSw); unfold fltA; go_simp; (try with_reducible rfl))
    try simp only [Act.put, List.getElem_toArray, List.getElem_cons_zero, List.getElem_cons_succ, List.setIfInBounds_toArray, List.set_cons_zero, List.set_cons_succ]
    refine wpAnyH_take (i := 8) (v := ?v8) rfl (by kernel_rfl) (by kernel_rfl) (by kernel_rfl) (fun _ _ _ h => h) (Or.inl ⟨by rfl, ?hy8⟩) (by assumption) ?_
    case hy8 => (intro w hSw; (try dsimp only at hSw); go_simp; (try with_reducible rfl))
    try simp only [Act.put, List.getElem_toArray, List.getElem_cons_zero, List.getElem_cons_succ, List.setIfInBounds_toArray, List.set_cons_zero, List.set_cons_succ]
    refine wpAnyH_done (by kernel_rfl) ?_ _
    go_wp2_with fail
    go_ret
    exact ⟨rfl, HB5.out.trans (hHeld.2.mono HB5.out.size)⟩
end Go.Proofs.YtadifolonbkamaaGreatDoor
