/- The walk of the document's target. -/
import Derived.Test.YtcoepioahabbdaaGreatGyar
import Derived.Laws.StructEq
namespace Go.Proofs.YtcoepioahabbdaaGreat
open Go.RowKit
theorem eq_rel (w : World) (d : Nat) (a0 b0 : Int) (a1 b1 : ByteArray) : (Op.eqFields (d + 1) #[.int .i64 a0, .string a1] #[.int .i64 b0, .string b1] (Tryz.prog.fieldsOf 56).toList).run Tryz.prog w = .ok ((a0 == b0) && (a1.toList == b1.toList)) w := by
  generalize hg : (Tryz.prog.fieldsOf 56).toList = fs
  have hm : fs.map (fun f => (decide (f.name = "_"), f.type, f.offset)) = [(false, 3, 0), (false, 9, 1)] := by rw [← hg]; kernel_rfl
  clear hg
  rcases fs with _ | ⟨f0, _ | ⟨f1, _ | ⟨f2, fs⟩⟩⟩
  · simp at hm
  · simp at hm
  · simp only [List.map_cons, List.map_nil, List.cons.injEq, Prod.mk.injEq, decide_eq_false_iff_not, and_true] at hm
    obtain ⟨⟨n0, t0, o0⟩, n1, t1, o1⟩ := hm
    have p0 : ∀ w : World, (part 3 #[.int .i64 a0, .string a1] 0).run Tryz.prog w = .ok (.int .i64 a0) w := fun w => by kernel_rfl
    have q0 : ∀ w : World, (part 3 #[.int .i64 b0, .string b1] 0).run Tryz.prog w = .ok (.int .i64 b0) w := fun w => by kernel_rfl
    have p1 : ∀ w : World, (part 9 #[.int .i64 a0, .string a1] 1).run Tryz.prog w = .ok (.string a1) w := fun w => by kernel_rfl
    have q1 : ∀ w : World, (part 9 #[.int .i64 b0, .string b1] 1).run Tryz.prog w = .ok (.string b1) w := fun w => by kernel_rfl
    have r0 := fun w : World => run_equalIn_int (P := Tryz.prog) w d 3 .i64 _ a0 b0 Tryz.underlying3
    have r1 := fun (w : World) => run_equalIn_string (P := Tryz.prog) w d 9 a1 b1 Tryz.underlying9
    simp only [Op.eqFields, n0, t0, o0, n1, t1, o1, ne_eq, not_false_eq_true, if_true, Sem.run_bind, p0, q0, Result.andThen_ok]
    rw [r0]
    simp only [Result.andThen_ok]
    cases h0 : (a0 == b0)
    · simp
    · simp only [Bool.not_true, Bool.false_eq_true, if_false, Sem.run_bind, p1, q1, Result.andThen_ok]
      rw [r1]
      cases h1 : (a1.toList == b1.toList) <;> simp
  · simp at hm
theorem run_eql_rel (w : World) (a0 b0 : Int) (a1 b1 : ByteArray) : (binOp .eql 56 (.agg #[.int .i64 a0, .string a1]) (.agg #[.int .i64 b0, .string b1])).run Tryz.prog w = .ok (.bool (((a0 == b0) && (a1.toList == b1.toList)))) w := by
  rw [run_eql_struct, run_equalIn_struct (P := Tryz.prog) w 9999 56 _ _ (by kernel_rfl) (by kernel_rfl), eq_rel]
  rfl
structure Mine (w : World) (B : Nat) (ns : List Nd) (r : LdR) : Prop where
  is : LdIs w B r
  small : Small r.x
  node : nodeB ns r.x.n = true
theorem take_filt {l : List (Int × Tx)} {k : Nat} {e : Int × Tx} (h : l[k]? = some e) (P : Int × Tx → Bool) (f : Int × Tx → Tx) : ((l.take (k + 1)).filter P).map f = ((l.take k).filter P).map f ++ (if P e then [f e] else []) := by
  rw [List.take_add_one, h]
  simp only [Option.toList_some, List.filter_append, List.map_append]
  congr 1
  cases hp : P e <;> simp [hp]
def namesK (x : Ld) (k : Nat) : List Tx := x.wants ++ x.reqs ++ ((x.rels.take k).filter (fun r => decide (r.1 = 1 ∨ r.1 = 2))).map (·.2)
theorem namesK_zero (x : Ld) : namesK x 0 = x.wants ++ x.reqs := by unfold namesK; simp
theorem namesK_all (x : Ld) : namesK x x.rels.length = namesC x := by unfold namesK namesC; rw [List.take_of_length_le (Nat.le_refl _)]
theorem namesK_len (x : Ld) (k : Nat) : (namesK x k).length ≤ x.rels.length + x.wants.length + x.reqs.length := by
  unfold namesK
  rw [List.length_append, List.length_append, List.length_map]
  have h1 := List.length_filter_le (fun r : Int × Tx => decide (r.1 = 1 ∨ r.1 = 2)) (x.rels.take k)
  have h2 := (List.take_sublist k x.rels).length_le
  omega
theorem namesC_small {x : Ld} (h : Small x) : ∀ t ∈ namesC x, t.length ≤ maxLen := fun t ht => by
  unfold namesC at ht
  rcases List.mem_append.1 ht with ht | ht
  · rcases List.mem_append.1 ht with ht | ht
    · exact h.wants t ht
    · exact h.reqs t ht
  · obtain ⟨r, hr, rfl⟩ := List.mem_map.1 ht
    exact h.rels r (List.mem_filter.1 hr).1
def targK (L : List LdR) (x : Ld) (k : Nat) : List (Tx × Int) := (((namesC x).take k).filter (fun t => !behindB kT (L.map (·.x)) x t)).map (·, 8)
theorem targK_all (L : List LdR) (x : Ld) : targK L x (namesC x).length = targC kT (L.map (·.x)) x := by unfold targK targC; rw [List.take_of_length_le (Nat.le_refl _)]
theorem targK_succ {L : List LdR} {x : Ld} {k : Nat} {t : Tx} (h : (namesC x)[k]? = some t) : targK L x (k + 1) = targK L x k ++ (if behindB kT (L.map (·.x)) x t then [] else [(t, 8)]) := by
  unfold targK
  rw [List.take_add_one, h]
  simp only [Option.toList_some, List.filter_append, List.map_append]
  congr 1
  cases hp : behindB kT (L.map (·.x)) x t <;> simp [hp]
theorem mem_takeR {l : List (Int × Tx)} {k : Nat} {x y : Int × Tx} (hx : l[k]? = some x) : decide (y ∈ l.take (k + 1)) = (decide (y ∈ l.take k) || decide (x = y)) := by
  rw [List.take_add_one, hx, Bool.eq_iff_iff, decide_eq_true_eq, Bool.or_eq_true, decide_eq_true_eq, decide_eq_true_eq, List.mem_append]
  constructor
  · rintro (h | h)
    · exact .inl h
    · exact .inr (List.mem_singleton.1 h).symm
  · rintro (h | rfl)
    · exact .inl h
    · exact .inr (List.mem_singleton.2 rfl)
theorem SlAt.keptG {α : Type} {Ly : Lay α} {w w' : World} {B m g : Nat} {A : Option Addr} {l : List α} (h : SlAt Ly w B A m l) (hg : w.grownBy w' (some g)) (hB : B ≤ g) (hl : g ≤ w.heap.size) : SlAt Ly w' B A m l := h.below ((grown_below hg hl).mono hB)
def OsPost (w0 : World) (g : Nat) (ns : List Nd) (es : List Ed) (e : Ending) (w' : World) : Prop := e = .returned (.tuple #[]) ∧ Os w0 w' g ns es
set_option maxRecDepth 10000 in
set_option maxHeartbeats 16000000 in
theorem gTarget_any (B g mb n : Nat) (L : List LdR) (ns : List Nd) (es : List Ed) (r : LdR) (w : World) (hC : Ctx w B g mb n L) (hM : Mine w B ns r) (hO : Os w w g ns es) (_hL : ∀ r ∈ L, Small r.x) :
    Calls Tryz.prog 59 #[.pointer (some ⟨g, 0, none⟩), .agg r.a, .map (some mb)] w (OsPost w g ns (edgesL (nodeB ns) r.x.n es (targC kT (L.map (·.x)) r.x))) := by
  have hgl := hC.hg
  have hBg := hC.hB
  have hbw : Below w.heap.size w (w.alloc (.cells r.a 53)) := (Below.refl _ w).alloc (Nat.le_refl _) _
  have HC := Lib.hid (hC.grown (grown_of_below hbw))
  have HO := Lib.hid (hO.below hbw)
  have HI := Lib.hid (hM.is.below (hbw.mono (by omega)))
  have HM := Lib.hid hM
  have HBK : Hid (Blk (w.alloc (.cells r.a 53)) w.heap.size 53 r.a) := Blk.new w _ _
  have hrows := hM.small.rows
  obtain ⟨WA, wc, hw1, hw2, hw3, hw4⟩ := HI.out.wants
  obtain ⟨QA, qc, hr1, hr2, hr3, hr4⟩ := HI.out.reqs
  obtain ⟨RA, rc, hl1, hl2, hl3, hl4⟩ := HI.out.rels
  have HW4 := Lib.hid hw4
  have HQ4 := Lib.hid hr4
  have HR4 := Lib.hid hl4
  have hm1 := hl4.2.1
  unfold maxLen at hm1
  have c0 : (w.alloc (.cells r.a 53)).cell? ⟨w.heap.size, 0, none⟩ = some (.string (str r.x.n)) := box_cell HBK.out HI.out.name
  have c9 : (w.alloc (.cells r.a 53)).cell? ⟨w.heap.size, 9, none⟩ = some (.slice RA r.x.rels.length rc) := box_cell HBK.out hl1
  have c40 : (w.alloc (.cells r.a 53)).cell? ⟨w.heap.size, 40, none⟩ = some (.slice WA r.x.wants.length wc) := box_cell HBK.out hw1
  have c41 : (w.alloc (.cells r.a 53)).cell? ⟨w.heap.size, 41, none⟩ = some (.slice QA r.x.reqs.length qc) := box_cell HBK.out hr1
  clear hC hO hM hw1 hw3 hw4 hr1 hr3 hr4 hl1 hl3 hl4
  go_enter Tryz.func59, Tryz.ntmps59
  go_wp2_with fail
  obtain ⟨w1, hw1⟩ : ∃ w1, w.alloc (.cells r.a 53) = w1 := ⟨_, rfl⟩
  have hs1 : w1.heap.size = w.heap.size + 1 := by rw [← hw1]; simp
  rw [hw1] at HC HO HI HBK HW4 HQ4 HR4 c0 c9 c40 c41
  rw [hw1]
  have HG1 : Hid (w.grownBy w1 (some g)) := by rw [← hw1]; exact grown_of_below hbw
  clear hw1 hbw
  obtain ⟨b, hb⟩ : ∃ b, w.heap.size = b := ⟨_, rfl⟩
  rw [hb] at HBK c0 c9 c40 c41 hs1 hgl
  rw [hb]
  have hbl : b < w1.heap.size := by omega
  refine wp_region_held_drew (S := fun W => Below w1.heap.size w1 W) (by kernel_rfl) ?_ (fun hHeld => ?_)
  · exact (Below.refl _ _).drew
  refine wpAnyH_take (i := 0) (v := ?v0_1) rfl (by kernel_rfl) (by kernel_rfl) (by kernel_rfl) (fun _ _ _ h => h) (Or.inl ⟨by rfl, ?hy0_1⟩) (by assumption) ?_
  case hy0_1 => (intro W hSw; (try dsimp only at hSw); go_simp; (try with_reducible rfl))
  try simp only [Act.put, List.getElem_toArray, List.getElem_cons_zero, List.setIfInBounds_toArray, List.set_cons_zero, List.set_cons_succ]
  refine wpAnyH_take (i := 1) (v := ?v1_1) rfl (by kernel_rfl) (by kernel_rfl) (by kernel_rfl) (fun _ _ _ h => h) (Or.inl ⟨by rfl, ?hy1_1⟩) (by assumption) ?_
  case hy1_1 => (intro W hSw; have p0 := (Below.cell hSw (p := ⟨b, 40, none⟩) hbl).trans c40; (try dsimp only at hSw); go_simp; (try with_reducible rfl))
  try simp only [Act.put, List.getElem_toArray, List.getElem_cons_zero, List.getElem_cons_succ, List.setIfInBounds_toArray, List.set_cons_zero, List.set_cons_succ]
  refine wpAnyH_take (i := 3) (v := ?v3_1) rfl (by kernel_rfl) (by kernel_rfl) (by kernel_rfl) (fun _ _ _ h => h) (Or.inl ⟨by rfl, ?hy3_1⟩) (by assumption) ?_
  case hy3_1 => (intro W hSw; (try dsimp only at hSw); go_simp; (try with_reducible rfl))
  try simp only [Act.put, List.getElem_toArray, List.getElem_cons_zero, List.getElem_cons_succ, List.setIfInBounds_toArray, List.set_cons_zero, List.set_cons_succ]
  refine wpAnyH_take (i := 4) (v := ?v4_1) rfl (by kernel_rfl) (by kernel_rfl) (by kernel_rfl) (fun _ _ _ h => h) (Or.inl ⟨by rfl, ?hy4_1⟩) (by assumption) ?_
  case hy4_1 => (intro W hSw; have p0 := (Below.cell hSw (p := ⟨b, 41, none⟩) hbl).trans c41; (try dsimp only at hSw); go_simp; (try with_reducible rfl))
  try simp only [Act.put, List.getElem_toArray, List.getElem_cons_zero, List.getElem_cons_succ, List.setIfInBounds_toArray, List.set_cons_zero, List.set_cons_succ]
  refine wpAnyH_ready (rs := [2]) (by kernel_rfl) (by simp) ?_
  refine AllReadyH.cons rfl (fun K hK => ?_) AllReadyH.nil
  refine step_appendX txTy rfl (.const (.slice none 0 0)) (.tmp 15) (by rfl) w1.heap.size (.slice none 0 0) [] r.x.wants (by rfl) (OwnG.nil _ _) WA wc B (by rfl) (HW4.out.below (hHeld.mono (by omega))) (by simp; omega) hHeld.size ?_
  intro v1 wa1 ho1 hg1 _
  have hb1 : Below w1.heap.size w1 wa1 := hHeld.grown hg1 hHeld.size (fun k hk => by cases hk)
  have HO1 := Lib.hid ho1
  refine hK.out _ _ ?_ (fun hHeld2 => ?_)
  · exact hb1
  clear hK K hHeld ho1 hg1 hb1
  have hHeld := hHeld2
  clear hHeld2
  try simp only [Act.put, List.getElem_toArray, List.getElem_cons_zero, List.getElem_cons_succ, List.setIfInBounds_toArray, List.set_cons_zero, List.set_cons_succ]
  refine wpAnyH_ready (rs := [5]) (by kernel_rfl) (by simp) ?_
  refine AllReadyH.cons rfl (fun K hK => ?_) AllReadyH.nil
  refine step_appendX txTy rfl (.tmp 16) (.tmp 18) (by rfl) w1.heap.size v1 ([] ++ r.x.wants) r.x.reqs (by rfl) HO1.out QA qc B (by rfl) (HQ4.out.below (hHeld.mono (by omega))) (by simp; omega) hHeld.size ?_
  intro v2 wa2 ho2 hg2 _
  have hb2 : Below w1.heap.size w1 wa2 := hHeld.grown hg2 hHeld.size (fun k hk => (HO1.out.lt hk).1)
  have HO2 := Lib.hid ho2
  refine hK.out _ _ ?_ (fun hHeld2 => ?_)
  · exact hb2
  clear hK K hHeld ho2 hg2 hb2
  have hHeld := hHeld2
  clear hHeld2
  try simp only [Act.put, List.getElem_toArray, List.getElem_cons_zero, List.getElem_cons_succ, List.setIfInBounds_toArray, List.set_cons_zero, List.set_cons_succ]
  refine wpAnyH_take (i := 6) (v := ?v6_1) rfl (by kernel_rfl) (by kernel_rfl) (by kernel_rfl) (fun _ _ _ h => h) (Or.inl ⟨by rfl, ?hy6_1⟩) (by assumption) ?_
  case hy6_1 => (intro W hSw; (try dsimp only at hSw); go_simp; (try with_reducible rfl))
  try simp only [Act.put, List.getElem_toArray, List.getElem_cons_zero, List.getElem_cons_succ, List.setIfInBounds_toArray, List.set_cons_zero, List.set_cons_succ]
  refine wpAnyH_done (by kernel_rfl) ?_ _
  have HH := Lib.hid hHeld
  clear hHeld HO1
  have h0 : Hid (OwnG txLay 9 wa2 w1.heap.size v2 (namesK r.x 0)) := by show OwnG _ _ _ _ _ _; rw [namesK_zero]; exact HO2.out
  clear HO2
  obtain ⟨A0, k0, hv0, hz1, hz2, hz3, hz4⟩ := h0.out.slice (by have := namesK_len r.x 0; unfold maxLen; omega)
  subst hv0
  clear hz1 hz2 hz3 hz4
  have hsa := HH.out.size
  have d0 := (Below.cell HH.out (p := ⟨b, 0, none⟩) hbl).trans c0
  have d9 := (Below.cell HH.out (p := ⟨b, 9, none⟩) hbl).trans c9
  go_wp2_with fail
  go_loopw [6, 24] (fun p i wr => ∃ (A : Option Addr) (m c k : Nat), k ≤ r.x.rels.length ∧ (namesK r.x k).length = m ∧ p = .slice A m c ∧ i = .int .i64 k ∧ Hid (OwnG txLay 9 wr w1.heap.size (.slice A m c) (namesK r.x k)) ∧ Hid (Below w1.heap.size w1 wr)) (fun p i wr => r.x.rels.length - (intOf i).toNat)
  case atStart => exact ⟨A0, _, k0, 0, Nat.zero_le _, rfl, rfl, rfl, h0, HH⟩
  case round =>
    obtain ⟨A, m, c, k, hk, hm, rfl, rfl, hO, hB⟩ := hrel
    clear d0 d9 h0 HH hsa
    by_cases hlt : k < r.x.rels.length
    · have b0 : (0 : Int) ≤ (k : Int) := by omega
      have b1 : (k : Int) < (r.x.rels.length : Int) := by omega
      have hbs := hB.out.size
      obtain ⟨ad, e, rfl, hab, hx, q0, q1⟩ := rls_at (HR4.out.below (hB.out.mono (by omega))) hlt
      have HT := Lib.hid (take_filt hx (fun r => decide (r.1 = 1 ∨ r.1 = 2)) (·.2))
      have hml := namesK_len r.x (k + 1)
      clear hx
      have HBr : Hid (Below w1.heap.size w1 (wr.alloc (.cells #[.int .i64 e.1, .string (str e.2)] 56))) := hB.out.alloc hB.out.size _
      have HOr : Hid (OwnG txLay 9 (wr.alloc (.cells #[.int .i64 e.1, .string (str e.2)] 56)) w1.heap.size (.slice A m c) (namesK r.x k)) := hO.out.below ((Below.refl _ wr).alloc (Nat.le_refl _) _)
      by_cases hP : e.1 = 1 ∨ e.1 = 2
      · have HN : Hid (namesK r.x (k + 1) = namesK r.x k ++ [e.2]) := by
          show _ = _
          unfold namesK
          rw [HT.out, if_pos (decide_eq_true hP)]
          simp
        have hm2 : m + 1 ≤ 1048576 := by
          rw [HN.out, List.length_append, hm] at hml
          simp at hml
          omega
        clear HT
        obtain ⟨ek, et⟩ := e
        have hkk : ek = 1 ∨ ek = 2 := hP
        clear hP
        rcases hkk with rfl | rfl
        · have HNC : Hid (∀ i u, (txLay.all [et])[i]? = some u → ((wr.alloc (.cells #[.int .i64 1, .string (str et)] 56)).alloc (.cells #[.string (str et)] 9)).cell? ((⟨wr.heap.size + 1, 0, none⟩ : Addr).add i) = some u) := fun i u hi => by
            have hz := (Blk.new (wr.alloc (.cells #[.int .i64 1, .string (str et)] 56)) 9 #[.string (str et)]).cell i
            rw [show (wr.alloc (.cells #[.int .i64 1, .string (str et)] 56)).heap.size = wr.heap.size + 1 by simp] at hz
            rw [add_g0, hz]
            cases i with
            | zero => simpa [Lay.all, txLay] using hi
            | succ i => simp [Lay.all, txLay] at hi
          have HOa : Hid (OwnG txLay 9 ((wr.alloc (.cells #[.int .i64 1, .string (str et)] 56)).alloc (.cells #[.string (str et)] 9)) w1.heap.size (.slice A m c) (namesK r.x k)) := HOr.out.below ((Below.refl _ _).alloc (Nat.le_refl _) _)
          have HBa : Hid (Below w1.heap.size w1 ((wr.alloc (.cells #[.int .i64 1, .string (str et)] 56)).alloc (.cells #[.string (str et)] 9))) := HBr.out.alloc HBr.out.size _
          have hml2 : (namesK r.x k ++ [et]).length = m + 1 := by rw [List.length_append, hm]; rfl
          have hbz := HBa.out.size
          go_wp2_with (refine wpList_appendO txTy rfl (.tmp 36) (.tmp 39) (by rfl) w1.heap.size (.slice A m c) (namesK r.x k) [et] (by rfl) HOa.out ⟨wr.heap.size + 1, 0, none⟩ 1 1 (by rfl) rfl HNC.out (by omega) hbz ?_; intro v4 w4 ho4 hg4 hat4)
          have HB4 : Hid (Below w1.heap.size w1 w4) := HBa.out.grown hg4 hbz (fun g hg => (HOa.out.lt hg).1)
          obtain ⟨A5, c5, hv5, hz1, hz2, hz3, hz4⟩ := ho4.slice (by rw [hml2]; unfold maxLen; omega)
          rw [hml2] at hv5
          subst hv5
          have HO4 := Lib.hid ho4
          clear hz1 hz2 hz3 hz4 ho4 hg4 hat4 HOa HBa HNC hbz q0 q1
          go_wp2_with fail
          go_roundw
          case rel => exact ⟨A5, _, c5, k + 1, by omega, by rw [HN.out]; exact hml2, rfl, by go_num, by rw [HN.out]; exact HO4, HB4⟩
          case measure => simp [intOf]; omega
        · have HNC : Hid (∀ i u, (txLay.all [et])[i]? = some u → ((wr.alloc (.cells #[.int .i64 2, .string (str et)] 56)).alloc (.cells #[.string (str et)] 9)).cell? ((⟨wr.heap.size + 1, 0, none⟩ : Addr).add i) = some u) := fun i u hi => by
            have hz := (Blk.new (wr.alloc (.cells #[.int .i64 2, .string (str et)] 56)) 9 #[.string (str et)]).cell i
            rw [show (wr.alloc (.cells #[.int .i64 2, .string (str et)] 56)).heap.size = wr.heap.size + 1 by simp] at hz
            rw [add_g0, hz]
            cases i with
            | zero => simpa [Lay.all, txLay] using hi
            | succ i => simp [Lay.all, txLay] at hi
          have HOa : Hid (OwnG txLay 9 ((wr.alloc (.cells #[.int .i64 2, .string (str et)] 56)).alloc (.cells #[.string (str et)] 9)) w1.heap.size (.slice A m c) (namesK r.x k)) := HOr.out.below ((Below.refl _ _).alloc (Nat.le_refl _) _)
          have HBa : Hid (Below w1.heap.size w1 ((wr.alloc (.cells #[.int .i64 2, .string (str et)] 56)).alloc (.cells #[.string (str et)] 9))) := HBr.out.alloc HBr.out.size _
          have hml2 : (namesK r.x k ++ [et]).length = m + 1 := by rw [List.length_append, hm]; rfl
          have hbz := HBa.out.size
          go_wp2_with (refine wpList_appendO txTy rfl (.tmp 36) (.tmp 39) (by rfl) w1.heap.size (.slice A m c) (namesK r.x k) [et] (by rfl) HOa.out ⟨wr.heap.size + 1, 0, none⟩ 1 1 (by rfl) rfl HNC.out (by omega) hbz ?_; intro v4 w4 ho4 hg4 hat4)
          have HB4 : Hid (Below w1.heap.size w1 w4) := HBa.out.grown hg4 hbz (fun g hg => (HOa.out.lt hg).1)
          obtain ⟨A5, c5, hv5, hz1, hz2, hz3, hz4⟩ := ho4.slice (by rw [hml2]; unfold maxLen; omega)
          rw [hml2] at hv5
          subst hv5
          have HO4 := Lib.hid ho4
          clear hz1 hz2 hz3 hz4 ho4 hg4 hat4 HOa HBa HNC hbz q0 q1
          go_wp2_with fail
          go_roundw
          case rel => exact ⟨A5, _, c5, k + 1, by omega, by rw [HN.out]; exact hml2, rfl, by go_num, by rw [HN.out]; exact HO4, HB4⟩
          case measure => simp [intOf]; omega
      · have HN : Hid (namesK r.x (k + 1) = namesK r.x k) := by
          show _ = _
          unfold namesK
          rw [HT.out, if_neg (by simpa using hP)]
          simp
        have t1 : (e.1 == 1) = false := by simp; exact fun h => hP (.inl h)
        have t2 : (e.1 == 2) = false := by simp; exact fun h => hP (.inr h)
        clear hP
        go_wp2_with fail
        go_roundw
        case rel => exact ⟨A, _, c, k + 1, by omega, by rw [HN.out]; exact hm, rfl, by go_num, by rw [HN.out]; exact HOr, HBr⟩
        case measure => simp [intOf]; omega
    · obtain rfl : k = r.x.rels.length := by omega
      obtain ⟨wn, hren⟩ : ∃ wn, wn = wr := ⟨wr, rfl⟩
      subst hren
      have hbs := hB.out.size
      have HON : Hid (OwnG txLay 9 wn w1.heap.size (.slice A m c) (namesC r.x)) := by show OwnG _ _ _ _ _ _; rw [← namesK_all]; exact hO.out
      have hmN : (namesC r.x).length = m := by rw [← namesK_all]; exact hm
      have hmb1 : m ≤ 1048576 := by have := namesK_len r.x r.x.rels.length; omega
      have HC1 := Lib.hid (HC.out.grown (grown_of_below hB.out))
      have HO1 := Lib.hid (HO.out.below hB.out)
      have HGW : Hid (w.grownBy wn (some g)) := grown_trans HG1.out (grown_of_below hB.out)
      have d0 : wn.cell? ⟨b, 0, none⟩ = some (.string (str r.x.n)) := (Below.cell hB.out (p := ⟨b, 0, none⟩) hbl).trans c0
      have HZ : Hid (Os wn wn g ns (edgesL (nodeB ns) r.x.n es (targK L r.x 0))) := ⟨HO1.out.box, HO1.out.ok, HO1.out.few, World.grownBy.refl _ _⟩
      have hgr : g < wn.heap.size := by omega
      have hbr : b < wn.heap.size := by omega
      have hgb : b ≠ g := by omega
      clear hm c0 c9 c40 c41 hO hB HC HO HI HBK HW4 HQ4 HR4 HG1 HO1 hlt
      go_wp2_with fail
      go_loopw [44] (fun i wl => ∃ j : Nat, j ≤ m ∧ i = .int .i64 j ∧ Hid (Os wn wl g ns (edgesL (nodeB ns) r.x.n es (targK L r.x j)))) (fun i wl => m - (intOf i).toNat)
      case atStart => exact ⟨0, Nat.zero_le _, rfl, HZ⟩
      case round =>
        obtain ⟨j, hj, rfl, hOs⟩ := hrel
        obtain ⟨wl, hren⟩ : ∃ wl, wl = wr := ⟨wr, rfl⟩
        subst hren
        by_cases hlt : j < m
        · have b0 : (0 : Int) ≤ (j : Int) := by omega
          have b1 : (j : Int) < (m : Int) := by omega
          have HONl := Lib.hid (HON.out.kept hOs.out.grown (fun g' hg' e => by have := (HON.out.lt hg').1; injection e with e; omega))
          obtain ⟨_, _, hv3, hz1, hz2, hz3, hrow⟩ := HONl.out.slice (by rw [hmN]; unfold maxLen; omega)
          injection hv3 with hv1 hv2 hv3
          subst hv1
          rw [hmN] at hrow
          obtain ⟨ad, t, rfl, hab, hx, q0⟩ := txs_at hrow hlt
          have htl : t.length ≤ maxLen := namesC_small HM.out.small t (List.mem_of_getElem? hx)
          have HTK := Lib.hid (targK_succ (L := L) hx)
          rw [look_behind] at HTK
          have HC2 := Lib.hid (HC1.out.grown hOs.out.grown)
          have hlk := HC2.out.look t htl
          obtain ⟨R, hR⟩ : ∃ R, lookR L t = R := ⟨_, rfl⟩
          have HIR : Hid (LdIs wl B R) := by rw [← hR]; exact HC2.out.at_ t
          rw [hR] at hlk HTK
          obtain ⟨RA, rc, hl1, hl2, hl3, hl4⟩ := HIR.out.rels
          have HRR := Lib.hid hl4
          have hmR := hl4.2.1
          unfold maxLen at hmR
          have f4 := fun W => fld_unit R W
          have f5 := fun W => fld_rels R hl1 W
          have e0 := hOs.out.cell d0 hgb
          have hwl := hOs.out.grown.size
          have HGL := Lib.hid hOs.out.grown
          have HB0 : Hid (Below wl.heap.size wl wl) := Below.refl _ _
          have hst := HIR.out.state
          clear hx hv2 hv3 hrow hl1 hl3 hl4 HONl hz1 hz2 hz3
          go_wp2_with fail
          go_loopw [11, 54] (fun p i wi => ∃ q : Nat, q ≤ R.x.rels.length ∧ p = .bool (decide (R.x.s = 1) && decide ((8, r.x.n) ∈ R.x.rels.take q)) ∧ i = .int .i64 q ∧ Hid (Below wl.heap.size wl wi)) (fun p i wi => R.x.rels.length - (intOf i).toNat)
          case atStart => exact ⟨0, Nat.zero_le _, by simp, rfl, HB0⟩
          case round =>
            obtain ⟨q, hq, rfl, rfl, hB⟩ := hrel
            obtain ⟨wi, hren⟩ : ∃ wi, wi = wr := ⟨wr, rfl⟩
            subst hren
            clear hlk
            have hbi := hB.out.size
            by_cases hqt : q < R.x.rels.length
            · have c0 : (0 : Int) ≤ (q : Int) := by omega
              have c1 : (q : Int) < (R.x.rels.length : Int) := by omega
              obtain ⟨rd, x, rfl, hrb, hx, r0, r1⟩ := rls_at (HRR.out.below (hB.out.mono (by omega))) hqt
              have HMT := Lib.hid (mem_takeR (y := ((8 : Int), r.x.n)) hx)
              clear hx
              have HBr : Hid (Below wl.heap.size wl (wi.alloc (.cells #[.int .i64 x.1, .string (str x.2)] 56))) := hB.out.alloc hB.out.size _
              have HC3 := Lib.hid (HC2.out.grown (grown_of_below HBr.out))
              have hlk : (Instr.lookup 73 (.map (some mb)) (.string (str t)) false).run Tryz.prog (wi.alloc (.cells #[.int .i64 x.1, .string (str x.2)] 56)) = .ok (.agg R.a) (wi.alloc (.cells #[.int .i64 x.1, .string (str x.2)] 56)) := by rw [← hR]; exact HC3.out.look t htl
              have f1 := fun W => fld_state R hst W
              have e1 : (wi.alloc (.cells #[.int .i64 x.1, .string (str x.2)] 56)).cell? ⟨b, 0, none⟩ = some (.string (str r.x.n)) := (Below.cell HBr.out (p := ⟨b, 0, none⟩) (by show b < wl.heap.size; omega)).trans e0
              have hqe : ∀ W, (binOp .eql 56 (.agg #[.int .i64 x.1, .string (str x.2)]) (.agg #[.int .i64 8, .string (str r.x.n)])).run Tryz.prog W = .ok (.bool (decide (x = (8, r.x.n)))) W := fun W => by
                rw [run_eql_rel, eqT_str]
                congr 2
                obtain ⟨x1, x2⟩ := x
                rw [Bool.eq_iff_iff, Bool.and_eq_true, beq_iff_eq, decide_eq_true_eq, decide_eq_true_eq, Prod.mk.injEq]
              clear HC3
              by_cases hs1' : R.x.s = 1
              · have u1 : (R.x.s == 1) = true := by simpa using hs1'
                have u2 : decide (R.x.s = 1) = true := decide_eq_true hs1'
                clear hs1'
                rcases hbh : decide (((8 : Int), r.x.n) ∈ R.x.rels.take q) with _ | _
                · rw [hbh] at HMT
                  have HV : Hid ((true && decide (((8 : Int), r.x.n) ∈ R.x.rels.take (q + 1))) = decide (x = (8, r.x.n))) := by show _ = _; rw [HMT.out]; rfl
                  rw [u2]
                  clear hbh u2 HMT
                  go_wp2_with fail
                  go_roundw
                  case rel => exact ⟨q + 1, by omega, by rw [HV.out], by go_num, HBr⟩
                  case measure => simp [intOf]; omega
                · rw [hbh] at HMT
                  have HV : Hid ((true && decide (((8 : Int), r.x.n) ∈ R.x.rels.take (q + 1))) = true) := by show _ = _; rw [HMT.out]; rfl
                  rw [u2]
                  clear hbh u2 HMT
                  go_wp2_with fail
                  go_roundw
                  case rel => exact ⟨q + 1, by omega, by rw [HV.out], by go_num, HBr⟩
                  case measure => simp [intOf]; omega
              · have u1 : (R.x.s == 1) = false := by simpa using hs1'
                have u2 : decide (R.x.s = 1) = false := decide_eq_false hs1'
                clear hs1' HMT
                rw [u2]
                clear u2
                simp only [Bool.false_and]
                go_wp2_with fail
                go_roundw
                case rel => exact ⟨q + 1, by omega, rfl, by go_num, HBr⟩
                case measure => simp [intOf]; omega
            · obtain rfl : q = R.x.rels.length := by omega
              rw [List.take_of_length_le (Nat.le_refl _)]
              have HZi := Lib.hid (hOs.out.below hB.out)
              have e1 : wi.cell? ⟨b, 0, none⟩ = some (.string (str r.x.n)) := (Below.cell hB.out (p := ⟨b, 0, none⟩) (by show b < wl.heap.size; omega)).trans e0
              rcases hbb : (decide (R.x.s = 1) && decide (((8 : Int), r.x.n) ∈ R.x.rels)) with _ | _
              · rw [hbb] at HTK
                have HT2 : Hid (edgesL (nodeB ns) r.x.n es (targK L r.x (j + 1)) = edgeL (nodeB ns) r.x.n (edgesL (nodeB ns) r.x.n es (targK L r.x j)) (t, 8)) := by show _ = _; rw [HTK.out, if_neg (by simp), edgesL_snoc]
                clear hbb HTK
                go_wp2_with fail
                refine (HZi.out.edge HM.out.node t 8 (by decide) (by decide)).mono ?_
                rintro e w5 ⟨rfl, h5⟩
                have H5 := Lib.hid h5
                clear h5
                go_wp2_with fail
                go_roundw
                case rel => exact ⟨j + 1, by omega, by go_num, by rw [HT2.out]; exact H5⟩
                case measure => simp [intOf]; omega
              · rw [hbb] at HTK
                have HT2 : Hid (edgesL (nodeB ns) r.x.n es (targK L r.x (j + 1)) = edgesL (nodeB ns) r.x.n es (targK L r.x j)) := by show _ = _; rw [HTK.out, if_pos rfl, List.append_nil]
                clear hbb HTK
                go_wp2_with fail
                go_roundw
                case rel => exact ⟨j + 1, by omega, by go_num, by rw [HT2.out]; exact HZi⟩
                case measure => simp [intOf]; omega
        · obtain rfl : j = m := by omega
          go_wp2_with fail
          refine bodyPost_ret (results_none rfl _ _ _) rfl ?_
          have h1 := hOs.out
          rw [← hmN, targK_all] at h1
          exact ⟨rfl, h1.box, h1.ok, h1.few, grown_trans HGW.out h1.grown⟩
end Go.Proofs.YtcoepioahabbdaaGreat
