/- A loaded unit's cells as one value: loads, a box; the walk of the document's Wakes. An append of a row that may be empty -/
import Derived.Test.YtcoepioahabbdaaGreatGyam
import Derived.Test.YtcoepioahabbdaaGreatGyao
import Derived.Test.YtcoepioahabbdaaGreatGyaq
namespace Go.Proofs.YtcoepioahabbdaaGreat
open Go.RowKit
theorem heap_alloc_setRow (w : World) (z a : Array Value) (t : TypeId) : (w.alloc (.cells z t)).setRow w.heap.size a = w.alloc (.cells a t) := by
  unfold World.setRow World.alloc
  congr 1
  apply Array.ext_getElem?
  intro i
  simp only [Array.getElem?_modify, Array.getElem?_push]
  by_cases h : i = w.heap.size
  · subst h; simp
  · have h' : ¬ w.heap.size = i := fun e => h e.symm
    simp [h, h']
section
variable {P : Program}
theorem run_loadVar_part (w : World) (ad : Addr) (ty : TypeId) (cs : Array Value) (d : TypeDesc) (hc : ∀ j v, cs[j]? = some v → w.cell? (ad.add j) = some v)
    (hu : P.underlying ty = some d) (hd : (match d with | .struct _ | .array _ _ => true | _ => false) = true) (hi : (P.info? ty).map (·.size) = some cs.size) :
    (loadVar ty ad).run P w = .ok (.agg cs) w := by
  have hl : (loadCells ad cs.toList.length).run P w = .ok cs.toList.toArray w :=
    run_loadCells_list (P := P) w ad cs.toList (fun j v hv => hc j v (by simpa using hv))
  cases hq : P.info? ty with
  | none => simp [hq] at hi
  | some i =>
    have hs : i.size = cs.size := by simpa [hq] using hi
    have hagg : (isAgg ty).run P w = .ok true w := by
      unfold isAgg
      rw [Sem.run_bind, run_underlying hu w]
      cases d <;> simp_all
    simp only [Array.length_toList, Array.toArray_toList] at hl
    simp [loadVar, Sem.run_bind, hagg, sizeOf, typeInfo, hq, hs, hl]
theorem run_field_part (w : World) (t : TypeId) (a : Array Value) (i : Nat) (fs : Array Field) (f : Field) (v : Value) (hs : P.underlying t = some (.struct fs)) (hf : fs[i]? = some f) (hn : (isAgg f.type).run P w = .ok false w) (hv : a[f.offset]? = some v) :
    (Instr.field t (.agg a) i).run P w = .ok v w := by
  simp [Instr.field, part, Sem.run_bind, run_underlying hs w, hf, asAgg, hn, hv]
end
def LdR.u (r : LdR) : Array Value := r.a.extract 5 40
theorem LdR.usize (r : LdR) : r.u.size = 35 := by unfold LdR.u; rw [Array.size_extract, r.size]; rfl
theorem LdR.uat (r : LdR) (i : Nat) (hi : i < 35) : r.u[i]? = r.a[5 + i]? := by
  unfold LdR.u
  rw [Array.getElem?_extract]
  rw [if_pos (by rw [r.size]; omega)]
theorem LdR.uall (r : LdR) : r.u.all (·.oneCell') = true := by
  rw [Array.all_eq_true_iff_forall_mem]
  intro u hu
  refine r.one u ?_
  unfold LdR.u at hu
  rw [Array.mem_extract_iff_getElem] at hu
  obtain ⟨k, hk, rfl⟩ := hu
  exact Array.mem_toList_iff.2 (Array.getElem_mem _)
theorem infoL (r : LdR) : (Tryz.prog.info? 53).map (·.size) = some r.a.size := by rw [r.size]; kernel_rfl
theorem infoU (r : LdR) : (Tryz.prog.info? 51).map (·.size) = some r.u.size := by rw [r.usize]; kernel_rfl
theorem ret_tx {x y : Tx} (h : x = y) : Ending.returned (.string (str x)) = .returned (.string (str y)) := by rw [h]
structure UIs (u : Array Value) (un ut : Tx) (uk : Int) : Prop where
  n : u[0]? = some (.string (str un))
  k : u[1]? = some (.int .i64 uk)
  t : u[24]? = some (.string (str ut))
set_option maxHeartbeats 4000000 in
theorem gWakes_any (u : Array Value) (un ut : Tx) (uk : Int) (h : UIs u un ut uk) (hs : un.length ≤ maxLen) (w : World) :
    Calls Tryz.prog 58 #[.agg u] w fun e w' => e = .returned (.string (str (wakeT uk ut un))) ∧ Below w.heap.size w w' := by
  have HB : Hid (Below w.heap.size w (w.alloc (.cells u 51))) := (Below.refl _ w).alloc (Nat.le_refl _) _
  have c0 : (w.alloc (.cells u 51)).cell? ⟨w.heap.size, 0, none⟩ = some (.string (str un)) := box_cell (Blk.new w _ u) h.n
  have c1 : (w.alloc (.cells u 51)).cell? ⟨w.heap.size, 1, none⟩ = some (.int .i64 uk) := box_cell (Blk.new w _ u) h.k
  have c2 : (w.alloc (.cells u 51)).cell? ⟨w.heap.size, 24, none⟩ = some (.string (str ut)) := box_cell (Blk.new w _ u) h.t
  have hl : (str un).size ≤ maxLen := by rw [str_size]; exact hs
  clear h
  have key : uk = 2 ∨ uk = 3 → Calls Tryz.prog 58 #[.agg u] w fun e w' => e = .returned (.string (str (wakeT uk ut un))) ∧ Below w.heap.size w w' := fun hk => by
    by_cases ht : ut = []
    · subst ht
      have HW : Hid (str (wakeT uk [] un) = Nm.chgS (str un) 1) := by
        show _ = _
        unfold wakeT
        rw [if_pos hk, if_pos rfl]
        exact str_data _
      have hq : (str []).toList.isEmpty = true := by rw [Lib.toList_data, str_list]; rfl
      rcases hk with rfl | rfl
      all_goals
        go_enter Tryz.func58, Tryz.ntmps58
        go_wp2_with fail
        refine (Nm.rChange_any _ 1 hl _).mono ?_
        rintro e w1 ⟨rfl, hb1⟩
        have HB1 := Lib.hid (more3 HB.out HB.out.size hb1)
        clear hb1
        go_wp2_with fail
        go_ret
        exact ⟨(congrArg (fun x => Ending.returned (.string x)) HW.out).symm, HB1.out⟩
    · have hq : (str ut).toList.isEmpty = false := by
        rw [Lib.toList_data, str_list]
        cases ut with
        | nil => exact absurd rfl ht
        | cons _ _ => rfl
      have HW : Hid (wakeT uk ut un = ut) := by
        show _ = _
        unfold wakeT
        rw [if_pos hk, if_neg ht]
      clear ht
      rcases hk with rfl | rfl
      all_goals
        go_enter Tryz.func58, Tryz.ntmps58
        go_wp2_with fail
        go_ret
        exact ⟨ret_tx HW.out.symm, HB.out⟩
  by_cases h2 : uk = 2
  · exact key (.inl h2)
  · by_cases h3 : uk = 3
    · exact key (.inr h3)
    · have HW : Hid (wakeT uk ut un = []) := by
        show _ = _
        unfold wakeT
        rw [if_neg (by simp [h2, h3])]
      have d2 : (uk != 2) = true := by simpa using h2
      have d3 : (uk != 3) = true := by simpa using h3
      clear key h2 h3
      go_enter Tryz.func58, Tryz.ntmps58
      go_wp2_with fail
      go_ret
      exact ⟨ret_tx HW.out.symm, HB.out⟩
end Go.Proofs.YtcoepioahabbdaaGreat
namespace Go.Proofs.YtcoepioahabbdaaGreat
open Go.RowKit
section
variable {P : Program}
theorem run_append_zero (w : World) (base : Nat) (t ty e : TypeId) (i : TypeInfo) (size : Nat) (ht : P.underlying t = some (.slice e)) (hi : P.info? e = some i)
    (v : Value) (n : Nat) (xs : List Value) (hown : w.ownsRow base e size v n xs) (A : Option Addr) (c : Nat) :
    (Builtin.append_ #[t, t] ty #[v, .slice A 0 c]).run P w = .ok v w := by
  rcases hown.2 with ⟨rfl, rfl⟩ | ⟨g, cap, cur, rfl, _, _, hnc, _⟩ <;> cases A
  all_goals simp [Builtin.append_, run_underlying ht, sizeOf, typeInfo, Builtin.lenOf, Builtin.firstCells, loadCells, loadCellsFrom, storeCells, *]
variable {α : Type} {L : Lay α} {T TS : TypeId}
theorem step_appendX (K : TyOk P L T TS) {w : World} {ops : Array Oper} {o : Oper} {a : Act} {C : Act → World → Prop} {Q : Exit → Act → World → Prop} {E : Prop} (hgd : o.guard = none) (s x : Operand)
    (ho : o.op = .call { callee := .builtin .append, args := #[s, x], argTypes := #[TS, TS] })
    (base : Nat) (v : Value) (l m : List α) (hs : a.eval s = v) (hown : OwnG L T w base v l) (A : Option Addr) (c B : Nat) (hx : a.eval x = .slice A m.length c) (hm : SlAt L w B A m.length m) (hl : l.length + m.length ≤ 1099511627776) (hbase : base ≤ w.heap.size)
    (h : ∀ v' w', OwnG L T w' base v' (l ++ m) → w.grownBy w' v.ownBlock → (v'.ownBlock = v.ownBlock ∨ v'.ownBlock = some w.heap.size) → C (a.put o.dst v') w') :
    if Region.wanted o (yielded ops a.tmps) = true then Oper.wp P o a w C Q else E := by
  by_cases h0 : 0 < m.length
  · obtain ⟨ad, rfl, _, hc⟩ := hm.2.2 h0
    exact step_appendO K hgd s x ho base v l m hs hown ad m.length c hx rfl hc hl hbase h
  · have hm0 : m = [] := List.eq_nil_of_length_eq_zero (by omega)
    subst hm0
    obtain ⟨i, z, b, i1, i2, i3, i4, i5, i6⟩ := K.info
    have hw : Region.wanted o (yielded ops a.tmps) = true := by simp [Region.wanted, hgd]
    rw [if_pos hw]
    have hr := run_append_zero (P := P) w base TS o.type T i L.sz K.und i1 v l.length (L.all l) hown A c
    unfold Oper.wp execOp
    simp only [List.length_nil] at hx
    simp only [ho, resolve, invoke, builtin, Sem.run_bind, Sem.run_pure, Result.andThen_ok, List.map_toArray, List.map_cons, List.map_nil, hs, hx, hr]
    refine h v w ?_ (World.grownBy.refl _ _) (.inl rfl)
    rw [List.append_nil]
    exact hown
end
end Go.Proofs.YtcoepioahabbdaaGreat
namespace Go.Proofs.YtcoepioahabbdaaGreat
open Go.RowKit
def kT (t : Tx) : Int := Nm.kindP (str t)
structure EsOk (ns : List Nd) (es : List Ed) : Prop where
  rise : risesG ltE es
  good : ∀ e ∈ es, nodeB ns e.f = true ∧ nodeB ns e.t = true ∧ 1 ≤ e.r ∧ e.r ≤ 10
theorem EsOk.nil (ns : List Nd) : EsOk ns [] := ⟨List.Pairwise.nil, fun e he => by cases he⟩
theorem nodeB_mem {ns : List Nd} {t : Tx} (h : nodeB ns t = true) : t ∈ ns.map (·.n) := by
  unfold nodeB nodeG at h
  obtain ⟨x, hx⟩ := Option.isSome_iff_exists.1 h
  have h1 := List.find?_some hx
  exact List.mem_map.2 ⟨x, List.mem_of_find?_eq_some hx, by simpa using h1⟩
theorem EsOk.len {ns : List Nd} {es : List Ed} (h : EsOk ns es) (hn : ns.length ≤ 64) : es.length ≤ 40960 :=
  few_edges (ns := ns.map (·.n)) h.rise (by rw [List.length_map]; exact hn) fun e he => by
    obtain ⟨a, b, c⟩ := h.good e he
    exact ⟨nodeB_mem a, nodeB_mem b, c⟩
theorem EsOk.edge {ns : List Nd} {es : List Ed} (h : EsOk ns es) {f : Tx} (hf : nodeB ns f = true) {c : Tx × Int} (hc : 1 ≤ c.2 ∧ c.2 ≤ 10) : EsOk ns (edgeL (nodeB ns) f es c) :=
  ⟨edgeL_rises h.rise c, fun e he => by
    rcases edgeL_mem.1 he with h1 | ⟨h1, _, rfl⟩
    · exact h.good e h1
    · exact ⟨hf, h1, hc⟩⟩
structure Os (w0 w : World) (g : Nat) (ns : List Nd) (es : List Ed) : Prop where
  box : GBox w g ns es
  ok : EsOk ns es
  few : ns.length ≤ 64
  grown : w0.grownBy w (some g)
theorem Os.below {w0 w w' : World} {g : Nat} {ns : List Nd} {es : List Ed} (h : Os w0 w g ns es) (hb : Below w.heap.size w w') : Os w0 w' g ns es :=
  ⟨h.box.below hb, h.ok, h.few, grown_trans h.grown (grown_of_below hb)⟩
theorem Os.alloc {w0 w : World} {g : Nat} {ns : List Nd} {es : List Ed} (h : Os w0 w g ns es) (o : Obj) : Os w0 (w.alloc o) g ns es := h.below ((Below.refl _ w).alloc (Nat.le_refl _) o)
theorem Os.edge {w0 w : World} {g : Nat} {ns : List Nd} {es : List Ed} (h : Os w0 w g ns es) {f : Tx} (hf : nodeB ns f = true) (t : Tx) (r : Int) (h1 : 1 ≤ r) (h2 : r ≤ 10) :
    Calls Tryz.prog 57 #[.pointer (some ⟨g, 0, none⟩), .string (str f), .string (str t), .int .i64 r] w fun e w' => e = .returned (.tuple #[]) ∧ Os w0 w' g ns (edgeL (nodeB ns) f es (t, r)) := by
  have hl := h.ok.len h.few
  have hf2 := h.few
  refine (gEdge_any g ns es f t r w h.box h.ok.rise (by omega) (by omega)).mono ?_
  rintro e w' ⟨rfl, h3, h4⟩
  exact ⟨rfl, h3, h.ok.edge hf ⟨h1, h2⟩, h.few, grown_trans h.grown h4⟩
theorem Os.cell {w0 w : World} {g : Nat} {ns : List Nd} {es : List Ed} (h : Os w0 w g ns es) {a : Addr} {v : Value} (hc : w0.cell? a = some v) (hne : a.block ≠ g) : w.cell? a = some v := h.grown.cell hc (fun e => hne (by injection e))
theorem Os.lt {w0 w : World} {g : Nat} {ns : List Nd} {es : List Ed} (h : Os w0 w g ns es) : g < w.heap.size := h.box.lt
def zeroA : Array Value := #[.string ⟨#[]⟩, .int .i64 0, .string ⟨#[]⟩, .int .i64 0, .int .i64 0, .string ⟨#[]⟩, .int .i64 0, .string ⟨#[]⟩, .bool false, .slice none 0 0, .int .i64 0, .int .i64 0, .int .i64 0, .slice none 0 0, .slice none 0 0, .slice none 0 0, .slice none 0 0, .slice none 0 0, .bool false, .int .i64 0, .int .i64 0, .int .i64 0, .int .i64 0, .slice none 0 0, .slice none 0 0, .slice none 0 0, .slice none 0 0, .int .i64 0, .string ⟨#[]⟩, .string ⟨#[]⟩, .slice none 0 0, .slice none 0 0, .slice none 0 0, .slice none 0 0, .bool false, .slice none 0 0, .slice none 0 0, .slice none 0 0, .slice none 0 0, .string ⟨#[]⟩, .slice none 0 0, .slice none 0 0]
theorem zeroL_run (w : World) : (zeroValue 53).run Tryz.prog w = .ok (.agg zeroA) w := by kernel_rfl
def zeroR : LdR := ⟨zeroA, ⟨[], 0, [], 0, [], [], false, [], [], []⟩, rfl, fun u hu => by
  have : zeroA.toList.all (·.oneCell') = true := by rfl
  exact List.all_eq_true.1 this u hu⟩
theorem rowC_none {α : Type} (L : Lay α) (w : World) (B : Nat) : RowC L w B (some (.slice none 0 0)) [] := ⟨none, 0, rfl, Nat.le_refl _, fun _ => rfl, SlAt.none_⟩
theorem zeroR_is (w : World) (B : Nat) : LdIs w B zeroR := ⟨rfl, rfl, rfl, rfl, rfl, rowC_none _ _ _, rowC_none _ _ _, ⟨[], rfl, rfl⟩, rowC_none _ _ _, rowC_none _ _ _⟩
def firstR (L : List LdR) (t : Tx) : Option LdR := L.find? (fun r => decide (r.x.n = t))
def mapR (L : List LdR) (t : Tx) : Option LdR := if kT t ≠ 0 then firstR L t else none
def mapF (L : List LdR) (t : Tx) : Option Value := (mapR L t).map (fun r => .agg r.a)
def lookR (L : List LdR) (t : Tx) : LdR := (mapR L t).getD zeroR
theorem mapF_get (L : List LdR) (t : Tx) : (mapF L t).getD (.agg zeroA) = .agg (lookR L t).a := by
  unfold mapF lookR
  cases mapR L t <;> rfl
theorem firstR_x (L : List LdR) (t : Tx) : firstL' (L.map (·.x)) t = (firstR L t).map (·.x) := by
  unfold firstL' firstR
  rw [List.find?_map]
  rfl
theorem mapR_x (L : List LdR) (t : Tx) : mapL kT (L.map (·.x)) t = (mapR L t).map (·.x) := by
  unfold mapL mapR
  by_cases h : kT t ≠ 0
  · rw [if_pos h, if_pos h, firstR_x]
  · rw [if_neg h, if_neg h]; rfl
theorem look_behind (L : List LdR) (x : Ld) (t : Tx) : behindB kT (L.map (·.x)) x t = (decide ((lookR L t).x.s = 1) && decide ((8, x.n) ∈ (lookR L t).x.rels)) := by
  unfold behindB lookR
  rw [mapR_x]
  cases mapR L t with
  | none => rfl
  | some r => rfl
theorem lookR_mem {L : List LdR} {t : Tx} : lookR L t ∈ L ∨ lookR L t = zeroR := by
  unfold lookR mapR firstR
  by_cases h : kT t ≠ 0
  · rw [if_pos h]
    cases hf : L.find? (fun r => decide (r.x.n = t)) with
    | none => exact .inr rfl
    | some r => exact .inl (List.mem_of_find?_eq_some hf)
  · rw [if_neg h]; exact .inr rfl
structure Ctx (w : World) (B g mb n : Nat) (L : List LdR) : Prop where
  is : ∀ r ∈ L, LdIs w B r
  map : MapV w mb n (mapF L)
  hB : B ≤ g
  hmb : mb < g
  hg : g < w.heap.size
theorem Ctx.grown {w w' : World} {B g mb n : Nat} {L : List LdR} (h : Ctx w B g mb n L) (hg : w.grownBy w' (some g)) : Ctx w' B g mb n L :=
  ⟨fun r hr => (h.is r hr).below ((grown_below hg (Nat.le_of_lt h.hg)).mono h.hB), h.map.kept hg (fun e => by have := h.hmb; injection e with e; omega), h.hB, h.hmb, Nat.lt_of_lt_of_le h.hg hg.size⟩
theorem Ctx.look {w : World} {B g mb n : Nat} {L : List LdR} (h : Ctx w B g mb n L) (t : Tx) (ht : t.length ≤ maxLen) :
    (Instr.lookup 73 (.map (some mb)) (.string (str t)) false).run Tryz.prog w = .ok (.agg (lookR L t).a) w := by
  rw [← mapF_get]
  exact h.map.look Tryz.underlying73 (zeroL_run w) t ht
theorem Ctx.at_ {w : World} {B g mb n : Nat} {L : List LdR} (h : Ctx w B g mb n L) (t : Tx) : LdIs w B (lookR L t) := by
  rcases lookR_mem (L := L) (t := t) with e | e
  · exact h.is _ e
  · rw [e]; exact zeroR_is w B
theorem fld_state (r : LdR) {v : Value} (h : r.a[1]? = some v) (w : World) : (Instr.field 53 (.agg r.a) 1).run Tryz.prog w = .ok v w := run_field_part w _ _ _ _ _ v Tryz.underlying53 rfl (by kernel_rfl) h
theorem fld_unit (r : LdR) (w : World) : (Instr.field 53 (.agg r.a) 4).run Tryz.prog w = .ok (.agg r.u) w := by kernel_rfl
theorem fld_rels (r : LdR) {v : Value} (h : r.a[9]? = some v) (w : World) : (Instr.field 51 (.agg r.u) 4).run Tryz.prog w = .ok v w := run_field_part w _ _ _ _ _ v Tryz.underlying51 rfl (by kernel_rfl) ((r.uat 4 (by decide)).trans h)
end Go.Proofs.YtcoepioahabbdaaGreat
namespace Go.Proofs.YtcoepioahabbdaaGreat
open Go.RowKit
def outP (es : List Ed) (u : Tx) (r : Int) (k : Nat) : List Tx := putAll (lt := fun a b : Tx => a < b) (((es.take k).filter (fun e => decide (e.f = u ∧ e.r = r))).map (·.t))
theorem outP_all (es : List Ed) (u : Tx) (r : Int) : outP es u r es.length = outG es u r := by unfold outP outG; rw [List.take_of_length_le (Nat.le_refl _)]
theorem outP_few (es : List Ed) (u : Tx) (r : Int) (k : Nat) : (outP es u r k).length ≤ es.length := by
  unfold outP
  have h1 := putAll_few (lt := fun a b : Tx => a < b) (((es.take k).filter (fun e => decide (e.f = u ∧ e.r = r))).map (·.t))
  have h2 := List.length_filter_le (fun e : Ed => decide (e.f = u ∧ e.r = r)) (es.take k)
  have h3 := (List.take_sublist k es).length_le
  rw [List.length_map] at h1
  omega
def inP (es : List Ed) (u : Tx) (r : Int) (k : Nat) : List Tx := putAll (lt := fun a b : Tx => a < b) (((es.take k).filter (fun e => decide (e.t = u ∧ e.r = r))).map (·.f))
theorem inP_all (es : List Ed) (u : Tx) (r : Int) : inP es u r es.length = inG es u r := by unfold inP inG; rw [List.take_of_length_le (Nat.le_refl _)]
theorem inP_few (es : List Ed) (u : Tx) (r : Int) (k : Nat) : (inP es u r k).length ≤ es.length := by
  unfold inP
  have h1 := putAll_few (lt := fun a b : Tx => a < b) (((es.take k).filter (fun e => decide (e.t = u ∧ e.r = r))).map (·.f))
  have h2 := List.length_filter_le (fun e : Ed => decide (e.t = u ∧ e.r = r)) (es.take k)
  have h3 := (List.take_sublist k es).length_le
  rw [List.length_map] at h1
  omega
end Go.Proofs.YtcoepioahabbdaaGreat
