/- Words for loaded units as one value, and for the lists that come of them. The developers' search among loaded units, and -/
import Derived.Test.YtcoepioahabbdaaGreatGyar
import Derived.Test.YtcoepioahabbdaaGreatGyat
import Derived.Test.YtcoepioahabbdaaGreatGyah
namespace Go.Proofs.YtcoepioahabbdaaGreat
open Go.RowKit Go.WideMaps Go.Maps
def relsK (x : Ld) (k : Nat) : List (Tx × Int) := ((x.rels.take k).filter (fun r => decide (1 ≤ r.1 ∧ r.1 ≤ 9))).map (fun r => (r.2, r.1))
theorem relsK_all (x : Ld) : relsK x x.rels.length = relsC x := by unfold relsK relsC; rw [List.take_of_length_le (Nat.le_refl _)]
theorem relsK_succ {x : Ld} {k : Nat} {e : Int × Tx} (h : x.rels[k]? = some e) : relsK x (k + 1) = relsK x k ++ (if 1 ≤ e.1 ∧ e.1 ≤ 9 then [(e.2, e.1)] else []) := by
  unfold relsK
  rw [List.take_add_one, h]
  simp only [Option.toList_some, List.filter_append, List.map_append]
  congr 1
  by_cases hp : 1 ≤ e.1 ∧ e.1 ≤ 9 <;> simp [hp]
theorem map_take_succ {α β : Type} {l : List α} {k : Nat} {x : α} (h : l[k]? = some x) (f : α → β) : (l.take (k + 1)).map f = (l.take k).map f ++ [f x] := by
  rw [List.take_add_one, h]
  simp
theorem flat_take_succ {α β : Type} {l : List α} {k : Nat} {x : α} (h : l[k]? = some x) (f : α → List β) : (l.take (k + 1)).flatMap f = (l.take k).flatMap f ++ f x := by
  rw [List.take_add_one, h]
  simp
theorem addA_mk (b i j : Nat) : (⟨b, i, none⟩ : Addr).add j = ⟨b, i + j, none⟩ := by unfold Addr.add; split <;> simp_all
theorem load_u {w : World} {b : Nat} (r : LdR) (h : ∀ k v, r.a[k]? = some v → w.cell? ⟨b, k, none⟩ = some v) : (loadVar 51 ⟨b, 5, none⟩).run Tryz.prog w = .ok (.agg r.u) w :=
  run_loadVar_part w ⟨b, 5, none⟩ _ r.u _ (fun j v hv => by
    have hj : j < 35 := by
      rcases Nat.lt_or_ge j 35 with h' | h'
      · exact h'
      · rw [Array.getElem?_eq_none (by rw [r.usize]; exact h')] at hv; cases hv
    rw [r.uat j hj] at hv
    rw [addA_mk]
    exact h _ v hv) Tryz.underlying51 rfl (infoU r)
theorem exec_load {P : Program} {a : Act} {o : Oper} {ty : TypeId} {x : Operand} (ho : o.op = .load ty x) (ad : Addr) (hx : a.eval x = .pointer (some ad)) (v : Value) (W : World) (h : (loadVar ty ad).run P W = .ok v W) : (execOp a.eval o).run P W = .ok (.value v) W := by
  unfold execOp
  simp only [ho, hx, Instr.loadAt, Instr.sureAddr, Sem.run_bind, Sem.run_pure, Result.andThen_ok, h]
theorem wpList_load_part {P : Program} {ops : Array Oper} {rest : List Oper} {o : Oper} {a : Act} {w : World} {Q : Exit → Act → World → Prop} (hgd : o.guard = none) (ty : TypeId) (x : Operand) (ho : o.op = .load ty x)
    (ad : Addr) (hx : a.eval x = .pointer (some ad)) (v : Value) (hl : (loadVar ty ad).run P w = .ok v w)
    (h : wpList P ops Q rest (a.put o.dst v) w) : wpList P ops Q (o :: rest) a w :=
  wpList_plain hgd fun _ hK => by
    have := exec_load ho ad hx v w hl
    unfold Oper.wp
    rw [this]
    exact hK _ _ h
theorem load_row {w : World} {B n : Nat} {A : Option Addr} {L : List LdR} (h : SlAt ldLay w B A n L) {k : Nat} (hk : k < n) : ∃ ad r, A = some ad ∧ ad.block < B ∧ L[k]? = some r ∧ ∀ W, Below B w W → (loadVar 53 (ad.add (k * 42))).run Tryz.prog W = .ok (.agg r.a) W := by
  obtain ⟨ad, r, e, hb, hx, hc⟩ := h.at_ hk
  refine ⟨ad, r, e, hb, hx, fun W hW => run_loadVar_part W _ _ r.a _ (fun j v hv => ?_) Tryz.underlying53 rfl (infoL r)⟩
  have h1 := hc j v (by simpa [ldLay] using hv)
  rw [addA_add]
  rw [show k * 42 = k * ldLay.sz from rfl]
  refine (hW.cell ?_).trans h1
  rw [addA_block]
  exact hb
theorem load_box {w : World} {g : Nat} (r : LdR) {t : TypeId} (h : Blk w g t r.a) : (loadVar 53 ⟨g, 0, none⟩).run Tryz.prog w = .ok (.agg r.a) w :=
  run_loadVar_row w g t _ r.a (0, 0) _ h Tryz.underlying53 rfl (infoL r)
theorem mapR_step {L : List LdR} {k : Nat} {r : LdR} (h : L[k]? = some r) (t : Tx) : mapR (L.take (k + 1)) t = if mapR (L.take k) t = none ∧ kT t ≠ 0 ∧ r.x.n = t then some r else mapR (L.take k) t := by
  unfold mapR firstR
  by_cases hk : kT t ≠ 0
  · rw [if_pos hk, if_pos hk, List.take_add_one, h, List.find?_append]
    simp only [Option.toList_some]
    cases hf : (L.take k).find? (fun r => decide (r.x.n = t)) with
    | some x => simp
    | none =>
      simp only [Option.none_or, List.find?_singleton]
      by_cases e : r.x.n = t
      · simp [e, hk]
      · simp [e]
  · rw [if_neg hk, if_neg hk]
    simp [hk]
theorem names_step {L : List LdR} {k : Nat} {r : LdR} (h : L[k]? = some r) : namesL kT ((L.take (k + 1)).map (·.x)) = if kT r.x.n ≠ 0 then putG (fun a b : Tx => a < b) (namesL kT ((L.take k).map (·.x))) r.x.n else namesL kT ((L.take k).map (·.x)) := by
  unfold namesL putAll
  rw [List.take_add_one, h]
  simp only [Option.toList_some, List.map_append, List.map_cons, List.map_nil, List.filter_append]
  by_cases hk : kT r.x.n ≠ 0
  · simp [hk]
  · simp [hk]
theorem names_had {L : List LdR} {k : Nat} {t : Tx} {r : LdR} (h : mapR (L.take k) t = some r) : t ∈ namesL kT ((L.take k).map (·.x)) := by
  unfold mapR firstR at h
  split at h
  · rename_i hk
    have h1 := List.find?_some h
    have h2 := List.mem_of_find?_eq_some h
    refine names_mem.2 ⟨hk, r.x, List.mem_map.2 ⟨r, h2, rfl⟩, by simpa using h1⟩
  · cases h
theorem names_few (l : List Ld) : (namesL kT l).length ≤ l.length := by
  have h1 := putAll_few (lt := fun a b : Tx => a < b) ((l.map (·.n)).filter (fun n => decide (kT n ≠ 0)))
  have h2 := List.length_filter_le (fun n => decide (kT n ≠ 0)) (l.map (·.n))
  rw [List.length_map] at h2
  unfold namesL
  omega
theorem kT_good (t : Tx) : Nm.goodP (str t) = decide (kT t ≠ 0) := by
  have h := Nm.good_kind (str t)
  have h2 := Nm.kind_bad (str t)
  unfold kT
  cases hg : Nm.goodP (str t) with
  | true => rw [hg] at h2; symm; rw [decide_eq_true_eq]; simpa using h2
  | false => rw [hg] at h2; symm; rw [decide_eq_false_iff_not]; simpa using h2
theorem alloc2_new (w : World) (o1 o2 : Obj) : ((w.alloc o1).alloc o2).heap[w.heap.size + 1]? = some o2 := by
  have := heap_alloc_new (w.alloc o1) o2
  rwa [show (w.alloc o1).heap.size = w.heap.size + 1 by simp] at this
theorem alloc2_setRow (w : World) (o : Obj) (z a : Array Value) (t : TypeId) : ((w.alloc o).alloc (.cells z t)).setRow (w.heap.size + 1) a = (w.alloc o).alloc (.cells a t) := by
  have := heap_alloc_setRow (w.alloc o) z a t
  rwa [show (w.alloc o).heap.size = w.heap.size + 1 by simp] at this
def namesP (L : List LdR) (k : Nat) : List Tx := namesL kT ((L.take k).map (·.x))
theorem namesP_few (L : List LdR) (k : Nat) : (namesP L k).length ≤ k := by
  have := names_few ((L.take k).map (·.x))
  unfold namesP
  rw [List.length_map] at this
  have h2 := List.length_take_le k L
  omega
theorem mapF_had {L : List LdR} {k : Nat} {r : LdR} (hx : L[k]? = some r) (h : (mapF (L.take k) r.x.n).isSome = true) : (∀ p, mapF (L.take k) p = mapF (L.take (k + 1)) p) ∧ namesP L (k + 1) = namesP L k := by
  have h1 : ∃ r0, mapR (L.take k) r.x.n = some r0 := by
    unfold mapF at h
    rw [Option.isSome_map] at h
    exact Option.isSome_iff_exists.1 h
  obtain ⟨r0, h0⟩ := h1
  constructor
  · intro p
    unfold mapF
    rw [mapR_step hx p]
    rw [if_neg]
    rintro ⟨h1, _, rfl⟩
    rw [h0] at h1
    cases h1
  · unfold namesP
    rw [names_step hx]
    split
    · exact putG_same linT (names_rise _) (names_had h0)
    · rfl
theorem mapF_bad {L : List LdR} {k : Nat} {r : LdR} (hx : L[k]? = some r) (h : kT r.x.n = 0) : (∀ p, mapF (L.take k) p = mapF (L.take (k + 1)) p) ∧ namesP L (k + 1) = namesP L k := by
  constructor
  · intro p
    unfold mapF
    rw [mapR_step hx p, if_neg]
    rintro ⟨_, h2, rfl⟩
    exact h2 h
  · unfold namesP
    rw [names_step hx, if_neg (by simpa using h)]
theorem mapF_new {L : List LdR} {k : Nat} {r : LdR} (hx : L[k]? = some r) (h : (mapF (L.take k) r.x.n).isSome = false) (hk : kT r.x.n ≠ 0) : (∀ p, putV (mapF (L.take k)) r.x.n (.agg r.a) p = mapF (L.take (k + 1)) p) ∧ namesP L (k + 1) = putG (fun a b : Tx => a < b) (namesP L k) r.x.n := by
  have h0 : mapR (L.take k) r.x.n = none := by
    unfold mapF at h
    rw [Option.isSome_map] at h
    exact Option.not_isSome_iff_eq_none.1 (by rw [h]; simp)
  constructor
  · intro p
    unfold putV mapF
    rw [mapR_step hx p]
    by_cases e : r.x.n = p
    · subst e
      rw [if_pos rfl, if_pos ⟨h0, hk, rfl⟩]; rfl
    · rw [if_neg e, if_neg (fun h => e h.2.2)]
  · unfold namesP
    rw [names_step hx, if_pos hk]
theorem results_cellG {P : Program} {fn : Func} {p : Tmp} {ty : TypeId} (h : fn.results = #[.cell p ty]) (tmps : Array Value) (w : World) (g : Nat) (t : TypeId) (cs : Array Value) (d : TypeDesc)
    (hp : tmps.getD p undef = .pointer (some ⟨g, 0, none⟩)) (hg : w.heap[g]? = some (.cells cs t (0, 0)))
    (hu : P.underlying ty = some d) (hd : (match d with | .struct _ | .array _ _ => true | _ => false) = true) (hi : (P.info? ty).map (·.size) = some cs.size) :
    (results fn tmps).run P w = .ok (.agg cs) w := by
  have hp' : tmps[p]?.getD undef = .pointer (some ⟨g, 0, none⟩) := by simpa using hp
  simp [results, h, hp', asAddr, run_loadVar_row w g t ty cs (0, 0) d hg hu hd hi]
theorem below_setCell {B : Nat} {a w : World} (h : Below B a w) (hB : B ≤ w.heap.size) {p : Addr} (hp : B ≤ p.block) (u : Value) : Below B a (w.setCell p u) :=
  h.grown (grown_setCell w p u) hB (fun k hk => by injection hk with hk; omega)
theorem look_found {L : List LdR} {t : Tx} (h : t ∈ namesL kT (L.map (·.x))) : kT t ≠ 0 ∧ lookR L t ∈ L ∧ (lookR L t).x.n = t ∧ firstL' (L.map (·.x)) t = some (lookR L t).x := by
  obtain ⟨hk, x, hx, rfl⟩ := names_mem.1 h
  obtain ⟨r, hr, rfl⟩ := List.mem_map.1 hx
  obtain ⟨y, hy⟩ := first_is (List.mem_map.2 ⟨r, hr, rfl⟩ : r.x ∈ L.map (·.x))
  rw [firstR_x] at hy
  cases hf : firstR L r.x.n with
  | none => rw [hf] at hy; cases hy
  | some r1 =>
    have hl : lookR L r.x.n = r1 := by unfold lookR mapR; rw [if_pos hk, hf]; rfl
    have h1 := List.find?_some hf
    refine ⟨hk, by rw [hl]; exact List.mem_of_find?_eq_some hf, by rw [hl]; simpa using h1, by rw [firstR_x, hf, hl]; rfl⟩
theorem nodeL_look {L : List LdR} {t : Tx} (h : t ∈ namesL kT (L.map (·.x))) : nodeL kT (L.map (·.x)) t = ⟨t, kT t, stateL (lookR L t).x.s⟩ := by
  unfold nodeL
  rw [(look_found h).2.2.2]
  rfl
def ndsK (L : List LdR) (j : Nat) : List Nd := (((namesL kT (L.map (·.x))).take 64).take j).map (nodeL kT (L.map (·.x)))
theorem ndsK_succ {L : List LdR} {j : Nat} {t : Tx} (h : ((namesL kT (L.map (·.x))).take 64)[j]? = some t) : ndsK L (j + 1) = ndsK L j ++ [nodeL kT (L.map (·.x)) t] := by unfold ndsK; exact map_take_succ h _
theorem ndsK_len (L : List LdR) (j : Nat) : (ndsK L j).length ≤ 64 := by
  unfold ndsK
  rw [List.length_map]
  have h1 := (List.take_sublist j ((namesL kT (L.map (·.x))).take 64)).length_le
  have h2 := List.length_take_le 64 (namesL kT (L.map (·.x)))
  omega
theorem nodesL_has {L : List LdR} {x : Nd} (h : x ∈ nodesL kT (L.map (·.x))) : x.n ∈ (namesL kT (L.map (·.x))).take 64 ∧ x = nodeL kT (L.map (·.x)) x.n ∧ nodeB (nodesL kT (L.map (·.x))) x.n = true := by
  have h0 := h
  unfold nodesL at h
  obtain ⟨t, ht, rfl⟩ := List.mem_map.1 h
  refine ⟨ht, rfl, ?_⟩
  show (nodeG (nodesL kT (L.map (·.x))) t).isSome = true
  rw [node_at, if_pos ht]
  rfl
def esK (L : List LdR) (j : Nat) : List Ed := ((nodesL kT (L.map (·.x))).take j).foldl (ownL kT (L.map (·.x))) []
theorem esK_succ {L : List LdR} {j : Nat} {x : Nd} (h : (nodesL kT (L.map (·.x)))[j]? = some x) : esK L (j + 1) = ownL kT (L.map (·.x)) (esK L j) x := by
  unfold esK
  rw [List.take_add_one, h, List.foldl_append]
  rfl
theorem own_one {L : List LdR} {es : List Ed} {x : Nd} (hx : x ∈ nodesL kT (L.map (·.x))) (hs : x.s = 1) : ownL kT (L.map (·.x)) es x = edgesL (nodeB (nodesL kT (L.map (·.x)))) (lookR L x.n).x.n es (sayL kT (L.map (·.x)) (lookR L x.n).x) := by
  have h := look_found (List.mem_of_mem_take (nodesL_has hx).1)
  unfold ownL
  rw [if_pos hs, h.2.2.2, h.2.2.1]
  rfl
theorem own_not {L : List LdR} {es : List Ed} {x : Nd} (hs : x.s ≠ 1) : ownL kT (L.map (·.x)) es x = es := by unfold ownL; rw [if_neg hs]
theorem grown_setRow (w : World) (b : Nat) (cs : Array Value) : w.grownBy (w.setRow b cs) (some b) :=
  ⟨rfl, rfl, rfl, by rw [size_row]; exact Nat.le_refl _, fun i _ hi => heap_row_other w b cs i (fun e => hi (by rw [e]))⟩
theorem grAt_own {w : World} {base : Nat} {N E : Value} {ns : List Nd} {es : List Ed} (hN : OwnG ndLay 32 w base N ns) (hE : OwnG edLay 58 w base E es) (h1 : ns.length ≤ maxLen) (h2 : es.length ≤ maxLen) : GrAt w w.heap.size #[N, E] ns es := by
  obtain ⟨NA, nc, rfl, a1, a2, a3, a4⟩ := hN.slice h1
  obtain ⟨EA, ec, rfl, b1, b2, b3, b4⟩ := hE.slice h2
  exact ⟨NA, nc, EA, ec, rfl, a1, b1, a2, b2, a4, b4⟩
theorem esK_all (L : List LdR) : esK L (nodesL kT (L.map (·.x))).length = ofE kT (L.map (·.x)) := by unfold esK ofE; rw [List.take_of_length_le (Nat.le_refl _)]
def OfPost (L : List LdR) (w : World) (e : Ending) (w' : World) : Prop := ∃ g, e = .returned (.agg g) ∧ GrAt w' w'.heap.size g (nodesL kT (L.map (·.x))) (ofE kT (L.map (·.x))) ∧ Below w.heap.size w w'
end Go.Proofs.YtcoepioahabbdaaGreat
namespace Go.Proofs.YtcoepioahabbdaaGreat
open Go.RowKit
theorem wpList_load_partG {P : Program} {ops : Array Oper} {rest : List Oper} {o : Oper} {a : Act} {w : World} {Q : Exit → Act → World → Prop} (hgd : Region.wanted o (yielded ops a.tmps) = true) (ty : TypeId) (x : Operand) (ho : o.op = .load ty x)
    (ad : Addr) (hx : a.eval x = .pointer (some ad)) (v : Value) (hl : (loadVar ty ad).run P w = .ok v w)
    (h : wpList P ops Q rest (a.put o.dst v) w) : wpList P ops Q (o :: rest) a w :=
  wpList_step fun K hK => by
    have := exec_load ho ad hx v w hl
    simp only [hgd, if_true]
    unfold Oper.wp
    rw [this]
    exact hK _ _ h
theorem cmpB_spec : ∀ a b : Tx, (Lib.compareBytes a b < 0 ↔ a < b) ∧ (Lib.compareBytes a b = 0 ↔ a = b)
  | [], [] => by simp [Lib.compareBytes]
  | [], b :: m => by simp [Lib.compareBytes]
  | a :: l, [] => by simp [Lib.compareBytes]
  | a :: l, b :: m => by
    have ih := cmpB_spec l m
    rw [Lib.compareBytes, List.cons_lt_cons_iff]
    by_cases h1 : a < b
    · rw [if_pos h1]
      have hne : a ≠ b := fun e => by subst e; exact UInt8.lt_irrefl _ h1
      simp [h1, hne]
    · rw [if_neg h1]
      by_cases h2 : b < a
      · rw [if_pos h2]
        have hne : a ≠ b := fun e => by subst e; exact UInt8.lt_irrefl _ h2
        simp [h1, hne]
      · rw [if_neg h2]
        have e : a = b := UInt8.le_antisymm (UInt8.not_lt.1 h2) (UInt8.not_lt.1 h1)
        subst e
        simp [ih.1, ih.2, UInt8.lt_irrefl]
theorem cmpT_any (a b : Tx) (w : World) : Calls Tryz.prog 54 #[.string (str a), .string (str b)] w fun e w' => e = .returned (.int .i64 (Lib.compareBytes a b)) ∧ w' = w := by
  have h := Tryz.strings_Compare (str a) (str b) w
  rw [show (str a).data.toList = a from str_list a, show (str b).data.toList = b from str_list b] at h
  exact h
set_option maxHeartbeats 4000000 in
theorem srchL_any (r : LdR) (n t : Tx) (hn : r.a[0]? = some (.string (str n))) (w : World) :
    Calls Tryz.prog 70 #[.agg r.a, .string (str t)] w fun e w' => e = .returned (.int .i64 (Lib.compareBytes n t)) ∧ Below w.heap.size w w' := by
  have HB : Hid (Below w.heap.size w (w.alloc (.cells r.a 53))) := (Below.refl _ w).alloc (Nat.le_refl _) _
  have c0 : (w.alloc (.cells r.a 53)).cell? ⟨w.heap.size, 0, none⟩ = some (.string (str n)) := box_cell (Blk.new w _ r.a) hn
  clear hn
  go_enter Tryz.func70, Tryz.ntmps70
  go_wp2_with fail
  refine (cmpT_any n t _).mono ?_
  rintro e w' ⟨rfl, rfl⟩
  go_wp2_with fail
  go_ret
  exact ⟨rfl, HB.out⟩
set_option maxHeartbeats 4000000 in
theorem srchN_any (x : Nd) (t : Tx) (w : World) :
    Calls Tryz.prog 105 #[.agg #[.string (str x.n), .int .i64 x.k, .int .i64 x.s], .string (str t)] w fun e w' => e = .returned (.int .i64 (Lib.compareBytes x.n t)) ∧ Below w.heap.size w w' := by
  have HB : Hid (Below w.heap.size w (w.alloc (.cells #[.string (str x.n), .int .i64 x.k, .int .i64 x.s] 32))) := (Below.refl _ w).alloc (Nat.le_refl _) _
  go_enter Tryz.func105, Tryz.ntmps105
  go_wp2_with fail
  refine (cmpT_any x.n t _).mono ?_
  rintro e w' ⟨rfl, rfl⟩
  go_wp2_with fail
  go_ret
  exact ⟨rfl, HB.out⟩
def SrchPost {α : Type} (nm : α → Tx) (l : List α) (t : Tx) (w : World) (e : Ending) (w' : World) : Prop := ∃ i : Nat, Pos nm l t i ∧ e = .returned (.tuple #[.int .i64 i, .bool (hasK nm l t)]) ∧ Below w.heap.size w w'
def Sides {α : Type} (nm : α → Tx) (l : List α) (t : Tx) (lo hi : Nat) : Prop := (∀ j x, j < lo → l[j]? = some x → nm x < t) ∧ (∀ j x, hi ≤ j → l[j]? = some x → ¬ nm x < t)
theorem Sides.start {α : Type} (nm : α → Tx) (l : List α) (t : Tx) : Sides nm l t 0 l.length :=
  ⟨fun j x h => absurd h (Nat.not_lt_zero _), fun j x h hx => by rw [List.getElem?_eq_none h] at hx; cases hx⟩
theorem rises_two {α : Type} {nm : α → Tx} {l : List α} (hr : risesK nm l) {i j : Nat} {x y : α} (hx : l[i]? = some x) (hy : l[j]? = some y) (h : i < j) : nm x < nm y := by
  obtain ⟨hi, rfl⟩ := List.getElem?_eq_some_iff.1 hx
  obtain ⟨hj, rfl⟩ := List.getElem?_eq_some_iff.1 hy
  exact List.pairwise_iff_getElem.1 hr i j hi hj h
theorem Sides.up {α : Type} {nm : α → Tx} {l : List α} {t : Tx} {lo hi m : Nat} {x : α} (h : Sides nm l t lo hi) (hr : risesK nm l) (hx : l[m]? = some x) (hl : nm x < t) : Sides nm l t (m + 1) hi :=
  ⟨fun j y hj hy => by
    rcases Nat.lt_or_ge j m with h' | h'
    · exact List.lt_trans (rises_two hr hy hx h') hl
    · obtain rfl : j = m := by omega
      rw [hx] at hy
      cases hy
      exact hl, h.2⟩
theorem Sides.down {α : Type} {nm : α → Tx} {l : List α} {t : Tx} {lo hi m : Nat} {x : α} (h : Sides nm l t lo hi) (hr : risesK nm l) (hx : l[m]? = some x) (hl : ¬ nm x < t) : Sides nm l t lo m :=
  ⟨h.1, fun j y hj hy => by
    rcases Nat.lt_or_ge m j with h' | h'
    · exact fun k => hl (List.lt_trans (rises_two hr hx hy h') k)
    · obtain rfl : j = m := by omega
      rw [hx] at hy
      cases hy
      exact hl⟩
theorem Sides.pos {α : Type} {nm : α → Tx} {l : List α} {t : Tx} {i : Nat} (h : Sides nm l t i i) (hi : i ≤ l.length) : Pos nm l t i := ⟨hi, h.1, h.2⟩
end Go.Proofs.YtcoepioahabbdaaGreat
namespace Go.Proofs.YtcoepioahabbdaaGreat
open Go.RowKit
set_option maxRecDepth 10000 in
set_option maxHeartbeats 8000000 in
theorem bsrL_any (A : Option Addr) (n c B : Nat) (L : List LdR) (t : Tx) (w : World) (h : LdsAt w B A n L) (hB : B ≤ w.heap.size) (hr : risesK (fun r : LdR => r.x.n) L) (hn62 : n ≤ 1048576) :
    Calls Tryz.prog 69 #[.slice A n c, .string (str t), .func (.func 70) #[] #[]] w (SrchPost (fun r : LdR => r.x.n) L t w) := by
  have hl : L.length = n := h.row.1
  have HL := Lib.hid h
  have HR := Lib.hid hr
  clear h hr
  have HS0 : Hid (Sides (fun r : LdR => r.x.n) L t 0 n) := by
    show Sides _ _ _ _ _
    rw [← hl]
    exact Sides.start _ _ _
  unfold SrchPost
  go_enter Tryz.func69, Tryz.ntmps69
  go_wp2_with fail
  go_loopw [9, 10] (fun s9 s10 wr => ∃ lo hi : Nat, s9 = .int .i64 lo ∧ s10 = .int .i64 hi ∧ lo ≤ hi ∧ hi ≤ n ∧ Hid (Below w.heap.size w wr) ∧ Hid (Sides (fun r : LdR => r.x.n) L t lo hi)) (fun s9 s10 wr => (intOf s10).toNat - (intOf s9).toNat)
  case atStart => exact ⟨0, n, rfl, rfl, Nat.zero_le _, Nat.le_refl _, Below.refl _ _, HS0⟩
  case round =>
    obtain ⟨lo, hi, rfl, rfl, hlh, hin, hb, hI⟩ := hrel
    have hws := hb.out.size
    by_cases hlt : lo < hi
    · have hmn : (lo + hi) / 2 < n := by omega
      obtain ⟨ad, r, rfl, hab, hx, hld⟩ := load_row (HL.out.row.below (hb.out.mono hB)) (k := (lo + hi) / 2) hmn
      have HLD := Lib.hid (hld wr (Below.refl _ _))
      clear hld
      have hc := fun W => srchL_any r r.x.n t (HL.out.is r (List.mem_of_getElem? hx)).name W
      by_cases hlx : Lib.compareBytes r.x.n t < 0
      · have HI1 := Lib.hid (hI.out.up HR.out hx ((cmpB_spec _ _).1.1 hlx))
        go_wp2_with (refine wpList_load_part rfl 53 (.tmp 27) (by rfl) (ad.add ((lo + hi) / 2 * 42)) (by rfl) (.agg r.a) HLD.out ?_)
        refine (hc _).mono ?_
        rintro e w5 ⟨rfl, hb5⟩
        have HB5 := Lib.hid (more3 hb.out hb.out.size hb5)
        clear hb5
        go_wp2_with fail
        go_roundw
        case rel => exact ⟨(lo + hi) / 2 + 1, hi, by rw [show ((lo : Int) + (hi : Int)) / 2 + 1 = (((lo + hi) / 2 + 1 : Nat) : Int) by omega], rfl, by omega, hin, HB5, HI1⟩
        case measure => simp [intOf]; omega
      · have HI1 := Lib.hid (hI.out.down HR.out hx (fun k => hlx ((cmpB_spec _ _).1.2 k)))
        go_wp2_with (refine wpList_load_part rfl 53 (.tmp 27) (by rfl) (ad.add ((lo + hi) / 2 * 42)) (by rfl) (.agg r.a) HLD.out ?_)
        refine (hc _).mono ?_
        rintro e w5 ⟨rfl, hb5⟩
        have HB5 := Lib.hid (more3 hb.out hb.out.size hb5)
        clear hb5
        go_wp2_with fail
        go_roundw
        case rel => exact ⟨lo, (lo + hi) / 2, rfl, by rw [show ((lo : Int) + (hi : Int)) / 2 = (((lo + hi) / 2 : Nat) : Int) by omega], by omega, by omega, HB5, HI1⟩
        case measure => simp [intOf]; omega
    · obtain rfl : hi = lo := by omega
      have HP := Lib.hid (hI.out.pos (by omega))
      by_cases hn : hi < n
      · obtain ⟨ad, r, rfl, hab, hx, hld⟩ := load_row (HL.out.row.below (hb.out.mono hB)) (k := hi) hn
        have HLD := Lib.hid (hld wr (Below.refl _ _))
        clear hld
        have hc := fun W => srchL_any r r.x.n t (HL.out.is r (List.mem_of_getElem? hx)).name W
        have HQ := Lib.hid (pos_has HP.out HR.out)
        by_cases hlx : Lib.compareBytes r.x.n t = 0
        · have HF : Hid (hasK (fun r : LdR => r.x.n) L t = true) := HQ.out.2 ⟨_, hx, (cmpB_spec _ _).2.1 hlx⟩
          go_wp2_with (refine wpList_load_partG (by rfl) 53 (.tmp 43) (by rfl) (ad.add (hi * 42)) (by rfl) (.agg r.a) HLD.out ?_)
          refine (hc _).mono ?_
          rintro e w5 ⟨rfl, hb5⟩
          have HB5 := Lib.hid (more3 hb.out hb.out.size hb5)
          clear hb5
          go_wp2_with fail
          go_ret2
          exact ⟨hi, HP.out, by rw [HF.out]; rfl, HB5.out⟩
        · have HF : Hid (hasK (fun r : LdR => r.x.n) L t = false) := by
            show _ = _
            rw [Bool.eq_false_iff]
            intro hh
            obtain ⟨y, hy, e⟩ := HQ.out.1 hh
            rw [hx] at hy
            cases hy
            exact hlx ((cmpB_spec _ _).2.2 e)
          have hlxb : (Lib.compareBytes r.x.n t == 0) = false := by simpa using hlx
          go_wp2_with (refine wpList_load_partG (by rfl) 53 (.tmp 43) (by rfl) (ad.add (hi * 42)) (by rfl) (.agg r.a) HLD.out ?_)
          refine (hc _).mono ?_
          rintro e w5 ⟨rfl, hb5⟩
          have HB5 := Lib.hid (more3 hb.out hb.out.size hb5)
          clear hb5
          go_wp2_with fail
          go_ret2
          exact ⟨hi, HP.out, by rw [HF.out]; rfl, HB5.out⟩
      · have HF : Hid (hasK (fun r : LdR => r.x.n) L t = false) := pos_all HP.out (by omega)
        go_wp2_with fail
        go_ret2
        exact ⟨hi, HP.out, by rw [HF.out]; rfl, hb.out⟩
end Go.Proofs.YtcoepioahabbdaaGreat
