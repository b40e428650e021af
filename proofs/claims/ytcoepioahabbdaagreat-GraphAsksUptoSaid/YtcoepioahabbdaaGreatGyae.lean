/- Edges, nodes, pairs of texts in memory; a graph. A map from texts to values of any type, which the call itself has made: -/
import Derived.Test.YtcoepioahabbdaaGreatGyaa
import Derived.Test.YtcoepioahabbdaaGreatGyab
import Derived.Test.YtcoepioahabbdaaGreatGyad
import Derived.Sort.Walk0
import Derived.Deep.QuietTactic
import Derived.Maps.Own
import Derived.Maps.OwnOps
import Derived.Maps.OwnSet
import Derived.Maps.Views
import Derived.Laws.StructEq
namespace Go.Proofs.YtcoepioahabbdaaGreat
open Go.RowKit
def edLay : Lay Ed := ⟨fun e => [.string (str e.f), .string (str e.t), .int .i64 e.r], 3, by decide, fun _ => rfl, fun x u hu => by simp at hu; rcases hu with rfl | rfl | rfl <;> rfl⟩
def ndLay : Lay Nd := ⟨fun e => [.string (str e.n), .int .i64 e.k, .int .i64 e.s], 3, by decide, fun _ => rfl, fun x u hu => by simp at hu; rcases hu with rfl | rfl | rfl <;> rfl⟩
def txLay : Lay Tx := ⟨fun p => [.string (str p)], 1, by decide, fun _ => rfl, fun x u hu => by simp at hu; subst hu; rfl⟩
theorem edTy : TyOk Tryz.prog edLay 58 27 := tyOk_of (z := .agg #[.string ⟨#[]⟩, .string ⟨#[]⟩, .int .i64 0]) (b := 40) Tryz.underlying27 (by kernel_rfl) rfl (by decide)
theorem ndTy : TyOk Tryz.prog ndLay 32 26 := tyOk_of (z := .agg #[.string ⟨#[]⟩, .int .i64 0, .int .i64 0]) (b := 32) Tryz.underlying26 (by kernel_rfl) rfl (by decide)
theorem txTy : TyOk Tryz.prog txLay 9 37 := tyOk_of (z := .string ⟨#[]⟩) (b := 16) Tryz.underlying37 (by kernel_rfl) rfl (by decide)
theorem ltT_str (a b : Tx) : Op.bytesLess (str a).toList (str b).toList = decide (a < b) := by
  rw [bytesLess_eq, Lib.toList_data, Lib.toList_data, str_list, str_list]
theorem eqT_str (a b : Tx) : ((str a).toList == (str b).toList) = decide (a = b) := by
  rw [Lib.toList_data, Lib.toList_data, str_list, str_list, Bool.eq_iff_iff, decide_eq_true_eq, beq_iff_eq]
def C3 (w : World) (a : Addr) (u0 u1 u2 : Value) : Prop := w.cell? a = some u0 ∧ w.cell? ⟨a.block, a.off + 1, none⟩ = some u1 ∧ w.cell? ⟨a.block, a.off + 2, none⟩ = some u2
theorem cells3 {w : World} {ad : Addr} {k : Nat} {u0 u1 u2 : Value} (h : ∀ i u, [u0, u1, u2][i]? = some u → w.cell? (ad.add (k * 3 + i)) = some u) : C3 w (ad.add (k * 3)) u0 u1 u2 :=
  ⟨h 0 u0 rfl, by have := h 1 u1 rfl; rwa [addA_off _ _ _ (by decide)] at this, by have := h 2 u2 rfl; rwa [addA_off _ _ _ (by decide)] at this⟩
theorem eds_at {w : World} {B n : Nat} {A : Option Addr} {l : List Ed} (h : SlAt edLay w B A n l) {k : Nat} (hk : k < n) :
    ∃ ad e, A = some ad ∧ ad.block < B ∧ l[k]? = some e ∧ C3 w (ad.add (k * 3)) (.string (str e.f)) (.string (str e.t)) (.int .i64 e.r) := by
  obtain ⟨ad, x, e, hb, hx, hc⟩ := h.at_ hk
  exact ⟨ad, x, e, hb, hx, cells3 hc⟩
theorem nds_at {w : World} {B n : Nat} {A : Option Addr} {l : List Nd} (h : SlAt ndLay w B A n l) {k : Nat} (hk : k < n) :
    ∃ ad e, A = some ad ∧ ad.block < B ∧ l[k]? = some e ∧ C3 w (ad.add (k * 3)) (.string (str e.n)) (.int .i64 e.k) (.int .i64 e.s) := by
  obtain ⟨ad, x, e, hb, hx, hc⟩ := h.at_ hk
  exact ⟨ad, x, e, hb, hx, cells3 hc⟩
theorem txs_at {w : World} {B n : Nat} {A : Option Addr} {l : List Tx} (h : SlAt txLay w B A n l) {k : Nat} (hk : k < n) :
    ∃ ad e, A = some ad ∧ ad.block < B ∧ l[k]? = some e ∧ w.cell? (ad.add k) = some (.string (str e)) := by
  obtain ⟨ad, x, e, hb, hx, hc⟩ := h.at_ hk
  exact ⟨ad, x, e, hb, hx, by have := hc 0 _ rfl; rwa [show txLay.sz = 1 from rfl, Nat.mul_one, Nat.add_zero] at this⟩
theorem txs_row {w : World} {B n : Nat} {A : Option Addr} {l : List Tx} : SlAt txLay w B A n l ↔ RowAt w B A n l := by
  have e : txLay.all l = l.map fun x => Value.string (str x) := by
    unfold Lay.all
    induction l with
    | nil => rfl
    | cons x l ih => simp [txLay] at ih ⊢; exact ih
  have key : ∀ ad : Addr, (∀ j u, (txLay.all l)[j]? = some u → w.cell? (ad.add j) = some u) ↔ ∀ j x, l[j]? = some x → w.cell? (ad.add j) = some (.string (str x)) := fun ad => by
    rw [e]
    constructor
    · intro h j x hx
      exact h j _ (by rw [List.getElem?_map, hx]; rfl)
    · intro h j u hu
      rw [List.getElem?_map] at hu
      cases hx : l[j]? with
      | none => rw [hx] at hu; cases hu
      | some x => rw [hx] at hu; injection hu with hu; subst hu; exact h j x hx
  constructor
  · rintro ⟨h1, h2, h3⟩
    refine ⟨h1, h2, fun hn => ?_⟩
    obtain ⟨ad, e1, e2, e3⟩ := h3 hn
    exact ⟨ad, e1, e2, (key ad).1 e3⟩
  · rintro ⟨h1, h2, h3⟩
    refine ⟨h1, h2, fun hn => ?_⟩
    obtain ⟨ad, e1, e2, e3⟩ := h3 hn
    exact ⟨ad, e1, e2, (key ad).2 e3⟩
structure GrAt (w : World) (B : Nat) (g : Array Value) (ns : List Nd) (es : List Ed) : Prop where
  form : ∃ NA nc EA ec, g = #[.slice NA ns.length nc, .slice EA es.length ec] ∧ ns.length ≤ nc ∧ es.length ≤ ec ∧ (NA = none → nc = 0) ∧ (EA = none → ec = 0) ∧ SlAt ndLay w B NA ns.length ns ∧ SlAt edLay w B EA es.length es
theorem GrAt.below {w w' : World} {B : Nat} {g : Array Value} {ns : List Nd} {es : List Ed} (h : GrAt w B g ns es) (hb : Below B w w') : GrAt w' B g ns es := by
  obtain ⟨NA, nc, EA, ec, h1, h2, h3, h4, h5, h6, h7⟩ := h.form
  exact ⟨NA, nc, EA, ec, h1, h2, h3, h4, h5, h6.below hb, h7.below hb⟩
theorem GrAt.wide {w : World} {B B' : Nat} {g : Array Value} {ns : List Nd} {es : List Ed} (h : GrAt w B g ns es) (hb : B ≤ B') : GrAt w B' g ns es := by
  obtain ⟨NA, nc, EA, ec, h1, h2, h3, h4, h5, h6, h7⟩ := h.form
  exact ⟨NA, nc, EA, ec, h1, h2, h3, h4, h5, h6.wide hb, h7.wide hb⟩
end Go.Proofs.YtcoepioahabbdaaGreat
namespace Go.Proofs.YtcoepioahabbdaaGreat
open Go.RowKit Go.WideMaps Go.Maps
def anyElem (v : Value) : Option (DataW Value × List MemPlace) := some (.held v, [])
def MapV (w : World) (b n : Nat) (f : Tx → Option Value) : Prop :=
  ∃ D : DataW Value, w.ownsMap Tryz.prog 9 anyElem b n D ∧ ∀ p, has D (.string p) = (f p).isSome ∧ ∀ z, D.atKey (.string p) (.held z) = .held ((f p).getD z)
theorem MapV.lt {w : World} {b n : Nat} {f : Tx → Option Value} (h : MapV w b n f) : b < w.heap.size := by
  obtain ⟨D, h, _⟩ := h
  exact h.lt
theorem MapV.kept {w w' : World} {b n : Nat} {f : Tx → Option Value} {row : Option Nat} (h : MapV w b n f) (hg : w.grownBy w' row) (hne : some b ≠ row) : MapV w' b n f := by
  obtain ⟨D, h, k⟩ := h
  exact ⟨D, h.kept hg hne, k⟩
theorem MapV.below {w w' : World} {b n : Nat} {f : Tx → Option Value} (h : MapV w b n f) (hb : Below w.heap.size w w') : MapV w' b n f := h.kept (only_of_below hb none) (by simp)
theorem MapV.belowB {B : Nat} {w w' : World} {b n : Nat} {f : Tx → Option Value} (h : MapV w b n f) (hb : Below B w w') (hB : b < B) : MapV w' b n f := by
  obtain ⟨D, ⟨es, clock, h1, h2⟩, k⟩ := h
  exact ⟨D, ⟨es, clock, (hb.block b hB).trans h1, h2⟩, k⟩
theorem MapV.setCell {w : World} {b n : Nat} {f : Tx → Option Value} (h : MapV w b n f) {a : Addr} (ha : b ≠ a.block) (u : Value) : MapV (w.setCell a u) b n f := by
  obtain ⟨D, h, k⟩ := h
  exact ⟨D, h.setCell ha u, k⟩
theorem MapV.same {w : World} {b n : Nat} {f g : Tx → Option Value} (h : MapV w b n f) (e : ∀ p, f p = g p) : MapV w b n g := by
  obtain ⟨D, h, k⟩ := h
  exact ⟨D, h, fun p => by rw [← e p]; exact k p⟩
theorem MapV.mono {w : World} {b n n' : Nat} {f : Tx → Option Value} (h : MapV w b n f) (hn : n ≤ n') : MapV w b n' f := by
  obtain ⟨D, h, k⟩ := h
  exact ⟨D, h.mono hn, k⟩
theorem mapV_made (w : World) : MapV (w.alloc (.map #[] 0)) w.heap.size 0 (fun _ => none) := ⟨.map [], World.ownsMap_made _ _ _ _, fun _ => ⟨rfl, fun _ => rfl⟩⟩
theorem keyTx (p : Tx) (hp : p.length ≤ maxLen) : keyOf Tryz.prog 9 (.string (str p)) = some (.string p) := keyOf_string_mk Tryz.underlying9 hp
theorem held_inj {a b : Value} (h : (DataW.held a : DataW Value) = .held b) : a = b := by injection h
theorem MapV.look {w : World} {b n : Nat} {f : Tx → Option Value} (h : MapV w b n f) {t e : TypeId} (ht : Tryz.prog.underlying t = some (.map 9 e)) {z : Value} (hz : (zeroValue e).run Tryz.prog w = .ok z w) (p : Tx) (hp : p.length ≤ maxLen) :
    (Instr.lookup t (.map (some b)) (.string (str p)) false).run Tryz.prog w = .ok ((f p).getD z) w := by
  obtain ⟨D, hD, hk⟩ := h
  obtain ⟨v, ps, hrun, hat⟩ := hD.lookup (string_keyed Tryz.underlying9) ht hz (zd := .held z) (zp := []) rfl (keyTx p hp)
  rw [(hk p).2] at hat
  rw [hrun, held_inj (congrArg Prod.fst (Option.some.inj hat))]
theorem MapV.lookok {w : World} {b n : Nat} {f : Tx → Option Value} (h : MapV w b n f) {t e : TypeId} (ht : Tryz.prog.underlying t = some (.map 9 e)) {z : Value} (hz : (zeroValue e).run Tryz.prog w = .ok z w) (p : Tx) (hp : p.length ≤ maxLen) :
    (Instr.lookup t (.map (some b)) (.string (str p)) true).run Tryz.prog w = .ok (.tuple #[(f p).getD z, .bool (f p).isSome]) w := by
  obtain ⟨D, hD, hk⟩ := h
  obtain ⟨v, ps, hrun, hat⟩ := hD.look_ok (string_keyed Tryz.underlying9) ht hz (zd := .held z) (zp := []) rfl (keyTx p hp)
  rw [(hk p).2] at hat
  rw [hrun, held_inj (congrArg Prod.fst (Option.some.inj hat)), (hk p).1]
def putV (f : Tx → Option Value) (p : Tx) (v : Value) : Tx → Option Value := fun z => if p = z then some v else f z
theorem wpList_putV {w : World} {ops : Array Oper} {rest : List Oper} {o : Oper} {a : Act} {Q : Exit → Act → World → Prop}
    (hg : o.guard = none) (m x v : Operand) {t e : TypeId} (ht : Tryz.prog.underlying t = some (.map 9 e)) (hop : o.op = Op.mapUpdate t m x v) (b n : Nat) (f : Tx → Option Value)
    (hm : a.eval m = .map (some b)) (h : MapV w b n f) (hn : n < maxLen) (p : Tx) (hp : p.length ≤ maxLen) (u : Value) (hx : a.eval x = .string (str p)) (hv : a.eval v = u)
    (hK : ∀ w', MapV w' b (n + 1) (putV f p u) → w.grownBy w' (some b) → wpList Tryz.prog ops Q rest (a.put o.dst undef) w') :
    wpList Tryz.prog ops Q (o :: rest) a w := by
  obtain ⟨D, hD, hat⟩ := h
  refine wpList_mapUpdate_own w hg m x v t hop 9 e (string_keyed Tryz.underlying9) ht anyElem b n D hm hD hn (.string (str p)) u (.string p) hx hv (keyTx p hp) (.held u) [] rfl ?_
  intro w' h1 h2
  refine hK w' ⟨_, h1, fun z => ?_⟩ h2
  unfold putV
  by_cases e : p = z
  · subst e
    rw [has_put_same hD.isMap (by trivial), if_pos rfl]
    exact ⟨rfl, fun y => by rw [atKey_put_same hD.isMap (by trivial)]; rfl⟩
  · have hne : (Lit.string z) ≠ .string p := by intro h; injection h with h; exact e h.symm
    rw [has_put_other hne, if_neg e]
    exact ⟨(hat z).1, fun y => by rw [atKey_put_other hne]; exact (hat z).2 y⟩
end Go.Proofs.YtcoepioahabbdaaGreat
namespace Go.Proofs.YtcoepioahabbdaaGreat
open Go.RowKit
theorem eq_edge (w : World) (d : Nat) (a0 b0 : ByteArray) (a1 b1 : ByteArray) (a2 b2 : Int) : (Op.eqFields (d + 1) #[.string a0, .string a1, .int .i64 a2] #[.string b0, .string b1, .int .i64 b2] (Tryz.prog.fieldsOf 58).toList).run Tryz.prog w = .ok ((a0.toList == b0.toList) && ((a1.toList == b1.toList) && (a2 == b2))) w := by
  generalize hg : (Tryz.prog.fieldsOf 58).toList = fs
  have hm : fs.map (fun f => (decide (f.name = "_"), f.type, f.offset)) = [(false, 9, 0), (false, 9, 1), (false, 3, 2)] := by rw [← hg]; kernel_rfl
  clear hg
  rcases fs with _ | ⟨f0, _ | ⟨f1, _ | ⟨f2, _ | ⟨f3, fs⟩⟩⟩⟩
  · simp at hm
  · simp at hm
  · simp at hm
  · simp only [List.map_cons, List.map_nil, List.cons.injEq, Prod.mk.injEq, decide_eq_false_iff_not, and_true] at hm
    obtain ⟨⟨n0, t0, o0⟩, ⟨n1, t1, o1⟩, n2, t2, o2⟩ := hm
    have p0 : ∀ w : World, (part 9 #[.string a0, .string a1, .int .i64 a2] 0).run Tryz.prog w = .ok (.string a0) w := fun w => by kernel_rfl
    have q0 : ∀ w : World, (part 9 #[.string b0, .string b1, .int .i64 b2] 0).run Tryz.prog w = .ok (.string b0) w := fun w => by kernel_rfl
    have p1 : ∀ w : World, (part 9 #[.string a0, .string a1, .int .i64 a2] 1).run Tryz.prog w = .ok (.string a1) w := fun w => by kernel_rfl
    have q1 : ∀ w : World, (part 9 #[.string b0, .string b1, .int .i64 b2] 1).run Tryz.prog w = .ok (.string b1) w := fun w => by kernel_rfl
    have p2 : ∀ w : World, (part 3 #[.string a0, .string a1, .int .i64 a2] 2).run Tryz.prog w = .ok (.int .i64 a2) w := fun w => by kernel_rfl
    have q2 : ∀ w : World, (part 3 #[.string b0, .string b1, .int .i64 b2] 2).run Tryz.prog w = .ok (.int .i64 b2) w := fun w => by kernel_rfl
    have r0 := fun (w : World) => run_equalIn_string (P := Tryz.prog) w d 9 a0 b0 Tryz.underlying9
    have r1 := fun (w : World) => run_equalIn_string (P := Tryz.prog) w d 9 a1 b1 Tryz.underlying9
    have r2 := fun w : World => run_equalIn_int (P := Tryz.prog) w d 3 .i64 _ a2 b2 Tryz.underlying3
    simp only [Op.eqFields, n0, t0, o0, n1, t1, o1, n2, t2, o2, ne_eq, not_false_eq_true, if_true, Sem.run_bind, p0, q0, Result.andThen_ok]
    rw [r0]
    simp only [Result.andThen_ok]
    cases h0 : (a0.toList == b0.toList)
    · simp
    · simp only [Bool.not_true, Bool.false_eq_true, if_false, Sem.run_bind, p1, q1, Result.andThen_ok]
      rw [r1]
      simp only [Result.andThen_ok]
      cases h1 : (a1.toList == b1.toList)
      · simp
      · simp only [Bool.not_true, Bool.false_eq_true, if_false, Sem.run_bind, p2, q2, Result.andThen_ok]
        rw [r2]
        cases h2 : (a2 == b2) <;> simp
  · simp at hm
theorem run_eql_edge (w : World) (a0 b0 : ByteArray) (a1 b1 : ByteArray) (a2 b2 : Int) : (binOp .eql 58 (.agg #[.string a0, .string a1, .int .i64 a2]) (.agg #[.string b0, .string b1, .int .i64 b2])).run Tryz.prog w = .ok (.bool (((a0.toList == b0.toList) && ((a1.toList == b1.toList) && (a2 == b2))))) w := by
  rw [run_eql_struct, run_equalIn_struct (P := Tryz.prog) w 9999 58 _ _ (by kernel_rfl) (by kernel_rfl), eq_edge]
  rfl
theorem run_neq_edge (w : World) (a0 b0 : ByteArray) (a1 b1 : ByteArray) (a2 b2 : Int) : (binOp .neq 58 (.agg #[.string a0, .string a1, .int .i64 a2]) (.agg #[.string b0, .string b1, .int .i64 b2])).run Tryz.prog w = .ok (.bool (!((a0.toList == b0.toList) && ((a1.toList == b1.toList) && (a2 == b2))))) w := by
  rw [run_neq_struct, run_equalIn_struct (P := Tryz.prog) w 9999 58 _ _ (by kernel_rfl) (by kernel_rfl), eq_edge]
  rfl
theorem eq_node (w : World) (d : Nat) (a0 b0 : ByteArray) (a1 b1 : Int) (a2 b2 : Int) : (Op.eqFields (d + 1) #[.string a0, .int .i64 a1, .int .i64 a2] #[.string b0, .int .i64 b1, .int .i64 b2] (Tryz.prog.fieldsOf 32).toList).run Tryz.prog w = .ok ((a0.toList == b0.toList) && ((a1 == b1) && (a2 == b2))) w := by
  generalize hg : (Tryz.prog.fieldsOf 32).toList = fs
  have hm : fs.map (fun f => (decide (f.name = "_"), f.type, f.offset)) = [(false, 9, 0), (false, 3, 1), (false, 3, 2)] := by rw [← hg]; kernel_rfl
  clear hg
  rcases fs with _ | ⟨f0, _ | ⟨f1, _ | ⟨f2, _ | ⟨f3, fs⟩⟩⟩⟩
  · simp at hm
  · simp at hm
  · simp at hm
  · simp only [List.map_cons, List.map_nil, List.cons.injEq, Prod.mk.injEq, decide_eq_false_iff_not, and_true] at hm
    obtain ⟨⟨n0, t0, o0⟩, ⟨n1, t1, o1⟩, n2, t2, o2⟩ := hm
    have p0 : ∀ w : World, (part 9 #[.string a0, .int .i64 a1, .int .i64 a2] 0).run Tryz.prog w = .ok (.string a0) w := fun w => by kernel_rfl
    have q0 : ∀ w : World, (part 9 #[.string b0, .int .i64 b1, .int .i64 b2] 0).run Tryz.prog w = .ok (.string b0) w := fun w => by kernel_rfl
    have p1 : ∀ w : World, (part 3 #[.string a0, .int .i64 a1, .int .i64 a2] 1).run Tryz.prog w = .ok (.int .i64 a1) w := fun w => by kernel_rfl
    have q1 : ∀ w : World, (part 3 #[.string b0, .int .i64 b1, .int .i64 b2] 1).run Tryz.prog w = .ok (.int .i64 b1) w := fun w => by kernel_rfl
    have p2 : ∀ w : World, (part 3 #[.string a0, .int .i64 a1, .int .i64 a2] 2).run Tryz.prog w = .ok (.int .i64 a2) w := fun w => by kernel_rfl
    have q2 : ∀ w : World, (part 3 #[.string b0, .int .i64 b1, .int .i64 b2] 2).run Tryz.prog w = .ok (.int .i64 b2) w := fun w => by kernel_rfl
    have r0 := fun (w : World) => run_equalIn_string (P := Tryz.prog) w d 9 a0 b0 Tryz.underlying9
    have r1 := fun w : World => run_equalIn_int (P := Tryz.prog) w d 3 .i64 _ a1 b1 Tryz.underlying3
    have r2 := fun w : World => run_equalIn_int (P := Tryz.prog) w d 3 .i64 _ a2 b2 Tryz.underlying3
    simp only [Op.eqFields, n0, t0, o0, n1, t1, o1, n2, t2, o2, ne_eq, not_false_eq_true, if_true, Sem.run_bind, p0, q0, Result.andThen_ok]
    rw [r0]
    simp only [Result.andThen_ok]
    cases h0 : (a0.toList == b0.toList)
    · simp
    · simp only [Bool.not_true, Bool.false_eq_true, if_false, Sem.run_bind, p1, q1, Result.andThen_ok]
      rw [r1]
      simp only [Result.andThen_ok]
      cases h1 : (a1 == b1)
      · simp
      · simp only [Bool.not_true, Bool.false_eq_true, if_false, Sem.run_bind, p2, q2, Result.andThen_ok]
        rw [r2]
        cases h2 : (a2 == b2) <;> simp
  · simp at hm
theorem run_neq_node (w : World) (a0 b0 : ByteArray) (a1 b1 : Int) (a2 b2 : Int) : (binOp .neq 32 (.agg #[.string a0, .int .i64 a1, .int .i64 a2]) (.agg #[.string b0, .int .i64 b1, .int .i64 b2])).run Tryz.prog w = .ok (.bool (!((a0.toList == b0.toList) && ((a1 == b1) && (a2 == b2))))) w := by
  rw [run_neq_struct, run_equalIn_struct (P := Tryz.prog) w 9999 32 _ _ (by kernel_rfl) (by kernel_rfl), eq_node]
  rfl
end Go.Proofs.YtcoepioahabbdaaGreat
