/- Lines in memory; '==' of faults and of lines. A parameter that is a row of lines: opened to what it holds, and read agai -/
import Derived.Test.YtadifolonbkamaaGreatDoorKvad
import Derived.Laws.StructEq
import Derived.BigQuiet
import Derived.Deep.QuietTactic
import Derived.Test.YtadifolonbkamaaGreatDoorCards
import Derived.Test.YtadifolonbkamaaGreatDoorTie
import Derived.ProofKit
import Derived.OpenShut
import Derived.Deep.Strs
import Derived.Deep.Slices
import Derived.WideKeyArgs
import Derived.Lib.SmallJoins
import Derived.Deep.DeepHandedRow
import Derived.Stop.LaidErr
import Derived.Lay
import Derived.SevenTiedAt
import Derived.SizedLaws
import Derived.JoinedCond
namespace Go.Proofs.YtadifolonbkamaaGreatDoor
open Go.RowKit
def lnCells (x : Ln) : List Value := [.string (str x.s), .string (str x.k), .string (str x.v), .int .i64 x.n]
def lns (l : List Ln) : List Value := l.flatMap lnCells
theorem block_addW (a : Addr) (n : Nat) : (a.add n).block = a.block := by unfold Addr.add; split <;> rfl
def LnsAt (w : World) (B : Nat) (A : Option Addr) (n : Nat) (l : List Ln) : Prop :=
  l.length = n ∧ n ≤ maxLen ∧ (0 < n → ∃ ad, A = some ad ∧ ad.block < B ∧ ∀ j u, (lns l)[j]? = some u → w.cell? (ad.add j) = some u)
theorem LnsAt.none_ {w : World} {B : Nat} {A : Option Addr} : LnsAt w B A 0 [] := ⟨rfl, Nat.zero_le _, fun h => by omega⟩
theorem LnsAt.below {w w' : World} {B n : Nat} {A : Option Addr} {l : List Ln} (h : LnsAt w B A n l) (hb : Below B w w') : LnsAt w' B A n l :=
  ⟨h.1, h.2.1, fun hn => by
    obtain ⟨ad, e, hB, hc⟩ := h.2.2 hn
    exact ⟨ad, e, hB, fun j x hj => (hb.cell (by rw [block_addW]; exact hB)).trans (hc j x hj)⟩⟩
theorem LnsAt.wide {w : World} {B B' n : Nat} {A : Option Addr} {l : List Ln} (h : LnsAt w B A n l) (hB : B ≤ B') : LnsAt w B' A n l :=
  ⟨h.1, h.2.1, fun hn => by
    obtain ⟨ad, e, h2, hc⟩ := h.2.2 hn
    exact ⟨ad, e, by omega, hc⟩⟩
theorem LnsAt.drewN {w : World} {B n : Nat} {A : Option Addr} {l : List Ln} (h : LnsAt w B A n l) (j : Nat) : LnsAt (w.drewN j) B A n l := h
theorem add_step (ad : Addr) (i j : Nat) (w : World) (v : Value) (h : w.cell? (ad.add (i + j)) = some v) : w.cell? ((ad.add i).add j) = some v := by
  have : (ad.add i).add j = ad.add (i + j) := by
    unfold Addr.add
    by_cases hi : i = 0 <;> by_cases hj : j = 0 <;> simp [hi, hj, Nat.add_assoc]
  rw [this]; exact h
theorem lns_get (l : List Ln) (j : Nat) (x : Ln) (h : l[j]? = some x) (i : Nat) (hi : i < 4) : (lns l)[j * 4 + i]? = (lnCells x)[i]? := by
  induction l generalizing j with
  | nil => simp at h
  | cons y l ih =>
    have e : lns (y :: l) = lnCells y ++ lns l := by simp [lns]
    rw [e]
    cases j with
    | zero =>
      simp only [List.getElem?_cons_zero, Option.some.injEq] at h
      subst h
      rw [Nat.zero_mul, Nat.zero_add, List.getElem?_append_left (by show i < 4; exact hi)]
    | succ j =>
      rw [List.getElem?_cons_succ] at h
      rw [List.getElem?_append_right (by show 4 ≤ _; omega)]
      show (lns l)[(j + 1) * 4 + i - 4]? = _
      rw [show (j + 1) * 4 + i - 4 = j * 4 + i by omega]
      exact ih j h
def LnCell (w : World) (a : Addr) (x : Ln) : Prop :=
  w.cell? a = some (.string (str x.s)) ∧ w.cell? ⟨a.block, a.off + 1, none⟩ = some (.string (str x.k)) ∧ w.cell? ⟨a.block, a.off + 2, none⟩ = some (.string (str x.v)) ∧ w.cell? ⟨a.block, a.off + 3, none⟩ = some (.int .i64 x.n)
theorem LnsAt.at_ {w : World} {B n : Nat} {A : Option Addr} {l : List Ln} (h : LnsAt w B A n l) {k : Nat} (hk : k < n) :
    ∃ ad x, A = some ad ∧ ad.block < B ∧ l[k]? = some x ∧ LnCell w (ad.add (k * 4)) x := by
  obtain ⟨h1, _, h4⟩ := h
  obtain ⟨ad, e, hb, hc⟩ := h4 (by omega)
  have hl : k < l.length := by omega
  have hx := List.getElem?_eq_getElem hl
  have c0 := hc (k * 4 + 0) _ (lns_get l k _ hx 0 (by omega))
  have c1 := add_step ad (k * 4) 1 w _ (hc (k * 4 + 1) _ (lns_get l k _ hx 1 (by omega)))
  have c2 := add_step ad (k * 4) 2 w _ (hc (k * 4 + 2) _ (lns_get l k _ hx 2 (by omega)))
  have c3 := add_step ad (k * 4) 3 w _ (hc (k * 4 + 3) _ (lns_get l k _ hx 3 (by omega)))
  exact ⟨ad, l[k], e, hb, hx, c0, c1, c2, c3⟩
theorem LnCell.below {w w' : World} {B : Nat} {a : Addr} {x : Ln} (h : LnCell w a x) (hb : Below B w w') (ha : a.block < B) : LnCell w' a x := by
  obtain ⟨c0, c1, c2, c3⟩ := h
  exact ⟨(hb.cell ha).trans c0, (hb.cell (p := ⟨a.block, a.off + 1, none⟩) ha).trans c1, (hb.cell (p := ⟨a.block, a.off + 2, none⟩) ha).trans c2, (hb.cell (p := ⟨a.block, a.off + 3, none⟩) ha).trans c3⟩
theorem eq_fault (w : World) (d : Nat) (a b c e : Int) : (Op.eqFields (d + 1) #[.int .i64 a, .int .i64 b] #[.int .i64 c, .int .i64 e] (Tryz.prog.fieldsOf 37).toList).run Tryz.prog w = .ok (a == c && b == e) w := by
  generalize hg : (Tryz.prog.fieldsOf 37).toList = fs
  have hm : fs.map (fun f => (decide (f.name = "_"), f.type, f.offset)) = [(false, 32, 0), (false, 3, 1)] := by rw [← hg]; kernel_rfl
  clear hg
  rcases fs with _ | ⟨f0, _ | ⟨f1, _ | ⟨f2, fs⟩⟩⟩
  · simp at hm
  · simp at hm
  · simp only [List.map_cons, List.map_nil, List.cons.injEq, Prod.mk.injEq, decide_eq_false_iff_not, and_true] at hm
    obtain ⟨⟨n0, t0, o0⟩, n1, t1, o1⟩ := hm
    have p0 : ∀ w : World, (part 32 #[.int .i64 a, .int .i64 b] 0).run Tryz.prog w = .ok (.int .i64 a) w := fun w => by kernel_rfl
    have p1 : ∀ w : World, (part 32 #[.int .i64 c, .int .i64 e] 0).run Tryz.prog w = .ok (.int .i64 c) w := fun w => by kernel_rfl
    have q0 : ∀ w : World, (part 3 #[.int .i64 a, .int .i64 b] 1).run Tryz.prog w = .ok (.int .i64 b) w := fun w => by kernel_rfl
    have q1 : ∀ w : World, (part 3 #[.int .i64 c, .int .i64 e] 1).run Tryz.prog w = .ok (.int .i64 e) w := fun w => by kernel_rfl
    have r0 := fun w : World => run_equalIn_int (P := Tryz.prog) w d 32 .i64 _ a c Tryz.underlying32
    have r1 := fun w : World => run_equalIn_int (P := Tryz.prog) w d 3 .i64 _ b e Tryz.underlying3
    simp only [Op.eqFields, n0, n1, t0, t1, o0, o1, ne_eq, not_false_eq_true, if_true, Sem.run_bind, p0, p1, Result.andThen_ok]
    rw [r0]
    simp only [Result.andThen_ok]
    cases h : (a == c)
    · simp
    · simp only [Bool.not_true, Bool.false_eq_true, if_false, Sem.run_bind, q0, q1, Result.andThen_ok]
      rw [r1]
      cases h2 : (b == e) <;> simp
  · simp at hm
theorem run_eql_fault (w : World) (a b c d : Int) : (binOp .eql 37 (.agg #[.int .i64 a, .int .i64 b]) (.agg #[.int .i64 c, .int .i64 d])).run Tryz.prog w = .ok (.bool (a == c && b == d)) w := by
  rw [run_eql_struct, run_equalIn_struct (P := Tryz.prog) w 9999 37 _ _ (by kernel_rfl) (by kernel_rfl), eq_fault]
  rfl
end Go.Proofs.YtadifolonbkamaaGreatDoor
namespace Go.Proofs.YtadifolonbkamaaGreatDoor
open Go.RowKit Go.Joins Go.ChangeShapes Go.WideShapes Go.ChangeAt Go.Deep
open Go.ChangeMaps (open_string shut_string)
def SizeLn (x : Ln) : Prop := x.s.length ≤ 140737488355328 ∧ x.k.length ≤ 140737488355328 ∧ x.v.length ≤ 140737488355328
theorem cell_ltP {W : World} {a : Addr} {v : Value} (h : W.cell? (a.add 0) = some v) : a.block < W.heap.size := by
  have := World.block_lt_of_cell? W _ h
  rwa [block_addW] at this
theorem pick_ltP {α : Type} (z : α) {n : Nat} {p : Nat → α → Prop} (h : ∀ i, i < n → ∃ v, p i v) : ∃ V : Nat → α, ∀ i, i < n → p i (V i) :=
  ⟨fun i => if hi : i < n then Classical.choose (h i hi) else z, fun i hi => by
    show p i (if hi : i < n then _ else _)
    rw [dif_pos hi]; exact Classical.choose_spec (h i hi)⟩
theorem same_belowP {W W' : World} {ps : List MemPlace} (hb : Below W.heap.size W W') (hlt : ∀ p ∈ ps, p.block < W.heap.size) : ∀ p ∈ ps, W.sameAt W' p := fun p hp => by
  have h := hlt p hp
  cases p with
  | cell b off => exact hb.cell (p := ⟨b, off, none⟩) h
  | map b => exact hb.block b h
section
variable {H : Type} {enc : TypeId × Value → H} {W : World} {base : Nat} {spare : Nat → Bool} {held : Bool}
def LnData (x : Ln) (d : DataW H) : Prop := d = .agg [.lit (.string x.s), .lit (.string x.k), .lit (.string x.v), .lit (.int .i64 x.n)]
theorem LnData.size {x : Ln} {d : DataW H} (h : LnData x d) (hw : ∀ k ∈ d.weights Tryz.prog 44, k ≤ reachBytes) : SizeLn x := by
  unfold LnData at h
  subst h
  have hm : ∀ k ∈ [x.s.length, x.k.length, x.v.length], k ≤ reachBytes := by
    intro k hk
    refine hw k ?_
    rw [DataW.weights, Tryz.underlying44]
    simp [DataW.weightsEach, DataW.weights] at hk ⊢
    rcases hk with rfl | rfl | rfl <;> simp
  have b := reachBytes_lt
  have h1 := hm _ (by simp : x.s.length ∈ [x.s.length, x.k.length, x.v.length])
  have h2 := hm _ (by simp : x.k.length ∈ [x.s.length, x.k.length, x.v.length])
  have h3 := hm _ (by simp : x.v.length ∈ [x.s.length, x.k.length, x.v.length])
  exact ⟨by omega, by omega, by omega⟩
end
theorem ownKnobNone : ownKnob Tryz.prog.godebug = none := by kernel_rfl
noncomputable def laidWorld (os : Os) : World := World.laidAll Tryz.prog os Rows.keysTableRow.laid
theorem laid_met (os : Os) (args : Array Value) : laidMetH Tryz.prog Rows.keysTableRow.laid ((laidWorld os).forCall (fun _ _ => 0) ⟨#[], args, []⟩).memory := by
  rw [MakeChecks.laidMetH_plain _ _ _ (by kernel_rfl)]
  exact laidMet_laidAll _ (by kernel_rfl) (by kernel_rfl)
theorem laid_vars (os : Os) (args : Array Value) : ((laidWorld os).forCall (fun _ _ => 0) ⟨#[], args, []⟩).Shaped Tryz.prog :=
  World.shaped_of_ZipB (by kernel_rfl) (by kernel_rfl)
theorem witness_laid {H : Type} {enc : TypeId × Value → H} {os : Os} {f : FuncId} {fn : Func} {s : OpenSpec} {conds : List PathCond} {apart : Bool} {laid : List (String × DataW Unit)} (args : Array Value)
    (hok : Input.okWideB Tryz.checked.prog ((laidWorld os).forCall (fun _ _ => 0) ⟨#[], args, []⟩) f ⟨#[], args, []⟩ = true)
    (hrow : s.preRow enc Tryz.checked.prog fn conds apart laid ((laidWorld os).forCall (fun _ _ => 0) ⟨#[], args, []⟩).memory args) :
    ∃ (w : World) (tape : Tape) (i : Input), w.os = os ∧ (w.forCall tape i).Shaped Tryz.checked.prog ∧ i.vars = [] ∧ Input.okWide Tryz.checked.prog (w.forCall tape i) .any w.heap.size f i ∧
      s.preRow enc Tryz.checked.prog fn conds apart laid (w.forCall tape i).memory i.args ∧ ({} : Assume).holds Tryz.checked.prog (lone (Frame.enter Tryz.checked.prog f i.args .normal) [] (w.forCall tape i)) :=
  ⟨laidWorld os, fun _ _ => 0, ⟨#[], args, []⟩, World.laidAll_os _ _ _, laid_vars os args, (Input.okWide_of_okWideB (base := 0) hok).1, (Input.okWide_of_okWideB hok).2, hrow, by
    simp only [Assume.holds]
    exact ⟨by simp, by simp, by simp, by simp, by simp, by simp⟩⟩
theorem post_below {H : Type} {enc : TypeId × Value → H} {P : Program} {f : Func} {s : ChangeSpec} {apart fresh handsOn again : Bool} {W W' : World} {args : Array Value} {v : Value} {ds gs : List (DataW H)} {before pa pv : List MemPlace}
    (hW : DataW.Whole enc P f.params.toList s.vars apart W args.toList ds gs before)
    (hres : ∀ (b : Nat) (sp : Nat → Bool) (hd : Bool), DataW.TrodAll enc P W' b sp hd f.resultTypes.toList (v.resultList f.resultTypes.size) (s.fn H (ds ++ gs)).results [])
    (hargs : ∀ sp : Nat → Bool, (∀ p ∈ before, sp p.block = true) → DataW.TrodAll enc P W' 0 sp true f.params.toList args.toList (s.fn H (ds ++ gs)).args pa)
    (hvars : ∀ sp : Nat → Bool, (∀ p ∈ before, sp p.block = true) → DataW.TrodVars enc P W' sp s.vars (s.fn H (ds ++ gs)).vars pv)
    (hps : before = pa ++ pv) (hb : Below W.heap.size W W')
    (hok : ∀ (j : Nat) (t : TypeId) (r : Value), f.resultTypes[j]? = some t → (v.resultList f.resultTypes.size)[j]? = some r → Value.okWide P W' .any 0 t r) :
    s.post enc P f apart fresh handsOn again W args v W' := by
  have hlt : ∀ p ∈ before, p.block < W.heap.size := fun p hp => hW.lt p hp
  have hold : ∀ p ∈ before, (fun b => decide (b < W.heap.size)) p.block = true := fun p hp => by simpa using hlt p hp
  refine ⟨ds, gs, before, [], pa, pv, hW, hres _ _ _, hargs _ hold, hvars _ hold, World.keptBut_mono (fun p hp => ⟨hp, ?_⟩) (hb.frame (· ∈ before)), fun _ => ?_⟩
  · rw [hps, List.mem_append] at hp
    exact Or.inr hp
  · obtain ⟨_, _, _, _, _, hz, hn⟩ := hW
    refine ⟨hok, _, _, ([] ++ pa) ++ pv, ⟨[] ++ pa, pv, trodAll_append (hargs _ (fun _ _ => rfl)) (hres _ _ _), hvars _ (fun _ _ => rfl), rfl, ?_, ?_⟩, ?_⟩
    · intro b off hp
      have hin : MemPlace.cell b off ∈ before := by rw [hps]; simpa using hp
      rw [hb.frozen (hlt _ hin)]
      exact hz b off hin
    · intro ha
      have := hn ha
      rw [hps] at this
      simpa using this
    · intro p hp _
      rw [hps]
      simpa using hp
end Go.Proofs.YtadifolonbkamaaGreatDoor
namespace Go.Proofs.YtadifolonbkamaaGreatDoor
open Go.RowKit
structure Kr where
  s : List UInt8
  n : List UInt8
  f : Int
  l : Bool
  k : Int
  A : Option Addr
  m : Nat
  c : Nat
def krCells (x : Kr) : List Value := [.string (str x.s), .string (str x.n), .int .i64 x.f, .bool x.l, .int .i64 x.k, .slice x.A x.m x.c]
def krs (l : List Kr) : List Value := l.flatMap krCells
def RowS (w : World) (B : Nat) (A : Option Addr) (n : Nat) (l : List (List UInt8)) : Prop :=
  RowAt w B A n l ∧ ∀ ad, A = some ad → ad.block < B ∧ ∃ cs fz, w.heap[ad.block]? = some (.cells cs 9 fz)
theorem RowS.none_ {w : World} {B : Nat} : RowS w B none 0 [] := ⟨RowAt.none_, fun ad h => by cases h⟩
theorem RowS.below {w w' : World} {B n : Nat} {A : Option Addr} {l : List (List UInt8)} (h : RowS w B A n l) (hb : Below B w w') : RowS w' B A n l :=
  ⟨h.1.below hb, fun ad e => by
    obtain ⟨h1, cs, fz, h2⟩ := h.2 ad e
    exact ⟨h1, cs, fz, (hb.block _ h1).trans h2⟩⟩
theorem RowS.wide {w : World} {B B' n : Nat} {A : Option Addr} {l : List (List UInt8)} (h : RowS w B A n l) (hB : B ≤ B') : RowS w B' A n l :=
  ⟨h.1.wide hB, fun ad e => by
    obtain ⟨h1, h2⟩ := h.2 ad e
    exact ⟨by omega, h2⟩⟩
theorem RowS.keep {w w' : World} {B n F : Nat} {t : TypeId} {cs : Array Value} {A : Option Addr} {l : List (List UInt8)} (h : RowS w B A n l) (hF : Blk w F t cs) (ht : t ≠ 9) (hk : ∀ i, i ≠ F → w'.heap[i]? = w.heap[i]?) : RowS w' B A n l := by
  obtain ⟨h1, h2⟩ := h
  have hne : ∀ ad, A = some ad → ad.block ≠ F := by
    rintro ad e rfl
    obtain ⟨_, cs', fz, h3⟩ := h2 ad e
    unfold Blk at hF
    rw [hF] at h3
    injection h3 with h3
    injection h3 with _ h3
    exact ht h3
  refine ⟨⟨h1.1, h1.2.1, fun hn => ?_⟩, fun ad e => ?_⟩
  · obtain ⟨ad, e, hB, hc⟩ := h1.2.2 hn
    exact ⟨ad, e, hB, fun j x hj => (World.cell?_of_block (hk _ (by rw [block_addR]; exact hne ad e))).trans (hc j x hj)⟩
  · obtain ⟨h3, cs', fz, h4⟩ := h2 ad e
    exact ⟨h3, cs', fz, (hk _ (hne ad e)).trans h4⟩
def Kr.is (w : World) (B : Nat) (r : Kr) (x : Ky) : Prop := r.s = x.s ∧ r.n = x.n ∧ r.f = x.f ∧ r.l = x.l ∧ r.k = x.k ∧ RowS w B r.A r.m x.w
theorem Kr.is.below {w w' : World} {B : Nat} {r : Kr} {x : Ky} (h : r.is w B x) (hb : Below B w w') : r.is w' B x :=
  ⟨h.1, h.2.1, h.2.2.1, h.2.2.2.1, h.2.2.2.2.1, h.2.2.2.2.2.below hb⟩
theorem Kr.is.wide {w : World} {B B' : Nat} {r : Kr} {x : Ky} (h : r.is w B x) (hB : B ≤ B') : r.is w B' x :=
  ⟨h.1, h.2.1, h.2.2.1, h.2.2.2.1, h.2.2.2.2.1, h.2.2.2.2.2.wide hB⟩
theorem Kr.is.keep {w w' : World} {B F : Nat} {t : TypeId} {cs : Array Value} {r : Kr} {x : Ky} (h : r.is w B x) (hF : Blk w F t cs) (ht : t ≠ 9) (hk : ∀ i, i ≠ F → w'.heap[i]? = w.heap[i]?) : r.is w' B x :=
  ⟨h.1, h.2.1, h.2.2.1, h.2.2.2.1, h.2.2.2.2.1, h.2.2.2.2.2.keep hF ht hk⟩
def KrsAre (w : World) (B : Nat) (rs : List Kr) (l : List Ky) : Prop := rs.length = l.length ∧ ∀ (j : Nat) (r : Kr) (x : Ky), rs[j]? = some r → l[j]? = some x → r.is w B x
theorem KrsAre.below {w w' : World} {B : Nat} {rs : List Kr} {l : List Ky} (h : KrsAre w B rs l) (hb : Below B w w') : KrsAre w' B rs l := ⟨h.1, fun j r x hr hx => (h.2 j r x hr hx).below hb⟩
theorem KrsAre.wide {w : World} {B B' : Nat} {rs : List Kr} {l : List Ky} (h : KrsAre w B rs l) (hB : B ≤ B') : KrsAre w B' rs l := ⟨h.1, fun j r x hr hx => (h.2 j r x hr hx).wide hB⟩
theorem KrsAre.nil {w : World} {B : Nat} : KrsAre w B [] [] := ⟨rfl, fun j r x hr _ => by simp at hr⟩
theorem KrsAre.cons {w : World} {B : Nat} {r : Kr} {x : Ky} {rs : List Kr} {l : List Ky} (h : r.is w B x) (hs : KrsAre w B rs l) : KrsAre w B (r :: rs) (x :: l) := by
  refine ⟨by simp [hs.1], fun j r' x' hr hx => ?_⟩
  cases j with
  | zero =>
    simp only [List.getElem?_cons_zero, Option.some.injEq] at hr hx
    subst hr hx
    exact h
  | succ j => exact hs.2 j r' x' (by simpa using hr) (by simpa using hx)
theorem KrsAre.append {w : World} {B : Nat} {rs rs' : List Kr} {l l' : List Ky} (h : KrsAre w B rs l) (h' : KrsAre w B rs' l') : KrsAre w B (rs ++ rs') (l ++ l') := by
  refine ⟨by simp [h.1, h'.1], fun j r x hr hx => ?_⟩
  have e := h.1
  by_cases hj : j < rs.length
  · rw [List.getElem?_append_left hj] at hr
    rw [List.getElem?_append_left (by omega)] at hx
    exact h.2 j r x hr hx
  · rw [List.getElem?_append_right (by omega)] at hr hx
    exact h'.2 (j - rs.length) r x hr (by rw [e]; exact hx)
theorem krs_length (l : List Kr) : (krs l).length = l.length * 6 := by
  induction l with
  | nil => rfl
  | cons x l ih => have e : krs (x :: l) = krCells x ++ krs l := by simp [krs]
                   rw [e, List.length_append, ih, List.length_cons]; show 6 + _ = _; omega
theorem krs_append (a b : List Kr) : krs (a ++ b) = krs a ++ krs b := by simp [krs]
theorem krs_one (x : Kr) : krs [x] = krCells x := by simp [krs]
theorem krs_get (l : List Kr) (j : Nat) (x : Kr) (h : l[j]? = some x) (i : Nat) (hi : i < 6) : (krs l)[j * 6 + i]? = (krCells x)[i]? := by
  induction l generalizing j with
  | nil => simp at h
  | cons y l ih =>
    have e : krs (y :: l) = krCells y ++ krs l := by simp [krs]
    rw [e]
    cases j with
    | zero =>
      simp only [List.getElem?_cons_zero, Option.some.injEq] at h
      subst h
      rw [Nat.zero_mul, Nat.zero_add, List.getElem?_append_left (by show i < 6; exact hi)]
    | succ j =>
      rw [List.getElem?_cons_succ] at h
      rw [List.getElem?_append_right (by show 6 ≤ _; omega)]
      show (krs l)[(j + 1) * 6 + i - 6]? = _
      rw [show (j + 1) * 6 + i - 6 = j * 6 + i by omega]
      exact ih j h
theorem krs_one_cell (l : List Kr) : ∀ x ∈ krs l, x.oneCell' = true := by
  intro x hx
  obtain ⟨r, _, hr⟩ := List.mem_flatMap.1 hx
  simp [krCells] at hr
  rcases hr with rfl | rfl | rfl | rfl | rfl | rfl <;> rfl
def KrCell (w : World) (a : Addr) (x : Kr) : Prop :=
  w.cell? a = some (.string (str x.s)) ∧ w.cell? ⟨a.block, a.off + 1, none⟩ = some (.string (str x.n)) ∧ w.cell? ⟨a.block, a.off + 2, none⟩ = some (.int .i64 x.f) ∧ w.cell? ⟨a.block, a.off + 3, none⟩ = some (.bool x.l) ∧ w.cell? ⟨a.block, a.off + 4, none⟩ = some (.int .i64 x.k) ∧ w.cell? ⟨a.block, a.off + 5, none⟩ = some (.slice x.A x.m x.c)
theorem add_stepK (ad : Addr) (i j : Nat) (w : World) (v : Value) (h : w.cell? (ad.add (i + j)) = some v) : w.cell? ((ad.add i).add j) = some v := by
  have : (ad.add i).add j = ad.add (i + j) := by
    unfold Addr.add
    by_cases hi : i = 0 <;> by_cases hj : j = 0 <;> simp [hi, hj, Nat.add_assoc]
  rw [this]; exact h
def KrsIn (w : World) (B : Nat) (A : Option Addr) (rs : List Kr) : Prop := 0 < rs.length → ∃ ad, A = some ad ∧ ad.block < B ∧ ∀ j u, (krs rs)[j]? = some u → w.cell? (ad.add j) = some u
theorem KrsIn.below {w w' : World} {B : Nat} {A : Option Addr} {rs : List Kr} (h : KrsIn w B A rs) (hb : Below B w w') : KrsIn w' B A rs := fun hn => by
  obtain ⟨ad, e, hB, hc⟩ := h hn
  exact ⟨ad, e, hB, fun j u hj => (hb.cell (by rw [block_addR]; exact hB)).trans (hc j u hj)⟩
theorem KrsIn.at_ {w : World} {B : Nat} {A : Option Addr} {rs : List Kr} (h : KrsIn w B A rs) {k : Nat} {r : Kr} (hk : rs[k]? = some r) : ∃ ad, A = some ad ∧ ad.block < B ∧ KrCell w (ad.add (k * 6)) r := by
  have hl : k < rs.length := by
    rcases Nat.lt_or_ge k rs.length with h' | h'
    · exact h'
    · rw [List.getElem?_eq_none h'] at hk; cases hk
  obtain ⟨ad, e, hB, hc⟩ := h (by omega)
  refine ⟨ad, e, hB, ?_, ?_, ?_, ?_, ?_, ?_⟩
  · exact hc (k * 6 + 0) _ (krs_get rs k r hk 0 (by omega))
  · exact add_stepK ad (k * 6) 1 w _ (hc (k * 6 + 1) _ (krs_get rs k r hk 1 (by omega)))
  · exact add_stepK ad (k * 6) 2 w _ (hc (k * 6 + 2) _ (krs_get rs k r hk 2 (by omega)))
  · exact add_stepK ad (k * 6) 3 w _ (hc (k * 6 + 3) _ (krs_get rs k r hk 3 (by omega)))
  · exact add_stepK ad (k * 6) 4 w _ (hc (k * 6 + 4) _ (krs_get rs k r hk 4 (by omega)))
  · exact add_stepK ad (k * 6) 5 w _ (hc (k * 6 + 5) _ (krs_get rs k r hk 5 (by omega)))
def KysAt (w : World) (B : Nat) (A : Option Addr) (n : Nat) (l : List Ky) : Prop :=
  l.length = n ∧ n ≤ maxLen ∧ ∃ rs, KrsAre w B rs l ∧ KrsIn w B A rs
theorem KysAt.none_ {w : World} {B : Nat} {A : Option Addr} : KysAt w B A 0 [] := ⟨rfl, Nat.zero_le _, [], KrsAre.nil, fun h => by simp at h⟩
theorem KysAt.below {w w' : World} {B n : Nat} {A : Option Addr} {l : List Ky} (h : KysAt w B A n l) (hb : Below B w w') : KysAt w' B A n l := by
  obtain ⟨h1, h2, rs, h3, h4⟩ := h
  exact ⟨h1, h2, rs, h3.below hb, h4.below hb⟩
theorem KysAt.wide {w : World} {B B' n : Nat} {A : Option Addr} {l : List Ky} (h : KysAt w B A n l) (hB : B ≤ B') : KysAt w B' A n l := by
  obtain ⟨h1, h2, rs, h3, h4⟩ := h
  exact ⟨h1, h2, rs, h3.wide hB, fun hn => by obtain ⟨ad, e, q, hc⟩ := h4 hn; exact ⟨ad, e, by omega, hc⟩⟩
theorem KysAt.drewN {w : World} {B n : Nat} {A : Option Addr} {l : List Ky} (h : KysAt w B A n l) (j : Nat) : KysAt (w.drewN j) B A n l := h.below (below_drewN (Below.refl _ _) j)
theorem KysAt.at_ {w : World} {B n : Nat} {A : Option Addr} {l : List Ky} (h : KysAt w B A n l) {k : Nat} (hk : k < n) :
    ∃ ad r x, A = some ad ∧ ad.block < B ∧ l[k]? = some x ∧ r.is w B x ∧ KrCell w (ad.add (k * 6)) r := by
  obtain ⟨h1, h2, rs, h3, h4⟩ := h
  have e1 := h3.1
  have kl : k < l.length := by omega
  have kr : k < rs.length := by omega
  have hx : l[k]? = some l[k] := List.getElem?_eq_getElem kl
  have hr : rs[k]? = some rs[k] := List.getElem?_eq_getElem kr
  obtain ⟨ad, e, hB, hc⟩ := h4.at_ hr
  exact ⟨ad, _, _, e, hB, hx, h3.2 k _ _ hr hx, hc⟩
theorem KrsIn.of_own {w : World} {base n : Nat} {v : Value} {rs : List Kr} {t : TypeId} (h : w.ownsRow base t 6 v n (krs rs)) : ∃ A c, v = .slice A n c ∧ KrsIn w w.heap.size A rs := by
  obtain ⟨h1, h2⟩ := h
  have hl : rs.length = n := by rw [krs_length] at h1; omega
  rcases h2 with ⟨hv, h0⟩ | ⟨g, cap, cur, hv, hg, hb, hr1, hr2, hr3, hr4⟩
  · subst h0
    exact ⟨none, 0, hv, fun hn => by omega⟩
  · refine ⟨some ⟨g, 0, none⟩, cap, hv, fun _ => ⟨⟨g, 0, none⟩, rfl, (Array.getElem?_eq_some_iff.1 hb).1, fun j u hj => ?_⟩⟩
    have hjl : j < n * 6 := by
      rw [← h1]
      rcases Nat.lt_or_ge j (krs rs).length with h' | h'
      · exact h'
      · rw [List.getElem?_eq_none h'] at hj; cases hj
    rw [← hr4, List.getElem?_take_of_lt hjl] at hj
    have : (⟨g, 0, none⟩ : Addr).add j = ⟨g, j, none⟩ := by unfold Addr.add; split <;> simp_all
    rw [this]
    have hc : w.cell? ⟨g, j, none⟩ = cur[j]? := cell_of_row w g j cur _ (0, 0) hb
    rw [hc, ← Array.getElem?_toList]; exact hj
theorem KysAt.of_own {w : World} {base n : Nat} {v : Value} {rs : List Kr} {l : List Ky} {t : TypeId} (h : w.ownsRow base t 6 v n (krs rs)) (hn : n ≤ maxLen) (ha : KrsAre w w.heap.size rs l) : ∃ A c, v = .slice A n c ∧ KysAt w w.heap.size A n l := by
  obtain ⟨A, c, hv, hi⟩ := KrsIn.of_own h
  have hl : rs.length = n := by have := h.1; rw [krs_length] at this; omega
  exact ⟨A, c, hv, by rw [← ha.1]; exact hl, hn, rs, ha, hi⟩
theorem KysAt.of_blk {w : World} {g n : Nat} {rs : List Kr} {l : List Ky} {t : TypeId} (h : Blk w g t (krs rs).toArray) (hl : l.length = n) (hn : n ≤ maxLen) (ha : KrsAre w w.heap.size rs l) : KysAt w w.heap.size (some ⟨g, 0, none⟩) n l := by
  refine ⟨hl, hn, rs, ha, fun _ => ⟨⟨g, 0, none⟩, rfl, h.lt, fun j u hj => ?_⟩⟩
  have : (⟨g, 0, none⟩ : Addr).add j = ⟨g, j, none⟩ := by unfold Addr.add; split <;> simp_all
  rw [this, h.cell j]
  simpa using hj
end Go.Proofs.YtadifolonbkamaaGreatDoor
