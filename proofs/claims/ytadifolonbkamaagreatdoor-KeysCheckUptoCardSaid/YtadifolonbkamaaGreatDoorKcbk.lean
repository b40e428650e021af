/- A parameter that is a row of lines: opened to what it holds, and read again in any later memory; what the rows' list of  -/
import Derived.Test.YtadifolonbkamaaGreatDoorCards
import Derived.Test.YtadifolonbkamaaGreatDoorTie
import Derived.Test.YtadifolonbkamaaGreatDoorKcau
import Derived.ProofKit
import Derived.OpenShut
import Derived.Deep.Strs
import Derived.Deep.Slices
import Derived.WideKeyArgs
import Derived.Lib.SmallJoins
import Derived.Deep.DeepHandedRow
import Derived.Stop.LaidErr
import Derived.Lay
import Derived.SevenTiedAt
import Derived.SizedLaws
import Derived.JoinedCond
import Derived.Test.YtadifolonbkamaaGreatDoorKcay
import Derived.Lib.LaidTab
import Derived.Lib.LaidU8
import Derived.Shelf.Vars
import Derived.Test.YtadifolonbkamaaGreatDoorKcaa
import Derived.Test.YtadifolonbkamaaGreatDoorKcak
import Derived.Test.YtadifolonbkamaaGreatDoorKcbj
import Derived.Laws.BitsAllLaws
import Derived.Laws.BitsLemmas
import Derived.BigQuiet
namespace Go.Proofs.YtadifolonbkamaaGreatDoor
open Go.RowKit Go.Joins Go.ChangeShapes Go.WideShapes Go.ChangeAt Go.Deep
open Go.ChangeMaps (open_string shut_string)
def SizeLn (x : Ln) : Prop := x.s.length ≤ 140737488355328 ∧ x.k.length ≤ 140737488355328 ∧ x.v.length ≤ 140737488355328
theorem add_of_addP (a : Addr) (i j : Nat) : (a.add i).add j = a.add (i + j) := by
  unfold Addr.add
  by_cases hi : i = 0 <;> by_cases hj : j = 0 <;> simp [hi, hj, Nat.add_assoc]
theorem cell_ltP {W : World} {a : Addr} {v : Value} (h : W.cell? (a.add 0) = some v) : a.block < W.heap.size := by
  have := World.block_lt_of_cell? W _ h
  rwa [block_addW] at this
theorem pick_ltP {α : Type} (z : α) {n : Nat} {p : Nat → α → Prop} (h : ∀ i, i < n → ∃ v, p i v) : ∃ V : Nat → α, ∀ i, i < n → p i (V i) :=
  ⟨fun i => if hi : i < n then Classical.choose (h i hi) else z, fun i hi => by
    show p i (if hi : i < n then _ else _)
    rw [dif_pos hi]; exact Classical.choose_spec (h i hi)⟩
theorem same_belowP {W W' : World} {ps : List MemPlace} (hb : Below W.heap.size W W') (hlt : ∀ p ∈ ps, p.block < W.heap.size) : ∀ p ∈ ps, W.sameAt W' p := fun p hp => by
  have h := hlt p hp
  cases p with
  | cell b off => exact hb.cell (p := ⟨b, off, none⟩) h
  | map b => exact hb.block b h
theorem bulk_memP {H : Type} {x : DataW H} {l : List (DataW H)} (h : x ∈ l) : Rows.uptoBulk x ≤ Rows.uptoBulkAll l := by
  induction l with
  | nil => cases h
  | cons y l ih =>
    rw [Rows.uptoBulkAll]
    rcases List.mem_cons.1 h with rfl | h
    · omega
    · have := ih h; omega
theorem bulk_countP {H : Type} (l : List (DataW H)) (h : ∀ x ∈ l, 1 ≤ Rows.uptoBulk x) : l.length ≤ Rows.uptoBulkAll l := by
  induction l with
  | nil => exact Nat.zero_le _
  | cons y l ih =>
    rw [Rows.uptoBulkAll, List.length_cons]
    have h1 := h y (by simp)
    have h2 := ih (fun x hx => h x (by simp [hx]))
    omega
section
variable {H : Type} {enc : TypeId × Value → H} {W : World} {base : Nat} {spare : Nat → Bool} {held : Bool}
theorem trod4 {P : Program} {t : TypeId} {f0 f1 f2 f3 : Field} {n : Nat} {c0 c1 c2 c3 : Value} {y : DataW H × List MemPlace} (hs : P.underlying t = some (.struct #[f0, f1, f2, f3])) (hone : oneCellFields P #[f0, f1, f2, f3] = true) (h : DataW.trod enc P W base spare held n t [c0, c1, c2, c3] = some y) :
    ∃ (m : Nat) (y0 y1 y2 y3 : DataW H × List MemPlace), DataW.trod enc P W base spare held m f0.type [c0] = some y0 ∧ DataW.trod enc P W base spare held m f1.type [c1] = some y1 ∧ DataW.trod enc P W base spare held m f2.type [c2] = some y2 ∧
      DataW.trod enc P W base spare held m f3.type [c3] = some y3 ∧ y.1 = .agg [y0.1, y1.1, y2.1, y3.1] := by
  obtain ⟨xs, m, _, hx, _, hlen, hg⟩ := DataW.trod_struct hs h
  obtain ⟨o0, k0⟩ := hone_of hone 0 f0 rfl
  obtain ⟨o1, k1⟩ := hone_of hone 1 f1 rfl
  obtain ⟨o2, k2⟩ := hone_of hone 2 f2 rfl
  obtain ⟨o3, k3⟩ := hone_of hone 3 f3 rfl
  match xs, hlen with
  | [y0, y1, y2, y3], _ =>
    exact ⟨m, y0, y1, y2, y3, by simpa [o0, k0] using hg 0 f0 rfl, by simpa [o1, k1] using hg 1 f1 rfl, by simpa [o2, k2] using hg 2 f2 rfl, by simpa [o3, k3] using hg 3 f3 rfl, by rw [hx]; rfl⟩
def LnData (x : Ln) (d : DataW H) : Prop := d = .agg [.lit (.string x.s), .lit (.string x.k), .lit (.string x.v), .lit (.int .i64 x.n)]
theorem line_of {n : Nat} {cs : List Value} {y : DataW H × List MemPlace} (hlen : cs.length = 4) (h : DataW.trod enc Tryz.prog W base spare held n 44 cs = some y) :
    ∃ x : Ln, cs = lnCells x ∧ LnData x y.1 := by
  match cs, hlen with
  | [c0, c1, c2, c3], _ =>
    obtain ⟨m, y0, y1, y2, y3, h0, h1, h2, h3, hy⟩ := trod4 Tryz.underlying44 (by kernel_rfl) h
    obtain ⟨x0, e0, d0, w0⟩ := DataW.trod_string Tryz.underlying9 h0
    obtain ⟨x1, e1, d1, w1⟩ := DataW.trod_string Tryz.underlying9 h1
    obtain ⟨x2, e2, d2, w2⟩ := DataW.trod_string Tryz.underlying9 h2
    obtain ⟨x3, e3, d3, w3⟩ := DataW.trod_int Tryz.underlying3 h3
    obtain rfl : c0 = .string x0 := by simpa using e0
    obtain rfl : c1 = .string x1 := by simpa using e1
    obtain rfl : c2 = .string x2 := by simpa using e2
    obtain rfl : c3 = .int .i64 x3 := by simpa using e3
    refine ⟨⟨x0.data.toList, x1.data.toList, x2.data.toList, x3⟩, by simp [lnCells, str_data], ?_⟩
    unfold LnData
    rw [hy, d0, d1, d2, d3]
theorem LnData.size {x : Ln} {d : DataW H} (h : LnData x d) (hw : ∀ k ∈ d.weights Tryz.prog 44, k ≤ reachBytes) : SizeLn x := by
  unfold LnData at h
  subst h
  have hm : ∀ k ∈ [x.s.length, x.k.length, x.v.length], k ≤ reachBytes := by
    intro k hk
    refine hw k ?_
    rw [DataW.weights, Tryz.underlying44]
    simp [DataW.weightsEach, DataW.weights] at hk ⊢
    rcases hk with rfl | rfl | rfl <;> simp
  have b := reachBytes_lt
  have h1 := hm _ (by simp : x.s.length ∈ [x.s.length, x.k.length, x.v.length])
  have h2 := hm _ (by simp : x.k.length ∈ [x.s.length, x.k.length, x.v.length])
  have h3 := hm _ (by simp : x.v.length ∈ [x.s.length, x.k.length, x.v.length])
  exact ⟨by omega, by omega, by omega⟩
theorem LnData.bulk {x : Ln} {d : DataW H} (h : LnData x d) : x.s.length + x.k.length + x.v.length < Rows.uptoBulk d := by
  unfold LnData at h
  subst h
  simp only [Rows.uptoBulk, Rows.uptoBulkAll]
  omega
theorem shut_lines {W' : World} {v : Value} {d : DataW H} {ps : List MemPlace} {sp : Nat → Bool} (h : DataW.Trod enc Tryz.prog W 0 (fun _ => true) true 35 v d ps) (hb : Below W.heap.size W W') (hlt : ∀ p ∈ ps, p.block < W.heap.size) (hs : ∀ p ∈ ps, sp p.block = true) :
    DataW.Trod enc Tryz.prog W' 0 sp true 35 v d ps :=
  WideElems.Trod_stays (by kernel_rfl) (by kernel_rfl) (of_decide_eq_true (by kernel_rfl)) h (same_belowP hb hlt) hs
end
theorem ownKnobNone : ownKnob Tryz.prog.godebug = none := by kernel_rfl
noncomputable def laidWorld (os : Os) : World := World.laidAll Tryz.prog os Rows.keysTableRow.laid
theorem laid_met (os : Os) (args : Array Value) : laidMetH Tryz.prog Rows.keysTableRow.laid ((laidWorld os).forCall (fun _ _ => 0) ⟨#[], args, []⟩).memory := by
  rw [MakeChecks.laidMetH_plain _ _ _ (by kernel_rfl)]
  exact laidMet_laidAll _ (by kernel_rfl) (by kernel_rfl)
theorem laid_vars (os : Os) (args : Array Value) : ((laidWorld os).forCall (fun _ _ => 0) ⟨#[], args, []⟩).Shaped Tryz.prog :=
  World.shaped_of_ZipB (by kernel_rfl) (by kernel_rfl)
theorem witness_laid {H : Type} {enc : TypeId × Value → H} {os : Os} {f : FuncId} {fn : Func} {s : OpenSpec} {conds : List PathCond} {apart : Bool} {laid : List (String × DataW Unit)} (args : Array Value)
    (hok : Input.okWideB Tryz.checked.prog ((laidWorld os).forCall (fun _ _ => 0) ⟨#[], args, []⟩) f ⟨#[], args, []⟩ = true)
    (hrow : s.preRow enc Tryz.checked.prog fn conds apart laid ((laidWorld os).forCall (fun _ _ => 0) ⟨#[], args, []⟩).memory args) :
    ∃ (w : World) (tape : Tape) (i : Input), w.os = os ∧ (w.forCall tape i).Shaped Tryz.checked.prog ∧ i.vars = [] ∧ Input.okWide Tryz.checked.prog (w.forCall tape i) .any w.heap.size f i ∧
      s.preRow enc Tryz.checked.prog fn conds apart laid (w.forCall tape i).memory i.args ∧ ({} : Assume).holds Tryz.checked.prog (lone (Frame.enter Tryz.checked.prog f i.args .normal) [] (w.forCall tape i)) :=
  ⟨laidWorld os, fun _ _ => 0, ⟨#[], args, []⟩, World.laidAll_os _ _ _, laid_vars os args, (Input.okWide_of_okWideB (base := 0) hok).1, (Input.okWide_of_okWideB hok).2, hrow, by
    simp only [Assume.holds]
    exact ⟨by simp, by simp, by simp, by simp, by simp, by simp⟩⟩
theorem post_below {H : Type} {enc : TypeId × Value → H} {P : Program} {f : Func} {s : ChangeSpec} {apart fresh handsOn again : Bool} {W W' : World} {args : Array Value} {v : Value} {ds gs : List (DataW H)} {before pa pv : List MemPlace}
    (hW : DataW.Whole enc P f.params.toList s.vars apart W args.toList ds gs before)
    (hres : ∀ (b : Nat) (sp : Nat → Bool) (hd : Bool), DataW.TrodAll enc P W' b sp hd f.resultTypes.toList (v.resultList f.resultTypes.size) (s.fn H (ds ++ gs)).results [])
    (hargs : ∀ sp : Nat → Bool, (∀ p ∈ before, sp p.block = true) → DataW.TrodAll enc P W' 0 sp true f.params.toList args.toList (s.fn H (ds ++ gs)).args pa)
    (hvars : ∀ sp : Nat → Bool, (∀ p ∈ before, sp p.block = true) → DataW.TrodVars enc P W' sp s.vars (s.fn H (ds ++ gs)).vars pv)
    (hps : before = pa ++ pv) (hb : Below W.heap.size W W')
    (hok : ∀ (j : Nat) (t : TypeId) (r : Value), f.resultTypes[j]? = some t → (v.resultList f.resultTypes.size)[j]? = some r → Value.okWide P W' .any 0 t r) :
    s.post enc P f apart fresh handsOn again W args v W' := by
  have hlt : ∀ p ∈ before, p.block < W.heap.size := fun p hp => hW.lt p hp
  have hold : ∀ p ∈ before, (fun b => decide (b < W.heap.size)) p.block = true := fun p hp => by simpa using hlt p hp
  refine ⟨ds, gs, before, [], pa, pv, hW, hres _ _ _, hargs _ hold, hvars _ hold, World.keptBut_mono (fun p hp => ⟨hp, ?_⟩) (hb.frame (· ∈ before)), fun _ => ?_⟩
  · rw [hps, List.mem_append] at hp
    exact Or.inr hp
  · obtain ⟨_, _, _, _, _, hz, hn⟩ := hW
    refine ⟨hok, _, _, ([] ++ pa) ++ pv, ⟨[] ++ pa, pv, trodAll_append (hargs _ (fun _ _ => rfl)) (hres _ _ _), hvars _ (fun _ _ => rfl), rfl, ?_, ?_⟩, ?_⟩
    · intro b off hp
      have hin : MemPlace.cell b off ∈ before := by rw [hps]; simpa using hp
      rw [hb.frozen (hlt _ hin)]
      exact hz b off hin
    · intro ha
      have := hn ha
      rw [hps] at this
      simpa using this
    · intro p hp _
      rw [hps]
      simpa using hp
end Go.Proofs.YtadifolonbkamaaGreatDoor
namespace Go.Proofs.YtadifolonbkamaaGreatDoor
open Go.RowKit Go.Joins Go.ChangeShapes Go.WideShapes Go.ChangeAt Go.Deep
end Go.Proofs.YtadifolonbkamaaGreatDoor
namespace Go.Proofs.YtadifolonbkamaaGreatDoor
open Go.RowKit Go.ChangeShapes Go.WideShapes Go.ChangeAt
open Go.ChangeMaps (open_string shut_string)
theorem pow10_type : (Tryz.prog.globals[7]?).map (·.type) = some 214 := by kernel_rfl
theorem pow10_cells : Tryz.prog.cellsOf 214 = 20 := by kernel_rfl
theorem u64_cells : Tryz.prog.cellsOf 166 = 1 := by kernel_rfl
theorem pow10_datum : (Rows.laid_internal_strconv_uint64pow10 : DataW Unit) = Lib.tabData .u64 Lib.pow10Tab := by kernel_rfl
theorem rng_type : (Tryz.prog.globals[0]?).map (·.type) = some 133 := by kernel_rfl
theorem days_type : (Tryz.prog.globals[3]?).map (·.type) = some 173 := by kernel_rfl
theorem cells_of_strs {H : Type} {enc : TypeId × Value → H} {P : Program} {w : World} {base : Nat} {sp : Nat → Bool} {held : Bool} {fuel : Nat} {t e : TypeId} {n : Nat} {cs : List Value} {zs : List (List UInt8)} {p : List MemPlace}
    (ht : P.underlying t = some (.array n e)) (he : P.underlying e = some .string) (hce : P.cellsOf e = 1) (hct : P.cellsOf t = n)
    (h : DataW.trod enc P w base sp held fuel t cs = some (.agg (zs.map fun z => .lit (.string z)), p)) : cs = zs.map fun z => Value.string ⟨z.toArray⟩ := by
  obtain ⟨xs, m, _, hx, hl, hxl, hg⟩ := DataW.trod_array ht h
  rw [hct] at hl
  rw [hce] at hg
  simp only [Prod.mk.injEq, DataW.agg.injEq] at hx
  have hxs := hx.1.symm
  have hzl : zs.length = n := by
    have := congrArg List.length hxs
    simp at this
    omega
  apply List.ext_getElem?
  intro i
  by_cases hi : i < n
  · have hf := hg i hi
    rw [List.getElem?_eq_getElem (by omega)] at hf
    obtain ⟨z, hc, hz, _⟩ := DataW.trod_string he hf
    have h1 : cs[i]? = some (.string z) := by
      have := congrArg (·[0]?) hc
      simpa [List.getElem?_take, List.getElem?_drop] using this
    have h2 : (xs.map (·.1))[i]? = some (DataW.lit (.string z.data.toList) : DataW H) := by
      rw [List.getElem?_map, List.getElem?_eq_getElem (by omega), hz]; rfl
    rw [hxs] at h2
    simp only [List.getElem?_map, Option.map_eq_some_iff, DataW.lit.injEq, Lit.string.injEq] at h2
    obtain ⟨z', hz', e'⟩ := h2
    rw [h1, List.getElem?_map, hz', e']
    rfl
  · rw [List.getElem?_eq_none (by omega), List.getElem?_eq_none (by simp; omega)]
theorem strs_of_head {P : Program} {W : World} {name : String} {zs : List (List UInt8)} {rest : List (String × DataW Unit)} {g : Nat} {t e : TypeId} {n : Nat}
    (hg : P.globalNamed name = some g) (hty : (P.globals[g]?).map (·.type) = some t) (ht : P.underlying t = some (.array n e)) (he : P.underlying e = some .string) (hce : P.cellsOf e = 1) (hct : P.cellsOf t = n)
    (h : laidMet P ((name, .agg (zs.map fun z => .lit (.string z))) :: rest) W) : W.var? P name = some (zs.map fun z => Value.string ⟨z.toArray⟩).toArray := by
  obtain ⟨ps, ⟨g', t', cs, fuel, p, q, hg', ht', hvar, hd, _, _⟩, _⟩ := h
  obtain rfl := Option.some.inj (hg.symm.trans hg')
  obtain rfl := Option.some.inj (hty.symm.trans ht')
  rw [hvar, ← cells_of_strs ht he hce hct hd]
def ivalD {H : Type} (z : Int × Int) : DataW H := .agg [.lit (.int .i64 z.1), .lit (.int .i64 z.2)]
set_option maxRecDepth 100000 in
theorem ival_of {H : Type} {enc : TypeId × Value → H} {w : World} {base : Nat} {sp : Nat → Bool} {held : Bool} {n : Nat} {cs : List Value} {z : Int × Int} {y : DataW H × List MemPlace} (h : DataW.trod enc Tryz.prog w base sp held n 132 cs = some y) (hy : y.1 = ivalD z) : cs = [.int .i64 z.1, .int .i64 z.2] := by
  obtain ⟨xs, m, _, hx, hl, hxl, hg⟩ := DataW.trod_struct Tryz.underlying132 h
  rw [show Tryz.prog.cellsOf 132 = 2 by kernel_rfl] at hl
  match cs, hl, xs, hxl with
  | [c0, c1], _, [y0, y1], _ =>
    have g0 : DataW.trod enc Tryz.prog w base sp held m 3 [c0] = some y0 := by
      have := hg 0 _ rfl
      rw [show Tryz.prog.cellsOf _ = 1 by kernel_rfl] at this
      exact this
    have g1 : DataW.trod enc Tryz.prog w base sp held m 3 [c1] = some y1 := by
      have := hg 1 _ rfl
      exact (show _ = _ from this)
    obtain ⟨x0, e0, d0, _⟩ := DataW.trod_int Tryz.underlying3 g0
    obtain ⟨x1, e1, d1, _⟩ := DataW.trod_int Tryz.underlying3 g1
    rw [hx, d0, d1] at hy
    simp [ivalD] at hy
    simp at e0 e1
    rw [e0, e1, hy.1, hy.2]
theorem rng_datum : (Rows.laid_matins_cal_ranges : DataW Unit) = .agg ([((2000 : Int), (2199 : Int)), (1, 12), (1, 31), (0, 23), (0, 59), (0, 59)].map ivalD) := by kernel_rfl
theorem days_datum : (Rows.laid_matins_cal_dayNames : DataW Unit) = .agg ([[77, 111, 110], [84, 117, 101], [87, 101, 100], [84, 104, 117], [70, 114, 105], [83, 97, 116], [83, 117, 110]].map fun z => .lit (.string z)) := by kernel_rfl
theorem tabM_of {W : World} (h : laidMetH Tryz.prog Rows.keysTableRow.laid W) (hs : W.ShapedOpen Tryz.prog) : Ca.TabM W := by
  rw [MakeChecks.laidMetH_plain _ _ _ (by kernel_rfl)] at h
  have h2 := h.tail.tail
  rw [pow10_datum] at h2
  have h4 := h.tail.tail.tail.tail.tail.tail
  have h5 := h4.tail
  rw [days_datum] at h5
  refine ⟨⟨?_, ?_, ?_⟩, ?_⟩
  · obtain ⟨ps, ⟨g', t', cs, fuel, p, q, hg', ht', hvar, hd, _, _⟩, _⟩ := h4
    obtain rfl := Option.some.inj (Ca.rng_glob.symm.trans hg')
    obtain rfl := Option.some.inj (rng_type.symm.trans ht')
    rw [rng_datum] at hd
    obtain ⟨xs, m, _, hx, hl, hxl, hg⟩ := DataW.trod_array Tryz.underlying133 hd
    rw [show Tryz.prog.cellsOf 133 = 12 by kernel_rfl] at hl
    rw [show Tryz.prog.cellsOf 132 = 2 by kernel_rfl] at hg
    rw [hvar]
    obtain ⟨cs⟩ := cs
    match cs, hl, xs, hxl with
    | [c0, c1, c2, c3, c4, c5, c6, c7, c8, c9, c10, c11], _, [y0, y1, y2, y3, y4, y5], _ =>
      simp only [Prod.mk.injEq, DataW.agg.injEq, List.map_cons, List.map_nil, List.cons.injEq] at hx
      obtain ⟨⟨x0, x1, x2, x3, x4, x5, _⟩, _⟩ := hx
      have k0 := ival_of (hg 0 (by decide)) x0.symm
      have k1 := ival_of (hg 1 (by decide)) x1.symm
      have k2 := ival_of (hg 2 (by decide)) x2.symm
      have k3 := ival_of (hg 3 (by decide)) x3.symm
      have k4 := ival_of (hg 4 (by decide)) x4.symm
      have k5 := ival_of (hg 5 (by decide)) x5.symm
      simp at k0 k1 k2 k3 k4 k5
      simp [Ca.rngCells, k0, k1, k2, k3, k4, k5]
  · exact strs_of_head Ca.days_glob days_type Tryz.underlying173 Tryz.underlying9 (by kernel_rfl) (by kernel_rfl) h5
  · exact Lib.tabIs_of_head Ca.p10_glob pow10_type Tryz.underlying214 Tryz.underlying166 u64_cells pow10_cells h2
  · exact Go.Proofs.cell_of_shapedOpen_int (zero := #[.int .i64 0]) (t := 3) hs (of_decide_eq_true (by kernel_rfl)) (by kernel_rfl) rfl (by kernel_rfl) (by kernel_rfl) Tryz.underlying3
end Go.Proofs.YtadifolonbkamaaGreatDoor
namespace Go.Proofs.YtadifolonbkamaaGreatDoor
open Go.RowKit
theorem Digit_any (c : UInt8) (w : World) :
    Calls Tryz.prog 57 #[.int .u8 c.toNat] w fun e w' => e = .returned (.bool (isDig c)) ∧ w = w' := by
  have hr := c.toNat_lt
  by_cases h1 : c.toNat < 48
  · have HD := Lib.hid (show isDig c = false by unfold isDig; simp; omega)
    have h1' : (c.toNat : Int) < 48 := by omega
    go_enter Tryz.func57, Tryz.ntmps57
    go_wp2
    go_ret
    exact ⟨ret_bool HD.out.symm, rfl⟩
  · have h1' : (48 : Int) ≤ (c.toNat : Int) := by omega
    by_cases h2 : c.toNat ≤ 57
    · have HD := Lib.hid (show isDig c = true by unfold isDig; simp; omega)
      have h2' : (c.toNat : Int) ≤ 57 := by omega
      clear h1
      go_enter Tryz.func57, Tryz.ntmps57
      go_wp2
      go_ret
      exact ⟨ret_bool HD.out.symm, rfl⟩
    · have HD := Lib.hid (show isDig c = false by unfold isDig; simp; omega)
      have h2' : (57 : Int) < (c.toNat : Int) := by omega
      clear h1 h2
      go_enter Tryz.func57, Tryz.ntmps57
      go_wp2
      go_ret
      exact ⟨ret_bool (by rw [HD.out]; simp; omega), rfl⟩
end Go.Proofs.YtadifolonbkamaaGreatDoor
namespace Go.Proofs.YtadifolonbkamaaGreatDoor
open Go.RowKit
theorem emp_str (w : List UInt8) : (str w).toList.isEmpty = decide (w = []) := by rw [isEmpty_iff]; rfl
end Go.Proofs.YtadifolonbkamaaGreatDoor
namespace Go.Proofs.YtadifolonbkamaaGreatDoor
open Go.RowKit
theorem forK_low {k kind : Int} (h : kind < 1) (hk : k ∈ ([2, 4, 8, 30] : List Int)) : isForK k kind = false := by
  unfold isForK
  by_cases h0 : 0 ≤ kind
  · obtain rfl : kind = 0 := by omega
    simp only [List.mem_cons, List.not_mem_nil, or_false] at hk
    rcases hk with rfl | rfl | rfl | rfl <;> decide
  · rw [decide_eq_false h0, Bool.false_and]
theorem forK_high {k kind : Int} (h : 4 < kind) (hk : k ∈ ([2, 4, 8, 30] : List Int)) : isForK k kind = false := by
  unfold isForK
  have h5 : 2 ^ 5 ≤ 2 ^ min kind.toNat 64 := Nat.pow_le_pow_right (by omega) (by omega)
  have hlt : k.toNat < 2 ^ min kind.toNat 64 := by
    refine Nat.lt_of_lt_of_le ?_ h5
    simp only [List.mem_cons, List.not_mem_nil, or_false] at hk
    rcases hk with rfl | rfl | rfl | rfl <;> decide
  rw [Nat.testBit_lt_two_pow hlt, Bool.and_false]
end Go.Proofs.YtadifolonbkamaaGreatDoor
namespace Go.Proofs.YtadifolonbkamaaGreatDoor
open Go.RowKit
end Go.Proofs.YtadifolonbkamaaGreatDoor
