/- A parameter that is a calendar: opened to its seven rows, and read again in any later memory. What stage 4's rows' list  -/
import Derived.Test.YteflddgcddcejaaGreatDoorCwbs
import Derived.Test.YteflddgcddcejaaGreatDoorCwah
import Derived.WideKeyArgs
import Derived.Deep.Slices
import Derived.Test.YteflddgcddcejaaGreatDoorCards
import Derived.Test.YteflddgcddcejaaGreatDoorTie
import Derived.ProofKit
import Derived.Shelf.Vars
import Derived.OpenShut
import Derived.Deep.DeepHandedRow
import Derived.Lib.LaidTab
import Derived.Lib.LaidU8
import Derived.Stop.LaidErr
import Derived.Lay
import Derived.SevenTiedAt
import Derived.SizedLaws
import Derived.JoinedCond
namespace Go.Proofs.YteflddgcddcejaaGreatDoor
open Go.RowKit Go.ChangeShapes Go.WideShapes Go.ChangeAt Go.Deep
section
variable {H : Type} {enc : TypeId × Value → H} {W : World} {base : Nat} {spare : Nat → Bool} {held : Bool}
end
end Go.Proofs.YteflddgcddcejaaGreatDoor
namespace Go.Proofs.YteflddgcddcejaaGreatDoor
open Go.RowKit Go.ChangeShapes Go.WideShapes Go.ChangeAt
open Go.ChangeMaps (open_string shut_string)
theorem ownKnobNone : ownKnob Tryz.prog.godebug = none := by kernel_rfl
theorem pow10_type : (Tryz.prog.globals[6]?).map (·.type) = some 166 := by kernel_rfl
theorem pow10_cells : Tryz.prog.cellsOf 166 = 20 := by kernel_rfl
theorem u64_cells : Tryz.prog.cellsOf 143 = 1 := by kernel_rfl
theorem pow10_datum : (Rows.laid_internal_strconv_uint64pow10 : DataW Unit) = Lib.tabData .u64 Lib.pow10Tab := by kernel_rfl
theorem rng_type : (Tryz.prog.globals[0]?).map (·.type) = some 71 := by kernel_rfl
theorem days_type : (Tryz.prog.globals[1]?).map (·.type) = some 83 := by kernel_rfl
theorem sep_type : (Tryz.prog.globals[2]?).map (·.type) = some 84 := by kernel_rfl
theorem cells_of_strs {H : Type} {enc : TypeId × Value → H} {P : Program} {w : World} {base : Nat} {sp : Nat → Bool} {held : Bool} {fuel : Nat} {t e : TypeId} {n : Nat} {cs : List Value} {zs : List (List UInt8)} {p : List MemPlace}
    (ht : P.underlying t = some (.array n e)) (he : P.underlying e = some .string) (hce : P.cellsOf e = 1) (hct : P.cellsOf t = n)
    (h : DataW.trod enc P w base sp held fuel t cs = some (.agg (zs.map fun z => .lit (.string z)), p)) : cs = zs.map fun z => Value.string ⟨z.toArray⟩ := by
  obtain ⟨xs, m, _, hx, hl, hxl, hg⟩ := DataW.trod_array ht h
  rw [hct] at hl
  rw [hce] at hg
  simp only [Prod.mk.injEq, DataW.agg.injEq] at hx
  have hxs := hx.1.symm
  have hzl : zs.length = n := by
    have := congrArg List.length hxs
    simp at this
    omega
  apply List.ext_getElem?
  intro i
  by_cases hi : i < n
  · have hf := hg i hi
    rw [List.getElem?_eq_getElem (by omega)] at hf
    obtain ⟨z, hc, hz, _⟩ := DataW.trod_string he hf
    have h1 : cs[i]? = some (.string z) := by
      have := congrArg (·[0]?) hc
      simpa [List.getElem?_take, List.getElem?_drop] using this
    have h2 : (xs.map (·.1))[i]? = some (DataW.lit (.string z.data.toList) : DataW H) := by
      rw [List.getElem?_map, List.getElem?_eq_getElem (by omega), hz]; rfl
    rw [hxs] at h2
    simp only [List.getElem?_map, Option.map_eq_some_iff, DataW.lit.injEq, Lit.string.injEq] at h2
    obtain ⟨z', hz', e'⟩ := h2
    rw [h1, List.getElem?_map, hz', e']
    rfl
  · rw [List.getElem?_eq_none (by omega), List.getElem?_eq_none (by simp; omega)]
theorem strs_of_head {P : Program} {W : World} {name : String} {zs : List (List UInt8)} {rest : List (String × DataW Unit)} {g : Nat} {t e : TypeId} {n : Nat}
    (hg : P.globalNamed name = some g) (hty : (P.globals[g]?).map (·.type) = some t) (ht : P.underlying t = some (.array n e)) (he : P.underlying e = some .string) (hce : P.cellsOf e = 1) (hct : P.cellsOf t = n)
    (h : laidMet P ((name, .agg (zs.map fun z => .lit (.string z))) :: rest) W) : W.var? P name = some (zs.map fun z => Value.string ⟨z.toArray⟩).toArray := by
  obtain ⟨ps, ⟨g', t', cs, fuel, p, q, hg', ht', hvar, hd, _, _⟩, _⟩ := h
  obtain rfl := Option.some.inj (hg.symm.trans hg')
  obtain rfl := Option.some.inj (hty.symm.trans ht')
  rw [hvar, ← cells_of_strs ht he hce hct hd]
def ivalD {H : Type} (z : Int × Int) : DataW H := .agg [.lit (.int .i64 z.1), .lit (.int .i64 z.2)]
set_option maxRecDepth 100000 in
theorem ival_of {H : Type} {enc : TypeId × Value → H} {w : World} {base : Nat} {sp : Nat → Bool} {held : Bool} {n : Nat} {cs : List Value} {z : Int × Int} {y : DataW H × List MemPlace} (h : DataW.trod enc Tryz.prog w base sp held n 70 cs = some y) (hy : y.1 = ivalD z) : cs = [.int .i64 z.1, .int .i64 z.2] := by
  obtain ⟨xs, m, _, hx, hl, hxl, hg⟩ := DataW.trod_struct Tryz.underlying70 h
  rw [show Tryz.prog.cellsOf 70 = 2 by kernel_rfl] at hl
  match cs, hl, xs, hxl with
  | [c0, c1], _, [y0, y1], _ =>
    have g0 : DataW.trod enc Tryz.prog w base sp held m 3 [c0] = some y0 := by
      have := hg 0 _ rfl
      rw [show Tryz.prog.cellsOf _ = 1 by kernel_rfl] at this
      exact this
    have g1 : DataW.trod enc Tryz.prog w base sp held m 3 [c1] = some y1 := by
      have := hg 1 _ rfl
      exact (show _ = _ from this)
    obtain ⟨x0, e0, d0, _⟩ := DataW.trod_int Tryz.underlying3 g0
    obtain ⟨x1, e1, d1, _⟩ := DataW.trod_int Tryz.underlying3 g1
    rw [hx, d0, d1] at hy
    simp [ivalD] at hy
    simp at e0 e1
    rw [e0, e1, hy.1, hy.2]
theorem rng_datum : (Rows.laid_matins_cal_ranges : DataW Unit) = .agg ([((2000 : Int), (2199 : Int)), (1, 12), (1, 31), (0, 23), (0, 59), (0, 59)].map ivalD) := by kernel_rfl
theorem days_datum : (Rows.laid_matins_cal_dayNames : DataW Unit) = .agg ([[77, 111, 110], [84, 117, 101], [87, 101, 100], [84, 104, 117], [70, 114, 105], [83, 97, 116], [83, 117, 110]].map fun z => .lit (.string z)) := by kernel_rfl
theorem sep_datum : (Rows.laid_matins_cal_separators : DataW Unit) = .agg ([[], [45], [45], [32], [58], [58]].map fun z => .lit (.string z)) := by kernel_rfl
theorem tabM_of {W : World} (h : laidMetH Tryz.prog Rows.calParseRow.laid W) (hs : W.ShapedOpen Tryz.prog) : TabM W := by
  rw [MakeChecks.laidMetH_plain _ _ _ (by kernel_rfl)] at h
  have h2 := h.tail.tail
  rw [pow10_datum] at h2
  have h4 := h.tail.tail.tail.tail
  have h5 := h4.tail
  have h6 := h5.tail
  rw [days_datum] at h5
  rw [sep_datum] at h6
  refine ⟨⟨?_, ?_, ?_, ?_⟩, ?_⟩
  · obtain ⟨ps, ⟨g', t', cs, fuel, p, q, hg', ht', hvar, hd, _, _⟩, _⟩ := h4
    obtain rfl := Option.some.inj (rng_glob.symm.trans hg')
    obtain rfl := Option.some.inj (rng_type.symm.trans ht')
    rw [rng_datum] at hd
    obtain ⟨xs, m, _, hx, hl, hxl, hg⟩ := DataW.trod_array Tryz.underlying71 hd
    rw [show Tryz.prog.cellsOf 71 = 12 by kernel_rfl] at hl
    rw [show Tryz.prog.cellsOf 70 = 2 by kernel_rfl] at hg
    rw [hvar]
    obtain ⟨cs⟩ := cs
    match cs, hl, xs, hxl with
    | [c0, c1, c2, c3, c4, c5, c6, c7, c8, c9, c10, c11], _, [y0, y1, y2, y3, y4, y5], _ =>
      simp only [Prod.mk.injEq, DataW.agg.injEq, List.map_cons, List.map_nil, List.cons.injEq] at hx
      obtain ⟨⟨x0, x1, x2, x3, x4, x5, _⟩, _⟩ := hx
      have k0 := ival_of (hg 0 (by decide)) x0.symm
      have k1 := ival_of (hg 1 (by decide)) x1.symm
      have k2 := ival_of (hg 2 (by decide)) x2.symm
      have k3 := ival_of (hg 3 (by decide)) x3.symm
      have k4 := ival_of (hg 4 (by decide)) x4.symm
      have k5 := ival_of (hg 5 (by decide)) x5.symm
      simp at k0 k1 k2 k3 k4 k5
      simp [rngCells, k0, k1, k2, k3, k4, k5]
  · exact strs_of_head days_glob days_type Tryz.underlying83 Tryz.underlying9 (by kernel_rfl) (by kernel_rfl) h5
  · exact strs_of_head sep_glob sep_type Tryz.underlying84 Tryz.underlying9 (by kernel_rfl) (by kernel_rfl) h6
  · exact Lib.tabIs_of_head p10_glob pow10_type Tryz.underlying166 Tryz.underlying143 u64_cells pow10_cells h2
  · exact Go.Proofs.cell_of_shapedOpen_int (zero := #[.int .i64 0]) (t := 3) hs (of_decide_eq_true (by kernel_rfl)) (by kernel_rfl) rfl (by kernel_rfl) (by kernel_rfl) Tryz.underlying3
noncomputable def laidWorld (os : Os) : World := World.laidAll Tryz.prog os Rows.calParseRow.laid
theorem laid_met (os : Os) (args : Array Value) : laidMetH Tryz.prog Rows.calParseRow.laid ((laidWorld os).forCall (fun _ _ => 0) ⟨#[], args, []⟩).memory := by
  rw [MakeChecks.laidMetH_plain _ _ _ (by kernel_rfl)]
  exact laidMet_laidAll _ (by kernel_rfl) (by kernel_rfl)
theorem laid_vars (os : Os) (args : Array Value) : ((laidWorld os).forCall (fun _ _ => 0) ⟨#[], args, []⟩).Shaped Tryz.prog :=
  World.shaped_of_ZipB (by kernel_rfl) (by kernel_rfl)
theorem witness_laid {H : Type} {enc : TypeId × Value → H} {os : Os} {f : FuncId} {fn : Func} {s : OpenSpec} {conds : List PathCond} {apart : Bool} {laid : List (String × DataW Unit)} (args : Array Value)
    (hok : Input.okWideB Tryz.checked.prog ((laidWorld os).forCall (fun _ _ => 0) ⟨#[], args, []⟩) f ⟨#[], args, []⟩ = true)
    (hrow : s.preRow enc Tryz.checked.prog fn conds apart laid ((laidWorld os).forCall (fun _ _ => 0) ⟨#[], args, []⟩).memory args) :
    ∃ (w : World) (tape : Tape) (i : Input), w.os = os ∧ (w.forCall tape i).Shaped Tryz.checked.prog ∧ i.vars = [] ∧ Input.okWide Tryz.checked.prog (w.forCall tape i) .any w.heap.size f i ∧
      s.preRow enc Tryz.checked.prog fn conds apart laid (w.forCall tape i).memory i.args ∧ ({} : Assume).holds Tryz.checked.prog (lone (Frame.enter Tryz.checked.prog f i.args .normal) [] (w.forCall tape i)) :=
  ⟨laidWorld os, fun _ _ => 0, ⟨#[], args, []⟩, World.laidAll_os _ _ _, laid_vars os args, (Input.okWide_of_okWideB (base := 0) hok).1, (Input.okWide_of_okWideB hok).2, hrow, by
    simp only [Assume.holds]
    exact ⟨by simp, by simp, by simp, by simp, by simp, by simp⟩⟩
theorem post_below {H : Type} {enc : TypeId × Value → H} {P : Program} {f : Func} {s : ChangeSpec} {apart fresh handsOn again : Bool} {W W' : World} {args : Array Value} {v : Value} {ds gs : List (DataW H)} {before pa pv : List MemPlace}
    (hW : DataW.Whole enc P f.params.toList s.vars apart W args.toList ds gs before)
    (hres : ∀ (b : Nat) (sp : Nat → Bool) (hd : Bool), DataW.TrodAll enc P W' b sp hd f.resultTypes.toList (v.resultList f.resultTypes.size) (s.fn H (ds ++ gs)).results [])
    (hargs : ∀ sp : Nat → Bool, (∀ p ∈ before, sp p.block = true) → DataW.TrodAll enc P W' 0 sp true f.params.toList args.toList (s.fn H (ds ++ gs)).args pa)
    (hvars : ∀ sp : Nat → Bool, (∀ p ∈ before, sp p.block = true) → DataW.TrodVars enc P W' sp s.vars (s.fn H (ds ++ gs)).vars pv)
    (hps : before = pa ++ pv) (hb : Below W.heap.size W W')
    (hok : ∀ (j : Nat) (t : TypeId) (r : Value), f.resultTypes[j]? = some t → (v.resultList f.resultTypes.size)[j]? = some r → Value.okWide P W' .any 0 t r) :
    s.post enc P f apart fresh handsOn again W args v W' := by
  have hlt : ∀ p ∈ before, p.block < W.heap.size := fun p hp => hW.lt p hp
  have hold : ∀ p ∈ before, (fun b => decide (b < W.heap.size)) p.block = true := fun p hp => by simpa using hlt p hp
  refine ⟨ds, gs, before, [], pa, pv, hW, hres _ _ _, hargs _ hold, hvars _ hold, World.keptBut_mono (fun p hp => ⟨hp, ?_⟩) (hb.frame (· ∈ before)), fun _ => ?_⟩
  · rw [hps, List.mem_append] at hp
    exact Or.inr hp
  · obtain ⟨_, _, _, _, _, hz, hn⟩ := hW
    refine ⟨hok, _, _, ([] ++ pa) ++ pv, ⟨[] ++ pa, pv, trodAll_append (hargs _ (fun _ _ => rfl)) (hres _ _ _), hvars _ (fun _ _ => rfl), rfl, ?_, ?_⟩, ?_⟩
    · intro b off hp
      have hin : MemPlace.cell b off ∈ before := by rw [hps]; simpa using hp
      rw [hb.frozen (hlt _ hin)]
      exact hz b off hin
    · intro ha
      have := hn ha
      rw [hps] at this
      simpa using this
    · intro p hp _
      rw [hps]
      simpa using hp
end Go.Proofs.YteflddgcddcejaaGreatDoor
