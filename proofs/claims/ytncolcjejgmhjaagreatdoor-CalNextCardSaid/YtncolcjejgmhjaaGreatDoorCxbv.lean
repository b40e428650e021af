/- A parameter that is a calendar: opened to its seven rows, and read again in any later memory. What stage 4's rows' list  -/
import Derived.Test.YtncolcjejgmhjaaGreatDoorCxbn
import Derived.Test.YtncolcjejgmhjaaGreatDoorCxaf
import Derived.WideKeyArgs
import Derived.Deep.Slices
import Derived.Test.YtncolcjejgmhjaaGreatDoorCards
import Derived.Test.YtncolcjejgmhjaaGreatDoorTie
import Derived.ProofKit
import Derived.Shelf.Vars
import Derived.OpenShut
import Derived.Deep.DeepHandedRow
import Derived.Lib.LaidTab
import Derived.Lib.LaidU8
import Derived.Stop.LaidErr
import Derived.Lay
import Derived.SevenTiedAt
import Derived.SizedLaws
import Derived.JoinedCond
namespace Go.Proofs.YtncolcjejgmhjaaGreatDoor
open Go.RowKit Go.ChangeShapes Go.WideShapes Go.ChangeAt Go.Deep
theorem cell_lt {W : World} {a : Addr} {v : Value} (h : W.cell? (a.add 0) = some v) : a.block < W.heap.size := by
  have := World.block_lt_of_cell? W _ h
  rwa [block_of_add] at this
theorem pick_lt {α : Type} (z : α) {n : Nat} {p : Nat → α → Prop} (h : ∀ i, i < n → ∃ v, p i v) : ∃ V : Nat → α, ∀ i, i < n → p i (V i) :=
  ⟨fun i => if hi : i < n then Classical.choose (h i hi) else z, fun i hi => by
    show p i (if hi : i < n then _ else _)
    rw [dif_pos hi]; exact Classical.choose_spec (h i hi)⟩
section
variable {H : Type} {enc : TypeId × Value → H} {W : World} {base : Nat} {spare : Nat → Bool} {held : Bool}
theorem ints_of {n : Nat} {v : Value} {y : DataW H × List MemPlace} (h : DataW.trod enc Tryz.prog W base spare held n 22 [v] = some y) :
    ∃ (s : Sl) (l : List Int), v = .slice s.A s.n s.c ∧ IntsAt W W.heap.size s.A s.n l := by
  rcases open_slice1 Tryz.underlying22 (by kernel_rfl) h with ⟨hcs, hx⟩ | ⟨a, len, cap, m, n', V, D, Pl, hcs, _, hl, hm, hmm, hx, hi⟩
  · exact ⟨⟨none, 0, 0⟩, [], by simpa using hcs, rfl, Nat.zero_le _, Reads.none_⟩
  · have hml : len ≤ m := by rw [hmm]; split <;> omega
    have hV : ∀ i, i < len → ∃ x : Int, W.cell? (a.add i) = some (.int .i64 x) := fun i hil => by
      obtain ⟨h1, h2⟩ := hi i (by omega)
      obtain ⟨x, e, _⟩ := DataW.trod_int Tryz.underlying3 h2
      exact ⟨x, by rw [h1]; congr 1; simpa using e⟩
    obtain ⟨X, hX⟩ := pick_lt (0 : Int) hV
    refine ⟨⟨some a, len, cap⟩, (List.range len).map X, by simpa using hcs, by simp, by show len ≤ _; omega, by simp [ints], fun h0 => ⟨a, rfl, cell_lt (hX 0 h0), fun j u hj => ?_⟩⟩
    unfold ints at hj
    rw [List.getElem?_map, List.getElem?_map] at hj
    rcases Nat.lt_or_ge j len with h' | h'
    · rw [List.getElem?_range h'] at hj
      simp only [Option.map_some, Option.some.injEq] at hj
      rw [← hj]; exact hX j h'
    · rw [List.getElem?_eq_none (by simpa using h')] at hj; cases hj
theorem pts_len (l : List Pt) : (pts l).length = l.length * 3 := by
  induction l with
  | nil => rfl
  | cons p l ih => unfold pts at *; rw [List.flatMap_cons, List.length_append, ih, List.length_cons]; show 3 + _ = _; omega
theorem trod3 {P : Program} {t : TypeId} {f0 f1 f2 : Field} {n : Nat} {c0 c1 c2 : Value} {y : DataW H × List MemPlace} (hs : P.underlying t = some (.struct #[f0, f1, f2])) (hone : oneCellFields P #[f0, f1, f2] = true) (h : DataW.trod enc P W base spare held n t [c0, c1, c2] = some y) :
    ∃ (m : Nat) (y0 y1 y2 : DataW H × List MemPlace), DataW.trod enc P W base spare held m f0.type [c0] = some y0 ∧ DataW.trod enc P W base spare held m f1.type [c1] = some y1 ∧ DataW.trod enc P W base spare held m f2.type [c2] = some y2 := by
  obtain ⟨xs, m, _, hx, _, hlen, hg⟩ := DataW.trod_struct hs h
  obtain ⟨o0, k0⟩ := hone_of hone 0 f0 rfl
  obtain ⟨o1, k1⟩ := hone_of hone 1 f1 rfl
  obtain ⟨o2, k2⟩ := hone_of hone 2 f2 rfl
  match xs, hlen with
  | [y0, y1, y2], _ => exact ⟨m, y0, y1, y2, by simpa [o0, k0] using hg 0 f0 rfl, by simpa [o1, k1] using hg 1 f1 rfl, by simpa [o2, k2] using hg 2 f2 rfl⟩
theorem part_of {n : Nat} {cs : List Value} {y : DataW H × List MemPlace} (hlen : cs.length = 3) (h : DataW.trod enc Tryz.prog W base spare held n 58 cs = some y) : ∃ p : Pt, cs = ptCells p := by
  match cs, hlen with
  | [c0, c1, c2], _ =>
    obtain ⟨m, y0, y1, y2, h0, h1, h2⟩ := trod3 Tryz.underlying58 (by kernel_rfl) h
    obtain ⟨x0, e0, _⟩ := DataW.trod_int Tryz.underlying3 h0
    obtain ⟨x1, e1, _⟩ := DataW.trod_int Tryz.underlying3 h1
    obtain ⟨x2, e2, _⟩ := DataW.trod_int Tryz.underlying3 h2
    obtain rfl : c0 = .int .i64 x0 := by simpa using e0
    obtain rfl : c1 = .int .i64 x1 := by simpa using e1
    obtain rfl : c2 = .int .i64 x2 := by simpa using e2
    exact ⟨⟨x0, x1, x2⟩, rfl⟩
theorem parts_of {n : Nat} {v : Value} {y : DataW H × List MemPlace} (h : DataW.trod enc Tryz.prog W base spare held n 23 [v] = some y) :
    ∃ (s : Sl) (l : List Pt), v = .slice s.A s.n s.c ∧ PtsAt W W.heap.size s.A s.n l := by
  have k3 : Tryz.prog.cellsOf 58 = 3 := by kernel_rfl
  rcases open_slice Tryz.underlying23 h with ⟨hcs, hx⟩ | ⟨a, len, cap, m, n', D, Pl, hcs, _, hl, hm, hmm, hx, hi⟩
  · exact ⟨⟨none, 0, 0⟩, [], by simpa using hcs, rfl, Nat.zero_le _, Reads.none_⟩
  · rw [k3] at hi
    have hml : len ≤ m := by rw [hmm]; split <;> omega
    have hV : ∀ i, i < len → ∃ p : Pt, ∀ j u, (ptCells p)[j]? = some u → W.cell? (a.add (i * 3 + j)) = some u := fun i hil => by
      obtain ⟨cs, h1, h2⟩ := hi i (by omega)
      obtain ⟨_, hlen, hat⟩ := World.cells?_some h1
      obtain ⟨p, rfl⟩ := part_of hlen h2
      refine ⟨p, fun j u hj => ?_⟩
      have hj3 : j < 3 := by
        rcases Nat.lt_or_ge j 3 with h' | h'
        · exact h'
        · rw [List.getElem?_eq_none (by exact h')] at hj; cases hj
      rw [← add_of_add, hat j hj3, hj]
    obtain ⟨X, hX⟩ := pick_lt (⟨0, 0, 0⟩ : Pt) hV
    refine ⟨⟨some a, len, cap⟩, (List.range len).map X, by simpa using hcs, by simp, by show len ≤ _; omega, by rw [pts_len]; simp, fun h0 => ⟨a, rfl, cell_lt (hX 0 h0 0 _ rfl), fun j u hj => ?_⟩⟩
    have hjl : j < len * 3 := by
      rcases Nat.lt_or_ge j (len * 3) with h' | h'
      · exact h'
      · rw [List.getElem?_eq_none (by rw [pts_len]; simpa using h')] at hj; cases hj
    have e : j = j / 3 * 3 + j % 3 := by omega
    rw [e, pts_at _ _ (by simp; omega) _ (by omega)] at hj
    rw [e]
    refine hX (j / 3) (by omega) (j % 3) u ?_
    simpa using hj
end
set_option maxRecDepth 100000 in
theorem open_cal {H : Type} {enc : TypeId × Value → H} {W : World} {base b0 : Nat} {spare : Nat → Bool} {held : Bool} {r : Reach} {v : Value} {d : DataW H} {p : List MemPlace} (hv : Value.okWide Tryz.prog W r b0 25 v) (h : DataW.Trod enc Tryz.prog W base spare held 25 v d p) :
    ∃ (c : Ch) (l : Cl), v = .agg c.cells ∧ CalAt W W.heap.size c l := by
  obtain ⟨v0, v1, v2, v3, v4, v5, v6, y0, y1, y2, y3, y4, y5, y6, n, rfl, rfl, rfl, h0, h1, h2, h3, h4, h5, h6⟩ := open_agg7 Tryz.underlying25 (by kernel_rfl) (by kernel_rfl) hv h
  obtain ⟨s0, l0, rfl, g0⟩ := ints_of h0
  obtain ⟨s1, l1, rfl, g1⟩ := parts_of h1
  obtain ⟨s2, l2, rfl, g2⟩ := parts_of h2
  obtain ⟨s3, l3, rfl, g3⟩ := parts_of h3
  obtain ⟨s4, l4, rfl, g4⟩ := parts_of h4
  obtain ⟨s5, l5, rfl, g5⟩ := parts_of h5
  obtain ⟨s6, l6, rfl, g6⟩ := parts_of h6
  refine ⟨⟨s0, s1, s2, s3, s4, s5, s6⟩, ⟨l0, l1, l2, l3, l4, l5, l6⟩, rfl, g0, fun f => ?_⟩
  match f with
  | 0 => exact g1
  | 1 => exact g2
  | 2 => exact g3
  | 3 => exact g4
  | 4 => exact g5
  | 5 => exact g6
  | (f + 6) => exact g6
theorem same_below {W W' : World} {ps : List MemPlace} (hb : Below W.heap.size W W') (hlt : ∀ p ∈ ps, p.block < W.heap.size) : ∀ p ∈ ps, W.sameAt W' p := fun p hp => by
  have h := hlt p hp
  cases p with
  | cell b off => exact hb.cell (p := ⟨b, off, none⟩) h
  | map b => exact hb.block b h
theorem shut_cal {H : Type} {enc : TypeId × Value → H} {W W' : World} {v : Value} {d : DataW H} {ps : List MemPlace} {sp : Nat → Bool} (h : DataW.Trod enc Tryz.prog W 0 (fun _ => true) true 25 v d ps) (hb : Below W.heap.size W W') (hlt : ∀ p ∈ ps, p.block < W.heap.size) (hs : ∀ p ∈ ps, sp p.block = true) :
    DataW.Trod enc Tryz.prog W' 0 sp true 25 v d ps :=
  WideElems.Trod_stays (by kernel_rfl) (by kernel_rfl) (of_decide_eq_true (by kernel_rfl)) h (same_below hb hlt) hs
end Go.Proofs.YtncolcjejgmhjaaGreatDoor
namespace Go.Proofs.YtncolcjejgmhjaaGreatDoor
open Go.RowKit Go.ChangeShapes Go.WideShapes Go.ChangeAt
open Go.ChangeMaps (open_string shut_string)
theorem ownKnobNone : ownKnob Tryz.prog.godebug = none := by kernel_rfl
theorem pow10_type : (Tryz.prog.globals[6]?).map (·.type) = some 161 := by kernel_rfl
theorem pow10_cells : Tryz.prog.cellsOf 161 = 20 := by kernel_rfl
theorem u64_cells : Tryz.prog.cellsOf 138 = 1 := by kernel_rfl
theorem pow10_datum : (Rows.laid_internal_strconv_uint64pow10 : DataW Unit) = Lib.tabData .u64 Lib.pow10Tab := by kernel_rfl
theorem rng_type : (Tryz.prog.globals[0]?).map (·.type) = some 62 := by kernel_rfl
theorem days_type : (Tryz.prog.globals[1]?).map (·.type) = some 75 := by kernel_rfl
theorem sep_type : (Tryz.prog.globals[2]?).map (·.type) = some 76 := by kernel_rfl
theorem cells_of_strs {H : Type} {enc : TypeId × Value → H} {P : Program} {w : World} {base : Nat} {sp : Nat → Bool} {held : Bool} {fuel : Nat} {t e : TypeId} {n : Nat} {cs : List Value} {zs : List (List UInt8)} {p : List MemPlace}
    (ht : P.underlying t = some (.array n e)) (he : P.underlying e = some .string) (hce : P.cellsOf e = 1) (hct : P.cellsOf t = n)
    (h : DataW.trod enc P w base sp held fuel t cs = some (.agg (zs.map fun z => .lit (.string z)), p)) : cs = zs.map fun z => Value.string ⟨z.toArray⟩ := by
  obtain ⟨xs, m, _, hx, hl, hxl, hg⟩ := DataW.trod_array ht h
  rw [hct] at hl
  rw [hce] at hg
  simp only [Prod.mk.injEq, DataW.agg.injEq] at hx
  have hxs := hx.1.symm
  have hzl : zs.length = n := by
    have := congrArg List.length hxs
    simp at this
    omega
  apply List.ext_getElem?
  intro i
  by_cases hi : i < n
  · have hf := hg i hi
    rw [List.getElem?_eq_getElem (by omega)] at hf
    obtain ⟨z, hc, hz, _⟩ := DataW.trod_string he hf
    have h1 : cs[i]? = some (.string z) := by
      have := congrArg (·[0]?) hc
      simpa [List.getElem?_take, List.getElem?_drop] using this
    have h2 : (xs.map (·.1))[i]? = some (DataW.lit (.string z.data.toList) : DataW H) := by
      rw [List.getElem?_map, List.getElem?_eq_getElem (by omega), hz]; rfl
    rw [hxs] at h2
    simp only [List.getElem?_map, Option.map_eq_some_iff, DataW.lit.injEq, Lit.string.injEq] at h2
    obtain ⟨z', hz', e'⟩ := h2
    rw [h1, List.getElem?_map, hz', e']
    rfl
  · rw [List.getElem?_eq_none (by omega), List.getElem?_eq_none (by simp; omega)]
theorem strs_of_head {P : Program} {W : World} {name : String} {zs : List (List UInt8)} {rest : List (String × DataW Unit)} {g : Nat} {t e : TypeId} {n : Nat}
    (hg : P.globalNamed name = some g) (hty : (P.globals[g]?).map (·.type) = some t) (ht : P.underlying t = some (.array n e)) (he : P.underlying e = some .string) (hce : P.cellsOf e = 1) (hct : P.cellsOf t = n)
    (h : laidMet P ((name, .agg (zs.map fun z => .lit (.string z))) :: rest) W) : W.var? P name = some (zs.map fun z => Value.string ⟨z.toArray⟩).toArray := by
  obtain ⟨ps, ⟨g', t', cs, fuel, p, q, hg', ht', hvar, hd, _, _⟩, _⟩ := h
  obtain rfl := Option.some.inj (hg.symm.trans hg')
  obtain rfl := Option.some.inj (hty.symm.trans ht')
  rw [hvar, ← cells_of_strs ht he hce hct hd]
def ivalD {H : Type} (z : Int × Int) : DataW H := .agg [.lit (.int .i64 z.1), .lit (.int .i64 z.2)]
set_option maxRecDepth 100000 in
theorem ival_of {H : Type} {enc : TypeId × Value → H} {w : World} {base : Nat} {sp : Nat → Bool} {held : Bool} {n : Nat} {cs : List Value} {z : Int × Int} {y : DataW H × List MemPlace} (h : DataW.trod enc Tryz.prog w base sp held n 61 cs = some y) (hy : y.1 = ivalD z) : cs = [.int .i64 z.1, .int .i64 z.2] := by
  obtain ⟨xs, m, _, hx, hl, hxl, hg⟩ := DataW.trod_struct Tryz.underlying61 h
  rw [show Tryz.prog.cellsOf 61 = 2 by kernel_rfl] at hl
  match cs, hl, xs, hxl with
  | [c0, c1], _, [y0, y1], _ =>
    have g0 : DataW.trod enc Tryz.prog w base sp held m 3 [c0] = some y0 := by
      have := hg 0 _ rfl
      rw [show Tryz.prog.cellsOf _ = 1 by kernel_rfl] at this
      exact this
    have g1 : DataW.trod enc Tryz.prog w base sp held m 3 [c1] = some y1 := by
      have := hg 1 _ rfl
      exact (show _ = _ from this)
    obtain ⟨x0, e0, d0, _⟩ := DataW.trod_int Tryz.underlying3 g0
    obtain ⟨x1, e1, d1, _⟩ := DataW.trod_int Tryz.underlying3 g1
    rw [hx, d0, d1] at hy
    simp [ivalD] at hy
    simp at e0 e1
    rw [e0, e1, hy.1, hy.2]
theorem rng_datum : (Rows.laid_matins_cal_ranges : DataW Unit) = .agg ([((2000 : Int), (2199 : Int)), (1, 12), (1, 31), (0, 23), (0, 59), (0, 59)].map ivalD) := by kernel_rfl
theorem days_datum : (Rows.laid_matins_cal_dayNames : DataW Unit) = .agg ([[77, 111, 110], [84, 117, 101], [87, 101, 100], [84, 104, 117], [70, 114, 105], [83, 97, 116], [83, 117, 110]].map fun z => .lit (.string z)) := by kernel_rfl
theorem sep_datum : (Rows.laid_matins_cal_separators : DataW Unit) = .agg ([[], [45], [45], [32], [58], [58]].map fun z => .lit (.string z)) := by kernel_rfl
theorem tabM_of {W : World} (h : laidMetH Tryz.prog Rows.calNextRow.laid W) (hs : W.ShapedOpen Tryz.prog) : TabM W := by
  rw [MakeChecks.laidMetH_plain _ _ _ (by kernel_rfl)] at h
  have h2 := h.tail.tail
  rw [pow10_datum] at h2
  have h4 := h.tail.tail.tail.tail
  have h5 := h4.tail
  have h6 := h5.tail
  rw [days_datum] at h5
  rw [sep_datum] at h6
  refine ⟨⟨?_, ?_, ?_, ?_⟩, ?_⟩
  · obtain ⟨ps, ⟨g', t', cs, fuel, p, q, hg', ht', hvar, hd, _, _⟩, _⟩ := h4
    obtain rfl := Option.some.inj (rng_glob.symm.trans hg')
    obtain rfl := Option.some.inj (rng_type.symm.trans ht')
    rw [rng_datum] at hd
    obtain ⟨xs, m, _, hx, hl, hxl, hg⟩ := DataW.trod_array Tryz.underlying62 hd
    rw [show Tryz.prog.cellsOf 62 = 12 by kernel_rfl] at hl
    rw [show Tryz.prog.cellsOf 61 = 2 by kernel_rfl] at hg
    rw [hvar]
    obtain ⟨cs⟩ := cs
    match cs, hl, xs, hxl with
    | [c0, c1, c2, c3, c4, c5, c6, c7, c8, c9, c10, c11], _, [y0, y1, y2, y3, y4, y5], _ =>
      simp only [Prod.mk.injEq, DataW.agg.injEq, List.map_cons, List.map_nil, List.cons.injEq] at hx
      obtain ⟨⟨x0, x1, x2, x3, x4, x5, _⟩, _⟩ := hx
      have k0 := ival_of (hg 0 (by decide)) x0.symm
      have k1 := ival_of (hg 1 (by decide)) x1.symm
      have k2 := ival_of (hg 2 (by decide)) x2.symm
      have k3 := ival_of (hg 3 (by decide)) x3.symm
      have k4 := ival_of (hg 4 (by decide)) x4.symm
      have k5 := ival_of (hg 5 (by decide)) x5.symm
      simp at k0 k1 k2 k3 k4 k5
      simp [rngCells, k0, k1, k2, k3, k4, k5]
  · exact strs_of_head days_glob days_type Tryz.underlying75 Tryz.underlying9 (by kernel_rfl) (by kernel_rfl) h5
  · exact strs_of_head sep_glob sep_type Tryz.underlying76 Tryz.underlying9 (by kernel_rfl) (by kernel_rfl) h6
  · exact Lib.tabIs_of_head p10_glob pow10_type Tryz.underlying161 Tryz.underlying138 u64_cells pow10_cells h2
  · exact Go.Proofs.cell_of_shapedOpen_int (zero := #[.int .i64 0]) (t := 3) hs (of_decide_eq_true (by kernel_rfl)) (by kernel_rfl) rfl (by kernel_rfl) (by kernel_rfl) Tryz.underlying3
noncomputable def laidWorld (os : Os) : World := World.laidAll Tryz.prog os Rows.calNextRow.laid
theorem laid_met (os : Os) (args : Array Value) : laidMetH Tryz.prog Rows.calNextRow.laid ((laidWorld os).forCall (fun _ _ => 0) ⟨#[], args, []⟩).memory := by
  rw [MakeChecks.laidMetH_plain _ _ _ (by kernel_rfl)]
  exact laidMet_laidAll _ (by kernel_rfl) (by kernel_rfl)
theorem laid_vars (os : Os) (args : Array Value) : ((laidWorld os).forCall (fun _ _ => 0) ⟨#[], args, []⟩).Shaped Tryz.prog :=
  World.shaped_of_ZipB (by kernel_rfl) (by kernel_rfl)
theorem witness_laid {H : Type} {enc : TypeId × Value → H} {os : Os} {f : FuncId} {fn : Func} {s : OpenSpec} {conds : List PathCond} {apart : Bool} {laid : List (String × DataW Unit)} (args : Array Value)
    (hok : Input.okWideB Tryz.checked.prog ((laidWorld os).forCall (fun _ _ => 0) ⟨#[], args, []⟩) f ⟨#[], args, []⟩ = true)
    (hrow : s.preRow enc Tryz.checked.prog fn conds apart laid ((laidWorld os).forCall (fun _ _ => 0) ⟨#[], args, []⟩).memory args) :
    ∃ (w : World) (tape : Tape) (i : Input), w.os = os ∧ (w.forCall tape i).Shaped Tryz.checked.prog ∧ i.vars = [] ∧ Input.okWide Tryz.checked.prog (w.forCall tape i) .any w.heap.size f i ∧
      s.preRow enc Tryz.checked.prog fn conds apart laid (w.forCall tape i).memory i.args ∧ ({} : Assume).holds Tryz.checked.prog (lone (Frame.enter Tryz.checked.prog f i.args .normal) [] (w.forCall tape i)) :=
  ⟨laidWorld os, fun _ _ => 0, ⟨#[], args, []⟩, World.laidAll_os _ _ _, laid_vars os args, (Input.okWide_of_okWideB (base := 0) hok).1, (Input.okWide_of_okWideB hok).2, hrow, by
    simp only [Assume.holds]
    exact ⟨by simp, by simp, by simp, by simp, by simp, by simp⟩⟩
theorem post_below {H : Type} {enc : TypeId × Value → H} {P : Program} {f : Func} {s : ChangeSpec} {apart fresh handsOn again : Bool} {W W' : World} {args : Array Value} {v : Value} {ds gs : List (DataW H)} {before pa pv : List MemPlace}
    (hW : DataW.Whole enc P f.params.toList s.vars apart W args.toList ds gs before)
    (hres : ∀ (b : Nat) (sp : Nat → Bool) (hd : Bool), DataW.TrodAll enc P W' b sp hd f.resultTypes.toList (v.resultList f.resultTypes.size) (s.fn H (ds ++ gs)).results [])
    (hargs : ∀ sp : Nat → Bool, (∀ p ∈ before, sp p.block = true) → DataW.TrodAll enc P W' 0 sp true f.params.toList args.toList (s.fn H (ds ++ gs)).args pa)
    (hvars : ∀ sp : Nat → Bool, (∀ p ∈ before, sp p.block = true) → DataW.TrodVars enc P W' sp s.vars (s.fn H (ds ++ gs)).vars pv)
    (hps : before = pa ++ pv) (hb : Below W.heap.size W W')
    (hok : ∀ (j : Nat) (t : TypeId) (r : Value), f.resultTypes[j]? = some t → (v.resultList f.resultTypes.size)[j]? = some r → Value.okWide P W' .any 0 t r) :
    s.post enc P f apart fresh handsOn again W args v W' := by
  have hlt : ∀ p ∈ before, p.block < W.heap.size := fun p hp => hW.lt p hp
  have hold : ∀ p ∈ before, (fun b => decide (b < W.heap.size)) p.block = true := fun p hp => by simpa using hlt p hp
  refine ⟨ds, gs, before, [], pa, pv, hW, hres _ _ _, hargs _ hold, hvars _ hold, World.keptBut_mono (fun p hp => ⟨hp, ?_⟩) (hb.frame (· ∈ before)), fun _ => ?_⟩
  · rw [hps, List.mem_append] at hp
    exact Or.inr hp
  · obtain ⟨_, _, _, _, _, hz, hn⟩ := hW
    refine ⟨hok, _, _, ([] ++ pa) ++ pv, ⟨[] ++ pa, pv, trodAll_append (hargs _ (fun _ _ => rfl)) (hres _ _ _), hvars _ (fun _ _ => rfl), rfl, ?_, ?_⟩, ?_⟩
    · intro b off hp
      have hin : MemPlace.cell b off ∈ before := by rw [hps]; simpa using hp
      rw [hb.frozen (hlt _ hin)]
      exact hz b off hin
    · intro ha
      have := hn ha
      rw [hps] at this
      simpa using this
    · intro p hp _
      rw [hps]
      simpa using hp
end Go.Proofs.YtncolcjejgmhjaaGreatDoor
