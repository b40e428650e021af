/- What the rows' lists of tables say: the calendar's tables, and the powers of ten. Parameters that are a row of lines or  -/
import Derived.Test.YtadifolonbkamaaGreatDoorKvae
import Derived.Test.YtadifolonbkamaaGreatDoorKvav
import Derived.Lib.LaidTab
import Derived.Lib.LaidU8
import Derived.Shelf.Vars
import Derived.Test.YtadifolonbkamaaGreatDoorKvam
import Derived.Test.YtadifolonbkamaaGreatDoorKvbv
namespace Go.Proofs.YtadifolonbkamaaGreatDoor
open Go.RowKit Go.ChangeShapes Go.WideShapes Go.ChangeAt
open Go.ChangeMaps (open_string shut_string)
theorem pow10_type : (Tryz.prog.globals[7]?).map (·.type) = some 214 := by kernel_rfl
theorem pow10_cells : Tryz.prog.cellsOf 214 = 20 := by kernel_rfl
theorem u64_cells : Tryz.prog.cellsOf 166 = 1 := by kernel_rfl
theorem pow10_datum : (Rows.laid_internal_strconv_uint64pow10 : DataW Unit) = Lib.tabData .u64 Lib.pow10Tab := by kernel_rfl
theorem rng_type : (Tryz.prog.globals[0]?).map (·.type) = some 133 := by kernel_rfl
theorem days_type : (Tryz.prog.globals[3]?).map (·.type) = some 173 := by kernel_rfl
theorem cells_of_strs {H : Type} {enc : TypeId × Value → H} {P : Program} {w : World} {base : Nat} {sp : Nat → Bool} {held : Bool} {fuel : Nat} {t e : TypeId} {n : Nat} {cs : List Value} {zs : List (List UInt8)} {p : List MemPlace}
    (ht : P.underlying t = some (.array n e)) (he : P.underlying e = some .string) (hce : P.cellsOf e = 1) (hct : P.cellsOf t = n)
    (h : DataW.trod enc P w base sp held fuel t cs = some (.agg (zs.map fun z => .lit (.string z)), p)) : cs = zs.map fun z => Value.string ⟨z.toArray⟩ := by
  obtain ⟨xs, m, _, hx, hl, hxl, hg⟩ := DataW.trod_array ht h
  rw [hct] at hl
  rw [hce] at hg
  simp only [Prod.mk.injEq, DataW.agg.injEq] at hx
  have hxs := hx.1.symm
  have hzl : zs.length = n := by
    have := congrArg List.length hxs
    simp at this
    omega
  apply List.ext_getElem?
  intro i
  by_cases hi : i < n
  · have hf := hg i hi
    rw [List.getElem?_eq_getElem (by omega)] at hf
    obtain ⟨z, hc, hz, _⟩ := DataW.trod_string he hf
    have h1 : cs[i]? = some (.string z) := by
      have := congrArg (·[0]?) hc
      simpa [List.getElem?_take, List.getElem?_drop] using this
    have h2 : (xs.map (·.1))[i]? = some (DataW.lit (.string z.data.toList) : DataW H) := by
      rw [List.getElem?_map, List.getElem?_eq_getElem (by omega), hz]; rfl
    rw [hxs] at h2
    simp only [List.getElem?_map, Option.map_eq_some_iff, DataW.lit.injEq, Lit.string.injEq] at h2
    obtain ⟨z', hz', e'⟩ := h2
    rw [h1, List.getElem?_map, hz', e']
    rfl
  · rw [List.getElem?_eq_none (by omega), List.getElem?_eq_none (by simp; omega)]
theorem strs_of_head {P : Program} {W : World} {name : String} {zs : List (List UInt8)} {rest : List (String × DataW Unit)} {g : Nat} {t e : TypeId} {n : Nat}
    (hg : P.globalNamed name = some g) (hty : (P.globals[g]?).map (·.type) = some t) (ht : P.underlying t = some (.array n e)) (he : P.underlying e = some .string) (hce : P.cellsOf e = 1) (hct : P.cellsOf t = n)
    (h : laidMet P ((name, .agg (zs.map fun z => .lit (.string z))) :: rest) W) : W.var? P name = some (zs.map fun z => Value.string ⟨z.toArray⟩).toArray := by
  obtain ⟨ps, ⟨g', t', cs, fuel, p, q, hg', ht', hvar, hd, _, _⟩, _⟩ := h
  obtain rfl := Option.some.inj (hg.symm.trans hg')
  obtain rfl := Option.some.inj (hty.symm.trans ht')
  rw [hvar, ← cells_of_strs ht he hce hct hd]
def ivalD {H : Type} (z : Int × Int) : DataW H := .agg [.lit (.int .i64 z.1), .lit (.int .i64 z.2)]
set_option maxRecDepth 100000 in
theorem ival_of {H : Type} {enc : TypeId × Value → H} {w : World} {base : Nat} {sp : Nat → Bool} {held : Bool} {n : Nat} {cs : List Value} {z : Int × Int} {y : DataW H × List MemPlace} (h : DataW.trod enc Tryz.prog w base sp held n 132 cs = some y) (hy : y.1 = ivalD z) : cs = [.int .i64 z.1, .int .i64 z.2] := by
  obtain ⟨xs, m, _, hx, hl, hxl, hg⟩ := DataW.trod_struct Tryz.underlying132 h
  rw [show Tryz.prog.cellsOf 132 = 2 by kernel_rfl] at hl
  match cs, hl, xs, hxl with
  | [c0, c1], _, [y0, y1], _ =>
    have g0 : DataW.trod enc Tryz.prog w base sp held m 3 [c0] = some y0 := by
      have := hg 0 _ rfl
      rw [show Tryz.prog.cellsOf _ = 1 by kernel_rfl] at this
      exact this
    have g1 : DataW.trod enc Tryz.prog w base sp held m 3 [c1] = some y1 := by
      have := hg 1 _ rfl
      exact (show _ = _ from this)
    obtain ⟨x0, e0, d0, _⟩ := DataW.trod_int Tryz.underlying3 g0
    obtain ⟨x1, e1, d1, _⟩ := DataW.trod_int Tryz.underlying3 g1
    rw [hx, d0, d1] at hy
    simp [ivalD] at hy
    simp at e0 e1
    rw [e0, e1, hy.1, hy.2]
theorem rng_datum : (Rows.laid_matins_cal_ranges : DataW Unit) = .agg ([((2000 : Int), (2199 : Int)), (1, 12), (1, 31), (0, 23), (0, 59), (0, 59)].map ivalD) := by kernel_rfl
theorem days_datum : (Rows.laid_matins_cal_dayNames : DataW Unit) = .agg ([[77, 111, 110], [84, 117, 101], [87, 101, 100], [84, 104, 117], [70, 114, 105], [83, 97, 116], [83, 117, 110]].map fun z => .lit (.string z)) := by kernel_rfl
theorem tabM_of {W : World} (h : laidMetH Tryz.prog Rows.keysTableRow.laid W) (hs : W.ShapedOpen Tryz.prog) : Ca.TabM W := by
  rw [MakeChecks.laidMetH_plain _ _ _ (by kernel_rfl)] at h
  have h2 := h.tail.tail
  rw [pow10_datum] at h2
  have h4 := h.tail.tail.tail.tail.tail.tail
  have h5 := h4.tail
  rw [days_datum] at h5
  refine ⟨⟨?_, ?_, ?_⟩, ?_⟩
  · obtain ⟨ps, ⟨g', t', cs, fuel, p, q, hg', ht', hvar, hd, _, _⟩, _⟩ := h4
    obtain rfl := Option.some.inj (Ca.rng_glob.symm.trans hg')
    obtain rfl := Option.some.inj (rng_type.symm.trans ht')
    rw [rng_datum] at hd
    obtain ⟨xs, m, _, hx, hl, hxl, hg⟩ := DataW.trod_array Tryz.underlying133 hd
    rw [show Tryz.prog.cellsOf 133 = 12 by kernel_rfl] at hl
    rw [show Tryz.prog.cellsOf 132 = 2 by kernel_rfl] at hg
    rw [hvar]
    obtain ⟨cs⟩ := cs
    match cs, hl, xs, hxl with
    | [c0, c1, c2, c3, c4, c5, c6, c7, c8, c9, c10, c11], _, [y0, y1, y2, y3, y4, y5], _ =>
      simp only [Prod.mk.injEq, DataW.agg.injEq, List.map_cons, List.map_nil, List.cons.injEq] at hx
      obtain ⟨⟨x0, x1, x2, x3, x4, x5, _⟩, _⟩ := hx
      have k0 := ival_of (hg 0 (by decide)) x0.symm
      have k1 := ival_of (hg 1 (by decide)) x1.symm
      have k2 := ival_of (hg 2 (by decide)) x2.symm
      have k3 := ival_of (hg 3 (by decide)) x3.symm
      have k4 := ival_of (hg 4 (by decide)) x4.symm
      have k5 := ival_of (hg 5 (by decide)) x5.symm
      simp at k0 k1 k2 k3 k4 k5
      simp [Ca.rngCells, k0, k1, k2, k3, k4, k5]
  · exact strs_of_head Ca.days_glob days_type Tryz.underlying173 Tryz.underlying9 (by kernel_rfl) (by kernel_rfl) h5
  · exact Lib.tabIs_of_head Ca.p10_glob pow10_type Tryz.underlying214 Tryz.underlying166 u64_cells pow10_cells h2
  · exact Go.Proofs.cell_of_shapedOpen_int (zero := #[.int .i64 0]) (t := 3) hs (of_decide_eq_true (by kernel_rfl)) (by kernel_rfl) rfl (by kernel_rfl) (by kernel_rfl) Tryz.underlying3
end Go.Proofs.YtadifolonbkamaaGreatDoor
namespace Go.Proofs.YtadifolonbkamaaGreatDoor
open Go.RowKit Go.Joins Go.ChangeShapes Go.WideShapes Go.ChangeAt Go.Deep
open Go.ChangeMaps (open_string shut_string)
section
variable {H : Type} {enc : TypeId × Value → H} {W : World} {base : Nat} {spare : Nat → Bool} {held : Bool}
theorem open_agg6 {P : Program} {r : Reach} {b0 : Nat} {t : TypeId} {f0 f1 f2 f3 f4 f5 : Field} {v : Value} {d : DataW H} {p : List MemPlace} (hs : P.underlying t = some (.struct #[f0, f1, f2, f3, f4, f5])) (hone : oneCellFields P #[f0, f1, f2, f3, f4, f5] = true) (hC : P.cellsOf t = 6)
    (hv : Value.okWide P W r b0 t v) (h : DataW.Trod enc P W base spare held t v d p) :
    ∃ (v0 v1 v2 v3 v4 v5 : Value) (y0 y1 y2 y3 y4 y5 : DataW H × List MemPlace) (n : Nat), v = .agg #[v0, v1, v2, v3, v4, v5] ∧ d = .agg [y0.1, y1.1, y2.1, y3.1, y4.1, y5.1] ∧
      DataW.trod enc P W base spare held n f0.type [v0] = some y0 ∧ DataW.trod enc P W base spare held n f1.type [v1] = some y1 ∧ DataW.trod enc P W base spare held n f2.type [v2] = some y2 ∧ DataW.trod enc P W base spare held n f3.type [v3] = some y3 ∧ DataW.trod enc P W base spare held n f4.type [v4] = some y4 ∧ DataW.trod enc P W base spare held n f5.type [v5] = some y5 := by
  obtain ⟨cs, rfl, hsz⟩ := okWide_struct hs hv
  obtain ⟨l⟩ := cs
  match l, hsz.trans hC with
  | [c0, c1, c2, c3, c4, c5], _ =>
    obtain ⟨fuel, hf⟩ := h
    obtain ⟨xs, n, _, hx, _, hlen, hg⟩ := DataW.trod_struct hs hf
    obtain ⟨o0, k0⟩ := hone_of hone 0 f0 rfl
    obtain ⟨o1, k1⟩ := hone_of hone 1 f1 rfl
    obtain ⟨o2, k2⟩ := hone_of hone 2 f2 rfl
    obtain ⟨o3, k3⟩ := hone_of hone 3 f3 rfl
    obtain ⟨o4, k4⟩ := hone_of hone 4 f4 rfl
    obtain ⟨o5, k5⟩ := hone_of hone 5 f5 rfl
    match xs, hlen with
    | [y0, y1, y2, y3, y4, y5], _ =>
      simp only [Prod.mk.injEq] at hx
      exact ⟨c0, c1, c2, c3, c4, c5, y0, y1, y2, y3, y4, y5, n, rfl, by simpa using hx.1, by simpa [Value.cells, o0, k0] using hg 0 f0 rfl, by simpa [Value.cells, o1, k1] using hg 1 f1 rfl, by simpa [Value.cells, o2, k2] using hg 2 f2 rfl, by simpa [Value.cells, o3, k3] using hg 3 f3 rfl, by simpa [Value.cells, o4, k4] using hg 4 f4 rfl, by simpa [Value.cells, o5, k5] using hg 5 f5 rfl⟩
theorem strs_of {n : Nat} {v : Value} {y : DataW H × List MemPlace} (h : DataW.trod enc Tryz.prog W base spare held n 26 [v] = some y) :
    ∃ (A : Option Addr) (m c : Nat) (l : List (List UInt8)), v = .slice A m c ∧ RowAt W W.heap.size A m l := by
  rcases open_slice1 Tryz.underlying26 (by kernel_rfl) h with ⟨hcs, hx⟩ | ⟨a, len, cap, m, n', V, D, Pl, hcs, _, hl, hm, hmm, hx, hi⟩
  · exact ⟨none, 0, 0, [], by simpa using hcs, RowAt.none_⟩
  · have hml : len ≤ m := by rw [hmm]; split <;> omega
    have hV : ∀ i, i < len → ∃ x : List UInt8, W.cell? (a.add i) = some (.string (str x)) := fun i hil => by
      obtain ⟨h1, h2⟩ := hi i (by omega)
      obtain ⟨x, e, _⟩ := DataW.trod_string Tryz.underlying9 h2
      exact ⟨x.data.toList, by rw [h1, str_data]; congr 1; simpa using e⟩
    obtain ⟨X, hX⟩ := pick_ltP ([] : List UInt8) hV
    refine ⟨some a, len, cap, (List.range len).map X, by simpa using hcs, by simp, by omega, fun h0 => ⟨a, rfl, cell_ltP (hX 0 h0), fun j u hj => ?_⟩⟩
    rw [List.getElem?_map] at hj
    rcases Nat.lt_or_ge j len with h' | h'
    · rw [List.getElem?_range h'] at hj
      simp only [Option.map_some, Option.some.injEq] at hj
      rw [← hj]; exact hX j h'
    · rw [List.getElem?_eq_none (by simpa using h')] at hj; cases hj
set_option maxRecDepth 100000 in
theorem open_key {b0 : Nat} {v : Value} {d : DataW H} {p : List MemPlace} (hv : Value.okWide Tryz.prog W .any b0 28 v) (h : DataW.Trod enc Tryz.prog W base spare held 28 v d p) :
    ∃ (r : Kr) (ws : List (List UInt8)), v = .agg #[.string (str r.s), .string (str r.n), .int .i64 r.f, .bool r.l, .int .i64 r.k, .slice r.A r.m r.c] ∧ RowAt W W.heap.size r.A r.m ws := by
  obtain ⟨v0, v1, v2, v3, v4, v5, y0, y1, y2, y3, y4, y5, n, rfl, rfl, h0, h1, h2, h3, h4, h5⟩ := open_agg6 Tryz.underlying28 (by kernel_rfl) (by kernel_rfl) hv h
  obtain ⟨x0, e0, _⟩ := DataW.trod_string Tryz.underlying9 h0
  obtain ⟨x1, e1, _⟩ := DataW.trod_string Tryz.underlying9 h1
  obtain ⟨x2, e2, _⟩ := DataW.trod_int Tryz.underlying3 h2
  obtain ⟨x3, e3, _⟩ := DataW.trod_bool Tryz.underlying4 h3
  obtain ⟨x4, e4, _⟩ := DataW.trod_int Tryz.underlying3 h4
  obtain ⟨A, m, c, ws, rfl, g5⟩ := strs_of h5
  obtain rfl : v0 = .string x0 := by simpa using e0
  obtain rfl : v1 = .string x1 := by simpa using e1
  obtain rfl : v2 = .int .i64 x2 := by simpa using e2
  obtain rfl : v3 = .bool x3 := by simpa using e3
  obtain rfl : v4 = .int .i64 x4 := by simpa using e4
  exact ⟨⟨x0.data.toList, x1.data.toList, x2, x3, x4, A, m, c⟩, ws, by simp [str_data], g5⟩
theorem shut_key {W' : World} {v : Value} {d : DataW H} {ps : List MemPlace} {sp : Nat → Bool} (h : DataW.Trod enc Tryz.prog W 0 (fun _ => true) true 28 v d ps) (hb : Below W.heap.size W W') (hlt : ∀ p ∈ ps, p.block < W.heap.size) (hs : ∀ p ∈ ps, sp p.block = true) :
    DataW.Trod enc Tryz.prog W' 0 sp true 28 v d ps :=
  WideElems.Trod_stays (by kernel_rfl) (by kernel_rfl) (of_decide_eq_true (by kernel_rfl)) h (same_belowP hb hlt) hs
end
end Go.Proofs.YtadifolonbkamaaGreatDoor
