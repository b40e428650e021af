/- Rows of anything, opened: a parameter that is a slice of structs, or a field that is one; a graph. -/
import Derived.Test.YtcoepioahabbdaaGreatRows
import Derived.Test.YtcoepioahabbdaaGreatGyam
import Derived.ProofKit
import Derived.OpenShut
import Derived.Deep.Strs
import Derived.Deep.Slices
import Derived.WideKeyArgs
import Derived.Lib.SmallJoins
import Derived.Deep.DeepHandedRow
import Derived.Stop.LaidErr
import Derived.Lay
import Derived.SevenTiedAt
import Derived.SizedLaws
import Derived.JoinedCond
namespace Go.Proofs.YtcoepioahabbdaaGreat
open Go.RowKit Go.Joins Go.ChangeShapes Go.WideShapes Go.ChangeAt Go.Deep
open Go.ChangeMaps (open_string shut_string)
theorem cell_ltG {W : World} {a : Addr} {v : Value} (h : W.cell? (a.add 0) = some v) : a.block < W.heap.size := by
  have := World.block_lt_of_cell? W _ h
  rwa [addA_block] at this
theorem pick_ltG {α : Type} (z : α) {n : Nat} {p : Nat → α → Prop} (h : ∀ i, i < n → ∃ v, p i v) : ∃ V : Nat → α, ∀ i, i < n → p i (V i) :=
  ⟨fun i => if hi : i < n then Classical.choose (h i hi) else z, fun i hi => by
    show p i (if hi : i < n then _ else _)
    rw [dif_pos hi]; exact Classical.choose_spec (h i hi)⟩
theorem same_belowG {W W' : World} {ps : List MemPlace} (hb : Below W.heap.size W W') (hlt : ∀ p ∈ ps, p.block < W.heap.size) : ∀ p ∈ ps, W.sameAt W' p := fun p hp => by
  have h := hlt p hp
  cases p with
  | cell b off => exact hb.cell (p := ⟨b, off, none⟩) h
  | map b => exact hb.block b h
theorem bulk_memG {H : Type} {x : DataW H} {l : List (DataW H)} (h : x ∈ l) : Rows.uptoBulk x ≤ Rows.uptoBulkAll l := by
  induction l with
  | nil => cases h
  | cons y l ih =>
    rw [Rows.uptoBulkAll]
    rcases List.mem_cons.1 h with rfl | h
    · omega
    · have := ih h; omega
theorem bulk_countG {H : Type} (l : List (DataW H)) (h : ∀ x ∈ l, 1 ≤ Rows.uptoBulk x) : l.length ≤ Rows.uptoBulkAll l := by
  induction l with
  | nil => exact Nat.zero_le _
  | cons y l ih =>
    rw [Rows.uptoBulkAll, List.length_cons]
    have h1 := h y (by simp)
    have h2 := ih (fun x hx => h x (by simp [hx]))
    omega
section
variable {H : Type} {enc : TypeId × Value → H} {P : Program} {W : World} {base : Nat} {spare : Nat → Bool} {held : Bool}
theorem open_rows {α : Type} (Ly : Lay α) (z : α) {TS T : TypeId} (hT : P.underlying TS = some (.slice T)) (hc : P.cellsOf T = Ly.sz) (Good : α → DataW H → Prop)
    (hx : ∀ (m : Nat) (cs : List Value) (y : DataW H × List MemPlace), cs.length = Ly.sz → DataW.trod enc P W base spare held m T cs = some y → ∃ x, cs = Ly.cs x ∧ Good x y.1) (h1 : ∀ x d, Good x d → 1 ≤ Rows.uptoBulk d)
    {n : Nat} {cs : List Value} {y : DataW H × List MemPlace} (h : DataW.trod enc P W base spare held n TS cs = some y) :
    ∃ (A : Option Addr) (len c : Nat) (l : List α), cs = [.slice A len c] ∧ len ≤ c ∧ (A = none → c = 0) ∧ SlAt Ly W W.heap.size A len l ∧ len ≤ Rows.uptoBulk y.1 ∧ ∀ x ∈ l, ∃ d, Good x d ∧ Rows.uptoBulk d ≤ Rows.uptoBulk y.1 := by
  rcases open_slice hT h with ⟨rfl, hy⟩ | ⟨a, len, cap, m, n', D, Pl, rfl, _, hl, hm, hmm, hy, hi⟩
  · exact ⟨none, 0, 0, [], rfl, Nat.le_refl _, fun _ => rfl, SlAt.none_, Nat.zero_le _, by simp⟩
  · rw [hc] at hi
    have hml : len ≤ m := by rw [hmm]; split <;> omega
    have hV : ∀ i, i < len → ∃ q : α, (∀ j u, (Ly.cs q)[j]? = some u → W.cell? (a.add (i * Ly.sz + j)) = some u) ∧ Good q (D i) := fun i hil => by
      obtain ⟨cs', h2, h3⟩ := hi i (by omega)
      obtain ⟨_, hlen, hat⟩ := World.cells?_some h2
      obtain ⟨q, rfl, m1⟩ := hx _ _ _ hlen h3
      refine ⟨q, fun j u hj => ?_, m1⟩
      have hj2 : j < Ly.sz := by
        rcases Nat.lt_or_ge j Ly.sz with h' | h'
        · exact h'
        · rw [List.getElem?_eq_none (by rw [Ly.len]; exact h')] at hj; cases hj
      rw [← addA_add, hat j hj2, hj]
    obtain ⟨X, hX⟩ := pick_ltG z hV
    have hmem : ∀ x ∈ (List.range len).map X, ∃ i, i < len ∧ x = X i := by
      intro x hx
      obtain ⟨j, hj, rfl⟩ := List.mem_map.1 hx
      exact ⟨j, List.mem_range.1 hj, rfl⟩
    have hyy : Rows.uptoBulkAll ((List.range len).map D) ≤ Rows.uptoBulk y.1 := by rw [hy, Rows.uptoBulk]; omega
    refine ⟨some a, len, cap, (List.range len).map X, rfl, hl, (fun h => by cases h), ⟨by simp, by omega, fun h0 => ⟨a, rfl, ?_, fun j u hj => ?_⟩⟩, ?_, ?_⟩
    · obtain ⟨u, hu⟩ : ∃ u, (Ly.cs (X 0))[0]? = some u := ⟨_, List.getElem?_eq_getElem (by rw [Ly.len]; exact Ly.pos)⟩
      have := (hX 0 h0).1 0 u hu
      rw [Nat.zero_mul] at this
      exact cell_ltG this
    · have hjl : j < len * Ly.sz := by
        rcases Nat.lt_or_ge j (len * Ly.sz) with h' | h'
        · exact h'
        · rw [List.getElem?_eq_none (by rw [Ly.all_len]; simpa using h')] at hj; cases hj
      have hpos := Ly.pos
      have hd : j = j / Ly.sz * Ly.sz + j % Ly.sz := by rw [Nat.mul_comm]; exact (Nat.div_add_mod j Ly.sz).symm
      have hk : j / Ly.sz < len := Nat.div_lt_of_lt_mul (by rw [Nat.mul_comm]; exact hjl)
      have hr : j % Ly.sz < Ly.sz := Nat.mod_lt _ hpos
      have hg := Ly.all_get ((List.range len).map X) (j / Ly.sz) (X (j / Ly.sz)) (by rw [List.getElem?_map, List.getElem?_range hk]; rfl) (j % Ly.sz) hr
      rw [← hd, hj] at hg
      have := (hX (j / Ly.sz) hk).1 (j % Ly.sz) u hg.symm
      rwa [← hd] at this
    · have h2 := bulk_countG ((List.range len).map D) (fun z hz => by
        obtain ⟨i, hi', rfl⟩ := List.mem_map.1 hz
        exact h1 _ _ (hX i (List.mem_range.1 hi')).2)
      rw [List.length_map, List.length_range] at h2
      omega
    · intro x hxm
      obtain ⟨i, hil, rfl⟩ := hmem x hxm
      have h2 := bulk_memG (x := D i) (l := (List.range len).map D) (List.mem_map.2 ⟨i, List.mem_range.2 hil, rfl⟩)
      exact ⟨D i, (hX i hil).2, by omega⟩
end
section
variable {H : Type} {enc : TypeId × Value → H} {W : World} {base : Nat} {spare : Nat → Bool} {held : Bool}
def GoodNd (x : Nd) (d : DataW H) : Prop := d = .agg [.lit (.string x.n), .lit (.int .i64 x.k), .lit (.int .i64 x.s)] ∧ x.n.length ≤ maxLen
theorem nd_of (n : Nat) (cs : List Value) (y : DataW H × List MemPlace) (hlen : cs.length = 3) (h : DataW.trod enc Tryz.prog W base spare held n 32 cs = some y) : ∃ x : Nd, cs = ndLay.cs x ∧ GoodNd x y.1 := by
  match cs, hlen with
  | [c0, c1, c2], _ =>
    obtain ⟨xs, m, _, hx, _, hl, hg⟩ := DataW.trod_struct Tryz.underlying32 h
    match xs, hl with
    | [y0, y1, y2], _ =>
      have h0 := hg 0 _ rfl
      obtain ⟨x0, e0, d0, w0⟩ := DataW.trod_string Tryz.underlying9 h0
      obtain rfl : c0 = .string x0 := by simpa [show Tryz.prog.cellsOf 9 = 1 by kernel_rfl, show Tryz.prog.cellsOf 3 = 1 by kernel_rfl] using e0
      have h1 := hg 1 _ rfl
      obtain ⟨x1, e1, d1, w1⟩ := DataW.trod_int Tryz.underlying3 h1
      obtain rfl : c1 = .int .i64 x1 := by simpa [show Tryz.prog.cellsOf 9 = 1 by kernel_rfl, show Tryz.prog.cellsOf 3 = 1 by kernel_rfl] using e1
      have h2 := hg 2 _ rfl
      obtain ⟨x2, e2, d2, w2⟩ := DataW.trod_int Tryz.underlying3 h2
      obtain rfl : c2 = .int .i64 x2 := by simpa [show Tryz.prog.cellsOf 9 = 1 by kernel_rfl, show Tryz.prog.cellsOf 3 = 1 by kernel_rfl] using e2
      refine ⟨⟨x0.data.toList, x1, x2⟩, by simp [ndLay, str_data], ?_⟩
      unfold GoodNd
      refine ⟨by rw [hx]; simp [d0, d1, d2], by show x0.data.toList.length ≤ maxLen; rw [← Lib.size_eq]; exact w0⟩
theorem GoodNd.one {x : Nd} {d : DataW H} (h : GoodNd x d) : 1 ≤ Rows.uptoBulk d := by
  rw [h.1]
  simp only [Rows.uptoBulk]
  omega
def GoodEd (x : Ed) (d : DataW H) : Prop := d = .agg [.lit (.string x.f), .lit (.string x.t), .lit (.int .i64 x.r)] ∧ x.f.length ≤ maxLen ∧ x.t.length ≤ maxLen
theorem ed_of (n : Nat) (cs : List Value) (y : DataW H × List MemPlace) (hlen : cs.length = 3) (h : DataW.trod enc Tryz.prog W base spare held n 58 cs = some y) : ∃ x : Ed, cs = edLay.cs x ∧ GoodEd x y.1 := by
  match cs, hlen with
  | [c0, c1, c2], _ =>
    obtain ⟨xs, m, _, hx, _, hl, hg⟩ := DataW.trod_struct Tryz.underlying58 h
    match xs, hl with
    | [y0, y1, y2], _ =>
      have h0 := hg 0 _ rfl
      obtain ⟨x0, e0, d0, w0⟩ := DataW.trod_string Tryz.underlying9 h0
      obtain rfl : c0 = .string x0 := by simpa [show Tryz.prog.cellsOf 9 = 1 by kernel_rfl, show Tryz.prog.cellsOf 3 = 1 by kernel_rfl] using e0
      have h1 := hg 1 _ rfl
      obtain ⟨x1, e1, d1, w1⟩ := DataW.trod_string Tryz.underlying9 h1
      obtain rfl : c1 = .string x1 := by simpa [show Tryz.prog.cellsOf 9 = 1 by kernel_rfl, show Tryz.prog.cellsOf 3 = 1 by kernel_rfl] using e1
      have h2 := hg 2 _ rfl
      obtain ⟨x2, e2, d2, w2⟩ := DataW.trod_int Tryz.underlying3 h2
      obtain rfl : c2 = .int .i64 x2 := by simpa [show Tryz.prog.cellsOf 9 = 1 by kernel_rfl, show Tryz.prog.cellsOf 3 = 1 by kernel_rfl] using e2
      refine ⟨⟨x0.data.toList, x1.data.toList, x2⟩, by simp [edLay, str_data], ?_⟩
      unfold GoodEd
      refine ⟨by rw [hx]; simp [d0, d1, d2], by show x0.data.toList.length ≤ maxLen; rw [← Lib.size_eq]; exact w0, by show x1.data.toList.length ≤ maxLen; rw [← Lib.size_eq]; exact w1⟩
theorem GoodEd.one {x : Ed} {d : DataW H} (h : GoodEd x d) : 1 ≤ Rows.uptoBulk d := by
  rw [h.1]
  simp only [Rows.uptoBulk]
  omega
def GoodRl (x : Int × Tx) (d : DataW H) : Prop := d = .agg [.lit (.int .i64 x.1), .lit (.string x.2)] ∧ x.2.length ≤ maxLen
theorem rl_of (n : Nat) (cs : List Value) (y : DataW H × List MemPlace) (hlen : cs.length = 2) (h : DataW.trod enc Tryz.prog W base spare held n 56 cs = some y) : ∃ x : Int × Tx, cs = rlLay.cs x ∧ GoodRl x y.1 := by
  match cs, hlen with
  | [c0, c1], _ =>
    obtain ⟨xs, m, _, hx, _, hl, hg⟩ := DataW.trod_struct Tryz.underlying56 h
    match xs, hl with
    | [y0, y1], _ =>
      have h0 := hg 0 _ rfl
      obtain ⟨x0, e0, d0, w0⟩ := DataW.trod_int Tryz.underlying3 h0
      obtain rfl : c0 = .int .i64 x0 := by simpa [show Tryz.prog.cellsOf 9 = 1 by kernel_rfl, show Tryz.prog.cellsOf 3 = 1 by kernel_rfl] using e0
      have h1 := hg 1 _ rfl
      obtain ⟨x1, e1, d1, w1⟩ := DataW.trod_string Tryz.underlying9 h1
      obtain rfl : c1 = .string x1 := by simpa [show Tryz.prog.cellsOf 9 = 1 by kernel_rfl, show Tryz.prog.cellsOf 3 = 1 by kernel_rfl] using e1
      refine ⟨(x0, x1.data.toList), by simp [rlLay, str_data], ?_⟩
      unfold GoodRl
      refine ⟨by rw [hx]; simp [d0, d1], by show x1.data.toList.length ≤ maxLen; rw [← Lib.size_eq]; exact w1⟩
theorem GoodRl.one {x : Int × Tx} {d : DataW H} (h : GoodRl x d) : 1 ≤ Rows.uptoBulk d := by
  rw [h.1]
  simp only [Rows.uptoBulk]
  omega
theorem open_graph {n : Nat} {cs : List Value} {y : DataW H × List MemPlace} (hlen : cs.length = 2) (h : DataW.trod enc Tryz.prog W base spare held n 29 cs = some y) :
    ∃ (NA EA : Option Addr) (nn nc en ec : Nat) (ns : List Nd) (es : List Ed), cs = [.slice NA nn nc, .slice EA en ec] ∧ nn ≤ nc ∧ en ≤ ec ∧ (NA = none → nc = 0) ∧ (EA = none → ec = 0) ∧
      SlAt ndLay W W.heap.size NA nn ns ∧ SlAt edLay W W.heap.size EA en es ∧ nn + en ≤ Rows.uptoBulk y.1 ∧ (∀ x ∈ ns, x.n.length ≤ maxLen) ∧ (∀ x ∈ es, x.f.length ≤ maxLen ∧ x.t.length ≤ maxLen) := by
  match cs, hlen with
  | [c0, c1], _ =>
    obtain ⟨xs, m, _, hx, _, hl, hg⟩ := DataW.trod_struct Tryz.underlying29 h
    match xs, hl with
    | [y0, y1], _ =>
      have h0 := hg 0 _ rfl
      obtain ⟨NA, nn, nc, ns, e0, a1, a2, a3, a4, a5⟩ := open_rows ndLay ⟨[], 0, 0⟩ Tryz.underlying26 (by kernel_rfl) GoodNd nd_of (fun _ _ h => h.one) h0
      have h1 := hg 1 _ rfl
      obtain ⟨EA, en, ec, es, e1, b1, b2, b3, b4, b5⟩ := open_rows edLay ⟨[], [], 0⟩ Tryz.underlying27 (by kernel_rfl) GoodEd ed_of (fun _ _ h => h.one) h1
      obtain rfl : c0 = .slice NA nn nc := by simpa [show Tryz.prog.cellsOf 26 = 1 by kernel_rfl, show Tryz.prog.cellsOf 27 = 1 by kernel_rfl] using e0
      obtain rfl : c1 = .slice EA en ec := by simpa [show Tryz.prog.cellsOf 26 = 1 by kernel_rfl, show Tryz.prog.cellsOf 27 = 1 by kernel_rfl] using e1
      refine ⟨NA, EA, nn, nc, en, ec, ns, es, rfl, a1, b1, a2, b2, a3, b3, ?_, fun x hx => ?_, fun x hx => ?_⟩
      · rw [hx]
        simp only [List.map_cons, List.map_nil, Rows.uptoBulk, Rows.uptoBulkAll]
        omega
      · obtain ⟨d, hd, _⟩ := a5 x hx
        exact hd.2
      · obtain ⟨d, hd, _⟩ := b5 x hx
        exact hd.2
end
section
variable {H : Type} {enc : TypeId × Value → H} {W : World} {base : Nat} {spare : Nat → Bool} {held : Bool}
def GoodTx (x : Tx) (d : DataW H) : Prop := d = .lit (.string x) ∧ x.length ≤ maxLen
theorem tx_of (n : Nat) (cs : List Value) (y : DataW H × List MemPlace) (_hlen : cs.length = 1) (h : DataW.trod enc Tryz.prog W base spare held n 9 cs = some y) : ∃ x : Tx, cs = txLay.cs x ∧ GoodTx x y.1 := by
  obtain ⟨x0, rfl, d0, w0⟩ := DataW.trod_string Tryz.underlying9 h
  refine ⟨x0.data.toList, by simp [txLay, str_data], ?_⟩
  unfold GoodTx
  refine ⟨by rw [d0], by rw [← Lib.size_eq]; exact w0⟩
theorem GoodTx.one {x : Tx} {d : DataW H} (h : GoodTx x d) : 1 ≤ Rows.uptoBulk d := by
  rw [h.1]
  simp only [Rows.uptoBulk]
  omega
theorem open_texts {n : Nat} {cs : List Value} {y : DataW H × List MemPlace} (h : DataW.trod enc Tryz.prog W base spare held n 37 cs = some y) :
    ∃ (A : Option Addr) (len c : Nat) (l : List Tx), cs = [.slice A len c] ∧ len ≤ c ∧ (A = none → c = 0) ∧ SlAt txLay W W.heap.size A len l ∧ len ≤ Rows.uptoBulk y.1 ∧ ∀ x ∈ l, x.length ≤ maxLen := by
  obtain ⟨A, len, c, l, e0, a1, a2, a3, a4, a5⟩ := open_rows txLay [] Tryz.underlying37 (by kernel_rfl) GoodTx tx_of (fun _ _ h => h.one) h
  exact ⟨A, len, c, l, e0, a1, a2, a3, a4, fun x hx => by obtain ⟨d, hd, _⟩ := a5 x hx; exact hd.2⟩
theorem open_rels {n : Nat} {cs : List Value} {y : DataW H × List MemPlace} (h : DataW.trod enc Tryz.prog W base spare held n 46 cs = some y) :
    ∃ (A : Option Addr) (len c : Nat) (l : List (Int × Tx)), cs = [.slice A len c] ∧ len ≤ c ∧ (A = none → c = 0) ∧ SlAt rlLay W W.heap.size A len l ∧ len ≤ Rows.uptoBulk y.1 ∧ ∀ x ∈ l, x.2.length ≤ maxLen := by
  obtain ⟨A, len, c, l, e0, a1, a2, a3, a4, a5⟩ := open_rows rlLay (0, []) Tryz.underlying46 (by kernel_rfl) GoodRl rl_of (fun _ _ h => h.one) h
  exact ⟨A, len, c, l, e0, a1, a2, a3, a4, fun x hx => by obtain ⟨d, hd, _⟩ := a5 x hx; exact hd.2⟩
end
end Go.Proofs.YtcoepioahabbdaaGreat
