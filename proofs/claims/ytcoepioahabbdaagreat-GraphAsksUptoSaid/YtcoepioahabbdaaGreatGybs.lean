/- A loaded unit's cells, opened (genGiU.py). Parameters that are rows of loaded units, or graphs: opened, shut. -/
import Derived.Test.YtcoepioahabbdaaGreatGybr
namespace Go.Proofs.YtcoepioahabbdaaGreat
open Go.RowKit Go.Joins Go.ChangeShapes Go.WideShapes Go.ChangeAt Go.Deep
theorem at_of {cs : List Value} {k : Nat} {u : Value} (h : (cs.drop k).take 1 = [u]) : cs[k]? = some u := by
  have := congrArg (·[0]?) h
  simpa [List.getElem?_take, List.getElem?_drop] using this
section
variable {H : Type} {enc : TypeId × Value → H} {P : Program} {W : World} {base : Nat} {spare : Nat → Bool} {held : Bool} {n k : Nat} {cs : List Value} {y : DataW H × List MemPlace} {T : TypeId}
theorem read_at {fs : Array Field} {xs : List (DataW H × List MemPlace)} {z : DataW H × List MemPlace}
    (hg : ∀ (i : Nat) (f : Field), fs[i]? = some f → DataW.trod enc P W base spare held n f.type ((cs.drop f.offset).take (P.cellsOf f.type)) = xs[i]?) (i k : Nat) (T : TypeId) (f : Field)
    (hf : fs[i]? = some f) (hT : f.type = T) (hk : f.offset = k) (hc : P.cellsOf T = 1) (hx : xs[i]? = some z) : DataW.trod enc P W base spare held n T ((cs.drop k).take 1) = some z := by
  have := hg i f hf
  rwa [hT, hk, hc, hx] at this
theorem read_in {fs : Array Field} {xs : List (DataW H × List MemPlace)} {z : DataW H × List MemPlace}
    (hg : ∀ (i : Nat) (f : Field), fs[i]? = some f → DataW.trod enc P W base spare held n f.type ((cs.drop f.offset).take (P.cellsOf f.type)) = xs[i]?) (i k q : Nat) (T : TypeId) (f : Field)
    (hf : fs[i]? = some f) (hT : f.type = T) (hk : f.offset = k) (hc : P.cellsOf T = q) (hx : xs[i]? = some z) : DataW.trod enc P W base spare held n T ((cs.drop k).take q) = some z := by
  have := hg i f hf
  rwa [hT, hk, hc, hx] at this
def OneC (cs : List Value) (k : Nat) : Prop := ∃ u, cs[k]? = some u ∧ u.oneCell' = true
theorem leaf_s (hT : P.underlying T = some .string) (h : DataW.trod enc P W base spare held n T ((cs.drop k).take 1) = some y) : ∃ s : Tx, cs[k]? = some (.string (str s)) ∧ s.length ≤ maxLen ∧ y.1 = .lit (.string s) := by
  obtain ⟨x0, e, d0, w0⟩ := DataW.trod_string hT h
  exact ⟨x0.data.toList, by rw [at_of e, str_data], by rw [← Lib.size_eq]; exact w0, by rw [d0]⟩
theorem leaf_i (hT : P.underlying T = some (.int .i64)) (h : DataW.trod enc P W base spare held n T ((cs.drop k).take 1) = some y) : ∃ i : Int, cs[k]? = some (.int .i64 i) := by
  obtain ⟨x0, e, _⟩ := DataW.trod_int hT h
  exact ⟨x0, at_of e⟩
theorem leaf_b (hT : P.underlying T = some .bool) (h : DataW.trod enc P W base spare held n T ((cs.drop k).take 1) = some y) : ∃ b : Bool, cs[k]? = some (.bool b) := by
  obtain ⟨x0, e, _⟩ := DataW.trod_bool hT h
  exact ⟨x0, at_of e⟩
theorem leaf_r {E : TypeId} (hT : P.underlying T = some (.slice E)) (h : DataW.trod enc P W base spare held n T ((cs.drop k).take 1) = some y) : OneC cs k := by
  rcases DataW.trod_slice hT h with ⟨e, _⟩ | ⟨a, l, c, _, _, _, _, e, _⟩
  · exact ⟨_, at_of e, rfl⟩
  · exact ⟨_, at_of e, rfl⟩
end
section
variable {H : Type} {enc : TypeId × Value → H} {W : World} {base : Nat} {spare : Nat → Bool} {held : Bool}
theorem unit_of (n : Nat) (cs : List Value) (y : DataW H × List MemPlace) (h : DataW.trod enc Tryz.prog W base spare held n 51 cs = some y) :
    (∀ k, k < 35 → OneC cs k) ∧ (∃ s : Tx, cs[0]? = some (.string (str s)) ∧ s.length ≤ maxLen) ∧ (∃ i : Int, cs[1]? = some (.int .i64 i)) ∧ (∃ b : Bool, cs[3]? = some (.bool b)) ∧
      (∃ l : List (Int × Tx), RowC rlLay W W.heap.size cs[4]? l ∧ l.length ≤ Rows.uptoBulk y.1 ∧ ∀ x ∈ l, x.2.length ≤ maxLen) ∧
      (∃ l : List Tx, RowC txLay W W.heap.size cs[20]? l ∧ l.length ≤ Rows.uptoBulk y.1 ∧ ∀ x ∈ l, x.length ≤ maxLen) ∧ (∃ s : Tx, cs[24]? = some (.string (str s)) ∧ s.length ≤ maxLen) := by
  obtain ⟨xs, m, _, hx, _, hl, hg⟩ := DataW.trod_struct Tryz.underlying51 h
  have hl35 : xs.length = 35 := hl
  have hk : ∀ i, i < 35 → ∃ z, xs[i]? = some z := fun i hi => ⟨_, List.getElem?_eq_getElem (by omega)⟩
  obtain ⟨z0, e0⟩ := hk 0 (by omega)
  have g0 := read_at hg 0 0 9 _ rfl rfl rfl (show Tryz.prog.cellsOf 9 = 1 by kernel_rfl) e0
  have p0 := leaf_s Tryz.underlying9 g0
  have q0 : OneC cs 0 := by obtain ⟨_, u, _⟩ := p0; exact ⟨_, u, rfl⟩
  obtain ⟨z1, e1⟩ := hk 1 (by omega)
  have g1 := read_at hg 1 1 3 _ rfl rfl rfl (show Tryz.prog.cellsOf 3 = 1 by kernel_rfl) e1
  have p1 := leaf_i Tryz.underlying3 g1
  have q1 : OneC cs 1 := by obtain ⟨_, u⟩ := p1; exact ⟨_, u, rfl⟩
  obtain ⟨z2, e2⟩ := hk 2 (by omega)
  have g2 := read_at hg 2 2 9 _ rfl rfl rfl (show Tryz.prog.cellsOf 9 = 1 by kernel_rfl) e2
  have p2 := leaf_s Tryz.underlying9 g2
  have q2 : OneC cs 2 := by obtain ⟨_, u, _⟩ := p2; exact ⟨_, u, rfl⟩
  obtain ⟨z3, e3⟩ := hk 3 (by omega)
  have g3 := read_at hg 3 3 4 _ rfl rfl rfl (show Tryz.prog.cellsOf 4 = 1 by kernel_rfl) e3
  have p3 := leaf_b Tryz.underlying4 g3
  have q3 : OneC cs 3 := by obtain ⟨_, u⟩ := p3; exact ⟨_, u, rfl⟩
  obtain ⟨z4, e4⟩ := hk 4 (by omega)
  have g4 := read_at hg 4 4 46 _ rfl rfl rfl (show Tryz.prog.cellsOf 46 = 1 by kernel_rfl) e4
  have q4 : OneC cs 4 := leaf_r Tryz.underlying46 g4
  obtain ⟨z5, e5⟩ := hk 5 (by omega)
  have g5 := read_at hg 5 5 3 _ rfl rfl rfl (show Tryz.prog.cellsOf 3 = 1 by kernel_rfl) e5
  have p5 := leaf_i Tryz.underlying3 g5
  have q5 : OneC cs 5 := by obtain ⟨_, u⟩ := p5; exact ⟨_, u, rfl⟩
  obtain ⟨z6, e6⟩ := hk 6 (by omega)
  have g6 := read_at hg 6 6 3 _ rfl rfl rfl (show Tryz.prog.cellsOf 3 = 1 by kernel_rfl) e6
  have p6 := leaf_i Tryz.underlying3 g6
  have q6 : OneC cs 6 := by obtain ⟨_, u⟩ := p6; exact ⟨_, u, rfl⟩
  obtain ⟨z7, e7⟩ := hk 7 (by omega)
  have g7 := read_at hg 7 7 3 _ rfl rfl rfl (show Tryz.prog.cellsOf 3 = 1 by kernel_rfl) e7
  have p7 := leaf_i Tryz.underlying3 g7
  have q7 : OneC cs 7 := by obtain ⟨_, u⟩ := p7; exact ⟨_, u, rfl⟩
  obtain ⟨z8, e8⟩ := hk 8 (by omega)
  have g8 := read_at hg 8 8 47 _ rfl rfl rfl (show Tryz.prog.cellsOf 47 = 1 by kernel_rfl) e8
  have q8 : OneC cs 8 := leaf_r Tryz.underlying47 g8
  obtain ⟨z9, e9⟩ := hk 9 (by omega)
  have g9 := read_at hg 9 9 47 _ rfl rfl rfl (show Tryz.prog.cellsOf 47 = 1 by kernel_rfl) e9
  have q9 : OneC cs 9 := leaf_r Tryz.underlying47 g9
  obtain ⟨z10, e10⟩ := hk 10 (by omega)
  have g10 := read_at hg 10 10 47 _ rfl rfl rfl (show Tryz.prog.cellsOf 47 = 1 by kernel_rfl) e10
  have q10 : OneC cs 10 := leaf_r Tryz.underlying47 g10
  obtain ⟨z11, e11⟩ := hk 11 (by omega)
  have g11 := read_at hg 11 11 47 _ rfl rfl rfl (show Tryz.prog.cellsOf 47 = 1 by kernel_rfl) e11
  have q11 : OneC cs 11 := leaf_r Tryz.underlying47 g11
  obtain ⟨z12, e12⟩ := hk 12 (by omega)
  have g12 := read_at hg 12 12 47 _ rfl rfl rfl (show Tryz.prog.cellsOf 47 = 1 by kernel_rfl) e12
  have q12 : OneC cs 12 := leaf_r Tryz.underlying47 g12
  obtain ⟨z13, e13⟩ := hk 13 (by omega)
  have g13 := read_at hg 13 13 4 _ rfl rfl rfl (show Tryz.prog.cellsOf 4 = 1 by kernel_rfl) e13
  have p13 := leaf_b Tryz.underlying4 g13
  have q13 : OneC cs 13 := by obtain ⟨_, u⟩ := p13; exact ⟨_, u, rfl⟩
  obtain ⟨z14, e14⟩ := hk 14 (by omega)
  have g14 := read_at hg 14 14 3 _ rfl rfl rfl (show Tryz.prog.cellsOf 3 = 1 by kernel_rfl) e14
  have p14 := leaf_i Tryz.underlying3 g14
  have q14 : OneC cs 14 := by obtain ⟨_, u⟩ := p14; exact ⟨_, u, rfl⟩
  obtain ⟨z15, e15⟩ := hk 15 (by omega)
  have g15 := read_at hg 15 15 3 _ rfl rfl rfl (show Tryz.prog.cellsOf 3 = 1 by kernel_rfl) e15
  have p15 := leaf_i Tryz.underlying3 g15
  have q15 : OneC cs 15 := by obtain ⟨_, u⟩ := p15; exact ⟨_, u, rfl⟩
  obtain ⟨z16, e16⟩ := hk 16 (by omega)
  have g16 := read_at hg 16 16 3 _ rfl rfl rfl (show Tryz.prog.cellsOf 3 = 1 by kernel_rfl) e16
  have p16 := leaf_i Tryz.underlying3 g16
  have q16 : OneC cs 16 := by obtain ⟨_, u⟩ := p16; exact ⟨_, u, rfl⟩
  obtain ⟨z17, e17⟩ := hk 17 (by omega)
  have g17 := read_at hg 17 17 3 _ rfl rfl rfl (show Tryz.prog.cellsOf 3 = 1 by kernel_rfl) e17
  have p17 := leaf_i Tryz.underlying3 g17
  have q17 : OneC cs 17 := by obtain ⟨_, u⟩ := p17; exact ⟨_, u, rfl⟩
  obtain ⟨z18, e18⟩ := hk 18 (by omega)
  have g18 := read_at hg 18 18 48 _ rfl rfl rfl (show Tryz.prog.cellsOf 48 = 1 by kernel_rfl) e18
  have q18 : OneC cs 18 := leaf_r Tryz.underlying48 g18
  obtain ⟨z19, e19⟩ := hk 19 (by omega)
  have g19 := read_at hg 19 19 49 _ rfl rfl rfl (show Tryz.prog.cellsOf 49 = 1 by kernel_rfl) e19
  have q19 : OneC cs 19 := leaf_r Tryz.underlying49 g19
  obtain ⟨z20, e20⟩ := hk 20 (by omega)
  have g20 := read_at hg 20 20 37 _ rfl rfl rfl (show Tryz.prog.cellsOf 37 = 1 by kernel_rfl) e20
  have q20 : OneC cs 20 := leaf_r Tryz.underlying37 g20
  obtain ⟨z21, e21⟩ := hk 21 (by omega)
  have g21 := read_at hg 21 21 48 _ rfl rfl rfl (show Tryz.prog.cellsOf 48 = 1 by kernel_rfl) e21
  have q21 : OneC cs 21 := leaf_r Tryz.underlying48 g21
  obtain ⟨z22, e22⟩ := hk 22 (by omega)
  have g22 := read_at hg 22 22 3 _ rfl rfl rfl (show Tryz.prog.cellsOf 3 = 1 by kernel_rfl) e22
  have p22 := leaf_i Tryz.underlying3 g22
  have q22 : OneC cs 22 := by obtain ⟨_, u⟩ := p22; exact ⟨_, u, rfl⟩
  obtain ⟨z23, e23⟩ := hk 23 (by omega)
  have g23 := read_at hg 23 23 9 _ rfl rfl rfl (show Tryz.prog.cellsOf 9 = 1 by kernel_rfl) e23
  have p23 := leaf_s Tryz.underlying9 g23
  have q23 : OneC cs 23 := by obtain ⟨_, u, _⟩ := p23; exact ⟨_, u, rfl⟩
  obtain ⟨z24, e24⟩ := hk 24 (by omega)
  have g24 := read_at hg 24 24 9 _ rfl rfl rfl (show Tryz.prog.cellsOf 9 = 1 by kernel_rfl) e24
  have p24 := leaf_s Tryz.underlying9 g24
  have q24 : OneC cs 24 := by obtain ⟨_, u, _⟩ := p24; exact ⟨_, u, rfl⟩
  obtain ⟨z25, e25⟩ := hk 25 (by omega)
  have g25 := read_at hg 25 25 48 _ rfl rfl rfl (show Tryz.prog.cellsOf 48 = 1 by kernel_rfl) e25
  have q25 : OneC cs 25 := leaf_r Tryz.underlying48 g25
  obtain ⟨z26, e26⟩ := hk 26 (by omega)
  have g26 := read_at hg 26 26 48 _ rfl rfl rfl (show Tryz.prog.cellsOf 48 = 1 by kernel_rfl) e26
  have q26 : OneC cs 26 := leaf_r Tryz.underlying48 g26
  obtain ⟨z27, e27⟩ := hk 27 (by omega)
  have g27 := read_at hg 27 27 48 _ rfl rfl rfl (show Tryz.prog.cellsOf 48 = 1 by kernel_rfl) e27
  have q27 : OneC cs 27 := leaf_r Tryz.underlying48 g27
  obtain ⟨z28, e28⟩ := hk 28 (by omega)
  have g28 := read_at hg 28 28 37 _ rfl rfl rfl (show Tryz.prog.cellsOf 37 = 1 by kernel_rfl) e28
  have q28 : OneC cs 28 := leaf_r Tryz.underlying37 g28
  obtain ⟨z29, e29⟩ := hk 29 (by omega)
  have g29 := read_at hg 29 29 4 _ rfl rfl rfl (show Tryz.prog.cellsOf 4 = 1 by kernel_rfl) e29
  have p29 := leaf_b Tryz.underlying4 g29
  have q29 : OneC cs 29 := by obtain ⟨_, u⟩ := p29; exact ⟨_, u, rfl⟩
  obtain ⟨z30, e30⟩ := hk 30 (by omega)
  have g30 := read_at hg 30 30 37 _ rfl rfl rfl (show Tryz.prog.cellsOf 37 = 1 by kernel_rfl) e30
  have q30 : OneC cs 30 := leaf_r Tryz.underlying37 g30
  obtain ⟨z31, e31⟩ := hk 31 (by omega)
  have g31 := read_at hg 31 31 37 _ rfl rfl rfl (show Tryz.prog.cellsOf 37 = 1 by kernel_rfl) e31
  have q31 : OneC cs 31 := leaf_r Tryz.underlying37 g31
  obtain ⟨z32, e32⟩ := hk 32 (by omega)
  have g32 := read_at hg 32 32 37 _ rfl rfl rfl (show Tryz.prog.cellsOf 37 = 1 by kernel_rfl) e32
  have q32 : OneC cs 32 := leaf_r Tryz.underlying37 g32
  obtain ⟨z33, e33⟩ := hk 33 (by omega)
  have g33 := read_at hg 33 33 37 _ rfl rfl rfl (show Tryz.prog.cellsOf 37 = 1 by kernel_rfl) e33
  have q33 : OneC cs 33 := leaf_r Tryz.underlying37 g33
  obtain ⟨z34, e34⟩ := hk 34 (by omega)
  have g34 := read_at hg 34 34 9 _ rfl rfl rfl (show Tryz.prog.cellsOf 9 = 1 by kernel_rfl) e34
  have p34 := leaf_s Tryz.underlying9 g34
  have q34 : OneC cs 34 := by obtain ⟨_, u, _⟩ := p34; exact ⟨_, u, rfl⟩
  refine ⟨fun k hk => ?_, ?_, p1, p3, ?_, ?_, ?_⟩
  · match k, hk with
    | 0, _ => exact q0
    | 1, _ => exact q1
    | 2, _ => exact q2
    | 3, _ => exact q3
    | 4, _ => exact q4
    | 5, _ => exact q5
    | 6, _ => exact q6
    | 7, _ => exact q7
    | 8, _ => exact q8
    | 9, _ => exact q9
    | 10, _ => exact q10
    | 11, _ => exact q11
    | 12, _ => exact q12
    | 13, _ => exact q13
    | 14, _ => exact q14
    | 15, _ => exact q15
    | 16, _ => exact q16
    | 17, _ => exact q17
    | 18, _ => exact q18
    | 19, _ => exact q19
    | 20, _ => exact q20
    | 21, _ => exact q21
    | 22, _ => exact q22
    | 23, _ => exact q23
    | 24, _ => exact q24
    | 25, _ => exact q25
    | 26, _ => exact q26
    | 27, _ => exact q27
    | 28, _ => exact q28
    | 29, _ => exact q29
    | 30, _ => exact q30
    | 31, _ => exact q31
    | 32, _ => exact q32
    | 33, _ => exact q33
    | 34, _ => exact q34
    | k + 35, hk => omega
  · obtain ⟨s, a, b, _⟩ := p0
    exact ⟨s, a, b⟩
  · obtain ⟨A, len, c, l, e, a1, a2, a3, a4, a5⟩ := open_rels g4
    obtain rfl : len = l.length := a3.1.symm
    refine ⟨l, ⟨A, c, at_of e, a1, a2, a3⟩, ?_, a5⟩
    have := bulk_memG (x := z4.1) (l := xs.map (·.1)) (List.mem_map.2 ⟨z4, List.mem_of_getElem? e4, rfl⟩)
    rw [hx]
    simp only [Rows.uptoBulk]
    omega
  · obtain ⟨A, len, c, l, e, a1, a2, a3, a4, a5⟩ := open_texts g20
    obtain rfl : len = l.length := a3.1.symm
    refine ⟨l, ⟨A, c, at_of e, a1, a2, a3⟩, ?_, a5⟩
    have := bulk_memG (x := z20.1) (l := xs.map (·.1)) (List.mem_map.2 ⟨z20, List.mem_of_getElem? e20, rfl⟩)
    rw [hx]
    simp only [Rows.uptoBulk]
    omega
  · obtain ⟨s, a, b, _⟩ := p24
    exact ⟨s, a, b⟩
theorem fault_of (n : Nat) (cs : List Value) (y : DataW H × List MemPlace) (h : DataW.trod enc Tryz.prog W base spare held n 45 cs = some y) : OneC cs 0 ∧ OneC cs 1 := by
  obtain ⟨xs, m, _, hx, _, hl, hg⟩ := DataW.trod_struct Tryz.underlying45 h
  have hl2 : xs.length = 2 := hl
  have hk : ∀ i, i < 2 → ∃ z, xs[i]? = some z := fun i hi => ⟨_, List.getElem?_eq_getElem (by omega)⟩
  obtain ⟨z0, e0⟩ := hk 0 (by omega)
  obtain ⟨z1, e1⟩ := hk 1 (by omega)
  have g0 := read_at hg 0 0 43 _ rfl rfl rfl (show Tryz.prog.cellsOf 43 = 1 by kernel_rfl) e0
  have g1 := read_at hg 1 1 3 _ rfl rfl rfl (show Tryz.prog.cellsOf 3 = 1 by kernel_rfl) e1
  obtain ⟨_, u, _⟩ := DataW.trod_int Tryz.underlying43 g0
  obtain ⟨_, u1⟩ := leaf_i Tryz.underlying3 g1
  exact ⟨⟨_, at_of u, rfl⟩, ⟨_, u1, rfl⟩⟩
theorem part_at {cs : List Value} {p q k : Nat} (h : k < q) : ((cs.drop p).take q)[k]? = cs[p + k]? := by
  rw [List.getElem?_take, if_pos h, List.getElem?_drop]
theorem OneC.of {cs : List Value} {p q k : Nat} (h : k < q) (h1 : OneC ((cs.drop p).take q) k) : OneC cs (p + k) := by
  obtain ⟨u, a, b⟩ := h1
  exact ⟨u, by rw [← part_at h]; exact a, b⟩
structure GoodLd (W : World) (r : LdR) (d : DataW H) : Prop where
  is : LdIs W W.heap.size r
  n : r.x.n.length ≤ maxLen
  un : r.x.un.length ≤ maxLen
  rels : ∀ q ∈ r.x.rels, q.2.length ≤ maxLen
  wants : ∀ t ∈ r.x.wants, t.length ≤ maxLen
  reqs : ∀ t ∈ r.x.reqs, t.length ≤ maxLen
  rows : r.x.rels.length + r.x.wants.length + r.x.reqs.length ≤ Rows.uptoBulk d
  one : 1 ≤ Rows.uptoBulk d
  socks : r.x.socks.length ≤ Rows.uptoBulk d
  stx : ∀ t ∈ r.x.socks, t.length ≤ maxLen
theorem ld_of (n : Nat) (cs : List Value) (y : DataW H × List MemPlace) (hlen : cs.length = 42) (h : DataW.trod enc Tryz.prog W base spare held n 53 cs = some y) : ∃ r : LdR, cs = ldLay.cs r ∧ GoodLd W r y.1 := by
  obtain ⟨xs, m, _, hx, _, hl, hg⟩ := DataW.trod_struct Tryz.underlying53 h
  match xs, hl with
  | [z0, z1, z2, z3, z4, z5, z6], _ =>
    have g0 := read_at hg 0 0 9 _ rfl rfl rfl (show Tryz.prog.cellsOf 9 = 1 by kernel_rfl) rfl
    have g1 := read_at hg 1 1 3 _ rfl rfl rfl (show Tryz.prog.cellsOf 3 = 1 by kernel_rfl) rfl
    have g2 := read_at hg 2 2 9 _ rfl rfl rfl (show Tryz.prog.cellsOf 9 = 1 by kernel_rfl) rfl
    have g3 := read_in hg 3 3 2 45 _ rfl rfl rfl (show Tryz.prog.cellsOf 45 = 2 by kernel_rfl) rfl
    have g4 := read_in hg 4 5 35 51 _ rfl rfl rfl (show Tryz.prog.cellsOf 51 = 35 by kernel_rfl) rfl
    have g5 := read_at hg 5 40 37 _ rfl rfl rfl (show Tryz.prog.cellsOf 37 = 1 by kernel_rfl) rfl
    have g6 := read_at hg 6 41 37 _ rfl rfl rfl (show Tryz.prog.cellsOf 37 = 1 by kernel_rfl) rfl
    obtain ⟨nm, n1, n2, _⟩ := leaf_s Tryz.underlying9 g0
    obtain ⟨st, s1⟩ := leaf_i Tryz.underlying3 g1
    obtain ⟨pt, p1, _, _⟩ := leaf_s Tryz.underlying9 g2
    obtain ⟨f0, f1⟩ := fault_of _ _ _ g3
    obtain ⟨uo, ⟨un, u1, u2⟩, ⟨uk, k1⟩, ⟨df, d1⟩, ⟨rl, r1, r2, r3⟩, ⟨so, o1, o2, o3⟩, ⟨wk, w1, w2⟩⟩ := unit_of _ _ _ g4
    obtain ⟨WA, wl, wc, ws, we, b1, b2, b3, b4, b5⟩ := open_texts g5
    obtain ⟨QA, ql, qc, qs, qe, c1, c2, c3, c4, c5⟩ := open_texts g6
    obtain rfl : wl = ws.length := b3.1.symm
    obtain rfl : ql = qs.length := c3.1.symm
    rw [part_at (by omega)] at u1 k1 d1 r1 o1 w1
    have hone : ∀ k, k < 42 → OneC cs k := fun k hk => by
      rcases Nat.lt_or_ge k 5 with h5 | h5
      · match k, h5 with
        | 0, _ => exact ⟨_, n1, rfl⟩
        | 1, _ => exact ⟨_, s1, rfl⟩
        | 2, _ => exact ⟨_, p1, rfl⟩
        | 3, _ => exact f0.of (p := 3) (by omega)
        | 4, _ => exact f1.of (p := 3) (by omega)
        | k + 5, h5 => omega
      · rcases Nat.lt_or_ge k 40 with h40 | h40
        · obtain ⟨j, rfl⟩ : ∃ j, k = 5 + j := ⟨k - 5, by omega⟩
          exact (uo j (by omega)).of (p := 5) (by omega)
        · obtain rfl | rfl : k = 40 ∨ k = 41 := by omega
          · exact ⟨_, at_of we, rfl⟩
          · exact ⟨_, at_of qe, rfl⟩
    refine ⟨⟨cs.toArray, { n := nm, s := st, un := un, uk := uk, dflt := df, rels := rl, socks := so, wk := wakeT uk wk un, wants := ws, reqs := qs }, by simpa using hlen, fun u hu => ?_⟩, by simp [ldLay], ?_⟩
    · obtain ⟨k, hk⟩ := List.mem_iff_getElem?.1 hu
      have hk2 : k < 42 := by
        rcases Nat.lt_or_ge k 42 with h' | h'
        · exact h'
        · rw [List.getElem?_eq_none (by simpa [hlen] using h')] at hk; cases hk
      obtain ⟨v, a, b⟩ := hone k hk2
      have : some u = some v := by rw [← a, ← hk]
      cases this
      exact b
    · refine ⟨⟨by simpa using n1, by simpa using s1, by simpa using u1, by simpa using k1, by simpa using d1, by simpa using r1, by simpa using o1, ⟨wk, by simpa using w1, rfl⟩, ⟨WA, wc, by simpa using at_of we, b1, b2, b3⟩, ⟨QA, qc, by simpa using at_of qe, c1, c2, c3⟩⟩, n2, u2, r3, b5, c5, ?_, ?_, ?_, o3⟩
      · rw [hx]
        simp only [List.map_cons, List.map_nil, Rows.uptoBulk, Rows.uptoBulkAll]
        show rl.length + ws.length + qs.length ≤ _
        omega
      · rw [hx]
        simp only [List.map_cons, List.map_nil, Rows.uptoBulk, Rows.uptoBulkAll]
        omega
      · rw [hx]
        simp only [List.map_cons, List.map_nil, Rows.uptoBulk, Rows.uptoBulkAll]
        show so.length ≤ _
        omega
theorem open_loads {n : Nat} {cs : List Value} {y : DataW H × List MemPlace} (h : DataW.trod enc Tryz.prog W base spare held n 22 cs = some y) :
    ∃ (A : Option Addr) (len c : Nat) (L : List LdR), cs = [.slice A len c] ∧ len ≤ c ∧ (A = none → c = 0) ∧ LdsAt W W.heap.size A len L ∧ len ≤ Rows.uptoBulk y.1 ∧ ∀ r ∈ L, ∃ d, GoodLd (H := H) W r d ∧ Rows.uptoBulk d ≤ Rows.uptoBulk y.1 := by
  obtain ⟨A, len, c, l, e0, a1, a2, a3, a4, a5⟩ := open_rows ldLay ⟨(List.replicate 42 (.int .i64 0)).toArray, { n := [], s := 0, un := [], uk := 0, dflt := false, rels := [], socks := [], wk := [], wants := [], reqs := [] }, by simp, by decide⟩ Tryz.underlying22 (by kernel_rfl) (GoodLd W) ld_of (fun _ _ h => h.one) h
  exact ⟨A, len, c, l, e0, a1, a2, ⟨a3, fun r hr => by obtain ⟨d, hd, _⟩ := a5 r hr; exact hd.is⟩, a4, a5⟩
end
end Go.Proofs.YtcoepioahabbdaaGreat
namespace Go.Proofs.YtcoepioahabbdaaGreat
open Go.RowKit Go.Joins Go.ChangeShapes Go.WideShapes Go.ChangeAt Go.Deep
open Go.ChangeMaps (open_string shut_string)
section
variable {H : Type} {enc : TypeId × Value → H} {W : World} {base : Nat} {spare : Nat → Bool} {held : Bool}
set_option maxRecDepth 100000 in
theorem open_loads_upto {v : Value} {d : DataW H} {p : List MemPlace} {b0 : Nat} (hv : Value.okWide Tryz.prog W .any b0 22 v) (h : DataW.Trod enc Tryz.prog W 0 (fun _ => true) true 22 v d p) :
    ∃ (A : Option Addr) (n c : Nat) (L : List LdR), v = .slice A n c ∧ n ≤ c ∧ LdsAt W W.heap.size A n L ∧ (A = none → c = 0) ∧ n ≤ Rows.uptoBulk d ∧ (Rows.uptoBulk d ≤ 1048576 → ∀ r ∈ L, Small r.x) := by
  obtain ⟨a0, len0, cap0, rfl⟩ := okWide_slice Tryz.underlying22 hv
  obtain ⟨fuel, hf⟩ := h
  obtain ⟨A, n, c, L, e, h1, h2, h3, h4, h5⟩ := open_loads hf
  simp [Value.cells] at e
  obtain ⟨rfl, rfl, rfl⟩ := e
  refine ⟨_, _, _, L, rfl, h1, h3, h2, h4, fun hb r hr => ?_⟩
  obtain ⟨q, g, hq⟩ := h5 r hr
  have := g.rows
  simp only at hq
  have := g.socks
  exact ⟨g.n, g.un, g.rels, g.wants, g.reqs, by omega, by omega, g.stx⟩
set_option maxRecDepth 100000 in
theorem shut_loads {W' : World} {v : Value} {d : DataW H} {ps : List MemPlace} {sp : Nat → Bool} (h : DataW.Trod enc Tryz.prog W 0 (fun _ => true) true 22 v d ps) (hb : Below W.heap.size W W') (hlt : ∀ p ∈ ps, p.block < W.heap.size) (hs : ∀ p ∈ ps, sp p.block = true) :
    DataW.Trod enc Tryz.prog W' 0 sp true 22 v d ps :=
  WideElems.Trod_stays (by kernel_rfl) (by kernel_rfl) (of_decide_eq_true (by kernel_rfl)) h (same_belowG hb hlt) hs
set_option maxRecDepth 100000 in
theorem open_graph_upto {v : Value} {d : DataW H} {p : List MemPlace} {b0 : Nat} (hv : Value.okWide Tryz.prog W .any b0 29 v) (h : DataW.Trod enc Tryz.prog W 0 (fun _ => true) true 29 v d p) :
    ∃ (g : Array Value) (ns : List Nd) (es : List Ed), v = .agg g ∧ GrAt W W.heap.size g ns es ∧ ns.length + es.length ≤ Rows.uptoBulk d ∧ (∀ x ∈ ns, x.n.length ≤ maxLen) ∧ (∀ x ∈ es, x.f.length ≤ maxLen ∧ x.t.length ≤ maxLen) := by
  obtain ⟨g, rfl, hg⟩ := okWide_struct Tryz.underlying29 hv
  obtain ⟨fuel, hf⟩ := h
  have hl : (Value.cells (.agg g)).toList.length = 2 := by
    obtain ⟨_, _, _, _, hlc, _⟩ := DataW.trod_struct Tryz.underlying29 hf
    rw [hlc]; kernel_rfl
  obtain ⟨NA, EA, nn, nc, en, ec, ns, es, e, a1, b1, a2, b2, a3, b3, h4, h5, h6⟩ := open_graph hl hf
  have hgg : g = #[.slice NA nn nc, .slice EA en ec] := by
    have e2 : g.toList = [.slice NA nn nc, .slice EA en ec] := e
    rw [← Array.toArray_toList (xs := g), e2]
  subst hgg
  obtain rfl : nn = ns.length := a3.1.symm
  obtain rfl : en = es.length := b3.1.symm
  exact ⟨_, ns, es, rfl, ⟨NA, nc, EA, ec, rfl, a1, b1, a2, b2, a3, b3⟩, h4, h5, h6⟩
set_option maxRecDepth 100000 in
theorem shut_graph {W' : World} {v : Value} {d : DataW H} {ps : List MemPlace} {sp : Nat → Bool} (h : DataW.Trod enc Tryz.prog W 0 (fun _ => true) true 29 v d ps) (hb : Below W.heap.size W W') (hlt : ∀ p ∈ ps, p.block < W.heap.size) (hs : ∀ p ∈ ps, sp p.block = true) :
    DataW.Trod enc Tryz.prog W' 0 sp true 29 v d ps :=
  WideElems.Trod_stays (by kernel_rfl) (by kernel_rfl) (of_decide_eq_true (by kernel_rfl)) h (same_belowG hb hlt) hs
end
set_option maxRecDepth 100000 in
theorem post_below {H : Type} {enc : TypeId × Value → H} {P : Program} {f : Func} {s : ChangeSpec} {apart fresh handsOn again : Bool} {W W' : World} {args : Array Value} {v : Value} {ds gs : List (DataW H)} {before pa pv : List MemPlace}
    (hW : DataW.Whole enc P f.params.toList s.vars apart W args.toList ds gs before)
    (hres : ∀ (b : Nat) (sp : Nat → Bool) (hd : Bool), DataW.TrodAll enc P W' b sp hd f.resultTypes.toList (v.resultList f.resultTypes.size) (s.fn H (ds ++ gs)).results [])
    (hargs : ∀ sp : Nat → Bool, (∀ p ∈ before, sp p.block = true) → DataW.TrodAll enc P W' 0 sp true f.params.toList args.toList (s.fn H (ds ++ gs)).args pa)
    (hvars : ∀ sp : Nat → Bool, (∀ p ∈ before, sp p.block = true) → DataW.TrodVars enc P W' sp s.vars (s.fn H (ds ++ gs)).vars pv)
    (hps : before = pa ++ pv) (hb : Below W.heap.size W W')
    (hok : ∀ (j : Nat) (t : TypeId) (r : Value), f.resultTypes[j]? = some t → (v.resultList f.resultTypes.size)[j]? = some r → Value.okWide P W' .any 0 t r) :
    s.post enc P f apart fresh handsOn again W args v W' := by
  have hlt : ∀ p ∈ before, p.block < W.heap.size := fun p hp => hW.lt p hp
  have hold : ∀ p ∈ before, (fun b => decide (b < W.heap.size)) p.block = true := fun p hp => by simpa using hlt p hp
  refine ⟨ds, gs, before, [], pa, pv, hW, hres _ _ _, hargs _ hold, hvars _ hold, World.keptBut_mono (fun p hp => ⟨hp, ?_⟩) (hb.frame (· ∈ before)), fun _ => ?_⟩
  · rw [hps, List.mem_append] at hp
    exact Or.inr hp
  · obtain ⟨_, _, _, _, _, hz, hn⟩ := hW
    refine ⟨hok, _, _, ([] ++ pa) ++ pv, ⟨[] ++ pa, pv, trodAll_append (hargs _ (fun _ _ => rfl)) (hres _ _ _), hvars _ (fun _ _ => rfl), rfl, ?_, ?_⟩, ?_⟩
    · intro b off hp
      have hin : MemPlace.cell b off ∈ before := by rw [hps]; simpa using hp
      rw [hb.frozen (hlt _ hin)]
      exact hz b off hin
    · intro ha
      have := hn ha
      rw [hps] at this
      simpa using this
    · intro p hp _
      rw [hps]
      simpa using hp
end Go.Proofs.YtcoepioahabbdaaGreat
