/- Lines in memory; '==' of faults and of lines. The walks of the developers' named and Find. -/
import Derived.Test.YtadifolonbkamaaGreatDoorKfad
import Derived.Laws.StructEq
import Derived.BigQuiet
import Derived.Deep.QuietTactic
import Derived.Test.YtadifolonbkamaaGreatDoorKfag
import Derived.Great.BuildSlice
namespace Go.Proofs.YtadifolonbkamaaGreatDoor
open Go.RowKit
/-- One line's cells, all lines' cells. -/
def lnCells (x : Ln) : List Value := [.string (str x.s), .string (str x.k), .string (str x.v), .int .i64 x.n]
def lns (l : List Ln) : List Value := l.flatMap lnCells
theorem lns_length (l : List Ln) : (lns l).length = l.length * 4 := by
  induction l with
  | nil => rfl
  | cons x l ih =>
    have e : lns (x :: l) = lnCells x ++ lns l := by simp [lns]
    rw [e, List.length_append, ih, List.length_cons]
    simp only [lnCells, List.length_cons, List.length_nil]
    omega
theorem lineInfo : (Tryz.prog.info? 44).map (fun i => (i.zero, i.size, i.bytes)) = some (some (.agg #[.string ⟨#[]⟩, .string ⟨#[]⟩, .string ⟨#[]⟩, .int .i64 0]), 4, 56) := by kernel_rfl
theorem block_addW (a : Addr) (n : Nat) : (a.add n).block = a.block := by unfold Addr.add; split <;> rfl
/-- A row of lines. -/
def LnsAt (w : World) (B : Nat) (A : Option Addr) (n : Nat) (l : List Ln) : Prop :=
  l.length = n ∧ n ≤ maxLen ∧ (0 < n → ∃ ad, A = some ad ∧ ad.block < B ∧ ∀ j u, (lns l)[j]? = some u → w.cell? (ad.add j) = some u)
theorem LnsAt.none_ {w : World} {B : Nat} {A : Option Addr} : LnsAt w B A 0 [] := ⟨rfl, Nat.zero_le _, fun h => by omega⟩
theorem LnsAt.below {w w' : World} {B n : Nat} {A : Option Addr} {l : List Ln} (h : LnsAt w B A n l) (hb : Below B w w') : LnsAt w' B A n l :=
  ⟨h.1, h.2.1, fun hn => by
    obtain ⟨ad, e, hB, hc⟩ := h.2.2 hn
    exact ⟨ad, e, hB, fun j x hj => (hb.cell (by rw [block_addW]; exact hB)).trans (hc j x hj)⟩⟩
theorem LnsAt.wide {w : World} {B B' n : Nat} {A : Option Addr} {l : List Ln} (h : LnsAt w B A n l) (hB : B ≤ B') : LnsAt w B' A n l :=
  ⟨h.1, h.2.1, fun hn => by
    obtain ⟨ad, e, h2, hc⟩ := h.2.2 hn
    exact ⟨ad, e, by omega, hc⟩⟩
theorem LnsAt.drewN {w : World} {B n : Nat} {A : Option Addr} {l : List Ln} (h : LnsAt w B A n l) (j : Nat) : LnsAt (w.drewN j) B A n l := h
theorem lnsAt_of_own {w : World} {base n nv cv : Nat} {A : Option Addr} {l : List Ln} (h : w.ownsRow base 44 4 (.slice A nv cv) n (lns l)) (hl : l.length = n) (hn : n ≤ maxLen) : nv = n ∧ LnsAt w w.heap.size A n l := by
  rcases h.2 with ⟨h1, h2⟩ | ⟨g, cap, cur, h1, h2, h3, h4, h5, h6, h7⟩
  · injection h1 with h1 h11 h12
    subst h2
    exact ⟨h11, hl, Nat.zero_le _, fun h => by omega⟩
  · injection h1 with h1 h11 h12
    subst h1 h11 h12
    exact ⟨rfl, hl, hn, fun _ => ⟨_, rfl, (Array.getElem?_eq_some_iff.1 h3).1, fun j x hj => h.cells (g := g) rfl j x hj⟩⟩
theorem add_step (ad : Addr) (i j : Nat) (w : World) (v : Value) (h : w.cell? (ad.add (i + j)) = some v) : w.cell? ((ad.add i).add j) = some v := by
  have : (ad.add i).add j = ad.add (i + j) := by
    unfold Addr.add
    by_cases hi : i = 0 <;> by_cases hj : j = 0 <;> simp [hi, hj, Nat.add_assoc]
  rw [this]; exact h
theorem lns_get (l : List Ln) (j : Nat) (x : Ln) (h : l[j]? = some x) (i : Nat) (hi : i < 4) : (lns l)[j * 4 + i]? = (lnCells x)[i]? := by
  induction l generalizing j with
  | nil => simp at h
  | cons y l ih =>
    have e : lns (y :: l) = lnCells y ++ lns l := by simp [lns]
    rw [e]
    cases j with
    | zero =>
      simp only [List.getElem?_cons_zero, Option.some.injEq] at h
      subst h
      rw [Nat.zero_mul, Nat.zero_add, List.getElem?_append_left (by show i < 4; exact hi)]
    | succ j =>
      rw [List.getElem?_cons_succ] at h
      rw [List.getElem?_append_right (by show 4 ≤ _; omega)]
      show (lns l)[(j + 1) * 4 + i - 4]? = _
      rw [show (j + 1) * 4 + i - 4 = j * 4 + i by omega]
      exact ih j h
/-- The four cells of a line. -/
def LnCell (w : World) (a : Addr) (x : Ln) : Prop :=
  w.cell? a = some (.string (str x.s)) ∧ w.cell? ⟨a.block, a.off + 1, none⟩ = some (.string (str x.k)) ∧ w.cell? ⟨a.block, a.off + 2, none⟩ = some (.string (str x.v)) ∧ w.cell? ⟨a.block, a.off + 3, none⟩ = some (.int .i64 x.n)
theorem LnsAt.at_ {w : World} {B n : Nat} {A : Option Addr} {l : List Ln} (h : LnsAt w B A n l) {k : Nat} (hk : k < n) :
    ∃ ad x, A = some ad ∧ ad.block < B ∧ l[k]? = some x ∧ LnCell w (ad.add (k * 4)) x := by
  obtain ⟨h1, _, h4⟩ := h
  obtain ⟨ad, e, hb, hc⟩ := h4 (by omega)
  have hl : k < l.length := by omega
  have hx := List.getElem?_eq_getElem hl
  have c0 := hc (k * 4 + 0) _ (lns_get l k _ hx 0 (by omega))
  have c1 := add_step ad (k * 4) 1 w _ (hc (k * 4 + 1) _ (lns_get l k _ hx 1 (by omega)))
  have c2 := add_step ad (k * 4) 2 w _ (hc (k * 4 + 2) _ (lns_get l k _ hx 2 (by omega)))
  have c3 := add_step ad (k * 4) 3 w _ (hc (k * 4 + 3) _ (lns_get l k _ hx 3 (by omega)))
  exact ⟨ad, l[k], e, hb, hx, c0, c1, c2, c3⟩
theorem LnCell.below {w w' : World} {B : Nat} {a : Addr} {x : Ln} (h : LnCell w a x) (hb : Below B w w') (ha : a.block < B) : LnCell w' a x := by
  obtain ⟨c0, c1, c2, c3⟩ := h
  exact ⟨(hb.cell ha).trans c0, (hb.cell (p := ⟨a.block, a.off + 1, none⟩) ha).trans c1, (hb.cell (p := ⟨a.block, a.off + 2, none⟩) ha).trans c2, (hb.cell (p := ⟨a.block, a.off + 3, none⟩) ha).trans c3⟩
theorem eq_fault (w : World) (d : Nat) (a b c e : Int) : (Op.eqFields (d + 1) #[.int .i64 a, .int .i64 b] #[.int .i64 c, .int .i64 e] (Tryz.prog.fieldsOf 37).toList).run Tryz.prog w = .ok (a == c && b == e) w := by
  generalize hg : (Tryz.prog.fieldsOf 37).toList = fs
  have hm : fs.map (fun f => (decide (f.name = "_"), f.type, f.offset)) = [(false, 32, 0), (false, 3, 1)] := by rw [← hg]; kernel_rfl
  clear hg
  rcases fs with _ | ⟨f0, _ | ⟨f1, _ | ⟨f2, fs⟩⟩⟩
  · simp at hm
  · simp at hm
  · simp only [List.map_cons, List.map_nil, List.cons.injEq, Prod.mk.injEq, decide_eq_false_iff_not, and_true] at hm
    obtain ⟨⟨n0, t0, o0⟩, n1, t1, o1⟩ := hm
    have p0 : ∀ w : World, (part 32 #[.int .i64 a, .int .i64 b] 0).run Tryz.prog w = .ok (.int .i64 a) w := fun w => by kernel_rfl
    have p1 : ∀ w : World, (part 32 #[.int .i64 c, .int .i64 e] 0).run Tryz.prog w = .ok (.int .i64 c) w := fun w => by kernel_rfl
    have q0 : ∀ w : World, (part 3 #[.int .i64 a, .int .i64 b] 1).run Tryz.prog w = .ok (.int .i64 b) w := fun w => by kernel_rfl
    have q1 : ∀ w : World, (part 3 #[.int .i64 c, .int .i64 e] 1).run Tryz.prog w = .ok (.int .i64 e) w := fun w => by kernel_rfl
    have r0 := fun w : World => run_equalIn_int (P := Tryz.prog) w d 32 .i64 _ a c Tryz.underlying32
    have r1 := fun w : World => run_equalIn_int (P := Tryz.prog) w d 3 .i64 _ b e Tryz.underlying3
    simp only [Op.eqFields, n0, n1, t0, t1, o0, o1, ne_eq, not_false_eq_true, if_true, Sem.run_bind, p0, p1, Result.andThen_ok]
    rw [r0]
    simp only [Result.andThen_ok]
    cases h : (a == c)
    · simp
    · simp only [Bool.not_true, Bool.false_eq_true, if_false, Sem.run_bind, q0, q1, Result.andThen_ok]
      rw [r1]
      cases h2 : (b == e) <;> simp
  · simp at hm
theorem run_eql_fault (w : World) (a b c d : Int) : (binOp .eql 37 (.agg #[.int .i64 a, .int .i64 b]) (.agg #[.int .i64 c, .int .i64 d])).run Tryz.prog w = .ok (.bool (a == c && b == d)) w := by
  rw [run_eql_struct, run_equalIn_struct (P := Tryz.prog) w 9999 37 _ _ (by kernel_rfl) (by kernel_rfl), eq_fault]
  rfl
end Go.Proofs.YtadifolonbkamaaGreatDoor
namespace Go.Proofs.YtadifolonbkamaaGreatDoor
open Go.RowKit
theorem Blk.row {w : World} {g : Nat} {t : TypeId} {cs : Array Value} (h : Blk w g t cs) (cs' : Array Value) : Blk (w.setRow g cs') g t cs' := setRow_heap w g cs cs' t (0, 0) h
theorem heap_row_other (w : World) (F : Nat) (cs : Array Value) (i : Nat) (h : i ≠ F) : (w.setRow F cs).heap[i]? = w.heap[i]? := by
  unfold World.setRow
  simp only [Array.getElem?_modify]
  rw [if_neg (Ne.symm h)]
theorem size_row (w : World) (F : Nat) (cs : Array Value) : (w.setRow F cs).heap.size = w.heap.size := by simp [World.setRow]
theorem below_setRow {B : Nat} {a w : World} (h : Below B a w) {g : Nat} (hg : B ≤ g) (cs : Array Value) : Below B a (w.setRow g cs) :=
  ⟨h.os, h.tape, h.output, by rw [size_row]; exact h.size, fun i hi => by rw [heap_row_other w g cs i (by omega)]; exact h.block i hi⟩
theorem results_cell_tmp {P : Program} {fn : Func} {p q : Tmp} {ty : TypeId} (h : fn.results = #[.cell p ty, .tmp q]) (tmps : Array Value) (w : World) (g : Nat) (t : TypeId) (cs : Array Value) (d : TypeDesc) (v : Value)
    (hp : tmps.getD p undef = .pointer (some ⟨g, 0, none⟩)) (hv : tmps.getD q undef = v) (hg : w.heap[g]? = some (.cells cs t (0, 0)))
    (hu : P.underlying ty = some d) (hd : (match d with | .struct _ | .array _ _ => true | _ => false) = true) (hi : (P.info? ty).map (·.size) = some cs.size) :
    (results fn tmps).run P w = .ok (.tuple #[.agg cs, v]) w := by
  have hp' : tmps[p]?.getD undef = .pointer (some ⟨g, 0, none⟩) := by simpa using hp
  have hv' : tmps[q]?.getD undef = v := by simpa using hv
  simp [results, h, hp', hv', asAddr, run_loadVar_row w g t ty cs (0, 0) d hg hu hd hi]
/-- The cells of a key. -/
def krA (r : Kr) : Array Value := #[.string (str r.s), .string (str r.n), .int .i64 r.f, .bool r.l, .int .i64 r.k, .slice r.A r.m r.c]
theorem krA_all (r : Kr) : (krA r).all (·.oneCell') = true := by simp [krA, Value.oneCell']
def noKr : Kr := noKy.raw
theorem noKr_is {w : World} {B : Nat} : noKr.is w B noKy := ⟨rfl, rfl, rfl, rfl, rfl, RowS.none_⟩
/-- What named gives. -/
def NamedP (o : Option Ky) (w : World) (e : Ending) (w' : World) : Prop :=
  ∃ r : Kr, e = .returned (.tuple #[.agg (krA r), .bool o.isSome]) ∧ r.is w' w'.heap.size (o.getD noKy) ∧ Below w.heap.size w w'
theorem named_take {l : List Ky} {n : List UInt8} {k : Nat} {x : Ky} (h : namedT (l.take k) n = none) (hx : l[k]? = some x) : (x.n = n → namedT l n = some x) ∧ (¬ x.n = n → namedT (l.take (k + 1)) n = none) := by
  have hk : k < l.length := by
    rcases Nat.lt_or_ge k l.length with h' | h'
    · exact h'
    · rw [List.getElem?_eq_none h'] at hx; cases hx
  have he : l[k] = x := by rw [List.getElem?_eq_getElem hk] at hx; exact Option.some.inj hx
  unfold namedT at *
  constructor
  · intro e
    conv => lhs; rw [← List.take_append_drop k l]
    rw [List.find?_append, h, List.drop_eq_getElem_cons hk, he, List.find?_cons]
    simp [e]
  · intro e
    rw [List.take_succ_eq_append_getElem hk, he, List.find?_append, h]
    simp [e]
set_option maxHeartbeats 8000000 in
theorem named_any (A : Option Addr) (n c B : Nat) (l : List Ky) (nm : ByteArray) (w : World) (h : KysAt w B A n l) (hB : B ≤ w.heap.size) :
    Calls Tryz.prog 26 #[.slice A n c, .string nm] w (NamedP (namedT l nm.data.toList) w) := by
  have hm := h.2.1
  unfold maxLen at hm
  have hl := h.1
  have HL := Lib.hid h
  clear h
  have HR0 : Hid (Blk (w.alloc (.cells #[.string ⟨#[]⟩, .string ⟨#[]⟩, .int .i64 0, .bool false, .int .i64 0, .slice none 0 0] 28)) w.heap.size 28 (krA noKr)) := Blk.new w _ _
  have HB0 : Hid (Below w.heap.size w (w.alloc (.cells #[.string ⟨#[]⟩, .string ⟨#[]⟩, .int .i64 0, .bool false, .int .i64 0, .slice none 0 0] 28))) := (Below.refl _ w).alloc (Nat.le_refl _) _
  have HN0 : Hid (namedT (l.take 0) nm.data.toList = none) := rfl
  go_enter Tryz.func26, Tryz.ntmps26
  go_wp2_with fail
  generalize w.alloc (.cells #[.string ⟨#[]⟩, .string ⟨#[]⟩, .int .i64 0, .bool false, .int .i64 0, .slice none 0 0] 28) = w0 at *
  go_loopw [10] (fun i wr => ∃ k : Nat, k ≤ n ∧ i = .int .i64 k ∧ Hid (Below w.heap.size w wr) ∧ Hid (Blk wr w.heap.size 28 (krA noKr)) ∧ Hid (namedT (l.take k) nm.data.toList = none)) (fun i wr => n - (intOf i).toNat)
  case atStart => exact ⟨0, Nat.zero_le _, rfl, HB0, HR0, HN0⟩
  case round =>
    obtain ⟨k, hk, rfl, hb, hR, hN⟩ := hrel
    have hRl : w.heap.size < wr.heap.size := hR.out.lt
    by_cases hlt : k < n
    · have b0 : (0 : Int) ≤ (k : Int) := by omega
      have b1 : (k : Int) < (n : Int) := by omega
      obtain ⟨ad, r, x, rfl, hab, hx, hr, q0, q1, q2, q3, q4, q5⟩ := (HL.out.below (hb.out.mono hB)).at_ hlt
      have z1 : (ad.add (k * 6)).block < wr.heap.size := by rw [block_addR]; omega
      have HX := Lib.hid hr
      obtain ⟨n1, n2⟩ := named_take hN.out hx
      have hq : ((str r.n).toList == nm.toList) = decide (x.n = nm.data.toList) := by
        rw [Lib.toList_data, Lib.toList_data, str_list, hr.2.1, Bool.eq_iff_iff, decide_eq_true_eq, beq_iff_eq]
      clear hr
      by_cases hxn : x.n = nm.data.toList
      · have HF := Lib.hid (n1 hxn)
        rw [decide_eq_true hxn] at hq
        clear hxn n1 n2 hx
        have HR1 : Hid (Blk (wr.alloc (.cells #[.string (str r.s), .string (str r.n), .int .i64 r.f, .bool r.l, .int .i64 r.k, .slice r.A r.m r.c] 28)) w.heap.size 28 (krA noKr)) := hR.out.alloc _
        have HB1 : Hid (Below w.heap.size w (wr.alloc (.cells #[.string (str r.s), .string (str r.n), .int .i64 r.f, .bool r.l, .int .i64 r.k, .slice r.A r.m r.c] 28))) := hb.out.alloc hb.out.size _
        have HX1 : Hid (r.is (wr.alloc (.cells #[.string (str r.s), .string (str r.n), .int .i64 r.f, .bool r.l, .int .i64 r.k, .slice r.A r.m r.c] 28)) B x) := HX.out.below (((Below.refl wr.heap.size wr).alloc (Nat.le_refl _) _).mono (by omega))
        go_wp2_with (refine wpList_store_row rfl 28 (.tmp 4) (.tmp 18) (by rfl) w.heap.size (krA r) (by rfl) (by rfl) 28 (krA noKr) HR1.out (by kernel_rfl) rfl (krA_all _) ?_)
        refine bodyPost_ret (results_cell_tmp (p := 4) (q := 5) rfl _ _ w.heap.size 28 (krA r) _ _ rfl rfl (Blk.row HR1.out _) Tryz.underlying28 rfl (by kernel_rfl)) rfl ⟨r, by rw [HF.out]; rfl, ?_, below_setRow HB1.out (Nat.le_refl _) _⟩
        rw [HF.out]
        refine (HX1.out.below (w' := (wr.alloc (.cells #[.string (str r.s), .string (str r.n), .int .i64 r.f, .bool r.l, .int .i64 r.k, .slice r.A r.m r.c] 28)).setRow w.heap.size (krA r)) (below_setRow (Below.refl _ _) hB _)).wide (by rw [size_row]; simp; omega)
      · have HF := Lib.hid (n2 hxn)
        rw [decide_eq_false hxn] at hq
        clear hxn n1 n2 hx HX
        go_wp2_with fail
        go_roundw
        case rel => exact ⟨k + 1, by omega, by go_num, hb.out.alloc hb.out.size _, hR.out.alloc _, HF⟩
        case measure => simp [intOf]; omega
    · obtain rfl : k = n := by omega
      have HF : Hid (namedT l nm.data.toList = none) := by
        have := hN.out
        rwa [List.take_of_length_le (by omega)] at this
      go_wp2_with (refine wpList_store_row rfl 28 (.tmp 4) (.tmp 20) (by rfl) w.heap.size (krA noKr) (by rfl) (by rfl) 28 (krA noKr) hR.out (by kernel_rfl) rfl (krA_all _) ?_)
      exact bodyPost_ret (results_cell_tmp (p := 4) (q := 5) rfl _ _ w.heap.size 28 (krA noKr) _ _ rfl rfl (Blk.row hR.out _) Tryz.underlying28 rfl (by kernel_rfl)) rfl ⟨noKr, by rw [HF.out]; rfl, by rw [HF.out]; exact noKr_is, below_setRow hb.out (Nat.le_refl _) _⟩
end Go.Proofs.YtadifolonbkamaaGreatDoor
