/- Lines in memory; '==' of faults and of lines. The walks of the developers' checkLine and Check, whatever Value says of e -/
import Derived.Test.YtadifolonbkamaaGreatDoorKcak
import Derived.Test.YtadifolonbkamaaGreatDoorKcac
import Derived.Laws.StructEq
import Derived.BigQuiet
import Derived.Deep.QuietTactic
import Derived.Test.YtadifolonbkamaaGreatDoorKcam
import Derived.Test.YtadifolonbkamaaGreatDoorKcat
namespace Go.Proofs.YtadifolonbkamaaGreatDoor
open Go.RowKit
def lnCells (x : Ln) : List Value := [.string (str x.s), .string (str x.k), .string (str x.v), .int .i64 x.n]
def lns (l : List Ln) : List Value := l.flatMap lnCells
theorem lns_length (l : List Ln) : (lns l).length = l.length * 4 := by
  induction l with
  | nil => rfl
  | cons x l ih =>
    have e : lns (x :: l) = lnCells x ++ lns l := by simp [lns]
    rw [e, List.length_append, ih, List.length_cons]
    simp only [lnCells, List.length_cons, List.length_nil]
    omega
theorem block_addW (a : Addr) (n : Nat) : (a.add n).block = a.block := by unfold Addr.add; split <;> rfl
def LnsAt (w : World) (B : Nat) (A : Option Addr) (n : Nat) (l : List Ln) : Prop :=
  l.length = n ∧ n ≤ maxLen ∧ (0 < n → ∃ ad, A = some ad ∧ ad.block < B ∧ ∀ j u, (lns l)[j]? = some u → w.cell? (ad.add j) = some u)
theorem LnsAt.none_ {w : World} {B : Nat} {A : Option Addr} : LnsAt w B A 0 [] := ⟨rfl, Nat.zero_le _, fun h => by omega⟩
theorem LnsAt.below {w w' : World} {B n : Nat} {A : Option Addr} {l : List Ln} (h : LnsAt w B A n l) (hb : Below B w w') : LnsAt w' B A n l :=
  ⟨h.1, h.2.1, fun hn => by
    obtain ⟨ad, e, hB, hc⟩ := h.2.2 hn
    exact ⟨ad, e, hB, fun j x hj => (hb.cell (by rw [block_addW]; exact hB)).trans (hc j x hj)⟩⟩
theorem LnsAt.wide {w : World} {B B' n : Nat} {A : Option Addr} {l : List Ln} (h : LnsAt w B A n l) (hB : B ≤ B') : LnsAt w B' A n l :=
  ⟨h.1, h.2.1, fun hn => by
    obtain ⟨ad, e, h2, hc⟩ := h.2.2 hn
    exact ⟨ad, e, by omega, hc⟩⟩
theorem LnsAt.drewN {w : World} {B n : Nat} {A : Option Addr} {l : List Ln} (h : LnsAt w B A n l) (j : Nat) : LnsAt (w.drewN j) B A n l := h
theorem add_step (ad : Addr) (i j : Nat) (w : World) (v : Value) (h : w.cell? (ad.add (i + j)) = some v) : w.cell? ((ad.add i).add j) = some v := by
  have : (ad.add i).add j = ad.add (i + j) := by
    unfold Addr.add
    by_cases hi : i = 0 <;> by_cases hj : j = 0 <;> simp [hi, hj, Nat.add_assoc]
  rw [this]; exact h
theorem lns_get (l : List Ln) (j : Nat) (x : Ln) (h : l[j]? = some x) (i : Nat) (hi : i < 4) : (lns l)[j * 4 + i]? = (lnCells x)[i]? := by
  induction l generalizing j with
  | nil => simp at h
  | cons y l ih =>
    have e : lns (y :: l) = lnCells y ++ lns l := by simp [lns]
    rw [e]
    cases j with
    | zero =>
      simp only [List.getElem?_cons_zero, Option.some.injEq] at h
      subst h
      rw [Nat.zero_mul, Nat.zero_add, List.getElem?_append_left (by show i < 4; exact hi)]
    | succ j =>
      rw [List.getElem?_cons_succ] at h
      rw [List.getElem?_append_right (by show 4 ≤ _; omega)]
      show (lns l)[(j + 1) * 4 + i - 4]? = _
      rw [show (j + 1) * 4 + i - 4 = j * 4 + i by omega]
      exact ih j h
def LnCell (w : World) (a : Addr) (x : Ln) : Prop :=
  w.cell? a = some (.string (str x.s)) ∧ w.cell? ⟨a.block, a.off + 1, none⟩ = some (.string (str x.k)) ∧ w.cell? ⟨a.block, a.off + 2, none⟩ = some (.string (str x.v)) ∧ w.cell? ⟨a.block, a.off + 3, none⟩ = some (.int .i64 x.n)
theorem LnsAt.at_ {w : World} {B n : Nat} {A : Option Addr} {l : List Ln} (h : LnsAt w B A n l) {k : Nat} (hk : k < n) :
    ∃ ad x, A = some ad ∧ ad.block < B ∧ l[k]? = some x ∧ LnCell w (ad.add (k * 4)) x := by
  obtain ⟨h1, _, h4⟩ := h
  obtain ⟨ad, e, hb, hc⟩ := h4 (by omega)
  have hl : k < l.length := by omega
  have hx := List.getElem?_eq_getElem hl
  have c0 := hc (k * 4 + 0) _ (lns_get l k _ hx 0 (by omega))
  have c1 := add_step ad (k * 4) 1 w _ (hc (k * 4 + 1) _ (lns_get l k _ hx 1 (by omega)))
  have c2 := add_step ad (k * 4) 2 w _ (hc (k * 4 + 2) _ (lns_get l k _ hx 2 (by omega)))
  have c3 := add_step ad (k * 4) 3 w _ (hc (k * 4 + 3) _ (lns_get l k _ hx 3 (by omega)))
  exact ⟨ad, l[k], e, hb, hx, c0, c1, c2, c3⟩
theorem LnCell.below {w w' : World} {B : Nat} {a : Addr} {x : Ln} (h : LnCell w a x) (hb : Below B w w') (ha : a.block < B) : LnCell w' a x := by
  obtain ⟨c0, c1, c2, c3⟩ := h
  exact ⟨(hb.cell ha).trans c0, (hb.cell (p := ⟨a.block, a.off + 1, none⟩) ha).trans c1, (hb.cell (p := ⟨a.block, a.off + 2, none⟩) ha).trans c2, (hb.cell (p := ⟨a.block, a.off + 3, none⟩) ha).trans c3⟩
theorem eq_fault (w : World) (d : Nat) (a b c e : Int) : (Op.eqFields (d + 1) #[.int .i64 a, .int .i64 b] #[.int .i64 c, .int .i64 e] (Tryz.prog.fieldsOf 37).toList).run Tryz.prog w = .ok (a == c && b == e) w := by
  generalize hg : (Tryz.prog.fieldsOf 37).toList = fs
  have hm : fs.map (fun f => (decide (f.name = "_"), f.type, f.offset)) = [(false, 32, 0), (false, 3, 1)] := by rw [← hg]; kernel_rfl
  clear hg
  rcases fs with _ | ⟨f0, _ | ⟨f1, _ | ⟨f2, fs⟩⟩⟩
  · simp at hm
  · simp at hm
  · simp only [List.map_cons, List.map_nil, List.cons.injEq, Prod.mk.injEq, decide_eq_false_iff_not, and_true] at hm
    obtain ⟨⟨n0, t0, o0⟩, n1, t1, o1⟩ := hm
    have p0 : ∀ w : World, (part 32 #[.int .i64 a, .int .i64 b] 0).run Tryz.prog w = .ok (.int .i64 a) w := fun w => by kernel_rfl
    have p1 : ∀ w : World, (part 32 #[.int .i64 c, .int .i64 e] 0).run Tryz.prog w = .ok (.int .i64 c) w := fun w => by kernel_rfl
    have q0 : ∀ w : World, (part 3 #[.int .i64 a, .int .i64 b] 1).run Tryz.prog w = .ok (.int .i64 b) w := fun w => by kernel_rfl
    have q1 : ∀ w : World, (part 3 #[.int .i64 c, .int .i64 e] 1).run Tryz.prog w = .ok (.int .i64 e) w := fun w => by kernel_rfl
    have r0 := fun w : World => run_equalIn_int (P := Tryz.prog) w d 32 .i64 _ a c Tryz.underlying32
    have r1 := fun w : World => run_equalIn_int (P := Tryz.prog) w d 3 .i64 _ b e Tryz.underlying3
    simp only [Op.eqFields, n0, n1, t0, t1, o0, o1, ne_eq, not_false_eq_true, if_true, Sem.run_bind, p0, p1, Result.andThen_ok]
    rw [r0]
    simp only [Result.andThen_ok]
    cases h : (a == c)
    · simp
    · simp only [Bool.not_true, Bool.false_eq_true, if_false, Sem.run_bind, q0, q1, Result.andThen_ok]
      rw [r1]
      cases h2 : (b == e) <;> simp
  · simp at hm
theorem run_eql_fault (w : World) (a b c d : Int) : (binOp .eql 37 (.agg #[.int .i64 a, .int .i64 b]) (.agg #[.int .i64 c, .int .i64 d])).run Tryz.prog w = .ok (.bool (a == c && b == d)) w := by
  rw [run_eql_struct, run_equalIn_struct (P := Tryz.prog) w 9999 37 _ _ (by kernel_rfl) (by kernel_rfl), eq_fault]
  rfl
end Go.Proofs.YtadifolonbkamaaGreatDoor
namespace Go.Proofs.YtadifolonbkamaaGreatDoor
open Go.RowKit
def lineV (V : Ky → ByteArray → Int) (kind : Int) (s k v : ByteArray) : Int :=
  if oftenT s.data.toList kind = true then (match findT s.data.toList k.data.toList with | some x => V x v | none => 11) else 10
def ValueSays (V : Ky → ByteArray → Int) (s k : List UInt8) (v : ByteArray) (w0 : World) : Prop :=
  ∀ (x : Ky) (r : Kr) (B : Nat) (w : World), Below w0.heap.size w0 w → r.is w B x → B ≤ w.heap.size → findT s k = some x →
    Calls Tryz.prog 15 #[.agg #[.string (str r.s), .string (str r.n), .int .i64 r.f, .bool r.l, .int .i64 r.k, .slice r.A r.m r.c], .string v] w fun e w' => e = .returned (.int .i64 (V x v)) ∧ Below w.heap.size w w'
set_option maxHeartbeats 8000000 in
theorem checkLine_of (V : Ky → ByteArray → Int) (kind : Int) (s k v : ByteArray) (n : Int) (w0 w : World) (hw : Below w0.heap.size w0 w) (hV : ValueSays V s.data.toList k.data.toList v w0) :
    Calls Tryz.prog 37 #[.int .i64 kind, .agg #[.string s, .string k, .string v, .int .i64 n]] w fun e w' => e = .returned (.int .i64 (lineV V kind s k v)) ∧ Below w.heap.size w w' := by
  have HV := Lib.hid hV
  have HW := Lib.hid hw
  have hB0 : Below w.heap.size w ((w.alloc (.cells #[.int .i64 kind] 3)).alloc (.cells #[.string s, .string k, .string v, .int .i64 n] 44)) := ((Below.refl _ w).alloc (Nat.le_refl _) _).alloc (by simp) _
  have hK0 : Blk ((w.alloc (.cells #[.int .i64 kind] 3)).alloc (.cells #[.string s, .string k, .string v, .int .i64 n] 44)) w.heap.size 3 #[.int .i64 kind] := (Blk.new w _ _).alloc _
  have hL0 : Blk ((w.alloc (.cells #[.int .i64 kind] 3)).alloc (.cells #[.string s, .string k, .string v, .int .i64 n] 44)) (w.heap.size + 1) 44 #[.string s, .string k, .string v, .int .i64 n] := by
    have := Blk.new (w.alloc (.cells #[.int .i64 kind] 3)) 44 #[.string s, .string k, .string v, .int .i64 n]
    rwa [World.size_alloc] at this
  have HB0 := Lib.hid hB0
  have HK0 := Lib.hid hK0
  have HL0 := Lib.hid hL0
  clear hV hw hB0 hK0 hL0
  go_enter Tryz.func37, Tryz.ntmps37
  go_wp2_with fail
  generalize (w.alloc (.cells #[.int .i64 kind] 3)).alloc (.cells #[.string s, .string k, .string v, .int .i64 n] 44) = w1 at *
  refine (keysOf_any s _).mono ?_
  rintro e2 w2 ⟨A, c, rfl, hk, hb⟩
  have HB2 := Lib.hid (more3 HB0.out HB0.out.size hb)
  have HK2 := Lib.hid (HK0.out.below hb HK0.out.lt)
  have HL2 := Lib.hid (HL0.out.below hb HL0.out.lt)
  have HS2 := Lib.hid hk
  clear hb hk
  have HC2 := Lib.hid (keyHas_any A _ c _ _ kind w.heap.size w2 HS2.out (Nat.le_refl _) (keysT_k _) (HK2.out.cell 0) HK2.out.lt)
  rcases ho : (keysT s.data.toList).any (fun x => isForT x kind) with _ | _
  · have HR : Hid (lineV V kind s k v = 10) := by show _ = _; unfold lineV oftenT; rw [if_neg (by rw [ho]; simp)]
    rw [ho] at HC2
    clear ho
    go_wp2_with fail
    refine HC2.out.mono ?_
    rintro e3 w3 ⟨rfl, hb3⟩
    go_wp2_with fail
    go_ret
    exact ⟨ret_int HR.out.symm, more3 HB2.out HB2.out.size hb3⟩
  · have HR : Hid (lineV V kind s k v = match findT s.data.toList k.data.toList with | some x => V x v | none => 11) := by show _ = _; unfold lineV oftenT; rw [if_pos ho]
    rw [ho] at HC2
    clear ho
    go_wp2_with fail
    refine HC2.out.mono ?_
    rintro e3 w3 ⟨rfl, hb3⟩
    have HB3 := Lib.hid (more3 HB2.out HB2.out.size hb3)
    have HL3 := Lib.hid (HL2.out.below hb3 HL2.out.lt)
    have HS3 := Lib.hid (HS2.out.below hb3)
    have hz3 : w2.heap.size ≤ w3.heap.size := hb3.size
    have l1 : w3.cell? ⟨w.heap.size + 1, 1, none⟩ = some (.string k) := HL3.out.cell 1
    clear hb3 HC2
    go_wp2_with fail
    refine (named_any A _ c _ _ k _ HS3.out hz3).mono ?_
    rintro e4 w4 ⟨r, rfl, hr, hb4⟩
    have HB4 := Lib.hid (more3 HB3.out HB3.out.size hb4)
    have HL4 := Lib.hid (HL3.out.below hb4 HL3.out.lt)
    have HX4 := Lib.hid hr
    clear hb4 hr l1
    unfold krA
    change Hid (_ = match namedT (keysT s.data.toList) k.data.toList with | some x => V x v | none => 11) at HR
    rcases hf : namedT (keysT s.data.toList) k.data.toList with _ | x
    · rw [hf] at HR
      rw [show (none : Option Ky).isSome = false from rfl]
      go_wp2_with fail
      go_ret
      exact ⟨ret_int HR.out.symm, HB4.out.alloc HB4.out.size _⟩
    · have hfx : findT s.data.toList k.data.toList = some x := hf
      rw [hf] at HR HX4
      rw [show (some x : Option Ky).isSome = true from rfl]
      have l2 : (w4.alloc (.cells #[.string (str r.s), .string (str r.n), .int .i64 r.f, .bool r.l, .int .i64 r.k, .slice r.A r.m r.c] 28)).cell? ⟨w.heap.size + 1, 2, none⟩ = some (.string v) := (HL4.out.alloc _).cell 2
      have HB5 : Hid (Below w.heap.size w (w4.alloc (.cells #[.string (str r.s), .string (str r.n), .int .i64 r.f, .bool r.l, .int .i64 r.k, .slice r.A r.m r.c] 28))) := HB4.out.alloc HB4.out.size _
      have HX5 : Hid (r.is (w4.alloc (.cells #[.string (str r.s), .string (str r.n), .int .i64 r.f, .bool r.l, .int .i64 r.k, .slice r.A r.m r.c] 28)) w4.heap.size x) := HX4.out.below ((Below.refl _ _).alloc (Nat.le_refl _) _)
      have HC5 := Lib.hid (HV.out x r _ _ (more3 HW.out HW.out.size HB5.out) HX5.out (by simp) hfx)
      clear hf hfx
      go_wp2_with fail
      refine HC5.out.mono ?_
      rintro e6 w6 ⟨rfl, hb6⟩
      go_wp2_with fail
      go_ret
      exact ⟨ret_int HR.out.symm, more3 HB5.out HB5.out.size hb6⟩
def checkV (V : Ky → ByteArray → Int) (kind : Int) : List Ln → Int × Int
  | [] => (0, 0)
  | x :: l => if lineV V kind (str x.s) (str x.k) (str x.v) = 0 then checkV V kind l else (lineV V kind (str x.s) (str x.k) (str x.v), x.n)
theorem checkV_app (V : Ky → ByteArray → Int) (kind : Int) (a b : List Ln) (h : ∀ x ∈ a, lineV V kind (str x.s) (str x.k) (str x.v) = 0) : checkV V kind (a ++ b) = checkV V kind b := by
  induction a with
  | nil => rfl
  | cons x a ih =>
    rw [List.cons_append, checkV, if_pos (h x (by simp)), ih fun y hy => h y (by simp [hy])]
theorem checkV_clean (V : Ky → ByteArray → Int) (kind : Int) (a : List Ln) (h : ∀ x ∈ a, lineV V kind (str x.s) (str x.k) (str x.v) = 0) : checkV V kind a = (0, 0) := by
  induction a with
  | nil => rfl
  | cons x a ih => rw [checkV, if_pos (h x (by simp)), ih fun y hy => h y (by simp [hy])]
theorem results_cell_one {P : Program} {fn : Func} {p : Tmp} {ty : TypeId} (h : fn.results = #[.cell p ty]) (tmps : Array Value) (w : World) (g : Nat) (t : TypeId) (cs : Array Value) (d : TypeDesc)
    (hp : tmps.getD p undef = .pointer (some ⟨g, 0, none⟩)) (hg : w.heap[g]? = some (.cells cs t (0, 0)))
    (hu : P.underlying ty = some d) (hd : (match d with | .struct _ | .array _ _ => true | _ => false) = true) (hi : (P.info? ty).map (·.size) = some cs.size) :
    (results fn tmps).run P w = .ok (.agg cs) w := results_cell_row h tmps w g t cs (0, 0) d hp hg hu hd hi
def fltA (c n : Int) : Array Value := #[.int .i64 c, .int .i64 n]
theorem fltA_all (c n : Int) : (fltA c n).all (·.oneCell') = true := by simp [fltA, Value.oneCell']
set_option maxHeartbeats 8000000 in
theorem Check_of (V : Ky → ByteArray → Int) (kind : Int) (A : Option Addr) (n c B : Nat) (l : List Ln) (w0 w : World) (h : LnsAt w B A n l) (hB : B ≤ w.heap.size) (hw : Below w0.heap.size w0 w) (hV : ∀ x ∈ l, ValueSays V x.s x.k (str x.v) w0) :
    Calls Tryz.prog 17 #[.int .i64 kind, .slice A n c] w fun e w' => e = .returned (.agg (fltA (checkV V kind l).1 (checkV V kind l).2)) ∧ Below w.heap.size w w' := by
  have hm := h.2.1
  unfold maxLen at hm
  have hl := h.1
  have HL := Lib.hid h
  have HV := Lib.hid hV
  have HW := Lib.hid hw
  clear h hV hw
  have HR0 : Hid (Blk (w.alloc (.cells #[.int .i64 0, .int .i64 0] 37)) w.heap.size 37 (fltA 0 0)) := Blk.new w _ _
  have HB0 : Hid (Below w.heap.size w (w.alloc (.cells #[.int .i64 0, .int .i64 0] 37))) := (Below.refl _ w).alloc (Nat.le_refl _) _
  have HN0 : Hid (∀ x ∈ l.take 0, lineV V kind (str x.s) (str x.k) (str x.v) = 0) := fun x hx => by simp at hx
  go_enter Tryz.func17, Tryz.ntmps17
  go_wp2_with fail
  generalize w.alloc (.cells #[.int .i64 0, .int .i64 0] 37) = w1 at *
  go_loopw [10] (fun i wr => ∃ k : Nat, k ≤ n ∧ i = .int .i64 k ∧ Hid (Below w.heap.size w wr) ∧ Hid (Blk wr w.heap.size 37 (fltA 0 0)) ∧ Hid (∀ x ∈ l.take k, lineV V kind (str x.s) (str x.k) (str x.v) = 0)) (fun i wr => n - (intOf i).toNat)
  case atStart => exact ⟨0, Nat.zero_le _, rfl, HB0, HR0, HN0⟩
  case round =>
    obtain ⟨k, hk, rfl, hb, hR, hN⟩ := hrel
    have hRl : w.heap.size < wr.heap.size := hR.out.lt
    by_cases hlt : k < n
    · have b0 : (0 : Int) ≤ (k : Int) := by omega
      have b1 : (k : Int) < (n : Int) := by omega
      obtain ⟨ad, x, rfl, hab, hx, q0, q1, q2, q3⟩ := (HL.out.below (hb.out.mono hB)).at_ hlt
      have z1 : (ad.add (k * 4)).block < wr.heap.size := by rw [block_addW]; omega
      have hxl : x ∈ l := List.mem_of_getElem? hx
      have HB1 : Hid (Below w.heap.size w (wr.alloc (.cells #[.string (str x.s), .string (str x.k), .string (str x.v), .int .i64 x.n] 44))) := hb.out.alloc hb.out.size _
      have HR1 : Hid (Blk (wr.alloc (.cells #[.string (str x.s), .string (str x.k), .string (str x.v), .int .i64 x.n] 44)) w.heap.size 37 (fltA 0 0)) := hR.out.alloc _
      have HA1 : Hid (Blk (wr.alloc (.cells #[.string (str x.s), .string (str x.k), .string (str x.v), .int .i64 x.n] 44)) wr.heap.size 44 #[.string (str x.s), .string (str x.k), .string (str x.v), .int .i64 x.n]) := Blk.new wr _ _
      have HC := Lib.hid (checkLine_of V kind (str x.s) (str x.k) (str x.v) x.n w0 _ (more3 HW.out HW.out.size HB1.out) (HV.out x hxl))
      have hkl : k < l.length := by omega
      have hxe : l[k] = x := by rw [List.getElem?_eq_getElem hkl] at hx; exact Option.some.inj hx
      by_cases h0 : lineV V kind (str x.s) (str x.k) (str x.v) = 0
      · have HN1 : Hid (∀ y ∈ l.take (k + 1), lineV V kind (str y.s) (str y.k) (str y.v) = 0) := by
          intro y hy
          rw [List.take_succ_eq_append_getElem hkl, hxe, List.mem_append] at hy
          rcases hy with hy | hy
          · exact hN.out y hy
          · simp at hy; subst hy; exact h0
        rw [h0] at HC
        clear h0 hx hxl hxe
        go_wp2_with fail
        refine HC.out.mono ?_
        rintro e w2 ⟨rfl, hb2⟩
        have HB2 := Lib.hid (more3 HB1.out HB1.out.size hb2)
        have HR2 := Lib.hid (HR1.out.below hb2 HR1.out.lt)
        clear hb2
        go_wp2_with fail
        go_roundw
        case rel => exact ⟨k + 1, by omega, by go_num, HB2, HR2, HN1⟩
        case measure => simp [intOf]; omega
      · have HE : Hid (checkV V kind l = (lineV V kind (str x.s) (str x.k) (str x.v), x.n)) := by
          show _ = _
          conv => lhs; rw [← List.take_append_drop k l]
          rw [checkV_app V kind _ _ hN.out, List.drop_eq_getElem_cons hkl, hxe, checkV, if_neg h0]
        have hne : (lineV V kind (str x.s) (str x.k) (str x.v) != 0) = true := by simpa using h0
        obtain ⟨q, hq⟩ : ∃ q, lineV V kind (str x.s) (str x.k) (str x.v) = q := ⟨_, rfl⟩
        rw [hq] at HC hne HE
        clear h0 hx hxl hxe hq
        go_wp2_with fail
        refine HC.out.mono ?_
        rintro e w2 ⟨rfl, hb2⟩
        have HB2 := Lib.hid (more3 HB1.out HB1.out.size hb2)
        have HR2 := Lib.hid (HR1.out.below hb2 HR1.out.lt)
        have HA2 := Lib.hid (HA1.out.below hb2 HA1.out.lt)
        have c3 : w2.cell? ⟨wr.heap.size, 3, none⟩ = some (.int .i64 x.n) := HA2.out.cell 3
        clear hb2
        go_wp2_with (refine wpList_store_row rfl 37 (.tmp 4) (.tmp 22) (by rfl) w.heap.size (fltA q x.n) (by rfl) (by rfl) 37 (fltA 0 0) HR2.out (by kernel_rfl) rfl (fltA_all _ _) ?_)
        exact bodyPost_ret (results_cell_one (p := 4) rfl _ _ w.heap.size 37 (fltA q x.n) _ rfl (Blk.row HR2.out _) Tryz.underlying37 rfl (by kernel_rfl)) rfl ⟨by rw [HE.out], below_setRow HB2.out (Nat.le_refl _) _⟩
    · obtain rfl : k = n := by omega
      have HE : Hid (checkV V kind l = (0, 0)) := by
        have := hN.out
        rw [List.take_of_length_le (by omega)] at this
        exact checkV_clean V kind l this
      go_wp2_with (refine wpList_store_row rfl 37 (.tmp 4) (.tmp 24) (by rfl) w.heap.size (fltA 0 0) (by rfl) (by rfl) 37 (fltA 0 0) hR.out (by kernel_rfl) rfl (fltA_all _ _) ?_)
      exact bodyPost_ret (results_cell_one (p := 4) rfl _ _ w.heap.size 37 (fltA 0 0) _ rfl (Blk.row hR.out _) Tryz.underlying37 rfl (by kernel_rfl)) rfl ⟨by rw [HE.out], below_setRow hb.out (Nat.le_refl _) _⟩
end Go.Proofs.YtadifolonbkamaaGreatDoor
namespace Go.Proofs.YtadifolonbkamaaGreatDoor
open Go.RowKit
theorem rowW {w : World} {B n : Nat} {A : Option Addr} {l : List (List UInt8)} (h : Wd.RowAt w B A n l) : RowAt w B A n l := h
theorem split_out (s : ByteArray) (hs : s.size ≤ 140737488355327) (w : World) :
    Calls Tryz.prog 82 #[.string s] w fun e w' => ∃ (A : Option Addr) (n c : Nat), e = .returned (.tuple #[.slice A n c, .int .i64 (Wd.splitW s.data.toList).2]) ∧ RowAt w' w'.heap.size A n (Wd.splitW s.data.toList).1 ∧ Below w.heap.size w w' := by
  refine (Wd.Split_any s (by unfold maxLen; omega) (by have := Wd.topS_le s.data.toList; rw [size_list] at this; omega) w).mono ?_
  rintro e w' ⟨A, n, c, he, _, _, h, hb⟩
  exact ⟨A, n, c, he, rowW h, hb⟩
def dashT (s : ByteArray) : ByteArray := str (Lib.trimPrefix s.data.toList [45])
theorem dashT_size (s : ByteArray) : (dashT s).size ≤ s.size := by
  unfold dashT Lib.trimPrefix
  rw [str_size]
  split
  · rw [List.length_drop, size_list]; omega
  · rw [size_list]; exact Nat.le_refl _
def cmdW (l : List UInt8) : Bool := decide ((Wd.splitW l).2 = 0) && (match (Wd.splitW l).1 with | [] => false | x :: _ => !decide (x = []))
def cmdS (s : ByteArray) : Bool := cmdW (dashT s).data.toList
def envS (s : ByteArray) : Bool := decide ((Wd.splitW s.data.toList).2 = 0) && (!decide ((Wd.splitW s.data.toList).1 = []) && !(Wd.splitW s.data.toList).1.any noAsgL)
set_option maxHeartbeats 2000000 in
theorem isEnv_any (s : ByteArray) (hs : s.size ≤ 140737488355327) (w : World) :
    Calls Tryz.prog 55 #[.string s] w fun e w' => e = .returned (.bool (envS s)) ∧ Below w.heap.size w w' := by
  have HS := Lib.hid fun w => split_out s hs w
  have HML := Lib.hid (Wd.split_mem_le s.data.toList)
  have hsz : s.data.toList.length = s.size := size_list s
  unfold envS
  generalize Wd.splitW s.data.toList = sp at *
  obtain ⟨l, k⟩ := sp
  dsimp only at HS HML ⊢
  by_cases hk : k = 0
  · subst hk
    have HL : Hid (∀ x ∈ l, x.length ≤ maxLen) := fun x hx => by have := HML.out rfl x hx; unfold maxLen; omega
    rw [decide_eq_true rfl, Bool.true_and]
    by_cases hl : l = []
    · subst hl
      go_enter Tryz.func55, Tryz.ntmps55
      go_wp2_with fail
      refine (HS.out _).mono ?_
      rintro e w1 ⟨A, n, c, rfl, hr, hb⟩
      obtain rfl : n = 0 := hr.1.symm
      go_wp2_with fail
      go_ret
      exact ⟨rfl, hb⟩
    · have h0 : 0 < l.length := List.length_pos_iff.2 hl
      rw [decide_eq_false hl, Bool.not_false, Bool.true_and]
      have HC : Hid (∀ A n c w1, RowAt w1 w1.heap.size A n l → Calls Tryz.prog 84 #[.slice A n c, .func (.func 85) #[] #[]] w1 fun e w' => e = .returned (.bool (l.any noAsgL)) ∧ Below w1.heap.size w1 w') := fun A n c w1 hr => asgHas_any A n c _ l w1 hr (Nat.le_refl _) HL.out
      rcases ha : l.any noAsgL with _ | _
      all_goals
        rw [ha] at HC
        clear ha hl
        go_enter Tryz.func55, Tryz.ntmps55
        go_wp2_with fail
        refine (HS.out _).mono ?_
        rintro e w1 ⟨A, n, c, rfl, hr, hb⟩
        have hn : l.length = n := hr.1
        have i0 : (0 : Int) < (n : Int) := by omega
        have i0n : 0 < n := by omega
        have HC1 := Lib.hid (HC.out A n c w1 hr)
        clear hr
        go_wp2_with (go_at_call 84; refine HC1.out.mono ?_; rintro e w2 ⟨rfl, hb2⟩)
        go_ret
        exact ⟨rfl, more hb hb2⟩
  · have hk0 : ((k : Int) == 0) = false := by simp; omega
    rw [decide_eq_false hk, Bool.false_and]
    go_enter Tryz.func55, Tryz.ntmps55
    go_wp2_with fail
    refine (HS.out _).mono ?_
    rintro e w1 ⟨A, n, c, rfl, hr, hb⟩
    go_wp2_with fail
    go_ret
    exact ⟨rfl, hb⟩
set_option maxHeartbeats 2000000 in
theorem isCmd_any (s : ByteArray) (hs : s.size ≤ 140737488355327) (w : World) :
    Calls Tryz.prog 54 #[.string s] w fun e w' => e = .returned (.bool (cmdS s)) ∧ Below w.heap.size w w' := by
  have HS := Lib.hid fun w => split_out (dashT s) (by have := dashT_size s; omega) w
  have HP : Hid (∀ w, Calls Tryz.prog 83 #[.string s, .string ⟨#[45]⟩] w fun e w' => e = .returned (.string (dashT s)) ∧ w = w') := fun w => by
    refine (Tryz.strings_TrimPrefix s ⟨#[45]⟩ w).mono ?_
    rintro e w' ⟨he, hw⟩
    exact ⟨he, hw.symm⟩
  unfold cmdS cmdW
  generalize dashT s = d at *
  generalize Wd.splitW d.data.toList = sp at *
  obtain ⟨l, k⟩ := sp
  dsimp only at HS ⊢
  by_cases hk : k = 0
  · subst hk
    rw [decide_eq_true rfl, Bool.true_and]
    cases l with
    | nil =>
      go_enter Tryz.func54, Tryz.ntmps54
      go_wp2_with (go_at_call 83; refine (HP.out _).mono ?_; rintro e w1 ⟨rfl, rfl⟩)
      refine (HS.out _).mono ?_
      rintro e w1 ⟨A, n, c, rfl, hr, hb⟩
      obtain rfl : n = 0 := hr.1.symm
      go_wp2_with fail
      go_ret
      exact ⟨rfl, hb⟩
    | cons x l =>
      have hxe : (str x).toList.isEmpty = decide (x = []) := by rw [isEmpty_iff]; rfl
      dsimp only
      rcases hd : decide (x = []) with _ | _
      all_goals
        rw [hd] at hxe
        clear hd
        go_enter Tryz.func54, Tryz.ntmps54
        go_wp2_with (go_at_call 83; refine (HP.out _).mono ?_; rintro e w1 ⟨rfl, rfl⟩)
        refine (HS.out _).mono ?_
        rintro e w1 ⟨A, n, c, rfl, hr, hb⟩
        have hn : (x :: l).length = n := hr.1
        have hn0 : 0 < n := by rw [← hn]; simp
        have i0 : (0 : Int) < (n : Int) := by omega
        have i0n : 0 < n := by omega
        obtain ⟨ad, y, rfl, _, hy, q0⟩ := hr.at_ hn0
        rw [show ad.add 0 = ad from by simp [Addr.add]] at q0
        simp only [List.getElem?_cons_zero, Option.some.injEq] at hy
        subst hy
        clear hr hn
        go_wp2_with fail
        go_ret
        exact ⟨rfl, hb⟩
  · have hk0 : ((k : Int) == 0) = false := by simp; omega
    rw [decide_eq_false hk, Bool.false_and]
    go_enter Tryz.func54, Tryz.ntmps54
    go_wp2_with (go_at_call 83; refine (HP.out _).mono ?_; rintro e w1 ⟨rfl, rfl⟩)
    refine (HS.out _).mono ?_
    rintro e w1 ⟨A, n, c, rfl, hr, hb⟩
    go_wp2_with fail
    go_ret
    exact ⟨rfl, hb⟩
end Go.Proofs.YtadifolonbkamaaGreatDoor
