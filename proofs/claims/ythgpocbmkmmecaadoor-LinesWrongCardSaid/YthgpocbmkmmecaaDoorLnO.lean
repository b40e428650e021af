/- Lines held against lines: the walks of the document's SameLines, and what the laws call alike. -/
import Derived.Test.YthgpocbmkmmecaaDoorLnH
import Derived.Laws.StructEq
import Derived.BigQuiet
import Derived.Deep.QuietTactic
namespace Go.Proofs.YthgpocbmkmmecaaDoor
open Go.RowKit

theorem add_cellO (g j : Nat) : (⟨g, 0, none⟩ : Addr).add j = ⟨g, j, none⟩ := by unfold Addr.add; split <;> simp_all
theorem add_step (ad : Addr) (i j : Nat) (w : World) (v : Value) (h : w.cell? (ad.add (i + j)) = some v) : w.cell? ((ad.add i).add j) = some v := by
  have : (ad.add i).add j = ad.add (i + j) := by
    unfold Addr.add
    by_cases hi : i = 0 <;> by_cases hj : j = 0 <;> simp [hi, hj, Nat.add_assoc]
  rw [this]; exact h
theorem lns_get (l : List Ln) (j : Nat) (x : Ln) (h : l[j]? = some x) (i : Nat) (hi : i < 4) : (lns l)[j * 4 + i]? = (lnCells x)[i]? := by
  induction l generalizing j with
  | nil => simp at h
  | cons y l ih =>
    have e : lns (y :: l) = lnCells y ++ lns l := by simp [lns]
    rw [e]
    cases j with
    | zero =>
      simp only [List.getElem?_cons_zero, Option.some.injEq] at h
      subst h
      rw [Nat.zero_mul, Nat.zero_add, List.getElem?_append_left (by show i < 4; exact hi)]
    | succ j =>
      rw [List.getElem?_cons_succ] at h
      rw [List.getElem?_append_right (by show 4 ≤ _; omega)]
      show (lns l)[(j + 1) * 4 + i - 4]? = _
      rw [show (j + 1) * 4 + i - 4 = j * 4 + i by omega]
      exact ih j h
/-- The four cells of a line. -/
def LnCell (w : World) (a : Addr) (x : Ln) : Prop :=
  w.cell? a = some (.string (str x.s)) ∧ w.cell? ⟨a.block, a.off + 1, none⟩ = some (.string (str x.k)) ∧ w.cell? ⟨a.block, a.off + 2, none⟩ = some (.string (str x.v)) ∧ w.cell? ⟨a.block, a.off + 3, none⟩ = some (.int .i64 x.n)
theorem LnsAt.at_ {w : World} {B n : Nat} {A : Option Addr} {l : List Ln} (h : LnsAt w B A n l) {k : Nat} (hk : k < n) :
    ∃ ad x, A = some ad ∧ ad.block < B ∧ l[k]? = some x ∧ LnCell w (ad.add (k * 4)) x := by
  obtain ⟨h1, _, h4⟩ := h
  obtain ⟨ad, e, hb, hc⟩ := h4 (by omega)
  have hl : k < l.length := by omega
  have hx := List.getElem?_eq_getElem hl
  have c0 := hc (k * 4 + 0) _ (lns_get l k _ hx 0 (by omega))
  have c1 := add_step ad (k * 4) 1 w _ (hc (k * 4 + 1) _ (lns_get l k _ hx 1 (by omega)))
  have c2 := add_step ad (k * 4) 2 w _ (hc (k * 4 + 2) _ (lns_get l k _ hx 2 (by omega)))
  have c3 := add_step ad (k * 4) 3 w _ (hc (k * 4 + 3) _ (lns_get l k _ hx 3 (by omega)))
  exact ⟨ad, l[k], e, hb, hx, c0, c1, c2, c3⟩
theorem LnCell.below {w w' : World} {B : Nat} {a : Addr} {x : Ln} (h : LnCell w a x) (hb : Below B w w') (ha : a.block < B) : LnCell w' a x := by
  obtain ⟨c0, c1, c2, c3⟩ := h
  exact ⟨(hb.cell ha).trans c0, (hb.cell (p := ⟨a.block, a.off + 1, none⟩) ha).trans c1, (hb.cell (p := ⟨a.block, a.off + 2, none⟩) ha).trans c2, (hb.cell (p := ⟨a.block, a.off + 3, none⟩) ha).trans c3⟩

theorem eq_fault (w : World) (d : Nat) (a b c e : Int) : (Op.eqFields (d + 1) #[.int .i64 a, .int .i64 b] #[.int .i64 c, .int .i64 e] (Tryd.prog.fieldsOf 26).toList).run Tryd.prog w = .ok (a == c && b == e) w := by
  generalize hg : (Tryd.prog.fieldsOf 26).toList = fs
  have hm : fs.map (fun f => (decide (f.name = "_"), f.type, f.offset)) = [(false, 24, 0), (false, 3, 1)] := by rw [← hg]; kernel_rfl
  clear hg
  rcases fs with _ | ⟨f0, _ | ⟨f1, _ | ⟨f2, fs⟩⟩⟩
  · simp at hm
  · simp at hm
  · simp only [List.map_cons, List.map_nil, List.cons.injEq, Prod.mk.injEq, decide_eq_false_iff_not, and_true] at hm
    obtain ⟨⟨n0, t0, o0⟩, n1, t1, o1⟩ := hm
    have p0 : ∀ w : World, (part 24 #[.int .i64 a, .int .i64 b] 0).run Tryd.prog w = .ok (.int .i64 a) w := fun w => by kernel_rfl
    have p1 : ∀ w : World, (part 24 #[.int .i64 c, .int .i64 e] 0).run Tryd.prog w = .ok (.int .i64 c) w := fun w => by kernel_rfl
    have q0 : ∀ w : World, (part 3 #[.int .i64 a, .int .i64 b] 1).run Tryd.prog w = .ok (.int .i64 b) w := fun w => by kernel_rfl
    have q1 : ∀ w : World, (part 3 #[.int .i64 c, .int .i64 e] 1).run Tryd.prog w = .ok (.int .i64 e) w := fun w => by kernel_rfl
    have r0 := fun w : World => run_equalIn_int (P := Tryd.prog) w d 24 .i64 _ a c Tryd.underlying24
    have r1 := fun w : World => run_equalIn_int (P := Tryd.prog) w d 3 .i64 _ b e Tryd.underlying3
    simp only [Op.eqFields, n0, n1, t0, t1, o0, o1, ne_eq, not_false_eq_true, if_true, Sem.run_bind, p0, p1, Result.andThen_ok]
    rw [r0]
    simp only [Result.andThen_ok]
    cases h : (a == c)
    · simp
    · simp only [Bool.not_true, Bool.false_eq_true, if_false, Sem.run_bind, q0, q1, Result.andThen_ok]
      rw [r1]
      cases h2 : (b == e) <;> simp
  · simp at hm
theorem run_eql_fault (w : World) (a b c d : Int) : (binOp .eql 26 (.agg #[.int .i64 a, .int .i64 b]) (.agg #[.int .i64 c, .int .i64 d])).run Tryd.prog w = .ok (.bool (a == c && b == d)) w := by
  rw [run_eql_struct, run_equalIn_struct (P := Tryd.prog) w 9999 26 _ _ (by kernel_rfl) (by kernel_rfl), eq_fault]
  rfl
theorem run_neq_fault (w : World) (a b c d : Int) : (binOp .neq 26 (.agg #[.int .i64 a, .int .i64 b]) (.agg #[.int .i64 c, .int .i64 d])).run Tryd.prog w = .ok (.bool (!(a == c && b == d))) w := by
  rw [run_neq_struct, run_equalIn_struct (P := Tryd.prog) w 9999 26 _ _ (by kernel_rfl) (by kernel_rfl), eq_fault]
  rfl
theorem eq_line (w : World) (d : Nat) (a b c a' b' c' : ByteArray) (n n' : Int) : (Op.eqFields (d + 1) #[.string a, .string b, .string c, .int .i64 n] #[.string a', .string b', .string c', .int .i64 n'] (Tryd.prog.fieldsOf 34).toList).run Tryd.prog w =
    .ok (a.toList == a'.toList && (b.toList == b'.toList && (c.toList == c'.toList && n == n'))) w := by
  generalize hg : (Tryd.prog.fieldsOf 34).toList = fs
  have hm : fs.map (fun f => (decide (f.name = "_"), f.type, f.offset)) = [(false, 9, 0), (false, 9, 1), (false, 9, 2), (false, 3, 3)] := by rw [← hg]; kernel_rfl
  clear hg
  rcases fs with _ | ⟨f0, _ | ⟨f1, _ | ⟨f2, _ | ⟨f3, _ | ⟨f4, fs⟩⟩⟩⟩⟩
  · simp at hm
  · simp at hm
  · simp at hm
  · simp at hm
  · simp only [List.map_cons, List.map_nil, List.cons.injEq, Prod.mk.injEq, decide_eq_false_iff_not, and_true] at hm
    obtain ⟨⟨n0, t0, o0⟩, ⟨n1, t1, o1⟩, ⟨n2, t2, o2⟩, n3, t3, o3⟩ := hm
    have p0 : ∀ (w : World) (a b c : ByteArray) (n : Int), (part 9 #[.string a, .string b, .string c, .int .i64 n] 0).run Tryd.prog w = .ok (.string a) w := fun w a b c n => by kernel_rfl
    have p1 : ∀ (w : World) (a b c : ByteArray) (n : Int), (part 9 #[.string a, .string b, .string c, .int .i64 n] 1).run Tryd.prog w = .ok (.string b) w := fun w a b c n => by kernel_rfl
    have p2 : ∀ (w : World) (a b c : ByteArray) (n : Int), (part 9 #[.string a, .string b, .string c, .int .i64 n] 2).run Tryd.prog w = .ok (.string c) w := fun w a b c n => by kernel_rfl
    have p3 : ∀ (w : World) (a b c : ByteArray) (n : Int), (part 3 #[.string a, .string b, .string c, .int .i64 n] 3).run Tryd.prog w = .ok (.int .i64 n) w := fun w a b c n => by kernel_rfl
    have r0 := fun (w : World) (x y : ByteArray) => run_equalIn_string (P := Tryd.prog) w d 9 x y Tryd.underlying9
    have r1 := fun w : World => run_equalIn_int (P := Tryd.prog) w d 3 .i64 _ n n' Tryd.underlying3
    simp only [Op.eqFields, n0, n1, n2, n3, t0, t1, t2, t3, o0, o1, o2, o3, ne_eq, not_false_eq_true, if_true, Sem.run_bind, p0, Result.andThen_ok, r0]
    cases h : (a.toList == a'.toList)
    · simp
    · simp only [Bool.not_true, Bool.false_eq_true, if_false, Sem.run_bind, p1, r0, Result.andThen_ok]
      cases h : (b.toList == b'.toList)
      · simp
      · simp only [Bool.not_true, Bool.false_eq_true, if_false, Sem.run_bind, p2, r0, Result.andThen_ok]
        cases h : (c.toList == c'.toList)
        · simp
        · simp only [Bool.not_true, Bool.false_eq_true, if_false, Sem.run_bind, p3, Result.andThen_ok]
          rw [r1]
          cases h2 : (n == n') <;> simp
  · simp at hm
theorem run_neq_line (w : World) (a b c a' b' c' : ByteArray) (n n' : Int) : (binOp .neq 34 (.agg #[.string a, .string b, .string c, .int .i64 n]) (.agg #[.string a', .string b', .string c', .int .i64 n'])).run Tryd.prog w =
    .ok (.bool (!(a.toList == a'.toList && (b.toList == b'.toList && (c.toList == c'.toList && n == n'))))) w := by
  rw [run_neq_struct, run_equalIn_struct (P := Tryd.prog) w 9999 34 _ _ (by kernel_rfl) (by kernel_rfl), eq_line]
  rfl
theorem run_eql_line (w : World) (a b c a' b' c' : ByteArray) (n n' : Int) : (binOp .eql 34 (.agg #[.string a, .string b, .string c, .int .i64 n]) (.agg #[.string a', .string b', .string c', .int .i64 n'])).run Tryd.prog w =
    .ok (.bool (a.toList == a'.toList && (b.toList == b'.toList && (c.toList == c'.toList && n == n')))) w := by
  rw [run_eql_struct, run_equalIn_struct (P := Tryd.prog) w 9999 34 _ _ (by kernel_rfl) (by kernel_rfl), eq_line]
  rfl
/-- Are two lines alike? -/
def sameL (x y : Ln) : Bool := decide (x = y)
theorem sameL_eq (x y : Ln) : ((str x.s).toList == (str y.s).toList && ((str x.k).toList == (str y.k).toList && ((str x.v).toList == (str y.v).toList && x.n == y.n))) = sameL x y := by
  have hb : ∀ a b : List UInt8, ((str a).toList == (str b).toList) = decide (a = b) := by
    intro a b
    rw [Lib.toList_data, Lib.toList_data, str_list, str_list]
    rw [Bool.eq_iff_iff]; simp
  rw [hb, hb, hb]
  unfold sameL
  rw [Bool.eq_iff_iff]
  obtain ⟨a, b, c, n⟩ := x
  obtain ⟨a', b', c', n'⟩ := y
  simp
theorem neq_ln (x y : Ln) (w : World) : (binOp .neq 34 (.agg #[.string (str x.s), .string (str x.k), .string (str x.v), .int .i64 x.n]) (.agg #[.string (str y.s), .string (str y.k), .string (str y.v), .int .i64 y.n])).run Tryd.prog w = .ok (.bool (!sameL x y)) w := by
  rw [run_neq_line, sameL_eq]
theorem eql_ln (x y : Ln) (w : World) : (binOp .eql 34 (.agg #[.string (str x.s), .string (str x.k), .string (str x.v), .int .i64 x.n]) (.agg #[.string (str y.s), .string (str y.k), .string (str y.v), .int .i64 y.n])).run Tryd.prog w = .ok (.bool (sameL x y)) w := by
  rw [run_eql_line, sameL_eq]
set_option maxHeartbeats 4000000 in
theorem SameLines_any (A A' : Option Addr) (n n' c c' B B' : Nat) (l l' : List Ln) (w : World) (h : LnsAt w B A n l) (h' : LnsAt w B' A' n' l') :
    Calls Tryd.prog 13 #[.slice A n c, .slice A' n' c'] w fun e w' => e = .returned (.bool (decide (l = l'))) ∧ ∃ j, w' = w.drewN j := by
  have hm := h.2.1
  unfold maxLen at hm
  by_cases hn : n = n'
  · subst hn
    have hnn : ((n : Int) != (n : Int)) = false := by simp
    have HL := Lib.hid h
    have HL' := Lib.hid h'
    have hl := h.1
    have hl' := h'.1
    clear h h'
    go_enter Tryd.func13, Tryd.ntmps13
    go_wp2_with fail
    go_loopw [13] (fun i wr => ∃ k j : Nat, k ≤ n ∧ i = .int .i64 k ∧ wr = w.drewN j ∧ Hid (l.take k = l'.take k)) (fun i wr => n - (intOf i).toNat)
    case atStart => exact ⟨0, 0, Nat.zero_le _, rfl, rfl, rfl⟩
    case round =>
      obtain ⟨k, j, hk, rfl, rfl, htk⟩ := hrel
      by_cases hlt : k < n
      · have b0 : (0 : Int) ≤ (k : Int) := by omega
        have b1 : (k : Int) < (n : Int) := by omega
        obtain ⟨ad, x, rfl, _, hx, q0, q1, q2, q3⟩ := HL.out.at_ hlt
        obtain ⟨ad', x', rfl, _, hx', p0, p1, p2, p3⟩ := HL'.out.at_ hlt
        have hq := neq_ln x x'
        rcases hs : sameL x x' with _ | _
        · have hxx : ¬ x = x' := by unfold sameL at hs; simpa using hs
          have HT : Hid (decide (l = l') = false) := by
            show _ = _
            rw [decide_eq_false_iff_not]
            intro e
            rw [e, hx'] at hx
            injection hx with hx
            exact hxx hx.symm
          clear hx hx' hxx
          go_wp2_with fail
          go_region
          all_goals
            go_wp2_with fail
            go_ret
            exact ⟨ret_bool HT.out.symm, j + 1, rfl⟩
        · have hxx : x = x' := by unfold sameL at hs; simpa using hs
          have HT : Hid (l.take (k + 1) = l'.take (k + 1)) := by
            show _ = _
            rw [List.take_add_one, List.take_add_one, htk.out, hx, hx', hxx]
          clear hx hx' hxx
          go_wp2_with fail
          go_region
          all_goals
            go_wp2_with fail
            go_roundw
            case rel => exact ⟨k + 1, j + 1, by omega, by go_num, rfl, HT⟩
            case measure => simp [intOf]; omega
      · obtain rfl : k = n := by omega
        have HT : Hid (decide (l = l') = true) := by
          show _ = _
          rw [decide_eq_true_eq]
          have := htk.out
          rwa [List.take_of_length_le (by omega), List.take_of_length_le (by omega)] at this
        go_wp2_with fail
        go_ret
        exact ⟨ret_bool HT.out.symm, j, rfl⟩
  · have hnn : ((n : Int) != (n' : Int)) = true := by simp; omega
    have HT : Hid (decide (l = l') = false) := by
      show _ = _
      rw [decide_eq_false_iff_not]
      intro e
      have h1 := h.1
      have h2 := h'.1
      rw [e] at h1
      omega
    clear h h' hn
    go_enter Tryd.func13, Tryd.ntmps13
    go_wp2_with fail
    go_ret
    exact ⟨ret_bool HT.out.symm, 0, rfl⟩
end Go.Proofs.YthgpocbmkmmecaaDoor
