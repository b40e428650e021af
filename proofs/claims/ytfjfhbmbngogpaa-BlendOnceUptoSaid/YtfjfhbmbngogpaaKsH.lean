/- Lines in memory; '==' of faults and of lines. -/
import Derived.Test.YtfjfhbmbngogpaaLnL
import Derived.Test.YtfjfhbmbngogpaaKsW
import Derived.Laws.StructEq
import Derived.BigQuiet
import Derived.Deep.QuietTactic
namespace Go.Proofs.Ytfjfhbmbngogpaa
open Go.RowKit

/-- One line's cells, all lines' cells. -/
def lnCells (x : Ln) : List Value := [.string (str x.s), .string (str x.k), .string (str x.v), .int .i64 x.n]
def lns (l : List Ln) : List Value := l.flatMap lnCells
theorem lns_length (l : List Ln) : (lns l).length = l.length * 4 := by
  induction l with
  | nil => rfl
  | cons x l ih =>
    have e : lns (x :: l) = lnCells x ++ lns l := by simp [lns]
    rw [e, List.length_append, ih, List.length_cons]
    simp only [lnCells, List.length_cons, List.length_nil]
    omega
theorem lns_snoc (l : List Ln) (x : Ln) : lns (l ++ [x]) = lns l ++ lnCells x := by simp [lns]
theorem lineInfo : (Try.prog.info? 30).map (fun i => (i.zero, i.size, i.bytes)) = some (some (.agg #[.string ⟨#[]⟩, .string ⟨#[]⟩, .string ⟨#[]⟩, .int .i64 0]), 4, 56) := by kernel_rfl

theorem block_addW (a : Addr) (n : Nat) : (a.add n).block = a.block := by unfold Addr.add; split <;> rfl
/-- A row of lines. -/
def LnsAt (w : World) (B : Nat) (A : Option Addr) (n : Nat) (l : List Ln) : Prop :=
  l.length = n ∧ n ≤ maxLen ∧ (0 < n → ∃ ad, A = some ad ∧ ad.block < B ∧ ∀ j u, (lns l)[j]? = some u → w.cell? (ad.add j) = some u)
theorem LnsAt.none_ {w : World} {B : Nat} {A : Option Addr} : LnsAt w B A 0 [] := ⟨rfl, Nat.zero_le _, fun h => by omega⟩
theorem LnsAt.below {w w' : World} {B n : Nat} {A : Option Addr} {l : List Ln} (h : LnsAt w B A n l) (hb : Below B w w') : LnsAt w' B A n l :=
  ⟨h.1, h.2.1, fun hn => by
    obtain ⟨ad, e, hB, hc⟩ := h.2.2 hn
    exact ⟨ad, e, hB, fun j x hj => (hb.cell (by rw [block_addW]; exact hB)).trans (hc j x hj)⟩⟩
theorem LnsAt.wide {w : World} {B B' n : Nat} {A : Option Addr} {l : List Ln} (h : LnsAt w B A n l) (hB : B ≤ B') : LnsAt w B' A n l :=
  ⟨h.1, h.2.1, fun hn => by
    obtain ⟨ad, e, h2, hc⟩ := h.2.2 hn
    exact ⟨ad, e, by omega, hc⟩⟩
theorem LnsAt.drewN {w : World} {B n : Nat} {A : Option Addr} {l : List Ln} (h : LnsAt w B A n l) (j : Nat) : LnsAt (w.drewN j) B A n l := h
theorem lnsAt_of_own {w : World} {base n nv cv : Nat} {A : Option Addr} {l : List Ln} (h : w.ownsRow base 30 4 (.slice A nv cv) n (lns l)) (hl : l.length = n) (hn : n ≤ maxLen) : nv = n ∧ LnsAt w w.heap.size A n l := by
  rcases h.2 with ⟨h1, h2⟩ | ⟨g, cap, cur, h1, h2, h3, h4, h5, h6, h7⟩
  · injection h1 with h1 h11 h12
    subst h2
    exact ⟨h11, hl, Nat.zero_le _, fun h => by omega⟩
  · injection h1 with h1 h11 h12
    subst h1 h11 h12
    exact ⟨rfl, hl, hn, fun _ => ⟨_, rfl, (Array.getElem?_eq_some_iff.1 h3).1, fun j x hj => h.cells (g := g) rfl j x hj⟩⟩
theorem add_cellO (g j : Nat) : (⟨g, 0, none⟩ : Addr).add j = ⟨g, j, none⟩ := by unfold Addr.add; split <;> simp_all
theorem add_step (ad : Addr) (i j : Nat) (w : World) (v : Value) (h : w.cell? (ad.add (i + j)) = some v) : w.cell? ((ad.add i).add j) = some v := by
  have : (ad.add i).add j = ad.add (i + j) := by
    unfold Addr.add
    by_cases hi : i = 0 <;> by_cases hj : j = 0 <;> simp [hi, hj, Nat.add_assoc]
  rw [this]; exact h
theorem lns_get (l : List Ln) (j : Nat) (x : Ln) (h : l[j]? = some x) (i : Nat) (hi : i < 4) : (lns l)[j * 4 + i]? = (lnCells x)[i]? := by
  induction l generalizing j with
  | nil => simp at h
  | cons y l ih =>
    have e : lns (y :: l) = lnCells y ++ lns l := by simp [lns]
    rw [e]
    cases j with
    | zero =>
      simp only [List.getElem?_cons_zero, Option.some.injEq] at h
      subst h
      rw [Nat.zero_mul, Nat.zero_add, List.getElem?_append_left (by show i < 4; exact hi)]
    | succ j =>
      rw [List.getElem?_cons_succ] at h
      rw [List.getElem?_append_right (by show 4 ≤ _; omega)]
      show (lns l)[(j + 1) * 4 + i - 4]? = _
      rw [show (j + 1) * 4 + i - 4 = j * 4 + i by omega]
      exact ih j h
/-- The four cells of a line. -/
def LnCell (w : World) (a : Addr) (x : Ln) : Prop :=
  w.cell? a = some (.string (str x.s)) ∧ w.cell? ⟨a.block, a.off + 1, none⟩ = some (.string (str x.k)) ∧ w.cell? ⟨a.block, a.off + 2, none⟩ = some (.string (str x.v)) ∧ w.cell? ⟨a.block, a.off + 3, none⟩ = some (.int .i64 x.n)
theorem LnsAt.at_ {w : World} {B n : Nat} {A : Option Addr} {l : List Ln} (h : LnsAt w B A n l) {k : Nat} (hk : k < n) :
    ∃ ad x, A = some ad ∧ ad.block < B ∧ l[k]? = some x ∧ LnCell w (ad.add (k * 4)) x := by
  obtain ⟨h1, _, h4⟩ := h
  obtain ⟨ad, e, hb, hc⟩ := h4 (by omega)
  have hl : k < l.length := by omega
  have hx := List.getElem?_eq_getElem hl
  have c0 := hc (k * 4 + 0) _ (lns_get l k _ hx 0 (by omega))
  have c1 := add_step ad (k * 4) 1 w _ (hc (k * 4 + 1) _ (lns_get l k _ hx 1 (by omega)))
  have c2 := add_step ad (k * 4) 2 w _ (hc (k * 4 + 2) _ (lns_get l k _ hx 2 (by omega)))
  have c3 := add_step ad (k * 4) 3 w _ (hc (k * 4 + 3) _ (lns_get l k _ hx 3 (by omega)))
  exact ⟨ad, l[k], e, hb, hx, c0, c1, c2, c3⟩
theorem LnCell.below {w w' : World} {B : Nat} {a : Addr} {x : Ln} (h : LnCell w a x) (hb : Below B w w') (ha : a.block < B) : LnCell w' a x := by
  obtain ⟨c0, c1, c2, c3⟩ := h
  exact ⟨(hb.cell ha).trans c0, (hb.cell (p := ⟨a.block, a.off + 1, none⟩) ha).trans c1, (hb.cell (p := ⟨a.block, a.off + 2, none⟩) ha).trans c2, (hb.cell (p := ⟨a.block, a.off + 3, none⟩) ha).trans c3⟩

theorem eq_line (w : World) (d : Nat) (a b c a' b' c' : ByteArray) (n n' : Int) : (Op.eqFields (d + 1) #[.string a, .string b, .string c, .int .i64 n] #[.string a', .string b', .string c', .int .i64 n'] (Try.prog.fieldsOf 30).toList).run Try.prog w =
    .ok (a.toList == a'.toList && (b.toList == b'.toList && (c.toList == c'.toList && n == n'))) w := by
  generalize hg : (Try.prog.fieldsOf 30).toList = fs
  have hm : fs.map (fun f => (decide (f.name = "_"), f.type, f.offset)) = [(false, 9, 0), (false, 9, 1), (false, 9, 2), (false, 3, 3)] := by rw [← hg]; kernel_rfl
  clear hg
  rcases fs with _ | ⟨f0, _ | ⟨f1, _ | ⟨f2, _ | ⟨f3, _ | ⟨f4, fs⟩⟩⟩⟩⟩
  · simp at hm
  · simp at hm
  · simp at hm
  · simp at hm
  · simp only [List.map_cons, List.map_nil, List.cons.injEq, Prod.mk.injEq, decide_eq_false_iff_not, and_true] at hm
    obtain ⟨⟨n0, t0, o0⟩, ⟨n1, t1, o1⟩, ⟨n2, t2, o2⟩, n3, t3, o3⟩ := hm
    have p0 : ∀ (w : World) (a b c : ByteArray) (n : Int), (part 9 #[.string a, .string b, .string c, .int .i64 n] 0).run Try.prog w = .ok (.string a) w := fun w a b c n => by kernel_rfl
    have p1 : ∀ (w : World) (a b c : ByteArray) (n : Int), (part 9 #[.string a, .string b, .string c, .int .i64 n] 1).run Try.prog w = .ok (.string b) w := fun w a b c n => by kernel_rfl
    have p2 : ∀ (w : World) (a b c : ByteArray) (n : Int), (part 9 #[.string a, .string b, .string c, .int .i64 n] 2).run Try.prog w = .ok (.string c) w := fun w a b c n => by kernel_rfl
    have p3 : ∀ (w : World) (a b c : ByteArray) (n : Int), (part 3 #[.string a, .string b, .string c, .int .i64 n] 3).run Try.prog w = .ok (.int .i64 n) w := fun w a b c n => by kernel_rfl
    have r0 := fun (w : World) (x y : ByteArray) => run_equalIn_string (P := Try.prog) w d 9 x y Try.underlying9
    have r1 := fun w : World => run_equalIn_int (P := Try.prog) w d 3 .i64 _ n n' Try.underlying3
    simp only [Op.eqFields, n0, n1, n2, n3, t0, t1, t2, t3, o0, o1, o2, o3, ne_eq, not_false_eq_true, if_true, Sem.run_bind, p0, Result.andThen_ok, r0]
    cases h : (a.toList == a'.toList)
    · simp
    · simp only [Bool.not_true, Bool.false_eq_true, if_false, Sem.run_bind, p1, r0, Result.andThen_ok]
      cases h : (b.toList == b'.toList)
      · simp
      · simp only [Bool.not_true, Bool.false_eq_true, if_false, Sem.run_bind, p2, r0, Result.andThen_ok]
        cases h : (c.toList == c'.toList)
        · simp
        · simp only [Bool.not_true, Bool.false_eq_true, if_false, Sem.run_bind, p3, Result.andThen_ok]
          rw [r1]
          cases h2 : (n == n') <;> simp
  · simp at hm
theorem run_neq_line (w : World) (a b c a' b' c' : ByteArray) (n n' : Int) : (binOp .neq 30 (.agg #[.string a, .string b, .string c, .int .i64 n]) (.agg #[.string a', .string b', .string c', .int .i64 n'])).run Try.prog w =
    .ok (.bool (!(a.toList == a'.toList && (b.toList == b'.toList && (c.toList == c'.toList && n == n'))))) w := by
  rw [run_neq_struct, run_equalIn_struct (P := Try.prog) w 9999 30 _ _ (by kernel_rfl) (by kernel_rfl), eq_line]
  rfl
theorem run_eql_line (w : World) (a b c a' b' c' : ByteArray) (n n' : Int) : (binOp .eql 30 (.agg #[.string a, .string b, .string c, .int .i64 n]) (.agg #[.string a', .string b', .string c', .int .i64 n'])).run Try.prog w =
    .ok (.bool (a.toList == a'.toList && (b.toList == b'.toList && (c.toList == c'.toList && n == n')))) w := by
  rw [run_eql_struct, run_equalIn_struct (P := Try.prog) w 9999 30 _ _ (by kernel_rfl) (by kernel_rfl), eq_line]
  rfl
end Go.Proofs.Ytfjfhbmbngogpaa
