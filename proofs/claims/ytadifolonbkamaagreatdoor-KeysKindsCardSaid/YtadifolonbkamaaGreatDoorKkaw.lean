/- Lines in memory; '==' of faults and of lines. The walks of the developers' isCommand, isEnvironment. -/
import Derived.Test.YtadifolonbkamaaGreatDoorKkao
import Derived.Test.YtadifolonbkamaaGreatDoorKkaa
import Derived.Laws.StructEq
import Derived.BigQuiet
import Derived.Deep.QuietTactic
import Derived.Test.YtadifolonbkamaaGreatDoorKkav
namespace Go.Proofs.YtadifolonbkamaaGreatDoor
open Go.RowKit
/-- One line's cells, all lines' cells. -/
def lnCells (x : Ln) : List Value := [.string (str x.s), .string (str x.k), .string (str x.v), .int .i64 x.n]
def lns (l : List Ln) : List Value := l.flatMap lnCells
theorem block_addW (a : Addr) (n : Nat) : (a.add n).block = a.block := by unfold Addr.add; split <;> rfl
/-- A row of lines. -/
def LnsAt (w : World) (B : Nat) (A : Option Addr) (n : Nat) (l : List Ln) : Prop :=
  l.length = n ∧ n ≤ maxLen ∧ (0 < n → ∃ ad, A = some ad ∧ ad.block < B ∧ ∀ j u, (lns l)[j]? = some u → w.cell? (ad.add j) = some u)
theorem LnsAt.none_ {w : World} {B : Nat} {A : Option Addr} : LnsAt w B A 0 [] := ⟨rfl, Nat.zero_le _, fun h => by omega⟩
theorem LnsAt.below {w w' : World} {B n : Nat} {A : Option Addr} {l : List Ln} (h : LnsAt w B A n l) (hb : Below B w w') : LnsAt w' B A n l :=
  ⟨h.1, h.2.1, fun hn => by
    obtain ⟨ad, e, hB, hc⟩ := h.2.2 hn
    exact ⟨ad, e, hB, fun j x hj => (hb.cell (by rw [block_addW]; exact hB)).trans (hc j x hj)⟩⟩
theorem LnsAt.wide {w : World} {B B' n : Nat} {A : Option Addr} {l : List Ln} (h : LnsAt w B A n l) (hB : B ≤ B') : LnsAt w B' A n l :=
  ⟨h.1, h.2.1, fun hn => by
    obtain ⟨ad, e, h2, hc⟩ := h.2.2 hn
    exact ⟨ad, e, by omega, hc⟩⟩
theorem LnsAt.drewN {w : World} {B n : Nat} {A : Option Addr} {l : List Ln} (h : LnsAt w B A n l) (j : Nat) : LnsAt (w.drewN j) B A n l := h
theorem add_step (ad : Addr) (i j : Nat) (w : World) (v : Value) (h : w.cell? (ad.add (i + j)) = some v) : w.cell? ((ad.add i).add j) = some v := by
  have : (ad.add i).add j = ad.add (i + j) := by
    unfold Addr.add
    by_cases hi : i = 0 <;> by_cases hj : j = 0 <;> simp [hi, hj, Nat.add_assoc]
  rw [this]; exact h
theorem lns_get (l : List Ln) (j : Nat) (x : Ln) (h : l[j]? = some x) (i : Nat) (hi : i < 4) : (lns l)[j * 4 + i]? = (lnCells x)[i]? := by
  induction l generalizing j with
  | nil => simp at h
  | cons y l ih =>
    have e : lns (y :: l) = lnCells y ++ lns l := by simp [lns]
    rw [e]
    cases j with
    | zero =>
      simp only [List.getElem?_cons_zero, Option.some.injEq] at h
      subst h
      rw [Nat.zero_mul, Nat.zero_add, List.getElem?_append_left (by show i < 4; exact hi)]
    | succ j =>
      rw [List.getElem?_cons_succ] at h
      rw [List.getElem?_append_right (by show 4 ≤ _; omega)]
      show (lns l)[(j + 1) * 4 + i - 4]? = _
      rw [show (j + 1) * 4 + i - 4 = j * 4 + i by omega]
      exact ih j h
/-- The four cells of a line. -/
def LnCell (w : World) (a : Addr) (x : Ln) : Prop :=
  w.cell? a = some (.string (str x.s)) ∧ w.cell? ⟨a.block, a.off + 1, none⟩ = some (.string (str x.k)) ∧ w.cell? ⟨a.block, a.off + 2, none⟩ = some (.string (str x.v)) ∧ w.cell? ⟨a.block, a.off + 3, none⟩ = some (.int .i64 x.n)
theorem LnsAt.at_ {w : World} {B n : Nat} {A : Option Addr} {l : List Ln} (h : LnsAt w B A n l) {k : Nat} (hk : k < n) :
    ∃ ad x, A = some ad ∧ ad.block < B ∧ l[k]? = some x ∧ LnCell w (ad.add (k * 4)) x := by
  obtain ⟨h1, _, h4⟩ := h
  obtain ⟨ad, e, hb, hc⟩ := h4 (by omega)
  have hl : k < l.length := by omega
  have hx := List.getElem?_eq_getElem hl
  have c0 := hc (k * 4 + 0) _ (lns_get l k _ hx 0 (by omega))
  have c1 := add_step ad (k * 4) 1 w _ (hc (k * 4 + 1) _ (lns_get l k _ hx 1 (by omega)))
  have c2 := add_step ad (k * 4) 2 w _ (hc (k * 4 + 2) _ (lns_get l k _ hx 2 (by omega)))
  have c3 := add_step ad (k * 4) 3 w _ (hc (k * 4 + 3) _ (lns_get l k _ hx 3 (by omega)))
  exact ⟨ad, l[k], e, hb, hx, c0, c1, c2, c3⟩
theorem LnCell.below {w w' : World} {B : Nat} {a : Addr} {x : Ln} (h : LnCell w a x) (hb : Below B w w') (ha : a.block < B) : LnCell w' a x := by
  obtain ⟨c0, c1, c2, c3⟩ := h
  exact ⟨(hb.cell ha).trans c0, (hb.cell (p := ⟨a.block, a.off + 1, none⟩) ha).trans c1, (hb.cell (p := ⟨a.block, a.off + 2, none⟩) ha).trans c2, (hb.cell (p := ⟨a.block, a.off + 3, none⟩) ha).trans c3⟩
theorem eq_fault (w : World) (d : Nat) (a b c e : Int) : (Op.eqFields (d + 1) #[.int .i64 a, .int .i64 b] #[.int .i64 c, .int .i64 e] (Tryz.prog.fieldsOf 37).toList).run Tryz.prog w = .ok (a == c && b == e) w := by
  generalize hg : (Tryz.prog.fieldsOf 37).toList = fs
  have hm : fs.map (fun f => (decide (f.name = "_"), f.type, f.offset)) = [(false, 32, 0), (false, 3, 1)] := by rw [← hg]; kernel_rfl
  clear hg
  rcases fs with _ | ⟨f0, _ | ⟨f1, _ | ⟨f2, fs⟩⟩⟩
  · simp at hm
  · simp at hm
  · simp only [List.map_cons, List.map_nil, List.cons.injEq, Prod.mk.injEq, decide_eq_false_iff_not, and_true] at hm
    obtain ⟨⟨n0, t0, o0⟩, n1, t1, o1⟩ := hm
    have p0 : ∀ w : World, (part 32 #[.int .i64 a, .int .i64 b] 0).run Tryz.prog w = .ok (.int .i64 a) w := fun w => by kernel_rfl
    have p1 : ∀ w : World, (part 32 #[.int .i64 c, .int .i64 e] 0).run Tryz.prog w = .ok (.int .i64 c) w := fun w => by kernel_rfl
    have q0 : ∀ w : World, (part 3 #[.int .i64 a, .int .i64 b] 1).run Tryz.prog w = .ok (.int .i64 b) w := fun w => by kernel_rfl
    have q1 : ∀ w : World, (part 3 #[.int .i64 c, .int .i64 e] 1).run Tryz.prog w = .ok (.int .i64 e) w := fun w => by kernel_rfl
    have r0 := fun w : World => run_equalIn_int (P := Tryz.prog) w d 32 .i64 _ a c Tryz.underlying32
    have r1 := fun w : World => run_equalIn_int (P := Tryz.prog) w d 3 .i64 _ b e Tryz.underlying3
    simp only [Op.eqFields, n0, n1, t0, t1, o0, o1, ne_eq, not_false_eq_true, if_true, Sem.run_bind, p0, p1, Result.andThen_ok]
    rw [r0]
    simp only [Result.andThen_ok]
    cases h : (a == c)
    · simp
    · simp only [Bool.not_true, Bool.false_eq_true, if_false, Sem.run_bind, q0, q1, Result.andThen_ok]
      rw [r1]
      cases h2 : (b == e) <;> simp
  · simp at hm
theorem run_eql_fault (w : World) (a b c d : Int) : (binOp .eql 37 (.agg #[.int .i64 a, .int .i64 b]) (.agg #[.int .i64 c, .int .i64 d])).run Tryz.prog w = .ok (.bool (a == c && b == d)) w := by
  rw [run_eql_struct, run_equalIn_struct (P := Tryz.prog) w 9999 37 _ _ (by kernel_rfl) (by kernel_rfl), eq_fault]
  rfl
end Go.Proofs.YtadifolonbkamaaGreatDoor
namespace Go.Proofs.YtadifolonbkamaaGreatDoor
open Go.RowKit
theorem rowW {w : World} {B n : Nat} {A : Option Addr} {l : List (List UInt8)} (h : Wd.RowAt w B A n l) : RowAt w B A n l := h
theorem split_out (s : ByteArray) (hs : s.size ≤ 140737488355327) (w : World) :
    Calls Tryz.prog 82 #[.string s] w fun e w' => ∃ (A : Option Addr) (n c : Nat), e = .returned (.tuple #[.slice A n c, .int .i64 (Wd.splitW s.data.toList).2]) ∧ RowAt w' w'.heap.size A n (Wd.splitW s.data.toList).1 ∧ Below w.heap.size w w' := by
  refine (Wd.Split_any s (by unfold maxLen; omega) (by have := Wd.topS_le s.data.toList; rw [size_list] at this; omega) w).mono ?_
  rintro e w' ⟨A, n, c, he, _, _, h, hb⟩
  exact ⟨A, n, c, he, rowW h, hb⟩
/-- What is behind a first '-'. -/
def dashT (s : ByteArray) : ByteArray := str (Lib.trimPrefix s.data.toList [45])
theorem dashT_size (s : ByteArray) : (dashT s).size ≤ s.size := by
  unfold dashT Lib.trimPrefix
  rw [str_size]
  split
  · rw [List.length_drop, size_list]; omega
  · rw [size_list]; exact Nat.le_refl _
/-- Is a text a command? -/
def cmdW (l : List UInt8) : Bool := decide ((Wd.splitW l).2 = 0) && (match (Wd.splitW l).1 with | [] => false | x :: _ => !decide (x = []))
def cmdS (s : ByteArray) : Bool := cmdW (dashT s).data.toList
/-- Is a text a row of assignments? -/
def envS (s : ByteArray) : Bool := decide ((Wd.splitW s.data.toList).2 = 0) && (!decide ((Wd.splitW s.data.toList).1 = []) && !(Wd.splitW s.data.toList).1.any noAsgL)
set_option maxHeartbeats 2000000 in
theorem isEnv_any (s : ByteArray) (hs : s.size ≤ 140737488355327) (w : World) :
    Calls Tryz.prog 55 #[.string s] w fun e w' => e = .returned (.bool (envS s)) ∧ Below w.heap.size w w' := by
  have HS := Lib.hid fun w => split_out s hs w
  have HML := Lib.hid (Wd.split_mem_le s.data.toList)
  have hsz : s.data.toList.length = s.size := size_list s
  unfold envS
  generalize Wd.splitW s.data.toList = sp at *
  obtain ⟨l, k⟩ := sp
  dsimp only at HS HML ⊢
  by_cases hk : k = 0
  · subst hk
    have HL : Hid (∀ x ∈ l, x.length ≤ maxLen) := fun x hx => by have := HML.out rfl x hx; unfold maxLen; omega
    rw [decide_eq_true rfl, Bool.true_and]
    by_cases hl : l = []
    · subst hl
      go_enter Tryz.func55, Tryz.ntmps55
      go_wp2_with fail
      refine (HS.out _).mono ?_
      rintro e w1 ⟨A, n, c, rfl, hr, hb⟩
      obtain rfl : n = 0 := hr.1.symm
      go_wp2_with fail
      go_ret
      exact ⟨rfl, hb⟩
    · have h0 : 0 < l.length := List.length_pos_iff.2 hl
      rw [decide_eq_false hl, Bool.not_false, Bool.true_and]
      have HC : Hid (∀ A n c w1, RowAt w1 w1.heap.size A n l → Calls Tryz.prog 84 #[.slice A n c, .func (.func 85) #[] #[]] w1 fun e w' => e = .returned (.bool (l.any noAsgL)) ∧ Below w1.heap.size w1 w') := fun A n c w1 hr => asgHas_any A n c _ l w1 hr (Nat.le_refl _) HL.out
      rcases ha : l.any noAsgL with _ | _
      all_goals
        rw [ha] at HC
        clear ha hl
        go_enter Tryz.func55, Tryz.ntmps55
        go_wp2_with fail
        refine (HS.out _).mono ?_
        rintro e w1 ⟨A, n, c, rfl, hr, hb⟩
        have hn : l.length = n := hr.1
        have i0 : (0 : Int) < (n : Int) := by omega
        have i0n : 0 < n := by omega
        have HC1 := Lib.hid (HC.out A n c w1 hr)
        clear hr
        go_wp2_with (go_at_call 84; refine HC1.out.mono ?_; rintro e w2 ⟨rfl, hb2⟩)
        go_ret
        exact ⟨rfl, more hb hb2⟩
  · have hk0 : ((k : Int) == 0) = false := by simp; omega
    rw [decide_eq_false hk, Bool.false_and]
    go_enter Tryz.func55, Tryz.ntmps55
    go_wp2_with fail
    refine (HS.out _).mono ?_
    rintro e w1 ⟨A, n, c, rfl, hr, hb⟩
    go_wp2_with fail
    go_ret
    exact ⟨rfl, hb⟩
set_option maxHeartbeats 2000000 in
theorem isCmd_any (s : ByteArray) (hs : s.size ≤ 140737488355327) (w : World) :
    Calls Tryz.prog 54 #[.string s] w fun e w' => e = .returned (.bool (cmdS s)) ∧ Below w.heap.size w w' := by
  have HS := Lib.hid fun w => split_out (dashT s) (by have := dashT_size s; omega) w
  have HP : Hid (∀ w, Calls Tryz.prog 83 #[.string s, .string ⟨#[45]⟩] w fun e w' => e = .returned (.string (dashT s)) ∧ w = w') := fun w => by
    refine (Tryz.strings_TrimPrefix s ⟨#[45]⟩ w).mono ?_
    rintro e w' ⟨he, hw⟩
    exact ⟨he, hw.symm⟩
  unfold cmdS cmdW
  generalize dashT s = d at *
  generalize Wd.splitW d.data.toList = sp at *
  obtain ⟨l, k⟩ := sp
  dsimp only at HS ⊢
  by_cases hk : k = 0
  · subst hk
    rw [decide_eq_true rfl, Bool.true_and]
    cases l with
    | nil =>
      go_enter Tryz.func54, Tryz.ntmps54
      go_wp2_with (go_at_call 83; refine (HP.out _).mono ?_; rintro e w1 ⟨rfl, rfl⟩)
      refine (HS.out _).mono ?_
      rintro e w1 ⟨A, n, c, rfl, hr, hb⟩
      obtain rfl : n = 0 := hr.1.symm
      go_wp2_with fail
      go_ret
      exact ⟨rfl, hb⟩
    | cons x l =>
      have hxe : (str x).toList.isEmpty = decide (x = []) := by rw [isEmpty_iff]; rfl
      dsimp only
      rcases hd : decide (x = []) with _ | _
      all_goals
        rw [hd] at hxe
        clear hd
        go_enter Tryz.func54, Tryz.ntmps54
        go_wp2_with (go_at_call 83; refine (HP.out _).mono ?_; rintro e w1 ⟨rfl, rfl⟩)
        refine (HS.out _).mono ?_
        rintro e w1 ⟨A, n, c, rfl, hr, hb⟩
        have hn : (x :: l).length = n := hr.1
        have hn0 : 0 < n := by rw [← hn]; simp
        have i0 : (0 : Int) < (n : Int) := by omega
        have i0n : 0 < n := by omega
        obtain ⟨ad, y, rfl, _, hy, q0⟩ := hr.at_ hn0
        rw [show ad.add 0 = ad from by simp [Addr.add]] at q0
        simp only [List.getElem?_cons_zero, Option.some.injEq] at hy
        subst hy
        clear hr hn
        go_wp2_with fail
        go_ret
        exact ⟨rfl, hb⟩
  · have hk0 : ((k : Int) == 0) = false := by simp; omega
    rw [decide_eq_false hk, Bool.false_and]
    go_enter Tryz.func54, Tryz.ntmps54
    go_wp2_with (go_at_call 83; refine (HP.out _).mono ?_; rintro e w1 ⟨rfl, rfl⟩)
    refine (HS.out _).mono ?_
    rintro e w1 ⟨A, n, c, rfl, hr, hb⟩
    go_wp2_with fail
    go_ret
    exact ⟨rfl, hb⟩
end Go.Proofs.YtadifolonbkamaaGreatDoor
