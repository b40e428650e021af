/- The walk of the developers' Parse. -/
import Derived.Test.YtadifolonbkamaaGreatDoorKvbc
namespace Go.Proofs.YtadifolonbkamaaGreatDoor.Sn
open Go.RowKit
attribute [local go_sem] Oper.semAt_some
theorem sumV_app (a b : List (List UInt8)) (acc : Nat) : sumV acc (a ++ b) = match sumV acc a with | none => none | some n => sumV n b := by
  induction a generalizing acc with
  | nil => rfl
  | cons w a ih =>
    rw [List.cons_append, sumV, sumV]
    cases wordV w with
    | none => rfl
    | some v =>
      dsimp only
      by_cases h : acc + v ≤ maxSpan
      · rw [if_pos h, if_pos h, ih]
      · rw [if_neg h, if_neg h]
def wordsP (ps : List ByteArray) : List (List UInt8) := (ps.map fun p => p.data.toList).filter (fun p => !p.isEmpty)
theorem wordsP_app (a b : List ByteArray) : wordsP (a ++ b) = wordsP a ++ wordsP b := by simp [wordsP]
theorem wordsP_pieces (s : ByteArray) : wordsP (piecesS s) = blanksL [32] s.data.toList := by
  unfold wordsP piecesS blanksL
  rw [bgo_splitL, List.map_map]
  congr 1
  exact List.map_id _
def parseN (s : ByteArray) : Nat := (spanL s.data.toList).getD 0
def parseOk (s : ByteArray) : Bool := (spanL s.data.toList).isSome
theorem parse_done {s : ByteArray} {n : Nat} (h : s.data.toList ≠ infL) (hs : sumV 0 (wordsP (piecesS s)) = some n) : parseN s = (if wordsP (piecesS s) = [] then 0 else n) ∧ parseOk s = decide (wordsP (piecesS s) ≠ []) := by
  unfold parseN parseOk spanL
  rw [if_neg h, ← wordsP_pieces, hs]
  by_cases h0 : wordsP (piecesS s) = []
  · simp [h0]
  · simp [h0]
theorem parse_sum0 {s : ByteArray} {n : Nat} (hs : sumV 0 (wordsP (piecesS s)) = some n) (h0 : wordsP (piecesS s) = []) : n = 0 := by
  rw [h0] at hs
  simpa [sumV] using hs.symm
theorem parse_done' {s : ByteArray} {n : Nat} (h : s.data.toList ≠ infL) (hs : sumV 0 (wordsP (piecesS s)) = some n) : parseN s = n ∧ parseOk s = decide (wordsP (piecesS s) ≠ []) := by
  obtain ⟨h1, h2⟩ := parse_done h hs
  refine ⟨?_, h2⟩
  rw [h1]
  split
  · next h0 => exact (parse_sum0 hs h0).symm
  · rfl
theorem parse_stop {s : ByteArray} {pre : List ByteArray} (h : s.data.toList ≠ infL) (hp : pre <+: piecesS s) (hs : sumV 0 (wordsP pre) = none) : parseN s = 0 ∧ parseOk s = false := by
  obtain ⟨post, hp⟩ := hp
  have h1 : sumV 0 (blanksL [32] s.data.toList) = none := by rw [← wordsP_pieces, ← hp, wordsP_app, sumV_app, hs]
  have h2 : blanksL [32] s.data.toList ≠ [] := by intro e; rw [e] at h1; simp [sumV] at h1
  unfold parseN parseOk spanL
  rw [if_neg h, if_neg h2, h1]
  exact ⟨rfl, rfl⟩
theorem sum_le {ws : List (List UInt8)} {n : Nat} (h : sumV 0 ws = some n) : n ≤ 6311433600 := ((sumV_some ws 0 n (Nat.zero_le _)).1 h).2.2
theorem sum_gap {pre : List ByteArray} {n : Nat} {x : ByteArray} (h : sumV 0 (wordsP pre) = some n) (hx : x.data.toList = []) : sumV 0 (wordsP (pre ++ [x])) = some n ∧ wordsP (pre ++ [x]) = wordsP pre := by
  have : wordsP [x] = [] := by simp [wordsP, hx]
  rw [wordsP_app, this, List.append_nil]
  exact ⟨h, rfl⟩
theorem sum_word {pre : List ByteArray} {n : Nat} {x : ByteArray} (h : sumV 0 (wordsP pre) = some n) (hx : x.data.toList ≠ []) :
    wordsP (pre ++ [x]) ≠ [] ∧ sumV 0 (wordsP (pre ++ [x])) = if wordOk x = true ∧ n + wordN x ≤ 6311433600 then some (n + wordN x) else none := by
  have e : wordsP [x] = [x.data.toList] := by simp [wordsP, hx]
  rw [wordsP_app, e]
  refine ⟨by simp, ?_⟩
  rw [sumV_app, h]
  dsimp only
  rw [sumV]
  unfold wordOk wordN
  cases wordV x.data.toList with
  | none => simp
  | some v =>
    show (if n + v ≤ 6311433600 then some (n + v) else none) = if true = true ∧ n + v ≤ 6311433600 then some (n + v) else none
    by_cases hv : n + v ≤ 6311433600
    · rw [if_pos hv, if_pos ⟨rfl, hv⟩]
    · rw [if_neg hv, if_neg (fun e => hv e.2)]
theorem word_le (s : ByteArray) : wordN s ≤ 6047999999395200 := by
  unfold wordN wordV
  split
  · simp
  · next h =>
    have h1 : ¬ 10 < (s.data.toList.takeWhile isDig).length := fun e => h (.inr (.inl e))
    have h2 : ∀ c ∈ s.data.toList.takeWhile isDig, isDig c = true := fun c hc => List.all_eq_true.1 List.all_takeWhile c hc
    have h3 := valL_lt _ h2
    have h4 : 10 ^ (s.data.toList.takeWhile isDig).length ≤ 10 ^ 10 := Nat.pow_le_pow_right (by omega) (by omega)
    exact unit_big _ _ (by omega) (unitL_le _)
theorem splitSeq_any (s : ByteArray) (w : World) :
    Calls Tryz.prog 75 #[.string s, .string ⟨#[32]⟩] w fun e w' => e = .returned (.func (.func 124) #[] #[.pointer (some ⟨w.heap.size + 1, 0, none⟩), .pointer (some ⟨w.heap.size, 0, none⟩), .pointer (some ⟨w.heap.size + 2, 0, none⟩)]) ∧
      w' = ((w.alloc (.cells #[.string s] 9)).alloc (.cells #[.string ⟨#[32]⟩] 9)).alloc (.cells #[.int .i64 0] 3) := by
  go_enter Tryz.func75, Tryz.ntmps75
  go_wp2
  go_ret
  exact ⟨rfl, rfl⟩
theorem parse_inf (s : ByteArray) (h : s = str infL) (w : World) :
    Calls Tryz.prog 51 #[.string s] w fun e w' => e = .returned (.tuple #[.int .i64 (parseN s), .bool (parseOk s)]) ∧ Below w.heap.size w w' := by
  have HN := Lib.hid (show parseN s = 1099511627776 by rw [h]; decide)
  have HO := Lib.hid (show parseOk s = true by rw [h]; decide)
  have e0 : (s.toList == [105, 110, 102, 105, 110, 105, 116, 121]) = true := by
    have := beq_str s (str infL)
    rw [Lib.toList_data (str infL)] at this
    rw [show ([105, 110, 102, 105, 110, 105, 116, 121] : List UInt8) = (str infL).data.toList from rfl, this]
    simpa using h
  clear h
  go_enter Tryz.func51, Tryz.ntmps51
  go_wp2
  refine bodyPost_ret (v := .tuple #[.int .i64 1099511627776, .bool true]) (by simp [results, Tryz.f51, go_sem]) rfl ⟨by rw [HN.out, HO.out]; rfl, ?_⟩
  exact ((Below.refl _ _).alloc (Nat.le_refl _) _).alloc (by simp) _
structure Mine (B n : Nat) (f : Bool) (W : World) : Prop where
  r0 : W.heap[B]? = some (.cells #[.int .i64 0] 3 (0, 0))
  r1 : W.heap[B + 1]? = some (.cells #[.bool false] 4 (0, 0))
  s0 : W.heap[B + 1 + 1]? = some (.cells #[.int .i64 n] 3 (0, 0))
  s1 : W.heap[B + 1 + 1 + 1]? = some (.cells #[.bool f] 4 (0, 0))
theorem Mine.cells {B n : Nat} {f : Bool} {W : World} (h : Mine B n f W) :
    (W.cell? ⟨B, 0, none⟩ = some (.int .i64 0) ∧ W.frozen? ⟨B, 0, none⟩ = false) ∧ (W.cell? ⟨B + 1, 0, none⟩ = some (.bool false) ∧ W.frozen? ⟨B + 1, 0, none⟩ = false) ∧
    (W.cell? ⟨B + 1 + 1, 0, none⟩ = some (.int .i64 n) ∧ W.frozen? ⟨B + 1 + 1, 0, none⟩ = false) ∧ (W.cell? ⟨B + 1 + 1 + 1, 0, none⟩ = some (.bool f) ∧ W.frozen? ⟨B + 1 + 1 + 1, 0, none⟩ = false) :=
  ⟨⟨Boxed.cell h.r0, Boxed.frozen h.r0⟩, ⟨Boxed.cell h.r1, Boxed.frozen h.r1⟩, ⟨Boxed.cell h.s0, Boxed.frozen h.s0⟩, ⟨Boxed.cell h.s1, Boxed.frozen h.s1⟩⟩
theorem Mine.below {B n : Nat} {f : Bool} {W W' : World} (h : Mine B n f W) (hb : Below (B + 1 + 1 + 1 + 1) W W') : Mine B n f W' :=
  ⟨(hb.block _ (by omega)).trans h.r0, (hb.block _ (by omega)).trans h.r1, (hb.block _ (by omega)).trans h.s0, (hb.block _ (by omega)).trans h.s1⟩
theorem Mine.sum {B n : Nat} {f : Bool} {W : World} (h : Mine B n f W) (m : Int) (k : Nat) (hm : m = k) : Mine B k f (W.setCell ⟨B + 1 + 1, 0, none⟩ (.int .i64 m)) := by
  subst hm
  exact ⟨(Below.heap_setCell W ⟨B + 1 + 1, 0, none⟩ _ _ (by show B ≠ B + 1 + 1; omega)).trans h.r0, (Below.heap_setCell W ⟨B + 1 + 1, 0, none⟩ _ _ (by show B + 1 ≠ B + 1 + 1; omega)).trans h.r1,
    Boxed.set _ h.s0, (Below.heap_setCell W ⟨B + 1 + 1, 0, none⟩ _ _ (by show B + 1 + 1 + 1 ≠ B + 1 + 1; omega)).trans h.s1⟩
theorem Mine.zero {B n : Nat} {f : Bool} {W : World} (h : Mine B n f W) : Mine B n f ((W.setCell ⟨B, 0, none⟩ (.int .i64 0)).setCell ⟨B + 1, 0, none⟩ (.bool false)) := by
  have h1 : Mine B n f (W.setCell ⟨B, 0, none⟩ (.int .i64 0)) :=
    ⟨Boxed.set _ h.r0, (Below.heap_setCell W ⟨B, 0, none⟩ _ _ (by show B + 1 ≠ B; omega)).trans h.r1, (Below.heap_setCell W ⟨B, 0, none⟩ _ _ (by show B + 1 + 1 ≠ B; omega)).trans h.s0, (Below.heap_setCell W ⟨B, 0, none⟩ _ _ (by show B + 1 + 1 + 1 ≠ B; omega)).trans h.s1⟩
  exact ⟨(Below.heap_setCell _ ⟨B + 1, 0, none⟩ _ _ (by show B ≠ B + 1; omega)).trans h1.r0, Boxed.set _ h1.r1, (Below.heap_setCell _ ⟨B + 1, 0, none⟩ _ _ (by show B + 1 + 1 ≠ B + 1; omega)).trans h1.s0, (Below.heap_setCell _ ⟨B + 1, 0, none⟩ _ _ (by show B + 1 + 1 + 1 ≠ B + 1; omega)).trans h1.s1⟩
theorem Mine.found {B n : Nat} {f : Bool} {W : World} (h : Mine B n f W) (g : Bool) : Mine B n g (W.setCell ⟨B + 1 + 1 + 1, 0, none⟩ (.bool g)) :=
  ⟨(Below.heap_setCell W ⟨B + 1 + 1 + 1, 0, none⟩ _ _ (by show B ≠ B + 1 + 1 + 1; omega)).trans h.r0, (Below.heap_setCell W ⟨B + 1 + 1 + 1, 0, none⟩ _ _ (by show B + 1 ≠ B + 1 + 1 + 1; omega)).trans h.r1,
    (Below.heap_setCell W ⟨B + 1 + 1 + 1, 0, none⟩ _ _ (by show B + 1 + 1 ≠ B + 1 + 1 + 1; omega)).trans h.s0, Boxed.set _ h.s1⟩
theorem below_join {B : Nat} {X Y Z : World} (h : Below B X Y) (k : Below B Y Z) : Below B X Z := h.trans k
theorem parse_boxes (s : ByteArray) (w : World) : Below w.heap.size w (((((((w.alloc (.cells #[.int .i64 0] 3)).alloc (.cells #[.bool false] 4)).alloc (.cells #[.int .i64 0] 3)).alloc (.cells #[.bool false] 4)).alloc (.cells #[.string s] 9)).alloc (.cells #[.string ⟨#[32]⟩] 9)).alloc (.cells #[.int .i64 0] 3)) ∧ Mine w.heap.size 0 false (((((((w.alloc (.cells #[.int .i64 0] 3)).alloc (.cells #[.bool false] 4)).alloc (.cells #[.int .i64 0] 3)).alloc (.cells #[.bool false] 4)).alloc (.cells #[.string s] 9)).alloc (.cells #[.string ⟨#[32]⟩] 9)).alloc (.cells #[.int .i64 0] 3)) ∧ SplitAt (w.heap.size + 1 + 1 + 1 + 1) s (((((((w.alloc (.cells #[.int .i64 0] 3)).alloc (.cells #[.bool false] 4)).alloc (.cells #[.int .i64 0] 3)).alloc (.cells #[.bool false] 4)).alloc (.cells #[.string s] 9)).alloc (.cells #[.string ⟨#[32]⟩] 9)).alloc (.cells #[.int .i64 0] 3)) ∧ (((((((w.alloc (.cells #[.int .i64 0] 3)).alloc (.cells #[.bool false] 4)).alloc (.cells #[.int .i64 0] 3)).alloc (.cells #[.bool false] 4)).alloc (.cells #[.string s] 9)).alloc (.cells #[.string ⟨#[32]⟩] 9)).alloc (.cells #[.int .i64 0] 3)).heap.size = w.heap.size + 1 + 1 + 1 + 1 + 3 := by
  have a0 := Boxed.new w 3 (.int .i64 0)
  have z0 := World.size_alloc w (.cells #[.int .i64 0] 3)
  have b0 : Below w.heap.size w _ := (Below.refl _ w).alloc (Nat.le_refl _) (.cells #[.int .i64 0] 3)
  generalize (w.alloc (.cells #[.int .i64 0] 3)) = w0 at *
  have a1 := Boxed.new w0 4 (.bool false)
  have z1 := World.size_alloc w0 (.cells #[.bool false] 4)
  have b1 := b0.alloc (by omega) (.cells #[.bool false] 4)
  replace a0 := a0.alloc (.cells #[.bool false] 4)
  generalize (w0.alloc (.cells #[.bool false] 4)) = w1 at *
  have a2 := Boxed.new w1 3 (.int .i64 0)
  have z2 := World.size_alloc w1 (.cells #[.int .i64 0] 3)
  have b2 := b1.alloc (by omega) (.cells #[.int .i64 0] 3)
  replace a0 := a0.alloc (.cells #[.int .i64 0] 3)
  replace a1 := a1.alloc (.cells #[.int .i64 0] 3)
  generalize (w1.alloc (.cells #[.int .i64 0] 3)) = w2 at *
  have a3 := Boxed.new w2 4 (.bool false)
  have z3 := World.size_alloc w2 (.cells #[.bool false] 4)
  have b3 := b2.alloc (by omega) (.cells #[.bool false] 4)
  replace a0 := a0.alloc (.cells #[.bool false] 4)
  replace a1 := a1.alloc (.cells #[.bool false] 4)
  replace a2 := a2.alloc (.cells #[.bool false] 4)
  generalize (w2.alloc (.cells #[.bool false] 4)) = w3 at *
  have a4 := Boxed.new w3 9 (.string s)
  have z4 := World.size_alloc w3 (.cells #[.string s] 9)
  have b4 := b3.alloc (by omega) (.cells #[.string s] 9)
  replace a0 := a0.alloc (.cells #[.string s] 9)
  replace a1 := a1.alloc (.cells #[.string s] 9)
  replace a2 := a2.alloc (.cells #[.string s] 9)
  replace a3 := a3.alloc (.cells #[.string s] 9)
  generalize (w3.alloc (.cells #[.string s] 9)) = w4 at *
  have a5 := Boxed.new w4 9 (.string ⟨#[32]⟩)
  have z5 := World.size_alloc w4 (.cells #[.string ⟨#[32]⟩] 9)
  have b5 := b4.alloc (by omega) (.cells #[.string ⟨#[32]⟩] 9)
  replace a0 := a0.alloc (.cells #[.string ⟨#[32]⟩] 9)
  replace a1 := a1.alloc (.cells #[.string ⟨#[32]⟩] 9)
  replace a2 := a2.alloc (.cells #[.string ⟨#[32]⟩] 9)
  replace a3 := a3.alloc (.cells #[.string ⟨#[32]⟩] 9)
  replace a4 := a4.alloc (.cells #[.string ⟨#[32]⟩] 9)
  generalize (w4.alloc (.cells #[.string ⟨#[32]⟩] 9)) = w5 at *
  have a6 := Boxed.new w5 3 (.int .i64 0)
  have z6 := World.size_alloc w5 (.cells #[.int .i64 0] 3)
  have b6 := b5.alloc (by omega) (.cells #[.int .i64 0] 3)
  replace a0 := a0.alloc (.cells #[.int .i64 0] 3)
  replace a1 := a1.alloc (.cells #[.int .i64 0] 3)
  replace a2 := a2.alloc (.cells #[.int .i64 0] 3)
  replace a3 := a3.alloc (.cells #[.int .i64 0] 3)
  replace a4 := a4.alloc (.cells #[.int .i64 0] 3)
  replace a5 := a5.alloc (.cells #[.int .i64 0] 3)
  rw [z0] at a1 z1
  rw [z1] at a2 z2
  rw [z2] at a3 z3
  rw [z3] at a4 z4
  rw [z4] at a5 z5
  rw [z5] at a6 z6
  exact ⟨b6, ⟨a0, a1, a2, a3⟩, ⟨a4, a5, a6⟩, z6⟩
def PI (w : World) (pre : List ByteArray) (W : World) : Prop :=
  ∃ n : Nat, sumV 0 (wordsP pre) = some n ∧ Mine w.heap.size n (decide (wordsP pre ≠ [])) W ∧ Below w.heap.size w W
def PX (w : World) (c : Code) (pre : List ByteArray) (W : World) : Prop :=
  c = .ret ∧ sumV 0 (wordsP pre) = none ∧ (∃ n f, Mine w.heap.size n f W) ∧ Below w.heap.size w W
set_option maxRecDepth 100000 in
set_option maxHeartbeats 4000000 in
theorem parse_other (s : ByteArray) (hs : s.size ≤ maxLen) (h : s ≠ str infL) (w : World) :
    Calls Tryz.prog 51 #[.string s] w fun e w' => e = .returned (.tuple #[.int .i64 (parseN s), .bool (parseOk s)]) ∧ Below w.heap.size w w' := by
  have e0 : (s.toList == [105, 110, 102, 105, 110, 105, 116, 121]) = false := by
    have := beq_str s (str infL)
    rw [Lib.toList_data (str infL)] at this
    rw [show ([105, 110, 102, 105, 110, 105, 116, 121] : List UInt8) = (str infL).data.toList from rfl, this]
    simpa using h
  have hinf := Lib.hid (show s.data.toList ≠ infL from fun e => h (eq_str.2 e))
  clear h
  refine (callsIn_wide (n := 9)).1 ?_
  refine callsIn_of_wp_marks Tryz.func51 rfl trivial ?_ rfl
  simp only [Tryz.ntmps51, List.size_toArray, List.length_cons, List.length_nil, Nat.reduceAdd, Nat.reduceSub, Array.replicate_succ, Array.replicate_zero, List.push_toArray, List.append_toArray, List.nil_append, List.cons_append]
  gi_wp2_with (refine ⟨trivial, ?_⟩; gi_at_call 75; refine (callsIn_wide.2 (splitSeq_any _ _)).mono ?_; rintro e w' ⟨rfl, rfl⟩)
  obtain ⟨hB0, hM0, hS0, hZ0⟩ := parse_boxes s w
  generalize (((((((w.alloc (.cells #[.int .i64 0] 3)).alloc (.cells #[.bool false] 4)).alloc (.cells #[.int .i64 0] 3)).alloc (.cells #[.bool false] 4)).alloc (.cells #[.string s] 9)).alloc (.cells #[.string ⟨#[32]⟩] 9)).alloc (.cells #[.int .i64 0] 3)) = W0 at *
  refine range_box (C := w.heap.size + 1 + 1 + 1 + 1) (D := w.heap.size + 1 + 1 + 1 + 1 + 3) rfl (by omega) rfl trivial (enters_of Tryz.func124 (by kernel_rfl) rfl) (by omega) (by omega)
    (split_seq _ (by omega) _ s hs W0 (by omega) hS0) (PI w) (PX w)
    (fun pre X Y ⟨n, a1, a2, a3⟩ hy => ⟨n, a1, a2.below hy, below_join a3 (hy.mono (by omega))⟩)
    (fun c pre X Y ⟨hc, a1, ⟨n, f, a2⟩, a3⟩ hy => ⟨hc, a1, ⟨n, f, a2.below hy⟩, below_join a3 (hy.mono (by omega))⟩)
    ⟨0, rfl, hM0, hB0⟩
    (fun x => { tmps := #[.string s, undef, .pointer (some ⟨w.heap.size, 0, none⟩), .pointer (some ⟨w.heap.size + 1, 0, none⟩), .pointer (some ⟨w.heap.size + 1 + 1, 0, none⟩), .pointer (some ⟨w.heap.size + 1 + 1 + 1, 0, none⟩), .string x, undef, undef, .string s, .bool false, .string s, .func (.func 124) #[] #[.pointer (some ⟨w.heap.size + 1 + 1 + 1 + 1 + 1, 0, none⟩), .pointer (some ⟨w.heap.size + 1 + 1 + 1 + 1, 0, none⟩), .pointer (some ⟨w.heap.size + 1 + 1 + 1 + 1 + 2, 0, none⟩)], .string x, undef, undef, undef, undef, undef, undef, undef, undef, undef, undef, undef, undef, undef, undef, undef, undef, undef, undef], defers := [] }) ?assign ?body ?done ?stop
  case assign =>
    intro l x W K hK
    gi_wp2
    exact hK
  case body =>
    rintro l pre x post W hxs ⟨n, hsum, hm, hb⟩ hD
    have hx : x.size ≤ maxLen := by
      have := piece_size (s := s) (x := x) (by rw [hxs]; simp)
      omega
    obtain ⟨⟨q0, f0⟩, ⟨q1, f1⟩, ⟨q2, f2⟩, ⟨q3, f3⟩⟩ := hm.cells
    have hle := sum_le hsum
    have hwl := word_le x
    have HM := Lib.hid hm
    have HB := Lib.hid hb
    clear hxs hm hb
    by_cases he : x.data.toList = []
    · obtain ⟨g1, g2⟩ := sum_gap hsum he
      have HG1 := Lib.hid g1
      have HG2 := Lib.hid g2
      have e1 : x.toList.isEmpty = true := by rw [isEmpty_iff]; simpa using he
      clear he g1 g2
      gi_wp2
      exact ⟨Kept.refl _ _ _, n, HG1.out, by rw [HG2.out]; exact HM.out, HB.out⟩
    · obtain ⟨g1, g2⟩ := sum_word hsum he
      have HG1 := Lib.hid (show decide (wordsP (pre ++ [x]) ≠ []) = true by simpa using g1)
      have e1 : x.toList.isEmpty = false := by rw [isEmpty_iff]; simpa using he
      clear he g1
      rcases hO : wordOk x with _ | _
      · rw [hO, if_neg (by simp)] at g2
        have HG2 := Lib.hid g2
        have HO := Lib.hid hO
        clear g2 hO
        gi_wp2_with (refine ⟨trivial, ?_⟩; gi_at_call 76; refine (CallsIn.inRound l (callsIn_wide.2 (parseWord_any _ hx _))).mono ?_; rintro e w' ⟨rfl, rfl⟩; rw [HO.out])
        refine ⟨((Kept.setCell _ _ (by show w.heap.size + 1 + 1 < _; omega)).trans (Kept.setCell _ _ (by show w.heap.size < _; omega))).trans (Kept.setCell _ _ (by show w.heap.size + 1 < _; omega)), rfl, HG2.out, ⟨n + wordN x, _, ((HM.out.sum _ (n + wordN x) (by omega)).zero)⟩, ?_⟩
        exact ((HB.out.setCell (p := ⟨w.heap.size + 1 + 1, 0, none⟩) (by show w.heap.size ≤ w.heap.size + 1 + 1; omega) _).setCell (p := ⟨w.heap.size, 0, none⟩) (Nat.le_refl _) _).setCell (p := ⟨w.heap.size + 1, 0, none⟩) (by show w.heap.size ≤ w.heap.size + 1; omega) _
      · by_cases hle2 : n + wordN x ≤ 6311433600
        · rw [hO, if_pos ⟨rfl, hle2⟩] at g2
          have HG2 := Lib.hid g2
          have HO := Lib.hid hO
          clear g2 hO
          have hle3 : (n : Int) + (wordN x : Int) ≤ 6311433600 := by omega
          gi_wp2_with (refine ⟨trivial, ?_⟩; gi_at_call 76; refine (CallsIn.inRound l (callsIn_wide.2 (parseWord_any _ hx _))).mono ?_; rintro e w' ⟨rfl, rfl⟩; rw [HO.out])
          refine ⟨(Kept.setCell _ _ (by show w.heap.size + 1 + 1 < _; omega)).trans (Kept.setCell _ _ (by show w.heap.size + 1 + 1 + 1 < _; omega)), n + wordN x, HG2.out, by rw [HG1.out]; exact (HM.out.sum _ (n + wordN x) (by omega)).found true, ?_⟩
          exact (HB.out.setCell (p := ⟨w.heap.size + 1 + 1, 0, none⟩) (by show w.heap.size ≤ w.heap.size + 1 + 1; omega) _).setCell (p := ⟨w.heap.size + 1 + 1 + 1, 0, none⟩) (by show w.heap.size ≤ w.heap.size + 1 + 1 + 1; omega) _
        · rw [hO, if_neg (by intro e; exact hle2 e.2)] at g2
          have HG2 := Lib.hid g2
          have HO := Lib.hid hO
          clear g2 hO
          have hle3 : 6311433600 < (n : Int) + (wordN x : Int) := by omega
          gi_wp2_with (refine ⟨trivial, ?_⟩; gi_at_call 76; refine (CallsIn.inRound l (callsIn_wide.2 (parseWord_any _ hx _))).mono ?_; rintro e w' ⟨rfl, rfl⟩; rw [HO.out])
          refine ⟨((Kept.setCell _ _ (by show w.heap.size + 1 + 1 < _; omega)).trans (Kept.setCell _ _ (by show w.heap.size < _; omega))).trans (Kept.setCell _ _ (by show w.heap.size + 1 < _; omega)), rfl, HG2.out, ⟨n + wordN x, _, ((HM.out.sum _ (n + wordN x) (by omega)).zero)⟩, ?_⟩
          exact ((HB.out.setCell (p := ⟨w.heap.size + 1 + 1, 0, none⟩) (by show w.heap.size ≤ w.heap.size + 1 + 1; omega) _).setCell (p := ⟨w.heap.size, 0, none⟩) (Nat.le_refl _) _).setCell (p := ⟨w.heap.size + 1, 0, none⟩) (by show w.heap.size ≤ w.heap.size + 1; omega) _
  case done =>
    rintro M W hM ⟨n, hsum, hm, hb⟩ hK
    obtain ⟨hN, hO⟩ := parse_done' hinf.out hsum
    have hle := sum_le hsum
    obtain ⟨f, hf⟩ : ∃ f, decide (wordsP (piecesS s) ≠ []) = f := ⟨_, rfl⟩
    rw [hf] at hm hO
    obtain ⟨⟨q0, f0⟩, ⟨q1, f1⟩, ⟨q2, f2⟩, ⟨q3, f3⟩⟩ := hm.cells
    have HN := Lib.hid hN
    have HO := Lib.hid hO
    have HK := Lib.hid ((Below.heap_setCell (W.setCell ⟨w.heap.size, 0, none⟩ (.int .i64 n)) ⟨w.heap.size + 1, 0, none⟩ (.bool f) M (by show M ≠ w.heap.size + 1; omega)).trans ((Below.heap_setCell W ⟨w.heap.size, 0, none⟩ (.int .i64 n) M (by show M ≠ w.heap.size; omega)).trans hK))
    have HB := Lib.hid (((hb.setCell (p := ⟨w.heap.size, 0, none⟩) (Nat.le_refl _) (.int .i64 n)).setCell (p := ⟨w.heap.size + 1, 0, none⟩) (by show w.heap.size ≤ w.heap.size + 1; omega) (.bool f)).drew)
    have R0 := Lib.hid (Boxed.set (.int .i64 n) hm.r0)
    have R1 := Lib.hid (Boxed.set (W := W.setCell ⟨w.heap.size, 0, none⟩ (.int .i64 n)) (.bool f) ((Below.heap_setCell W ⟨w.heap.size, 0, none⟩ (.int .i64 n) _ (by show w.heap.size + 1 ≠ w.heap.size; omega)).trans hm.r1))
    have R2 := Lib.hid ((Below.heap_setCell (W.setCell ⟨w.heap.size, 0, none⟩ (.int .i64 n)) ⟨w.heap.size + 1, 0, none⟩ (.bool f) w.heap.size (by show w.heap.size ≠ w.heap.size + 1; omega)).trans R0.out)
    clear hN hO hf hK hm hb hsum
    gi_wp2
    gi_region
    all_goals gi_wp2
    generalize (W.setCell ⟨w.heap.size, 0, none⟩ (.int .i64 n)).setCell ⟨w.heap.size + 1, 0, none⟩ (.bool f) = Wz at *
    refine ⟨by simp, .inl ⟨_, _, rfl, run_takeDeferred (w := Wz.drew) HK.out, ?_⟩⟩
    have e0 : (Wz.drew.putObj M (.deferred none)).cell? ⟨w.heap.size, 0, none⟩ = some (.int .i64 n) := (World.cell?_of_block ((below_put Wz.drew M (.deferred none) (Nat.le_refl M)).block _ (by show w.heap.size < M; omega))).trans (Boxed.cell (W := Wz) R2.out)
    have e1 : (Wz.drew.putObj M (.deferred none)).cell? ⟨w.heap.size + 1, 0, none⟩ = some (.bool f) := (World.cell?_of_block ((below_put Wz.drew M (.deferred none) (Nat.le_refl M)).block _ (by show w.heap.size + 1 < M; omega))).trans (Boxed.cell (W := Wz) R1.out)
    refine ⟨.tuple #[.int .i64 n, .bool f], ?_, by rw [HN.out, HO.out], below_join HB.out (below_put _ _ _ (by omega))⟩
    simp [results, Tryz.f51, go_sem, e0, e1]
  case stop =>
    rintro M c pre W hM hpre ⟨rfl, hsum, ⟨n, f, hm⟩, hb⟩ hK
    gi_wp2
    refine ⟨by simp, .inl ⟨_, _, rfl, run_takeDeferred hK, ?_⟩⟩
    obtain ⟨⟨q0, f0⟩, ⟨q1, f1⟩, _⟩ := (hm.below (below_put W M (.deferred none) (by omega))).cells
    obtain ⟨hN, hO⟩ := parse_stop hinf.out hpre hsum
    refine ⟨.tuple #[.int .i64 0, .bool false], ?_, by rw [hN, hO]; rfl, below_join hb (below_put _ _ _ (by omega))⟩
    simp [results, Tryz.f51, go_sem, q0, q1]
theorem Parse_any (s : ByteArray) (hs : s.size ≤ maxLen) (w : World) :
    Calls Tryz.prog 51 #[.string s] w fun e w' => e = .returned (.tuple #[.int .i64 (parseN s), .bool (parseOk s)]) ∧ Below w.heap.size w w' := by
  by_cases h : s = str infL
  · exact parse_inf s h w
  · exact parse_other s hs h w
end Go.Proofs.YtadifolonbkamaaGreatDoor.Sn
