/- The walks of slices.Index, Contains at texts, of the developers' isForm, Value over takes. -/
import Derived.Test.YtadifolonbkamaaGreatDoorKsE
namespace Go.Proofs.YtadifolonbkamaaGreatDoor
open Go.RowKit

set_option maxHeartbeats 4000000 in
theorem txtIndex_any (A : Option Addr) (n c B : Nat) (l : List (List UInt8)) (v : ByteArray) (w : World) (h : RowAt w B A n l) :
    Calls Tryz.prog 86 #[.slice A n c, .string v] w fun e w' => ∃ i : Int, e = .returned (.int .i64 i) ∧ decide (0 ≤ i) = l.any (fun x => decide (x = v.data.toList)) ∧ w' = w := by
  have hm := h.2.1
  unfold maxLen at hm
  have hl := h.1
  have HL := Lib.hid h
  have HN0 : Hid ((l.take 0).any (fun x => decide (x = v.data.toList)) = false) := rfl
  clear h
  go_enter Tryz.func86, Tryz.ntmps86
  go_wp2_with fail
  go_loopw [8] (fun i wr => ∃ k : Nat, k ≤ n ∧ i = .int .i64 k ∧ w = wr ∧ Hid ((l.take k).any (fun x => decide (x = v.data.toList)) = false)) (fun i wr => n - (intOf i).toNat)
  case atStart => exact ⟨0, Nat.zero_le _, rfl, rfl, HN0⟩
  case round =>
    obtain ⟨k, hk, rfl, rfl, hN⟩ := hrel
    by_cases hlt : k < n
    · have b0 : (0 : Int) ≤ (k : Int) := by omega
      have b1 : (k : Int) < (n : Int) := by omega
      obtain ⟨ad, x, rfl, hab, hx, q0⟩ := HL.out.at_ hlt
      obtain ⟨n1, n2⟩ := any_take hN.out hx
      have hq : (v.toList == (str x).toList) = decide (x = v.data.toList) := by
        rw [Lib.toList_data, Lib.toList_data, str_list, Bool.eq_iff_iff, decide_eq_true_eq, beq_iff_eq]
        exact eq_comm
      clear hx
      by_cases hf : x = v.data.toList
      · have HF := Lib.hid (n1 (decide_eq_true hf))
        rw [decide_eq_true hf] at hq
        clear hf n1 n2
        go_wp2_with fail
        go_ret
        exact ⟨_, rfl, by rw [HF.out]; simp, by first | rfl | trivial⟩
      · have HF := Lib.hid (n2 (decide_eq_false hf))
        rw [decide_eq_false hf] at hq
        clear hf n1 n2
        go_wp2_with fail
        go_roundw
        case rel => exact ⟨k + 1, by omega, by go_num, by first | rfl | trivial, HF⟩
        case measure => simp [intOf]; omega
    · obtain rfl : k = n := by omega
      have HF : Hid (l.any (fun x => decide (x = v.data.toList)) = false) := by
        have := hN.out
        rwa [List.take_of_length_le (by omega)] at this
      go_wp2_with fail
      go_ret
      exact ⟨_, rfl, by rw [HF.out]; simp, by first | rfl | trivial⟩
theorem txtHas_any (A : Option Addr) (n c B : Nat) (l : List (List UInt8)) (v : ByteArray) (w : World) (h : RowAt w B A n l) :
    Calls Tryz.prog 56 #[.slice A n c, .string v] w fun e w' => e = .returned (.bool (l.any (fun x => decide (x = v.data.toList)))) ∧ w' = w := by
  have HC := Lib.hid (txtIndex_any A n c B l v w h)
  clear h
  go_enter Tryz.func56, Tryz.ntmps56
  go_wp2_with fail
  refine HC.out.mono ?_
  rintro e w1 ⟨i, rfl, hi, rfl⟩
  have HI := Lib.hid hi
  clear hi
  go_wp2_with fail
  go_ret
  exact ⟨ret_bool HI.out, rfl⟩
theorem isForm_any (f : Int) (w : World) : Calls Tryz.prog 27 #[.int .i64 f] w fun e w' => e = .returned (.bool (decide (1 ≤ f) && decide (f ≤ 11))) ∧ w' = w := by
  by_cases h1 : 1 ≤ f
  · by_cases h2 : f ≤ 11
    · go_enter Tryz.func27, Tryz.ntmps27
      go_wp2_with fail
      go_ret
      exact ⟨ret_bool (by first | (simp [h1, h2]; done) | rfl), rfl⟩
    · have h2' : 11 < f := by omega
      have hd : decide (f ≤ 11) = false := decide_eq_false h2
      go_enter Tryz.func27, Tryz.ntmps27
      go_wp2_with fail
      go_ret
      exact ⟨ret_bool (by first | rfl | (simp [h1, hd]; done)), rfl⟩
  · have h1' : f < 1 := by omega
    have hd : decide (1 ≤ f) = false := decide_eq_false h1
    go_enter Tryz.func27, Tryz.ntmps27
    go_wp2_with fail
    go_ret
    exact ⟨ret_bool (by first | rfl | (simp [hd]; done)), rfl⟩
/-- takes, of a key with cells r and of form f, says b. -/
def TakesAt (f : Int) (r : Kr) (v : ByteArray) (b : Bool) (w : World) : Prop :=
  Calls Tryz.prog 28 #[.agg #[.string (str r.s), .string (str r.n), .int .i64 f, .bool r.l, .int .i64 r.k, .slice r.A r.m r.c], .string v] w fun e w' => e = .returned (.bool b) ∧ Below w.heap.size w w'
theorem takes_text (r : Kr) (v : ByteArray) (w : World) : TakesAt 1 r v true w := by
  unfold TakesAt
  rcases he : v.toList.isEmpty with _ | _
  · go_enter Tryz.func28, Tryz.ntmps28
    go_wp2_with fail
    go_ret
    exact ⟨rfl, (Below.refl _ w).alloc (Nat.le_refl _) _⟩
  · rcases hl : r.l with _ | _
    all_goals
      go_enter Tryz.func28, Tryz.ntmps28
      go_wp2_with fail
      go_ret
      exact ⟨rfl, (Below.refl _ w).alloc (Nat.le_refl _) _⟩
theorem takes_empty (f : Int) (hf : f ≠ 1) (r : Kr) (v : ByteArray) (he : v.toList.isEmpty = true) (w : World) : TakesAt f r v r.l w := by
  unfold TakesAt
  have hd : ((f : Int) == 1) = false := by simpa using hf
  rcases hl : r.l with _ | _
  all_goals
    go_enter Tryz.func28, Tryz.ntmps28
    go_wp2_with fail
    go_ret
    exact ⟨rfl, (Below.refl _ w).alloc (Nat.le_refl _) _⟩
theorem takes_word (r : Kr) (v : ByteArray) (he : v.toList.isEmpty = false) (w : World) (B : Nat) (l : List (List UInt8)) (h : RowAt w B r.A r.m l) (hB : B ≤ w.heap.size) : TakesAt 10 r v (l.any (fun x => decide (x = v.data.toList))) w := by
  unfold TakesAt
  have HC := Lib.hid (txtHas_any r.A r.m r.c B l v (w.alloc (.cells #[.string (str r.s), .string (str r.n), .int .i64 10, .bool r.l, .int .i64 r.k, .slice r.A r.m r.c] 28)) (h.below (((Below.refl _ w).alloc (Nat.le_refl _) _).mono hB)))
  clear h
  go_enter Tryz.func28, Tryz.ntmps28
  go_wp2_with fail
  refine HC.out.mono ?_
  rintro e w1 ⟨rfl, rfl⟩
  go_wp2_with fail
  go_ret
  exact ⟨rfl, (Below.refl _ w).alloc (Nat.le_refl _) _⟩
theorem Value_of (f : Int) (h1 : 1 ≤ f) (h2 : f ≤ 11) (r : Kr) (v : ByteArray) (b : Bool) (w : World) (h : TakesAt f r v b (w.alloc (.cells #[.string (str r.s), .string (str r.n), .int .i64 f, .bool r.l, .int .i64 r.k, .slice r.A r.m r.c] 28))) :
    Calls Tryz.prog 15 #[.agg #[.string (str r.s), .string (str r.n), .int .i64 f, .bool r.l, .int .i64 r.k, .slice r.A r.m r.c], .string v] w fun e w' => e = .returned (.int .i64 (if b = true then 0 else 12)) ∧ Below w.heap.size w w' := by
  have HC := Lib.hid h
  have HF := fun w => isForm_any f w
  rw [decide_eq_true h1, decide_eq_true h2] at HF
  have HF := Lib.hid HF
  clear h h1 h2
  rcases b with _ | _
  all_goals
    go_enter Tryz.func15, Tryz.ntmps15
    go_wp2_with (go_at_call 27; refine (HF.out _).mono ?_; rintro e w1 ⟨rfl, rfl⟩)
    refine HC.out.mono ?_
    rintro e w2 ⟨rfl, hb⟩
    go_wp2_with fail
    go_ret
    exact ⟨rfl, more ((Below.refl _ w).alloc (Nat.le_refl _) _) hb⟩
theorem Value_no (f : Int) (h : f < 1 ∨ 11 < f) (r : Kr) (v : ByteArray) (w : World) :
    Calls Tryz.prog 15 #[.agg #[.string (str r.s), .string (str r.n), .int .i64 f, .bool r.l, .int .i64 r.k, .slice r.A r.m r.c], .string v] w fun e w' => e = .returned (.int .i64 3) ∧ Below w.heap.size w w' := by
  have HF := fun w => isForm_any f w
  rw [show (decide (1 ≤ f) && decide (f ≤ 11)) = false by rw [Bool.and_eq_false_iff, decide_eq_false_iff_not, decide_eq_false_iff_not]; omega] at HF
  have HF := Lib.hid HF
  clear h
  go_enter Tryz.func15, Tryz.ntmps15
  go_wp2_with (go_at_call 27; refine (HF.out _).mono ?_; rintro e w1 ⟨rfl, rfl⟩)
  go_ret
  exact ⟨rfl, (Below.refl _ w).alloc (Nat.le_refl _) _⟩
end Go.Proofs.YtadifolonbkamaaGreatDoor
