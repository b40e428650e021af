/- Lines held against lines: the walk of the document's SameLines. -/
import Derived.Test.YtfjfhbmbngogpaaKsH
import Derived.Test.YtfjfhbmbngogpaaKsE
import Derived.BigQuiet
import Derived.BigRegion
import Derived.Deep.QuietTactic
namespace Go.Proofs.Ytfjfhbmbngogpaa
open Go.RowKit

/-- Are two lines alike? -/
def sameL (x y : Ln) : Bool := decide (x = y)
theorem sameL_eq (x y : Ln) : ((str x.s).toList == (str y.s).toList && ((str x.k).toList == (str y.k).toList && ((str x.v).toList == (str y.v).toList && x.n == y.n))) = sameL x y := by
  have hb : ∀ a b : List UInt8, ((str a).toList == (str b).toList) = decide (a = b) := by
    intro a b
    rw [Lib.toList_data, Lib.toList_data, str_list, str_list]
    rw [Bool.eq_iff_iff]; simp
  rw [hb, hb, hb]
  unfold sameL
  rw [Bool.eq_iff_iff]
  obtain ⟨a, b, c, n⟩ := x
  obtain ⟨a', b', c', n'⟩ := y
  simp
theorem neq_ln (x y : Ln) (w : World) : (binOp .neq 30 (.agg #[.string (str x.s), .string (str x.k), .string (str x.v), .int .i64 x.n]) (.agg #[.string (str y.s), .string (str y.k), .string (str y.v), .int .i64 y.n])).run Try.prog w = .ok (.bool (!sameL x y)) w := by
  rw [run_neq_line, sameL_eq]
theorem eql_ln (x y : Ln) (w : World) : (binOp .eql 30 (.agg #[.string (str x.s), .string (str x.k), .string (str x.v), .int .i64 x.n]) (.agg #[.string (str y.s), .string (str y.k), .string (str y.v), .int .i64 y.n])).run Try.prog w = .ok (.bool (sameL x y)) w := by
  rw [run_eql_line, sameL_eq]
set_option maxHeartbeats 4000000 in
theorem SameLines_any (A A' : Option Addr) (n n' c c' B B' : Nat) (l l' : List Ln) (w : World) (h : LnsAt w B A n l) (h' : LnsAt w B' A' n' l') :
    Calls Try.prog 9 #[.slice A n c, .slice A' n' c'] w fun e w' => e = .returned (.bool (decide (l = l'))) ∧ ∃ j, w' = w.drewN j := by
  have hm := h.2.1
  unfold maxLen at hm
  by_cases hn : n = n'
  · subst hn
    have hnn : ((n : Int) != (n : Int)) = false := by simp
    have HL := Lib.hid h
    have HL' := Lib.hid h'
    have hl := h.1
    have hl' := h'.1
    clear h h'
    go_enter Try.func9, Try.ntmps9
    go_wp2_with fail
    go_loopw [13] (fun i wr => ∃ k j : Nat, k ≤ n ∧ i = .int .i64 k ∧ wr = w.drewN j ∧ Hid (l.take k = l'.take k)) (fun i wr => n - (intOf i).toNat)
    case atStart => exact ⟨0, 0, Nat.zero_le _, rfl, rfl, rfl⟩
    case round =>
      obtain ⟨k, j, hk, rfl, rfl, htk⟩ := hrel
      by_cases hlt : k < n
      · have b0 : (0 : Int) ≤ (k : Int) := by omega
        have b1 : (k : Int) < (n : Int) := by omega
        obtain ⟨ad, x, rfl, _, hx, q0, q1, q2, q3⟩ := HL.out.at_ hlt
        obtain ⟨ad', x', rfl, _, hx', p0, p1, p2, p3⟩ := HL'.out.at_ hlt
        have hq := neq_ln x x'
        rcases hs : sameL x x' with _ | _
        · have hxx : ¬ x = x' := by unfold sameL at hs; simpa using hs
          have HT : Hid (decide (l = l') = false) := by
            show _ = _
            rw [decide_eq_false_iff_not]
            intro e
            rw [e, hx'] at hx
            injection hx with hx
            exact hxx hx.symm
          clear hx hx' hxx
          go_wp2_with fail
          go_region
          all_goals
            go_wp2_with fail
            go_ret
            exact ⟨ret_bool HT.out.symm, j + 1, rfl⟩
        · have hxx : x = x' := by unfold sameL at hs; simpa using hs
          have HT : Hid (l.take (k + 1) = l'.take (k + 1)) := by
            show _ = _
            rw [List.take_add_one, List.take_add_one, htk.out, hx, hx', hxx]
          clear hx hx' hxx
          go_wp2_with fail
          go_region
          all_goals
            go_wp2_with fail
            go_roundw
            case rel => exact ⟨k + 1, j + 1, by omega, by go_num, rfl, HT⟩
            case measure => simp [intOf]; omega
      · obtain rfl : k = n := by omega
        have HT : Hid (decide (l = l') = true) := by
          show _ = _
          rw [decide_eq_true_eq]
          have := htk.out
          rwa [List.take_of_length_le (by omega), List.take_of_length_le (by omega)] at this
        go_wp2_with fail
        go_ret
        exact ⟨ret_bool HT.out.symm, j, rfl⟩
  · have hnn : ((n : Int) != (n' : Int)) = true := by simp; omega
    have HT : Hid (decide (l = l') = false) := by
      show _ = _
      rw [decide_eq_false_iff_not]
      intro e
      have h1 := h.1
      have h2 := h'.1
      rw [e] at h1
      omega
    clear h h' hn
    go_enter Try.func9, Try.ntmps9
    go_wp2_with fail
    go_ret
    exact ⟨ret_bool HT.out.symm, 0, rfl⟩
end Go.Proofs.Ytfjfhbmbngogpaa
