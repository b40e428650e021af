/- The walk of the law's same. -/
import Derived.Test.YthodbeeglkedcaaGreatDzba
namespace Go.Proofs.YthodbeeglkedcaaGreat
open Go.RowKit
def sameB (n p : List UInt8) (m : Bool) (d : List (List UInt8)) (n' p' : List UInt8) (m' : Bool) (d' : List (List UInt8)) : Bool := decide (n = n') && decide (p = p') && (m == m') && decide (d = d')
theorem eq_str2 (a b : List UInt8) : ((str a).toList == (str b).toList) = decide (a = b) := by
  rw [Lib.toList_data, Lib.toList_data, str_list, str_list, Bool.eq_iff_iff, decide_eq_true_eq, beq_iff_eq]
set_option maxHeartbeats 8000000 in
theorem same_any (n p : List UInt8) (m : Bool) (A : Option Addr) (k c : Nat) (d : List (List UInt8)) (n' p' : List UInt8) (m' : Bool) (A' : Option Addr) (k' c' : Nat) (d' : List (List UInt8)) (B : Nat) (w : World) (h : RowAt w B A k d) (h' : RowAt w B A' k' d') (hB : B ≤ w.heap.size) :
    Calls Tryz.prog 7 #[.agg (fdA n p m (.slice A k c)), .agg (fdA n' p' m' (.slice A' k' c'))] w fun e w' => e = .returned (.bool (sameB n p m d n' p' m' d')) ∧ Below w.heap.size w w' := by
  have e1 := eq_str2 n n'
  have e2 := eq_str2 p p'
  have HW : Hid (∀ W : World, Below w.heap.size w W → Calls Tryz.prog 11 #[.slice A k c, .slice A' k' c'] W fun e w' => e = .returned (.bool (decide (d = d'))) ∧ ∃ j, w' = W.drewN j) := fun W hW => Same5_any A A' k k' c c' B d d' W (h.below (hW.mono hB)) (h'.below (hW.mono hB))
  have HBb : Hid (Below w.heap.size w ((w.alloc (.cells #[.string (str n), .string (str p), .bool m, .slice A k c] 26)).alloc (.cells #[.string (str n'), .string (str p'), .bool m', .slice A' k' c'] 26))) := ((Below.refl _ w).alloc (Nat.le_refl _) _).alloc (by simp) _
  unfold fdA
  by_cases hn : n = n'
  · by_cases hp : p = p'
    · by_cases hm : m = m'
      · have HV : Hid (sameB n p m d n' p' m' d' = decide (d = d')) := by show _ = _; unfold sameB; rw [decide_eq_true hn, decide_eq_true hp, hm]; simp
        have e3 : (m == m') = true := by simp [hm]
        rw [decide_eq_true hn] at e1
        rw [decide_eq_true hp] at e2
        clear hn hp hm
        go_enter Tryz.func7, Tryz.ntmps7
        go_wp2_with fail
        refine (HW.out _ HBb.out).mono ?_
        rintro e w1 ⟨rfl, j, rfl⟩
        go_wp2_with fail
        go_ret
        exact ⟨ret_bool HV.out.symm, below_drewN HBb.out j⟩
      · have HV : Hid (sameB n p m d n' p' m' d' = false) := by show _ = _; unfold sameB; rw [show (m == m') = false by simp [hm]]; simp
        have e3 : (m == m') = false := by simp [hm]
        rw [decide_eq_true hn] at e1
        rw [decide_eq_true hp] at e2
        clear hn hp hm HW
        go_enter Tryz.func7, Tryz.ntmps7
        go_wp2_with fail
        go_ret
        exact ⟨ret_bool HV.out.symm, HBb.out⟩
    · have HV : Hid (sameB n p m d n' p' m' d' = false) := by show _ = _; unfold sameB; rw [decide_eq_false hp]; simp
      rw [decide_eq_true hn] at e1
      rw [decide_eq_false hp] at e2
      clear hn hp HW
      go_enter Tryz.func7, Tryz.ntmps7
      go_wp2_with fail
      go_ret
      exact ⟨ret_bool HV.out.symm, HBb.out⟩
  · have HV : Hid (sameB n p m d n' p' m' d' = false) := by show _ = _; unfold sameB; rw [decide_eq_false hn]; simp
    rw [decide_eq_false hn] at e1
    clear hn HW
    go_enter Tryz.func7, Tryz.ntmps7
    go_wp2_with fail
    go_ret
    exact ⟨ret_bool HV.out.symm, HBb.out⟩
end Go.Proofs.YthodbeeglkedcaaGreat
