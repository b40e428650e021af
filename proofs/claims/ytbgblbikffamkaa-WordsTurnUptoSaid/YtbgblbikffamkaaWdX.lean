/- The walk of the law WordsTurn. -/
import Derived.Test.YtbgblbikffamkaaWdP
import Derived.Deep.DeepCutAuto
import Derived.Deep.CutBlock
namespace Go.Proofs.Ytbgblbikffamkaa
open Go.RowKit

theorem any_take {s : ByteArray} {k : Nat} (h : k < s.size) : ((s.data.toList.take (k + 1)).any fun c => c == 0) = (((s.data.toList.take k).any fun c => c == 0) || ((s[k].toNat : Int) == 0)) := by
  rw [take_at s k h, List.any_append]
  congr 1
  simp only [List.any_cons, List.any_nil, Bool.or_false]
  rw [Bool.eq_iff_iff, beq_iff_eq, beq_iff_eq]
  constructor
  · intro e; rw [e]; rfl
  · intro e; exact byte_eq.2 (by show _ = 0; omega)
/-- What the outer loop knows. -/
def zAt (n : Nat) (l : List (List UInt8)) (k : Nat) : Bool := decide (32 < n) || zeroW (l.take k)
theorem zAt_succ {n k : Nat} {l : List (List UInt8)} {x : List UInt8} (hx : l[k]? = some x) : zAt n l (k + 1) = (zAt n l k || x.any fun c => c == 0) := by
  unfold zAt zeroW
  rw [List.take_add_one, hx, List.any_append]
  simp [Bool.or_assoc]
theorem zAt_zero (n : Nat) (l : List (List UInt8)) : zAt n l 0 = decide (32 < n) := by unfold zAt zeroW; simp
theorem zAt_all {n : Nat} {l : List (List UInt8)} (h : l.length = n) : zAt n l n = (decide (32 < n) || zeroW l) := by unfold zAt; rw [List.take_of_length_le (by omega)]

set_option maxHeartbeats 8000000 in
set_option maxRecDepth 100000 in
theorem WordsTurn_any (A : Option Addr) (n c B : Nat) (l : List (List UInt8)) (w : World) (h : RowAt w B A n l) (hB : B ≤ w.heap.size) (hsz : ∀ x ∈ l, x.length ≤ 1048576) :
    Calls Try.prog 4 #[.slice A n c] w fun e w' => e = .returned (.bool true) ∧ Below w.heap.size w w' := by
  have hm := h.2.1
  unfold maxLen at hm
  have hln := h.1
  have HL0 := Lib.hid h
  have HS := Lib.hid hsz
  have HJS : Hid (n ≤ 32 → (rowW l).length ≤ 135000000) := fun hn => row32 (by omega) hsz
  clear h hsz
  go_enter Try.func4, Try.ntmps4
  go_wp2_with fail
  refine (shown5_any _).mono ?_
  rintro e w1 ⟨rfl, hb1⟩
  have HB1 := Lib.hid hb1
  have HL1 := Lib.hid (HL0.out.below (hb1.mono hB))
  have hB1 : B ≤ w1.heap.size := Nat.le_trans hB hb1.size
  clear hb1
  go_wp2_with fail
  refine (Join_any A n c B l _ HL1.out hB1 (fun x hx => by have := HS.out x hx; unfold maxLen; omega) (fun hn => by have := HJS.out hn; omega)).mono ?_
  rintro e w2 ⟨rfl, hb2⟩
  have HB2 := Lib.hid (below_more HB1.out HB1.out.size hb2)
  have HL2 := Lib.hid (HL1.out.below (hb2.mono hB1))
  have hB2 : B ≤ w2.heap.size := Nat.le_trans hB1 hb2.size
  clear hb2 HL1 HB1
  have Z0 : Hid (decide ((32 : Int) < (n : Int)) = zAt n l 0) := by
    show _ = _
    rw [zAt_zero, Bool.eq_iff_iff]
    simp only [decide_eq_true_eq]
    omega
  generalize hd32 : decide ((32 : Int) < (n : Int)) = d32 at *
  go_wp2_with fail
  go_loop [4, 19] (fun z i => ∃ k : Nat, k ≤ n ∧ i = .int .i64 k ∧ ∃ ct : Bool, z = .bool ct ∧ Hid (zAt n l k = ct)) (fun z i => n - (intOf i).toNat)
  case atStart => exact ⟨0, Nat.zero_le _, rfl, d32, rfl, Z0.out.symm⟩
  case round =>
    obtain ⟨k, hk, rfl, ct, rfl, hz⟩ := hrel
    by_cases hlt : k < n
    · have b0 : (0 : Int) ≤ (k : Int) := by omega
      have b1 : (k : Int) < (n : Int) := by omega
      obtain ⟨ad, x, rfl, _, hx, hc⟩ := HL2.out.at_ hlt
      have HZ1 := Lib.hid (zAt_succ (n := n) hx)
      have hxs : (str x).size ≤ 1048576 := HS.out x (List.mem_of_getElem? hx)
      clear hx
      obtain ⟨c2, hc2⟩ : ∃ c2 : Bool, zAt n l (k + 1) = c2 := ⟨_, rfl⟩
      have HC2 := Lib.hid hc2
      clear hc2
      go_wp2_with fail
      go_loop [4, 7] (fun z i => ∃ j : Nat, j ≤ (str x).size ∧ i = .int .i64 j ∧ ∃ y : Bool, z = .bool y ∧ Hid ((ct || ((str x).data.toList.take j).any fun c => c == 0) = y)) (fun z i => (str x).size - (intOf i).toNat)
      case atStart => exact ⟨0, Nat.zero_le _, rfl, ct, rfl, by show _ = _; simp⟩
      case round =>
        obtain ⟨j, hj, rfl, y, rfl, hy⟩ := hrel
        by_cases hjl : j < (str x).size
        · have j0 : (0 : Int) ≤ (j : Int) := by omega
          have j1 : (j : Int) < ((str x).size : Int) := by omega
          have HN := Lib.hid (any_take hjl)
          have hr := ((str x)[j]'hjl).toNat_lt
          cases y with
          | true =>
            have HX : Hid ((ct || ((str x).data.toList.take (j + 1)).any fun c => c == 0) = true) := by show _ = _; rw [HN.out, ← Bool.or_assoc, hy.out, Bool.true_or]
            go_wp2_with fail
            go_round
            case rel => exact ⟨j + 1, by omega, by go_num, true, rfl, HX⟩
            case measure => simp [intOf]; omega
          | false =>
            have HX : Hid ((ct || ((str x).data.toList.take (j + 1)).any fun c => c == 0) = ((((str x)[j]'hjl).toNat : Int) == 0)) := by show _ = _; rw [HN.out, ← Bool.or_assoc, hy.out, Bool.false_or]
            go_wp2_with fail
            go_round
            case rel => exact ⟨j + 1, by omega, by go_num, _, rfl, HX⟩
            case measure => simp [intOf]; omega
        · have hjs : j = (str x).size := by omega
          have hy2 : y = c2 := by
            have h1 := hy.out
            rw [List.take_of_length_le (by rw [size_list]; omega), str_list] at h1
            rw [← h1, ← HC2.out, HZ1.out, hz.out]
          subst hy2
          have j1 : ((str x).size : Int) ≤ (j : Int) := by omega
          clear hjs
          go_wp2_with fail
          go_round
          case rel => exact ⟨k + 1, by omega, by go_num, y, rfl, HC2⟩
          case measure => simp [intOf]; omega
    · obtain rfl : k = n := by omega
      have HA := Lib.hid (zAt_all hln)
      cases ct with
      | true =>
        have HJ : Hid (joinW l = []) := by
          show _ = _
          have h1 := hz.out
          rw [HA.out, Bool.or_eq_true, decide_eq_true_eq] at h1
          unfold joinW
          rw [if_pos (by rw [hln]; exact h1)]
        rw [HJ.out]
        go_wp2_with fail
        go_ret
        exact ⟨ret_bool (by rw [Lib.toList_data]; rfl), HB2.out⟩
      | false =>
        have h1 := hz.out
        rw [HA.out, Bool.or_eq_false_iff, decide_eq_false_iff_not] at h1
        have hk32 : k ≤ 32 := by omega
        have HSP := Lib.hid (split_join h1.2 (by omega))
        have h5 : (joinW l).length ≤ 135000000 := by
          unfold joinW
          split
          · simp
          · exact HJS.out hk32
        have htj : topS (str (joinW l)).data.toList + 1 ≤ 140737488355328 := by
          have := topS_le (str (joinW l)).data.toList
          rw [str_list] at this ⊢
          omega
        have HTJ := Lib.hid htj
        have HMJ : Hid ((str (joinW l)).size ≤ maxLen) := by show _ ≤ _; rw [str_size]; unfold maxLen; omega
        clear h1 h5 htj
        go_wp2_with fail
        refine (Split_any _ HMJ.out HTJ.out _).mono ?_
        rintro e w4 ⟨A', n', c', rfl, hnc', hn32', hrow', hb4⟩
        rw [str_list, HSP.out] at hrow' ⊢
        dsimp only at hrow' ⊢
        have HB4 := Lib.hid (below_more HB2.out HB2.out.size hb4)
        have HR4 : Hid (RowAt w4 w4.heap.size A k l) := ((HL2.out.below (hb4.mono hB2))).wide (Nat.le_trans hB2 hb4.size)
        have HR4' := Lib.hid hrow'
        clear hb4 hrow'
        go_wp2_with fail
        refine (Same5_any A A' k n' c c' w4.heap.size _ _ _ HR4.out HR4'.out).mono ?_
        rintro e w5 ⟨rfl, j, rfl⟩
        rw [decide_eq_true (rfl : l = _)]
        have HB5 := Lib.hid (below_drewN HB4.out j)
        go_wp2_with fail
        go_ret
        exact ⟨rfl, HB5.out⟩
end Go.Proofs.Ytbgblbikffamkaa
