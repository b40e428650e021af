/- The walk of the law ExpandPlain. -/
import Derived.Test.YtjoedgkmpklhfaaExS
import Derived.Test.YtjoedgkmpklhfaaExT
namespace Go.Proofs.Ytjoedgkmpklhfaa
open Go.RowKit Go.WideMaps Go.Maps

set_option maxHeartbeats 8000000 in
set_option maxRecDepth 100000 in
theorem ExpandPlain_any (a : ByteArray) (A : Option Addr) (n c B : Nat) (env : List PairX) (w : World) (ha : a.size ≤ 140737488351232) (h : PairsAt w B A n env) (hB : B ≤ w.heap.size) :
    Calls Try.prog 7 #[.string a, .slice A n c] w fun e w' => e = .returned (.bool true) ∧ Below w.heap.size w w' := by
  obtain ⟨dbl, hdbl⟩ : ∃ dbl, str (twice 36 a.data.toList) = dbl := ⟨_, rfl⟩
  have hdl : dbl.data.toList = twice 36 a.data.toList := by rw [← hdbl]; rfl
  have HDL := Lib.hid hdl
  have HDB := Lib.hid hdbl
  have HP := Lib.hid h
  clear hdbl hdl h
  go_enter Try.func7, Try.ntmps7
  go_wp2_with fail
  refine (shown6_any _).mono ?_
  rintro e w2 ⟨rfl, hb1⟩
  have HB2 := Lib.hid hb1
  clear hb1
  go_wp2_with fail
  go_loopw [5, 6] (fun x i wr => ∃ k : Nat, k ≤ a.size ∧ x = .string (str (twS 36 a k)) ∧ i = .int .i64 k ∧ w2 = wr) (fun x i wr => a.size - (intOf i).toNat)
  case atStart => exact ⟨0, Nat.zero_le _, rfl, rfl, by first | rfl | trivial⟩
  case round =>
    obtain ⟨k, hk, rfl, rfl, rfl⟩ := hrel
    have hl := twS_len 36 a k hk
    by_cases hlt : k < a.size
    · have hr := a[k].toNat_lt
      have j0 : (0 : Int) ≤ (k : Int) := by omega
      have j1 : (k : Int) < (a.size : Int) := by omega
      have j2 : (k : Int) ≤ (k : Int) + 1 := by omega
      have j3 : (k : Int) + 1 ≤ (a.size : Int) := by omega
      have H1 := Lib.hid (one_slice a k hlt)
      have z1 : (a.extract k (k + 1)).size ≤ 1 := by rw [H1.out]; exact Nat.le_refl _
      have z2 : (⟨#[36]⟩ : ByteArray).size ≤ 1 := Nat.le_refl _
      have z3 : (str (twS 36 a k) ++ a.extract k (k + 1)).size ≤ 2 * k + 1 := by rw [ByteArray.size_append]; omega
      by_cases hc : a[k] = 36
      · have p1 : ((a[k].toNat : Int) == 36) = true := by rw [hc]; rfl
        have HE : Hid (str (twS 36 a k) ++ a.extract k (k + 1) ++ (⟨#[36]⟩ : ByteArray) = str (twS 36 a (k + 1))) := by
          show _ = _
          rw [H1.out, twS_eq hlt hc, str_app]
          exact str_app _ [36]
        clear hc
        go_wp2_with fail
        go_roundw
        case rel => exact ⟨k + 1, by omega, by rw [← HE.out], by go_num, by first | rfl | trivial⟩
        case measure => simp [intOf]; omega
      · have p1 : ((a[k].toNat : Int) == 36) = false := by simp; exact fun e => hc (u8_eq (d := 36) e)
        have HE : Hid (str (twS 36 a k) ++ a.extract k (k + 1) = str (twS 36 a (k + 1))) := by
          show _ = _
          rw [H1.out, twS_ne hlt hc, str_app]
        clear hc
        go_wp2_with fail
        go_roundw
        case rel => exact ⟨k + 1, by omega, by rw [← HE.out], by go_num, by first | rfl | trivial⟩
        case measure => simp [intOf]; omega
    · have hT : str (twS 36 a k) = dbl := by rw [twS_all 36 a k (by omega)]; exact HDB.out
      have hds : dbl.size ≤ 281474976702464 := by rw [← hT]; omega
      rw [hT]
      clear hT
      go_wp2_with fail
      have HL : RowAt (w2.alloc (.cells (wcells [dbl.data.toList]).toArray 9)) (w2.heap.size + 1) (some ⟨w2.heap.size, 0, none⟩) 1 [dbl.data.toList] := rowAt_new _ w2 (by simp [maxLen])
      have HBa : Hid (Below w.heap.size w (w2.alloc (.cells (wcells [dbl.data.toList]).toArray 9))) := HB2.out.alloc HB2.out.size _
      have HPa : PairsAt (w2.alloc (.cells (wcells [dbl.data.toList]).toArray 9)) (w2.heap.size + 1) A n env := (HP.out.below (HBa.out.mono hB)).wide (by have := HB2.out.size; omega)
      have hv : varsX env [dbl.data.toList] = [a.data.toList] := by rw [varsX_one, HDL.out, oneX_twice]
      have e1 : (#[.string dbl] : Array Value) = (wcells [dbl.data.toList]).toArray := by simp [wcells, str_data]
      rw [e1]
      refine (Vars_any (some ⟨w2.heap.size, 0, none⟩) A 1 1 n c (w2.heap.size + 1) [dbl.data.toList] env _ HL HPa (by simp) (by intro x hx; rw [List.mem_singleton] at hx; rw [hx, size_list]; unfold maxLen; omega)
        (by intro x hx _; rw [List.mem_singleton] at hx; rw [hx, HDL.out, fillX_twice, size_list]; omega) (by intro x hx hw; rw [List.mem_singleton] at hx; rw [hx, HDL.out] at hw; exact absurd (wholeX_twice _) hw) (by rw [hv]; simp)).mono ?_
      rintro e w4 ⟨A4, n4, c4, rfl, hnc, hrow, hb4⟩
      rw [hv] at hrow
      have HR4 := Lib.hid hrow
      have HB4 := Lib.hid (below_more HBa.out HBa.out.size hb4)
      clear hrow hb4 HL HBa HPa hv e1
      go_wp2_with fail
      have e2 : (#[.string a] : Array Value) = (wcells [a.data.toList]).toArray := by simp [wcells, str_data]
      rw [e2]
      refine (Same5_any A4 (some ⟨w4.heap.size, 0, none⟩) n4 1 c4 1 (w4.heap.size + 1) [a.data.toList] [a.data.toList] (w4.alloc (.cells (wcells [a.data.toList]).toArray 9)) ((HR4.out.below ((Below.refl _ _).alloc (Nat.le_refl _) _)).wide (Nat.le_succ _)) (rowAt_new _ w4 (by simp [maxLen]))).mono ?_
      rintro e w5 ⟨rfl, j, rfl⟩
      rw [show decide ([a.data.toList] = [a.data.toList]) = true from decide_eq_true rfl]
      have HB5 : Hid (Below w.heap.size w ((w4.alloc (.cells (wcells [a.data.toList]).toArray 9)).drewN j)) := below_drewN (HB4.out.alloc HB4.out.size _) j
      go_wp2_with fail
      go_ret
      exact ⟨rfl, HB5.out⟩
end Go.Proofs.Ytjoedgkmpklhfaa
