/- The walks of the document's mayLine, write, MayLines, Print. -/
import Derived.Test.YthgpocbmkmmecaaDoorLnY
import Derived.Test.YthgpocbmkmmecaaDoorLnK
namespace Go.Proofs.YthgpocbmkmmecaaDoor
open Go.RowKit

set_option maxHeartbeats 8000000 in
theorem mayLine_any (x : Ln) (hx : SizeLn x) (w : World) :
    Calls Tryd.prog 27 #[.agg #[.string (str x.s), .string (str x.k), .string (str x.v), .int .i64 x.n]] w fun e w' => e = .returned (.bool (okLn x)) ∧ Below w.heap.size w w' := by
  have HO := Lib.hid (okLn_eq x)
  obtain ⟨z1, z2, z3⟩ := hx
  have m1 : (str x.s).size ≤ maxLen := by rw [str_size]; unfold maxLen; omega
  have m2 : (str x.k).size ≤ maxLen := by rw [str_size]; unfold maxLen; omega
  have m3 : (str x.v).size ≤ maxLen := by rw [str_size]; unfold maxLen; omega
  have y2 : (str x.k).size ≤ 140737488355328 := z2
  have y3 : (str x.v).size ≤ 140737488355328 := z3
  have HLE : Hid ((decide (((str x.k).size : Int) + 1 + ((str x.v).size : Int) ≤ 400)) = decide (x.k.length + 1 + x.v.length ≤ 400)) := by
    show _ = _
    rw [Bool.eq_iff_iff, decide_eq_true_eq, decide_eq_true_eq, str_size, str_size]
    omega
  rcases h1 : secS (str x.s) with _ | _
  · have HV : Hid (okLn x = false) := by show _ = _; rw [HO.out, h1]; rfl
    go_enter Tryd.func27, Tryd.ntmps27
    go_wp2_with (go_at_call 25; refine (of_sec _ m1 _).mono ?_; rintro e w1 ⟨rfl, rfl⟩)
    go_ret
    exact ⟨ret_bool HV.out.symm, (Below.refl _ _).alloc (Nat.le_refl _) _⟩
  rcases h2 : keyS (str x.k) with _ | _
  · have HV : Hid (okLn x = false) := by show _ = _; rw [HO.out, h1, h2]; rfl
    go_enter Tryd.func27, Tryd.ntmps27
    go_wp2_with (first
      | ((with_reducible refine (of_sec _ m1 _).mono ?_); rintro e w1 ⟨rfl, rfl⟩)
      | ((with_reducible refine (of_key _ m2 _).mono ?_); rintro e w1 ⟨rfl, rfl⟩))
    go_ret
    exact ⟨ret_bool HV.out.symm, (Below.refl _ _).alloc (Nat.le_refl _) _⟩
  rcases h3 : cleanL (str x.v).data.toList with _ | _
  · have HV : Hid (okLn x = false) := by show _ = _; rw [HO.out, h1, h2]; unfold valS; rw [h3]; rfl
    go_enter Tryd.func27, Tryd.ntmps27
    go_wp2_with (first
      | ((with_reducible refine (of_sec _ m1 _).mono ?_); rintro e w1 ⟨rfl, rfl⟩)
      | ((with_reducible refine (of_key _ m2 _).mono ?_); rintro e w1 ⟨rfl, rfl⟩)
      | (go_at_call 19; refine (Clean_any _ m3 _).mono ?_; rintro e w1 ⟨rfl, rfl⟩))
    go_ret
    exact ⟨ret_bool HV.out.symm, (Below.refl _ _).alloc (Nat.le_refl _) _⟩
  rcases h4 : ((trimS (str x.v)).toList == (str x.v).toList) with _ | _
  · have HV : Hid (okLn x = false) := by show _ = _; rw [HO.out, h1, h2]; unfold valS; rw [h3, h4]; rfl
    go_enter Tryd.func27, Tryd.ntmps27
    go_wp2_with (first
      | ((with_reducible refine (of_sec _ m1 _).mono ?_); rintro e w1 ⟨rfl, rfl⟩)
      | ((with_reducible refine (of_key _ m2 _).mono ?_); rintro e w1 ⟨rfl, rfl⟩)
      | (go_at_call 19; refine (Clean_any _ m3 _).mono ?_; rintro e w1 ⟨rfl, rfl⟩)
      | (go_at_call 23; refine (Trim_any _ m3 _).mono ?_; rintro e w1 ⟨rfl, rfl⟩))
    go_ret
    exact ⟨ret_bool HV.out.symm, (Below.refl _ _).alloc (Nat.le_refl _) _⟩
  have HV : Hid (okLn x = (!lastIs 92 (str x.v) && decide (x.k.length + 1 + x.v.length ≤ 400))) := by show _ = _; rw [HO.out, h1, h2]; unfold valS; rw [h3, h4]; rfl
  by_cases h0 : 0 < (str x.v).size
  · have he : (str x.v).toList.isEmpty = false := emp_f h0
    have b5 : (0 : Int) ≤ ((str x.v).size : Int) - 1 := by omega
    have b6 : ((str x.v).size : Int) - 1 < ((str x.v).size : Int) := by omega
    have b7 : (((str x.v).size : Int) - 1).toNat = (str x.v).size - 1 := by omega
    have hl := lastIs_at (c := 92) h0
    rcases h5 : lastIs 92 (str x.v) with _ | _
    · have e20 : ((((str x.v)[(str x.v).size - 1]'(by omega)).toNat : Int) == 92) = false := hl.symm.trans h5
      have e2 : ((((str x.v)[(str x.v).size - 1]'(by omega)).toNat : Int) != 92) = true := by rw [bne, e20]; rfl
      have H5 := Lib.hid h5
      clear hl h5
      rcases h6 : decide (((str x.k).size : Int) + 1 + ((str x.v).size : Int) ≤ 400) with _ | _
      all_goals
        have H6 := Lib.hid h6
        go_enter Tryd.func27, Tryd.ntmps27
        go_wp2_with (first
          | ((with_reducible refine (of_sec _ m1 _).mono ?_); rintro e w1 ⟨rfl, rfl⟩)
          | ((with_reducible refine (of_key _ m2 _).mono ?_); rintro e w1 ⟨rfl, rfl⟩)
          | (go_at_call 19; refine (Clean_any _ m3 _).mono ?_; rintro e w1 ⟨rfl, rfl⟩)
          | (go_at_call 23; refine (Trim_any _ m3 _).mono ?_; rintro e w1 ⟨rfl, rfl⟩))
        go_ret
        exact ⟨ret_bool (by rw [HV.out, H5.out, ← HLE.out, H6.out]; rfl), (Below.refl _ _).alloc (Nat.le_refl _) _⟩
    · have e20 : ((((str x.v)[(str x.v).size - 1]'(by omega)).toNat : Int) == 92) = true := hl.symm.trans h5
      have e2 : ((((str x.v)[(str x.v).size - 1]'(by omega)).toNat : Int) != 92) = false := by rw [bne, e20]; rfl
      have H5 := Lib.hid h5
      clear hl h5
      go_enter Tryd.func27, Tryd.ntmps27
      go_wp2_with (first
        | ((with_reducible refine (of_sec _ m1 _).mono ?_); rintro e w1 ⟨rfl, rfl⟩)
        | ((with_reducible refine (of_key _ m2 _).mono ?_); rintro e w1 ⟨rfl, rfl⟩)
        | (go_at_call 19; refine (Clean_any _ m3 _).mono ?_; rintro e w1 ⟨rfl, rfl⟩)
        | (go_at_call 23; refine (Trim_any _ m3 _).mono ?_; rintro e w1 ⟨rfl, rfl⟩))
      go_ret
      exact ⟨ret_bool (by rw [HV.out, H5.out]; rfl), (Below.refl _ _).alloc (Nat.le_refl _) _⟩
  · have he : (str x.v).toList.isEmpty = true := emp_t (by omega)
    have H5 : Hid (lastIs 92 (str x.v) = false) := lastIs_empty (by omega)
    rcases h6 : decide (((str x.k).size : Int) + 1 + ((str x.v).size : Int) ≤ 400) with _ | _
    all_goals
      have H6 := Lib.hid h6
      go_enter Tryd.func27, Tryd.ntmps27
      go_wp2_with (first
        | ((with_reducible refine (of_sec _ m1 _).mono ?_); rintro e w1 ⟨rfl, rfl⟩)
        | ((with_reducible refine (of_key _ m2 _).mono ?_); rintro e w1 ⟨rfl, rfl⟩)
        | (go_at_call 19; refine (Clean_any _ m3 _).mono ?_; rintro e w1 ⟨rfl, rfl⟩)
        | (go_at_call 23; refine (Trim_any _ m3 _).mono ?_; rintro e w1 ⟨rfl, rfl⟩))
      go_ret
      exact ⟨ret_bool (by rw [HV.out, H5.out, ← HLE.out, H6.out]; rfl), (Below.refl _ _).alloc (Nat.le_refl _) _⟩
end Go.Proofs.YthgpocbmkmmecaaDoor
