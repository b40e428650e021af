/- The walk of what the laws show first. -/
import Derived.Test.YthgpocbmkmmecaaDoorLoB
import Derived.Test.YthgpocbmkmmecaaDoorLnQ
namespace Go.Proofs.YthgpocbmkmmecaaDoor
open Go.RowKit

def shL : List Ln := [⟨[85, 110, 105, 116], [65], [98, 32, 32, 32, 100], 3⟩, ⟨[85, 110, 105, 116], [66], [], 7⟩]
theorem sh1 : parseT [35, 32, 97, 10, 91, 85, 110, 105, 116, 93, 10, 65, 32, 61, 32, 98, 32, 92, 10, 32, 32, 59, 99, 10, 32, 100, 10, 10, 66, 61, 10] = (shL, 0, 0) := by decide +kernel
theorem sh2 : parseT [91, 85, 110, 105, 116, 93, 10, 65, 61, 49, 10, 66, 10] = ([], 9, 3) := by decide +kernel
theorem sh3 : parseT [65, 61, 49] = ([], 10, 1) := by decide +kernel
theorem sh4 : printT shL = [91, 85, 110, 105, 116, 93, 10, 65, 61, 98, 32, 32, 32, 100, 10, 66, 61, 10] := by decide +kernel
theorem sh5 : ∀ x ∈ shL, SizeLn x := by
  intro x hx
  unfold shL at hx
  simp only [List.mem_cons, List.not_mem_nil, or_false] at hx
  rcases hx with rfl | rfl <;> exact ⟨by decide, by decide, by decide⟩
theorem add0 (ad : Addr) : ad.add 0 = ad := by simp [Addr.add]
set_option maxRecDepth 100000 in
set_option maxHeartbeats 8000000 in
theorem shown_any (w : World) : Calls Tryd.prog 10 #[] w fun e w' => e = .returned (.bool true) ∧ Below w.heap.size w w' := by
  have P1 : Hid (parseT (⟨#[35, 32, 97, 10, 91, 85, 110, 105, 116, 93, 10, 65, 32, 61, 32, 98, 32, 92, 10, 32, 32, 59, 99, 10, 32, 100, 10, 10, 66, 61, 10]⟩ : ByteArray).data.toList = (shL, 0, 0)) := sh1
  have P2 : Hid (parseT (⟨#[91, 85, 110, 105, 116, 93, 10, 65, 61, 49, 10, 66, 10]⟩ : ByteArray).data.toList = ([], 9, 3)) := sh2
  have P3 : Hid (parseT (⟨#[65, 61, 49]⟩ : ByteArray).data.toList = ([], 10, 1)) := sh3
  go_enter Tryd.func10, Tryd.ntmps10
  go_wp2_with fail
  refine (Parse_any _ _).mono ?_
  rintro e w1 ⟨A, n, c, rfl, hL, hb1⟩
  rw [P1.out] at hL ⊢
  obtain rfl : n = 2 := hL.1.symm
  have HL := Lib.hid hL
  have Hb1 := Lib.hid hb1
  have HF1 : Hid (Blk (w1.alloc (.cells #[.int .i64 0, .int .i64 0] 26)) w1.heap.size 26 #[.int .i64 0, .int .i64 0]) := Blk.new w1 _ _
  clear hL hb1
  go_wp2_with fail
  refine (Parse_any _ _).mono ?_
  rintro e w2 ⟨A2, n2, c2, rfl, _, hb2⟩
  rw [P2.out]
  have HF1b := Lib.hid (HF1.out.below hb2 HF1.out.lt)
  have HF2 : Hid (Blk (w2.alloc (.cells #[.int .i64 9, .int .i64 3] 26)) w2.heap.size 26 #[.int .i64 9, .int .i64 3]) := Blk.new w2 _ _
  have hs2 : w1.heap.size + 1 ≤ w2.heap.size := by have := hb2.size; simpa using this
  have Hb2 : Hid (Below w.heap.size w w2) := more3 (Hb1.out.alloc Hb1.out.size _) (by have := Hb1.out.size; simp; omega) hb2
  have Hb2L : Hid (Below w1.heap.size w1 w2) := more3 ((Below.refl _ w1).alloc (Nat.le_refl _) (.cells #[.int .i64 0, .int .i64 0] 26)) (by simp) hb2
  clear hb2
  go_wp2_with fail
  refine (Parse_any _ _).mono ?_
  rintro e w3 ⟨A3, n3, c3, rfl, _, hb3⟩
  rw [P3.out]
  have HF1c := Lib.hid ((HF1b.out.alloc (.cells #[.int .i64 9, .int .i64 3] 26)).below hb3 (by have := HF1b.out.lt; simp; omega))
  have HF2c := Lib.hid (HF2.out.below hb3 HF2.out.lt)
  have hs3 : w2.heap.size + 1 ≤ w3.heap.size := by have := hb3.size; simpa using this
  have Hb3 : Hid (Below w.heap.size w w3) := more3 (Hb2.out.alloc Hb2.out.size _) (by have := Hb2.out.size; simp; omega) hb3
  have Hb3L : Hid (Below w1.heap.size w1 w3) := more3 (Hb2L.out.alloc Hb2L.out.size _) (by have := Hb2L.out.size; simp; omega) hb3
  clear hb3
  obtain ⟨ad, x, rfl, had, hx, q0, q1, q2, q3⟩ := (HL.out.below Hb3L.out).at_ (k := 0) (by omega)
  obtain ⟨ad', y, hA, _, hy, p0, p1, p2, p3⟩ := (HL.out.below Hb3L.out).at_ (k := 1) (by omega)
  injection hA with hA
  subst hA
  have hx : x = ⟨[85, 110, 105, 116], [65], [98, 32, 32, 32, 100], 3⟩ := by
    have h : shL[0]? = some x := hx
    simp [shL] at h
    exact h.symm
  have hy : y = ⟨[85, 110, 105, 116], [66], [], 7⟩ := by
    have h : shL[1]? = some y := hy
    simp [shL] at h
    exact h.symm
  subst hx hy
  rw [Nat.zero_mul, add0] at q0 q1 q2 q3
  have e4 : ad.add 4 = ⟨ad.block, ad.off + 4, none⟩ := by simp [Addr.add]
  rw [Nat.one_mul, e4] at p0 p1 p2 p3
  dsimp only at p0 p1 p2 p3
  have f0 : w3.cell? ⟨w1.heap.size, 0, none⟩ = some (.int .i64 0) := HF1c.out.cell 0
  have f1 : w3.cell? ⟨w1.heap.size, 1, none⟩ = some (.int .i64 0) := HF1c.out.cell 1
  have g0 : w3.cell? ⟨w2.heap.size, 0, none⟩ = some (.int .i64 9) := HF2c.out.cell 0
  have g1 : w3.cell? ⟨w2.heap.size, 1, none⟩ = some (.int .i64 3) := HF2c.out.cell 1
  have r1 := fun W : World => run_eql_fault W 0 0 0 0
  have r2 := fun W : World => run_eql_fault W 9 3 9 3
  have r3 := fun W : World => run_eql_fault W 10 1 10 1
  have r4 : ∀ W : World, (binOp .eql 34 (.agg #[.string (str [85, 110, 105, 116]), .string (str [65]), .string (str [98, 32, 32, 32, 100]), .int .i64 3]) (.agg #[.string ⟨#[85, 110, 105, 116]⟩, .string ⟨#[65]⟩, .string ⟨#[98, 32, 32, 32, 100]⟩, .int .i64 3])).run Tryd.prog W = .ok (.bool true) W := fun W => (run_eql_line W _ _ _ _ _ _ _ _).trans (by simp [Lib.toList_data, str])
  have r5 : ∀ W : World, (binOp .eql 34 (.agg #[.string (str [85, 110, 105, 116]), .string (str [66]), .string (str []), .int .i64 7]) (.agg #[.string ⟨#[85, 110, 105, 116]⟩, .string ⟨#[66]⟩, .string ⟨#[]⟩, .int .i64 7])).run Tryd.prog W = .ok (.bool true) W := fun W => (run_eql_line W _ _ _ _ _ _ _ _).trans (by simp [Lib.toList_data, str])
  have y1 : w1.heap.size < w3.heap.size := by omega
  have y2 : w2.heap.size < w3.heap.size := by omega
  have y3 : ad.block < w3.heap.size := by omega
  go_wp2_with fail
  have Hb4 : Hid (Below w.heap.size w (w3.alloc (.cells #[.int .i64 10, .int .i64 1] 26))) := Hb3.out.alloc Hb3.out.size _
  have HL4 : Hid (LnsAt (w3.alloc (.cells #[.int .i64 10, .int .i64 1] 26)) w1.heap.size (some ad) 2 shL) := HL.out.below (Hb3L.out.alloc (by omega) _)
  refine (Print_any (some ad) 2 c w1.heap.size shL _ HL4.out (by simp; omega) sh5).mono ?_
  rintro e w4 ⟨rfl, hb4⟩
  rw [sh4]
  have Hb5 := Lib.hid (more3 Hb4.out Hb4.out.size hb4)
  clear hb4
  go_wp2_with fail
  go_ret
  exact ⟨ret_bool (by rw [Lib.toList_data]; rfl), Hb5.out⟩
end Go.Proofs.YthgpocbmkmmecaaDoor
