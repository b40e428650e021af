/- The walks of the laws LinesParse, LinesPrint. -/
import Derived.Test.YthgpocbmkmmecaaDoorLoC
import Derived.Test.YthgpocbmkmmecaaDoorLnM
import Derived.Test.YthgpocbmkmmecaaDoorLnQ
namespace Go.Proofs.YthgpocbmkmmecaaDoor
open Go.RowKit

set_option maxRecDepth 100000 in
set_option maxHeartbeats 4000000 in
theorem LinesParse_any (s : ByteArray) (w : World) : Calls Tryd.prog 3 #[.string s] w fun e w' => e = .returned (.bool true) ∧ Below w.heap.size w w' := by
  obtain ⟨L, c, i, hp⟩ : ∃ L c i, parseT s.data.toList = (L, c, i) := ⟨_, _, _, rfl⟩
  have HP := Lib.hid hp
  clear hp
  go_enter Tryd.func3, Tryd.ntmps3
  go_wp2_with fail
  refine (shown_any _).mono ?_
  rintro e w0 ⟨rfl, hb0⟩
  have Hb0 := Lib.hid hb0
  clear hb0
  go_wp2_with fail
  refine (Parse_any _ _).mono ?_
  rintro e w1 ⟨A, n, cp, rfl, hL, hb1⟩
  rw [HP.out] at hL ⊢
  have HL1 := Lib.hid hL
  have Hb1 := Lib.hid (more3 Hb0.out Hb0.out.size hb1)
  have HF1 : Hid (Blk (w1.alloc (.cells #[.int .i64 c, .int .i64 i] 26)) w1.heap.size 26 #[.int .i64 c, .int .i64 i]) := Blk.new w1 _ _
  clear hL hb1
  go_wp2_with fail
  refine (rParse_any _ _).mono ?_
  rintro e w2 ⟨A2, n2, cp2, rfl, hL2, hb2⟩
  rw [HP.out] at hL2 ⊢
  have HL2 : Hid (LnsAt w2 w2.heap.size A2 n2 L) := hL2
  have HF1b := Lib.hid (HF1.out.below hb2 HF1.out.lt)
  have hs2 : w1.heap.size + 1 ≤ w2.heap.size := by have := hb2.size; simpa using this
  have Hb2 : Hid (Below w.heap.size w w2) := more3 (Hb1.out.alloc Hb1.out.size _) (by have := Hb1.out.size; simp; omega) hb2
  have HL1b : Hid (LnsAt w2 w1.heap.size A n L) := HL1.out.below (more3 ((Below.refl _ w1).alloc (Nat.le_refl _) (.cells #[.int .i64 c, .int .i64 i] 26)) (by simp) hb2)
  have HF2 : Hid (Blk (w2.alloc (.cells #[.int .i64 c, .int .i64 i] 26)) w2.heap.size 26 #[.int .i64 c, .int .i64 i]) := Blk.new w2 _ _
  have HLA : Hid (LnsAt (w2.alloc (.cells #[.int .i64 c, .int .i64 i] 26)) w1.heap.size A n L) := HL1b.out.below ((Below.refl _ w2).alloc (Nat.le_refl _) _ |>.mono (by omega))
  have HLB : Hid (LnsAt (w2.alloc (.cells #[.int .i64 c, .int .i64 i] 26)) w2.heap.size A2 n2 L) := HL2.out.below ((Below.refl _ w2).alloc (Nat.le_refl _) _)
  clear hL2 hb2
  have y1 : w1.heap.size < w2.heap.size := by omega
  have f0 : w2.cell? ⟨w1.heap.size, 0, none⟩ = some (.int .i64 c) := HF1b.out.cell 0
  have f1 : w2.cell? ⟨w1.heap.size, 1, none⟩ = some (.int .i64 i) := HF1b.out.cell 1
  have r1 := fun W : World => run_eql_fault W c i c i
  go_wp2_with fail
  refine (SameLines_any A A2 n n2 _ _ w1.heap.size w2.heap.size L L _ HLA.out HLB.out).mono ?_
  rintro e w3 ⟨rfl, j, rfl⟩
  have ht : decide (L = L) = true := by simp
  rw [ht]
  go_wp2_with fail
  go_ret
  exact ⟨ret_bool (by simp), below_drewN (Hb2.out.alloc Hb2.out.size _) j⟩
set_option maxRecDepth 100000 in
set_option maxHeartbeats 4000000 in
theorem LinesPrint_any (A : Option Addr) (n c : Nat) (l : List Ln) (w : World) (h : LnsAt w w.heap.size A n l) (hz : ∀ x ∈ l, SizeLn x) : Calls Tryd.prog 4 #[.slice A n c] w fun e w' => e = .returned (.bool true) ∧ Below w.heap.size w w' := by
  have HL := Lib.hid h
  have HZ := Lib.hid hz
  clear h hz
  go_enter Tryd.func4, Tryd.ntmps4
  go_wp2_with fail
  refine (shown_any _).mono ?_
  rintro e w0 ⟨rfl, hb0⟩
  have Hb0 := Lib.hid hb0
  clear hb0
  go_wp2_with fail
  refine (May_any A n c w.heap.size l _ (HL.out.below Hb0.out) Hb0.out.size HZ.out).mono ?_
  rintro e w1 ⟨rfl, hb1⟩
  have Hb1 := Lib.hid (more3 Hb0.out Hb0.out.size hb1)
  clear hb1
  go_wp2_with fail
  refine (rMay_any A n c w.heap.size l _ (HL.out.below Hb1.out) Hb1.out.size HZ.out).mono ?_
  rintro e w2 ⟨rfl, hb2⟩
  have Hb2 := Lib.hid (more3 Hb1.out Hb1.out.size hb2)
  clear hb2
  have ht : (mayT l == mayT l) = true := by simp
  go_wp2_with fail
  refine (Print_any A n c w.heap.size l _ (HL.out.below Hb2.out) Hb2.out.size HZ.out).mono ?_
  rintro e w3 ⟨rfl, hb3⟩
  have Hb3 := Lib.hid (more3 Hb2.out Hb2.out.size hb3)
  clear hb3
  go_wp2_with fail
  refine (rPrint_any A n c w.heap.size l _ (HL.out.below Hb3.out) Hb3.out.size HZ.out).mono ?_
  rintro e w4 ⟨rfl, hb4⟩
  have Hb4 := Lib.hid (more3 Hb3.out Hb3.out.size hb4)
  clear hb4
  have ht2 : ((str (printT l)).toList == (str (printT l)).toList) = true := by simp
  go_wp2_with fail
  go_ret
  exact ⟨ret_bool (by simp), Hb4.out⟩
end Go.Proofs.YthgpocbmkmmecaaDoor
