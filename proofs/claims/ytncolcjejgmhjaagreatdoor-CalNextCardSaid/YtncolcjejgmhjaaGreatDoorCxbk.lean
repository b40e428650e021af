/- The walk of the developers' printPart. -/
import Derived.Test.YtncolcjejgmhjaaGreatDoorCxbj
namespace Go.Proofs.YtncolcjejgmhjaaGreatDoor
open Go.RowKit
theorem numT_len {n : Nat} (h : n ≤ 9999) : (numT n).length ≤ 5 := by
  have hd : (decL n).length ≤ 4 := decL_len 3 n (by omega)
  unfold numT
  split
  · rw [List.length_cons]; omega
  · omega
theorem Tb {B : Nat} {w w1 : World} (ht : ∀ w', Below B w w' → P10 w') (h : Below B w w1) : ∀ w', Below B w1 w' → P10 w' := fun w' hb => ht w' (h.trans hb)
set_option maxHeartbeats 4000000 in
set_option maxRecDepth 100000 in
theorem part_000 (B b : Nat) (l : List UInt8) (w : World) (h : Lib.IsBuilderF 69 5 B b (Lib.byteCells l) w) (hl : l.length ≤ 99000) (hB : B ≤ w.heap.size) (ht : ∀ w', Below B w w' → P10 w') :
    Calls Tryz.prog 55 #[.pointer (some ⟨b, 0, none⟩), .agg #[.int .i64 (-1), .int .i64 (-1), .int .i64 0]] w fun e w' => e = .returned (.tuple #[]) ∧ (Lib.IsBuilderF 69 5 B b (Lib.byteCells (l ++ [42])) w' ∧ Below B w w' ∧ KeepB b w w') := by
  have Ht := Lib.hid ht
  clear ht
  go_enter Tryz.func55, Tryz.ntmps55
  have HI := Lib.hid (builder_later h ((Below.refl _ _).alloc (Nat.le_refl _) (.cells #[.int .i64 (-1), .int .i64 (-1), .int .i64 0] 58)))
  have HW : Hid (Below B w (w.alloc (.cells #[.int .i64 (-1), .int .i64 (-1), .int .i64 0] 58))) := ((Below.refl w.heap.size w).alloc (Nat.le_refl _) _).mono hB
  have HP : Hid (Blk (w.alloc (.cells #[.int .i64 (-1), .int .i64 (-1), .int .i64 0] 58)) w.heap.size 58 #[.int .i64 (-1), .int .i64 (-1), .int .i64 0]) := Blk.new w _ _
  have hz : b < w.heap.size := h.elim (·.lt) (·.lt)
  have HK : Hid (KeepB b w (w.alloc (.cells #[.int .i64 (-1), .int .i64 (-1), .int .i64 0] 58))) := keep_below b ((Below.refl _ _).alloc (Nat.le_refl _) _)
  clear h
  go_wp2_with fail
  have hz0 : w.heap.size ≠ b := by omega
  have hlen0 : (l).length ≤ 99000 + 0 := by (try simp only [List.length_append, List.length_cons, List.length_nil]); omega
  refine (writeByte_k B b _ 42 _ HI.out (by rw [byteCells_len]; omega) (by have := HW.out.size; omega)).mono ?_
  rintro e wx ⟨rfl, hi, hbx, hkx⟩
  rw [cells_42] at hi
  have HI : Hid (Lib.IsBuilderF 69 5 B b (Lib.byteCells (l ++ [42])) wx) := hi
  have HPn : Hid (Blk wx w.heap.size 58 #[.int .i64 (-1), .int .i64 (-1), .int .i64 0]) := hkx _ _ _ hz0 (by decide) HP.out
  have HKn := Lib.hid (keep_trans HK.out hkx)
  have HK := HKn
  clear hkx
  have HP := HPn
  have HWn := Lib.hid (HW.out.trans hbx)
  have HW := HWn
  have c0 := HP.out.cell 0
  have c1 := HP.out.cell 1
  have c2 := HP.out.cell 2
  have hsz := HW.out.size
  clear hi hbx
  clear hlen0
  go_wp2_with fail
  go_end0
  exact ⟨rfl, HI.out, HW.out, HK.out⟩
set_option maxHeartbeats 4000000 in
set_option maxRecDepth 100000 in
theorem part_001 (B b : Nat) (l : List UInt8) (S : Nat) (hS : S ≤ 9999) (hS0 : 1 ≤ S) (w : World) (h : Lib.IsBuilderF 69 5 B b (Lib.byteCells l) w) (hl : l.length ≤ 99000) (hB : B ≤ w.heap.size) (ht : ∀ w', Below B w w' → P10 w') :
    Calls Tryz.prog 55 #[.pointer (some ⟨b, 0, none⟩), .agg #[.int .i64 (-1), .int .i64 (-1), .int .i64 (S : Int)]] w fun e w' => e = .returned (.tuple #[]) ∧ (Lib.IsBuilderF 69 5 B b (Lib.byteCells (l ++ [42] ++ [47] ++ decL S)) w' ∧ Below B w w' ∧ KeepB b w w') := by
  have Ht := Lib.hid ht
  clear ht
  go_enter Tryz.func55, Tryz.ntmps55
  have es : (0 : Int) < (S : Int) := by omega
  have HI := Lib.hid (builder_later h ((Below.refl _ _).alloc (Nat.le_refl _) (.cells #[.int .i64 (-1), .int .i64 (-1), .int .i64 (S : Int)] 58)))
  have HW : Hid (Below B w (w.alloc (.cells #[.int .i64 (-1), .int .i64 (-1), .int .i64 (S : Int)] 58))) := ((Below.refl w.heap.size w).alloc (Nat.le_refl _) _).mono hB
  have HP : Hid (Blk (w.alloc (.cells #[.int .i64 (-1), .int .i64 (-1), .int .i64 (S : Int)] 58)) w.heap.size 58 #[.int .i64 (-1), .int .i64 (-1), .int .i64 (S : Int)]) := Blk.new w _ _
  have hz : b < w.heap.size := h.elim (·.lt) (·.lt)
  have HK : Hid (KeepB b w (w.alloc (.cells #[.int .i64 (-1), .int .i64 (-1), .int .i64 (S : Int)] 58))) := keep_below b ((Below.refl _ _).alloc (Nat.le_refl _) _)
  clear h
  go_wp2_with fail
  have hz0 : w.heap.size ≠ b := by omega
  have hlen0 : (l).length ≤ 99000 + 0 := by (try simp only [List.length_append, List.length_cons, List.length_nil]); have : (decL S).length ≤ 4 := decL_len 3 S (by omega); omega
  refine (writeByte_k B b _ 42 _ HI.out (by rw [byteCells_len]; omega) (by have := HW.out.size; omega)).mono ?_
  rintro e wx ⟨rfl, hi, hbx, hkx⟩
  rw [cells_42] at hi
  have HI : Hid (Lib.IsBuilderF 69 5 B b (Lib.byteCells (l ++ [42])) wx) := hi
  have HPn : Hid (Blk wx w.heap.size 58 #[.int .i64 (-1), .int .i64 (-1), .int .i64 (S : Int)]) := hkx _ _ _ hz0 (by decide) HP.out
  have HKn := Lib.hid (keep_trans HK.out hkx)
  have HK := HKn
  clear hkx
  have HP := HPn
  have HWn := Lib.hid (HW.out.trans hbx)
  have HW := HWn
  have c0 := HP.out.cell 0
  have c1 := HP.out.cell 1
  have c2 := HP.out.cell 2
  have hsz := HW.out.size
  clear hi hbx
  clear hlen0
  go_wp2_with fail
  have hlen1 : (l ++ [42]).length ≤ 99000 + 1 := by (try simp only [List.length_append, List.length_cons, List.length_nil]); have : (decL S).length ≤ 4 := decL_len 3 S (by omega); omega
  refine (writeByte_k B b _ 47 _ HI.out (by rw [byteCells_len]; omega) (by have := HW.out.size; omega)).mono ?_
  rintro e wx ⟨rfl, hi, hbx, hkx⟩
  rw [cells_47] at hi
  have HI : Hid (Lib.IsBuilderF 69 5 B b (Lib.byteCells (l ++ [42] ++ [47])) wx) := hi
  have HPn : Hid (Blk wx w.heap.size 58 #[.int .i64 (-1), .int .i64 (-1), .int .i64 (S : Int)]) := hkx _ _ _ hz0 (by decide) HP.out
  have HKn := Lib.hid (keep_trans HK.out hkx)
  have HK := HKn
  clear hkx
  have HP := HPn
  have HWn := Lib.hid (HW.out.trans hbx)
  have HW := HWn
  have c0 := HP.out.cell 0
  have c1 := HP.out.cell 1
  have c2 := HP.out.cell 2
  have hsz := HW.out.size
  clear hi hbx
  clear hlen1
  go_wp2_with fail
  have hlen2 : (l ++ [42] ++ [47]).length ≤ 99000 + 2 := by (try simp only [List.length_append, List.length_cons, List.length_nil]); have : (decL S).length ≤ 4 := decL_len 3 S (by omega); omega
  have hd : (decL S).length ≤ 4 := decL_len 3 S (by omega)
  refine (Tryz.strconv_Itoa S (by omega) (by omega) _ (Ht.out _ HW.out)).mono ?_
  rintro e wy ⟨rfl, k, os, rfl⟩
  rw [itoa_nat S]
  have hg := grow_below wx k os
  have HI : Hid (Lib.IsBuilderF 69 5 B b (Lib.byteCells (l ++ [42] ++ [47])) (Sort.grow (wx.drewN k) os)) := builder_later HI.out hg
  have HKn := Lib.hid (keep_trans HK.out (keep_below b hg))
  have HK := HKn
  have HWn := Lib.hid (HW.out.trans (hg.mono (by have := HW.out.size; omega)))
  have HW := HWn
  clear hg HP c0 c1 c2
  generalize Sort.grow (wx.drewN k) os = wz at *
  go_wp2_with fail
  refine (writeString_k B b _ (str (decL S)) _ HI.out (by rw [byteCells_len, str_size]; omega) (by have := HW.out.size; omega)).mono ?_
  rintro e wx ⟨rfl, hi, hbx, hkx⟩
  rw [cells_str] at hi
  have HI : Hid (Lib.IsBuilderF 69 5 B b (Lib.byteCells (l ++ [42] ++ [47] ++ decL S)) wx) := hi
  have HWn := Lib.hid (HW.out.trans hbx)
  have HW := HWn
  have HKn := Lib.hid (keep_trans HK.out hkx)
  have HK := HKn
  clear hi hbx hkx hlen2 hd
  go_wp2_with fail
  go_end0
  exact ⟨rfl, HI.out, HW.out, HK.out⟩
set_option maxHeartbeats 4000000 in
set_option maxRecDepth 100000 in
theorem part_100 (B b : Nat) (l : List UInt8) (A : Nat) (hA : A ≤ 9999) (w : World) (h : Lib.IsBuilderF 69 5 B b (Lib.byteCells l) w) (hl : l.length ≤ 99000) (hB : B ≤ w.heap.size) (ht : ∀ w', Below B w w' → P10 w') :
    Calls Tryz.prog 55 #[.pointer (some ⟨b, 0, none⟩), .agg #[.int .i64 (A : Int), .int .i64 (-1), .int .i64 0]] w fun e w' => e = .returned (.tuple #[]) ∧ (Lib.IsBuilderF 69 5 B b (Lib.byteCells (l ++ numT A)) w' ∧ Below B w w' ∧ KeepB b w w') := by
  have Ht := Lib.hid ht
  clear ht
  go_enter Tryz.func55, Tryz.ntmps55
  have ea : ((A : Int) == -1) = false := by (simp <;> omega)
  have HI := Lib.hid (builder_later h ((Below.refl _ _).alloc (Nat.le_refl _) (.cells #[.int .i64 (A : Int), .int .i64 (-1), .int .i64 0] 58)))
  have HW : Hid (Below B w (w.alloc (.cells #[.int .i64 (A : Int), .int .i64 (-1), .int .i64 0] 58))) := ((Below.refl w.heap.size w).alloc (Nat.le_refl _) _).mono hB
  have HP : Hid (Blk (w.alloc (.cells #[.int .i64 (A : Int), .int .i64 (-1), .int .i64 0] 58)) w.heap.size 58 #[.int .i64 (A : Int), .int .i64 (-1), .int .i64 0]) := Blk.new w _ _
  have hz : b < w.heap.size := h.elim (·.lt) (·.lt)
  have HK : Hid (KeepB b w (w.alloc (.cells #[.int .i64 (A : Int), .int .i64 (-1), .int .i64 0] 58))) := keep_below b ((Below.refl _ _).alloc (Nat.le_refl _) _)
  clear h
  go_wp2_with fail
  have hz0 : w.heap.size ≠ b := by omega
  have hlen0 : (l).length ≤ 99000 + 0 := by (try simp only [List.length_append, List.length_cons, List.length_nil]); have := numT_len hA; omega
  refine (printNumber_any B b _ A _ HI.out (by omega) hA (by have := HW.out.size; omega) (Tb Ht.out HW.out)).mono ?_
  rintro e wx ⟨rfl, hi, hbx, hkx⟩
  have HI : Hid (Lib.IsBuilderF 69 5 B b (Lib.byteCells (l ++ numT A)) wx) := hi
  have HPn : Hid (Blk wx w.heap.size 58 #[.int .i64 (A : Int), .int .i64 (-1), .int .i64 0]) := hkx _ _ _ hz0 (by decide) HP.out
  have HKn := Lib.hid (keep_trans HK.out hkx)
  have HK := HKn
  clear hkx
  have HP := HPn
  have HWn := Lib.hid (HW.out.trans hbx)
  have HW := HWn
  have c0 := HP.out.cell 0
  have c1 := HP.out.cell 1
  have c2 := HP.out.cell 2
  have hsz := HW.out.size
  clear hi hbx
  clear hlen0
  go_wp2_with fail
  go_end0
  exact ⟨rfl, HI.out, HW.out, HK.out⟩
set_option maxHeartbeats 4000000 in
set_option maxRecDepth 100000 in
theorem part_101 (B b : Nat) (l : List UInt8) (A : Nat) (hA : A ≤ 9999) (S : Nat) (hS : S ≤ 9999) (hS0 : 1 ≤ S) (w : World) (h : Lib.IsBuilderF 69 5 B b (Lib.byteCells l) w) (hl : l.length ≤ 99000) (hB : B ≤ w.heap.size) (ht : ∀ w', Below B w w' → P10 w') :
    Calls Tryz.prog 55 #[.pointer (some ⟨b, 0, none⟩), .agg #[.int .i64 (A : Int), .int .i64 (-1), .int .i64 (S : Int)]] w fun e w' => e = .returned (.tuple #[]) ∧ (Lib.IsBuilderF 69 5 B b (Lib.byteCells (l ++ numT A ++ [47] ++ decL S)) w' ∧ Below B w w' ∧ KeepB b w w') := by
  have Ht := Lib.hid ht
  clear ht
  go_enter Tryz.func55, Tryz.ntmps55
  have ea : ((A : Int) == -1) = false := by (simp <;> omega)
  have es : (0 : Int) < (S : Int) := by omega
  have HI := Lib.hid (builder_later h ((Below.refl _ _).alloc (Nat.le_refl _) (.cells #[.int .i64 (A : Int), .int .i64 (-1), .int .i64 (S : Int)] 58)))
  have HW : Hid (Below B w (w.alloc (.cells #[.int .i64 (A : Int), .int .i64 (-1), .int .i64 (S : Int)] 58))) := ((Below.refl w.heap.size w).alloc (Nat.le_refl _) _).mono hB
  have HP : Hid (Blk (w.alloc (.cells #[.int .i64 (A : Int), .int .i64 (-1), .int .i64 (S : Int)] 58)) w.heap.size 58 #[.int .i64 (A : Int), .int .i64 (-1), .int .i64 (S : Int)]) := Blk.new w _ _
  have hz : b < w.heap.size := h.elim (·.lt) (·.lt)
  have HK : Hid (KeepB b w (w.alloc (.cells #[.int .i64 (A : Int), .int .i64 (-1), .int .i64 (S : Int)] 58))) := keep_below b ((Below.refl _ _).alloc (Nat.le_refl _) _)
  clear h
  go_wp2_with fail
  have hz0 : w.heap.size ≠ b := by omega
  have hlen0 : (l).length ≤ 99000 + 0 := by (try simp only [List.length_append, List.length_cons, List.length_nil]); have := numT_len hA; have : (decL S).length ≤ 4 := decL_len 3 S (by omega); omega
  refine (printNumber_any B b _ A _ HI.out (by omega) hA (by have := HW.out.size; omega) (Tb Ht.out HW.out)).mono ?_
  rintro e wx ⟨rfl, hi, hbx, hkx⟩
  have HI : Hid (Lib.IsBuilderF 69 5 B b (Lib.byteCells (l ++ numT A)) wx) := hi
  have HPn : Hid (Blk wx w.heap.size 58 #[.int .i64 (A : Int), .int .i64 (-1), .int .i64 (S : Int)]) := hkx _ _ _ hz0 (by decide) HP.out
  have HKn := Lib.hid (keep_trans HK.out hkx)
  have HK := HKn
  clear hkx
  have HP := HPn
  have HWn := Lib.hid (HW.out.trans hbx)
  have HW := HWn
  have c0 := HP.out.cell 0
  have c1 := HP.out.cell 1
  have c2 := HP.out.cell 2
  have hsz := HW.out.size
  clear hi hbx
  clear hlen0
  go_wp2_with fail
  have hlen1 : (l ++ numT A).length ≤ 99000 + 5 := by (try simp only [List.length_append]); have := numT_len hA; have : (decL S).length ≤ 4 := decL_len 3 S (by omega); omega
  refine (writeByte_k B b _ 47 _ HI.out (by rw [byteCells_len]; omega) (by have := HW.out.size; omega)).mono ?_
  rintro e wx ⟨rfl, hi, hbx, hkx⟩
  rw [cells_47] at hi
  have HI : Hid (Lib.IsBuilderF 69 5 B b (Lib.byteCells (l ++ numT A ++ [47])) wx) := hi
  have HPn : Hid (Blk wx w.heap.size 58 #[.int .i64 (A : Int), .int .i64 (-1), .int .i64 (S : Int)]) := hkx _ _ _ hz0 (by decide) HP.out
  have HKn := Lib.hid (keep_trans HK.out hkx)
  have HK := HKn
  clear hkx
  have HP := HPn
  have HWn := Lib.hid (HW.out.trans hbx)
  have HW := HWn
  have c0 := HP.out.cell 0
  have c1 := HP.out.cell 1
  have c2 := HP.out.cell 2
  have hsz := HW.out.size
  clear hi hbx
  clear hlen1
  go_wp2_with fail
  have hlen2 : (l ++ numT A ++ [47]).length ≤ 99000 + 6 := by (try simp only [List.length_append, List.length_cons, List.length_nil]); have := numT_len hA; have : (decL S).length ≤ 4 := decL_len 3 S (by omega); omega
  have hd : (decL S).length ≤ 4 := decL_len 3 S (by omega)
  refine (Tryz.strconv_Itoa S (by omega) (by omega) _ (Ht.out _ HW.out)).mono ?_
  rintro e wy ⟨rfl, k, os, rfl⟩
  rw [itoa_nat S]
  have hg := grow_below wx k os
  have HI : Hid (Lib.IsBuilderF 69 5 B b (Lib.byteCells (l ++ numT A ++ [47])) (Sort.grow (wx.drewN k) os)) := builder_later HI.out hg
  have HKn := Lib.hid (keep_trans HK.out (keep_below b hg))
  have HK := HKn
  have HWn := Lib.hid (HW.out.trans (hg.mono (by have := HW.out.size; omega)))
  have HW := HWn
  clear hg HP c0 c1 c2
  generalize Sort.grow (wx.drewN k) os = wz at *
  go_wp2_with fail
  refine (writeString_k B b _ (str (decL S)) _ HI.out (by rw [byteCells_len, str_size]; omega) (by have := HW.out.size; omega)).mono ?_
  rintro e wx ⟨rfl, hi, hbx, hkx⟩
  rw [cells_str] at hi
  have HI : Hid (Lib.IsBuilderF 69 5 B b (Lib.byteCells (l ++ numT A ++ [47] ++ decL S)) wx) := hi
  have HWn := Lib.hid (HW.out.trans hbx)
  have HW := HWn
  have HKn := Lib.hid (keep_trans HK.out hkx)
  have HK := HKn
  clear hi hbx hkx hlen2 hd
  go_wp2_with fail
  go_end0
  exact ⟨rfl, HI.out, HW.out, HK.out⟩
set_option maxHeartbeats 4000000 in
set_option maxRecDepth 100000 in
theorem part_110 (B b : Nat) (l : List UInt8) (A : Nat) (hA : A ≤ 9999) (C : Nat) (hC : C ≤ 9999) (w : World) (h : Lib.IsBuilderF 69 5 B b (Lib.byteCells l) w) (hl : l.length ≤ 99000) (hB : B ≤ w.heap.size) (ht : ∀ w', Below B w w' → P10 w') :
    Calls Tryz.prog 55 #[.pointer (some ⟨b, 0, none⟩), .agg #[.int .i64 (A : Int), .int .i64 (C : Int), .int .i64 0]] w fun e w' => e = .returned (.tuple #[]) ∧ (Lib.IsBuilderF 69 5 B b (Lib.byteCells (l ++ numT A ++ [46, 46] ++ numT C)) w' ∧ Below B w w' ∧ KeepB b w w') := by
  have Ht := Lib.hid ht
  clear ht
  go_enter Tryz.func55, Tryz.ntmps55
  have ea : ((A : Int) == -1) = false := by (simp <;> omega)
  have eb : ((C : Int) == -1) = false := by (simp <;> omega)
  have HI := Lib.hid (builder_later h ((Below.refl _ _).alloc (Nat.le_refl _) (.cells #[.int .i64 (A : Int), .int .i64 (C : Int), .int .i64 0] 58)))
  have HW : Hid (Below B w (w.alloc (.cells #[.int .i64 (A : Int), .int .i64 (C : Int), .int .i64 0] 58))) := ((Below.refl w.heap.size w).alloc (Nat.le_refl _) _).mono hB
  have HP : Hid (Blk (w.alloc (.cells #[.int .i64 (A : Int), .int .i64 (C : Int), .int .i64 0] 58)) w.heap.size 58 #[.int .i64 (A : Int), .int .i64 (C : Int), .int .i64 0]) := Blk.new w _ _
  have hz : b < w.heap.size := h.elim (·.lt) (·.lt)
  have HK : Hid (KeepB b w (w.alloc (.cells #[.int .i64 (A : Int), .int .i64 (C : Int), .int .i64 0] 58))) := keep_below b ((Below.refl _ _).alloc (Nat.le_refl _) _)
  clear h
  go_wp2_with fail
  have hz0 : w.heap.size ≠ b := by omega
  have hlen0 : (l).length ≤ 99000 + 0 := by (try simp only [List.length_append, List.length_cons, List.length_nil]); have := numT_len hA; have := numT_len hC; omega
  refine (printNumber_any B b _ A _ HI.out (by omega) hA (by have := HW.out.size; omega) (Tb Ht.out HW.out)).mono ?_
  rintro e wx ⟨rfl, hi, hbx, hkx⟩
  have HI : Hid (Lib.IsBuilderF 69 5 B b (Lib.byteCells (l ++ numT A)) wx) := hi
  have HPn : Hid (Blk wx w.heap.size 58 #[.int .i64 (A : Int), .int .i64 (C : Int), .int .i64 0]) := hkx _ _ _ hz0 (by decide) HP.out
  have HKn := Lib.hid (keep_trans HK.out hkx)
  have HK := HKn
  clear hkx
  have HP := HPn
  have HWn := Lib.hid (HW.out.trans hbx)
  have HW := HWn
  have c0 := HP.out.cell 0
  have c1 := HP.out.cell 1
  have c2 := HP.out.cell 2
  have hsz := HW.out.size
  clear hi hbx
  clear hlen0
  go_wp2_with fail
  have hlen1 : (l ++ numT A).length ≤ 99000 + 5 := by (try simp only [List.length_append]); have := numT_len hA; have := numT_len hC; omega
  refine (writeString_k B b _ (str [46, 46]) _ HI.out (by rw [byteCells_len, str_size]; simp only [List.length_cons, List.length_nil]; omega) (by have := HW.out.size; omega)).mono ?_
  rintro e wx ⟨rfl, hi, hbx, hkx⟩
  rw [cells_str] at hi
  have HI : Hid (Lib.IsBuilderF 69 5 B b (Lib.byteCells (l ++ numT A ++ [46, 46])) wx) := hi
  have HPn : Hid (Blk wx w.heap.size 58 #[.int .i64 (A : Int), .int .i64 (C : Int), .int .i64 0]) := hkx _ _ _ hz0 (by decide) HP.out
  have HKn := Lib.hid (keep_trans HK.out hkx)
  have HK := HKn
  clear hkx
  have HP := HPn
  have HWn := Lib.hid (HW.out.trans hbx)
  have HW := HWn
  have c0 := HP.out.cell 0
  have c1 := HP.out.cell 1
  have c2 := HP.out.cell 2
  have hsz := HW.out.size
  clear hi hbx
  clear hlen1
  go_wp2_with fail
  have hlen2 : (l ++ numT A ++ [46, 46]).length ≤ 99000 + 7 := by (try simp only [List.length_append, List.length_cons, List.length_nil]); have := numT_len hA; have := numT_len hC; omega
  refine (printNumber_any B b _ C _ HI.out (by omega) hC (by have := HW.out.size; omega) (Tb Ht.out HW.out)).mono ?_
  rintro e wx ⟨rfl, hi, hbx, hkx⟩
  have HI : Hid (Lib.IsBuilderF 69 5 B b (Lib.byteCells (l ++ numT A ++ [46, 46] ++ numT C)) wx) := hi
  have HPn : Hid (Blk wx w.heap.size 58 #[.int .i64 (A : Int), .int .i64 (C : Int), .int .i64 0]) := hkx _ _ _ hz0 (by decide) HP.out
  have HKn := Lib.hid (keep_trans HK.out hkx)
  have HK := HKn
  clear hkx
  have HP := HPn
  have HWn := Lib.hid (HW.out.trans hbx)
  have HW := HWn
  have c0 := HP.out.cell 0
  have c1 := HP.out.cell 1
  have c2 := HP.out.cell 2
  have hsz := HW.out.size
  clear hi hbx
  clear hlen2
  go_wp2_with fail
  go_end0
  exact ⟨rfl, HI.out, HW.out, HK.out⟩
set_option maxHeartbeats 4000000 in
set_option maxRecDepth 100000 in
theorem part_111 (B b : Nat) (l : List UInt8) (A : Nat) (hA : A ≤ 9999) (C : Nat) (hC : C ≤ 9999) (S : Nat) (hS : S ≤ 9999) (hS0 : 1 ≤ S) (w : World) (h : Lib.IsBuilderF 69 5 B b (Lib.byteCells l) w) (hl : l.length ≤ 99000) (hB : B ≤ w.heap.size) (ht : ∀ w', Below B w w' → P10 w') :
    Calls Tryz.prog 55 #[.pointer (some ⟨b, 0, none⟩), .agg #[.int .i64 (A : Int), .int .i64 (C : Int), .int .i64 (S : Int)]] w fun e w' => e = .returned (.tuple #[]) ∧ (Lib.IsBuilderF 69 5 B b (Lib.byteCells (l ++ numT A ++ [46, 46] ++ numT C ++ [47] ++ decL S)) w' ∧ Below B w w' ∧ KeepB b w w') := by
  have Ht := Lib.hid ht
  clear ht
  go_enter Tryz.func55, Tryz.ntmps55
  have ea : ((A : Int) == -1) = false := by (simp <;> omega)
  have eb : ((C : Int) == -1) = false := by (simp <;> omega)
  have es : (0 : Int) < (S : Int) := by omega
  have HI := Lib.hid (builder_later h ((Below.refl _ _).alloc (Nat.le_refl _) (.cells #[.int .i64 (A : Int), .int .i64 (C : Int), .int .i64 (S : Int)] 58)))
  have HW : Hid (Below B w (w.alloc (.cells #[.int .i64 (A : Int), .int .i64 (C : Int), .int .i64 (S : Int)] 58))) := ((Below.refl w.heap.size w).alloc (Nat.le_refl _) _).mono hB
  have HP : Hid (Blk (w.alloc (.cells #[.int .i64 (A : Int), .int .i64 (C : Int), .int .i64 (S : Int)] 58)) w.heap.size 58 #[.int .i64 (A : Int), .int .i64 (C : Int), .int .i64 (S : Int)]) := Blk.new w _ _
  have hz : b < w.heap.size := h.elim (·.lt) (·.lt)
  have HK : Hid (KeepB b w (w.alloc (.cells #[.int .i64 (A : Int), .int .i64 (C : Int), .int .i64 (S : Int)] 58))) := keep_below b ((Below.refl _ _).alloc (Nat.le_refl _) _)
  clear h
  go_wp2_with fail
  have hz0 : w.heap.size ≠ b := by omega
  have hlen0 : (l).length ≤ 99000 + 0 := by (try simp only [List.length_append, List.length_cons, List.length_nil]); have := numT_len hA; have := numT_len hC; have : (decL S).length ≤ 4 := decL_len 3 S (by omega); omega
  refine (printNumber_any B b _ A _ HI.out (by omega) hA (by have := HW.out.size; omega) (Tb Ht.out HW.out)).mono ?_
  rintro e wx ⟨rfl, hi, hbx, hkx⟩
  have HI : Hid (Lib.IsBuilderF 69 5 B b (Lib.byteCells (l ++ numT A)) wx) := hi
  have HPn : Hid (Blk wx w.heap.size 58 #[.int .i64 (A : Int), .int .i64 (C : Int), .int .i64 (S : Int)]) := hkx _ _ _ hz0 (by decide) HP.out
  have HKn := Lib.hid (keep_trans HK.out hkx)
  have HK := HKn
  clear hkx
  have HP := HPn
  have HWn := Lib.hid (HW.out.trans hbx)
  have HW := HWn
  have c0 := HP.out.cell 0
  have c1 := HP.out.cell 1
  have c2 := HP.out.cell 2
  have hsz := HW.out.size
  clear hi hbx
  clear hlen0
  go_wp2_with fail
  have hlen1 : (l ++ numT A).length ≤ 99000 + 5 := by (try simp only [List.length_append]); have := numT_len hA; have := numT_len hC; have : (decL S).length ≤ 4 := decL_len 3 S (by omega); omega
  refine (writeString_k B b _ (str [46, 46]) _ HI.out (by rw [byteCells_len, str_size]; simp only [List.length_cons, List.length_nil]; omega) (by have := HW.out.size; omega)).mono ?_
  rintro e wx ⟨rfl, hi, hbx, hkx⟩
  rw [cells_str] at hi
  have HI : Hid (Lib.IsBuilderF 69 5 B b (Lib.byteCells (l ++ numT A ++ [46, 46])) wx) := hi
  have HPn : Hid (Blk wx w.heap.size 58 #[.int .i64 (A : Int), .int .i64 (C : Int), .int .i64 (S : Int)]) := hkx _ _ _ hz0 (by decide) HP.out
  have HKn := Lib.hid (keep_trans HK.out hkx)
  have HK := HKn
  clear hkx
  have HP := HPn
  have HWn := Lib.hid (HW.out.trans hbx)
  have HW := HWn
  have c0 := HP.out.cell 0
  have c1 := HP.out.cell 1
  have c2 := HP.out.cell 2
  have hsz := HW.out.size
  clear hi hbx
  clear hlen1
  go_wp2_with fail
  have hlen2 : (l ++ numT A ++ [46, 46]).length ≤ 99000 + 7 := by (try simp only [List.length_append, List.length_cons, List.length_nil]); have := numT_len hA; have := numT_len hC; have : (decL S).length ≤ 4 := decL_len 3 S (by omega); omega
  refine (printNumber_any B b _ C _ HI.out (by omega) hC (by have := HW.out.size; omega) (Tb Ht.out HW.out)).mono ?_
  rintro e wx ⟨rfl, hi, hbx, hkx⟩
  have HI : Hid (Lib.IsBuilderF 69 5 B b (Lib.byteCells (l ++ numT A ++ [46, 46] ++ numT C)) wx) := hi
  have HPn : Hid (Blk wx w.heap.size 58 #[.int .i64 (A : Int), .int .i64 (C : Int), .int .i64 (S : Int)]) := hkx _ _ _ hz0 (by decide) HP.out
  have HKn := Lib.hid (keep_trans HK.out hkx)
  have HK := HKn
  clear hkx
  have HP := HPn
  have HWn := Lib.hid (HW.out.trans hbx)
  have HW := HWn
  have c0 := HP.out.cell 0
  have c1 := HP.out.cell 1
  have c2 := HP.out.cell 2
  have hsz := HW.out.size
  clear hi hbx
  clear hlen2
  go_wp2_with fail
  have hlen3 : (l ++ numT A ++ [46, 46] ++ numT C).length ≤ 99000 + 12 := by (try simp only [List.length_append, List.length_cons, List.length_nil]); have := numT_len hA; have := numT_len hC; have : (decL S).length ≤ 4 := decL_len 3 S (by omega); omega
  refine (writeByte_k B b _ 47 _ HI.out (by rw [byteCells_len]; omega) (by have := HW.out.size; omega)).mono ?_
  rintro e wx ⟨rfl, hi, hbx, hkx⟩
  rw [cells_47] at hi
  have HI : Hid (Lib.IsBuilderF 69 5 B b (Lib.byteCells (l ++ numT A ++ [46, 46] ++ numT C ++ [47])) wx) := hi
  have HPn : Hid (Blk wx w.heap.size 58 #[.int .i64 (A : Int), .int .i64 (C : Int), .int .i64 (S : Int)]) := hkx _ _ _ hz0 (by decide) HP.out
  have HKn := Lib.hid (keep_trans HK.out hkx)
  have HK := HKn
  clear hkx
  have HP := HPn
  have HWn := Lib.hid (HW.out.trans hbx)
  have HW := HWn
  have c0 := HP.out.cell 0
  have c1 := HP.out.cell 1
  have c2 := HP.out.cell 2
  have hsz := HW.out.size
  clear hi hbx
  clear hlen3
  go_wp2_with fail
  have hlen4 : (l ++ numT A ++ [46, 46] ++ numT C ++ [47]).length ≤ 99000 + 13 := by (try simp only [List.length_append, List.length_cons, List.length_nil]); have := numT_len hA; have := numT_len hC; have : (decL S).length ≤ 4 := decL_len 3 S (by omega); omega
  have hd : (decL S).length ≤ 4 := decL_len 3 S (by omega)
  refine (Tryz.strconv_Itoa S (by omega) (by omega) _ (Ht.out _ HW.out)).mono ?_
  rintro e wy ⟨rfl, k, os, rfl⟩
  rw [itoa_nat S]
  have hg := grow_below wx k os
  have HI : Hid (Lib.IsBuilderF 69 5 B b (Lib.byteCells (l ++ numT A ++ [46, 46] ++ numT C ++ [47])) (Sort.grow (wx.drewN k) os)) := builder_later HI.out hg
  have HKn := Lib.hid (keep_trans HK.out (keep_below b hg))
  have HK := HKn
  have HWn := Lib.hid (HW.out.trans (hg.mono (by have := HW.out.size; omega)))
  have HW := HWn
  clear hg HP c0 c1 c2
  generalize Sort.grow (wx.drewN k) os = wz at *
  go_wp2_with fail
  refine (writeString_k B b _ (str (decL S)) _ HI.out (by rw [byteCells_len, str_size]; omega) (by have := HW.out.size; omega)).mono ?_
  rintro e wx ⟨rfl, hi, hbx, hkx⟩
  rw [cells_str] at hi
  have HI : Hid (Lib.IsBuilderF 69 5 B b (Lib.byteCells (l ++ numT A ++ [46, 46] ++ numT C ++ [47] ++ decL S)) wx) := hi
  have HWn := Lib.hid (HW.out.trans hbx)
  have HW := HWn
  have HKn := Lib.hid (keep_trans HK.out hkx)
  have HK := HKn
  clear hi hbx hkx hlen4 hd
  go_wp2_with fail
  go_end0
  exact ⟨rfl, HI.out, HW.out, HK.out⟩
theorem ptL_eq {f : Nat} {p : Pt} (hm : mayP f p = true) : ∃ A C S : Nat, A ≤ 9999 ∧ C ≤ 9999 ∧ S ≤ 9999 ∧ ((p.a = -1 ∧ p.b = -1) ∨ (p.a = A ∧ (p.b = -1 ∨ p.b = C))) ∧ p.s = S ∧ ptL f p = (if p.a = -1 then [42] else numT A) ++ (if p.b = -1 then [] else [46, 46] ++ numT C) ++ (if p.s = 0 then [] else [47] ++ decL S) := by
  have h := (mayP_iff f p).1 hm
  have hl := lo_bd f
  obtain ⟨a, b, s⟩ := p
  simp only at h
  obtain ⟨s0, s1, hab⟩ := h
  refine ⟨a.toNat, b.toNat, s.toNat, by omega, by omega, by omega, by simp only; omega, by simp only; omega, ?_⟩
  unfold ptL ptBody
  simp only
  have es : (if 0 < s then 47 :: decL s.toNat else []) = (if s = 0 then [] else [47] ++ decL s.toNat) := by
    by_cases hs : s = 0
    · rw [if_neg (by omega), if_pos hs]
    · rw [if_pos (by omega), if_neg hs]; rfl
  have ea : (if 0 ≤ a then padL (dg f) a.toNat else [42]) = (if a = -1 then [42] else numT a.toNat) := by
    by_cases ha : a = -1
    · rw [if_neg (by omega), if_pos ha]
    · rw [if_pos (by omega), if_neg ha, pad_num (by omega) (by omega)]
  have eb : (if 0 ≤ b then 46 :: 46 :: padL (dg f) b.toNat else []) = (if b = -1 then [] else [46, 46] ++ numT b.toNat) := by
    by_cases hb : b = -1
    · rw [if_neg (by omega), if_pos hb]
    · rw [if_pos (by omega), if_neg hb, pad_num (by omega) (by omega)]; rfl
  rw [es, ea, eb]
theorem printPart_any (B b : Nat) (l : List UInt8) (f : Nat) (p : Pt) (hm : mayP f p = true) (w : World) (h : Lib.IsBuilderF 69 5 B b (Lib.byteCells l) w) (hl : l.length ≤ 99000) (hB : B ≤ w.heap.size) (ht : ∀ w', Below B w w' → P10 w') :
    Calls Tryz.prog 55 #[.pointer (some ⟨b, 0, none⟩), .agg #[.int .i64 p.a, .int .i64 p.b, .int .i64 p.s]] w fun e w' => e = .returned (.tuple #[]) ∧ (Lib.IsBuilderF 69 5 B b (Lib.byteCells (l ++ ptL f p)) w' ∧ Below B w w' ∧ KeepB b w w') := by
  obtain ⟨A, C, S, hA, hC, hS, hab, hs, e⟩ := ptL_eq hm
  obtain ⟨a, c, s⟩ := p
  simp only at hab hs e ⊢
  rw [e]
  by_cases s0 : s = 0
  · rcases hab with ⟨ha, hc⟩ | ⟨ha, hc | hc⟩
    · rw [s0, ha, hc]
      have := part_000 B b l w h hl hB ht
      simpa using this
    · rw [s0, ha, hc, if_neg (show ¬ (A : Int) = -1 by omega)]
      have := part_100 B b l A hA w h hl hB ht
      simpa using this
    · rw [s0, ha, hc, if_neg (show ¬ (A : Int) = -1 by omega), if_neg (show ¬ (C : Int) = -1 by omega)]
      have := part_110 B b l A hA C hC w h hl hB ht
      simpa using this
  · rw [if_neg s0]
    have hS0 : 1 ≤ S := by omega
    rcases hab with ⟨ha, hc⟩ | ⟨ha, hc | hc⟩
    · rw [hs, ha, hc]
      have := part_001 B b l S hS hS0 w h hl hB ht
      simpa using this
    · rw [hs, ha, hc, if_neg (show ¬ (A : Int) = -1 by omega)]
      have := part_101 B b l A hA S hS hS0 w h hl hB ht
      simpa using this
    · rw [hs, ha, hc, if_neg (show ¬ (A : Int) = -1 by omega), if_neg (show ¬ (C : Int) = -1 by omega)]
      have := part_111 B b l A hA C hC S hS hS0 w h hl hB ht
      simpa using this
end Go.Proofs.YtncolcjejgmhjaaGreatDoor
