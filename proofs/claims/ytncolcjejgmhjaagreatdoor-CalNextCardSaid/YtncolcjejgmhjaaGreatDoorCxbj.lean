/- The walks of the developers' printNumber, printPart. -/
import Derived.Test.YtncolcjejgmhjaaGreatDoorCxbi
import Derived.Test.YtncolcjejgmhjaaGreatDoorCxap
namespace Go.Proofs.YtncolcjejgmhjaaGreatDoor
open Go.RowKit
theorem decDigits_decL (n : Nat) : Lib.decDigits n = decL n := by
  induction n using Nat.strongRecOn with
  | _ n ih =>
    rw [Lib.decDigits, decL]
    by_cases h : n < 10
    · rw [dif_pos h, dif_pos h]
    · rw [dif_neg h, dif_neg h, ih (n / 10) (by omega)]
theorem itoa_nat (n : Nat) : Lib.itoa (n : Int) = decL n := by
  unfold Lib.itoa
  rw [if_neg (by omega), Int.toNat_natCast, decDigits_decL]
theorem byteCells_len (l : List UInt8) : (Lib.byteCells l).length = l.length := by simp [Lib.byteCells]
theorem grow_below (w : World) (k : Nat) (os : Array Obj) : Below w.heap.size w (Sort.grow (w.drewN k) os) :=
  ⟨rfl, rfl, rfl, by simp [Sort.grow], fun i hi => by simp only [Sort.grow]; rw [Array.getElem?_append_left (by exact hi)]; rfl⟩
theorem builderAt_later {T e : TypeId} {B b : Nat} {p : Value} {bs : List Value} {w w' : World} (h : Lib.BuilderAtF T e B b p bs w) (hb : Below w.heap.size w w') : Lib.BuilderAtF T e B b p bs w' := by
  have hlt := h.lt
  obtain ⟨hB, v, hbk, hown, hne⟩ := h
  exact ⟨hB, v, (hb.block b hlt).trans hbk, hown.kept (row := none) ⟨hb.os, hb.tape, hb.output, hb.size, fun k hk _ => hb.block k hk⟩ (by cases hv : v.ownBlock <;> simp), hne⟩
theorem builder_later {T e : TypeId} {B b : Nat} {bs : List Value} {w w' : World} (h : Lib.IsBuilderF T e B b bs w) (hb : Below w.heap.size w w') : Lib.IsBuilderF T e B b bs w' :=
  h.elim (fun x => .inl (builderAt_later x hb)) (fun x => .inr (builderAt_later x hb))
theorem cells_str (l m : List UInt8) : Lib.byteCells l ++ Lib.strCells (str m) = Lib.byteCells (l ++ m) := by simp [Lib.byteCells, Lib.strCells, str]
theorem cells_32 (l : List UInt8) : Lib.byteCells l ++ [Value.int .u8 32] = Lib.byteCells (l ++ [32]) := by simp [Lib.byteCells]
theorem cells_42 (l : List UInt8) : Lib.byteCells l ++ [Value.int .u8 42] = Lib.byteCells (l ++ [42]) := by simp [Lib.byteCells]
theorem cells_44 (l : List UInt8) : Lib.byteCells l ++ [Value.int .u8 44] = Lib.byteCells (l ++ [44]) := by simp [Lib.byteCells]
theorem cells_47 (l : List UInt8) : Lib.byteCells l ++ [Value.int .u8 47] = Lib.byteCells (l ++ [47]) := by simp [Lib.byteCells]
theorem cells_48 (l : List UInt8) : Lib.byteCells l ++ [Value.int .u8 48] = Lib.byteCells (l ++ [48]) := by simp [Lib.byteCells]
theorem keep_trans {b : Nat} {w w1 w2 : World} (h : KeepB b w w1) (h2 : KeepB b w1 w2) : KeepB b w w2 := fun k t cs hk ht hb => h2 k t cs hk ht (h k t cs hk ht hb)
theorem keep_below (b : Nat) {w w1 : World} (h : Below w.heap.size w w1) : KeepB b w w1 := fun _ _ _ _ _ hb => hb.below h hb.lt
def numT (n : Nat) : List UInt8 := if n < 10 then 48 :: decL n else decL n
theorem decL_small {n : Nat} (h : n < 10) : (decL n).length = 1 := by rw [decL, dif_pos h]; rfl
theorem decL_more {n : Nat} (h : ¬ n < 10) : (decL n).length = (decL (n / 10)).length + 1 := by
  rw [decL, dif_neg h, List.length_append]; rfl
theorem pad_num {f n : Nat} (h0 : lo f ≤ (n : Int)) (h1 : (n : Int) ≤ hi f) : padL (dg f) n = numT n := by
  unfold padL numT dg
  by_cases hf : f = 0
  · subst hf
    simp only [lo, hi] at h0 h1
    have : (decL n).length = 4 := by
      rw [decL_more (by omega), decL_more (by omega), decL_more (by omega), decL_small (by omega)]
    rw [if_pos rfl, this, if_neg (by omega)]; rfl
  · have h59 : n ≤ 59 := by
      match f, hf with
      | 1, _ => simp only [hi] at h1; omega
      | 2, _ => simp only [hi] at h1; omega
      | 3, _ => simp only [hi] at h1; omega
      | k + 4, _ => simp only [hi] at h1; omega
    rw [if_neg hf]
    by_cases hn : n < 10
    · rw [decL_small hn, if_pos hn]; rfl
    · rw [decL_more hn, decL_small (by omega), if_neg hn]; rfl
set_option maxHeartbeats 2000000 in
set_option maxRecDepth 100000 in
theorem printNumber_any (B b : Nat) (l : List UInt8) (n : Nat) (w : World) (h : Lib.IsBuilderF 69 5 B b (Lib.byteCells l) w) (hl : l.length ≤ 100000) (hn : n ≤ 9999) (hB : B ≤ w.heap.size) (ht : ∀ w', Below B w w' → P10 w') :
    Calls Tryz.prog 69 #[.pointer (some ⟨b, 0, none⟩), .int .i64 n] w fun e w' => e = .returned (.tuple #[]) ∧ (Lib.IsBuilderF 69 5 B b (Lib.byteCells (l ++ numT n)) w' ∧ Below B w w' ∧ KeepB b w w') := by
  have hd : (decL n).length ≤ 4 := decL_len 3 n (by omega)
  have hds : (str (decL n)).size ≤ 4 := hd
  have Hn := Lib.hid (itoa_nat n)
  have Ht := Lib.hid ht
  clear ht
  by_cases h0 : n < 10
  · have e0 : (n : Int) < 10 := by omega
    have HA := Lib.hid (show l ++ numT n = (l ++ [48]) ++ decL n by unfold numT; rw [if_pos h0]; simp)
    clear h0
    go_enter Tryz.func69, Tryz.ntmps69
    go_wp2_with fail
    refine (writeByte_k B b _ 48 _ h (by rw [byteCells_len]; omega) (by omega)).mono ?_
    rintro e wb ⟨rfl, hb, hbb, hkb⟩
    have HKB := Lib.hid hkb
    clear hkb
    rw [cells_48] at hb
    have hsb := hbb.size
    have HBb := Lib.hid hbb
    clear h hbb
    go_wp2_with fail
    refine (Tryz.strconv_Itoa n (by omega) (by omega) _ (Ht.out _ HBb.out)).mono ?_
    rintro e w1 ⟨rfl, k, os, rfl⟩
    rw [Hn.out]
    have hg := grow_below wb k os
    have h1 := builder_later hb hg
    have hs1 := hg.size
    have HKG := Lib.hid (keep_below b hg)
    have HB1 := Lib.hid (HBb.out.trans (hg.mono (by omega)))
    clear hb hg
    generalize Sort.grow (wb.drewN k) os = w1 at *
    go_wp2_with fail
    refine (writeString_k B b _ (str (decL n)) _ h1 (by rw [byteCells_len]; first | omega | (simp; omega)) (by omega)).mono ?_
    rintro e w2 ⟨rfl, h2, hb2, hk2⟩
    have HK2 := Lib.hid hk2
    clear hk2
    rw [cells_str] at h2
    have HB2 := Lib.hid (HB1.out.trans hb2)
    clear h1 hb2
    go_wp2_with fail
    go_end0
    exact ⟨rfl, by rw [HA.out]; exact h2, HB2.out, keep_trans HKB.out (keep_trans HKG.out HK2.out)⟩
  · have e0 : (10 : Int) ≤ (n : Int) := by omega
    have HA := Lib.hid (show l ++ numT n = l ++ decL n by unfold numT; rw [if_neg h0])
    clear h0
    go_enter Tryz.func69, Tryz.ntmps69
    go_wp2_with fail
    refine (Tryz.strconv_Itoa n (by omega) (by omega) _ (Ht.out _ (Below.refl _ _))).mono ?_
    rintro e w1 ⟨rfl, k, os, rfl⟩
    rw [Hn.out]
    have hg := grow_below w k os
    have h1 := builder_later h hg
    have hs1 := hg.size
    have HKG := Lib.hid (keep_below b hg)
    have HB1 := Lib.hid (hg.mono hB)
    clear h hg
    generalize Sort.grow (w.drewN k) os = w1 at *
    go_wp2_with fail
    refine (writeString_k B b _ (str (decL n)) _ h1 (by rw [byteCells_len]; first | omega | (simp; omega)) (by omega)).mono ?_
    rintro e w2 ⟨rfl, h2, hb2, hk2⟩
    have HK2 := Lib.hid hk2
    clear hk2
    rw [cells_str] at h2
    have HB2 := Lib.hid (HB1.out.trans hb2)
    clear h1 hb2
    go_wp2_with fail
    go_end0
    exact ⟨rfl, by rw [HA.out]; exact h2, HB2.out, keep_trans HKG.out HK2.out⟩
end Go.Proofs.YtncolcjejgmhjaaGreatDoor
