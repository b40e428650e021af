/- What the laws of chapter 5 show ahead of all: the walk of shown. -/
import Derived.Test.YtbgblbikffamkaaWdU
namespace Go.Proofs.Ytbgblbikffamkaa
open Go.RowKit

/-- The machine with so many steps. -/
def fuelW : Nat → List UInt8 → List (List UInt8) × Option (List UInt8) × UInt8 → List (List UInt8) × Nat
  | _, [], st => if st.2.2 = 0 then (endW st.1 st.2.1, 0) else ([], 13)
  | 0, _ :: _, _ => ([], 0)
  | m + 1, c :: t, st => if (readW c t).2.2 ≠ 0 then ([], (readW c t).2.2) else match takeW (readW c t).1 (decide (1 < (readW c t).2.1)) st with
    | none => ([], 2)
    | some st' => fuelW m (t.drop ((readW c t).2.1 - 1)) st'
theorem fuelW_eq (m : Nat) : ∀ (l : List UInt8) (st : List (List UInt8) × Option (List UInt8) × UInt8), l.length ≤ m → fuelW m l st = machW l st := by
  induction m with
  | zero =>
    intro l st hl
    obtain rfl : l = [] := List.eq_nil_of_length_eq_zero (by omega)
    obtain ⟨ws, cur, q⟩ := st
    rw [machW_nil, fuelW]
  | succ m ih =>
    intro l st hl
    match l, hl with
    | [], _ =>
      obtain ⟨ws, cur, q⟩ := st
      rw [machW_nil, fuelW]
    | c :: t, hl =>
      rw [machW_cons, fuelW]
      split
      · rfl
      · cases takeW (readW c t).1 (decide (1 < (readW c t).2.1)) st with
        | none => rfl
        | some st' => exact ih _ _ (by simp only [List.length_drop, List.length_cons] at hl ⊢; omega)
theorem split_fuel (l : List UInt8) : splitW l = fuelW l.length l ([], none, 0) := (fuelW_eq _ _ _ (Nat.le_refl _)).symm
theorem rowAt_new (l : List (List UInt8)) (w : World) (hl : l.length ≤ maxLen) : RowAt (w.alloc (.cells (wcells l).toArray 9)) (w.heap.size + 1) (some ⟨w.heap.size, 0, none⟩) l.length l := by
  refine ⟨rfl, hl, fun _ => ⟨_, rfl, Nat.lt_succ_self _, fun j x hj => ?_⟩⟩
  have e : (⟨w.heap.size, 0, none⟩ : Addr).add j = ⟨w.heap.size, j, none⟩ := by unfold Addr.add; split <;> simp_all
  rw [e, (Blk.new w 9 (wcells l).toArray).cell j]
  unfold wcells
  simp [hj]
def sh1 : List (List UInt8) := [[97], [98, 32, 99, 100], [65, 32], [45]]
def sh2 : List (List UInt8) := [[97], [], [45, 120], [113, 34, 10]]
theorem sh1_split : splitW [97, 32, 39, 98, 32, 99, 39, 34, 100, 34, 32, 32, 92, 120, 52, 49, 92, 115, 32, 45] = (sh1, 0) := by rw [split_fuel]; decide +kernel
theorem sh2_split : splitW [39, 97] = ([], 13) := by rw [split_fuel]; decide +kernel
theorem sh2_join : joinW sh2 = [97, 32, 34, 34, 32, 34, 45, 120, 34, 32, 34, 113, 92, 34, 92, 120, 48, 97, 34] := by decide +kernel
theorem small_top (l : List UInt8) (h : l.length ≤ 1000) : topS l + 1 ≤ 140737488355328 := by have := topS_le l; omega

set_option maxHeartbeats 4000000 in
theorem shown5_any (w : World) :
    Calls Try.prog 8 #[] w fun e w' => e = .returned (.bool true) ∧ Below w.heap.size w w' := by
  have h1 := Lib.hid sh1_split
  have h2 := Lib.hid sh2_split
  have h3 := Lib.hid sh2_join
  go_enter Try.func8, Try.ntmps8
  go_wp2_with fail
  refine (Split_any _ (by decide) (small_top _ (by decide)) _).mono ?_
  rintro e w1 ⟨A, n, c, rfl, hnc, hn32, hrow, hb1⟩
  rw [show (splitW (ByteArray.data ⟨#[97, 32, 39, 98, 32, 99, 39, 34, 100, 34, 32, 32, 92, 120, 52, 49, 92, 115, 32, 45]⟩).toList) = (sh1, 0) from h1.out] at hrow
  rw [show (splitW (ByteArray.data ⟨#[97, 32, 39, 98, 32, 99, 39, 34, 100, 34, 32, 32, 92, 120, 52, 49, 92, 115, 32, 45]⟩).toList) = (sh1, 0) from h1.out]
  dsimp only at hrow ⊢
  have HR1 := Lib.hid hrow
  have HB1 := Lib.hid hb1
  clear hrow hb1
  go_wp2_with fail
  refine (Split_any _ (by decide) (small_top _ (by decide)) _).mono ?_
  rintro e w2 ⟨A2, n2, c2, rfl, hnc2, hn322, hrow2, hb2⟩
  rw [show (splitW (ByteArray.data ⟨#[39, 97]⟩).toList) = ([], 13) from h2.out]
  dsimp only
  have HR2 := Lib.hid (HR1.out.below hb2)
  have HB2 := Lib.hid (below_more HB1.out HB1.out.size hb2)
  have hs12 := hb2.size
  clear hrow2 hb2
  go_wp2_with fail
  have HA3 : Hid (RowAt (w2.alloc (.cells (wcells sh1).toArray 9)) (w2.heap.size + 1) (some ⟨w2.heap.size, 0, none⟩) 4 sh1) := rowAt_new sh1 w2 (by decide)
  have HA2 : Hid (RowAt (w2.alloc (.cells (wcells sh1).toArray 9)) (w2.heap.size + 1) A n sh1) := ((HR2.out.wide hs12).below ((Below.refl _ _).alloc (Nat.le_refl _) _)).wide (Nat.le_succ _)
  have HB3 : Hid (Below w.heap.size w (w2.alloc (.cells (wcells sh1).toArray 9))) := HB2.out.alloc HB2.out.size _
  refine (Same5_any A (some ⟨w2.heap.size, 0, none⟩) n 4 c 4 (w2.heap.size + 1) sh1 sh1 (w2.alloc (.cells (wcells sh1).toArray 9)) HA2.out HA3.out).mono ?_
  rintro e w3 ⟨rfl, j, rfl⟩
  rw [show decide (sh1 = sh1) = true from rfl]
  have HB4 : Hid (Below w.heap.size w ((w2.alloc (.cells (wcells sh1).toArray 9)).drewN j)) := below_drewN HB3.out j
  clear HA2 HA3 HB3 HR2
  generalize (w2.alloc (.cells (wcells sh1).toArray 9)).drewN j = w4 at *
  go_wp2_with fail
  have HA5 : Hid (RowAt (w4.alloc (.cells (wcells sh2).toArray 9)) (w4.heap.size + 1) (some ⟨w4.heap.size, 0, none⟩) 4 sh2) := rowAt_new sh2 w4 (by decide)
  have HB5 : Hid (Below w.heap.size w (w4.alloc (.cells (wcells sh2).toArray 9))) := HB4.out.alloc HB4.out.size _
  refine (Join_any (some ⟨w4.heap.size, 0, none⟩) 4 4 (w4.heap.size + 1) sh2 (w4.alloc (.cells (wcells sh2).toArray 9)) HA5.out (by simp) (by decide) (by decide)).mono ?_
  rintro e w5 ⟨rfl, hb5⟩
  rw [h3.out]
  have HB6 := Lib.hid (below_more HB5.out HB5.out.size hb5)
  clear hb5
  go_wp2_with fail
  go_ret
  exact ⟨ret_bool (by rw [Lib.toList_data]; rfl), HB6.out⟩
end Go.Proofs.Ytbgblbikffamkaa
