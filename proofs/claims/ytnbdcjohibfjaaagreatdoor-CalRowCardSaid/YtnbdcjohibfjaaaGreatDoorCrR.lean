/- The walk of the law CalRow. -/
import Derived.Test.YtnbdcjohibfjaaaGreatDoorCqY
namespace Go.Proofs.YtnbdcjohibfjaaaGreatDoor
open Go.RowKit

theorem next_bd {l : Cl} {x : Int} (h : nextOk l x = true) : x < nextN l x ∧ 0 ≤ nextN l x ∧ nextN l x < 6311433600 := by
  have h1 := next_yes h
  have h2 := match_bd h1.2.1
  exact ⟨h1.1, h2.1, h2.2⟩

set_option maxRecDepth 100000 in
set_option maxHeartbeats 16000000 in
theorem CalRow_any (c : Ch) (l : Cl) (a b : Int) (w : World) (htab : TabM w) (hc : CalAt w w.heap.size c l) (ha0 : -9223372036854775808 ≤ a) (ha1 : a ≤ 9223372036854775807) (hb0 : -9223372036854775808 ≤ b) (hb1 : b ≤ 9223372036854775807) :
    Calls Tryz.prog 8 #[.agg c.cells, .int .i64 a, .int .i64 b] w fun e w' => e = .returned (.bool true) ∧ Below w.heap.size w w' := by
  have HT := Lib.hid htab
  have HC := Lib.hid hc
  have HRB : Hid (-9223372036854775808 ≤ b ∧ b ≤ 9223372036854775807) := ⟨hb0, hb1⟩
  have HRA : Hid (-9223372036854775808 ≤ a ∧ a ≤ 9223372036854775807) := ⟨ha0, ha1⟩
  clear htab hc ha0 ha1 hb0 hb1
  go_enter Tryz.func8, Tryz.ntmps8
  go_wp2_with fail
  refine (shown4_any _ (HT.out.below ((Below.refl _ _).alloc (Nat.le_refl _) _))).mono ?_
  rintro e w1 ⟨rfl, hq1⟩
  have HC1 : Hid (Blk w1 w.heap.size 26 c.cells) := (Blk.new w _ _).below hq1 (by simp)
  have HB1 := Lib.hid (more3 ((Below.refl w.heap.size w).alloc (Nat.le_refl _) _) (by simp) hq1)
  clear hq1
  go_wp2_with fail
  go_loopw [7, 8] (fun x k wr => ∃ (a' : Int) (j : Nat), j ≤ 5 ∧ x = .int .i64 a' ∧ k = .int .i64 j ∧ Hid (-9223372036854775808 ≤ a' ∧ a' ≤ 9223372036854775807) ∧ Hid (Blk wr w.heap.size 26 c.cells) ∧ Hid (Below w.heap.size w wr)) (fun x k wr => 5 - (intOf k).toNat)
  case atStart => exact ⟨a, 0, by omega, rfl, rfl, HRA, HC1, HB1⟩
  case round =>
    obtain ⟨x, j, hj, rfl, rfl, hX, hC, hB⟩ := hrel
    clear HC1 HB1
    by_cases hlt : j < 5
    · have j0 : (0 : Int) ≤ (j : Int) := by omega
      have j5 : (j : Int) < 5 := by omega
      go_wp2_with (refine wpList_load_row rfl 26 (.tmp 3) (by rfl) w.heap.size (by rfl) 26 c.cells (0, 0) _ hC.out Tryz.underlying26 rfl (by kernel_rfl) ?_)
      refine (Next_any c l x _ (HT.out.below hB.out).t (HC.out.at_ hB.out)).mono ?_
      rintro e w3 ⟨rfl, hq3⟩
      have HC3 := Lib.hid (hC.out.below hq3 hC.out.lt)
      have HB3 := Lib.hid (more3 hB.out hB.out.size hq3)
      clear hq3
      cases hk : nextOk l x with
      | false =>
        go_wp2_with fail
        go_ret
        exact ⟨rfl, HB3.out⟩
      | true =>
        have HBD := Lib.hid (next_bd hk)
        have HRW : Hid (0 < b → b ≤ nextN l x - x → nextN l (nextN l x - b) = nextN l x ∧ nextOk l (nextN l x - b) = true) := fun h0 h1 => row_back hk h0 h1
        clear hk
        obtain ⟨d0, d1, d2⟩ : x < nextN l x ∧ 0 ≤ nextN l x ∧ nextN l x < 6311433600 := HBD.out
        generalize nextN l x = t at *
        have hX' : Hid (-9223372036854775808 ≤ t ∧ t ≤ 9223372036854775807) := ⟨by omega, by omega⟩
        by_cases k1 : 0 < b
        · by_cases k2 : 0 ≤ x
          · have e1 : IntKind.i64.wrap (t - x) = t - x := IntWalk.i64_in _ (by omega)
            by_cases k3 : b ≤ t - x
            · have e2 : IntKind.i64.wrap (t - b) = t - b := IntWalk.i64_in _ (by omega)
              have hr := HRW.out k1 k3
              have HR1 := Lib.hid hr.1
              have HR2 := Lib.hid hr.2
              clear hr HRW
              go_wp2_with (refine wpList_load_row rfl 26 (.tmp 3) (by rfl) w.heap.size (by rfl) 26 c.cells (0, 0) _ HC3.out Tryz.underlying26 rfl (by kernel_rfl) ?_)
              refine (Next_any c l (t - b) _ (HT.out.below HB3.out).t (HC.out.at_ HB3.out)).mono ?_
              rintro e w4 ⟨rfl, hq4⟩
              rw [HR1.out, HR2.out]
              have HC4 := Lib.hid (HC3.out.below hq4 HC3.out.lt)
              have HB4 := Lib.hid (more3 HB3.out HB3.out.size hq4)
              clear hq4
              go_wp2_with fail
              go_round
              case rel => exact ⟨t, j + 1, by omega, rfl, by go_num, hX', HC4, HB4⟩
              case measure => simp [intOf]; omega
            · go_wp2_with fail
              go_round
              case rel => exact ⟨t, j + 1, by omega, rfl, by go_num, hX', HC3, HB3⟩
              case measure => simp [intOf]; omega
          · go_wp2_with fail
            go_round
            case rel => exact ⟨t, j + 1, by omega, rfl, by go_num, hX', HC3, HB3⟩
            case measure => simp [intOf]; omega
        · go_wp2_with fail
          go_round
          case rel => exact ⟨t, j + 1, by omega, rfl, by go_num, hX', HC3, HB3⟩
          case measure => simp [intOf]; omega
    · obtain rfl : j = 5 := by omega
      clear hlt
      go_wp2_with fail
      go_ret
      exact ⟨rfl, hB.out⟩
end Go.Proofs.YtnbdcjohibfjaaaGreatDoor
