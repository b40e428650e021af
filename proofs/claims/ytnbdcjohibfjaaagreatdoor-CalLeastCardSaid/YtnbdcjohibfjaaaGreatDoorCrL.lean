/- The walk of the law CalLeast. -/
import Derived.Test.YtnbdcjohibfjaaaGreatDoorCqY
namespace Go.Proofs.YtnbdcjohibfjaaaGreatDoor
open Go.RowKit

set_option maxRecDepth 100000 in
set_option maxHeartbeats 40000000 in
theorem CalLeast_any (c : Ch) (l : Cl) (a : Int) (A : Option Addr) (n cp : Nat) (ds : List Int) (w : World) (htab : TabM w) (hc : CalAt w w.heap.size c l) (hi : IntsAt w w.heap.size A n ds) (ha0 : -9223372036854775808 ≤ a) (ha1 : a ≤ 9223372036854775807) :
    Calls Tryz.prog 7 #[.agg c.cells, .int .i64 a, .slice A n cp] w fun e w' => e = .returned (.bool true) ∧ Below w.heap.size w w' := by
  have HT := Lib.hid htab
  have HC := Lib.hid hc
  have HI := Lib.hid hi
  clear htab hc hi
  go_enter Tryz.func7, Tryz.ntmps7
  go_wp2_with fail
  refine (shown4_any _ (HT.out.below ((Below.refl _ _).alloc (Nat.le_refl _) _))).mono ?_
  rintro e w1 ⟨rfl, hq1⟩
  have HC1 : Hid (Blk w1 w.heap.size 26 c.cells) := (Blk.new w _ _).below hq1 (by simp)
  have HB1 := Lib.hid (more3 ((Below.refl w.heap.size w).alloc (Nat.le_refl _) _) (by simp) hq1)
  clear hq1
  go_wp2_with (refine wpList_load_row rfl 26 (.tmp 3) (by rfl) w.heap.size (by rfl) 26 c.cells (0, 0) _ HC1.out Tryz.underlying26 rfl (by kernel_rfl) ?_)
  refine (Next_any c l a _ (HT.out.below HB1.out).t (HC.out.at_ HB1.out)).mono ?_
  rintro e w3 ⟨rfl, hq3⟩
  have HC3 := Lib.hid (HC1.out.below hq3 HC1.out.lt)
  have HB3 := Lib.hid (more3 HB1.out HB1.out.size hq3)
  clear hq3 HC1 HB1
  cases hk : nextOk l a with
  | false =>
    have HN : Hid (∀ s, a < s → s < 6311433600 → matchB l s = false) := fun s h1 _ => (next_no hk).2 s h1
    have HCS := HC3
    have HBS := HB3
    clear HC3 HB3 hk
    generalize nextN l a = t at *
    go_wp2_with fail
    go_loopw [10] (fun x wr => ∃ k : Nat, k ≤ 60 ∧ x = .int .i64 k ∧ Hid (Blk wr w.heap.size 26 c.cells) ∧ Hid (Below w.heap.size w wr)) (fun x wr => 60 - (intOf x).toNat)
    case atStart => exact ⟨0, by omega, rfl, HCS, HBS⟩
    case round =>
      obtain ⟨k, hk60, rfl, HCS, HBS⟩ := hrel
      by_cases hkn : k < n
      · have k0 : (0 : Int) ≤ (k : Int) := by omega
        have k1 : (k : Int) < (n : Int) := by omega
        by_cases hk : k < 60
        · have k2 : (k : Int) < 60 := by omega
          obtain ⟨ad, rfl, _, hcell⟩ := (HI.out.below HBS.out).at_ hkn
          obtain ⟨x, hx⟩ : ∃ x, ds.getD k 0 = x := ⟨_, rfl⟩
          rw [hx] at hcell
          clear hx
          by_cases ka : a < x
          · by_cases kb : x < 6311433600
            · have HM := Lib.hid (HN.out x ka kb)
              go_wp2_with (refine wpList_wantN (by rfl) ?_; refine wp_load_row 26 (.tmp 3) (by rfl) w.heap.size (by rfl) 26 c.cells (0, 0) _ HCS.out Tryz.underlying26 rfl (by kernel_rfl) ?_)
              refine (Match_any c l x _ (HT.out.below HBS.out).t (HC.out.at_ HBS.out)).mono ?_
              rintro e w4 ⟨rfl, hq4⟩
              rw [HM.out]
              have HC4 := Lib.hid (HCS.out.below hq4 HCS.out.lt)
              have HB4 := Lib.hid (more3 HBS.out HBS.out.size hq4)
              clear hq4 HM
              go_wp2_with fail
              go_roundw
              case rel => exact ⟨k + 1, by omega, by go_num, HC4, HB4⟩
              case measure => simp [intOf]; omega
            · go_wp2_with fail
              go_roundw
              case rel => exact ⟨k + 1, by omega, by go_num, HCS, HBS⟩
              case measure => simp [intOf]; omega
          · go_wp2_with fail
            go_roundw
            case rel => exact ⟨k + 1, by omega, by go_num, HCS, HBS⟩
            case measure => simp [intOf]; omega
        · have k2 : ¬ ((k : Int) < 60) := by omega
          clear hk
          go_wp2_with fail
          go_loopw [12] (fun x wr => ∃ j : Nat, 1 ≤ j ∧ j ≤ 61 ∧ x = .int .i64 j ∧ Hid (Blk wr w.heap.size 26 c.cells) ∧ Hid (Below w.heap.size w wr)) (fun x wr => 61 - (intOf x).toNat)
          case atStart => exact ⟨1, by omega, by omega, rfl, HCS, HBS⟩
          case round =>
            obtain ⟨j, hj1, hj2, rfl, hC, hB⟩ := hrel
            by_cases hj : j ≤ 60
            · have j0 : (j : Int) ≤ 60 := by omega
              by_cases ka : -1 ≤ a
              · have e1 : IntKind.i64.wrap (6311433600 - (j : Int)) = 6311433600 - (j : Int) := IntWalk.i64_in _ (by omega)
                by_cases kb : a < 6311433600 - (j : Int)
                · have e2 : IntKind.i64.wrap (a + (j : Int)) = a + (j : Int) := IntWalk.i64_in _ (by omega)
                  have HM := Lib.hid (HN.out (a + (j : Int)) (by omega) (by omega))
                  go_wp2_with (refine wpList_wantN (by rfl) ?_; refine wp_load_row 26 (.tmp 3) (by rfl) w.heap.size (by rfl) 26 c.cells (0, 0) _ hC.out Tryz.underlying26 rfl (by kernel_rfl) ?_)
                  refine (Match_any c l (a + (j : Int)) _ (HT.out.below hB.out).t (HC.out.at_ hB.out)).mono ?_
                  rintro e w5 ⟨rfl, hq5⟩
                  rw [HM.out]
                  have HC5 := Lib.hid (hC.out.below hq5 hC.out.lt)
                  have HB5 := Lib.hid (more3 hB.out hB.out.size hq5)
                  clear hq5 HM
                  go_wp2_with fail
                  go_roundw
                  case rel => exact ⟨j + 1, by omega, by omega, by go_num, HC5, HB5⟩
                  case measure => simp [intOf]; omega
                · go_wp2_with fail
                  go_roundw
                  case rel => exact ⟨j + 1, by omega, by omega, by go_num, hC, hB⟩
                  case measure => simp [intOf]; omega
              · go_wp2_with fail
                go_roundw
                case rel => exact ⟨j + 1, by omega, by omega, by go_num, hC, hB⟩
                case measure => simp [intOf]; omega
            · obtain rfl : j = 61 := by omega
              go_wp2_with fail
              go_ret
              exact ⟨rfl, hB.out⟩
      · have k1 : ¬ ((k : Int) < (n : Int)) := by omega
        go_wp2_with fail
        go_loopw [12] (fun x wr => ∃ j : Nat, 1 ≤ j ∧ j ≤ 61 ∧ x = .int .i64 j ∧ Hid (Blk wr w.heap.size 26 c.cells) ∧ Hid (Below w.heap.size w wr)) (fun x wr => 61 - (intOf x).toNat)
        case atStart => exact ⟨1, by omega, by omega, rfl, HCS, HBS⟩
        case round =>
          obtain ⟨j, hj1, hj2, rfl, hC, hB⟩ := hrel
          by_cases hj : j ≤ 60
          · have j0 : (j : Int) ≤ 60 := by omega
            by_cases ka : -1 ≤ a
            · have e1 : IntKind.i64.wrap (6311433600 - (j : Int)) = 6311433600 - (j : Int) := IntWalk.i64_in _ (by omega)
              by_cases kb : a < 6311433600 - (j : Int)
              · have e2 : IntKind.i64.wrap (a + (j : Int)) = a + (j : Int) := IntWalk.i64_in _ (by omega)
                have HM := Lib.hid (HN.out (a + (j : Int)) (by omega) (by omega))
                go_wp2_with (refine wpList_wantN (by rfl) ?_; refine wp_load_row 26 (.tmp 3) (by rfl) w.heap.size (by rfl) 26 c.cells (0, 0) _ hC.out Tryz.underlying26 rfl (by kernel_rfl) ?_)
                refine (Match_any c l (a + (j : Int)) _ (HT.out.below hB.out).t (HC.out.at_ hB.out)).mono ?_
                rintro e w5 ⟨rfl, hq5⟩
                rw [HM.out]
                have HC5 := Lib.hid (hC.out.below hq5 hC.out.lt)
                have HB5 := Lib.hid (more3 hB.out hB.out.size hq5)
                clear hq5 HM
                go_wp2_with fail
                go_roundw
                case rel => exact ⟨j + 1, by omega, by omega, by go_num, HC5, HB5⟩
                case measure => simp [intOf]; omega
              · go_wp2_with fail
                go_roundw
                case rel => exact ⟨j + 1, by omega, by omega, by go_num, hC, hB⟩
                case measure => simp [intOf]; omega
            · go_wp2_with fail
              go_roundw
              case rel => exact ⟨j + 1, by omega, by omega, by go_num, hC, hB⟩
              case measure => simp [intOf]; omega
          · obtain rfl : j = 61 := by omega
            go_wp2_with fail
            go_ret
            exact ⟨rfl, hB.out⟩
  | true =>
    obtain ⟨d0, hmt, hno⟩ := next_yes hk
    have hbd := match_bd hmt
    have HMT := Lib.hid hmt
    have HN := Lib.hid hno
    clear hk hmt hno
    generalize nextN l a = t at *
    obtain ⟨d1, d2⟩ := hbd
    have d3 : decide (t ≤ a) = false := by simp; omega
    go_wp2_with (refine wpList_wantN (by rfl) ?_; refine wp_load_row 26 (.tmp 3) (by rfl) w.heap.size (by rfl) 26 c.cells (0, 0) _ HC3.out Tryz.underlying26 rfl (by kernel_rfl) ?_)
    refine (Match_any c l t _ (HT.out.below HB3.out).t (HC.out.at_ HB3.out)).mono ?_
    rintro e w4 ⟨rfl, hq4⟩
    rw [HMT.out]
    have HCS := Lib.hid (HC3.out.below hq4 HC3.out.lt)
    have HBS := Lib.hid (more3 HB3.out HB3.out.size hq4)
    clear hq4 HC3 HB3 HMT
    go_wp2_with fail
    go_loopw [10] (fun x wr => ∃ k : Nat, k ≤ 60 ∧ x = .int .i64 k ∧ Hid (Blk wr w.heap.size 26 c.cells) ∧ Hid (Below w.heap.size w wr)) (fun x wr => 60 - (intOf x).toNat)
    case atStart => exact ⟨0, by omega, rfl, HCS, HBS⟩
    case round =>
      obtain ⟨k, hk60, rfl, HCS, HBS⟩ := hrel
      by_cases hkn : k < n
      · have k0 : (0 : Int) ≤ (k : Int) := by omega
        have k1 : (k : Int) < (n : Int) := by omega
        by_cases hk : k < 60
        · have k2 : (k : Int) < 60 := by omega
          obtain ⟨ad, rfl, _, hcell⟩ := (HI.out.below HBS.out).at_ hkn
          obtain ⟨x, hx⟩ : ∃ x, ds.getD k 0 = x := ⟨_, rfl⟩
          rw [hx] at hcell
          clear hx
          by_cases ka : a < x
          · by_cases kb : x < t
            · have HM := Lib.hid (HN.out x ka kb)
              go_wp2_with (refine wpList_wantN (by rfl) ?_; refine wp_load_row 26 (.tmp 3) (by rfl) w.heap.size (by rfl) 26 c.cells (0, 0) _ HCS.out Tryz.underlying26 rfl (by kernel_rfl) ?_)
              refine (Match_any c l x _ (HT.out.below HBS.out).t (HC.out.at_ HBS.out)).mono ?_
              rintro e w4 ⟨rfl, hq4⟩
              rw [HM.out]
              have HC4 := Lib.hid (HCS.out.below hq4 HCS.out.lt)
              have HB4 := Lib.hid (more3 HBS.out HBS.out.size hq4)
              clear hq4 HM
              go_wp2_with fail
              go_roundw
              case rel => exact ⟨k + 1, by omega, by go_num, HC4, HB4⟩
              case measure => simp [intOf]; omega
            · go_wp2_with fail
              go_roundw
              case rel => exact ⟨k + 1, by omega, by go_num, HCS, HBS⟩
              case measure => simp [intOf]; omega
          · go_wp2_with fail
            go_roundw
            case rel => exact ⟨k + 1, by omega, by go_num, HCS, HBS⟩
            case measure => simp [intOf]; omega
        · have k2 : ¬ ((k : Int) < 60) := by omega
          clear hk
          go_wp2_with fail
          go_loopw [12] (fun x wr => ∃ j : Nat, 1 ≤ j ∧ j ≤ 61 ∧ x = .int .i64 j ∧ Hid (Blk wr w.heap.size 26 c.cells) ∧ Hid (Below w.heap.size w wr)) (fun x wr => 61 - (intOf x).toNat)
          case atStart => exact ⟨1, by omega, by omega, rfl, HCS, HBS⟩
          case round =>
            obtain ⟨j, hj1, hj2, rfl, hC, hB⟩ := hrel
            by_cases hj : j ≤ 60
            · have j0 : (j : Int) ≤ 60 := by omega
              by_cases ka : -1 ≤ a
              · have e1 : IntKind.i64.wrap (t - (j : Int)) = t - (j : Int) := IntWalk.i64_in _ (by omega)
                by_cases kb : a < t - (j : Int)
                · have e2 : IntKind.i64.wrap (a + (j : Int)) = a + (j : Int) := IntWalk.i64_in _ (by omega)
                  have HM := Lib.hid (HN.out (a + (j : Int)) (by omega) (by omega))
                  go_wp2_with (refine wpList_wantN (by rfl) ?_; refine wp_load_row 26 (.tmp 3) (by rfl) w.heap.size (by rfl) 26 c.cells (0, 0) _ hC.out Tryz.underlying26 rfl (by kernel_rfl) ?_)
                  refine (Match_any c l (a + (j : Int)) _ (HT.out.below hB.out).t (HC.out.at_ hB.out)).mono ?_
                  rintro e w5 ⟨rfl, hq5⟩
                  rw [HM.out]
                  have HC5 := Lib.hid (hC.out.below hq5 hC.out.lt)
                  have HB5 := Lib.hid (more3 hB.out hB.out.size hq5)
                  clear hq5 HM
                  go_wp2_with fail
                  go_roundw
                  case rel => exact ⟨j + 1, by omega, by omega, by go_num, HC5, HB5⟩
                  case measure => simp [intOf]; omega
                · go_wp2_with fail
                  go_roundw
                  case rel => exact ⟨j + 1, by omega, by omega, by go_num, hC, hB⟩
                  case measure => simp [intOf]; omega
              · go_wp2_with fail
                go_roundw
                case rel => exact ⟨j + 1, by omega, by omega, by go_num, hC, hB⟩
                case measure => simp [intOf]; omega
            · obtain rfl : j = 61 := by omega
              go_wp2_with fail
              go_ret
              exact ⟨rfl, hB.out⟩
      · have k1 : ¬ ((k : Int) < (n : Int)) := by omega
        go_wp2_with fail
        go_loopw [12] (fun x wr => ∃ j : Nat, 1 ≤ j ∧ j ≤ 61 ∧ x = .int .i64 j ∧ Hid (Blk wr w.heap.size 26 c.cells) ∧ Hid (Below w.heap.size w wr)) (fun x wr => 61 - (intOf x).toNat)
        case atStart => exact ⟨1, by omega, by omega, rfl, HCS, HBS⟩
        case round =>
          obtain ⟨j, hj1, hj2, rfl, hC, hB⟩ := hrel
          by_cases hj : j ≤ 60
          · have j0 : (j : Int) ≤ 60 := by omega
            by_cases ka : -1 ≤ a
            · have e1 : IntKind.i64.wrap (t - (j : Int)) = t - (j : Int) := IntWalk.i64_in _ (by omega)
              by_cases kb : a < t - (j : Int)
              · have e2 : IntKind.i64.wrap (a + (j : Int)) = a + (j : Int) := IntWalk.i64_in _ (by omega)
                have HM := Lib.hid (HN.out (a + (j : Int)) (by omega) (by omega))
                go_wp2_with (refine wpList_wantN (by rfl) ?_; refine wp_load_row 26 (.tmp 3) (by rfl) w.heap.size (by rfl) 26 c.cells (0, 0) _ hC.out Tryz.underlying26 rfl (by kernel_rfl) ?_)
                refine (Match_any c l (a + (j : Int)) _ (HT.out.below hB.out).t (HC.out.at_ hB.out)).mono ?_
                rintro e w5 ⟨rfl, hq5⟩
                rw [HM.out]
                have HC5 := Lib.hid (hC.out.below hq5 hC.out.lt)
                have HB5 := Lib.hid (more3 hB.out hB.out.size hq5)
                clear hq5 HM
                go_wp2_with fail
                go_roundw
                case rel => exact ⟨j + 1, by omega, by omega, by go_num, HC5, HB5⟩
                case measure => simp [intOf]; omega
              · go_wp2_with fail
                go_roundw
                case rel => exact ⟨j + 1, by omega, by omega, by go_num, hC, hB⟩
                case measure => simp [intOf]; omega
            · go_wp2_with fail
              go_roundw
              case rel => exact ⟨j + 1, by omega, by omega, by go_num, hC, hB⟩
              case measure => simp [intOf]; omega
          · obtain rfl : j = 61 := by omega
            go_wp2_with fail
            go_ret
            exact ⟨rfl, hB.out⟩
end Go.Proofs.YtnbdcjohibfjaaaGreatDoor
