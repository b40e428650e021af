/- The walk of the law CalTurn. -/
import Derived.Test.YtnbdcjohibfjaaaGreatDoorCqY
import Derived.Test.YtnbdcjohibfjaaaGreatDoorCrS
namespace Go.Proofs.YtnbdcjohibfjaaaGreatDoor
open Go.RowKit

theorem print_no {l : Cl} (h : mayC l = false) : printC l = [] := by unfold printC; rw [if_neg (by rw [h]; simp)]
theorem parse_nilT : parseC [] = none := by decide +kernel
theorem print_some {l : Cl} (h : mayC l = true) : printC l ≠ [] := by
  intro e
  have := parse_print h
  rw [e, parse_nilT] at this
  cases this

set_option maxRecDepth 100000 in
set_option maxHeartbeats 16000000 in
theorem CalTurn_any (c : Ch) (l : Cl) (w : World) (htab : TabM w) (hc : CalAt w w.heap.size c l) :
    Calls Tryz.prog 5 #[.agg c.cells] w fun e w' => e = .returned (.bool true) ∧ Below w.heap.size w w' := by
  have HT := Lib.hid htab
  have HC := Lib.hid hc
  clear htab hc
  go_enter Tryz.func5, Tryz.ntmps5
  go_wp2_with fail
  refine (shown4_any _ (HT.out.below ((Below.refl _ _).alloc (Nat.le_refl _) _))).mono ?_
  rintro e w1 ⟨rfl, hq1⟩
  have HK1 : Hid (Blk w1 w.heap.size 26 c.cells) := (Blk.new w _ _).below hq1 (by simp)
  have HB1 := Lib.hid (more3 ((Below.refl w.heap.size w).alloc (Nat.le_refl _) _) (by simp) hq1)
  clear hq1
  go_wp2_with (refine wpList_load_row rfl 26 (.tmp 1) (by rfl) w.heap.size (by rfl) 26 c.cells (0, 0) _ HK1.out Tryz.underlying26 rfl (by kernel_rfl) ?_)
  refine (Print_any c l _ (HT.out.below HB1.out).t (HC.out.at_ HB1.out)).mono ?_
  rintro e w3 ⟨rfl, hq3⟩
  have HK3 := Lib.hid (HK1.out.below hq3 HK1.out.lt)
  have HB3 := Lib.hid (more3 HB1.out HB1.out.size hq3)
  clear hq3 HK1 HB1
  obtain ⟨S, hS⟩ : ∃ S, str (printC l) = S := ⟨_, rfl⟩
  have hSl : S.data.toList = printC l := by rw [← hS]; rfl
  have hsz : S.size ≤ maxLen := by
    have := printC_length l
    rw [← hSl, size_list] at this
    unfold maxLen; omega
  rw [hS]
  go_wp2_with fail
  refine (Parse_any S hsz _ (HT.out.below HB3.out)).mono ?_
  rintro e w4 ⟨c2, rfl, hc2, hnil, hq4⟩
  rw [hSl] at hc2 hnil
  rw [hSl]
  have HK4 := Lib.hid (HK3.out.below hq4 HK3.out.lt)
  have HB4 := Lib.hid (more3 HB3.out HB3.out.size hq4)
  clear hq4 HK3 HB3
  cases hmay : mayC l with
  | false =>
    have hp := print_no hmay
    rw [hp] at hSl hc2 hnil ⊢
    rw [parse_nilT]
    have he : S.toList = [] := by rw [Lib.toList_data, hSl]
    obtain rfl := hnil parse_nilT
    clear hc2 hnil hS hSl hp hsz
    have hb45 : Below w4.heap.size w4 ((w4.alloc (.cells #[.slice none 0 0, .slice none 0 0, .slice none 0 0, .slice none 0 0, .slice none 0 0, .slice none 0 0, .slice none 0 0] 26)).setRow w4.heap.size nilCh.cells) := below_setRow ((Below.refl _ _).alloc (Nat.le_refl _) _) (Nat.le_refl _) _
    have HD0 : Hid (Blk (w4.alloc (.cells #[.slice none 0 0, .slice none 0 0, .slice none 0 0, .slice none 0 0, .slice none 0 0, .slice none 0 0, .slice none 0 0] 26)) w4.heap.size 26 nilCh.cells) := Blk.new w4 _ _
    have HD5 : Hid (Blk ((w4.alloc (.cells #[.slice none 0 0, .slice none 0 0, .slice none 0 0, .slice none 0 0, .slice none 0 0, .slice none 0 0, .slice none 0 0] 26)).setRow w4.heap.size nilCh.cells) w4.heap.size 26 nilCh.cells) := HD0.out.row _
    have HK5 : Hid (Blk ((w4.alloc (.cells #[.slice none 0 0, .slice none 0 0, .slice none 0 0, .slice none 0 0, .slice none 0 0, .slice none 0 0, .slice none 0 0] 26)).setRow w4.heap.size nilCh.cells) w.heap.size 26 c.cells) := HK4.out.below hb45 HK4.out.lt
    have HB5 : Hid (Below w.heap.size w ((w4.alloc (.cells #[.slice none 0 0, .slice none 0 0, .slice none 0 0, .slice none 0 0, .slice none 0 0, .slice none 0 0, .slice none 0 0] 26)).setRow w4.heap.size nilCh.cells)) := more3 HB4.out HB4.out.size hb45
    have HX45 := Lib.hid hb45
    clear hb45
    go_wp2_with (first | (refine wpList_store_row rfl 26 (.tmp 4) (.tmp 13) (by rfl) w4.heap.size nilCh.cells (by rfl) (by rfl) 26 nilCh.cells HD0.out (by kernel_rfl) rfl (ch_all _) ?_; generalize ((w4.alloc (.cells #[.slice none 0 0, .slice none 0 0, .slice none 0 0, .slice none 0 0, .slice none 0 0, .slice none 0 0, .slice none 0 0] 26)).setRow w4.heap.size nilCh.cells) = w5 at *) | (refine wpList_load_row rfl 26 (.tmp 1) (by rfl) w.heap.size (by rfl) 26 c.cells (0, 0) _ HK5.out Tryz.underlying26 rfl (by kernel_rfl) ?_))
    have hm6 := May_any c l w5 (HT.out.below HB5.out).t (HC.out.at_ HB5.out)
    rw [hmay] at hm6
    refine hm6.mono ?_
    rintro e w6 ⟨rfl, hb6⟩
    have HB6 := Lib.hid (more3 HB5.out HB5.out.size hb6)
    clear hb6 hm6
    go_wp2_with fail
    go_ret
    exact ⟨rfl, HB6.out⟩
  | true =>
    have hp := parse_print hmay
    have HC4 := Lib.hid (hc2 l hp)
    rw [hp]
    have he : S.toList.isEmpty = false := by
      rw [Lib.toList_data, hSl]
      cases hpp : printC l with
      | nil => exact absurd hpp (print_some hmay)
      | cons a r => rfl
    have he2 : ¬ S.toList = [] := by intro e; rw [e] at he; cases he
    clear hc2 hnil hS hSl hp hsz
    have hb45 : Below w4.heap.size w4 ((w4.alloc (.cells #[.slice none 0 0, .slice none 0 0, .slice none 0 0, .slice none 0 0, .slice none 0 0, .slice none 0 0, .slice none 0 0] 26)).setRow w4.heap.size c2.cells) := below_setRow ((Below.refl _ _).alloc (Nat.le_refl _) _) (Nat.le_refl _) _
    have HD0 : Hid (Blk (w4.alloc (.cells #[.slice none 0 0, .slice none 0 0, .slice none 0 0, .slice none 0 0, .slice none 0 0, .slice none 0 0, .slice none 0 0] 26)) w4.heap.size 26 nilCh.cells) := Blk.new w4 _ _
    have HD5 : Hid (Blk ((w4.alloc (.cells #[.slice none 0 0, .slice none 0 0, .slice none 0 0, .slice none 0 0, .slice none 0 0, .slice none 0 0, .slice none 0 0] 26)).setRow w4.heap.size c2.cells) w4.heap.size 26 c2.cells) := HD0.out.row _
    have HK5 : Hid (Blk ((w4.alloc (.cells #[.slice none 0 0, .slice none 0 0, .slice none 0 0, .slice none 0 0, .slice none 0 0, .slice none 0 0, .slice none 0 0] 26)).setRow w4.heap.size c2.cells) w.heap.size 26 c.cells) := HK4.out.below hb45 HK4.out.lt
    have HB5 : Hid (Below w.heap.size w ((w4.alloc (.cells #[.slice none 0 0, .slice none 0 0, .slice none 0 0, .slice none 0 0, .slice none 0 0, .slice none 0 0, .slice none 0 0] 26)).setRow w4.heap.size c2.cells)) := more3 HB4.out HB4.out.size hb45
    have HX45 := Lib.hid hb45
    clear hb45
    go_wp2_with (first | (refine wpList_store_row rfl 26 (.tmp 4) (.tmp 13) (by rfl) w4.heap.size c2.cells (by rfl) (by rfl) 26 nilCh.cells HD0.out (by kernel_rfl) rfl (ch_all _) ?_; generalize ((w4.alloc (.cells #[.slice none 0 0, .slice none 0 0, .slice none 0 0, .slice none 0 0, .slice none 0 0, .slice none 0 0, .slice none 0 0] 26)).setRow w4.heap.size c2.cells) = w5 at *) | (refine wpList_load_row rfl 26 (.tmp 1) (by rfl) w.heap.size (by rfl) 26 c.cells (0, 0) _ HK5.out Tryz.underlying26 rfl (by kernel_rfl) ?_))
    have hm6 := May_any c l w5 (HT.out.below HB5.out).t (HC.out.at_ HB5.out)
    rw [hmay] at hm6
    refine hm6.mono ?_
    rintro e w6 ⟨rfl, hb6⟩
    have HB6 := Lib.hid (more3 HB5.out HB5.out.size hb6)
    have HC6 : Hid (CalAt w6 w6.heap.size c l) := HC.out.at_ HB6.out
    have HC6' : Hid (CalAt w6 w6.heap.size c2 l) := ((HC4.out.below HX45.out).wideM HX45.out.size).at_ hb6
    have HK6 := Lib.hid (HK5.out.below hb6 HK5.out.lt)
    have HD6 := Lib.hid (HD5.out.below hb6 HD5.out.lt)
    clear hb6 hm6 HK5 HD5 HB5 HX45 HC4
    go_wp2_with (first | (refine wpList_wantN (by rfl) ?_; refine wp_load_row 26 (.tmp 1) (by rfl) w.heap.size (by rfl) 26 c.cells (0, 0) _ HK6.out Tryz.underlying26 rfl (by kernel_rfl) ?_) | (refine wpList_wantN (by rfl) ?_; refine wp_load_row 26 (.tmp 4) (by rfl) w4.heap.size (by rfl) 26 c2.cells (0, 0) _ HD6.out Tryz.underlying26 rfl (by kernel_rfl) ?_))
    refine (Same_eq c c2 l w6 HC6.out HC6'.out).mono ?_
    rintro e w7 ⟨rfl, hb7⟩
    have HB7 := Lib.hid (more3 HB6.out HB6.out.size hb7)
    clear hb7
    go_wp2_with fail
    go_ret
    exact ⟨rfl, HB7.out⟩
end Go.Proofs.YtnbdcjohibfjaaaGreatDoor
