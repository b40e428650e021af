/- The walk of the law CalParse. -/
import Derived.Test.YteflddgcddcejaaGreatDoorCwbt
import Derived.Test.YteflddgcddcejaaGreatDoorCwbu
namespace Go.Proofs.YteflddgcddcejaaGreatDoor
open Go.RowKit
def nilCl : Cl := ⟨[], [], [], [], [], [], []⟩
theorem nil_at {w : World} {B : Nat} : CalAt w B nilCh nilCl := by
  refine ⟨⟨rfl, Nat.zero_le _, Reads.none_⟩, fun f => ?_⟩
  have e : (nilCh.fsl f).A = none ∧ (nilCh.fsl f).n = 0 ∧ nilCl.fld f = [] := by
    match f with
    | 0 => exact ⟨rfl, rfl, rfl⟩
    | 1 => exact ⟨rfl, rfl, rfl⟩
    | 2 => exact ⟨rfl, rfl, rfl⟩
    | 3 => exact ⟨rfl, rfl, rfl⟩
    | 4 => exact ⟨rfl, rfl, rfl⟩
    | 5 => exact ⟨rfl, rfl, rfl⟩
    | (f + 6) => exact ⟨rfl, rfl, rfl⟩
  rw [e.1, e.2.1, e.2.2]
  exact ⟨rfl, Nat.zero_le _, Reads.none_⟩
theorem read_at {l : List UInt8} {w : World} {c : Ch} (h1 : ∀ cl, parseC l = some cl → CalAt w w.heap.size c cl) (h2 : parseC l = none → c = nilCh) : CalAt w w.heap.size c ((parseC l).getD nilCl) := by
  cases h : parseC l with
  | none => rw [h2 h]; exact nil_at
  | some cl => exact h1 cl h
set_option maxRecDepth 100000 in
set_option maxHeartbeats 8000000 in
theorem CalParse_any (s : ByteArray) (hs : s.size ≤ maxLen) (w : World) (htab : TabM w) :
    Calls Tryz.prog 3 #[.string s] w fun e w' => e = .returned (.bool true) ∧ Below w.heap.size w w' := by
  have HT := Lib.hid htab
  clear htab
  go_enter Tryz.func3, Tryz.ntmps3
  go_wp2_with fail
  refine (shown4_any _ HT.out).mono ?_
  rintro e w1 ⟨rfl, hb1⟩
  have HB1 := Lib.hid hb1
  clear hb1
  go_wp2_with fail
  refine (Parse_any s hs _ (HT.out.below HB1.out)).mono ?_
  rintro e w2 ⟨c, rfl, hc, hnil, hb2⟩
  have HC2 := Lib.hid (read_at hc hnil)
  have HB2 := Lib.hid (more3 HB1.out HB1.out.size hb2)
  obtain ⟨ok, hok⟩ : ∃ ok, (parseC s.data.toList).isSome = ok := ⟨_, rfl⟩
  rw [hok]
  have HOK := Lib.hid hok
  clear hc hnil hb2 HB1 hok
  have HA2 : Hid (Blk (w2.alloc (.cells #[.slice none 0 0, .slice none 0 0, .slice none 0 0, .slice none 0 0, .slice none 0 0, .slice none 0 0, .slice none 0 0] 26)) w2.heap.size 26 nilCh.cells) := Blk.new w2 _ _
  have HA3 : Hid (Blk ((w2.alloc (.cells #[.slice none 0 0, .slice none 0 0, .slice none 0 0, .slice none 0 0, .slice none 0 0, .slice none 0 0, .slice none 0 0] 26)).setRow w2.heap.size c.cells) w2.heap.size 26 c.cells) := Blk.row HA2.out _
  have HB3 : Hid (Below w.heap.size w ((w2.alloc (.cells #[.slice none 0 0, .slice none 0 0, .slice none 0 0, .slice none 0 0, .slice none 0 0, .slice none 0 0, .slice none 0 0] 26)).setRow w2.heap.size c.cells)) := below_setRow (HB2.out.alloc HB2.out.size _) HB2.out.size _
  have HC3 : Hid (CalAt ((w2.alloc (.cells #[.slice none 0 0, .slice none 0 0, .slice none 0 0, .slice none 0 0, .slice none 0 0, .slice none 0 0, .slice none 0 0] 26)).setRow w2.heap.size c.cells) (w2.heap.size + 1) c ((parseC s.data.toList).getD nilCl)) := cal_keepN ((HC2.out.below ((Below.refl _ _).alloc (Nat.le_refl _) _)).wideM (Nat.le_succ _)) HA2.out (noInt_ch _) (heap_row_other _ _ _)
  have HS3 : Hid (((w2.alloc (.cells #[.slice none 0 0, .slice none 0 0, .slice none 0 0, .slice none 0 0, .slice none 0 0, .slice none 0 0, .slice none 0 0] 26)).setRow w2.heap.size c.cells).heap.size = w2.heap.size + 1) := by show _ = _; rw [size_row]; simp
  clear HC2 HB2
  go_wp2_with (refine wpList_store_row rfl 26 (.tmp 3) (.tmp 12) (by rfl) w2.heap.size c.cells (by rfl) (by rfl) 26 nilCh.cells HA2.out (by kernel_rfl) rfl (ch_all _) ?_; generalize (w2.alloc (.cells #[.slice none 0 0, .slice none 0 0, .slice none 0 0, .slice none 0 0, .slice none 0 0, .slice none 0 0, .slice none 0 0] 26)).setRow w2.heap.size c.cells = w3 at *)
  refine (rParse_any s hs _).mono ?_
  rintro e w4 ⟨d, rfl, hd, hnil, hb4⟩
  have HD4 := Lib.hid (read_at hd hnil)
  have HB4 := Lib.hid (more3 HB3.out HB3.out.size hb4)
  have HA4 := Lib.hid (HA3.out.below hb4 HA3.out.lt)
  have HC4 : Hid (CalAt w4 w4.heap.size c ((parseC s.data.toList).getD nilCl)) := by
    have h : CalAt w3 w3.heap.size c ((parseC s.data.toList).getD nilCl) := by rw [HS3.out]; exact HC3.out
    exact (h.below hb4).wideM hb4.size
  rw [HOK.out]
  clear hd hnil hb4 HB3 HA3 HC3 HS3 HA2
  have hne : w2.heap.size ≠ w4.heap.size := by have := HA4.out.lt; omega
  have HE4 : Hid (Blk (w4.alloc (.cells #[.slice none 0 0, .slice none 0 0, .slice none 0 0, .slice none 0 0, .slice none 0 0, .slice none 0 0, .slice none 0 0] 26)) w4.heap.size 26 nilCh.cells) := Blk.new w4 _ _
  have HE5 : Hid (Blk ((w4.alloc (.cells #[.slice none 0 0, .slice none 0 0, .slice none 0 0, .slice none 0 0, .slice none 0 0, .slice none 0 0, .slice none 0 0] 26)).setRow w4.heap.size d.cells) w4.heap.size 26 d.cells) := Blk.row HE4.out _
  have HA5 : Hid (Blk ((w4.alloc (.cells #[.slice none 0 0, .slice none 0 0, .slice none 0 0, .slice none 0 0, .slice none 0 0, .slice none 0 0, .slice none 0 0] 26)).setRow w4.heap.size d.cells) w2.heap.size 26 c.cells) := (heap_row_other _ _ _ _ hne).trans (HA4.out.alloc _)
  have HB5 : Hid (Below w.heap.size w ((w4.alloc (.cells #[.slice none 0 0, .slice none 0 0, .slice none 0 0, .slice none 0 0, .slice none 0 0, .slice none 0 0, .slice none 0 0] 26)).setRow w4.heap.size d.cells)) := below_setRow (HB4.out.alloc HB4.out.size _) HB4.out.size _
  have HD5 : Hid (CalAt ((w4.alloc (.cells #[.slice none 0 0, .slice none 0 0, .slice none 0 0, .slice none 0 0, .slice none 0 0, .slice none 0 0, .slice none 0 0] 26)).setRow w4.heap.size d.cells) (w4.heap.size + 1) d ((parseC s.data.toList).getD nilCl)) := cal_keepN ((HD4.out.below ((Below.refl _ _).alloc (Nat.le_refl _) _)).wideM (Nat.le_succ _)) HE4.out (noInt_ch _) (heap_row_other _ _ _)
  have HC5 : Hid (CalAt ((w4.alloc (.cells #[.slice none 0 0, .slice none 0 0, .slice none 0 0, .slice none 0 0, .slice none 0 0, .slice none 0 0, .slice none 0 0] 26)).setRow w4.heap.size d.cells) (w4.heap.size + 1) c ((parseC s.data.toList).getD nilCl)) := cal_keepN ((HC4.out.below ((Below.refl _ _).alloc (Nat.le_refl _) _)).wideM (Nat.le_succ _)) HE4.out (noInt_ch _) (heap_row_other _ _ _)
  have HS5 : Hid (((w4.alloc (.cells #[.slice none 0 0, .slice none 0 0, .slice none 0 0, .slice none 0 0, .slice none 0 0, .slice none 0 0, .slice none 0 0] 26)).setRow w4.heap.size d.cells).heap.size = w4.heap.size + 1) := by show _ = _; rw [size_row]; simp
  clear HC4 HD4 HB4 HA4
  go_wp2_with (first
    | (refine wpList_store_row rfl 26 (.tmp 5) (.tmp 17) (by rfl) w4.heap.size d.cells (by rfl) (by rfl) 26 nilCh.cells HE4.out (by kernel_rfl) rfl (ch_all _) ?_; generalize (w4.alloc (.cells #[.slice none 0 0, .slice none 0 0, .slice none 0 0, .slice none 0 0, .slice none 0 0, .slice none 0 0, .slice none 0 0] 26)).setRow w4.heap.size d.cells = w5 at *)
    | (refine wpList_load_row rfl 26 (.tmp 3) (by rfl) w2.heap.size (by rfl) 26 c.cells (0, 0) _ HA5.out Tryz.underlying26 rfl (by kernel_rfl) ?_)
    | (refine wpList_load_row rfl 26 (.tmp 5) (by rfl) w4.heap.size (by rfl) 26 d.cells (0, 0) _ HE5.out Tryz.underlying26 rfl (by kernel_rfl) ?_))
  refine (Same_eq c d ((parseC s.data.toList).getD nilCl) w5 (by rw [HS5.out]; exact HC5.out) (by rw [HS5.out]; exact HD5.out)).mono ?_
  rintro e w6 ⟨rfl, hb6⟩
  have HB6 := Lib.hid (more3 HB5.out HB5.out.size hb6)
  clear hb6
  go_wp2_with fail
  go_ret
  exact ⟨by simp, HB6.out⟩
end Go.Proofs.YteflddgcddcejaaGreatDoor
