/- The walk of the developers' Parse. What the laws of chapter 4 show ahead of all, on plain lists. It speaks of no code. T -/
import Derived.Test.YtadifolonbkamaaGreatDoorKvbk
import Derived.Test.YtadifolonbkamaaGreatDoorKvbh
import Derived.Test.YtadifolonbkamaaGreatDoorKvao
import Derived.Test.YtadifolonbkamaaGreatDoorKvbf
import Derived.Test.YtadifolonbkamaaGreatDoorKvap
import Derived.Deep.OwnRows
import Derived.Deep.DeepCutAuto
import Derived.Deep.CutBlock
import Derived.Deep.LoopGhost
namespace Go.Proofs.YtadifolonbkamaaGreatDoor.Ca
open Go.RowKit
theorem wpList_wantN {P : Program} {ops : Array Oper} {rest : List Oper} {o : Oper} {a : Act} {w : World} {Q : Exit → Act → World → Prop} (hw : Region.wanted o (yielded ops a.tmps) = true) (h : o.wp P a w (wpList P ops Q rest) Q) : wpList P ops Q (o :: rest) a w := by
  rw [wpList, if_pos hw]
  exact .inl h
theorem shortL_small (l : List UInt8) (h : l.length ≤ 400) : (shortL l).length ≤ 400 := by
  unfold shortL
  repeat' split
  all_goals first | exact h | decide
def ParseP (l : List UInt8) (w : World) (e : Ending) (w' : World) : Prop :=
  ∃ c : Ch, e = .returned (.tuple #[.agg c.cells, .bool (parseC l).isSome]) ∧ (∀ cl, parseC l = some cl → CalAt w' w'.heap.size c cl) ∧ (parseC l = none → c = nilCh) ∧ Below w.heap.size w w'
theorem parseP_no {l : List UInt8} {w w' : World} (h : parseC l = none) (hb : Below w.heap.size w w') : ParseP l w (.returned (.tuple #[.agg nilCh.cells, .bool false])) w' :=
  ⟨nilCh, by rw [h]; rfl, (fun cl hf => by rw [h] at hf; cases hf), (fun _ => rfl), hb⟩
theorem cal_keepN {w w' : World} {B F : Nat} {t : TypeId} {cs : Array Value} {c : Ch} {l : Cl} (h : CalAt w B c l) (hF : Blk w F t cs) (hn : NoInt cs) (hk : ∀ i, i ≠ F → w'.heap[i]? = w.heap[i]?) : CalAt w' B c l :=
  ⟨ints_keepN h.1 hF hn hk, fun f => pts_keepN (h.2 f) hF hn hk⟩
theorem CalAt.wideM {w : World} {B B' : Nat} {c : Ch} {l : Cl} (h : CalAt w B c l) (hB : B ≤ B') : CalAt w B' c l := ⟨h.1.wide hB, fun f => (h.2 f).wide hB⟩
set_option maxRecDepth 100000 in
set_option maxHeartbeats 16000000 in
theorem Parse_any (s : ByteArray) (hs : s.size ≤ maxLen) (w : World) (htab : TabM w) :
    Calls Tryz.prog 52 #[.string s] w (ParseP s.data.toList w) := by
  unfold maxLen at hs
  have HT := Lib.hid htab
  clear htab
  have HB0 : Hid (Below w.heap.size w (w.alloc (.cells #[.slice none 0 0, .slice none 0 0, .slice none 0 0, .slice none 0 0, .slice none 0 0, .slice none 0 0, .slice none 0 0] 63))) := (Below.refl _ _).alloc (Nat.le_refl _) _
  have HR0 : Hid (Blk (w.alloc (.cells #[.slice none 0 0, .slice none 0 0, .slice none 0 0, .slice none 0 0, .slice none 0 0, .slice none 0 0, .slice none 0 0] 63)) w.heap.size 63 nilCh.cells) := Blk.new w _ _
  have HD : Hid (parseC s.data.toList = if 400 < s.data.toList.length then none else match exprD (shortL s.data.toList) with | some c => if mayC c = true then some c else none | none => none) := (parse_same s.data.toList).symm
  by_cases h4 : 400 < s.size
  · have HN : Hid (parseC s.data.toList = none) := by show _ = _; rw [HD.out, if_pos (by rw [size_list]; exact h4)]
    have t4 : (400 : Int) < (s.size : Int) := by omega
    have t4b : decide ((400 : Int) < (s.size : Int)) = true := by simp; omega
    clear HD h4
    go_enter Tryz.func52, Tryz.ntmps52
    go_wp2_with (refine wpList_store_row rfl 63 (.tmp 2) (.tmp 9) (by rfl) w.heap.size nilCh.cells (by rfl) (by rfl) 63 nilCh.cells HR0.out (by kernel_rfl) rfl (ch_all _) ?_)
    exact bodyPost_ret (results_cell_tmp (p := 2) (q := 3) rfl _ _ w.heap.size 63 nilCh.cells _ _ rfl rfl (Blk.row HR0.out _) Tryz.underlying63 rfl (by kernel_rfl)) rfl (parseP_no HN.out (below_setRow HB0.out (Nat.le_refl _) _))
  · have t4 : (s.size : Int) ≤ 400 := by omega
    have t4b : decide ((400 : Int) < (s.size : Int)) = false := by simp; omega
    have HD2 : Hid (parseC s.data.toList = match exprD (shortL s.data.toList) with | some c => if mayC c = true then some c else none | none => none) := by show _ = _; rw [HD.out, if_neg (by rw [size_list]; exact h4)]
    have hsl : (str (shortL s.data.toList)).size ≤ 4000 := by
      have := shortL_small s.data.toList (by rw [size_list]; omega)
      rw [str_size]; omega
    clear HD h4
    go_enter Tryz.func52, Tryz.ntmps52
    go_wp2_with fail
    generalize w.alloc (.cells #[.slice none 0 0, .slice none 0 0, .slice none 0 0, .slice none 0 0, .slice none 0 0, .slice none 0 0, .slice none 0 0] 63) = w0 at *
    refine (fullForm_any _ _).mono ?_
    rintro e w1 ⟨rfl, rfl⟩
    have HPE : Hid (Calls Tryz.prog 77 #[.string (str (shortL s.data.toList))] w0 (ExprP (shortL s.data.toList) w0)) := parseExpression_any _ hsl w0 (HT.out.below HB0.out)
    go_wp2_with fail
    refine HPE.out.mono ?_
    rintro e w2 ⟨c, rfl, hcal, hb2⟩
    have HB2 := Lib.hid (more3 HB0.out HB0.out.size hb2)
    have HR2 := Lib.hid (HR0.out.below hb2 HR0.out.lt)
    have HC2 := Lib.hid hcal
    clear hb2 hcal HPE HB0 HR0
    have HA3 : Hid (Blk (w2.alloc (.cells #[.slice none 0 0, .slice none 0 0, .slice none 0 0, .slice none 0 0, .slice none 0 0, .slice none 0 0, .slice none 0 0] 63)) w2.heap.size 63 nilCh.cells) := Blk.new w2 _ _
    have HR3 : Hid (Blk (w2.alloc (.cells #[.slice none 0 0, .slice none 0 0, .slice none 0 0, .slice none 0 0, .slice none 0 0, .slice none 0 0, .slice none 0 0] 63)) w.heap.size 63 nilCh.cells) := HR2.out.alloc _
    have HB3 : Hid (Below w.heap.size w (w2.alloc (.cells #[.slice none 0 0, .slice none 0 0, .slice none 0 0, .slice none 0 0, .slice none 0 0, .slice none 0 0, .slice none 0 0] 63))) := HB2.out.alloc HB2.out.size _
    have hRA : w.heap.size ≠ w2.heap.size := by have := HR2.out.lt; omega
    have HA4 : Hid (Blk ((w2.alloc (.cells #[.slice none 0 0, .slice none 0 0, .slice none 0 0, .slice none 0 0, .slice none 0 0, .slice none 0 0, .slice none 0 0] 63)).setRow w2.heap.size c.cells) w2.heap.size 63 c.cells) := Blk.row HA3.out _
    have HR4 : Hid (Blk ((w2.alloc (.cells #[.slice none 0 0, .slice none 0 0, .slice none 0 0, .slice none 0 0, .slice none 0 0, .slice none 0 0, .slice none 0 0] 63)).setRow w2.heap.size c.cells) w.heap.size 63 nilCh.cells) := (heap_row_other _ _ _ _ hRA).trans HR3.out
    have HB4 : Hid (Below w.heap.size w ((w2.alloc (.cells #[.slice none 0 0, .slice none 0 0, .slice none 0 0, .slice none 0 0, .slice none 0 0, .slice none 0 0, .slice none 0 0] 63)).setRow w2.heap.size c.cells)) := below_setRow HB3.out (by have := HR2.out.lt; omega) _
    have HS4 : Hid (((w2.alloc (.cells #[.slice none 0 0, .slice none 0 0, .slice none 0 0, .slice none 0 0, .slice none 0 0, .slice none 0 0, .slice none 0 0] 63)).setRow w2.heap.size c.cells).heap.size = w2.heap.size + 1) := by show _ = _; rw [size_row]; simp
    have HC4 : Hid (∀ cl, exprD (shortL s.data.toList) = some cl → CalAt ((w2.alloc (.cells #[.slice none 0 0, .slice none 0 0, .slice none 0 0, .slice none 0 0, .slice none 0 0, .slice none 0 0, .slice none 0 0] 63)).setRow w2.heap.size c.cells) (w2.heap.size + 1) c cl) := fun cl h =>
      cal_keepN ((((HC2.out cl h).below ((Below.refl _ _).alloc (Nat.le_refl _) _))).wideM (Nat.le_succ _)) HA3.out (noInt_ch _) (heap_row_other _ _ _)
    cases hx : exprD (shortL s.data.toList) with
    | none =>
      have HN : Hid (parseC s.data.toList = none) := by show _ = _; rw [HD2.out, hx]
      rw [show (none : Option Cl).isSome = false from rfl]
      clear HC4 HC2 hx HD2
      go_wp2_with (first | (refine wpList_store_row rfl 63 (.tmp 4) (.tmp 14) (by rfl) w2.heap.size c.cells (by rfl) (by rfl) 63 nilCh.cells HA3.out (by kernel_rfl) rfl (ch_all _) ?_; generalize (w2.alloc (.cells #[.slice none 0 0, .slice none 0 0, .slice none 0 0, .slice none 0 0, .slice none 0 0, .slice none 0 0, .slice none 0 0] 63)).setRow w2.heap.size c.cells = w4 at *) | (refine wpList_store_row rfl 63 (.tmp 2) (.tmp 23) (by rfl) w.heap.size nilCh.cells (by rfl) (by rfl) 63 nilCh.cells HR4.out (by kernel_rfl) rfl (ch_all _) ?_))
      exact bodyPost_ret (results_cell_tmp (p := 2) (q := 3) rfl _ _ w.heap.size 63 nilCh.cells _ _ rfl rfl (Blk.row HR4.out _) Tryz.underlying63 rfl (by kernel_rfl)) rfl (parseP_no HN.out (below_setRow HB4.out (Nat.le_refl _) _))
    | some cl =>
      have HC5 := Lib.hid (HC4.out cl hx)
      have HD5 : Hid (parseC s.data.toList = if mayC cl = true then some cl else none) := by show _ = _; rw [HD2.out, hx]
      rw [show (some cl : Option Cl).isSome = true from rfl]
      clear HC4 HC2 hx HD2
      have HT4 := Lib.hid (HT.out.below HB4.out)
      go_wp2_with (first | (refine wpList_store_row rfl 63 (.tmp 4) (.tmp 14) (by rfl) w2.heap.size c.cells (by rfl) (by rfl) 63 nilCh.cells HA3.out (by kernel_rfl) rfl (ch_all _) ?_; generalize (w2.alloc (.cells #[.slice none 0 0, .slice none 0 0, .slice none 0 0, .slice none 0 0, .slice none 0 0, .slice none 0 0, .slice none 0 0] 63)).setRow w2.heap.size c.cells = w4 at *) | (refine wpList_wantN (by rfl) ?_; refine wp_load_row 63 (.tmp 4) (by rfl) w2.heap.size (by rfl) 63 c.cells (0, 0) _ HA4.out Tryz.underlying63 rfl (by kernel_rfl) ?_))
      refine (May_any c cl _ HT4.out.t (by rw [HS4.out]; exact HC5.out)).mono ?_
      rintro e w5 ⟨rfl, hb5⟩
      have HA5 := Lib.hid (HA4.out.below hb5 HA4.out.lt)
      have HR5 := Lib.hid (HR4.out.below hb5 HR4.out.lt)
      have HB5 := Lib.hid (more3 HB4.out HB4.out.size hb5)
      have hC5 : CalAt w4 w4.heap.size c cl := by rw [HS4.out]; exact HC5.out
      have HC6 := Lib.hid ((hC5.below hb5).wideM hb5.size)
      clear hb5 hC5
      cases hmay : mayC cl with
      | true =>
        have HD6 : Hid (parseC s.data.toList = some cl) := by show _ = _; rw [HD5.out, if_pos hmay]
        clear hmay
        go_wp2_with (first | (refine wpList_load_row rfl 63 (.tmp 4) (by rfl) w2.heap.size (by rfl) 63 c.cells (0, 0) _ HA5.out Tryz.underlying63 rfl (by kernel_rfl) ?_) | (refine wpList_store_row rfl 63 (.tmp 2) (.tmp 24) (by rfl) w.heap.size c.cells (by rfl) (by rfl) 63 nilCh.cells HR5.out (by kernel_rfl) rfl (ch_all _) ?_))
        exact bodyPost_ret (results_cell_tmp (p := 2) (q := 3) rfl _ _ w.heap.size 63 c.cells _ _ rfl rfl (Blk.row HR5.out _) Tryz.underlying63 rfl (by kernel_rfl)) rfl
          ⟨c, by rw [HD6.out]; rfl, (fun cl' h => by rw [HD6.out] at h; injection h with h; subst h; rw [size_row]; exact cal_keepN HC6.out HR5.out (noInt_ch _) (heap_row_other _ _ _)), (fun h => by rw [HD6.out] at h; cases h), below_setRow HB5.out (Nat.le_refl _) _⟩
      | false =>
        have HN : Hid (parseC s.data.toList = none) := by show _ = _; rw [HD5.out, if_neg (by rw [hmay]; simp)]
        clear hmay
        go_wp2_with (refine wpList_store_row rfl 63 (.tmp 2) (.tmp 23) (by rfl) w.heap.size nilCh.cells (by rfl) (by rfl) 63 nilCh.cells HR5.out (by kernel_rfl) rfl (ch_all _) ?_)
        exact bodyPost_ret (results_cell_tmp (p := 2) (q := 3) rfl _ _ w.heap.size 63 nilCh.cells _ _ rfl rfl (Blk.row HR5.out _) Tryz.underlying63 rfl (by kernel_rfl)) rfl (parseP_no HN.out (below_setRow HB5.out (Nat.le_refl _) _))
end Go.Proofs.YtadifolonbkamaaGreatDoor.Ca
