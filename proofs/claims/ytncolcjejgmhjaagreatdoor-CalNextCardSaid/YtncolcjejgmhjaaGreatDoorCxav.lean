/- The walk of the developers' advance. -/
import Derived.Test.YtncolcjejgmhjaaGreatDoorCxau
namespace Go.Proofs.YtncolcjejgmhjaaGreatDoor
open Go.RowKit
set_option maxRecDepth 100000 in
set_option maxHeartbeats 8000000 in
theorem advance_any (c : Ch) (l : Cl) (n0 : Six) (hm : mayC l = true) (hn : n0.bd) (w : World) (ht : Tabs w) (hc : CalAt w w.heap.size c l) :
    Calls Tryz.prog 16 #[.agg c.six, .agg n0.cells] w (AdvPost l n0 w) := by
  have HC := Lib.hid hc
  have HT := Lib.hid ht
  have HM := Lib.hid hm
  have HN0 := Lib.hid hn
  have HCS : Hid (∀ (W : World) (g : Nat) (t : TypeId) (f : Nat), f < 6 → Blk W g t c.six → W.cell? ⟨g, f, none⟩ = some (.slice (c.fsl f).A (c.fsl f).n (c.fsl f).c)) := by
    intro W g t f hf h
    rw [h.cell f]
    rcases six_f hf with rfl | rfl | rfl | rfl | rfl | rfl <;> rfl
  have HBL : Hid (∀ (W : World) (g : Nat) (t : TypeId) (f : Nat) (v : Six), f < 6 → Blk W g t v.cells → W.cell? ⟨g, f, none⟩ = some (.int .i64 (v.at f))) := by
    intro W g t f v hf h
    rw [h.cell f, cells_at hf]
  clear hc ht hm hn
  have E1 : Hid (c.six = #[.slice c.y.A c.y.n c.y.c, .slice c.m.A c.m.n c.m.c, .slice c.t.A c.t.n c.t.c, .slice c.h.A c.h.n c.h.c, .slice c.i.A c.i.n c.i.c, .slice c.s.A c.s.n c.s.c]) := rfl
  have E2 : Hid (n0.cells = #[.int .i64 n0.y, .int .i64 n0.m, .int .i64 n0.d, .int .i64 n0.h, .int .i64 n0.i, .int .i64 n0.s]) := rfl
  rw [E1.out, E2.out]
  go_enter Tryz.func16, Tryz.ntmps16
  go_wp2_with fail
  have HL0 : Hid (Blk ((w.alloc (.cells c.six 46)).alloc (.cells n0.cells 43)) w.heap.size 46 c.six) := (Blk.new w _ _).alloc _
  have HV0 : Hid (Blk ((w.alloc (.cells c.six 46)).alloc (.cells n0.cells 43)) (w.heap.size + 1) 43 n0.cells) := by
    have := Blk.new (w.alloc (.cells c.six 46)) 43 n0.cells
    rw [show (w.alloc (.cells c.six 46)).heap.size = w.heap.size + 1 by simp] at this
    exact this
  have HB0 : Hid (Below w.heap.size w ((w.alloc (.cells c.six 46)).alloc (.cells n0.cells 43))) := ((Below.refl _ _).alloc (Nat.le_refl _) _).alloc (by simp) _
  have HA0 := Lib.hid (Adv.start (c := l) HN0.out)
  have HL1 := Lib.hid (HL0.out.alloc (.cells zero6 43))
  have HV1 := Lib.hid (HV0.out.alloc (.cells zero6 43))
  have HR1 : Hid (Blk (((w.alloc (.cells c.six 46)).alloc (.cells n0.cells 43)).alloc (.cells zero6 43)) (w.heap.size + 1 + 1) 43 zero6) := by
    have := Blk.new ((w.alloc (.cells c.six 46)).alloc (.cells n0.cells 43)) 43 zero6
    rw [show ((w.alloc (.cells c.six 46)).alloc (.cells n0.cells 43)).heap.size = w.heap.size + 1 + 1 by simp] at this
    exact this
  have HB1 := Lib.hid (HB0.out.alloc (by simp; omega) (.cells zero6 43))
  clear HL0 HV0 HB0
  go_loopw [6] (fun x wr => ∃ (f : Nat) (v : Six), f ≤ 6 ∧ x = .int .i64 f ∧ Hid (Adv l n0 v f) ∧ Hid (Blk wr w.heap.size 46 c.six) ∧ Hid (Blk wr (w.heap.size + 1) 43 v.cells) ∧ Hid (Blk wr (w.heap.size + 1 + 1) 43 zero6) ∧ Hid (Below w.heap.size w wr)) (fun x wr => farIn (w.heap.size + 1) wr * 7 + (6 - (intOf x).toNat))
  case atStart => exact ⟨0, n0, by omega, rfl, HA0, HL1, HV1, HR1, HB1⟩
  case round =>
    obtain ⟨f, v, hf, rfl, hA, hL, hV, hR, hb⟩ := hrel
    have hz : w.heap.size + 1 + 1 < wr.heap.size := hR.out.lt
    by_cases hf6 : f < 6
    · have hf5 : f ≤ 5 := by omega
      have f0 : (0 : Int) ≤ (f : Int) := by omega
      have f6 : (f : Int) < 6 := by omega
      have hbd : Hid (0 ≤ v.at f ∧ v.at f ≤ 2200) := by
        have := hA.out.bd
        unfold Six.bd at this
        rcases six_f hf6 with rfl | rfl | rfl | rfl | rfl | rfl <;> simp only [Hid, Six.at] <;> omega
      have l0 := HCS.out wr w.heap.size _ f hf6 hL.out
      have v0 := HBL.out wr (w.heap.size + 1) _ f v hf6 hV.out
      have HP := Lib.hid (HC.out.2 f)
      have HF := Lib.hid (mayC_fld HM.out hf6)
      have HLF := Lib.hid (fun W h1 h2 => leastFrom_any (c.fsl f).A (c.fsl f).n (c.fsl f).c f (l.fld f) (v.at f) hf5 HF.out hbd.out.1 (by have := hbd.out.2; omega) W h1 h2)
      have HTr := Lib.hid (HT.out.below hb.out)
      have HPr : Hid (PtsAt wr wr.heap.size (c.fsl f).A (c.fsl f).n (l.fld f)) := (HP.out.below hb.out).wide hb.out.size
      have HY := Lib.hid (lf_yes (f := f) (l := l.fld f) (n := v.at f) HF.out)
      have HNo := Lib.hid (lf_no (f := f) (l := l.fld f) (n := v.at f) HF.out)
      have HRG := Lib.hid (fun n h => inF_range (f := f) (l := l.fld f) (n := n) HF.out h)
      have hhi := Lib.hid (lo_bd f)
      generalize lfN f (l.fld f) (v.at f) = nn at *
      generalize lfB f (l.fld f) (v.at f) = bb at *
      go_wp2_with fail
      go_region_with ((go_at_call 33; refine (HLF.out _ (by exact HTr.out.heap rfl) (by exact HPr.out)).mono ?_; rintro e w2 ⟨rfl, hb2⟩; have HL2 : Hid (Blk w2 w.heap.size 46 c.six) := (Blk.below (by exact hL.out) hb2 (by exact hL.out.lt)); have HV2 : Hid (Blk w2 (w.heap.size + 1) 43 v.cells) := (Blk.below (by exact hV.out) hb2 (by exact hV.out.lt)); have HR2 : Hid (Blk w2 (w.heap.size + 1 + 1) 43 zero6) := (Blk.below (by exact hR.out) hb2 (by exact hR.out.lt)); (first | have HB2 := Lib.hid (more3 hb.out hb.out.size hb2) | have HB2 := Lib.hid (more3 hb.out.drew hb.out.size hb2) | have HB2 := Lib.hid (more3 hb.out.drew.drew hb.out.size hb2) | have HB2 := Lib.hid (more3 hb.out.drew.drew.drew hb.out.size hb2) | have HB2 := Lib.hid (more3 (below_drewN hb.out _) hb.out.size hb2)); clear hb2))
      all_goals
        clear l0 v0
        rcases bb with _ | _
        · by_cases h0 : f = 0
          · have h0' : ((f : Int) == 0) = true := by simp [h0]
            have HEND : Hid (∀ u : Six, u.good l → ¬ n0.le u) := by
              intro u hu
              subst h0
              exact Adv.none_ hA.out (fun k hk => (HNo.out rfl).2 k hk) u hu
            have HBR := Lib.hid (below_setRow HB2.out (show w.heap.size ≤ w.heap.size + 1 + 1 by omega) zero6)
            have HRR := Lib.hid (HR2.out.row zero6)
            clear h0
            go_wp2_with (refine wpList_store_row rfl 43 (.tmp 4) (.tmp 28) (by rfl) (w.heap.size + 1 + 1) zero6 (by rfl) (by rfl) 43 zero6 HR2.out (by kernel_rfl) rfl zero6_all ?_)
            exact bodyPost_ret (results_cell_tmp (p := 4) (q := 5) rfl _ _ (w.heap.size + 1 + 1) 43 zero6 _ _ rfl rfl HRR.out Tryz.underlying43 rfl (by kernel_rfl)) rfl ⟨.inr ⟨rfl, HEND.out⟩, HBR.out⟩
          · have h0' : ((f : Int) == 0) = false := by simp; omega
            have g1 : (1 : Int) ≤ (f : Int) := by omega
            have g2 : (f : Int) ≤ 6 := by omega
            have u1 : (0 : Nat) ≤ 1 := Nat.zero_le _
            obtain ⟨g, hg⟩ : ∃ g, f = g + 1 := ⟨f - 1, by omega⟩
            obtain ⟨W3, hclr, hV3, hO3, hB3⟩ := clear_run f hf6 HV2.out
            have HL3 := Lib.hid (hO3 w.heap.size _ _ (by omega) HL2.out)
            have HR3 := Lib.hid (hO3 (w.heap.size + 1 + 1) _ _ (by omega) HR2.out)
            have HB3 := Lib.hid (hB3 w.heap.size w (by omega) HB2.out)
            have HV3 : Hid (Blk W3 (w.heap.size + 1) 43 (v.set (g + 1) 0).cells) := by rw [← hg]; exact hV3
            clear hV3 hO3 hB3
            have hcu := set_cell_up (show g < 5 by omega) HV3.out
            have hfz := HV3.out.frozen g
            have HN : Hid (Adv l n0 (v.set g (v.at g + 1)) g) := by
              subst hg
              exact Adv.up HM.out hA.out hf6 (fun k hk => (HNo.out rfl).2 k hk)
            have hxb : Hid (0 ≤ v.at g ∧ v.at g ≤ 2200) := by
              have := hA.out.bd
              unfold Six.bd at this
              rcases six_f (show g < 6 by omega) with rfl | rfl | rfl | rfl | rfl | rfl <;> simp only [Hid, Six.at] <;> omega
            have x0 := hxb.out.1
            have x1 := hxb.out.2
            have e1 : (f : Int) - 1 = (g : Int) := by omega
            have e2 : (0 : Int) ≤ (g : Int) := by omega
            have e3 : (g : Int) < 6 := by omega
            have HV4 := Lib.hid (blk_up g (by omega) HV3.out (v.at g + 1))
            have HL4 := Lib.hid (HL3.out.setOther (a := ⟨w.heap.size + 1, g, none⟩) (by simp) (.int .i64 (v.at g + 1)))
            have HR4 := Lib.hid (HR3.out.setOther (a := ⟨w.heap.size + 1, g, none⟩) (by simp) (.int .i64 (v.at g + 1)))
            have HB4 := Lib.hid (HB3.out.setCell (p := ⟨w.heap.size + 1, g, none⟩) (by simp) (.int .i64 (v.at g + 1)))
            have HFAR := Lib.hid (set_far (show g < 6 by omega) hA.out.bd HN.out.bd (by omega))
            have HF0 := Lib.hid (farIn_eq hV.out)
            have HF1 := Lib.hid (farIn_eq HV4.out)
            have hg6 : g + 1 ≤ 6 := by omega
            have hfg : f ≤ g + 1 := by omega
            clear hg
            go_wp2_with fail
            go_roundw
            case rel => exact ⟨g, _, by omega, rfl, HN, HL4, HV4, HR4, HB4⟩
            case measure => rw [HF0.out, HF1.out]; have := HFAR.out; simp [intOf]; omega
        · have u1 : (0 : Nat) ≤ 1 := Nat.zero_le _
          have u2 : (0 : Nat) ≤ 2 := Nat.zero_le _
          have hc2 := HBL.out w2 (w.heap.size + 1) _ f v hf6 HV2.out
          by_cases ce : nn = v.at f
          · have ce' : (nn == v.at f) = true := by simp [ce]
            have HN : Hid (Adv l n0 v (f + 1)) := by
              have h2 := (HY.out rfl).2.1
              rw [ce] at h2
              exact hA.out.next h2
            have HF0 := Lib.hid (farIn_eq hV.out)
            have HF1 := Lib.hid (farIn_eq HV2.out)
            clear ce
            go_wp2_with fail
            go_roundw
            case rel => exact ⟨f + 1, v, by omega, by go_num, HN, HL2, HV2, HR2, HB2⟩
            case measure => rw [HF0.out, HF1.out]; simp [intOf]; omega
          · have ce' : (nn == v.at f) = false := by simpa using ce
            have hlt : v.at f < nn := by have := (HY.out rfl).1; omega
            have hnn : nn ≤ 2200 := by have := HRG.out nn (HY.out rfl).2.1; have := hhi.out; omega
            obtain ⟨W3, hclr, hV3, hO3, hB3⟩ := clear_run f hf6 HV2.out
            have HL3 := Lib.hid (hO3 w.heap.size _ _ (by omega) HL2.out)
            have HR3 := Lib.hid (hO3 (w.heap.size + 1 + 1) _ _ (by omega) HR2.out)
            have HB3 := Lib.hid (hB3 w.heap.size w (by omega) HB2.out)
            have HV3 := Lib.hid hV3
            clear hV3 hO3 hB3
            have hcu := set_cell hf6 HV3.out
            have hfz := HV3.out.frozen f
            have HN := Lib.hid (Adv.later HM.out hA.out hf6 hlt hnn (HY.out rfl).2.1 (HY.out rfl).2.2)
            have HV4 := Lib.hid (blk_put f hf6 HV3.out nn)
            have HL4 := Lib.hid (HL3.out.setOther (a := ⟨w.heap.size + 1, f, none⟩) (by simp) (.int .i64 nn))
            have HR4 := Lib.hid (HR3.out.setOther (a := ⟨w.heap.size + 1, f, none⟩) (by simp) (.int .i64 nn))
            have HB4 := Lib.hid (HB3.out.setCell (p := ⟨w.heap.size + 1, f, none⟩) (by simp) (.int .i64 nn))
            have HFAR := Lib.hid (set_far hf6 hA.out.bd HN.out.bd hlt)
            have HF0 := Lib.hid (farIn_eq hV.out)
            have HF1 := Lib.hid (farIn_eq HV4.out)
            have u3 : (0 : Nat) ≤ 3 := Nat.zero_le _
            have g2 : (f : Int) ≤ 6 := by omega
            clear ce
            go_wp2_with fail
            go_roundw
            case rel => exact ⟨f + 1, _, by omega, by go_num, HN, HL4, HV4, HR4, HB4⟩
            case measure => rw [HF0.out, HF1.out]; have := HFAR.out; simp [intOf]; omega
    · obtain rfl : f = 6 := by omega
      have HG := Lib.hid (Six.upto_all hA.out.ahead)
      have HGE := Lib.hid hA.out.ge
      have HLE := Lib.hid hA.out.least
      have c0 := HBL.out wr (w.heap.size + 1) _ 0 v (by omega) hV.out
      have c1 := HBL.out wr (w.heap.size + 1) _ 1 v (by omega) hV.out
      have c2 := HBL.out wr (w.heap.size + 1) _ 2 v (by omega) hV.out
      have c3 := HBL.out wr (w.heap.size + 1) _ 3 v (by omega) hV.out
      have c4 := HBL.out wr (w.heap.size + 1) _ 4 v (by omega) hV.out
      have c5 := HBL.out wr (w.heap.size + 1) _ 5 v (by omega) hV.out
      have HBR := Lib.hid (below_setRow hb.out (show w.heap.size ≤ w.heap.size + 1 + 1 by omega) v.cells)
      have HRR := Lib.hid (hR.out.row v.cells)
      clear hf hf6
      go_wp2_with (refine wpList_store_row rfl 43 (.tmp 4) (.tmp 54) (by rfl) (w.heap.size + 1 + 1) v.cells (by rfl) (by rfl) 43 zero6 hR.out (by kernel_rfl) rfl (cells_all v) ?_)
      exact bodyPost_ret (results_cell_tmp (p := 4) (q := 5) rfl _ _ (w.heap.size + 1 + 1) 43 v.cells _ _ rfl rfl HRR.out Tryz.underlying43 rfl (by kernel_rfl)) rfl ⟨.inl ⟨v, rfl, HG.out, HGE.out, HLE.out⟩, HBR.out⟩
end Go.Proofs.YtncolcjejgmhjaaGreatDoor
