/- The walk of the developers' Match. -/
import Derived.Test.YtncolcjejgmhjaaGreatDoorCxas
namespace Go.Proofs.YtncolcjejgmhjaaGreatDoor
open Go.RowKit
theorem sixOf_at_bd {t : Int} (h : isT t = true) {f : Nat} (hf : f < 6) : 0 ≤ (sixOf t).at f ∧ (sixOf t).at f ≤ 2200 := by
  obtain ⟨a0, a1, b0, b1, c0, c1, d0, d1, e0, e1, f0, f1⟩ := six_bd h
  rcases six_f hf with rfl | rfl | rfl | rfl | rfl | rfl <;> exact ⟨by assumption, by assumption⟩
theorem cells6 {w : World} {g : Nat} {t : TypeId} {v : Six} (H : Blk w g t #[.int .i64 v.y, .int .i64 v.m, .int .i64 v.d, .int .i64 v.h, .int .i64 v.i, .int .i64 v.s]) {f : Nat} (hf : f < 6) : w.cell? ⟨g, f, none⟩ = some (.int .i64 (v.at f)) := by
  rcases six_f hf with rfl | rfl | rfl | rfl | rfl | rfl <;> exact H.cell _
theorem nums_bad {l : Cl} {t : Int} {f : Nat} (hf : f < 6) (h : inF f (l.fld f) ((sixOf t).at f) = false) : numsB l t = false := by
  rw [← Bool.not_eq_true, numsB_good]
  intro hg
  rw [hg.at_ hf] at h; cases h
theorem nums_all {l : Cl} {t : Int} (h : (sixOf t).upto l 6) : numsB l t = true := (numsB_good l t).2 (Six.upto_all h)
theorem CalAt.at_ {w w' : World} {c : Ch} {l : Cl} (h : CalAt w w.heap.size c l) (hb : Below w.heap.size w w') : CalAt w' w'.heap.size c l :=
  ⟨(h.1.below hb).wide hb.size, fun f => ((h.2 f).below hb).wide hb.size⟩
theorem ne_of_in {f : Nat} {l : List Pt} {n : Int} (h : mayF f l = true) (hn : inF f l n = false) (hb : lfB f l n = true) : lfN f l n ≠ n := by
  intro e
  rw [lf_in h, hb, decide_eq_true e] at hn; cases hn
theorem eq_of_in {f : Nat} {l : List Pt} {n : Int} (h : mayF f l = true) (hn : inF f l n = true) : lfB f l n = true ∧ lfN f l n = n := by
  rw [lf_in h, Bool.and_eq_true, decide_eq_true_iff] at hn
  exact hn
set_option maxHeartbeats 8000000 in
theorem Match_any (c : Ch) (l : Cl) (t : Int) (w : World) (ht : Tabs w) (hc : CalAt w w.heap.size c l) :
    Calls Tryz.prog 13 #[.agg c.cells, .int .i64 t] w fun e w' => e = .returned (.bool (matchB l t)) ∧ Below w.heap.size w w' := by
  have HC := Lib.hid hc
  have HT := Lib.hid ht
  have HMB : Hid (matchB l t = (mayC l && (isT t && (dayB l.ds (fW t) && numsB l t)))) := rfl
  have HLi := Lib.hid (fun W => lists_any c W)
  have HMy := Lib.hid (fun W h1 h2 => May_any c l W h1 h2)
  have HIx := Lib.hid (run_index_six c)
  clear hc ht
  have HNd := Lib.hid (fun f hf => nums_bad (l := l) (t := t) (f := f) hf)
  have HNa := Lib.hid (nums_all (l := l) (t := t))
  have HSb := Lib.hid (fun h f hf => sixOf_at_bd (t := t) h (f := f) hf)
  have HOf := Lib.hid (fun W => Of_any t W)
  have HSX : Hid (sixOf t = ⟨fY t, fM t, fD t, fH t, fI t, fS t⟩) := rfl
  generalize sixOf t = v at *
  generalize c.six = SX at HLi HIx
  obtain ⟨⟨dA, dn, dc⟩, y, m, t', h, i, s⟩ := c
  have HD : Hid (IntsAt w w.heap.size dA dn l.ds) := HC.out.1
  unfold Ch.cells at HLi HMy ⊢
  dsimp only at HLi HMy ⊢
  go_enter Tryz.func13, Tryz.ntmps13
  go_wp2_with fail
  refine (HOf.out _).mono ?_
  rintro e w1 ⟨rfl, hb1⟩
  rcases hT : isT t with _ | _
  · have HB1 := Lib.hid ((more3 ((Below.refl w.heap.size w).alloc (Nat.le_refl _) _) (by simp) hb1).alloc (by have := hb1.size; simp at this; omega) (.cells #[.int .i64 (fY t), .int .i64 (fM t), .int .i64 (fD t), .int .i64 (fH t), .int .i64 (fI t), .int .i64 (fS t), .int .i64 (fW t)] 39))
    have HR : Hid (matchB l t = false) := by show _ = _; rw [HMB.out, hT]; simp
    clear hb1 hT
    go_wp2_with fail
    go_ret
    exact ⟨ret_bool HR.out.symm, HB1.out⟩
  have HTT := Lib.hid hT
  have hzz : w.heap.size < w1.heap.size := by have := hb1.size; simp at this; omega
  have HC1 : Hid (Blk (w1.alloc (.cells #[.int .i64 (fY t), .int .i64 (fM t), .int .i64 (fD t), .int .i64 (fH t), .int .i64 (fI t), .int .i64 (fS t), .int .i64 (fW t)] 39)) w.heap.size 25 #[.slice dA dn dc, .slice y.A y.n y.c, .slice m.A m.n m.c, .slice t'.A t'.n t'.c, .slice h.A h.n h.c, .slice i.A i.n i.c, .slice s.A s.n s.c]) := ((Blk.new w _ _).below hb1 (by simp)).alloc _
  have HD1 : Hid (Blk (w1.alloc (.cells #[.int .i64 (fY t), .int .i64 (fM t), .int .i64 (fD t), .int .i64 (fH t), .int .i64 (fI t), .int .i64 (fS t), .int .i64 (fW t)] 39)) w1.heap.size 39 #[.int .i64 (fY t), .int .i64 (fM t), .int .i64 (fD t), .int .i64 (fH t), .int .i64 (fI t), .int .i64 (fS t), .int .i64 (fW t)]) := Blk.new w1 _ _
  have HB1 := Lib.hid ((more3 ((Below.refl w.heap.size w).alloc (Nat.le_refl _) _) (by simp) hb1).alloc (by omega) (.cells #[.int .i64 (fY t), .int .i64 (fM t), .int .i64 (fD t), .int .i64 (fH t), .int .i64 (fI t), .int .i64 (fS t), .int .i64 (fW t)] 39))
  clear hb1 hT
  obtain ⟨c0, c1, c2, c3, c4, c5, c6⟩ := cells7c HC1.out
  go_wp2_with fail
  refine (HMy.out _ (HT.out.below HB1.out) (HC.out.at_ HB1.out)).mono ?_
  rintro e w2 ⟨rfl, hb2⟩
  have HC2 := Lib.hid (HC1.out.below hb2 HC1.out.lt)
  have HD2 := Lib.hid (HD1.out.below hb2 HD1.out.lt)
  have HB2 := Lib.hid (more3 HB1.out HB1.out.size hb2)
  clear hb2 c0 c1 c2 c3 c4 c5 c6
  rcases hM : mayC l with _ | _
  · have HR : Hid (matchB l t = false) := by show _ = _; rw [HMB.out, hM]; rfl
    clear hM
    go_wp2_with fail
    go_ret
    exact ⟨ret_bool HR.out.symm, HB2.out⟩
  have HMM := Lib.hid hM
  clear hM
  obtain ⟨c0, c1, c2, c3, c4, c5, c6⟩ := cells7c HC2.out
  obtain ⟨d0, d1, d2, d3, d4, d5, d6⟩ := cells7c HD2.out
  go_wp2_with fail
  refine (calHasDay_any dA dn dc l.ds (fW t) _ w.heap.size (HD.out.below HB2.out)).mono ?_
  rintro e w3 ⟨rfl, rfl⟩
  rcases hDy : dayB l.ds (fW t) with _ | _
  · have HR : Hid (matchB l t = false) := by show _ = _; rw [HMB.out, hDy, HTT.out]; simp
    clear hDy
    go_wp2_with fail
    go_ret
    exact ⟨ret_bool HR.out.symm, HB2.out⟩
  have HRR : Hid (matchB l t = numsB l t) := by show _ = _; rw [HMB.out, hDy, HTT.out, HMM.out]; rfl
  clear hDy
  go_wp2_with fail
  refine (numbersOf_any _ _ _ _ _ _ _ _).mono ?_
  rintro e w4 ⟨rfl, hb4⟩
  have hz4 : w.heap.size < w4.heap.size := Nat.lt_of_lt_of_le HC2.out.lt hb4.size
  have HC4 : Hid (Blk (w4.alloc (.cells #[.int .i64 v.y, .int .i64 v.m, .int .i64 v.d, .int .i64 v.h, .int .i64 v.i, .int .i64 v.s] 43)) w.heap.size 25 #[.slice dA dn dc, .slice y.A y.n y.c, .slice m.A m.n m.c, .slice t'.A t'.n t'.c, .slice h.A h.n h.c, .slice i.A i.n i.c, .slice s.A s.n s.c]) := (HC2.out.below hb4 HC2.out.lt).alloc _
  have HN4 : Hid (Blk (w4.alloc (.cells #[.int .i64 v.y, .int .i64 v.m, .int .i64 v.d, .int .i64 v.h, .int .i64 v.i, .int .i64 v.s] 43)) w4.heap.size 43 #[.int .i64 v.y, .int .i64 v.m, .int .i64 v.d, .int .i64 v.h, .int .i64 v.i, .int .i64 v.s]) := Blk.new w4 _ _
  have HB4 := Lib.hid ((more3 HB2.out HB2.out.size hb4).alloc (by omega) (.cells #[.int .i64 v.y, .int .i64 v.m, .int .i64 v.d, .int .i64 v.h, .int .i64 v.i, .int .i64 v.s] 43))
  clear hb4 c0 c1 c2 c3 c4 c5 c6 d0 d1 d2 d3 d4 d5 d6
  have HV : Hid (fY t = v.y ∧ fM t = v.m ∧ fD t = v.d ∧ fH t = v.h ∧ fI t = v.i ∧ fS t = v.s) := by
    show _ ∧ _
    rw [HSX.out]; exact ⟨rfl, rfl, rfl, rfl, rfl, rfl⟩
  rw [HV.out.1, HV.out.2.1, HV.out.2.2.1, HV.out.2.2.2.1, HV.out.2.2.2.2.1, HV.out.2.2.2.2.2]
  obtain ⟨c0, c1, c2, c3, c4, c5, c6⟩ := cells7c HC4.out
  go_wp2_with fail
  refine (HLi.out _).mono ?_
  rintro e w5 ⟨rfl, hb5⟩
  have HN5 := Lib.hid (HN4.out.below hb5 HN4.out.lt)
  have HB5 := Lib.hid (more3 HB4.out HB4.out.size hb5)
  clear hb5 c0 c1 c2 c3 c4 c5 c6
  go_wp2_with fail
  generalize w4.heap.size = bn at *
  go_loopw [36] (fun x wr => ∃ f : Nat, f ≤ 6 ∧ x = .int .i64 f ∧ Hid (v.upto l f) ∧ Hid (Blk wr bn 43 #[.int .i64 v.y, .int .i64 v.m, .int .i64 v.d, .int .i64 v.h, .int .i64 v.i, .int .i64 v.s]) ∧ Hid (Below w.heap.size w wr)) (fun x wr => (6 - intOf x).toNat)
  case atStart => exact ⟨0, by omega, rfl, fun j hj => absurd hj (by omega), HN5, HB5⟩
  case round =>
    obtain ⟨f, hf, rfl, hup, hN, hb⟩ := hrel
    by_cases hf6 : f < 6
    · have hf5 : f ≤ 5 := by omega
      have f0 : (0 : Int) ≤ (f : Int) := by omega
      have f6 : (f : Int) < 6 := by omega
      have hix := HIx.out f hf5
      have HP := Lib.hid (HC.out.2 f)
      generalize Ch.fsl ⟨⟨dA, dn, dc⟩, y, m, t', h, i, s⟩ f = S at HP hix
      obtain ⟨A, n, cc⟩ := S
      dsimp only at hix
      have HP : Hid (PtsAt w w.heap.size A n (l.fld f)) := HP
      have HF := Lib.hid (mayC_fld HMM.out hf6)
      obtain ⟨v0, v1⟩ := HSb.out HTT.out f hf6
      have hcell := cells6 hN.out hf6
      have HNf := Lib.hid (HNd.out f hf6)
      have HNe := Lib.hid (ne_of_in (f := f) (l := l.fld f) (n := v.at f) HF.out)
      have HEq := Lib.hid (eq_of_in (f := f) (l := l.fld f) (n := v.at f) HF.out)
      have HUP : Hid (inF f (l.fld f) (v.at f) = true → v.upto l (f + 1)) := fun hi j hj h6 => by
        by_cases e : j = f
        · rw [e]; exact hi
        · exact hup.out j (by omega) h6
      have HLN : Hid (lfB f (l.fld f) (v.at f) = false → inF f (l.fld f) (v.at f) = false) := fun hb => by rw [lf_in HF.out, hb]; rfl
      have HCX : Hid (∀ w' : World, Blk w' bn 43 #[.int .i64 v.y, .int .i64 v.m, .int .i64 v.d, .int .i64 v.h, .int .i64 v.i, .int .i64 v.s] → w'.cell? ⟨bn, f, none⟩ = some (.int .i64 (v.at f))) := fun w' h => cells6 h hf6
      have HLF := Lib.hid (fun W h1 h2 => leastFrom_any A n cc f (l.fld f) (v.at f) hf5 HF.out v0 (by omega) W h1 h2)
      generalize inF f (l.fld f) (v.at f) = inn at *
      generalize lfN f (l.fld f) (v.at f) = nn at *
      generalize lfB f (l.fld f) (v.at f) = bb at *
      generalize v.at f = x at *
      go_wp2_with fail
      refine (HLF.out _ (HT.out.below hb.out) ((HP.out.below hb.out).wide hb.out.size)).mono ?_
      rintro e w6 ⟨rfl, hb6⟩
      have HN6 := Lib.hid (hN.out.below hb6 hN.out.lt)
      have HB6 := Lib.hid (more3 hb.out hb.out.size hb6)
      clear hb6 hcell
      have hcell := HCX.out _ HN6.out
      rcases bb with _ | _
      · have HR : Hid (matchB l t = false) := by show _ = _; rw [HRR.out]; exact HNf.out (HLN.out rfl)
        go_wp2_with fail
        go_ret
        exact ⟨ret_bool HR.out.symm, HB6.out⟩
      · by_cases ce : nn = x
        · have ce' : (nn == x) = true := by simp [ce]
          have ce2 : (nn != x) = false := by simp [ce]
          have HI : Hid (inn = true) := by
            cases hi : inn with
            | true => rfl
            | false => exact absurd ce (HNe.out hi rfl)
          have HU := Lib.hid (HUP.out HI.out)
          clear ce
          go_wp2_with fail
          go_roundw
          case rel => exact ⟨f + 1, by omega, by go_num, HU, HN6, HB6⟩
          case measure => simp [intOf]; omega
        · have ce' : (nn == x) = false := by simpa using ce
          have ce2 : (nn != x) = true := by simpa using ce
          have HI : Hid (inn = false) := by
            cases hi : inn with
            | false => rfl
            | true => exact absurd (HEq.out hi).2 ce
          have HR : Hid (matchB l t = false) := by show _ = _; rw [HRR.out]; exact HNf.out HI.out
          have u1 : (0 : Nat) ≤ 1 := Nat.zero_le _
          clear ce
          go_wp2_with fail
          go_ret
          exact ⟨ret_bool HR.out.symm, HB6.out⟩
    · obtain rfl : f = 6 := by omega
      have HR : Hid (matchB l t = true) := by show _ = _; rw [HRR.out]; exact HNa.out hup.out
      clear hf hf6
      go_wp2_with fail
      go_ret
      exact ⟨ret_bool HR.out.symm, hb.out⟩
end Go.Proofs.YtncolcjejgmhjaaGreatDoor
