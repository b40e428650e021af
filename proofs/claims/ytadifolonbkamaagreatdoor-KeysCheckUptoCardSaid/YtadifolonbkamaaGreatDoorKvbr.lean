/- The walk of the document's Env. -/
import Derived.Test.YtadifolonbkamaaGreatDoorKvbq
import Derived.Deep.RegionHeld3
namespace Go.Proofs.YtadifolonbkamaaGreatDoor
open Go.RowKit
theorem pairInfoD : (Tryz.prog.info? 91).map (fun i => (i.zero, i.size, i.bytes)) = some (some (.agg #[.string ⟨#[]⟩, .string ⟨#[]⟩]), 2, 32) := by kernel_rfl
theorem env_def (s : ByteArray) {ws : List (List UInt8)} {er : Nat} (h : Wd.splitW s.data.toList = (ws, er)) : envS s = (decide (er = 0) && (!decide (ws = []) && !ws.any noAsgL)) := by
  unfold envS; rw [h]
theorem any_takeE {α : Type} {l : List α} {p : α → Bool} {k : Nat} {x : α} (h : (l.take k).any p = false) (hx : l[k]? = some x) (hp : p x = false) : (l.take (k + 1)).any p = false := (any_takeV h hx).2 hp
set_option maxRecDepth 100000 in
set_option maxHeartbeats 8000000 in
theorem Env_any (s : ByteArray) (hs : s.size ≤ 1048576) (w : World) :
    Calls Tryz.prog 36 #[.string s] w (SayP (envS s) w) := by
  obtain ⟨i0, hi, hz0, hz1, hz2⟩ := info_parts pairInfoD
  go_enter Tryz.func36, Tryz.ntmps36
  go_wp2_with fail
  refine (Wd.rSplit_any s hs _).mono ?_
  rintro e w1 ⟨A, n, c, rfl, hnc, hn32, hrow, hb1⟩
  obtain ⟨⟨ws, er⟩, hsp⟩ : ∃ p, Wd.splitW s.data.toList = p := ⟨_, rfl⟩
  have HE := Lib.hid (env_def s hsp)
  have hwl : ∀ x ∈ ws, x.length ≤ 1048576 := fun x hx => by
    by_cases h0 : (Wd.splitW s.data.toList).2 = 0
    · have h1 := Wd.split_mem_le _ h0 x (by rw [hsp]; exact hx)
      rw [size_list] at h1; omega
    · have h1 := (Wd.split_err h0).1
      rw [hsp] at h1
      dsimp only at h1
      rw [h1] at hx
      simp at hx
  rw [hsp] at hrow
  rw [hsp]
  dsimp only at hrow
  have hn := hrow.1
  have hr1 : RowAt w1 w1.heap.size A n ws := hrow
  have HW := Lib.hid hr1
  have HWL := Lib.hid hwl
  have HB1 := Lib.hid hb1
  have hz1' := hb1.size
  have HN0 : Hid ((ws.take 0).any noAsgL = false) := rfl
  clear hsp hrow hr1 hwl hb1
  go_wp2_with fail
  go_loopw [6, 17] (fun v i wr => ∃ (vv : Value) (k : Nat) (xs : List Value), vv = v ∧ k ≤ n ∧ i = .int .i64 k ∧ Hid (wr.ownsRow w1.heap.size 91 2 v k xs) ∧ Hid ((ws.take k).any noAsgL = false) ∧ Hid (Below w1.heap.size w1 wr)) (fun v i wr => n - (intOf i).toNat)
  case atStart => exact ⟨_, 0, [], rfl, Nat.zero_le _, rfl, World.ownsRow_nil _ _ _ _, HN0, Below.refl _ _⟩
  case round =>
    obtain ⟨v, k, xs, rfl, hk, rfl, hO, hN, hB⟩ := hrel
    obtain ⟨wo, rfl⟩ : ∃ wo : World, wo = wr := ⟨_, rfl⟩
    have b0 : (0 : Int) ≤ (k : Int) := by omega
    have hwo : w1.heap.size ≤ wo.heap.size := hB.out.size
    by_cases hlt : k < n
    · have b1 : (k : Int) < (n : Int) := by omega
      obtain ⟨ad, x, rfl, hadB, hx, hc⟩ := (HW.out.below hB.out).at_ hlt
      have hxl := HWL.out x (List.mem_of_getElem? hx)
      have hxs : (str x).size ≤ 1048576 := by rw [str_size]; exact hxl
      have HX := Lib.hid hx
      have hne : ws ≠ [] := by intro h; rw [h] at hx; simp at hx
      have HNE := Lib.hid hne
      clear hx hne
      have hno : noAsgL x = (!cutF 61 (str x) || !isVarS (cutA 61 (str x))) := rfl
      rcases hcf : cutF 61 (str x) with _ | _
      · have HE0 := Lib.hid (eq_no hcf)
        have HF : Hid (envS s = false) := by
          show _ = _
          rw [HE.out]
          have : ws.any noAsgL = true := List.any_eq_true.2 ⟨x, List.mem_of_getElem? HX.out, by rw [hno, hcf]; rfl⟩
          rw [this]; simp
        clear hno hcf
        go_wp2_with fail
        refine (equals_any (str x) (by unfold maxLen; omega) _).mono ?_
        rintro e w2 ⟨rfl, rfl⟩
        rw [HE0.out]
        go_wp2_with fail
        go_ret2
        exact SayP.of HF.out (HB1.out.trans (hB.out.mono hz1'))
      · obtain ⟨m, hm, hm1, hmx⟩ := eq_yes hcf
        have HE0 := Lib.hid hm
        have HMX := Lib.hid hmx
        have m0 : (0 : Int) ≤ (m : Int) := by omega
        have m1 : (m : Int) ≤ ((str x).size : Int) := by omega
        have m2 : (0 : Int) ≤ (m : Int) + 1 := by omega
        have m3 : (m : Int) + 1 ≤ ((str x).size : Int) := by omega
        have hwr : IntKind.i64.wrap ((m : Int) + 1) = (m : Int) + 1 := IntWalk.i64_in _ (by omega)
        have hv : isVarS ((str x).extract 0 m) = isVarS (cutA 61 (str x)) := by rw [hmx]
        have hnx : noAsgL x = !isVarS ((str x).extract 0 m) := by rw [hno, hcf, hv]; simp
        clear hno hcf hm hmx hv
        rcases hiv : isVarS ((str x).extract 0 m) with _ | _
        · have HF : Hid (envS s = false) := by
            show _ = _
            rw [HE.out]
            have : ws.any noAsgL = true := List.any_eq_true.2 ⟨x, List.mem_of_getElem? HX.out, by rw [hnx, hiv]; rfl⟩
            rw [this]; simp
          have HV := Lib.hid (fun W => VarName_any ((str x).extract 0 m) W)
          rw [varX_isVar, hiv] at HV
          clear hnx hiv
          go_wp2_with fail
          refine (equals_any (str x) (by unfold maxLen; omega) _).mono ?_
          rintro e w2 ⟨rfl, rfl⟩
          rw [HE0.out]
          go_wp2_with fail
          refine (HV.out _).mono ?_
          rintro e w3 ⟨rfl, rfl⟩
          go_wp2_with fail
          go_ret2
          exact SayP.of HF.out (HB1.out.trans (hB.out.mono hz1'))
        · have HNN : Hid ((ws.take (k + 1)).any noAsgL = false) := any_takeE hN.out HX.out (by rw [hnx, hiv]; rfl)
          have HV := Lib.hid (fun W => VarName_any ((str x).extract 0 m) W)
          rw [varX_isVar, hiv] at HV
          clear hnx hiv
          go_wp2_with fail
          refine (equals_any (str x) (by unfold maxLen; omega) _).mono ?_
          rintro e w2 ⟨rfl, rfl⟩
          rw [HE0.out]
          go_wp2_with fail
          refine (HV.out _).mono ?_
          rintro e w3 ⟨rfl, rfl⟩
          go_wp2_with fail
          refine wp_region_held_drew (S := fun W => Below w1.heap.size w1 W) (by kernel_rfl) ?_ (fun hHeld => ?_)
          · exact hB.out.drew
          refine wpAnyH_take (i := 0) (v := ?v0) rfl (by kernel_rfl) (by kernel_rfl) (by kernel_rfl) (fun _ _ _ h => h) (Or.inl ⟨by rfl, ?hf0⟩) (by assumption) ?_
          case hf0 => (intro W hSw; (try dsimp only at hSw); go_simp; (try with_reducible rfl))
          try simp only [Act.put, List.getElem_toArray, List.getElem_cons_zero, List.setIfInBounds_toArray, List.set_cons_zero, List.set_cons_succ]
          refine wpAnyH_take (i := 1) (v := ?v1) rfl (by kernel_rfl) (by kernel_rfl) (by kernel_rfl) (fun _ _ _ h => h) (Or.inl ⟨by rfl, ?hf1⟩) (by assumption) ?_
          case hf1 => (intro W hSw; (try dsimp only at hSw); go_simp; (try with_reducible rfl))
          try simp only [Act.put, List.getElem_toArray, List.getElem_cons_zero, List.getElem_cons_succ, List.setIfInBounds_toArray, List.set_cons_zero, List.set_cons_succ]
          refine wpAnyH_take (i := 2) (v := ?v2) rfl (by kernel_rfl) (by kernel_rfl) (by kernel_rfl) (fun _ _ _ h => h) (Or.inl ⟨by rfl, ?hf2⟩) (by assumption) ?_
          case hf2 => (intro W hSw; (try dsimp only at hSw); go_simp; (try with_reducible rfl))
          try simp only [Act.put, List.getElem_toArray, List.getElem_cons_zero, List.getElem_cons_succ, List.setIfInBounds_toArray, List.set_cons_zero, List.set_cons_succ]
          refine wpAnyH_take (i := 3) (v := ?v3) rfl (by kernel_rfl) (by kernel_rfl) (by kernel_rfl) (fun _ _ _ h => h) (Or.inl ⟨by rfl, ?hf3⟩) (by assumption) ?_
          case hf3 => (intro W hSw; (try dsimp only at hSw); go_simp; (try with_reducible rfl))
          try simp only [Act.put, List.getElem_toArray, List.getElem_cons_zero, List.getElem_cons_succ, List.setIfInBounds_toArray, List.set_cons_zero, List.set_cons_succ]
          refine wpAnyH_take (i := 4) (v := ?v4) rfl (by kernel_rfl) (by kernel_rfl) (by kernel_rfl) (fun _ _ _ h => h) (Or.inl ⟨by rfl, ?hf4⟩) (by assumption) ?_
          case hf4 => (intro W hSw; (try dsimp only at hSw); go_simp; (try with_reducible rfl))
          try simp only [Act.put, List.getElem_toArray, List.getElem_cons_zero, List.getElem_cons_succ, List.setIfInBounds_toArray, List.set_cons_zero, List.set_cons_succ]
          refine wpAnyH_take (i := 5) (v := ?v5) rfl (by kernel_rfl) (by kernel_rfl) (by kernel_rfl) (fun _ _ _ h => h) (Or.inl ⟨by rfl, ?hf5⟩) (by assumption) ?_
          case hf5 => (intro W hSw; (try dsimp only at hSw); go_simp; (try with_reducible rfl))
          try simp only [Act.put, List.getElem_toArray, List.getElem_cons_zero, List.getElem_cons_succ, List.setIfInBounds_toArray, List.set_cons_zero, List.set_cons_succ]
          refine wpAnyH_take (i := 6) (v := ?v6) rfl (by kernel_rfl) (by kernel_rfl) (by kernel_rfl) (fun _ _ _ h => h) (Or.inl ⟨by rfl, ?hf6⟩) (by assumption) ?_
          case hf6 => (intro W hSw; (try dsimp only at hSw); go_simp; (try with_reducible rfl))
          try simp only [Act.put, List.getElem_toArray, List.getElem_cons_zero, List.getElem_cons_succ, List.setIfInBounds_toArray, List.set_cons_zero, List.set_cons_succ]
          refine wpAnyH_take (i := 7) (v := ?v7) rfl (by kernel_rfl) (by kernel_rfl) (by kernel_rfl) (fun _ _ _ h => h) (Or.inl ⟨by rfl, ?hf7⟩) (by assumption) ?_
          case hf7 => (intro W hSw; (try dsimp only at hSw); go_simp; (try with_reducible rfl))
          try simp only [Act.put, List.getElem_toArray, List.getElem_cons_zero, List.getElem_cons_succ, List.setIfInBounds_toArray, List.set_cons_zero, List.set_cons_succ]
          refine wpAnyH_take (i := 8) (v := ?v8) rfl (by kernel_rfl) (by kernel_rfl) (by kernel_rfl) (fun _ _ _ h => h) (Or.inl ⟨by rfl, ?hf8⟩) (by assumption) ?_
          case hf8 => (intro W hSw; (try dsimp only at hSw); go_simp; (try with_reducible rfl))
          try simp only [Act.put, List.getElem_toArray, List.getElem_cons_zero, List.getElem_cons_succ, List.setIfInBounds_toArray, List.set_cons_zero, List.set_cons_succ]
          refine wpAnyH_ready (rs := [9]) (by kernel_rfl) (by simp) ?_
          refine AllReadyH.cons rfl (fun K hK => ?_) AllReadyH.nil
          go_simp
          have HQ : Hid (Below w1.heap.size w1 (wo.alloc (.cells #[.string ((str x).extract 0 m), .string ((str x).extract (m + 1) (str x).size)] 91)).drew) := (hB.out.alloc hwo _).drew
          have HOq : Hid ((wo.alloc (.cells #[.string ((str x).extract 0 m), .string ((str x).extract (m + 1) (str x).size)] 91)).drew.ownsRow w1.heap.size 91 2 v k xs) := hO.out.alloc _
          have HNq : Hid (Blk (wo.alloc (.cells #[.string ((str x).extract 0 m), .string ((str x).extract (m + 1) (str x).size)] 91)).drew wo.heap.size 91 #[.string ((str x).extract 0 m), .string ((str x).extract (m + 1) (str x).size)]) := Blk.new wo _ _
          generalize (wo.alloc (.cells #[.string ((str x).extract 0 m), .string ((str x).extract (m + 1) (str x).size)] 91)).drew = wz at *
          refine hK.out _ _ HQ.out (fun hHeld2 => ?_)
          clear hK K hHeld
          have hHeld := hHeld2
          clear hHeld2
          try simp only [Act.put, List.getElem_toArray, List.getElem_cons_zero, List.getElem_cons_succ, List.setIfInBounds_toArray, List.set_cons_zero, List.set_cons_succ]
          refine wpAnyH_ready (rs := [10]) (by kernel_rfl) (by simp) ?_
          refine AllReadyH.cons rfl (fun K hK => ?_) AllReadyH.nil
          refine wp_append_own _ _ _ 70 (by rfl) w1.heap.size 91 i0 _ 2 32 Tryz.underlying70 hi hz0 hz1 hz2 rfl (by decide) v k xs (by rfl) HOq.out ⟨wo.heap.size, 0, none⟩ 1 1 [.string ((str x).extract 0 m), .string ((str x).extract (m + 1) (str x).size)] (by rfl) rfl ?n1 ?n2 (by unfold maxLen; omega) (by omega) HQ.out.size ?_
          case n1 =>
            intro j u hj
            have e : (⟨wo.heap.size, 0, none⟩ : Addr).add j = ⟨wo.heap.size, j, none⟩ := by unfold Addr.add; split <;> simp_all
            rw [e, HNq.out.cell j]
            simpa using hj
          case n2 => intro u hu; simp at hu; rcases hu with rfl | rfl <;> rfl
          intro v' w4 hown hgrow _
          have HB4 : Hid (Below w1.heap.size w1 w4) := HQ.out.grown hgrow HQ.out.size (fun g hg => (HOq.out.lt g hg).1)
          have HO4 := Lib.hid hown
          refine hK.out _ _ HB4.out (fun hHeld2 => ?_)
          clear hK K hHeld hown hgrow
          have hHeld := hHeld2
          clear hHeld2
          try simp only [Act.put, List.getElem_toArray, List.getElem_cons_zero, List.getElem_cons_succ, List.setIfInBounds_toArray, List.set_cons_zero, List.set_cons_succ]
          refine wpAnyH_take (i := 11) (v := ?v11) rfl (by kernel_rfl) (by kernel_rfl) (by kernel_rfl) (fun _ _ _ h => h) (Or.inl ⟨by rfl, ?hf11⟩) (by assumption) ?_
          case hf11 => (intro W hSw; (try dsimp only at hSw); go_simp; (try with_reducible rfl))
          try simp only [Act.put, List.getElem_toArray, List.getElem_cons_zero, List.getElem_cons_succ, List.setIfInBounds_toArray, List.set_cons_zero, List.set_cons_succ]
          refine wpAnyH_done (by kernel_rfl) ?_ _
          go_wp2_with fail
          go_roundw
          case rel => exact ⟨_, k + 1, _, rfl, by omega, by go_num, HO4, HNN, HB4⟩
          case measure => simp [intOf]; omega
    · obtain rfl : k = n := by omega
      have HNA : Hid (ws.any noAsgL = false) := by
        have := hN.out
        rwa [List.take_of_length_le (by omega)] at this
      obtain ⟨A2, n2, c2, rfl⟩ : ∃ A nv cv, v = .slice A nv cv := by
        rcases hO.out.2 with ⟨hv, _⟩ | ⟨g, cap, cur, hv, _⟩
        · exact ⟨_, _, _, hv⟩
        · exact ⟨_, _, _, hv⟩
      have hn2 : n2 = k := by
        rcases hO.out.2 with ⟨hv, h0⟩ | ⟨g, cap, cur, hv, _⟩
        · injection hv with _ h _; omega
        · injection hv with _ h _
      subst hn2
      have HBz := Lib.hid (HB1.out.trans (hB.out.mono hz1'))
      by_cases he : er = 0
      · subst he
        have e5 : (((0 : Nat) : Int) == 0) = true := rfl
        by_cases h0 : n2 = 0
        · have HF : Hid (envS s = false) := by
            show _ = _
            rw [HE.out, show ws = [] from List.length_eq_zero_iff.1 (by omega)]; simp
          have e6 : ((n2 : Int)) ≤ 0 := by omega
          clear h0 hlt
          go_wp2_with fail
          go_ret2
          exact SayP.of (HF.out.trans (decide_eq_false (by omega)).symm) HBz.out
        · have HF : Hid (envS s = true) := by
            show _ = _
            have : ws ≠ [] := fun h => h0 (by rw [h] at hn; simpa using hn.symm)
            rw [HE.out, HNA.out]; simp [this]
          have e6 : (0 : Int) < (n2 : Int) := by omega
          clear h0 hlt
          go_wp2_with fail
          go_ret2
          exact SayP.of (HF.out.trans (decide_eq_true (by omega)).symm) HBz.out
      · have HF : Hid (envS s = false) := by show _ = _; rw [HE.out]; simp [he]
        have e5 : ((er : Int) == 0) = false := by simp; omega
        clear he hlt
        go_wp2_with fail
        go_ret2
        exact SayP.of HF.out HBz.out
end Go.Proofs.YtadifolonbkamaaGreatDoor
