/- The walk of package disk's isSound. -/
import Derived.Test.YthodbeeglkedcaaGreatDzbh
namespace Go.Proofs.YthodbeeglkedcaaGreat
open Go.RowKit
def FiS (w : World) (x : Fi) (W : World) : Prop := Blk W w.heap.size 34 (fiA x) ∧ Below w.heap.size w W
theorem FiS.call {w W W' : World} {x : Fi} (h : FiS w x W) (hb : Below W.heap.size W W') : FiS w x W' := ⟨h.1.below hb h.1.lt, more3 h.2 h.2.size hb⟩
set_option maxHeartbeats 8000000 in
theorem isSound_any (x : Fi) (hs : SizeF x) (w : World) :
    Calls Tryz.prog 26 #[.agg #[.string (str x.p), .string (str x.t), .string (str x.l)]] w fun e w' => e = .returned (.bool (mayF nmsP x)) ∧ Below w.heap.size w w' := by
  have hsz := hs
  obtain ⟨hp, ht, hl⟩ := hs
  have HV := Lib.hid (sound_may x)
  have HS0 : Hid (FiS w x (w.alloc (.cells #[.string (str x.p), .string (str x.t), .string (str x.l)] 34))) := ⟨Blk.new w _ _, (Below.refl _ w).alloc (Nat.le_refl _) _⟩
  have hr := cB_len x.p
  have hfo := cA_len (cB x.p)
  have hba := cB_len (cB x.p)
  have HC1 := Lib.hid (fun W => cut_s x.p (by unfold maxLen; omega) W)
  have HC2 := Lib.hid (fun W => cut_s (cB x.p) (by unfold maxLen; omega) W)
  have HU := Lib.hid (fun W => isUnitFile_any x (cB x.p) hsz (by omega) W)
  have HD := Lib.hid (fun W => isDropIn_any (cB (cB x.p)) (by omega) W)
  have HGb := Lib.hid (fun W => good_str (cB (cB x.p)) (by omega) W)
  have HTb := Lib.hid (fun W => isTpl_any (cB (cB x.p)) (by omega) W)
  have HGl := Lib.hid (fun W => good_str x.l hl W)
  have HPl : Hid (plc.any (fun y => decide (y = (str (cA x.p)).data.toList)) = decide (cA x.p ∈ plc)) := by show _ = _; rw [str_list]; exact any_plc _
  obtain ⟨p1, p2, p3⟩ := pt_at (cA (cB x.p))
  have HGf := Lib.hid (fun W => good_str ((cA (cB x.p)).take (ptN (cA (cB x.p)))) (by rw [List.length_take]; omega) W)
  have hLf : (str (cA (cB x.p))).size = (cA (cB x.p)).length := str_size _
  have hdr := dropK_str (cA (cB x.p)) (ptN (cA (cB x.p)))
  have htk := takeK_str (cA (cB x.p)) (ptN (cA (cB x.p)))
  have e1 := eq_nil x.t
  have e2 := eq_nil x.l
  have hxl : x.p.length ≤ 4194304 := hp
  clear hsz p2
  generalize cF (cB x.p) = nested at *
  generalize cB (cB x.p) = base at *
  generalize cA (cB x.p) = fo at *
  generalize cB x.p = rest at *
  generalize hpl : cA x.p = place at *
  clear hpl
  generalize ptN fo = k at *
  go_enter Tryz.func26, Tryz.ntmps26
  go_wp2_with fail
  generalize w.alloc (.cells #[.string (str x.p), .string (str x.t), .string (str x.l)] 34) = w0 at *
  refine (HC1.out _).mono ?_
  rintro e w1 ⟨rfl, hb1⟩
  have HS1 := Lib.hid (HS0.out.call hb1)
  have q1 : w1.cell? ⟨w.heap.size, 1, none⟩ = some (.string (str x.t)) := HS1.out.1.cell 1
  clear HS0 hb1 HC1
  by_cases ht2 : 20000 < x.t.length
  · have HR : Hid (mayF nmsP x = false) := by show _ = _; rw [HV.out, if_pos (.inl ht2)]
    have t1 : decide ((20000 : Int) < ((str x.t).size : Int)) = true := by rw [str_size]; simp; omega
    clear ht2 HV
    go_wp2_with fail
    go_ret
    exact ⟨ret_bool HR.out.symm, HS1.out.2⟩
  have t1 : decide ((20000 : Int) < ((str x.t).size : Int)) = false := by rw [str_size]; simp; omega
  go_wp2_with fail
  refine (dPlaces_any _).mono ?_
  rintro e w2 ⟨PA, PC, rfl, hR2, hb2⟩
  have HS2 := Lib.hid (HS1.out.call hb2)
  have HI := Lib.hid (fun v => hasIn_any PA 3 PC _ plc v w2 hR2)
  clear hb2 hR2 q1 HS1
  go_wp2_with fail
  refine (HI.out _).mono ?_
  rintro e w3 ⟨rfl, rfl⟩
  rw [HPl.out]
  clear HI
  by_cases hpl : place ∈ plc
  · rw [decide_eq_true hpl]
    have HV2 : Hid (mayF nmsP x = if nested = false then unitF nmsP x rest else deepF nmsP x fo base k) := by show _ = _; rw [HV.out, if_neg (by rintro (h | h); exact ht2 h; exact h hpl)]
    clear hpl ht2 HV HPl
    go_wp2_with fail
    refine (HC2.out _).mono ?_
    rintro e w4 ⟨rfl, hb4⟩
    have HS4 := Lib.hid (HS2.out.call hb4)
    have q0 : w4.cell? ⟨w.heap.size, 0, none⟩ = some (.string (str x.p)) := HS4.out.1.cell 0
    have q1 : w4.cell? ⟨w.heap.size, 1, none⟩ = some (.string (str x.t)) := HS4.out.1.cell 1
    have q2 : w4.cell? ⟨w.heap.size, 2, none⟩ = some (.string (str x.l)) := HS4.out.1.cell 2
    clear hb4 HS2 HC2
    cases nested
    · go_wp2_with fail
      refine (HU.out _).mono ?_
      rintro e w5 ⟨rfl, hb5⟩
      have HS5 := Lib.hid (HS4.out.call hb5)
      go_wp2_with fail
      go_ret
      exact ⟨ret_bool (by rw [HV2.out]; rfl), HS5.out.2⟩
    go_upto_region 7 with fail
    go_cut [9] (fun v wx => v = .int .i64 (k : Int) ∧ wx = w4)
    case first =>
      rcases p3 with p3 | ⟨p3, pk⟩
      · have u0 : (0 : Nat) ≤ 1 := Nat.zero_le _
        go_wp2_with (go_at_call 49; refine (Tryz.strings_LastIndexByte (str fo) 46 (by omega) _).mono ?_; rintro e w' ⟨rfl, rfl⟩; rw [p3])
        all_goals (go_meet; exact ⟨by first | rfl | (congr 1; omega), rfl⟩)
      · have u0 : (0 : Nat) ≤ 1 := Nat.zero_le _
        have u1 : (0 : Nat) ≤ 2 := Nat.zero_le _
        subst pk
        go_wp2_with (go_at_call 49; refine (Tryz.strings_LastIndexByte (str fo) 46 (by omega) _).mono ?_; rintro e w' ⟨rfl, rfl⟩; rw [p3])
        all_goals (go_meet; exact ⟨by first | rfl | (congr 1; omega), rfl⟩)
    case rest =>
      obtain ⟨rfl, rfl⟩ := hcut
      rw [← htk] at HGf
      have b0 : (0 : Int) ≤ (k : Int) := by omega
      have b1 : (k : Int) ≤ ((str fo).size : Int) := by omega
      have HV3 : Hid (mayF nmsP x = deepF nmsP x fo base k) := by show _ = _; rw [HV2.out]; rfl
      have tD : (((str fo).extract k (str fo).size).toList == [46, 100]) = decide (fo.drop k = dotD) := by rw [hdr, Lib.toList_data, str_list, Bool.eq_iff_iff, beq_iff_eq, decide_eq_true_eq]; rfl
      have tW : (((str fo).extract k (str fo).size).toList == [46, 119, 97, 110, 116, 115]) = decide (fo.drop k = dotW) := by rw [hdr, Lib.toList_data, str_list, Bool.eq_iff_iff, beq_iff_eq, decide_eq_true_eq]; rfl
      have tR : (((str fo).extract k (str fo).size).toList == [46, 114, 101, 113, 117, 105, 114, 101, 115]) = decide (fo.drop k = dotR) := by rw [hdr, Lib.toList_data, str_list, Bool.eq_iff_iff, beq_iff_eq, decide_eq_true_eq]; rfl
      unfold deepF at HV3
      clear HV2 hdr htk p3 HU hr hfo hba hp ht hl hxl hLf p1
      go_wp2_with fail
      refine (HGf.out _).mono ?_
      rintro e w5 ⟨rfl, hb5⟩
      have HS5 := Lib.hid (HS4.out.call hb5)
      have c1 : w5.cell? ⟨w.heap.size, 1, none⟩ = some (.string (str x.t)) := HS5.out.1.cell 1
      have c2 : w5.cell? ⟨w.heap.size, 2, none⟩ = some (.string (str x.l)) := HS5.out.1.cell 2
      clear hb5 HS4 q0 q1 q2 HGf
      generalize nmsP.good (fo.take k) = gf at *
      cases gf
      · go_wp2_with fail
        go_ret
        exact ⟨ret_bool (by rw [HV3.out]; rfl), HS5.out.2⟩
      by_cases hD : fo.drop k = dotD
      · have HR : Hid (mayF nmsP x = (dropIn base && decide (x.l = []))) := by show _ = _; rw [HV3.out, if_neg (by simp), if_pos hD]
        rw [decide_eq_true hD] at tD
        clear hD tW tR HV3 HGb HTb HGl e1
        generalize dropIn base = d at *
        go_wp2_with fail
        refine (HD.out _).mono ?_
        rintro e w6 ⟨rfl, hb6⟩
        have HS6 := Lib.hid (HS5.out.call hb6)
        have c2' : w6.cell? ⟨w.heap.size, 2, none⟩ = some (.string (str x.l)) := HS6.out.1.cell 2
        generalize decide (x.l = []) = l0 at *
        cases d <;> cases l0
        all_goals
          go_wp2_with fail
          go_ret
          exact ⟨ret_bool (by rw [HR.out]; rfl), HS6.out.2⟩
      rw [decide_eq_false hD] at tD
      by_cases hWR : fo.drop k = dotW ∨ fo.drop k = dotR
      · have HR : Hid (mayF nmsP x = (nmsP.good base && !nmsP.isT base && decide (x.t = []) && nmsP.good x.l)) := by show _ = _; rw [HV3.out, if_neg (by simp), if_neg hD, if_pos hWR]
        clear HV3 HD e2
        generalize nmsP.good base = gb at *
        generalize nmsP.isT base = tb at *
        generalize nmsP.good x.l = gl at *
        generalize decide (x.t = []) = t0 at *
        have main : ∀ (_ : (decide (fo.drop k = dotW) = true) ∨ (decide (fo.drop k = dotW) = false ∧ decide (fo.drop k = dotR) = true)), True := fun _ => trivial
        clear main
        by_cases hW : fo.drop k = dotW
        · rw [decide_eq_true hW] at tW
          clear hW hWR hD tR
          go_wp2_with fail
          refine (HGb.out _).mono ?_
          rintro e w6 ⟨rfl, hb6⟩
          have HS6 := Lib.hid (HS5.out.call hb6)
          clear hb6 HS5 c1 c2
          cases gb
          · go_wp2_with fail
            go_ret
            exact ⟨ret_bool (by rw [HR.out]; rfl), HS6.out.2⟩
          go_wp2_with fail
          refine (HTb.out _).mono ?_
          rintro e w7 ⟨rfl, hb7⟩
          have HS7 := Lib.hid (HS6.out.call hb7)
          have c1 : w7.cell? ⟨w.heap.size, 1, none⟩ = some (.string (str x.t)) := HS7.out.1.cell 1
          have c2 : w7.cell? ⟨w.heap.size, 2, none⟩ = some (.string (str x.l)) := HS7.out.1.cell 2
          clear hb7 HS6
          cases tb
          · cases t0
            · go_wp2_with fail
              go_ret
              exact ⟨ret_bool (by rw [HR.out]; rfl), HS7.out.2⟩
            · go_wp2_with fail
              refine (HGl.out _).mono ?_
              rintro e w8 ⟨rfl, hb8⟩
              have HS8 := Lib.hid (HS7.out.call hb8)
              go_wp2_with fail
              go_ret
              exact ⟨ret_bool (by rw [HR.out]; cases gl <;> rfl), HS8.out.2⟩
          · go_wp2_with fail
            go_ret
            exact ⟨ret_bool (by rw [HR.out]; rfl), HS7.out.2⟩
        · have hR : fo.drop k = dotR := by rcases hWR with h | h; exact absurd h hW; exact h
          rw [decide_eq_false hW] at tW
          rw [decide_eq_true hR] at tR
          clear hW hWR hD hR
          go_wp2_with fail
          refine (HGb.out _).mono ?_
          rintro e w6 ⟨rfl, hb6⟩
          have HS6 := Lib.hid (HS5.out.call hb6)
          clear hb6 HS5 c1 c2
          cases gb
          · go_wp2_with fail
            go_ret
            exact ⟨ret_bool (by rw [HR.out]; rfl), HS6.out.2⟩
          go_wp2_with fail
          refine (HTb.out _).mono ?_
          rintro e w7 ⟨rfl, hb7⟩
          have HS7 := Lib.hid (HS6.out.call hb7)
          have c1 : w7.cell? ⟨w.heap.size, 1, none⟩ = some (.string (str x.t)) := HS7.out.1.cell 1
          have c2 : w7.cell? ⟨w.heap.size, 2, none⟩ = some (.string (str x.l)) := HS7.out.1.cell 2
          clear hb7 HS6
          cases tb
          · cases t0
            · go_wp2_with fail
              go_ret
              exact ⟨ret_bool (by rw [HR.out]; rfl), HS7.out.2⟩
            · go_wp2_with fail
              refine (HGl.out _).mono ?_
              rintro e w8 ⟨rfl, hb8⟩
              have HS8 := Lib.hid (HS7.out.call hb8)
              go_wp2_with fail
              go_ret
              exact ⟨ret_bool (by rw [HR.out]; cases gl <;> rfl), HS8.out.2⟩
          · go_wp2_with fail
            go_ret
            exact ⟨ret_bool (by rw [HR.out]; rfl), HS7.out.2⟩
      · have HR : Hid (mayF nmsP x = false) := by show _ = _; rw [HV3.out, if_neg (by simp), if_neg hD, if_neg hWR]
        rw [decide_eq_false (fun h => hWR (.inl h))] at tW
        rw [decide_eq_false (fun h => hWR (.inr h))] at tR
        clear hWR hD HV3
        go_wp2_with fail
        go_ret
        exact ⟨ret_bool HR.out.symm, HS5.out.2⟩
  · rw [decide_eq_false hpl]
    have HR : Hid (mayF nmsP x = false) := by show _ = _; rw [HV.out, if_pos (.inr hpl)]
    clear hpl ht2 HV HPl
    go_wp2_with fail
    go_ret
    exact ⟨ret_bool HR.out.symm, HS2.out.2⟩
end Go.Proofs.YthodbeeglkedcaaGreat
