/- The walks of package disk's fileOf, leadsOn, target. -/
import Derived.Test.YthodbeeglkedcaaGreatDzbj
namespace Go.Proofs.YthodbeeglkedcaaGreat
open Go.RowKit
theorem eq_strG (a b : List UInt8) : ((str a).toList == (str b).toList) = decide (a = b) := by
  rw [Lib.toList_data, Lib.toList_data, str_list, str_list, Bool.eq_iff_iff, decide_eq_true_eq, beq_iff_eq]
theorem leads_any (x : Fi) (w : World) :
    Calls Tryz.prog 15 #[.agg #[.string (str x.p), .string (str x.t), .string (str x.l)]] w fun e w' => e = .returned (.bool (leads x)) ∧ Below w.heap.size w w' := by
  have HB0 : Hid (Below w.heap.size w (w.alloc (.cells #[.string (str x.p), .string (str x.t), .string (str x.l)] 34))) := (Below.refl _ w).alloc (Nat.le_refl _) _
  have e1 := eq_nil x.l
  have e2 := eq_nul x.l
  have HV : Hid (leads x = (decide (x.l ≠ []) && decide (x.l ≠ nulL))) := rfl
  by_cases h1 : x.l = []
  · have HR : Hid (leads x = false) := by show _ = _; rw [HV.out]; simp [h1]
    rw [decide_eq_true h1] at e1
    clear h1 HV e2
    go_enter Tryz.func15, Tryz.ntmps15
    go_wp2_with fail
    go_ret
    exact ⟨ret_bool HR.out.symm, HB0.out⟩
  rw [decide_eq_false h1] at e1
  by_cases h2 : x.l = nulL
  · have HR : Hid (leads x = false) := by show _ = _; rw [HV.out]; simp [h2]
    rw [decide_eq_true h2] at e2
    clear h1 h2 HV
    have u0 : (0 : Nat) ≤ 1 := Nat.zero_le _
    go_enter Tryz.func15, Tryz.ntmps15
    go_wp2_with fail
    go_ret
    exact ⟨ret_bool HR.out.symm, HB0.out⟩
  · have HR : Hid (leads x = true) := by show _ = _; rw [HV.out]; simp [h1, h2]
    rw [decide_eq_false h2] at e2
    clear h1 h2 HV
    have u0 : (0 : Nat) ≤ 1 := Nat.zero_le _
    have u1 : (0 : Nat) ≤ 2 := Nat.zero_le _
    go_enter Tryz.func15, Tryz.ntmps15
    go_wp2_with fail
    go_ret
    exact ⟨ret_bool HR.out.symm, HB0.out⟩
theorem tmpl_any (u : List UInt8) (hu : u.length ≤ 4194304) (w : World) :
    Calls Tryz.prog 31 #[.string (str u)] w fun e w' => e = .returned (.string (str (nmsP.tmpl u))) ∧ Below w.heap.size w w' := by
  refine (Nm.Template_any (str u) (by rw [str_size]; unfold maxLen; omega) w).mono ?_
  rintro e w' ⟨rfl, hb⟩
  refine ⟨?_, hb⟩
  show _ = Ending.returned (.string (str (Nm.tmplS (str u)).data.toList))
  rw [str_data]
theorem insG_any (t i : List UInt8) (ht : t.length ≤ 4194304) (hi : i.length ≤ 4194304) (w : World) :
    Calls Tryz.prog 34 #[.string (str t), .string (str i)] w fun e w' => e = .returned (.tuple #[.string (str ((nmsP.ins t i).getD [])), .bool (nmsP.ins t i).isSome]) ∧ Below w.heap.size w w' := by
  refine (Nm.Instance_any (str t) (str i) (by rw [str_size]; unfold maxLen; omega) (by rw [str_size]; omega) w).mono ?_
  rintro e w' ⟨rfl, hb⟩
  refine ⟨?_, hb⟩
  have h : nmsP.ins t i = if Nm.insOk (str t) (str i) = true then some (Nm.insS (str t) (str i)).data.toList else none := rfl
  rw [h]
  rcases hk : Nm.insOk (str t) (str i) with _ | _
  · have hS : Nm.insS (str t) (str i) = ⟨#[]⟩ := by unfold Nm.insS; rw [if_neg (by rw [hk]; simp)]
    rw [hS]; rfl
  · rw [if_pos rfl]
    show _ = Ending.returned (.tuple #[.string (str (Nm.insS (str t) (str i)).data.toList), .bool true])
    rw [str_data]
theorem partsG_any (u : List UInt8) (hu : u.length ≤ 4194304) (w : World) :
    Calls Tryz.prog 33 #[.string (str u)] w fun e w' => ∃ p b, e = .returned (.tuple #[.string p, .string (str (nmsP.inst u)), .bool b]) ∧ Below w.heap.size w w' := by
  refine (Nm.Parts_any (str u) (by rw [str_size]; unfold maxLen; omega) w).mono ?_
  rintro e w' ⟨rfl, hb⟩
  refine ⟨Nm.preP (str u), Nm.atP (str u), ?_, hb⟩
  show _ = Ending.returned (.tuple #[.string _, .string (str (Nm.instP (str u)).data.toList), .bool _])
  rw [str_data]
theorem instG_len (n : List UInt8) : (nmsP.inst n).length ≤ 60 := by
  show (Nm.instP (str n)).data.toList.length ≤ 60
  rw [size_list]
  exact Nm.instP_size _
theorem tmplG_size (u : List UInt8) : (Nm.tmplS (str u)).size ≤ 4194304 := by
  have h1 := Nm.preP_size (str u)
  have h2 := Nm.joinS_size (Nm.preP (str u)) ⟨#[]⟩ (Nm.atP (str u)) (Nm.kindP (str u))
  have h3 : (⟨#[]⟩ : ByteArray).size = 0 := rfl
  unfold Nm.tmplS
  split
  · exact Nat.zero_le _
  · omega
set_option maxHeartbeats 4000000 in
theorem target_any (x : Fi) (hs : SizeF x) (u : List UInt8) (hu : u.length ≤ 4194304) (w : World) :
    Calls Tryz.prog 16 #[.agg #[.string (str x.p), .string (str x.t), .string (str x.l)], .string (str u)] w fun e w' => e = .returned (.string (str (targetP nmsP x u))) ∧ Below w.heap.size w w' := by
  obtain ⟨hp, ht, hl⟩ := hs
  have HS0 : Hid (FiS w x (w.alloc (.cells #[.string (str x.p), .string (str x.t), .string (str x.l)] 34))) := ⟨Blk.new w _ _, (Below.refl _ w).alloc (Nat.le_refl _) _⟩
  have HC1 := Lib.hid (fun W => cut_s x.p (by unfold maxLen; omega) W)
  have HP := Lib.hid (fun W => partsG_any u hu W)
  have HI := Lib.hid (fun W => insG_any x.l (nmsP.inst u) hl (by have := instG_len u; omega) W)
  have hq := eq_strG (cB x.p) u
  have HV : Hid (targetP nmsP x u = if cB x.p = u then x.l else (nmsP.ins x.l (nmsP.inst u)).getD []) := rfl
  clear hp ht hl hu
  generalize nmsP.ins x.l (nmsP.inst u) = o at *
  generalize nmsP.inst u = iu at *
  generalize cA x.p = ca at *
  generalize cF x.p = cf at *
  generalize hcb : cB x.p = cb at *
  clear hcb
  go_enter Tryz.func16, Tryz.ntmps16
  go_wp2_with fail
  generalize w.alloc (.cells #[.string (str x.p), .string (str x.t), .string (str x.l)] 34) = w0 at *
  refine (HC1.out _).mono ?_
  rintro e w1 ⟨rfl, hb1⟩
  have HS1 := Lib.hid (HS0.out.call hb1)
  have q2 : w1.cell? ⟨w.heap.size, 2, none⟩ = some (.string (str x.l)) := HS1.out.1.cell 2
  clear HS0 hb1 HC1
  by_cases h : cb = u
  · have HR : Hid (targetP nmsP x u = x.l) := by show _ = _; rw [HV.out, if_pos h]
    rw [decide_eq_true h] at hq
    clear h HV
    go_wp2_with fail
    go_ret
    exact ⟨by rw [HR.out]; rfl, HS1.out.2⟩
  · have HR : Hid (targetP nmsP x u = o.getD []) := by show _ = _; rw [HV.out, if_neg h]
    rw [decide_eq_false h] at hq
    clear h HV
    go_wp2_with fail
    refine (HP.out _).mono ?_
    rintro e w2 ⟨pp, pb, rfl, hb2⟩
    have HS2 := Lib.hid (HS1.out.call hb2)
    have q2' : w2.cell? ⟨w.heap.size, 2, none⟩ = some (.string (str x.l)) := HS2.out.1.cell 2
    clear hb2 HS1 q2
    go_wp2_with fail
    refine (HI.out _).mono ?_
    rintro e w3 ⟨rfl, hb3⟩
    have HS3 := Lib.hid (HS2.out.call hb3)
    generalize o.getD [] = og at *
    generalize o.isSome = ob at *
    go_wp2_with fail
    go_ret
    exact ⟨by rw [HR.out]; rfl, HS3.out.2⟩
set_option maxHeartbeats 4000000 in
theorem fileOf_any (A : Option Addr) (n c B : Nat) (l : List Fi) (u : List UInt8) (hu : u.length ≤ 4194304) (w : World) (h : FisAt w B A n l) (hB : B ≤ w.heap.size) :
    Calls Tryz.prog 14 #[.slice A n c, .string (str u)] w fun e w' => e = .returned (atV (fileP nmsP l u)) ∧ Below w.heap.size w w' := by
  have HL := Lib.hid h
  clear h
  have HR0 : Hid (Blk (w.alloc (.cells #[.string ⟨#[]⟩, .string ⟨#[]⟩, .string ⟨#[]⟩] 34)) w.heap.size 34 (fiA noFi)) := Blk.new w _ _
  have HB0 : Hid (Below w.heap.size w (w.alloc (.cells #[.string ⟨#[]⟩, .string ⟨#[]⟩, .string ⟨#[]⟩] 34))) := (Below.refl _ w).alloc (Nat.le_refl _) _
  have HT := Lib.hid (fun W => tmpl_any u hu W)
  have htl : (nmsP.tmpl u).length ≤ 4194304 := by
    show (Nm.tmplS (str u)).data.toList.length ≤ _
    rw [size_list]
    exact tmplG_size u
  have HO := Lib.hid (fun (v : List UInt8) (hv : v.length ≤ 4194304) (W : World) (hb : Below w.heap.size w W) => ownFile_any A n c B l v hv W (HL.out.below (hb.mono hB)) (Nat.le_trans hB hb.size))
  have HV : Hid (fileP nmsP l u = match firstL l u with | some f => some f | none => firstL l (nmsP.tmpl u)) := rfl
  go_enter Tryz.func14, Tryz.ntmps14
  go_wp2_with fail
  generalize w.alloc (.cells #[.string ⟨#[]⟩, .string ⟨#[]⟩, .string ⟨#[]⟩] 34) = w0 at *
  have H1 := HO.out u hu w0 HB0.out
  rcases hf : firstL l u with _ | x
  · rw [hf] at H1
    have HV2 : Hid (fileP nmsP l u = firstL l (nmsP.tmpl u)) := by show _ = _; rw [HV.out, hf]
    clear hf HV
    rw [atV_none] at H1
    refine H1.mono ?_
    rintro e w1 ⟨rfl, hb1⟩
    have HR1 := Lib.hid ((HR0.out.below hb1 HR0.out.lt).alloc (.cells #[.string ⟨#[]⟩, .string ⟨#[]⟩, .string ⟨#[]⟩] 34))
    have HB1 := Lib.hid (more3 HB0.out HB0.out.size hb1)
    have HB1a : Hid (Below w.heap.size w (w1.alloc (.cells #[.string ⟨#[]⟩, .string ⟨#[]⟩, .string ⟨#[]⟩] 34))) := HB1.out.alloc HB1.out.size _
    clear hb1 HR0 HB0 HB1
    go_wp2_with fail
    generalize w1.alloc (.cells #[.string ⟨#[]⟩, .string ⟨#[]⟩, .string ⟨#[]⟩] 34) = w1a at *
    refine (HT.out _).mono ?_
    rintro e w2 ⟨rfl, hb2⟩
    have HR2 := Lib.hid (HR1.out.below hb2 HR1.out.lt)
    have HB2 := Lib.hid (more3 HB1a.out HB1a.out.size hb2)
    clear hb2 HR1 HB1a
    go_wp2_with fail
    have H2 := HO.out (nmsP.tmpl u) htl w2 HB2.out
    have HV3 : Hid (fileP nmsP l u = firstL l (nmsP.tmpl u)) := HV2
    generalize firstL l (nmsP.tmpl u) = o at *
    obtain ⟨y, b, hat, hy⟩ : ∃ (y : Fi) (b : Bool), atV o = .tuple #[.agg #[.string (str y.p), .string (str y.t), .string (str y.l)], .bool b] ∧ True := ⟨o.getD noFi, o.isSome, rfl, trivial⟩
    have HAT := Lib.hid hat
    rw [hat] at H2
    clear hat hy
    refine H2.mono ?_
    rintro e w3 ⟨rfl, hb3⟩
    have HR3 := Lib.hid (HR2.out.below hb3 HR2.out.lt)
    have HB3 := Lib.hid (more3 HB2.out HB2.out.size hb3)
    clear hb3 HR2 HB2
    go_wp2_with (refine wpList_store_row rfl 34 (.tmp 4) (.tmp 20) (by rfl) w.heap.size (fiA y) (by rfl) (by rfl) 34 (fiA noFi) HR3.out (by kernel_rfl) rfl (fiA_all _) ?_)
    refine bodyPost_ret (results_cell_tmp (p := 4) (q := 5) rfl _ _ w.heap.size 34 (fiA y) _ _ rfl rfl (Blk.row HR3.out _) Tryz.underlying34 rfl (by kernel_rfl)) rfl ⟨by rw [HV3.out, HAT.out]; rfl, below_setRow HB3.out (Nat.le_refl _) _⟩
  · rw [hf] at H1
    have HV2 : Hid (fileP nmsP l u = some x) := by show _ = _; rw [HV.out, hf]
    clear hf HV
    rw [atV_some] at H1
    refine H1.mono ?_
    rintro e w1 ⟨rfl, hb1⟩
    have HR1 := Lib.hid ((HR0.out.below hb1 HR0.out.lt).alloc (.cells #[.string (str x.p), .string (str x.t), .string (str x.l)] 34))
    have HB1 := Lib.hid (more3 HB0.out HB0.out.size hb1)
    have HB1a : Hid (Below w.heap.size w (w1.alloc (.cells #[.string (str x.p), .string (str x.t), .string (str x.l)] 34))) := HB1.out.alloc HB1.out.size _
    clear hb1 HR0 HB0 HB1
    go_wp2_with (refine wpList_store_row rfl 34 (.tmp 4) (.tmp 15) (by rfl) w.heap.size (fiA x) (by rfl) (by rfl) 34 (fiA noFi) HR1.out (by kernel_rfl) rfl (fiA_all _) ?_)
    refine bodyPost_ret (results_cell_tmp (p := 4) (q := 5) rfl _ _ w.heap.size 34 (fiA x) _ _ rfl rfl (Blk.row HR1.out _) Tryz.underlying34 rfl (by kernel_rfl)) rfl ⟨by rw [HV2.out]; rfl, below_setRow HB1a.out (Nat.le_refl _) _⟩
end Go.Proofs.YthodbeeglkedcaaGreat
