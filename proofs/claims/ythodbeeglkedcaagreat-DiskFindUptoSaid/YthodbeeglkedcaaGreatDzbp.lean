/- The walk of package disk's Find. -/
import Derived.Test.YthodbeeglkedcaaGreatDzbo
import Derived.Test.YthodbeeglkedcaaGreatDzba
namespace Go.Proofs.YthodbeeglkedcaaGreat
open Go.RowKit
theorem nmsMore : NmsMore nmsP where
  tmplNo u h := by
    have h' : (Nm.atP (str u) && !(Nm.instP (str u)).toList.isEmpty) = false := h
    rw [Nm.tmpl_inst] at h'
    have h2 : (Nm.instP (str u)).toList.isEmpty = true := by simpa using h'
    show (Nm.tmplS (str u)).data.toList = []
    unfold Nm.tmplS
    rw [if_pos h2]
  tmplNe u h := by
    have h' : (Nm.atP (str u) && !(Nm.instP (str u)).toList.isEmpty) = true := h
    rw [Nm.tmpl_inst] at h'
    have h2 : (Nm.instP (str u)).toList.isEmpty = false := by simpa using h'
    obtain ⟨_, _, _, t4, _⟩ := Nm.turn_tmpl (str u) h2
    intro e
    have e' : Nm.tmplS (str u) = str u := by
      rw [← str_data (Nm.tmplS (str u))]
      exact congrArg str e
    rw [e', e'] at t4
    have t5 : u = [] := by
      have := congrArg (fun s => s.data.toList) t4
      rw [← str_list u]; exact this
    subst t5
    have : Nm.instP (str []) = ⟨#[]⟩ := by decide +kernel
    rw [this, Nm.nil_empty] at h2
    cases h2
  empI := by decide +kernel
theorem target_len (x : Fi) (hs : SizeF x) (u : List UInt8) : (targetP nmsP x u).length ≤ 4194304 := by
  unfold targetP
  split
  · exact hs.2.2
  · rcases h : nmsP.ins x.l (nmsP.inst u) with _ | s
    · exact Nat.zero_le _
    · have := nmsOk.short s (nmsOk.ins _ _ _ h).1
      show s.length ≤ _
      omega
theorem file_in {l : List Fi} {u : List UInt8} {f : Fi} (h : fileP nmsP l u = some f) : f ∈ l := by
  unfold fileP at h
  rcases h1 : firstL l u with _ | g
  · rw [h1] at h; exact (first_mem h).choose_spec.2.1
  · rw [h1] at h
    injection h with h
    subst h
    exact (first_mem h1).choose_spec.2.1
theorem goP_end {l : List Fi} {k : Nat} {x : Fi} {n : List UInt8} (h : leads x = false) : goP nmsP l (k + 1) x n = endP nmsP l x n := by rw [goP, if_pos h]
theorem goP_none {l : List Fi} {k : Nat} {x : Fi} {n : List UInt8} (h : leads x = true) (hf : fileP nmsP l (targetP nmsP x n) = none) : goP nmsP l (k + 1) x n = (noFd, 17) := by rw [goP, if_neg (by simp [h]), hf]
theorem goP_last {l : List Fi} {x y : Fi} {n : List UInt8} (h : leads x = true) (hf : fileP nmsP l (targetP nmsP x n) = some y) : goP nmsP l 1 x n = (noFd, 17) := by rw [goP, if_neg (by simp [h]), hf]; simp
theorem goP_next {l : List Fi} {k : Nat} {x y : Fi} {n : List UInt8} (h : leads x = true) (hf : fileP nmsP l (targetP nmsP x n) = some y) (hk : k ≠ 0) : goP nmsP l (k + 1) x n = goP nmsP l k y (targetP nmsP x n) := by rw [goP, if_neg (by simp [h]), hf]; simp only; rw [if_neg hk]
theorem findP_eq (l : List Fi) (u : List UInt8) : findL nmsP l u = if mayL nmsP l = false then (noFd, 1) else if nmsP.good u = false then (noFd, 5) else match fileP nmsP l u with
    | none => (noFd, 6)
    | some f => goP nmsP l 9 f u := (find_eq nmsOk nmsMore l u).symm
theorem atV_open (o : Option Fi) : ∃ f b, atV o = .tuple #[.agg #[.string (str f.p), .string (str f.t), .string (str f.l)], .bool b] ∧ ((b = true ∧ o = some f) ∨ (b = false ∧ o = none)) := by
  cases o with
  | none => exact ⟨noFi, false, rfl, .inr ⟨rfl, rfl⟩⟩
  | some f => exact ⟨f, true, rfl, .inl ⟨rfl, rfl⟩⟩
set_option maxRecDepth 100000 in
set_option maxHeartbeats 16000000 in
theorem dFind_any (A : Option Addr) (n c B : Nat) (l : List Fi) (u : ByteArray) (hu : u.size ≤ 4194304) (w : World) (h : FisAt w B A n l) (hB : B ≤ w.heap.size) (hs : ∀ x ∈ l, SizeF x) :
    Calls Tryz.prog 5 #[.slice A n c, .string u] w (FindP l u.data.toList w) := by
  obtain ⟨ul, rfl⟩ : ∃ ul, u = str ul := ⟨u.data.toList, (str_data u).symm⟩
  rw [str_list]
  have hul : ul.length ≤ 4194304 := by rw [← str_size ul]; exact hu
  have HL := Lib.hid h
  have HS := Lib.hid hs
  have HV := Lib.hid (findP_eq l ul)
  have HR0 : Hid (Blk (w.alloc (.cells #[.string ⟨#[]⟩, .string ⟨#[]⟩, .bool false, .slice none 0 0] 26)) w.heap.size 26 fd0) := Blk.new w _ _
  have HB0 : Hid (Below w.heap.size w (w.alloc (.cells #[.string ⟨#[]⟩, .string ⟨#[]⟩, .bool false, .slice none 0 0] 26))) := (Below.refl _ w).alloc (Nat.le_refl _) _
  have HMc := Lib.hid (fun (W : World) (hb : Below w.heap.size w W) => dMay_any A n c B l W (h.below (hb.mono hB)) (Nat.le_trans hB hb.size) hs)
  have HFc := Lib.hid (fun (v : List UInt8) (hv : v.length ≤ 4194304) (W : World) (hb : Below w.heap.size w W) => fileOf_any A n c B l v hv W (h.below (hb.mono hB)) (Nat.le_trans hB hb.size))
  have HG := Lib.hid (fun W => good_str ul hul W)
  clear h hs hu
  generalize hFR : findL nmsP l ul = r at *
  go_enter Tryz.func5, Tryz.ntmps5
  go_wp2_with fail
  generalize w.alloc (.cells #[.string ⟨#[]⟩, .string ⟨#[]⟩, .bool false, .slice none 0 0] 26) = w0 at *
  refine (HMc.out _ HB0.out).mono ?_
  rintro e w1 ⟨rfl, hb1⟩
  have HR1 := Lib.hid (HR0.out.below hb1 HR0.out.lt)
  have HB1 := Lib.hid (more3 HB0.out HB0.out.size hb1)
  clear hb1 HR0 HB0 HMc
  rcases hm : mayL nmsP l with _ | _
  · have HN : Hid (findL nmsP l ul = (noFd, 1)) := by show _ = _; rw [hFR, HV.out, if_pos hm]
    clear hm
    go_wp2_with (refine wpList_store_row rfl 26 (.tmp 4) (.tmp 12) (by rfl) w.heap.size fd0 (by rfl) (by rfl) 26 fd0 HR1.out (by kernel_rfl) rfl fd0_all ?_)
    exact bodyPost_ret (results_cell_tmp (p := 4) (q := 5) rfl _ _ w.heap.size 26 fd0 _ _ rfl rfl (Blk.row HR1.out _) Tryz.underlying26 rfl (by kernel_rfl)) rfl (findP_no HN.out (below_setRow HB1.out (Nat.le_refl _) _))
  have HD := Lib.hid (fun (v : List UInt8) (hv : v.length ≤ 4194304) (W : World) (hb : Below w.heap.size w W) => drops_any nmsMore A n c B l v hv W (HL.out.below (hb.mono hB)) (Nat.le_trans hB hb.size) HS.out hm)
  have HV2 : Hid (r = if nmsP.good ul = false then (noFd, 5) else match fileP nmsP l ul with | none => (noFd, 6) | some f => goP nmsP l 9 f ul) := by show _ = _; rw [HV.out, if_neg (by simp [hm])]
  clear hm HV
  go_wp2_with fail
  refine (HG.out _).mono ?_
  rintro e w2 ⟨rfl, hb2⟩
  have HR2 := Lib.hid (HR1.out.below hb2 HR1.out.lt)
  have HB2 := Lib.hid (more3 HB1.out HB1.out.size hb2)
  clear hb2 HR1 HB1 HG
  rcases hg : nmsP.good ul with _ | _
  · have HN : Hid (findL nmsP l ul = (noFd, 5)) := by show _ = _; rw [hFR, HV2.out, if_pos hg]
    clear hg
    go_wp2_with (refine wpList_store_row rfl 26 (.tmp 4) (.tmp 16) (by rfl) w.heap.size fd0 (by rfl) (by rfl) 26 fd0 HR2.out (by kernel_rfl) rfl fd0_all ?_)
    exact bodyPost_ret (results_cell_tmp (p := 4) (q := 5) rfl _ _ w.heap.size 26 fd0 _ _ rfl rfl (Blk.row HR2.out _) Tryz.underlying26 rfl (by kernel_rfl)) rfl (findP_no HN.out (below_setRow HB2.out (Nat.le_refl _) _))
  have HV3 : Hid (r = match fileP nmsP l ul with | none => (noFd, 6) | some f => goP nmsP l 9 f ul) := by show _ = _; rw [HV2.out, if_neg (by simp [hg])]
  clear hg HV2
  have H3 := HFc.out ul hul w2 HB2.out
  obtain ⟨x0, b0, hat, hx0⟩ := atV_open (fileP nmsP l ul)
  rw [hat] at H3
  clear hat
  go_wp2_with fail
  refine H3.mono ?_
  rintro e w3 ⟨rfl, hb3⟩
  have HR3 := Lib.hid (HR2.out.below hb3 HR2.out.lt)
  have HB3 := Lib.hid (more3 HB2.out HB2.out.size hb3)
  clear hb3 HR2 HB2 H3
  have HR3a : Hid (Blk (w3.alloc (.cells #[.string (str x0.p), .string (str x0.t), .string (str x0.l)] 34)) w.heap.size 26 fd0) := HR3.out.alloc _
  have HB3a : Hid (Below w.heap.size w (w3.alloc (.cells #[.string (str x0.p), .string (str x0.t), .string (str x0.l)] 34))) := HB3.out.alloc HB3.out.size _
  have HF3a : Hid (Blk (w3.alloc (.cells #[.string (str x0.p), .string (str x0.t), .string (str x0.l)] 34)) w3.heap.size 34 (fiA x0)) := Blk.new w3 _ _
  have hFw : w.heap.size < w3.heap.size := HR3.out.lt
  rcases hx0 with ⟨rfl, hx0⟩ | ⟨rfl, hx0⟩
  · have HGo : Hid (goP nmsP l 9 x0 ul = r) := by show _ = _; rw [HV3.out, hx0]
    have hsx0 := HS.out x0 (file_in hx0)
    clear hx0 HV3 HR3 HB3
    go_wp2_with fail
    generalize w3.alloc (.cells #[.string (str x0.p), .string (str x0.t), .string (str x0.l)] 34) = w3a at *
    generalize w3.heap.size = F at *
    go_loopw [1, 7, 8] (fun uv okv hv wr => ∃ (k : Nat) (x : Fi) (nn : List UInt8), k ≤ 8 ∧ nn.length ≤ 4194304 ∧ uv = .string (str nn) ∧ okv = .bool true ∧ hv = .int .i64 k ∧ Hid (SizeF x) ∧ Hid (goP nmsP l (9 - k) x nn = r) ∧ Hid (Blk wr F 34 (fiA x)) ∧ Hid (Blk wr w.heap.size 26 fd0) ∧ Hid (Below w.heap.size w wr)) (fun uv okv hv wr => 9 - (intOf hv).toNat)
    case atStart => exact ⟨0, x0, ul, by omega, hul, rfl, rfl, rfl, hsx0, HGo, HF3a, HR3a, HB3a⟩
    case round =>
      obtain ⟨k, x, nn, hk, hnl, rfl, rfl, rfl, hsx, hGo, hF, hR, hb⟩ := hrel
      have hFl := hF.out.lt
      have hbs := hb.out.size
      have q0 : wr.cell? ⟨F, 0, none⟩ = some (.string (str x.p)) := hF.out.cell 0
      have q1 : wr.cell? ⟨F, 1, none⟩ = some (.string (str x.t)) := hF.out.cell 1
      have q2 : wr.cell? ⟨F, 2, none⟩ = some (.string (str x.l)) := hF.out.cell 2
      go_wp2_with fail
      refine (leads_any x _).mono ?_
      rintro e w4 ⟨rfl, hb4⟩
      have HF4 := Lib.hid (hF.out.below hb4 hFl)
      have HR4 := Lib.hid (hR.out.below hb4 hR.out.lt)
      have HB4 := Lib.hid (more3 hb.out hbs hb4)
      have p0 : w4.cell? ⟨F, 0, none⟩ = some (.string (str x.p)) := HF4.out.cell 0
      have p1 : w4.cell? ⟨F, 1, none⟩ = some (.string (str x.t)) := HF4.out.cell 1
      have p2 : w4.cell? ⟨F, 2, none⟩ = some (.string (str x.l)) := HF4.out.cell 2
      clear hb4 hF hR hb q0 q1 q2
      obtain ⟨j, hj⟩ : ∃ j, 9 - k = j + 1 := ⟨8 - k, by omega⟩
      rw [hj] at hGo
      rcases hle : leads x with _ | _
      · have hGe : Hid (endP nmsP l x nn = r) := by show _ = _; rw [← hGo.out, goP_end hle]
        have hlk : x.l = [] ∨ x.l = nulL := by
          unfold leads at hle
          by_cases h1 : x.l = []
          · exact .inl h1
          · right
            simpa [h1] using hle
        have e2 := eq_nul x.l
        clear hle hGo
        by_cases hl0 : x.l = []
        · have HV : Hid (findL nmsP l ul = (⟨nn, x.p, false, dropsL nmsP l nn⟩, 0)) := by show _ = _; rw [hFR, ← hGe.out, endP, if_pos hl0]
          rw [decide_eq_false (by rw [hl0]; decide)] at e2
          clear hl0 hlk hGe
          go_wp2_with fail
          refine wp_region_held_drew (S := fun W => Below w.heap.size w W ∧ W.cell? ⟨F, 0, none⟩ = some (.string (str x.p))) (by kernel_rfl) ?_ (fun hHeld => ?_)
          · exact ⟨HB4.out.drew, p0⟩
          refine wpAnyH_take (i := 0) (v := ?v0_1) rfl (by kernel_rfl) (by kernel_rfl) (by kernel_rfl) (fun _ _ _ h => h) (Or.inl ⟨by rfl, ?hy0_1⟩) (by assumption) ?_
          case hy0_1 => (intro W hSw; (try dsimp only at hSw); go_simp; (try with_reducible rfl))
          try simp only [Act.put, List.getElem_toArray, List.getElem_cons_zero, List.setIfInBounds_toArray, List.set_cons_zero, List.set_cons_succ]
          refine wpAnyH_take (i := 1) (v := ?v1_1) rfl (by kernel_rfl) (by kernel_rfl) (by kernel_rfl) (fun _ _ _ h => h) (Or.inl ⟨by rfl, ?hy1_1⟩) (by assumption) ?_
          case hy1_1 => (intro W hSw; (try dsimp only at hSw); go_simp; (try with_reducible rfl))
          try simp only [Act.put, List.getElem_toArray, List.getElem_cons_zero, List.getElem_cons_succ, List.setIfInBounds_toArray, List.set_cons_zero, List.set_cons_succ]
          refine wpAnyH_take (i := 2) (v := ?v2_1) rfl (by kernel_rfl) (by kernel_rfl) (by kernel_rfl) (fun _ _ _ h => h) (Or.inl ⟨by rfl, ?hy2_1⟩) (by assumption) ?_
          case hy2_1 => (intro W hSw; have q9 : W.cell? ⟨F, 0, none⟩ = some (.string (str x.p)) := hSw.2; (try dsimp only at hSw); go_simp; (try with_reducible rfl))
          try simp only [Act.put, List.getElem_toArray, List.getElem_cons_zero, List.getElem_cons_succ, List.setIfInBounds_toArray, List.set_cons_zero, List.set_cons_succ]
          refine wpAnyH_take (i := 3) (v := ?v3_1) rfl (by kernel_rfl) (by kernel_rfl) (by kernel_rfl) (fun _ _ _ h => h) (Or.inl ⟨by rfl, ?hy3_1⟩) (by assumption) ?_
          case hy3_1 => (intro W hSw; (try dsimp only at hSw); go_simp; (try with_reducible rfl))
          try simp only [Act.put, List.getElem_toArray, List.getElem_cons_zero, List.getElem_cons_succ, List.setIfInBounds_toArray, List.set_cons_zero, List.set_cons_succ]
          refine wpAnyH_take (i := 4) (v := ?v4_1) rfl (by kernel_rfl) (by kernel_rfl) (by kernel_rfl) (fun _ _ _ h => h) (Or.inl ⟨by rfl, ?hy4_1⟩) (by assumption) ?_
          case hy4_1 => (intro W hSw; (try dsimp only at hSw); go_simp; (try with_reducible rfl))
          try simp only [Act.put, List.getElem_toArray, List.getElem_cons_zero, List.getElem_cons_succ, List.setIfInBounds_toArray, List.set_cons_zero, List.set_cons_succ]
          refine wpAnyH_ready (rs := [5]) (by kernel_rfl) (by simp) ?_
          refine AllReadyH.cons rfl (fun K hK => ?_) AllReadyH.nil
          go_simp
          (refine (HD.out nn hnl _ (HB4.out.drew)).mono ?_; rintro e wq ⟨dv, rfl, ⟨dA, dc, rfl, hdr, hdn⟩, hbq⟩)
          refine hK.out _ _ ?_ (fun hHeld2 => ?_)
          · exact ⟨more3 hHeld.1 hHeld.1.size hbq, (hbq.cell (p := ⟨F, 0, none⟩) HF4.out.lt).trans p0⟩
          clear hK K hHeld 
          have hHeld := hHeld2
          clear hHeld2
          try simp only [Act.put, List.getElem_toArray, List.getElem_cons_zero, List.getElem_cons_succ, List.setIfInBounds_toArray, List.set_cons_zero, List.set_cons_succ]
          refine wpAnyH_take (i := 6) (v := ?v6_1) rfl (by kernel_rfl) (by kernel_rfl) (by kernel_rfl) (fun _ _ _ h => h) (Or.inl ⟨by rfl, ?hy6_1⟩) (by assumption) ?_
          case hy6_1 => (intro W hSw; (try dsimp only at hSw); go_simp; (try with_reducible rfl))
          try simp only [Act.put, List.getElem_toArray, List.getElem_cons_zero, List.getElem_cons_succ, List.setIfInBounds_toArray, List.set_cons_zero, List.set_cons_succ]
          have HBq : Below w4.heap.size w4 wq := more3 (Below.refl _ w4).drew (Nat.le_refl _) hbq
          have HRq := Lib.hid (HR4.out.below HBq HR4.out.lt)
          have z0 : wq.cell? ⟨w.heap.size, 0, none⟩ = some (.string ⟨#[]⟩) := HRq.out.cell 0
          have y0 : wq.frozen? ⟨w.heap.size, 0, none⟩ = false := HRq.out.frozen 0
          have z1 : wq.cell? ⟨w.heap.size, 1, none⟩ = some (.string ⟨#[]⟩) := HRq.out.cell 1
          have y1 : wq.frozen? ⟨w.heap.size, 1, none⟩ = false := HRq.out.frozen 1
          have z2 : wq.cell? ⟨w.heap.size, 2, none⟩ = some (.bool false) := HRq.out.cell 2
          have y2 : wq.frozen? ⟨w.heap.size, 2, none⟩ = false := HRq.out.frozen 2
          have z3 : wq.cell? ⟨w.heap.size, 3, none⟩ = some (.slice none 0 0) := HRq.out.cell 3
          have y3 : wq.frozen? ⟨w.heap.size, 3, none⟩ = false := HRq.out.frozen 3
          refine wpAnyH_ready (rs := [7]) (by kernel_rfl) (by simp) ?_
          refine AllReadyH.cons rfl (fun K hK => ?_) AllReadyH.nil
          go_simp
          have HZ : Hid (Blk ((((wq.setCell ⟨w.heap.size, 0, none⟩ (.string (str nn))).setCell ⟨w.heap.size, 1, none⟩ (.string (str x.p))).setCell ⟨w.heap.size, 2, none⟩ (.bool false)).setCell ⟨w.heap.size, 3, none⟩ (.slice dA (dropsL nmsP l nn).length dc)) w.heap.size 26 (fdA nn x.p false (.slice dA (dropsL nmsP l nn).length dc))) := (((HRq.out.setCell 0 _).setCell 1 _).setCell 2 _).setCell 3 _
          have HBz : Hid (Below w.heap.size w ((((wq.setCell ⟨w.heap.size, 0, none⟩ (.string (str nn))).setCell ⟨w.heap.size, 1, none⟩ (.string (str x.p))).setCell ⟨w.heap.size, 2, none⟩ (.bool false)).setCell ⟨w.heap.size, 3, none⟩ (.slice dA (dropsL nmsP l nn).length dc))) := ((((more3 HB4.out HB4.out.size HBq).setCell (p := ⟨w.heap.size, 0, none⟩) (Nat.le_refl _) _).setCell (p := ⟨w.heap.size, 1, none⟩) (Nat.le_refl _) _).setCell (p := ⟨w.heap.size, 2, none⟩) (Nat.le_refl _) _).setCell (p := ⟨w.heap.size, 3, none⟩) (Nat.le_refl _) _
          have hne : ∀ ad, dA = some ad → ad.block ≠ w.heap.size := fun ad h => by have h1 := hdn ad h; have h2 : w.heap.size < w4.drew.heap.size := HR4.out.lt; omega
          have HDr : Hid (RowOut ((((wq.setCell ⟨w.heap.size, 0, none⟩ (.string (str nn))).setCell ⟨w.heap.size, 1, none⟩ (.string (str x.p))).setCell ⟨w.heap.size, 2, none⟩ (.bool false)).setCell ⟨w.heap.size, 3, none⟩ (.slice dA (dropsL nmsP l nn).length dc)) (.slice dA (dropsL nmsP l nn).length dc) (dropsL nmsP l nn)) := ⟨_, _, rfl, by have h4 := (((hdr.setOther hne 0 (.string (str nn))).setOther hne 1 (.string (str x.p))).setOther hne 2 (.bool false)).setOther hne 3 (.slice dA (dropsL nmsP l nn).length dc); simpa [World.setCell] using h4⟩
          have hne4 : F ≠ w.heap.size := by omega
          have hFq : wq.cell? ⟨F, 0, none⟩ = some (.string (str x.p)) := hHeld.2
          have HFz : Hid (((((wq.setCell ⟨w.heap.size, 0, none⟩ (.string (str nn))).setCell ⟨w.heap.size, 1, none⟩ (.string (str x.p))).setCell ⟨w.heap.size, 2, none⟩ (.bool false)).setCell ⟨w.heap.size, 3, none⟩ (.slice dA (dropsL nmsP l nn).length dc)).cell? ⟨F, 0, none⟩ = some (.string (str x.p))) := by show _ = _; rw [cell_far _ _ _ _ _ _ hne4, cell_far _ _ _ _ _ _ hne4, cell_far _ _ _ _ _ _ hne4, cell_far _ _ _ _ _ _ hne4]; exact hFq
          clear hFq
          generalize (((wq.setCell ⟨w.heap.size, 0, none⟩ (.string (str nn))).setCell ⟨w.heap.size, 1, none⟩ (.string (str x.p))).setCell ⟨w.heap.size, 2, none⟩ (.bool false)).setCell ⟨w.heap.size, 3, none⟩ (.slice dA (dropsL nmsP l nn).length dc) = wz at *
          refine hK.out _ _ ⟨HBz.out, HFz.out⟩ (fun hHz => ?_)
          clear hK K z0 z1 z2 z3 y0 y1 y2 y3
          try simp only [Act.put, List.getElem_toArray, List.getElem_cons_zero, List.getElem_cons_succ, List.setIfInBounds_toArray, List.set_cons_zero, List.set_cons_succ]
          refine wpAnyH_take (i := 8) (v := ?v8_9) rfl (by kernel_rfl) (by kernel_rfl) (by kernel_rfl) (fun _ _ _ h => h) (Or.inl ⟨by rfl, ?hy8_9⟩) (by assumption) ?_
          case hy8_9 => (intro W hSw; (try dsimp only at hSw); go_simp; (try with_reducible rfl))
          try simp only [Act.put, List.getElem_toArray, List.getElem_cons_zero, List.getElem_cons_succ, List.setIfInBounds_toArray, List.set_cons_zero, List.set_cons_succ]
          refine wpAnyH_done (by kernel_rfl) ?_ _
          go_wp2_with fail
          exact bodyPost_ret (results_cell_tmp (p := 4) (q := 5) rfl _ _ w.heap.size 26 (fdA nn x.p false (.slice dA (dropsL nmsP l nn).length dc)) _ _ rfl rfl HZ.out Tryz.underlying26 rfl (by kernel_rfl)) rfl ⟨_, by rw [HV.out]; rfl, by rw [HV.out]; exact HDr.out, HBz.out⟩
        · have HV : Hid (findL nmsP l ul = (⟨nn, x.p, true, []⟩, 0)) := by show _ = _; rw [hFR, ← hGe.out, endP, if_neg hl0]
          have hln : x.l = nulL := by rcases hlk with h | h; exact absurd h hl0; exact h
          rw [decide_eq_true hln] at e2
          clear hl0 hlk hGe hln
          go_wp2_with (refine wpList_store_row rfl 26 (.tmp 4) (.tmp 52) (by rfl) w.heap.size (fdA nn x.p true (.slice none 0 0)) (by rfl) (by rfl) 26 fd0 HR4.out (by kernel_rfl) rfl (fdA_all _ _ _ _ _ _) ?_)
          exact bodyPost_ret (results_cell_tmp (p := 4) (q := 5) rfl _ _ w.heap.size 26 (fdA nn x.p true (.slice none 0 0)) _ _ rfl rfl (Blk.row HR4.out _) Tryz.underlying26 rfl (by kernel_rfl)) rfl ⟨.slice none 0 0, by rw [HV.out]; rfl, by rw [HV.out]; exact rowOut_nil _, below_setRow HB4.out (Nat.le_refl _) _⟩
      · have HTg := Lib.hid (fun W => target_any x hsx.out nn hnl W)
        have htl := target_len x hsx.out nn
        go_wp2_with fail
        refine (HTg.out _).mono ?_
        rintro e w5 ⟨rfl, hb5⟩
        have HF5 := Lib.hid (HF4.out.below hb5 HF4.out.lt)
        have HR5 := Lib.hid (HR4.out.below hb5 HR4.out.lt)
        have HB5 := Lib.hid (more3 HB4.out HB4.out.size hb5)
        clear hb5 HF4 HR4 HB4 p0 p1 p2 HTg
        have H6 := HFc.out (targetP nmsP x nn) htl w5 HB5.out
        obtain ⟨y, b1, hat, hy⟩ := atV_open (fileP nmsP l (targetP nmsP x nn))
        rw [hat] at H6
        have HLE := Lib.hid hle
        clear hat hle
        go_wp2_with fail
        refine H6.mono ?_
        rintro e w6 ⟨rfl, hb6⟩
        have HF6 := Lib.hid (HF5.out.below hb6 HF5.out.lt)
        have HR6 := Lib.hid (HR5.out.below hb6 HR5.out.lt)
        have HB6 := Lib.hid (more3 HB5.out HB5.out.size hb6)
        have HF7 := Lib.hid (Blk.row HF6.out (fiA y))
        have HR7 := Lib.hid (HR6.out.setRowOther (j := F) (by omega) (fiA y))
        have HB7 := Lib.hid (below_setRow HB6.out (g := F) (by omega) (fiA y))
        clear hb6 HF5 HR5 HB5 H6
        rcases hy with ⟨rfl, hy⟩ | ⟨rfl, hy⟩
        · by_cases hk8 : k = 8
          · obtain rfl : j = 0 := by omega
            have HN : Hid (findL nmsP l ul = (noFd, 17)) := by show _ = _; rw [hFR, ← hGo.out]; exact goP_last HLE.out hy
            subst hk8
            clear hy hj
            generalize targetP nmsP x nn = tg at *
            go_wp2_with (first
              | (refine wpList_store_row rfl 34 (.tmp 6) (.tmp 37) (by rfl) F (fiA y) (by rfl) (by rfl) 34 (fiA x) HF6.out (by kernel_rfl) rfl (fiA_all _) ?_; generalize w6.setRow F (fiA y) = w7 at *)
              | (refine wpList_store_row rfl 26 (.tmp 4) (.tmp 45) (by rfl) w.heap.size fd0 (by rfl) (by rfl) 26 fd0 HR7.out (by kernel_rfl) rfl fd0_all ?_))
            exact bodyPost_ret (results_cell_tmp (p := 4) (q := 5) rfl _ _ w.heap.size 26 fd0 _ _ rfl rfl (Blk.row HR7.out _) Tryz.underlying26 rfl (by kernel_rfl)) rfl (findP_no HN.out (below_setRow HB7.out (Nat.le_refl _) _))
          · have h8 : ((k : Int) == 8) = false := by simp; omega
            have HG2 : Hid (goP nmsP l (9 - (k + 1)) y (targetP nmsP x nn) = r) := by
              show _ = _
              rw [← hGo.out, goP_next HLE.out hy (by omega), show 9 - (k + 1) = j by omega]
            have hsy : Hid (SizeF y) := HS.out y (file_in hy)
            clear hy hGo
            generalize targetP nmsP x nn = tg at *
            go_wp2_with (refine wpList_store_row rfl 34 (.tmp 6) (.tmp 37) (by rfl) F (fiA y) (by rfl) (by rfl) 34 (fiA x) HF6.out (by kernel_rfl) rfl (fiA_all _) ?_; generalize w6.setRow F (fiA y) = w7 at *)
            go_roundw
            case rel => exact ⟨k + 1, y, tg, by omega, htl, rfl, rfl, by go_num, hsy, HG2, HF7, HR7, HB7⟩
            case measure => simp [intOf]; omega
        · have HN : Hid (findL nmsP l ul = (noFd, 17)) := by show _ = _; rw [hFR, ← hGo.out]; exact goP_none HLE.out hy
          clear hy hGo
          generalize targetP nmsP x nn = tg at *
          go_wp2_with (first
            | (refine wpList_store_row rfl 34 (.tmp 6) (.tmp 37) (by rfl) F (fiA y) (by rfl) (by rfl) 34 (fiA x) HF6.out (by kernel_rfl) rfl (fiA_all _) ?_; generalize w6.setRow F (fiA y) = w7 at *)
            | (refine wpList_store_row rfl 26 (.tmp 4) (.tmp 45) (by rfl) w.heap.size fd0 (by rfl) (by rfl) 26 fd0 HR7.out (by kernel_rfl) rfl fd0_all ?_))
          exact bodyPost_ret (results_cell_tmp (p := 4) (q := 5) rfl _ _ w.heap.size 26 fd0 _ _ rfl rfl (Blk.row HR7.out _) Tryz.underlying26 rfl (by kernel_rfl)) rfl (findP_no HN.out (below_setRow HB7.out (Nat.le_refl _) _))
  · have HN : Hid (findL nmsP l ul = (noFd, 6)) := by show _ = _; rw [hFR, HV3.out, hx0]
    clear hx0 HV3
    go_wp2_with (refine wpList_store_row rfl 26 (.tmp 4) (.tmp 25) (by rfl) w.heap.size fd0 (by rfl) (by rfl) 26 fd0 HR3a.out (by kernel_rfl) rfl fd0_all ?_)
    exact bodyPost_ret (results_cell_tmp (p := 4) (q := 5) rfl _ _ w.heap.size 26 fd0 _ _ rfl rfl (Blk.row HR3a.out _) Tryz.underlying26 rfl (by kernel_rfl)) rfl (findP_no HN.out (below_setRow HB3a.out (Nat.le_refl _) _))
end Go.Proofs.YthodbeeglkedcaaGreat
