/- The walk of package disk's drops. -/
import Derived.Test.YthodbeeglkedcaaGreatDzbm
import Derived.Test.YthodbeeglkedcaaGreatDzbn
namespace Go.Proofs.YthodbeeglkedcaaGreat
open Go.RowKit Go.WideMaps Go.Maps
def DropsN (l : List Fi) (u : List UInt8) (w : World) (e : Ending) (w' : World) : Prop := ∃ v, e = .returned v ∧ RowNew w.heap.size w' v (dropsL nmsP l u) ∧ Below w.heap.size w w'
set_option maxRecDepth 100000 in
set_option maxHeartbeats 16000000 in
theorem drops_any (M : NmsMore nmsP) (A : Option Addr) (n c B : Nat) (l : List Fi) (u : List UInt8) (hu : u.length ≤ 4194304) (w : World) (h : FisAt w B A n l) (hB : B ≤ w.heap.size) (hs : ∀ x ∈ l, SizeF x) (hm : mayL nmsP l = true) :
    Calls Tryz.prog 17 #[.slice A n c, .string (str u)] w (DropsN l u w) := by
  obtain ⟨i0, hi, hz0, hz1, hz2⟩ := info_parts strInfo
  have hl := h.1
  have hn : n ≤ 120 := by have := (may_parts.1 hm).1; omega
  have HMF := Lib.hid (may_parts.1 hm).2.1
  have HL := Lib.hid h
  have HS := Lib.hid hs
  have HM := Lib.hid hm
  have htl : (nmsP.tmpl u).length ≤ 4194304 := by
    show (Nm.tmplS (str u)).data.toList.length ≤ _
    rw [size_list]
    exact tmplG_size u
  have HT := Lib.hid (fun W => tmpl_any u hu W)
  have HSIX := Lib.hid (fldsO_all u)
  have HXS := Lib.hid (fun x => six_has nmsOk M hm u x)
  have HDR := Lib.hid (drops_eq nmsOk M hm u (xs_rises l u) (fun x => (six_has nmsOk M hm u x).symm))
  have hmm := @run_makeMap Tryz.prog
  clear h hs hm
  have HM0 : Hid (MapT (w.alloc (.map #[] 0)) w.heap.size 0 (fun _ => [])) := mapT_made w
  have HB0 : Hid (Below w.heap.size w (w.alloc (.map #[] 0))) := (Below.refl _ w).alloc (Nat.le_refl _) _
  have hb0 : (w.alloc (.map #[] 0)).heap.size = w.heap.size + 1 := by simp
  generalize hT : nmsP.tmpl u = t at *
  clear hT
  unfold DropsN
  go_enter Tryz.func17, Tryz.ntmps17
  go_wp2_with fail
  generalize w.alloc (.map #[] 0) = w0 at *
  refine (HT.out _).mono ?_
  rintro e1 w1 ⟨rfl, hb1⟩
  have hs1 := hb1.size
  have HM1 := Lib.hid (HM0.out.below hb1)
  have HB1 := Lib.hid (more3 HB0.out HB0.out.size hb1)
  clear hb1 HM0 HB0 HT
  have HO1 : Hid (RowAt (w1.alloc (.cells #[.string (str u), .string (str t)] 9)) (w1.alloc (.cells #[.string (str u), .string (str t)] 9)).heap.size (some ⟨w1.heap.size, 0, none⟩) 2 [u, t]) := rowAt_new w1 9 [u, t] (by show 2 ≤ maxLen; decide)
  have HM1a : Hid (MapT (w1.alloc (.cells #[.string (str u), .string (str t)] 9)) w.heap.size 0 (fun _ => [])) := HM1.out.below ((Below.refl _ w1).alloc (Nat.le_refl _) _)
  have HB1a : Hid (Below w.heap.size w (w1.alloc (.cells #[.string (str u), .string (str t)] 9))) := HB1.out.alloc HB1.out.size _
  have hs1a : (w1.alloc (.cells #[.string (str u), .string (str t)] 9)).heap.size = w1.heap.size + 1 := by simp
  clear HM1 HB1
  go_wp2_with fail
  generalize w1.alloc (.cells #[.string (str u), .string (str t)] 9) = wa at *
  go_loopw [25] (fun i wr => ∃ (o : Nat), o ≤ 2 ∧ i = .int .i64 o ∧ Hid (MapT wr w.heap.size (360 * o) (whrL l (fldsO u t o))) ∧ Hid (wa.grownBy wr (some w.heap.size))) (fun i wr => 2 - (intOf i).toNat)
  case atStart => exact ⟨0, by omega, rfl, HM1a.out.same (fun p => rfl), World.grownBy.refl _ _⟩
  case round =>
    obtain ⟨o, ho, rfl, hMo, hGo⟩ := hrel
    have hgs := hGo.out.size
    by_cases hlt : o < 2
    · have b0 : (0 : Int) ≤ (o : Int) := by omega
      have b1 : (o : Int) < 2 := by omega
      obtain ⟨ad, v, hA, hab, hv, q0⟩ := (rowAt_only HO1.out hGo.out (by omega)).at_ hlt
      injection hA with hA
      subst hA
      rw [add_cellO] at q0
      have hvl : v.length ≤ 4194304 := by
        have := List.mem_of_getElem? hv
        rcases List.mem_cons.1 this with rfl | this
        · exact hu
        · rw [List.mem_singleton.1 this]; exact htl
      have hvs : (str v).size ≤ 4194304 := by rw [str_size]; exact hvl
      have HFO := Lib.hid (fldsO_succ (t := t) (u := u) hv)
      clear hv
      go_wp2_with fail
      refine (dPlaces_at _).mono ?_
      rintro e2 w2 ⟨pc, rfl, hP2, hb2⟩
      have HP2 := Lib.hid hP2
      have HM2 := Lib.hid (hMo.out.below hb2)
      have HG2 := Lib.hid (hGo.out.trans (only_of_below hb2 (some w.heap.size)))
      have hs2 := hb2.size
      have hpl2 : wr.heap.size ≠ w.heap.size := by omega
      clear hP2 hb2 hMo hGo q0
      go_wp2_with fail
      generalize hWP : wr.heap.size = wp at *
      clear hWP
      generalize fldsO u t o = F at *
      go_loopw [31] (fun i wr => ∃ (q : Nat), q ≤ 3 ∧ i = .int .i64 q ∧ Hid (MapT wr w.heap.size (360 * o + 120 * q) (whrL l (fldsQ F v q))) ∧ Hid (w2.grownBy wr (some w.heap.size))) (fun i wr => 3 - (intOf i).toNat)
      case atStart => exact ⟨0, by omega, rfl, HM2.out.same (fun p => by rw [fldsQ_zero]), World.grownBy.refl _ _⟩
      case round =>
        obtain ⟨q, hq, rfl, hMq, hGq⟩ := hrel
        have hgs2 := hGq.out.size
        by_cases hlt2 : q < 3
        · have d0 : (0 : Int) ≤ (q : Int) := by omega
          have d1 : (q : Int) < 3 := by omega
          obtain ⟨ad, a, hA, hab2, ha, q0⟩ := (rowAt_only HP2.out hGq.out hpl2).at_ hlt2
          injection hA with hA
          subst hA
          rw [add_cellO] at q0
          have hsz : (str a).size = 3 := by rw [str_size]; exact plc_len ha
          have k1 : (str a).size + 1 ≤ 9223372036854775807 := by omega
          have k2 : (str a).size + 1 + (str v).size ≤ 9223372036854775807 := by omega
          have k3 : (str a).size + 1 + (str v).size + 3 ≤ 9223372036854775807 := by omega
          have hap := List.mem_of_getElem? ha
          have HFQ := Lib.hid (fldsQ_succ (F := F) (v := v) ha)
          have HC : Hid (∀ (p : List UInt8) (W : World), Calls Tryz.prog 35 #[.string (str p), .string (str a ++ (⟨#[47]⟩ : ByteArray) ++ str v ++ (⟨#[46, 100, 47]⟩ : ByteArray))] W fun e w' => e = .returned (.tuple #[.string (str (cutPre p (foldD v a))), .bool (decide (foldD v a <+: p))]) ∧ W = w') := by
            intro p W
            rw [fd_str]
            exact cutPre_any p (foldD v a) W
          clear ha hsz
          go_wp2_with fail
          generalize hvs' : str a ++ (⟨#[47]⟩ : ByteArray) ++ str v ++ (⟨#[46, 100, 47]⟩ : ByteArray) = vs at *
          clear hvs' k1 k2 k3 q0
          generalize fldsQ F v q = FQ at *
          have hgb := hGq.out.size
          go_loopw [42] (fun i wq => ∃ (j : Nat), j ≤ n ∧ i = .int .i64 j ∧ Hid (MapT wq w.heap.size (360 * o + 120 * q + j) (gK l FQ v a j)) ∧ Hid (w2.grownBy wq (some w.heap.size))) (fun i wq => n - (intOf i).toNat)
          case atStart => exact ⟨0, Nat.zero_le _, rfl, hMq.out.same (fun p => (gK_zero l FQ v a p).symm), hGq⟩
          case round =>
            obtain ⟨j, hj, rfl, hMj, hGj⟩ := hrel
            have hgs3 := hGj.out.size
            by_cases hjt : j < n
            · have f0 : (0 : Int) ≤ (j : Int) := by omega
              have f1 : (j : Int) < (n : Int) := by omega
              have HBj := Lib.hid (below_only HB1a.out (HG2.out.trans hGj.out) (Nat.le_refl _) HB1a.out.size)
              obtain ⟨ad3, x, rfl, hab3, hx, r0, r1, r2⟩ := (HL.out.below (HBj.out.mono hB)).at_ hjt
              have z1 : (ad3.add (j * 3)).block < wr.heap.size := by rw [block_addR]; have := HBj.out.size; omega
              have hxm := List.mem_of_getElem? hx
              have hxp := (HS.out x hxm).1
              have HMx := Lib.hid (HMF.out x hxm)
              have HX := Lib.hid hx
              clear hx hxm
              have HMf : Hid (MapT (wr.alloc (.cells #[.string (str x.p), .string (str x.t), .string (str x.l)] 34)) w.heap.size (360 * o + 120 * q + j) (gK l FQ v a j)) := hMj.out.below ((Below.refl _ wr).alloc (Nat.le_refl _) _)
              have HGf : Hid (w2.grownBy (wr.alloc (.cells #[.string (str x.p), .string (str x.t), .string (str x.l)] 34)) (some w.heap.size)) := hGj.out.trans (only_of_below ((Below.refl _ wr).alloc (Nat.le_refl _) _) _)
              have c0 : (wr.alloc (.cells #[.string (str x.p), .string (str x.t), .string (str x.l)] 34)).cell? ⟨wr.heap.size, 0, none⟩ = some (.string (str x.p)) := (Blk.new wr 34 #[.string (str x.p), .string (str x.t), .string (str x.l)]).cell 0
              go_wp2_with fail
              generalize wr.alloc (.cells #[.string (str x.p), .string (str x.t), .string (str x.l)] 34) = wf at *
              refine (HC.out x.p _).mono ?_
              rintro e3 w3 ⟨rfl, rfl⟩
              have hcl := cutPre_len x.p (foldD v a)
              have HTr := Lib.hid (fun W => trimSuf_any (cutPre x.p (foldD v a)) (by unfold maxLen; omega) W)
              clear r0 r1 r2 hMj hGj z1
              go_wp2_with fail
              refine (HTr.out _).mono ?_
              rintro e4 w4 ⟨rfl, rfl⟩
              clear HTr
              by_cases hpre : foldD v a <+: x.p
              · obtain ⟨y, hy1, hy2, hy3⟩ := in_drops nmsOk HMx.out hap hpre
                have hty : trimC (cutPre x.p (foldD v a)) = y := by unfold cutPre; rw [if_pos hpre]; exact hy3
                have hyl : y.length ≤ maxLen := by
                  have := trimC_len (cutPre x.p (foldD v a))
                  rw [hty] at this
                  unfold maxLen; omega
                rw [decide_eq_true hpre, hty]
                have hlk := HMf.out.look y hyl
                have e0 := eq_nil (gK l FQ v a j y)
                have HY1 := Lib.hid hy1
                have hx0 : x.p ≠ [] := by rw [hy1]; exact dropP_no _ _ _
                clear hpre hty hy1 hy2 hy3 hcl
                by_cases hg0 : gK l FQ v a j y = []
                · have HPU := Lib.hid (fun z => gK_put HX.out HY1.out hg0 z)
                  rw [decide_eq_true hg0] at e0
                  have hnm : 360 * o + 120 * q + j < maxLen := by unfold maxLen; omega
                  have hxm : x.p.length ≤ maxLen := by unfold maxLen; omega
                  generalize hGY : gK l FQ v a j y = gy at *
                  clear hg0 hGY
                  go_wp2_with (refine wpList_putT rfl (.tmp 62) (.tmp 63) (.tmp 65) rfl w.heap.size (360 * o + 120 * q + j) (gK l FQ v a j) rfl HMf.out hnm y x.p hyl hxm hx0 rfl rfl ?_; intro w5 hM5 hg5)
                  have HM5 := Lib.hid (hM5.same HPU.out)
                  have HG5 := Lib.hid (HGf.out.trans hg5)
                  clear hM5 hg5
                  go_wp2_with fail
                  go_roundw
                  case rel => exact ⟨j + 1, by omega, by go_num, HM5, HG5⟩
                  case measure => simp [intOf]; omega
                · have HM5 := Lib.hid (HMf.out.same (fun z => gK_had HX.out HY1.out hg0 z))
                  rw [decide_eq_false hg0] at e0
                  generalize gK l FQ v a j y = gy at *
                  clear hg0
                  go_wp2_with fail
                  go_roundw
                  case rel => exact ⟨j + 1, by omega, by go_num, HM5.out.mono (by omega), HGf⟩
                  case measure => simp [intOf]; omega
              · have HM5 := Lib.hid (HMf.out.same (fun z => gK_skip HX.out hpre z))
                rw [decide_eq_false hpre]
                generalize trimC (cutPre x.p (foldD v a)) = tx at *
                clear hpre
                go_wp2_with fail
                go_roundw
                case rel => exact ⟨j + 1, by omega, by go_num, HM5.out.mono (by omega), HGf⟩
                case measure => simp [intOf]; omega
            · obtain rfl : j = n := by omega
              have HM4 := Lib.hid ((hMj.out.same (g := whrL l (fldsQ F v (q + 1))) (fun p => by rw [HFQ.out, ← whr_snoc, hl])).mono (m := 360 * o + 120 * (q + 1)) (by omega))
              clear hjt
              go_wp2_with fail
              go_roundw
              case rel => exact ⟨q + 1, by omega, by go_num, HM4, hGj⟩
              case measure => simp [intOf]; omega
        · obtain rfl : q = 3 := by omega
          have HM5 := Lib.hid ((hMq.out.same (g := whrL l (fldsO u t (o + 1))) (fun p => by rw [HFO.out])).mono (m := 360 * (o + 1)) (by omega))
          have HG5 := Lib.hid (HG2.out.trans hGq.out)
          clear hlt2
          go_wp2_with fail
          go_roundw
          case rel => exact ⟨o + 1, by omega, by go_num, HM5, HG5⟩
          case measure => simp [intOf]; omega
    · obtain rfl : o = 2 := by omega
      have HMx := Lib.hid (hMo.out.same (g := whrL l (sixF nmsP u)) (fun p => by rw [HSIX.out]))
      have HBx := Lib.hid (below_only HB1a.out hGo.out (Nat.le_refl _) HB1a.out.size)
      have hbx := HBx.out.size
      have hmx := HMx.out.lt
      obtain ⟨D, hD, s1, s2, hss⟩ := HMx.out.sorted (by omega) (xs_rises l u) (fun x => (HXS.out x).symm)
      have HKy := Lib.hid ((callsIn_wide (n := 5)).1 (Tryz.maps_Keys_38 (some w.heap.size) wr))
      have HSo := Lib.hid ((callsIn_wide (n := 5)).1 (Tryz.slices_Sorted_keys_37_38 w.heap.size _ D _ wr hD s1 s2))
      have HSS := Lib.hid hss
      have hxl : (xsL nmsP l u).length ≤ 120 := by
        have := takeL_len (fun w => decide (w.k = 2) && decide (w.u ∈ foldsL nmsP u)) l []
        have h2 : (xsL nmsP l u).length ≤ 0 + l.length := this
        omega
      have HXL : Hid (∀ x ∈ xsL nmsP l u, x.length ≤ maxLen) := fun x hx => by
        obtain ⟨f, hf, h1, h2, h3⟩ := xs_mem.1 hx
        obtain ⟨_, _, p3, _⟩ := path_two h1
        rw [h3] at p3
        unfold dropN at p3
        rw [Bool.and_eq_true, decide_eq_true_eq] at p3
        unfold maxLen; omega
      clear hlt hMo hGo hD s1 s2 hss HSIX HXS HMF HL HS HO1 HM1a HB1a
      generalize whrL l (sixF nmsP u) = fx at *
      generalize xsL nmsP l u = xs at *
      go_wp2_with fail
      refine HKy.out.mono ?_
      rintro e5 w5 ⟨rfl, rfl⟩
      have HM5 : Hid (MapT (wr.alloc (.cells #[.map (some w.heap.size)] 60)) w.heap.size 720 fx) := HMx.out.below ((Below.refl _ wr).alloc (Nat.le_refl _) _)
      have HB5 : Hid (Below w.heap.size w (wr.alloc (.cells #[.map (some w.heap.size)] 60))) := HBx.out.alloc hbx _
      clear HKy
      go_wp2_with fail
      refine HSo.out.mono ?_
      rintro e6 w6 ⟨v6, ss, rfl, hperm, hrow, _, hb6⟩
      obtain ⟨hsort, hlen⟩ := HSS.out ss hperm
      have HO6 : OwnT w6 (wr.alloc (.cells #[.map (some w.heap.size)] 60)).heap.size v6 xs := by
        rw [hsort, hlen] at hrow
        exact hrow
      obtain ⟨A6, c6, rfl, hr6⟩ := own_row HO6 (by unfold maxLen; omega)
      have HM6 := Lib.hid (HM5.out.below hb6)
      have HB6 := Lib.hid (more3 HB5.out HB5.out.size hb6)
      have HR6 := Lib.hid hr6
      have hb6s := HB6.out.size
      have hm6 := HM6.out.lt
      clear hperm hrow hb6 hsort hlen HO6 hr6 HM5 HB5 HSo HSS HMx HBx
      obtain ⟨m, hmm2⟩ : ∃ m, xs.length = m := ⟨_, rfl⟩
      rw [hmm2] at HR6
      rw [hmm2]
      rw [hmm2] at hxl
      go_wp2_with fail
      go_loopw [16, 73] (fun p i wx => ∃ (k : Nat) (ys : List (List UInt8)), k ≤ m ∧ ys.length = k ∧ i = .int .i64 k ∧ Hid (ys = (xs.take k).map fx) ∧ Hid (OwnT wx w6.heap.size p ys) ∧ Hid (Below w6.heap.size w6 wx)) (fun p i wx => m - (intOf i).toNat)
      case atStart => exact ⟨0, [], Nat.zero_le _, rfl, rfl, rfl, World.ownsRow_nil _ _ _ _, Below.refl _ _⟩
      case round =>
        obtain ⟨k, ys, hk, hyl, rfl, hY, hO, hb⟩ := hrel
        have hbs := hb.out.size
        by_cases hkt : k < m
        · have g0 : (0 : Int) ≤ (k : Int) := by omega
          have g1 : (k : Int) < (m : Int) := by omega
          obtain ⟨ad, x, rfl, hab, hx, q0⟩ := (HR6.out.below hb.out).at_ hkt
          have hxx := HXL.out x (List.mem_of_getElem? hx)
          have hlk := (HM6.out.below hb.out).look x hxx
          have HY2 : Hid (ys ++ [fx x] = (xs.take (k + 1)).map fx) := by show _ = _; rw [map_take fx hx, hY.out]
          have hOa := hO
          have z1 : (ad.add k).block < wr.heap.size := by rw [block_addR]; omega
          clear hx
          generalize fx x = nx at *
          go_wp2_with (at_builtin; refine wpList_append_own _ rfl _ _ 24 rfl w6.heap.size 9 i0 (.string ⟨#[]⟩) 1 16 Tryz.underlying24 hi hz0 hz1 hz2 rfl (by decide) _ _ _ rfl (hOa.out.alloc _) ⟨wr.heap.size, 0, none⟩ 1 1 [.string (str nx)] rfl rfl ?a1 ?b1 ?c1 ?d1 ?e1 ?_)
          case a1 =>
            intro j u hj
            match j, hj with
            | 0, hj =>
              simp at hj
              subst hj
              simp [Addr.add]
          case b1 => intro u hu; simp at hu; subst hu; rfl
          case c1 => unfold maxLen; omega
          case d1 => omega
          case e1 => simp; omega
          intro v7 w7 own7 grow7 _
          have hO7 : Hid (OwnT w7 w6.heap.size v7 (ys ++ [nx])) := by
            show World.ownsRow _ _ _ _ _ _ _
            rw [wcells_app, one_cellT]; simpa only [List.length_append, List.length_cons, List.length_nil, Nat.zero_add, hyl] using own7
          have hb7 : Hid (Below w6.heap.size w6 w7) := (hb.out.alloc hbs _).grown grow7 (by simp; omega) (fun g hg => (hOa.out.lt g hg).1)
          clear own7 grow7
          go_wp2_with fail
          go_roundw
          case rel => exact ⟨k + 1, ys ++ [nx], by omega, by rw [List.length_append, List.length_singleton]; omega, by go_num, HY2, hO7, hb7⟩
          case measure => simp [intOf]; omega
        · obtain rfl : k = m := by omega
          have HRN : Hid (∀ vv, OwnT wr w6.heap.size vv ys → RowNew w.heap.size wr vv (dropsL nmsP l u)) := fun vv hv => by
            have e : ys = dropsL nmsP l u := by rw [hY.out, ← HDR.out, List.take_of_length_le (by omega)]
            rw [← e]
            exact own_new hv (by unfold maxLen; omega) hb6s
          have HBE := Lib.hid (more3 HB6.out hb6s hb.out)
          have HRE := Lib.hid (HRN.out _ hO.out)
          clear hkt HRN
          go_wp2_with fail
          go_ret
          exact ⟨_, rfl, HRE.out, HBE.out⟩
end Go.Proofs.YthodbeeglkedcaaGreat
