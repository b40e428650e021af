/- The walk of GraphAsks. The walk of GraphMirror. -/
import Derived.Test.YtcoepioahabbdaaGreatGybq
import Derived.Test.YtcoepioahabbdaaGreatGybp
import Derived.Test.YtcoepioahabbdaaGreatGyaf
namespace Go.Proofs.YtcoepioahabbdaaGreat
open Go.RowKit
theorem may_few {ns : List Nd} {es : List Ed} (h : MayG kT ns es) : es.length ≤ 40960 := by
  refine few_edges (ns := ns.map (·.n)) h.erise (by rw [List.length_map]; exact h.few) fun e he => ?_
  obtain ⟨⟨a, h1, _⟩, h2, _, h3⟩ := h.edge e he
  exact ⟨nodeB_mem (by unfold nodeB; rw [h1]; rfl), nodeB_mem h2, h3⟩
structure AsH (w W : World) (b n1 n2 : Nat) (NA EA : Option Addr) (nc ec : Nat) (ns : List Nd) (es : List Ed) (a : Nd) : Prop where
  gr : GrAt W b #[.slice NA ns.length nc, .slice EA es.length ec] ns es
  k : Blk W b 29 #[.slice NA ns.length nc, .slice EA es.length ec]
  k1 : Blk W n1 32 (ndA a)
  k2 : Blk W n2 32 (ndA a)
  below : Below w.heap.size w W
theorem AsH.call {w W W' : World} {b n1 n2 : Nat} {NA EA : Option Addr} {nc ec : Nat} {ns : List Nd} {es : List Ed} {a : Nd} (h : AsH w W b n1 n2 NA EA nc ec ns es a) (hb : Below W.heap.size W W') : AsH w W' b n1 n2 NA EA nc ec ns es a :=
  ⟨h.gr.below (hb.mono (Nat.le_of_lt h.k.lt)), h.k.below hb h.k.lt, h.k1.below hb h.k1.lt, h.k2.below hb h.k2.lt, more3 h.below h.below.size hb⟩
end Go.Proofs.YtcoepioahabbdaaGreat
namespace Go.Proofs.YtcoepioahabbdaaGreat
open Go.RowKit
structure MiH (w W : World) (b : Nat) (NA EA : Option Addr) (nc ec : Nat) (ns : List Nd) (es : List Ed) : Prop where
  gr : GrAt W b #[.slice NA ns.length nc, .slice EA es.length ec] ns es
  k : Blk W b 29 #[.slice NA ns.length nc, .slice EA es.length ec]
  below : Below w.heap.size w W
theorem MiH.call {w W W' : World} {b : Nat} {NA EA : Option Addr} {nc ec : Nat} {ns : List Nd} {es : List Ed} (h : MiH w W b NA EA nc ec ns es) (hb : Below W.heap.size W W') : MiH w W' b NA EA nc ec ns es :=
  ⟨h.gr.below (hb.mono (Nat.le_of_lt h.k.lt)), h.k.below hb h.k.lt, more3 h.below h.below.size hb⟩
theorem MiH.nds {w W : World} {b : Nat} {NA EA : Option Addr} {nc ec : Nat} {ns : List Nd} {es : List Ed} (h : MiH w W b NA EA nc ec ns es) : SlAt ndLay W b NA ns.length ns := by
  obtain ⟨NA', nc', EA', ec', he, _, _, _, _, h6, _⟩ := h.gr.form
  have : (Value.slice NA ns.length nc) = .slice NA' ns.length nc' := by
    have := congrArg (fun a => a[0]?) he
    simpa using this
  injection this with h1 h2 h3
  rw [h1]
  exact h6
set_option maxRecDepth 10000 in
set_option maxHeartbeats 16000000 in
theorem GraphMirror_any (g : Array Value) (ns : List Nd) (es : List Ed) (rl : Int) (B : Nat) (w : World) (h : GrAt w B g ns es) (hB : B ≤ w.heap.size) (hS : ∀ x ∈ ns, x.n.length ≤ maxLen) :
    Calls Tryz.prog 5 #[.agg g, .int .i64 rl] w fun e w' => e = .returned (.bool true) ∧ Below w.heap.size w w' := by
  have HGR := Lib.hid h
  obtain ⟨NA, nc, EA, ec, rfl, h2, h3, h4, h5, h6, h7⟩ := h.form
  have HB0 : Hid (Below w.heap.size w (w.alloc (.cells #[.slice NA ns.length nc, .slice EA es.length ec] 29))) := (Below.refl _ w).alloc (Nat.le_refl _) _
  have HH0 : Hid (MiH w (w.alloc (.cells #[.slice NA ns.length nc, .slice EA es.length ec] 29)) w.heap.size NA EA nc ec ns es) := ⟨(HGR.out.below (HB0.out.mono hB)).wide hB, Blk.new w _ _, HB0.out⟩
  clear h h2 h3 h4 h5 h6 h7 HGR HB0
  go_enter Tryz.func5, Tryz.ntmps5
  go_wp2_with fail
  obtain ⟨w0, hw0⟩ : ∃ w0, w.alloc (.cells #[.slice NA ns.length nc, .slice EA es.length ec] 29) = w0 := ⟨_, rfl⟩
  rw [hw0] at HH0
  rw [hw0]
  obtain ⟨b, hb⟩ : ∃ b, w.heap.size = b := ⟨_, rfl⟩
  rw [hb] at HH0
  rw [hb]
  clear hw0
  refine (shown15_any _).mono ?_
  rintro e w1 ⟨rfl, hb1⟩
  have HH1 := Lib.hid (HH0.out.call hb1)
  clear hb1 HH0
  have e0 := HH1.out.k.cell 0
  have e1 := HH1.out.k.cell 1
  go_wp2_with fail
  refine (oMay15_any _ ns es b w1 HH1.out.gr (Nat.le_of_lt HH1.out.k.lt) hS).mono ?_
  rintro e w2 ⟨r, rfl, hr, hb2⟩
  have HH2 := Lib.hid (HH1.out.call hb2)
  clear hb2 HH1 e0 e1
  cases r with
  | false =>
    go_wp2_with fail
    go_ret
    exact ⟨rfl, HH2.out.below⟩
  | true =>
    have hmay := hr.1 rfl
    have hes := may_few hmay
    have hn64 := hmay.few
    have HM := Lib.hid (mirror hmay rl)
    have hol : ∀ u, (outG es u rl).length ≤ 40960 := fun u => by have := outP_few es u rl es.length; rw [outP_all] at this; omega
    have hil : ∀ u, (inG es u rl).length ≤ 40960 := fun u => by have := inP_few es u rl es.length; rw [inP_all] at this; omega
    have hso : ∀ k, sumN (ns.take k) (fun x => (outG es x.n rl).length) ≤ 2621440 := fun k => by
      have h1 := sum_le (ns.take k) (fun x => (outG es x.n rl).length) 40960 (fun x _ => hol x.n)
      have h2 := (List.take_sublist k ns).length_le
      have h3 : (ns.take k).length * 40960 ≤ 64 * 40960 := Nat.mul_le_mul_right _ (by omega)
      omega
    have hsi : ∀ k, sumN (ns.take k) (fun x => (inG es x.n rl).length) ≤ 2621440 := fun k => by
      have h1 := sum_le (ns.take k) (fun x => (inG es x.n rl).length) 40960 (fun x _ => hil x.n)
      have h2 := (List.take_sublist k ns).length_le
      have h3 : (ns.take k).length * 40960 ≤ 64 * 40960 := Nat.mul_le_mul_right _ (by omega)
      omega
    have HOL := Lib.hid hol
    have HIL := Lib.hid hil
    have HSO := Lib.hid hso
    have HSI := Lib.hid hsi
    clear hr hmay hol hil hso hsi
    have e0 := HH2.out.k.cell 0
    have e1 := HH2.out.k.cell 1
    go_wp2_with fail
    clear e0 e1
    have HZ0 : Hid (((sumN (ns.take 0) (fun x => (outG es x.n rl).length) : Nat) : Int) - ((sumN (ns.take 0) (fun x => (inG es x.n rl).length) : Nat) : Int) = 0) := rfl
    go_loopw [5, 18] (fun p i wr => ∃ (v : Int) (k : Nat), k ≤ ns.length ∧ p = .int .i64 v ∧ i = .int .i64 k ∧ Hid (((sumN (ns.take k) (fun x => (outG es x.n rl).length) : Nat) : Int) - ((sumN (ns.take k) (fun x => (inG es x.n rl).length) : Nat) : Int) = v) ∧ Hid (MiH w wr b NA EA nc ec ns es)) (fun p i wr => ns.length - (intOf i).toNat)
    case atStart => exact ⟨0, 0, Nat.zero_le _, rfl, rfl, HZ0, HH2⟩
    case round =>
      clear HZ0 HH2
      obtain ⟨v, k, hk, rfl, rfl, hV, hH⟩ := hrel
      by_cases hlt : k < ns.length
      · have b0 : (0 : Int) ≤ (k : Int) := by omega
        have b1 : (k : Int) < (ns.length : Int) := by omega
        obtain ⟨ad, x, rfl, hab, hx, q0, q1, q2⟩ := nds_at hH.out.nds hlt
        have HX := Lib.hid hx
        have hxl := hS x (List.mem_of_getElem? hx)
        have hv1 := HSO.out k
        have hv2 := HSI.out k
        have hv3 : -2621440 ≤ v ∧ v ≤ 2621440 := by have := hV.out; omega
        clear hx hv1 hv2
        have HHa : Hid (MiH w (wr.alloc (.cells #[.string (str x.n), .int .i64 x.k, .int .i64 x.s] 32)) b (some ad) EA nc ec ns es) := hH.out.call ((Below.refl _ _).alloc (Nat.le_refl _) _)
        have HKa : Hid (Blk (wr.alloc (.cells #[.string (str x.n), .int .i64 x.k, .int .i64 x.s] 32)) wr.heap.size 32 (ndA x)) := Blk.new _ _ _
        have e0 := HHa.out.k.cell 0
        have e1 := HHa.out.k.cell 1
        go_wp2_with fail
        clear e0 e1
        obtain ⟨xb, hxb⟩ : ∃ xb, wr.heap.size = xb := ⟨_, rfl⟩
        obtain ⟨wa, hwa⟩ : ∃ wa, wr.alloc (.cells #[.string (str x.n), .int .i64 x.k, .int .i64 x.s] 32) = wa := ⟨_, rfl⟩
        rw [hwa] at HHa HKa
        rw [hxb] at HKa
        rw [hwa, hxb]
        clear hwa hxb q0 q1 q2 hH
        refine (oOut_any _ ns es x.n rl b wa HHa.out.gr (Nat.le_of_lt HHa.out.k.lt) (by omega)).mono ?_
        intro e wb hp
        obtain ⟨LA, c1, rfl, hs, hbb⟩ := put_row hp (by have := HOL.out x.n; unfold maxLen; omega)
        have HS1 := Lib.hid hs
        have HHb := Lib.hid (HHa.out.call hbb)
        have HKb := Lib.hid (HKa.out.below hbb HKa.out.lt)
        have hbw := HHb.out.below.size
        clear hp hs hbb HHa HKa
        obtain ⟨m, hm⟩ : ∃ m, (outG es x.n rl).length = m := ⟨_, rfl⟩
        have hml : m ≤ 40960 := by rw [← hm]; exact HOL.out x.n
        rw [hm] at HS1
        rw [hm]
        have HMM := Lib.hid hm
        have HBw : Hid (Below wb.heap.size wb wb) := Below.refl _ _
        clear hm
        go_wp2_with fail
        go_loopw [5, 28] (fun p i wi => ∃ (u : Int) (j : Nat), j ≤ m ∧ p = .int .i64 u ∧ i = .int .i64 j ∧ Hid (u = v + (j : Int)) ∧ Hid (Below wb.heap.size wb wi)) (fun p i wi => m - (intOf i).toNat)
        case atStart => exact ⟨v, 0, Nat.zero_le _, rfl, rfl, (by simp : v = v + ((0 : Nat) : Int)), HBw⟩
        case round =>
          clear HBw
          obtain ⟨u, j, hj, rfl, rfl, hU, hW⟩ := hrel
          obtain ⟨wi, hren⟩ : ∃ wi, wi = wr := ⟨wr, rfl⟩
          subst hren
          have hU2 : u = v + (j : Int) := hU.out
          by_cases hlt2 : j < m
          · have c0 : (0 : Int) ≤ (j : Int) := by omega
            have c1' : (j : Int) < (m : Int) := by omega
            have HHi := Lib.hid (HHb.out.call hW.out)
            have HKi := Lib.hid (HKb.out.below hW.out HKb.out.lt)
            obtain ⟨ad2, y, rfl, hab2, hy, z0⟩ := txs_at ((HS1.out.below hW.out)) hlt2
            have hmem : x.n ∈ inG es y rl := in_mem.2 (out_mem.1 (List.mem_of_getElem? hy))
            have hany : (inG es y rl).any (fun z => decide (z = (str x.n).data.toList)) = true := List.any_eq_true.2 ⟨x.n, hmem, by rw [str_list]; simp⟩
            have HANY := Lib.hid hany
            have hu3 : IntKind.i64.wrap (u + 1) = u + 1 := IntWalk.i64_in _ (by omega)
            clear hy hmem hany hU2
            go_wp2_with fail
            refine wp_region_held_drew (S := fun W => MiH w W b (some ad) EA nc ec ns es ∧ Below wi.heap.size wi W) (by kernel_rfl) ?_ (fun hHeld => ?_)
            · exact ⟨HHi.out.call (Below.refl _ _).drew, (Below.refl _ _).drew⟩
            refine wpAnyH_take (i := 0) (v := ?v0_1) rfl (by kernel_rfl) (by kernel_rfl) (by kernel_rfl) (fun _ _ _ h => h) (Or.inl ⟨by rfl, ?hy0_1⟩) (by assumption) ?_
            case hy0_1 => (intro W hSw; have q0 := hSw.1.k.cell 0; have q1 := hSw.1.k.cell 1; (try dsimp only at hSw); go_simp; (try with_reducible rfl))
            try simp only [Act.put, List.getElem_toArray, List.getElem_cons_zero, List.setIfInBounds_toArray, List.set_cons_zero, List.set_cons_succ]
            refine wpAnyH_take (i := 1) (v := ?v1_1) rfl (by kernel_rfl) (by kernel_rfl) (by kernel_rfl) (fun _ _ _ h => h) (Or.inl ⟨by rfl, ?hy1_1⟩) (by assumption) ?_
            case hy1_1 => (intro W hSw; (try dsimp only at hSw); go_simp; (try with_reducible rfl))
            try simp only [Act.put, List.getElem_toArray, List.getElem_cons_zero, List.getElem_cons_succ, List.setIfInBounds_toArray, List.set_cons_zero, List.set_cons_succ]
            refine wpAnyH_take (i := 2) (v := ?v2_1) rfl (by kernel_rfl) (by kernel_rfl) (by kernel_rfl) (fun _ _ _ h => h) (Or.inl ⟨by rfl, ?hy2_1⟩) (by assumption) ?_
            case hy2_1 => (intro W hSw; (try dsimp only at hSw); go_simp; (try with_reducible rfl))
            try simp only [Act.put, List.getElem_toArray, List.getElem_cons_zero, List.getElem_cons_succ, List.setIfInBounds_toArray, List.set_cons_zero, List.set_cons_succ]
            refine wpAnyH_take (i := 4) (v := ?v4_1) rfl (by kernel_rfl) (by kernel_rfl) (by kernel_rfl) (fun _ _ _ h => h) (Or.inl ⟨by rfl, ?hy4_1⟩) (by assumption) ?_
            case hy4_1 => (intro W hSw; (try dsimp only at hSw); go_simp; (try with_reducible rfl))
            try simp only [Act.put, List.getElem_toArray, List.getElem_cons_zero, List.getElem_cons_succ, List.setIfInBounds_toArray, List.set_cons_zero, List.set_cons_succ]
            refine wpAnyH_take (i := 5) (v := ?v5_1) rfl (by kernel_rfl) (by kernel_rfl) (by kernel_rfl) (fun _ _ _ h => h) (Or.inl ⟨by rfl, ?hy5_1⟩) (by assumption) ?_
            case hy5_1 => (intro W hSw; have p0 : W.cell? ⟨xb, 0, none⟩ = some (.string (str x.n)) := (HKi.out.below hSw.2 HKi.out.lt).cell 0; (try dsimp only at hSw); go_simp; (try with_reducible rfl))
            try simp only [Act.put, List.getElem_toArray, List.getElem_cons_zero, List.getElem_cons_succ, List.setIfInBounds_toArray, List.set_cons_zero, List.set_cons_succ]
            refine wpAnyH_ready (rs := [3]) (by kernel_rfl) (by simp) ?_
            refine AllReadyH.cons rfl (fun K hK => ?_) AllReadyH.nil
            go_simp
            refine (oIn_any _ ns es y rl b _ hHeld.1.gr (Nat.le_of_lt hHeld.1.k.lt) (by omega)).mono ?_
            intro e wd hp
            obtain ⟨LD, c4, rfl, hs, hb⟩ := put_row hp (by have := HIL.out y; unfold maxLen; omega)
            have HS4 := Lib.hid hs
            refine hK.out _ _ ?_ (fun hHeld2 => ?_)
            · exact ⟨hHeld.1.call hb, more3 hHeld.2 hHeld.2.size hb⟩
            clear hK K hHeld hb hs hp
            have hHeld := hHeld2
            clear hHeld2
            try simp only [Act.put, List.getElem_toArray, List.getElem_cons_zero, List.getElem_cons_succ, List.setIfInBounds_toArray, List.set_cons_zero, List.set_cons_succ]
            refine wpAnyH_ready (rs := [6]) (by kernel_rfl) (by simp) ?_
            refine AllReadyH.cons rfl (fun K hK => ?_) AllReadyH.nil
            go_simp
            refine (Has_any LD _ c4 _ _ (str x.n) _ (txs_row.1 HS4.out)).mono ?_
            rintro e we ⟨he, rfl⟩
            rw [HANY.out] at he
            subst he
            refine hK.out _ _ ?_ (fun hHeld2 => ?_)
            · exact hHeld
            clear hK K hHeld HS4
            have hHeld := hHeld2
            clear hHeld2
            try simp only [Act.put, List.getElem_toArray, List.getElem_cons_zero, List.getElem_cons_succ, List.setIfInBounds_toArray, List.set_cons_zero, List.set_cons_succ]
            refine wpAnyH_take (i := 7) (v := ?v7_1) rfl (by kernel_rfl) (by kernel_rfl) (by kernel_rfl) (fun _ _ _ h => h) (Or.inl ⟨by rfl, ?hy7_1⟩) (by assumption) ?_
            case hy7_1 => (intro W hSw; (try dsimp only at hSw); go_simp; (try with_reducible rfl))
            try simp only [Act.put, List.getElem_toArray, List.getElem_cons_zero, List.getElem_cons_succ, List.setIfInBounds_toArray, List.set_cons_zero, List.set_cons_succ]
            refine wpAnyH_done (by kernel_rfl) ?_ _
            have HWJ := Lib.hid hHeld.2
            have HHj := Lib.hid hHeld
            have HBj : Hid (Below wb.heap.size wb _) := hW.out.trans (HWJ.out.mono hW.out.size)
            clear hHeld
            go_wp2_with fail
            go_roundw
            case rel => exact ⟨u + 1, j + 1, by omega, by first | rfl | simp [hu3], by go_num, (by have := hU.out; show u + 1 = v + ((j + 1 : Nat) : Int); omega), HBj⟩
            case measure => simp [intOf]; omega
          · obtain rfl : m = j := by omega
            have HHi := Lib.hid (HHb.out.call hW.out)
            have HKi := Lib.hid (HKb.out.below hW.out HKb.out.lt)
            have e0 := HHi.out.k.cell 0
            have e1 := HHi.out.k.cell 1
            have x0 : wi.cell? ⟨xb, 0, none⟩ = some (.string (str x.n)) := HKi.out.cell 0
            go_wp2_with fail
            clear e0 e1 x0
            refine (oIn_any _ ns es x.n rl b wi HHi.out.gr (Nat.le_of_lt HHi.out.k.lt) (by omega)).mono ?_
            intro e wc hp
            obtain ⟨LC, c3, rfl, hs, hbc⟩ := put_row hp (by have := HIL.out x.n; unfold maxLen; omega)
            have HHc := Lib.hid (HHi.out.call hbc)
            clear hp hs hbc HHi HKi
            have h1 := hV.out
            have h2 : ((sumN (ns.take (k + 1)) (fun x => (outG es x.n rl).length) : Nat) : Int) - ((sumN (ns.take (k + 1)) (fun x => (inG es x.n rl).length) : Nat) : Int) = u - ((inG es x.n rl).length : Int) := by
              rw [sumN_succ HX.out, sumN_succ HX.out]
              have h3 := HMM.out
              omega
            have hil2 := HIL.out x.n
            have hu4 : IntKind.i64.wrap (u - ((inG es x.n rl).length : Int)) = u - ((inG es x.n rl).length : Int) := IntWalk.i64_in _ (by omega)
            have HV2 := Lib.hid h2
            clear h1 h2 hU2 hil2
            go_wp2_with fail
            go_roundw
            case rel => exact ⟨_, k + 1, by omega, rfl, by go_num, HV2, HHc⟩
            case measure => simp [intOf]; omega
      · obtain rfl : k = ns.length := by omega
        have hv0 : v = 0 := by
          have h1 := hV.out
          rw [List.take_of_length_le (Nat.le_refl _), HM.out] at h1
          omega
        have hv1 : (v == 0) = true := by rw [hv0]; rfl
        clear hv0
        go_wp2_with fail
        go_ret
        exact ⟨rfl, hH.out.below⟩
end Go.Proofs.YtcoepioahabbdaaGreat
