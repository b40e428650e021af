/- The walk of the document's own. -/
import Derived.Test.YtcoepioahabbdaaGreatGyas
import Derived.Test.YtcoepioahabbdaaGreatGyau
namespace Go.Proofs.YtcoepioahabbdaaGreat
open Go.RowKit
set_option maxRecDepth 10000 in
set_option maxHeartbeats 16000000 in
theorem gOwn_any (B g mb n : Nat) (L : List LdR) (ns : List Nd) (es : List Ed) (r : LdR) (w : World) (hC : Ctx w B g mb n L) (hM : Mine w B ns r) (hO : Os w w g ns es) (hL : ∀ r ∈ L, Small r.x) :
    Calls Tryz.prog 35 #[.pointer (some ⟨g, 0, none⟩), .agg r.a, .map (some mb)] w (OsPost w g ns (edgesL (nodeB ns) r.x.n es (sayL kT (L.map (·.x)) r.x))) := by
  have hgl := hC.hg
  have hBg := hC.hB
  have hbw : Below w.heap.size w (w.alloc (.cells r.a 53)) := (Below.refl _ w).alloc (Nat.le_refl _) _
  have HC := Lib.hid hC
  have HO := Lib.hid hO
  have HM := Lib.hid hM
  have HBK : Hid (Blk (w.alloc (.cells r.a 53)) w.heap.size 53 r.a) := Blk.new w _ _
  have c0 : (w.alloc (.cells r.a 53)).cell? ⟨w.heap.size, 0, none⟩ = some (.string (str r.x.n)) := box_cell HBK.out hM.is.name
  clear hC hO hM
  go_enter Tryz.func35, Tryz.ntmps35
  go_wp2_with fail
  obtain ⟨w1, hw1⟩ : ∃ w1, w.alloc (.cells r.a 53) = w1 := ⟨_, rfl⟩
  have hs1 : w1.heap.size = w.heap.size + 1 := by rw [← hw1]; simp
  rw [hw1] at HBK c0
  have HB1 : Hid (Below w.heap.size w w1) := by rw [← hw1]; exact hbw
  rw [hw1]
  clear hw1 hbw
  obtain ⟨b, hb⟩ : ∃ b, w.heap.size = b := ⟨_, rfl⟩
  rw [hb] at HBK c0 hs1 hgl
  rw [hb]
  have hbl : b < w1.heap.size := by omega
  refine wp_region_Z (S := fun W => Below w1.heap.size w1 W) (z := 6) (by kernel_rfl) ?_ (fun hHeld => ?_)
  · exact (Below.refl _ _).drew
  refine wpAnyZ_take (i := 0) (v := ?vz0_1) (by kernel_rfl) rfl (by kernel_rfl) (by kernel_rfl) (by kernel_rfl) (fun _ _ _ h => h) (Or.inl ⟨by rfl, ?hz0_1⟩) (by assumption) ?_
  case hz0_1 => (intro W hSw; (try dsimp only at hSw); go_simp; (try with_reducible rfl))
  try simp only [Act.put, List.getElem_toArray, List.getElem_cons_zero, List.setIfInBounds_toArray, List.set_cons_zero, List.set_cons_succ]
  refine wpAnyZ_take (i := 1) (v := ?vz1_1) (by kernel_rfl) rfl (by kernel_rfl) (by kernel_rfl) (by kernel_rfl) (fun _ _ _ h => h) (Or.inl ⟨by rfl, ?hz1_1⟩) (by assumption) ?_
  case hz1_1 => (intro W hSw; have p0 := (Below.cell hSw (p := ⟨b, 0, none⟩) hbl).trans c0; (try dsimp only at hSw); go_simp; (try with_reducible rfl))
  try simp only [Act.put, List.getElem_toArray, List.getElem_cons_zero, List.getElem_cons_succ, List.setIfInBounds_toArray, List.set_cons_zero, List.set_cons_succ]
  refine wpAnyZ_take (i := 2) (v := ?vz2_1) (by kernel_rfl) rfl (by kernel_rfl) (by kernel_rfl) (by kernel_rfl) (fun _ _ _ h => h) (Or.inl ⟨by rfl, ?hz2_1⟩) (by assumption) ?_
  case hz2_1 => (intro W hSw; (try dsimp only at hSw); go_simp; (try with_reducible rfl))
  try simp only [Act.put, List.getElem_toArray, List.getElem_cons_zero, List.getElem_cons_succ, List.setIfInBounds_toArray, List.set_cons_zero, List.set_cons_succ]
  refine wpAnyZ_take (i := 3) (v := .agg r.u) (by kernel_rfl) rfl (by kernel_rfl) (by kernel_rfl) (by kernel_rfl) (fun _ _ _ h => h) (Or.inl ⟨by rfl, ?hz3_1⟩) (by assumption) ?_
  case hz3_1 => (intro W hSw; exact exec_load (by rfl) ⟨b, 5, none⟩ (by rfl) _ W (load_u (w := W) (b := b) r (fun k v hv => (Below.cell hSw (p := ⟨b, k, none⟩) hbl).trans (box_cell HBK.out hv))))
  try simp only [Act.put, List.getElem_toArray, List.getElem_cons_zero, List.getElem_cons_succ, List.setIfInBounds_toArray, List.set_cons_zero, List.set_cons_succ]
  refine wpAnyZ_one (i := 4) (by kernel_rfl) rfl (fun K hK => ?_)
  go_simp
  refine hK.out _ _ (.inr ?_) (fun hHeld2 => ?_)
  · exact hHeld.alloc hHeld.size _
  clear hK K hHeld 
  have hHeld := hHeld2.resolve_left (by decide)
  clear hHeld2
  try simp only [Act.put, List.getElem_toArray, List.getElem_cons_zero, List.getElem_cons_succ, List.setIfInBounds_toArray, List.set_cons_zero, List.set_cons_succ]
  refine wpAnyZ_take (i := 5) (v := ?vz5_1) (by kernel_rfl) rfl (by kernel_rfl) (by kernel_rfl) (by kernel_rfl) (fun _ _ _ h => h) (Or.inl ⟨by rfl, ?hz5_1⟩) (by assumption) ?_
  case hz5_1 => (intro W hSw; (try dsimp only at hSw); go_simp; (try with_reducible rfl))
  try simp only [Act.put, List.getElem_toArray, List.getElem_cons_zero, List.getElem_cons_succ, List.setIfInBounds_toArray, List.set_cons_zero, List.set_cons_succ]
  refine wpAnyZ_one (i := 6) (by kernel_rfl) rfl (fun K hK => ?_)
  rw [if_pos (by rfl)]
  refine wp_store_row 51 (.tmp 7) (.tmp 21) (by rfl) (b + 1) r.u (by rfl) (by rfl) 51 _ (by rw [← hs1]; exact heap_alloc_new _ _) (infoU r) (by rw [r.usize]; rfl) r.uall ?_
  have hsr : ∀ z, (w1.alloc (.cells z 51)).drew.setRow (b + 1) r.u = (w1.alloc (.cells r.u 51)).drew := fun z => by rw [← hs1]; exact heap_alloc_setRow w1.drew z r.u _
  change K (Act.put _ none undef) _
  rw [show ∀ a : Act, a.put none undef = a from fun _ => rfl]
  rw [hsr]
  refine hK.out _ _ (.inl rfl) (fun _ => ?_)
  clear hK K hHeld 
  try simp only [Act.put, List.getElem_toArray, List.getElem_cons_zero, List.getElem_cons_succ, List.setIfInBounds_toArray, List.set_cons_zero, List.set_cons_succ]
  refine wpAnyZ_done (by kernel_rfl) ?_ _
  have hb2 : Below w.heap.size w (w1.alloc (.cells r.u 51)).drew := (HB1.out.alloc HB1.out.size _).drew
  have HU2 : Hid (Blk (w1.alloc (.cells r.u 51)).drew (b + 1) 51 r.u) := by
    have := (Blk.new w1 51 r.u).drew
    rwa [hs1] at this
  have HK2 : Hid (Blk (w1.alloc (.cells r.u 51)).drew b 53 r.a) := (HBK.out.alloc _).drew
  obtain ⟨w2, hw2⟩ : ∃ w2, (w1.alloc (.cells r.u 51)).drew = w2 := ⟨_, rfl⟩
  rw [hw2] at hb2 HU2 HK2
  rw [hw2]
  clear hw2 c0 HBK
  rw [hb] at hb2
  have HG2 : Hid (w.grownBy w2 (some g)) := by have := grown_of_below (g := g) (by rw [hb]; exact hb2 : Below w.heap.size w w2); exact this
  have HZ0 : Hid (Os w2 w2 g ns (edgesL (nodeB ns) r.x.n es (relsK r.x 0))) := by
    have h1 := HO.out.below (by rw [hb]; exact hb2 : Below w.heap.size w w2)
    exact ⟨h1.box, h1.ok, h1.few, World.grownBy.refl _ _⟩
  have HC2 := Lib.hid (HC.out.grown HG2.out)
  have HI2 := Lib.hid (HM.out.is.below ((by rw [hb]; exact hb2 : Below w.heap.size w w2).mono (by omega)))
  have hul := HU2.out.lt
  have hg2 : g < w2.heap.size := by omega
  have hgb : b ≠ g := by omega
  have hgb1 : b + 1 ≠ g := by omega
  obtain ⟨WA, wc, hw1, hw2, hw3, hw4⟩ := HI2.out.wants
  obtain ⟨QA, qc, hr1, hr2, hr3, hr4⟩ := HI2.out.reqs
  obtain ⟨RA, rc, hl1, hl2, hl3, hl4⟩ := HI2.out.rels
  obtain ⟨SA, sc, ht1, ht2, ht3, ht4⟩ := HI2.out.socks
  have HW4 := Lib.hid hw4
  have HQ4 := Lib.hid hr4
  have HR4 := Lib.hid hl4
  have HS4 := Lib.hid ht4
  have u4 : w2.cell? ⟨b + 1, 4, none⟩ = some (.slice RA r.x.rels.length rc) := box_cell HU2.out ((r.uat 4 (by decide)).trans hl1)
  have C40 : Hid (w2.cell? ⟨b, 40, none⟩ = some (.slice WA r.x.wants.length wc)) := box_cell HK2.out hw1
  have C41 : Hid (w2.cell? ⟨b, 41, none⟩ = some (.slice QA r.x.reqs.length qc)) := box_cell HK2.out hr1
  have U20 : Hid (w2.cell? ⟨b + 1, 20, none⟩ = some (.slice SA r.x.socks.length sc)) := box_cell HU2.out ((r.uat 20 (by decide)).trans ht1)
  have U3 : Hid (w2.cell? ⟨b + 1, 3, none⟩ = some (.bool r.x.dflt)) := box_cell HU2.out ((r.uat 3 (by decide)).trans HI2.out.dflt)
  have hm1 := hl4.2.1
  have hm2 := hw4.2.1
  have hm3 := hr4.2.1
  have hm4 := ht4.2.1
  unfold maxLen at hm1 hm2 hm3 hm4
  clear hw1 hw3 hw4 hr1 hr3 hr4 hl1 hl3 hl4 ht1 ht3 ht4 hb2 HC HO HB1 hs1 hbl
  go_wp2_with fail
  go_loopw [25] (fun i wr => ∃ k : Nat, k ≤ r.x.rels.length ∧ i = .int .i64 k ∧ Hid (Os w2 wr g ns (edgesL (nodeB ns) r.x.n es (relsK r.x k)))) (fun i wr => r.x.rels.length - (intOf i).toNat)
  case atStart => exact ⟨0, Nat.zero_le _, rfl, HZ0⟩
  case round =>
    obtain ⟨k, hk, rfl, hOs⟩ := hrel
    by_cases hlt : k < r.x.rels.length
    · have b0 : (0 : Int) ≤ (k : Int) := by omega
      have b1 : (k : Int) < (r.x.rels.length : Int) := by omega
      obtain ⟨ad, e, rfl, hab, hx, q0, q1⟩ := rls_at (HR4.out.keptG hOs.out.grown hBg (Nat.le_of_lt hg2)) hlt
      have HT := Lib.hid (relsK_succ hx)
      clear hx
      obtain ⟨ek, et⟩ := e
      have HOa : Hid (Os w2 (wr.alloc (.cells #[.int .i64 ek, .string (str et)] 56)) g ns (edgesL (nodeB ns) r.x.n es (relsK r.x k))) := hOs.out.alloc _
      by_cases h1 : 1 ≤ ek
      · by_cases h9 : ek ≤ 9
        · have HE : Hid (edgesL (nodeB ns) r.x.n es (relsK r.x (k + 1)) = edgeL (nodeB ns) r.x.n (edgesL (nodeB ns) r.x.n es (relsK r.x k)) (et, ek)) := by show _ = _; rw [HT.out, if_pos ⟨h1, h9⟩, edgesL_snoc]
          clear HT
          go_wp2_with fail
          refine (HOa.out.edge HM.out.node et ek h1 (by omega)).mono ?_
          rintro e w5 ⟨rfl, h5⟩
          have H5 := Lib.hid h5
          clear h5
          go_wp2_with fail
          go_roundw
          case rel => exact ⟨k + 1, by omega, by go_num, by rw [HE.out]; exact H5⟩
          case measure => simp [intOf]; omega
        · have HE : Hid (edgesL (nodeB ns) r.x.n es (relsK r.x (k + 1)) = edgesL (nodeB ns) r.x.n es (relsK r.x k)) := by show _ = _; rw [HT.out, if_neg (by simp; intro; omega), List.append_nil]
          clear HT
          have h9' : 9 < ek := by omega
          clear h9
          go_wp2_with fail
          go_roundw
          case rel => exact ⟨k + 1, by omega, by go_num, by rw [HE.out]; exact HOa⟩
          case measure => simp [intOf]; omega
      · have HE : Hid (edgesL (nodeB ns) r.x.n es (relsK r.x (k + 1)) = edgesL (nodeB ns) r.x.n es (relsK r.x k)) := by show _ = _; rw [HT.out, if_neg (by simp; intro; omega), List.append_nil]
        clear HT
        have h1' : ek < 1 := by omega
        clear h1
        go_wp2_with fail
        go_roundw
        case rel => exact ⟨k + 1, by omega, by go_num, by rw [HE.out]; exact HOa⟩
        case measure => simp [intOf]; omega
    · obtain rfl : k = r.x.rels.length := by omega
      obtain ⟨wz, hren⟩ : ∃ wz, wz = wr := ⟨wr, rfl⟩
      subst hren
      have HZ : Hid (Os w2 wz g ns (edgesL (nodeB ns) r.x.n es (relsC r.x))) := by have h1 := hOs.out; rwa [relsK_all] at h1
      clear hOs
      have hc0 := HZ.out.cell C40.out hgb
      have HZ0 : Hid (Os w2 wz g ns (edgesL (nodeB ns) r.x.n (edgesL (nodeB ns) r.x.n es (relsC r.x)) ((r.x.wants.take 0).map (·, 2)))) := HZ.out
      clear HZ
      go_wp2_with fail
      clear hc0
      go_loopw [48] (fun i wr => ∃ k : Nat, k ≤ r.x.wants.length ∧ i = .int .i64 k ∧ Hid (Os w2 wr g ns (edgesL (nodeB ns) r.x.n (edgesL (nodeB ns) r.x.n es (relsC r.x)) ((r.x.wants.take k).map (·, 2))))) (fun i wr => r.x.wants.length - (intOf i).toNat)
      case atStart => exact ⟨0, Nat.zero_le _, rfl, HZ0⟩
      case round =>
        clear HZ0
        obtain ⟨k, hk, rfl, hOs⟩ := hrel
        by_cases hlt : k < r.x.wants.length
        · have b0 : (0 : Int) ≤ (k : Int) := by omega
          have b1 : (k : Int) < (r.x.wants.length : Int) := by omega
          obtain ⟨ad, et, rfl, hab, hx, q0⟩ := txs_at (HW4.out.keptG hOs.out.grown hBg (Nat.le_of_lt hg2)) hlt
          have HE : Hid (edgesL (nodeB ns) r.x.n (edgesL (nodeB ns) r.x.n es (relsC r.x)) ((r.x.wants.take (k + 1)).map (·, 2)) = edgeL (nodeB ns) r.x.n (edgesL (nodeB ns) r.x.n (edgesL (nodeB ns) r.x.n es (relsC r.x)) ((r.x.wants.take k).map (·, 2))) (et, 2)) := by show _ = _; rw [map_take_succ hx (·, (2 : Int)), edgesL_snoc]
          clear hx
          go_wp2_with fail
          refine (hOs.out.edge HM.out.node et 2 (by decide) (by decide)).mono ?_
          rintro e w5 ⟨rfl, h5⟩
          have H5 := Lib.hid h5
          clear h5
          go_wp2_with fail
          go_roundw
          case rel => exact ⟨k + 1, by omega, by go_num, by rw [HE.out]; exact H5⟩
          case measure => simp [intOf]; omega
        · obtain rfl : k = r.x.wants.length := by omega
          obtain ⟨wz, hren⟩ : ∃ wz, wz = wr := ⟨wr, rfl⟩
          subst hren
          have HZ : Hid (Os w2 wz g ns (edgesL (nodeB ns) r.x.n (edgesL (nodeB ns) r.x.n es (relsC r.x)) (r.x.wants.map (·, 2)))) := by have h1 := hOs.out; rwa [List.take_of_length_le (Nat.le_refl _)] at h1
          clear hOs
          have hc0 := HZ.out.cell C41.out hgb
          have HZ0 : Hid (Os w2 wz g ns (edgesL (nodeB ns) r.x.n (edgesL (nodeB ns) r.x.n (edgesL (nodeB ns) r.x.n es (relsC r.x)) (wantsC r.x)) ((r.x.reqs.take 0).map (·, 1)))) := HZ.out
          clear HZ
          go_wp2_with fail
          clear hc0
          go_loopw [60] (fun i wr => ∃ k : Nat, k ≤ r.x.reqs.length ∧ i = .int .i64 k ∧ Hid (Os w2 wr g ns (edgesL (nodeB ns) r.x.n (edgesL (nodeB ns) r.x.n (edgesL (nodeB ns) r.x.n es (relsC r.x)) (wantsC r.x)) ((r.x.reqs.take k).map (·, 1))))) (fun i wr => r.x.reqs.length - (intOf i).toNat)
          case atStart => exact ⟨0, Nat.zero_le _, rfl, HZ0⟩
          case round =>
            clear HZ0
            obtain ⟨k, hk, rfl, hOs⟩ := hrel
            by_cases hlt : k < r.x.reqs.length
            · have b0 : (0 : Int) ≤ (k : Int) := by omega
              have b1 : (k : Int) < (r.x.reqs.length : Int) := by omega
              obtain ⟨ad, et, rfl, hab, hx, q0⟩ := txs_at (HQ4.out.keptG hOs.out.grown hBg (Nat.le_of_lt hg2)) hlt
              have HE : Hid (edgesL (nodeB ns) r.x.n (edgesL (nodeB ns) r.x.n (edgesL (nodeB ns) r.x.n es (relsC r.x)) (wantsC r.x)) ((r.x.reqs.take (k + 1)).map (·, 1)) = edgeL (nodeB ns) r.x.n (edgesL (nodeB ns) r.x.n (edgesL (nodeB ns) r.x.n (edgesL (nodeB ns) r.x.n es (relsC r.x)) (wantsC r.x)) ((r.x.reqs.take k).map (·, 1))) (et, 1)) := by show _ = _; rw [map_take_succ hx (·, (1 : Int)), edgesL_snoc]
              clear hx
              go_wp2_with fail
              refine (hOs.out.edge HM.out.node et 1 (by decide) (by decide)).mono ?_
              rintro e w5 ⟨rfl, h5⟩
              have H5 := Lib.hid h5
              clear h5
              go_wp2_with fail
              go_roundw
              case rel => exact ⟨k + 1, by omega, by go_num, by rw [HE.out]; exact H5⟩
              case measure => simp [intOf]; omega
            · obtain rfl : k = r.x.reqs.length := by omega
              obtain ⟨wz, hren⟩ : ∃ wz, wz = wr := ⟨wr, rfl⟩
              subst hren
              have HZ : Hid (Os w2 wz g ns (edgesL (nodeB ns) r.x.n (edgesL (nodeB ns) r.x.n (edgesL (nodeB ns) r.x.n es (relsC r.x)) (wantsC r.x)) (r.x.reqs.map (·, 1)))) := by have h1 := hOs.out; rwa [List.take_of_length_le (Nat.le_refl _)] at h1
              clear hOs
              obtain ⟨ut, hut, hwk⟩ := HI2.out.wake
              have HWK := Lib.hid hwk
              have HUI : Hid (UIs r.u r.x.un ut r.x.uk) := ⟨(r.uat 0 (by decide)).trans HI2.out.un, (r.uat 1 (by decide)).trans HI2.out.uk, (r.uat 24 (by decide)).trans hut⟩
              clear hut hwk
              have hsz : (str r.x.n).size ≤ maxLen := by rw [str_size]; exact HM.out.small.n
              go_wp2_with fail
              refine (Nm.Of_any (str r.x.n) hsz _).mono ?_
              rintro e wy ⟨rfl, hb5⟩
              have HY := Lib.hid (HZ.out.below hb5)
              clear hb5 HZ
              have HZ := HY
              clear HY
              have q0 := fun w => Nm.fld0 (Nm.kindP (str r.x.n)) (Nm.preP (str r.x.n)) (Nm.instP (str r.x.n)) (Nm.atP (str r.x.n)) w
              obtain ⟨kk, hkk⟩ : ∃ kk, kT r.x.n = kk := ⟨_, rfl⟩
              rw [show Nm.kindP (str r.x.n) = kk from hkk] at q0 ⊢
              by_cases k1 : kk = 1
              · subst k1
                obtain ⟨wz, hren⟩ : ∃ wz, wz = wy := ⟨wy, rfl⟩
                subst hren
                have hc0 := HZ.out.cell U20.out hgb1
                have HZ0 : Hid (Os w2 wz g ns (edgesL (nodeB ns) r.x.n (edgesL (nodeB ns) r.x.n (edgesL (nodeB ns) r.x.n (edgesL (nodeB ns) r.x.n es (relsC r.x)) (wantsC r.x)) (reqsC r.x)) ((r.x.socks.take 0).flatMap (fun s => [(s, 2), (s, 8)])))) := HZ.out
                clear HZ
                go_wp2_with fail
                clear hc0
                go_loopw [94] (fun i wr => ∃ k : Nat, k ≤ r.x.socks.length ∧ i = .int .i64 k ∧ Hid (Os w2 wr g ns (edgesL (nodeB ns) r.x.n (edgesL (nodeB ns) r.x.n (edgesL (nodeB ns) r.x.n (edgesL (nodeB ns) r.x.n es (relsC r.x)) (wantsC r.x)) (reqsC r.x)) ((r.x.socks.take k).flatMap (fun s => [(s, 2), (s, 8)]))))) (fun i wr => r.x.socks.length - (intOf i).toNat)
                case atStart => exact ⟨0, Nat.zero_le _, rfl, HZ0⟩
                case round =>
                  clear HZ0
                  obtain ⟨k, hk, rfl, hOs⟩ := hrel
                  by_cases hlt : k < r.x.socks.length
                  · have b0 : (0 : Int) ≤ (k : Int) := by omega
                    have b1 : (k : Int) < (r.x.socks.length : Int) := by omega
                    obtain ⟨ad, et, rfl, hab, hx, q0⟩ := txs_at (HS4.out.keptG hOs.out.grown hBg (Nat.le_of_lt hg2)) hlt
                    have HE : Hid (edgesL (nodeB ns) r.x.n (edgesL (nodeB ns) r.x.n (edgesL (nodeB ns) r.x.n (edgesL (nodeB ns) r.x.n es (relsC r.x)) (wantsC r.x)) (reqsC r.x)) ((r.x.socks.take (k + 1)).flatMap (fun s => [(s, 2), (s, 8)])) = edgeL (nodeB ns) r.x.n (edgeL (nodeB ns) r.x.n (edgesL (nodeB ns) r.x.n (edgesL (nodeB ns) r.x.n (edgesL (nodeB ns) r.x.n (edgesL (nodeB ns) r.x.n es (relsC r.x)) (wantsC r.x)) (reqsC r.x)) ((r.x.socks.take k).flatMap (fun s => [(s, 2), (s, 8)]))) (et, 2)) (et, 8)) := by show _ = _; rw [flat_take_succ hx (fun s => [(s, (2 : Int)), (s, 8)]), edgesL_app, edgesL_cons, edgesL_cons, edgesL_nil]
                    clear hx
                    go_wp2_with fail
                    refine (hOs.out.edge HM.out.node et 2 (by decide) (by decide)).mono ?_
                    rintro e w5 ⟨rfl, h5⟩
                    have H5 := Lib.hid h5
                    clear h5
                    go_wp2_with fail
                    refine (H5.out.edge HM.out.node et 8 (by decide) (by decide)).mono ?_
                    rintro e w6 ⟨rfl, h6⟩
                    have H6 := Lib.hid h6
                    clear h6 H5
                    have H5 := H6
                    go_wp2_with fail
                    go_roundw
                    case rel => exact ⟨k + 1, by omega, by go_num, by rw [HE.out]; exact H5⟩
                    case measure => simp [intOf]; omega
                  · obtain rfl : k = r.x.socks.length := by omega
                    obtain ⟨wz, hren⟩ : ∃ wz, wz = wr := ⟨wr, rfl⟩
                    subst hren
                    have HZ : Hid (Os w2 wz g ns (edgesL (nodeB ns) r.x.n (edgesL (nodeB ns) r.x.n (edgesL (nodeB ns) r.x.n (edgesL (nodeB ns) r.x.n es (relsC r.x)) (wantsC r.x)) (reqsC r.x)) (r.x.socks.flatMap (fun s => [(s, 2), (s, 8)])))) := by have h1 := hOs.out; rwa [List.take_of_length_le (Nat.le_refl _)] at h1
                    clear hOs
                    have hcd := HZ.out.cell U3.out hgb1
                    cases hd : r.x.dflt with
                    | false =>
                      rw [hd] at hcd
                      go_wp2_with fail
                      refine bodyPost_ret (results_none rfl _ _ _) rfl ?_
                      have h1 := HZ.out
                      have hE : sayL kT (L.map (·.x)) r.x = relsC r.x ++ wantsC r.x ++ reqsC r.x ++ r.x.socks.flatMap (fun s => [(s, 2), (s, 8)]) := by unfold sayL; rw [hkk]; simp [wakesC, wakesK, socksC, dfltC, hd]
                      refine ⟨rfl, ?_⟩
                      rw [hE]
                      simp only [edgesL_app]
                      exact ⟨h1.box, h1.ok, h1.few, grown_trans HG2.out h1.grown⟩
                    | true =>
                      rw [hd] at hcd
                      go_wp2_with fail
                      refine (HZ.out.edge HM.out.node sysT 1 (by decide) (by decide)).mono ?_
                      rintro e wy ⟨rfl, h5⟩
                      have HY := Lib.hid h5
                      clear h5 HZ
                      have HZ := HY
                      clear HY
                      go_wp2_with fail
                      refine (HZ.out.edge HM.out.node sysT 8 (by decide) (by decide)).mono ?_
                      rintro e wy ⟨rfl, h5⟩
                      have HY := Lib.hid h5
                      clear h5 HZ
                      have HZ := HY
                      clear HY
                      go_wp2_with fail
                      refine (HZ.out.edge HM.out.node shutT 6 (by decide) (by decide)).mono ?_
                      rintro e wy ⟨rfl, h5⟩
                      have HY := Lib.hid h5
                      clear h5 HZ
                      have HZ := HY
                      clear HY
                      go_wp2_with fail
                      refine (HZ.out.edge HM.out.node shutT 7 (by decide) (by decide)).mono ?_
                      rintro e wy ⟨rfl, h5⟩
                      have HY := Lib.hid h5
                      clear h5 HZ
                      have HZ := HY
                      clear HY
                      go_wp2_with fail
                      refine bodyPost_ret (results_none rfl _ _ _) rfl ?_
                      have h1 := HZ.out
                      have hE : sayL kT (L.map (·.x)) r.x = relsC r.x ++ wantsC r.x ++ reqsC r.x ++ r.x.socks.flatMap (fun s => [(s, 2), (s, 8)]) ++ [(sysT, 1)] ++ [(sysT, 8), (shutT, 6), (shutT, 7)] := by unfold sayL; rw [hkk]; simp [wakesC, wakesK, socksC, dfltC, sysC, hd]
                      refine ⟨rfl, ?_⟩
                      rw [hE]
                      simp only [edgesL_app, edgesL_cons, edgesL_nil]
                      exact ⟨h1.box, h1.ok, h1.few, grown_trans HG2.out h1.grown⟩
              · by_cases k2 : kk = 2
                · subst k2
                  go_wp2_with (refine wpList_load_row rfl 51 (.tmp 7) (by rfl) (b + 1) (by rfl) 51 r.u (0, 0) _ (HU2.out.grown HZ.out.grown (by simpa using hgb1)) Tryz.underlying51 rfl (infoU r) ?_)
                  refine (gWakes_any r.u r.x.un ut r.x.uk HUI.out HM.out.small.un _).mono ?_
                  rintro e wy ⟨rfl, hb5⟩
                  rw [← HWK.out]
                  have HY := Lib.hid (HZ.out.below hb5)
                  clear hb5 HZ
                  have HZ := HY
                  clear HY
                  go_wp2_with fail
                  refine (HZ.out.edge HM.out.node r.x.wk 10 (by decide) (by decide)).mono ?_
                  rintro e wy ⟨rfl, h5⟩
                  have HY := Lib.hid h5
                  clear h5 HZ
                  have HZ := HY
                  clear HY
                  go_wp2_with (refine wpList_load_row rfl 51 (.tmp 7) (by rfl) (b + 1) (by rfl) 51 r.u (0, 0) _ (HU2.out.grown HZ.out.grown (by simpa using hgb1)) Tryz.underlying51 rfl (infoU r) ?_)
                  refine (gWakes_any r.u r.x.un ut r.x.uk HUI.out HM.out.small.un _).mono ?_
                  rintro e wy ⟨rfl, hb5⟩
                  rw [← HWK.out]
                  have HY := Lib.hid (HZ.out.below hb5)
                  clear hb5 HZ
                  have HZ := HY
                  clear HY
                  go_wp2_with fail
                  refine (HZ.out.edge HM.out.node r.x.wk 7 (by decide) (by decide)).mono ?_
                  rintro e wy ⟨rfl, h5⟩
                  have HY := Lib.hid h5
                  clear h5 HZ
                  have HZ := HY
                  clear HY
                  have hcd := HZ.out.cell U3.out hgb1
                  cases hd : r.x.dflt with
                  | false =>
                    rw [hd] at hcd
                    go_wp2_with fail
                    refine bodyPost_ret (results_none rfl _ _ _) rfl ?_
                    have h1 := HZ.out
                    have hE : sayL kT (L.map (·.x)) r.x = relsC r.x ++ wantsC r.x ++ reqsC r.x ++ [(r.x.wk, 10), (r.x.wk, 7)] := by unfold sayL; rw [hkk]; simp [wakesC, wakesK, socksC, dfltC, hd]
                    refine ⟨rfl, ?_⟩
                    rw [hE]
                    simp only [edgesL_app, edgesL_cons, edgesL_nil]
                    exact ⟨h1.box, h1.ok, h1.few, grown_trans HG2.out h1.grown⟩
                  | true =>
                    rw [hd] at hcd
                    go_wp2_with fail
                    refine (HZ.out.edge HM.out.node sysT 8 (by decide) (by decide)).mono ?_
                    rintro e wy ⟨rfl, h5⟩
                    have HY := Lib.hid h5
                    clear h5 HZ
                    have HZ := HY
                    clear HY
                    go_wp2_with fail
                    refine (HZ.out.edge HM.out.node shutT 6 (by decide) (by decide)).mono ?_
                    rintro e wy ⟨rfl, h5⟩
                    have HY := Lib.hid h5
                    clear h5 HZ
                    have HZ := HY
                    clear HY
                    go_wp2_with fail
                    refine (HZ.out.edge HM.out.node shutT 7 (by decide) (by decide)).mono ?_
                    rintro e wy ⟨rfl, h5⟩
                    have HY := Lib.hid h5
                    clear h5 HZ
                    have HZ := HY
                    clear HY
                    go_wp2_with fail
                    refine bodyPost_ret (results_none rfl _ _ _) rfl ?_
                    have h1 := HZ.out
                    have hE : sayL kT (L.map (·.x)) r.x = relsC r.x ++ wantsC r.x ++ reqsC r.x ++ [(r.x.wk, 10), (r.x.wk, 7)] ++ [(sysT, 8), (shutT, 6), (shutT, 7)] := by unfold sayL; rw [hkk]; simp [wakesC, wakesK, socksC, dfltC, sysC, hd]
                    refine ⟨rfl, ?_⟩
                    rw [hE]
                    simp only [edgesL_app, edgesL_cons, edgesL_nil]
                    exact ⟨h1.box, h1.ok, h1.few, grown_trans HG2.out h1.grown⟩
                · by_cases k3 : kk = 3
                  · subst k3
                    go_wp2_with (refine wpList_load_row rfl 51 (.tmp 7) (by rfl) (b + 1) (by rfl) 51 r.u (0, 0) _ (HU2.out.grown HZ.out.grown (by simpa using hgb1)) Tryz.underlying51 rfl (infoU r) ?_)
                    refine (gWakes_any r.u r.x.un ut r.x.uk HUI.out HM.out.small.un _).mono ?_
                    rintro e wy ⟨rfl, hb5⟩
                    rw [← HWK.out]
                    have HY := Lib.hid (HZ.out.below hb5)
                    clear hb5 HZ
                    have HZ := HY
                    clear HY
                    go_wp2_with fail
                    refine (HZ.out.edge HM.out.node r.x.wk 10 (by decide) (by decide)).mono ?_
                    rintro e wy ⟨rfl, h5⟩
                    have HY := Lib.hid h5
                    clear h5 HZ
                    have HZ := HY
                    clear HY
                    go_wp2_with (refine wpList_load_row rfl 51 (.tmp 7) (by rfl) (b + 1) (by rfl) 51 r.u (0, 0) _ (HU2.out.grown HZ.out.grown (by simpa using hgb1)) Tryz.underlying51 rfl (infoU r) ?_)
                    refine (gWakes_any r.u r.x.un ut r.x.uk HUI.out HM.out.small.un _).mono ?_
                    rintro e wy ⟨rfl, hb5⟩
                    rw [← HWK.out]
                    have HY := Lib.hid (HZ.out.below hb5)
                    clear hb5 HZ
                    have HZ := HY
                    clear HY
                    go_wp2_with fail
                    refine (HZ.out.edge HM.out.node r.x.wk 7 (by decide) (by decide)).mono ?_
                    rintro e wy ⟨rfl, h5⟩
                    have HY := Lib.hid h5
                    clear h5 HZ
                    have HZ := HY
                    clear HY
                    have hcd := HZ.out.cell U3.out hgb1
                    cases hd : r.x.dflt with
                    | false =>
                      rw [hd] at hcd
                      go_wp2_with fail
                      refine bodyPost_ret (results_none rfl _ _ _) rfl ?_
                      have h1 := HZ.out
                      have hE : sayL kT (L.map (·.x)) r.x = relsC r.x ++ wantsC r.x ++ reqsC r.x ++ [(r.x.wk, 10), (r.x.wk, 7)] := by unfold sayL; rw [hkk]; simp [wakesC, wakesK, socksC, dfltC, hd]
                      refine ⟨rfl, ?_⟩
                      rw [hE]
                      simp only [edgesL_app, edgesL_cons, edgesL_nil]
                      exact ⟨h1.box, h1.ok, h1.few, grown_trans HG2.out h1.grown⟩
                    | true =>
                      rw [hd] at hcd
                      go_wp2_with fail
                      refine (HZ.out.edge HM.out.node sysT 8 (by decide) (by decide)).mono ?_
                      rintro e wy ⟨rfl, h5⟩
                      have HY := Lib.hid h5
                      clear h5 HZ
                      have HZ := HY
                      clear HY
                      go_wp2_with fail
                      refine (HZ.out.edge HM.out.node shutT 6 (by decide) (by decide)).mono ?_
                      rintro e wy ⟨rfl, h5⟩
                      have HY := Lib.hid h5
                      clear h5 HZ
                      have HZ := HY
                      clear HY
                      go_wp2_with fail
                      refine (HZ.out.edge HM.out.node shutT 7 (by decide) (by decide)).mono ?_
                      rintro e wy ⟨rfl, h5⟩
                      have HY := Lib.hid h5
                      clear h5 HZ
                      have HZ := HY
                      clear HY
                      go_wp2_with fail
                      refine bodyPost_ret (results_none rfl _ _ _) rfl ?_
                      have h1 := HZ.out
                      have hE : sayL kT (L.map (·.x)) r.x = relsC r.x ++ wantsC r.x ++ reqsC r.x ++ [(r.x.wk, 10), (r.x.wk, 7)] ++ [(sysT, 8), (shutT, 6), (shutT, 7)] := by unfold sayL; rw [hkk]; simp [wakesC, wakesK, socksC, dfltC, sysC, hd]
                      refine ⟨rfl, ?_⟩
                      rw [hE]
                      simp only [edgesL_app, edgesL_cons, edgesL_nil]
                      exact ⟨h1.box, h1.ok, h1.few, grown_trans HG2.out h1.grown⟩
                  · by_cases k4 : kk = 4
                    · subst k4
                      have hcd := HZ.out.cell U3.out hgb1
                      cases hd : r.x.dflt with
                      | false =>
                        rw [hd] at hcd
                        go_wp2_with fail
                        refine bodyPost_ret (results_none rfl _ _ _) rfl ?_
                        have h1 := HZ.out
                        have hE : sayL kT (L.map (·.x)) r.x = relsC r.x ++ wantsC r.x ++ reqsC r.x := by unfold sayL; rw [hkk]; simp [wakesC, wakesK, socksC, dfltC, hd]
                        refine ⟨rfl, ?_⟩
                        rw [hE]
                        simp only [edgesL_app]
                        exact ⟨h1.box, h1.ok, h1.few, grown_trans HG2.out h1.grown⟩
                      | true =>
                        rw [hd] at hcd
                        have HCz := Lib.hid (HC2.out.grown HZ.out.grown)
                        go_wp2_with (refine wpList_load_row rfl 53 (.tmp 4) (by rfl) b (by rfl) 53 r.a (0, 0) _ (HK2.out.grown HZ.out.grown (by simpa using hgb)) Tryz.underlying53 rfl (infoL r) ?_)
                        refine (gTarget_any B g mb n L ns _ r _ HCz.out ⟨HI2.out.below ((grown_below HZ.out.grown (Nat.le_of_lt hg2)).mono hBg), HM.out.small, HM.out.node⟩ ⟨HZ.out.box, HZ.out.ok, HZ.out.few, World.grownBy.refl _ _⟩ hL).mono ?_
                        rintro e wy ⟨rfl, h5⟩
                        have HY : Hid (Os w2 wy g ns _) := ⟨h5.box, h5.ok, h5.few, grown_trans HZ.out.grown h5.grown⟩
                        clear h5 HZ
                        have HZ := HY
                        clear HY
                        go_wp2_with fail
                        refine bodyPost_ret (results_none rfl _ _ _) rfl ?_
                        have h1 := HZ.out
                        have hE : sayL kT (L.map (·.x)) r.x = relsC r.x ++ wantsC r.x ++ reqsC r.x ++ targC kT (L.map (·.x)) r.x := by unfold sayL; rw [hkk]; simp [wakesC, wakesK, socksC, dfltC, sysC, hd]
                        refine ⟨rfl, ?_⟩
                        rw [hE]
                        simp only [edgesL_app]
                        exact ⟨h1.box, h1.ok, h1.few, grown_trans HG2.out h1.grown⟩
                    · have d1 : (kk == 1) = false := by simpa using k1
                      have d2 : (kk == 2) = false := by simpa using k2
                      have d3 : (kk == 3) = false := by simpa using k3
                      have d4 : (kk == 4) = false := by simpa using k4
                      have hcd := HZ.out.cell U3.out hgb1
                      cases hd : r.x.dflt with
                      | false =>
                        rw [hd] at hcd
                        go_wp2_with fail
                        refine bodyPost_ret (results_none rfl _ _ _) rfl ?_
                        have h1 := HZ.out
                        have hE : sayL kT (L.map (·.x)) r.x = relsC r.x ++ wantsC r.x ++ reqsC r.x := by unfold sayL; rw [hkk]; simp [wakesC, wakesK, socksC, dfltC, hd, k1, k2, k3]
                        refine ⟨rfl, ?_⟩
                        rw [hE]
                        simp only [edgesL_app]
                        exact ⟨h1.box, h1.ok, h1.few, grown_trans HG2.out h1.grown⟩
                      | true =>
                        rw [hd] at hcd
                        go_wp2_with fail
                        refine bodyPost_ret (results_none rfl _ _ _) rfl ?_
                        have h1 := HZ.out
                        have hE : sayL kT (L.map (·.x)) r.x = relsC r.x ++ wantsC r.x ++ reqsC r.x := by unfold sayL; rw [hkk]; simp [wakesC, wakesK, socksC, dfltC, sysC, hd, k1, k2, k3, k4]
                        refine ⟨rfl, ?_⟩
                        rw [hE]
                        simp only [edgesL_app]
                        exact ⟨h1.box, h1.ok, h1.few, grown_trans HG2.out h1.grown⟩
end Go.Proofs.YtcoepioahabbdaaGreat
