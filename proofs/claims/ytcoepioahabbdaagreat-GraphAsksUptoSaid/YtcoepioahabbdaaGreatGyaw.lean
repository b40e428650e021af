/- The walk of the document's Of. -/
import Derived.Test.YtcoepioahabbdaaGreatGyav
namespace Go.Proofs.YtcoepioahabbdaaGreat
open Go.RowKit Go.WideMaps Go.Maps
set_option maxRecDepth 10000 in
set_option maxHeartbeats 16000000 in
theorem gOf_any (A : Option Addr) (n c B : Nat) (L : List LdR) (w : World) (hL : LdsAt w B A n L) (hB : B ≤ w.heap.size) (hS : ∀ r ∈ L, Small r.x) (hn : n ≤ 1048576) :
    Calls Tryz.prog 13 #[.slice A n c] w (OfPost L w) := by
  have hmm := @run_makeMap Tryz.prog
  have HL := Lib.hid hL
  have hLn := hL.row.1
  clear hL
  go_enter Tryz.func13, Tryz.ntmps13
  go_wp2_with fail
  have hb1 : Below w.heap.size w ((w.alloc (.cells #[.slice none 0 0, .slice none 0 0] 29)).alloc (.map #[] 0)) := ((Below.refl _ w).alloc (Nat.le_refl _) _).alloc (by simp) _
  have hm0 : MapV ((w.alloc (.cells #[.slice none 0 0, .slice none 0 0] 29)).alloc (.map #[] 0)) (w.heap.size + 1) 0 (mapF (L.take 0)) := by
    have h1 := (mapV_made (w.alloc (.cells #[.slice none 0 0, .slice none 0 0] 29))).same (g := mapF (L.take 0)) (fun p => by unfold mapF mapR firstR; simp)
    rwa [show (w.alloc (.cells #[.slice none 0 0, .slice none 0 0] 29)).heap.size = w.heap.size + 1 by simp] at h1
  have HRES : Hid (Blk ((w.alloc (.cells #[.slice none 0 0, .slice none 0 0] 29)).alloc (.map #[] 0)) w.heap.size 29 #[.slice none 0 0, .slice none 0 0]) := (Blk.new w _ _).alloc _
  have hsz1 : ((w.alloc (.cells #[.slice none 0 0, .slice none 0 0] 29)).alloc (.map #[] 0)).heap.size = w.heap.size + 2 := by simp
  obtain ⟨w1, hw1⟩ : ∃ w1, (w.alloc (.cells #[.slice none 0 0, .slice none 0 0] 29)).alloc (.map #[] 0) = w1 := ⟨_, rfl⟩
  rw [hw1] at hb1 hm0 HRES hsz1
  rw [hw1]
  have HB1 := Lib.hid hb1
  have HM0 := Lib.hid hm0
  clear hw1 hb1 hm0
  obtain ⟨b, hb⟩ : ∃ b, w.heap.size = b := ⟨_, rfl⟩
  rw [hb] at HM0 HRES hsz1 hB
  rw [hb]
  have HN0 : Hid (OwnG txLay 9 w1 (b + 2) (.slice none 0 0) (namesP L 0)) := by show OwnG _ _ _ _ _ _; rw [show namesP L 0 = [] by unfold namesP; simp [namesL, putAll]]; exact OwnG.nil _ _
  have HBB : Hid (Below (b + 1) w1 w1) := Below.refl _ _
  go_loopw [4, 18] (fun p i wr => ∃ (A' : Option Addr) (m c' k : Nat), k ≤ n ∧ (namesP L k).length = m ∧ p = .slice A' m c' ∧ i = .int .i64 k ∧ Hid (MapV wr (b + 1) k (mapF (L.take k))) ∧ Hid (OwnG txLay 9 wr (b + 2) (.slice A' m c') (namesP L k)) ∧ Hid (Below (b + 1) w1 wr)) (fun p i wr => n - (intOf i).toNat)
  case atStart => exact ⟨none, 0, 0, 0, Nat.zero_le _, by unfold namesP; simp [namesL, putAll], rfl, rfl, HM0, HN0, HBB⟩
  case round =>
    clear HM0 HN0 HBB
    obtain ⟨A', m, c', k, hk, hm, rfl, rfl, hM, hN, hBw⟩ := hrel
    have hbs := hBw.out.size
    by_cases hlt : k < n
    · have b0 : (0 : Int) ≤ (k : Int) := by omega
      have b1 : (k : Int) < (n : Int) := by omega
      obtain ⟨ad, r, rfl, hab, hx, hld⟩ := load_row HL.out.row hlt
      have HLD := Lib.hid (hld wr ((HB1.out.mono (by omega)).trans (hBw.out.mono (by omega))))
      have hI := HL.out.is r (List.mem_of_getElem? hx)
      have hnl := (hS r (List.mem_of_getElem? hx)).n
      have hsz : (str r.x.n).size ≤ maxLen := by rw [str_size]; exact hnl
      have HX := Lib.hid hx
      have hmk : m ≤ k := by rw [← hm]; exact namesP_few L k
      clear hx hld
      have HBX : Hid (Blk (wr.alloc (.cells r.a 53)) wr.heap.size 53 r.a) := Blk.new _ _ _
      have e0 : (wr.alloc (.cells r.a 53)).cell? ⟨wr.heap.size, 0, none⟩ = some (.string (str r.x.n)) := box_cell HBX.out hI.name
      have hlk := (hM.out.below (w' := wr.alloc (.cells r.a 53)) ((Below.refl _ _).alloc (Nat.le_refl _) _)).lookok Tryz.underlying73 (zeroL_run _) r.x.n hnl
      rw [mapF_get] at hlk
      obtain ⟨R, hR⟩ : ∃ R, lookR (L.take k) r.x.n = R := ⟨_, rfl⟩
      rw [hR] at hlk
      have HB2 : Hid (Below wr.heap.size wr ((wr.alloc (.cells r.a 53)).alloc (.cells R.a 53))) := ((Below.refl _ wr).alloc (Nat.le_refl _) _).alloc (by simp) _
      have HBX2 : Hid (Blk ((wr.alloc (.cells r.a 53)).alloc (.cells R.a 53)) wr.heap.size 53 r.a) := HBX.out.alloc _
      have e2 : ((wr.alloc (.cells r.a 53)).alloc (.cells R.a 53)).cell? ⟨wr.heap.size, 0, none⟩ = some (.string (str r.x.n)) := box_cell HBX2.out hI.name
      have HII := Lib.hid hI
      clear hI hR
      rcases hso : (mapF (L.take k) r.x.n).isSome with _ | _
      · have HSO := Lib.hid hso
        rw [hso] at hlk
        clear hso
        go_wp2_with (first
          | (refine wpList_load_part rfl 53 (.tmp 20) (by rfl) (ad.add (k * 42)) (by rfl) (.agg r.a) HLD.out ?_)
          | (refine wpList_store_row rfl 53 (.tmp 6) (.tmp 21) (by rfl) wr.heap.size r.a (by rfl) (by rfl) 53 _ (by exact heap_alloc_new _ _) (infoL r) (by rw [r.size]; rfl) r.all ?_
             rw [heap_alloc_setRow])
          | (refine wpList_store_row rfl 53 (.tmp 7) (.tmp 27) (by rfl) (wr.heap.size + 1) R.a (by rfl) (by rfl) 53 _ (by exact alloc2_new _ _ _) (infoL R) (by rw [R.size]; rfl) R.all ?_
             rw [alloc2_setRow])
          | fail)
        refine (Nm.rMay_any (str r.x.n) hsz _).mono ?_
        rintro e w5 ⟨rfl, hb5⟩
        have HB5 := Lib.hid (HB2.out.trans (hb5.mono HB2.out.size))
        have HBX5 := Lib.hid (HBX2.out.below hb5 HBX2.out.lt)
        clear hb5
        have hs5 := HB5.out.size
        rw [kT_good]
        by_cases hk0 : kT r.x.n = 0
        · have HMF := Lib.hid (mapF_bad HX.out hk0)
          rw [show decide (kT r.x.n ≠ 0) = false by simp [hk0]]
          clear hk0
          go_wp2_with fail
          go_roundw
          case rel => exact ⟨A', _, c', k + 1, by omega, by rw [HMF.out.2]; exact hm, rfl, by go_num, (((hM.out.belowB HB5.out hM.out.lt).same HMF.out.1).mono (by omega)), by rw [HMF.out.2]; exact hN.out.below HB5.out, hBw.out.trans (HB5.out.mono (by omega))⟩
          case measure => simp [intOf]; omega
        · have HMF := Lib.hid (mapF_new HX.out HSO.out hk0)
          rw [show decide (kT r.x.n ≠ 0) = true by simp [hk0]]
          clear hk0
          have e5 : w5.cell? ⟨wr.heap.size, 0, none⟩ = some (.string (str r.x.n)) := box_cell HBX5.out HII.out.name
          have HLB := Lib.hid (load_box r HBX5.out)
          have HM5 : Hid (MapV w5 (b + 1) k (mapF (L.take k))) := hM.out.belowB HB5.out hM.out.lt
          have HN5 : Hid (OwnG txLay 9 w5 (b + 2) (.slice A' m c') (namesP L k)) := hN.out.below HB5.out
          have hml := hM.out.lt
          go_wp2_with (first
            | (refine wpList_load_part rfl 53 (.tmp 6) (by rfl) ⟨wr.heap.size, 0, none⟩ (by rfl) (.agg r.a) HLB.out ?_)
            | (refine wpList_putV rfl (.tmp 36) (.tmp 38) (.tmp 39) Tryz.underlying73 (by rfl) (b + 1) k (mapF (L.take k)) (by rfl) HM5.out (by unfold maxLen; omega) r.x.n hnl (.agg r.a) (by rfl) (by rfl) ?_
               intro w6 hm6 hg6
               have HM6 := Lib.hid (hm6.same HMF.out.1)
               have HG6 := Lib.hid hg6
               have HN6 := Lib.hid (HN5.out.kept hg6 (fun g' hg' e => by have := (HN5.out.lt hg').1; injection e with e; omega))
               have e6 : w6.cell? ⟨wr.heap.size, 0, none⟩ = some (.string (str r.x.n)) := hg6.cell e5 (by simp; omega)
               clear hm6 hg6)
            | fail)
          have hs6 := HG6.out.size
          refine (gPut_any (b + 2) _ _ r.x.n w6 HN6.out (by omega) (by omega)).mono ?_
          rintro e w7 ⟨v7, rfl, ho7, hb7⟩
          rw [← HMF.out.2] at ho7
          obtain ⟨A7, c7, hv7, hz1, hz2, hz3, hz4⟩ := ho7.slice (by have := namesP_few L (k + 1); unfold maxLen; omega)
          subst hv7
          have HO7 := Lib.hid ho7
          have HB7 := Lib.hid hb7
          clear hz1 hz2 hz3 hz4 ho7 hb7
          go_wp2_with fail
          go_roundw
          case rel => exact ⟨A7, _, c7, k + 1, by omega, rfl, rfl, by go_num, HM6.out.below HB7.out, HO7, hBw.out.trans (((HB5.out.mono (by omega)).trans ((Below.refl (b + 1) w5).grown HG6.out (by omega) (fun j hj => by injection hj with hj; omega))).trans (HB7.out.mono (by omega)))⟩
          case measure => simp [intOf]; omega
      · have HMF := Lib.hid (mapF_had HX.out hso)
        rw [hso] at hlk
        clear hso
        go_wp2_with (first
          | (refine wpList_load_part rfl 53 (.tmp 20) (by rfl) (ad.add (k * 42)) (by rfl) (.agg r.a) HLD.out ?_)
          | (refine wpList_store_row rfl 53 (.tmp 6) (.tmp 21) (by rfl) wr.heap.size r.a (by rfl) (by rfl) 53 _ (by exact heap_alloc_new _ _) (infoL r) (by rw [r.size]; rfl) r.all ?_
             rw [heap_alloc_setRow])
          | (refine wpList_store_row rfl 53 (.tmp 7) (.tmp 27) (by rfl) (wr.heap.size + 1) R.a (by rfl) (by rfl) 53 _ (by exact alloc2_new _ _ _) (infoL R) (by rw [R.size]; rfl) R.all ?_
             rw [alloc2_setRow])
          | fail)
        go_roundw
        case rel => exact ⟨A', _, c', k + 1, by omega, by rw [HMF.out.2]; exact hm, rfl, by go_num, ((hM.out.below HB2.out).same HMF.out.1).mono (by omega), by rw [HMF.out.2]; exact hN.out.below HB2.out, hBw.out.trans (HB2.out.mono (by omega))⟩
        case measure => simp [intOf]; omega
    · obtain rfl : k = n := by omega
      obtain ⟨wn, hren⟩ : ∃ wn, wn = wr := ⟨wr, rfl⟩
      subst hren
      have hNN : namesP L k = namesL kT (L.map (·.x)) := by unfold namesP; rw [List.take_of_length_le (by omega)]
      have hTT : L.take k = L := List.take_of_length_le (by omega)
      have HM1 : Hid (MapV wn (b + 1) k (mapF L)) := by show MapV _ _ _ _; rw [← hTT]; exact hM.out
      obtain ⟨_, _, hv3, hcc, hz2, hz3, hrow⟩ := hN.out.slice (by rw [hm]; have := namesP_few L k; unfold maxLen; omega)
      injection hv3 with hv1 hv2 hv3
      subst hv1 hv3
      rw [hm] at hrow
      have HROW := Lib.hid hrow
      have hmk : m ≤ k := by rw [← hm]; exact namesP_few L k
      rw [hm] at hcc
      clear hz2 hz3 hrow hv2 hmm
      by_cases h64 : m ≤ 64
      · have z0 : (m : Int) ≤ 64 := by omega
        have z1 : (m : Int) ≤ (c' : Int) := by omega
        go_wp2_with fail
        obtain ⟨gb, hgb⟩ : ∃ gb, wn.heap.size = gb := ⟨_, rfl⟩
        have hb3 : Below wn.heap.size wn (wn.alloc (.cells #[.slice none 0 0, .slice none 0 0] 29)) := (Below.refl _ _).alloc (Nat.le_refl _) _
        have HK3 : Hid (Blk (wn.alloc (.cells #[.slice none 0 0, .slice none 0 0] 29)) gb 29 #[.slice none 0 0, .slice none 0 0]) := by rw [← hgb]; exact Blk.new _ _ _
        obtain ⟨w3, hw3⟩ : ∃ w3, wn.alloc (.cells #[.slice none 0 0, .slice none 0 0] 29) = w3 := ⟨_, rfl⟩
        rw [hw3] at hb3 HK3
        rw [hw3]
        have HB3 := Lib.hid hb3
        clear hb3 hw3
        rw [hgb] at HB3
        rw [hgb]
        have HK30 : Hid (Blk w3 gb 29 #[.slice none (ndsK L 0).length 0, .slice none 0 0]) := HK3.out
        have HN30 : Hid (OwnG ndLay 32 w3 (gb + 1) (.slice none (ndsK L 0).length 0) (ndsK L 0)) := OwnG.nil _ _
        have HB30 := HB3
        clear HK3
        have hNT : ((namesL kT (L.map (·.x))).take 64).length = m := by rw [List.length_take, ← hNN, hm]; omega
        go_loopw [52] (fun i wr => ∃ (NA : Option Addr) (nc j : Nat), j ≤ m ∧ i = .int .i64 j ∧ Hid (Blk wr gb 29 #[.slice NA (ndsK L j).length nc, .slice none 0 0]) ∧ Hid (OwnG ndLay 32 wr (gb + 1) (.slice NA (ndsK L j).length nc) (ndsK L j)) ∧ Hid (Below gb wn wr)) (fun i wr => m - (intOf i).toNat)
        case atStart => exact ⟨none, 0, 0, Nat.zero_le _, rfl, HK30, HN30, HB30⟩
        case round =>
          clear HK30 HN30 HB30
          obtain ⟨NA, nc, j, hj, rfl, HKl, HNl, HBl⟩ := hrel
          obtain ⟨wl, hren⟩ : ∃ wl, wl = wr := ⟨wr, rfl⟩
          subst hren
          by_cases hlt : j < m
          · have b0 : (0 : Int) ≤ (j : Int) := by omega
            have b1 : (j : Int) < ((m : Int) : Int) := by omega
            have hwl : Below gb wn wl := HBl.out
            obtain ⟨ad, t, rfl, hab, hx, q0⟩ := txs_at (HROW.out.below (by rw [hgb]; exact hwl)) (by omega : j < m)
            have hxt : ((namesL kT (L.map (·.x))).take 64)[j]? = some t := by rw [List.getElem?_take, if_pos (by omega), ← hNN]; exact hx
            have htm : t ∈ namesL kT (L.map (·.x)) := List.mem_of_mem_take (List.mem_of_getElem? hxt)
            have HF := Lib.hid (look_found htm)
            have htl : t.length ≤ maxLen := by rw [← HF.out.2.2.1]; exact (hS _ HF.out.2.1).n
            have hts : (str t).size ≤ maxLen := by rw [str_size]; exact htl
            have HNS := Lib.hid (ndsK_succ hxt)
            have HNL := Lib.hid (nodeL_look htm)
            have hbg : b + 1 < gb := by have := HM1.out.lt; omega
            have HMl := Lib.hid (HM1.out.belowB hwl (by omega))
            have hlk := HMl.out.look Tryz.underlying73 (zeroL_run _) t htl
            rw [mapF_get] at hlk
            have hI := (HL.out.is _ HF.out.2.1).state
            obtain ⟨R, hR⟩ : ∃ R, lookR L t = R := ⟨_, rfl⟩
            rw [hR] at hlk HNL hI
            have f1 := fun W => fld_state R hI W
            have hgl := HKl.out.lt
            have d0 : wl.cell? ⟨gb, 0, none⟩ = some (.slice NA (ndsK L j).length nc) := HKl.out.cell 0
            have q1 := fun w => Nm.fld0 (Nm.kindP (str t)) (Nm.preP (str t)) (Nm.instP (str t)) (Nm.atP (str t)) w
            have HNDK := Lib.hid hts
            clear hx hxt htm hI hwl
            by_cases h1 : R.x.s < 1
            · rw [show stateL R.x.s = 4 by unfold stateL; rw [if_pos (.inl h1)]] at HNL
              go_wp2_with fail
              refine wp_region_Z (S := fun W => Below (gb + 1) wl W) (z := 11) (by kernel_rfl) ?_ (fun hHeld => ?_)
              · exact (Below.refl _ _).drew
              refine wpAnyZ_take (i := 0) (v := ?vz0_1) (by kernel_rfl) rfl (by kernel_rfl) (by kernel_rfl) (by kernel_rfl) (fun _ _ _ h => h) (Or.inl ⟨by rfl, ?hz0_1⟩) (by assumption) ?_
              case hz0_1 => (intro W hSw; (try dsimp only at hSw); go_simp; (try with_reducible rfl))
              try simp only [Act.put, List.getElem_toArray, List.getElem_cons_zero, List.setIfInBounds_toArray, List.set_cons_zero, List.set_cons_succ]
              refine wpAnyZ_take (i := 1) (v := ?vz1_1) (by kernel_rfl) rfl (by kernel_rfl) (by kernel_rfl) (by kernel_rfl) (fun _ _ _ h => h) (Or.inl ⟨by rfl, ?hz1_1⟩) (by assumption) ?_
              case hz1_1 => (intro W hSw; have p0 := (Below.cell hSw (p := ⟨gb, 0, none⟩) (Nat.lt_succ_self gb)).trans d0; (try dsimp only at hSw); go_simp; (try with_reducible rfl))
              try simp only [Act.put, List.getElem_toArray, List.getElem_cons_zero, List.getElem_cons_succ, List.setIfInBounds_toArray, List.set_cons_zero, List.set_cons_succ]
              refine wpAnyZ_take (i := 2) (v := ?vz2_1) (by kernel_rfl) rfl (by kernel_rfl) (by kernel_rfl) (by kernel_rfl) (fun _ _ _ h => h) (Or.inl ⟨by rfl, ?hz2_1⟩) (by assumption) ?_
              case hz2_1 => (intro W hSw; (try dsimp only at hSw); go_simp; (try with_reducible rfl))
              try simp only [Act.put, List.getElem_toArray, List.getElem_cons_zero, List.getElem_cons_succ, List.setIfInBounds_toArray, List.set_cons_zero, List.set_cons_succ]
              refine wpAnyZ_take (i := 3) (v := ?vz3_1) (by kernel_rfl) rfl (by kernel_rfl) (by kernel_rfl) (by kernel_rfl) (fun _ _ _ h => h) (Or.inl ⟨by rfl, ?hz3_1⟩) (by assumption) ?_
              case hz3_1 => (intro W hSw; (try dsimp only at hSw); go_simp; (try with_reducible rfl))
              try simp only [Act.put, List.getElem_toArray, List.getElem_cons_zero, List.getElem_cons_succ, List.setIfInBounds_toArray, List.set_cons_zero, List.set_cons_succ]
              refine wpAnyZ_take (i := 6) (v := ?vz6_1) (by kernel_rfl) rfl (by kernel_rfl) (by kernel_rfl) (by kernel_rfl) (fun _ _ _ h => h) (Or.inl ⟨by rfl, ?hz6_1⟩) (by assumption) ?_
              case hz6_1 => (intro W hSw; (try dsimp only at hSw); go_simp; (try with_reducible rfl))
              try simp only [Act.put, List.getElem_toArray, List.getElem_cons_zero, List.getElem_cons_succ, List.setIfInBounds_toArray, List.set_cons_zero, List.set_cons_succ]
              refine wpAnyZ_one (i := 4) (by kernel_rfl) rfl (fun K hK => ?_)
              go_simp
              refine (Nm.Of_any (str t) hts _).mono ?_
              rintro e wq ⟨rfl, hbqd⟩
              have hbq : Below wl.heap.size wl wq := ((Below.refl _ wl).drew).trans hbqd
              have HNq := Lib.hid (HNl.out.below (w' := wq) hbq)
              have HKq : Hid (Blk wq gb 29 #[.slice NA (ndsK L j).length nc, .slice none 0 0]) := HKl.out.below hbq (by simpa using hgl)
              have hbq2 : Below (gb + 1) wl wq := hbq.mono (Nat.succ_le_of_lt hgl)
              refine hK.out _ _ (.inr ?_) (fun hHeld2 => ?_)
              · exact hbq2
              clear hK K hHeld hbq hbq2 hbqd
              have hHeld := hHeld2.resolve_left (by decide)
              clear hHeld2
              try simp only [Act.put, List.getElem_toArray, List.getElem_cons_zero, List.getElem_cons_succ, List.setIfInBounds_toArray, List.set_cons_zero, List.set_cons_succ]
              refine wpAnyZ_take (i := 5) (v := ?vz5_1) (by kernel_rfl) rfl (by kernel_rfl) (by kernel_rfl) (by kernel_rfl) (fun _ _ _ h => h) (Or.inl ⟨by rfl, ?hz5_1⟩) (by assumption) ?_
              case hz5_1 => (intro W hSw; (try dsimp only at hSw); go_simp; (try with_reducible rfl))
              try simp only [Act.put, List.getElem_toArray, List.getElem_cons_zero, List.getElem_cons_succ, List.setIfInBounds_toArray, List.set_cons_zero, List.set_cons_succ]
              refine wpAnyZ_take (i := 7) (v := ?vz7_1) (by kernel_rfl) rfl (by kernel_rfl) (by kernel_rfl) (by kernel_rfl) (fun _ _ _ h => h) (Or.inl ⟨by rfl, ?hz7_1⟩) (by assumption) ?_
              case hz7_1 => (intro W hSw; (try dsimp only at hSw); go_simp; (try with_reducible rfl))
              try simp only [Act.put, List.getElem_toArray, List.getElem_cons_zero, List.getElem_cons_succ, List.setIfInBounds_toArray, List.set_cons_zero, List.set_cons_succ]
              refine wpAnyZ_one (i := 8) (by kernel_rfl) rfl (fun K hK => ?_)
              go_simp
              refine hK.out _ _ (.inr ?_) (fun hHeld2 => ?_)
              · exact hHeld.alloc (Nat.le_trans (Nat.succ_le_of_lt hgl) hHeld.size) _
              clear hK K hHeld 
              have hHeld := hHeld2.resolve_left (by decide)
              clear hHeld2
              try simp only [Act.put, List.getElem_toArray, List.getElem_cons_zero, List.getElem_cons_succ, List.setIfInBounds_toArray, List.set_cons_zero, List.set_cons_succ]
              refine wpAnyZ_one (i := 9) (by kernel_rfl) rfl (fun K hK => ?_)
              refine step_appendO ndTy rfl (.tmp 67) (.tmp 74) (by rfl) (gb + 1) (.slice NA (ndsK L j).length nc) (ndsK L j) [(⟨t, Nm.kindP (str t), 4⟩ : Nd)] (by rfl) (HNq.out.below ((Below.refl _ _).alloc (Nat.le_refl _) _)) ⟨wq.heap.size, 0, none⟩ 1 1 (by rfl) rfl (fun i u hi => ?_) (by have := ndsK_len L j; simp; omega) (by have := HKq.out.lt; simp; omega) ?_
              · rw [add_g0, (Blk.new wq 32 #[.string (str t), .int .i64 (Nm.kindP (str t)), .int .i64 (4)]).cell i]
                simpa [Lay.all, ndLay] using hi
              intro v2 wr2 ho2 hg2 _
              have hwz : Below wq.heap.size wq (wq.alloc (.cells #[.string (str t), .int .i64 (Nm.kindP (str t)), .int .i64 (4)] 32)) := (Below.refl _ _).alloc (Nat.le_refl _) _
              have hgq := HKq.out.lt
              have hown := fun k hk => (HNq.out.below hwz).lt (g := k) hk
              have HK2 : Hid (Blk wr2 gb 29 #[.slice NA (ndsK L j).length nc, .slice none 0 0]) := (HKq.out.alloc _).grown hg2 (fun e => by have := (hown gb e.symm).1; omega)
              have hb2 : Below (gb + 1) wl wr2 := ((hHeld.grown hg2 (by have := HKq.out.lt; simp; omega) (fun k hk => (hown k hk).1)))
              obtain ⟨A5, c6, hv5, hz1, hz2, hz3, hz4⟩ := ho2.slice (by have := ndsK_len L j; simp [maxLen]; omega)
              subst hv5
              have HO2 := Lib.hid ho2
              have st0 : wr2.cell? ⟨gb, 0, none⟩ = some (.slice NA (ndsK L j).length nc) := HK2.out.cell 0
              have st1 := HK2.out.frozen 0
              have hlen5 : (ndsK L j ++ [(⟨t, Nm.kindP (str t), 4⟩ : Nd)]).length = (ndsK L j).length + 1 := by simp
              rw [hlen5] at HO2 ⊢
              refine hK.out _ _ (.inr ?_) (fun hHeld2 => ?_)
              · exact hb2
              clear hK K hHeld ho2 hg2 hz1 hz2 hz3 hz4 hown hwz
              have hHeld := hHeld2.resolve_left (by decide)
              clear hHeld2
              try simp only [Act.put, List.getElem_toArray, List.getElem_cons_zero, List.getElem_cons_succ, List.setIfInBounds_toArray, List.set_cons_zero, List.set_cons_succ]
              refine wpAnyZ_take (i := 10) (v := ?vz10_1) (by kernel_rfl) rfl (by kernel_rfl) (by kernel_rfl) (by kernel_rfl) (fun _ _ _ h => h) (Or.inl ⟨by rfl, ?hz10_1⟩) (by assumption) ?_
              case hz10_1 => (intro W hSw; (try dsimp only at hSw); go_simp; (try with_reducible rfl))
              try simp only [Act.put, List.getElem_toArray, List.getElem_cons_zero, List.getElem_cons_succ, List.setIfInBounds_toArray, List.set_cons_zero, List.set_cons_succ]
              refine wpAnyZ_one (i := 11) (by kernel_rfl) rfl (fun K hK => ?_)
              go_simp
              refine hK.out _ _ (.inl rfl) (fun _ => ?_)
              clear hK K hHeld 
              try simp only [Act.put, List.getElem_toArray, List.getElem_cons_zero, List.getElem_cons_succ, List.setIfInBounds_toArray, List.set_cons_zero, List.set_cons_succ]
              refine wpAnyZ_done (by kernel_rfl) ?_ _
              have hlj : (ndsK L (j + 1)).length = (ndsK L j).length + 1 := by rw [HNS.out]; simp
              have HO3 : Hid (OwnG ndLay 32 wr2 (gb + 1) (.slice A5 ((ndsK L j).length + 1) c6) (ndsK L (j + 1))) := by show OwnG _ _ _ _ _ _; rw [HNS.out, HNL.out]; exact HO2.out
              have HBZ : Hid (Below gb wn wr2) := HBl.out.trans (hb2.mono (Nat.le_succ gb))
              have hg2 := HK2.out.lt
              clear d0 hlk st0 st1 q0 q1 hb2
              go_wp2_with fail
              go_roundw
              case rel =>
                refine ⟨A5, c6, j + 1, by omega, by go_num, ?_, ?_, ?_⟩
                · rw [hlj]; exact HK2.out.setCell 0 _
                · rw [hlj]; exact HO3.out.kept (grown_setCell wr2 ⟨gb, 0, none⟩ _) (fun x hx e => by have := (HO3.out.lt hx).1; injection e with e; subst e; exact absurd this (by simp))
                · exact below_setCell HBZ.out (by omega) (Nat.le_refl gb) _
              case measure => simp [intOf]; omega

            · by_cases h4 : 4 < R.x.s
              · rw [show stateL R.x.s = 4 by unfold stateL; rw [if_pos (.inr h4)]] at HNL
                have h1' : 1 ≤ R.x.s := by omega
                clear h1
                go_wp2_with fail
                try any_goals (exfalso; omega)
                refine wp_region_Z (S := fun W => Below (gb + 1) wl W) (z := 11) (by kernel_rfl) ?_ (fun hHeld => ?_)
                · exact (Below.refl _ _).drew
                refine wpAnyZ_take (i := 0) (v := ?vz0_2) (by kernel_rfl) rfl (by kernel_rfl) (by kernel_rfl) (by kernel_rfl) (fun _ _ _ h => h) (Or.inl ⟨by rfl, ?hz0_2⟩) (by assumption) ?_
                case hz0_2 => (intro W hSw; (try dsimp only at hSw); go_simp; (try with_reducible rfl))
                try simp only [Act.put, List.getElem_toArray, List.getElem_cons_zero, List.setIfInBounds_toArray, List.set_cons_zero, List.set_cons_succ]
                refine wpAnyZ_take (i := 1) (v := ?vz1_2) (by kernel_rfl) rfl (by kernel_rfl) (by kernel_rfl) (by kernel_rfl) (fun _ _ _ h => h) (Or.inl ⟨by rfl, ?hz1_2⟩) (by assumption) ?_
                case hz1_2 => (intro W hSw; have p0 := (Below.cell hSw (p := ⟨gb, 0, none⟩) (Nat.lt_succ_self gb)).trans d0; (try dsimp only at hSw); go_simp; (try with_reducible rfl))
                try simp only [Act.put, List.getElem_toArray, List.getElem_cons_zero, List.getElem_cons_succ, List.setIfInBounds_toArray, List.set_cons_zero, List.set_cons_succ]
                refine wpAnyZ_take (i := 2) (v := ?vz2_2) (by kernel_rfl) rfl (by kernel_rfl) (by kernel_rfl) (by kernel_rfl) (fun _ _ _ h => h) (Or.inl ⟨by rfl, ?hz2_2⟩) (by assumption) ?_
                case hz2_2 => (intro W hSw; (try dsimp only at hSw); go_simp; (try with_reducible rfl))
                try simp only [Act.put, List.getElem_toArray, List.getElem_cons_zero, List.getElem_cons_succ, List.setIfInBounds_toArray, List.set_cons_zero, List.set_cons_succ]
                refine wpAnyZ_take (i := 3) (v := ?vz3_2) (by kernel_rfl) rfl (by kernel_rfl) (by kernel_rfl) (by kernel_rfl) (fun _ _ _ h => h) (Or.inl ⟨by rfl, ?hz3_2⟩) (by assumption) ?_
                case hz3_2 => (intro W hSw; (try dsimp only at hSw); go_simp; (try with_reducible rfl))
                try simp only [Act.put, List.getElem_toArray, List.getElem_cons_zero, List.getElem_cons_succ, List.setIfInBounds_toArray, List.set_cons_zero, List.set_cons_succ]
                refine wpAnyZ_take (i := 6) (v := ?vz6_2) (by kernel_rfl) rfl (by kernel_rfl) (by kernel_rfl) (by kernel_rfl) (fun _ _ _ h => h) (Or.inl ⟨by rfl, ?hz6_2⟩) (by assumption) ?_
                case hz6_2 => (intro W hSw; (try dsimp only at hSw); go_simp; (try with_reducible rfl))
                try simp only [Act.put, List.getElem_toArray, List.getElem_cons_zero, List.getElem_cons_succ, List.setIfInBounds_toArray, List.set_cons_zero, List.set_cons_succ]
                refine wpAnyZ_one (i := 4) (by kernel_rfl) rfl (fun K hK => ?_)
                go_simp
                refine (Nm.Of_any (str t) hts _).mono ?_
                rintro e wq ⟨rfl, hbqd⟩
                have hbq : Below wl.heap.size wl wq := ((Below.refl _ wl).drew).trans hbqd
                have HNq := Lib.hid (HNl.out.below (w' := wq) hbq)
                have HKq : Hid (Blk wq gb 29 #[.slice NA (ndsK L j).length nc, .slice none 0 0]) := HKl.out.below hbq (by simpa using hgl)
                have hbq2 : Below (gb + 1) wl wq := hbq.mono (Nat.succ_le_of_lt hgl)
                refine hK.out _ _ (.inr ?_) (fun hHeld2 => ?_)
                · exact hbq2
                clear hK K hHeld hbq hbq2 hbqd
                have hHeld := hHeld2.resolve_left (by decide)
                clear hHeld2
                try simp only [Act.put, List.getElem_toArray, List.getElem_cons_zero, List.getElem_cons_succ, List.setIfInBounds_toArray, List.set_cons_zero, List.set_cons_succ]
                refine wpAnyZ_take (i := 5) (v := ?vz5_2) (by kernel_rfl) rfl (by kernel_rfl) (by kernel_rfl) (by kernel_rfl) (fun _ _ _ h => h) (Or.inl ⟨by rfl, ?hz5_2⟩) (by assumption) ?_
                case hz5_2 => (intro W hSw; (try dsimp only at hSw); go_simp; (try with_reducible rfl))
                try simp only [Act.put, List.getElem_toArray, List.getElem_cons_zero, List.getElem_cons_succ, List.setIfInBounds_toArray, List.set_cons_zero, List.set_cons_succ]
                refine wpAnyZ_take (i := 7) (v := ?vz7_2) (by kernel_rfl) rfl (by kernel_rfl) (by kernel_rfl) (by kernel_rfl) (fun _ _ _ h => h) (Or.inl ⟨by rfl, ?hz7_2⟩) (by assumption) ?_
                case hz7_2 => (intro W hSw; (try dsimp only at hSw); go_simp; (try with_reducible rfl))
                try simp only [Act.put, List.getElem_toArray, List.getElem_cons_zero, List.getElem_cons_succ, List.setIfInBounds_toArray, List.set_cons_zero, List.set_cons_succ]
                refine wpAnyZ_one (i := 8) (by kernel_rfl) rfl (fun K hK => ?_)
                go_simp
                refine hK.out _ _ (.inr ?_) (fun hHeld2 => ?_)
                · exact hHeld.alloc (Nat.le_trans (Nat.succ_le_of_lt hgl) hHeld.size) _
                clear hK K hHeld 
                have hHeld := hHeld2.resolve_left (by decide)
                clear hHeld2
                try simp only [Act.put, List.getElem_toArray, List.getElem_cons_zero, List.getElem_cons_succ, List.setIfInBounds_toArray, List.set_cons_zero, List.set_cons_succ]
                refine wpAnyZ_one (i := 9) (by kernel_rfl) rfl (fun K hK => ?_)
                refine step_appendO ndTy rfl (.tmp 67) (.tmp 74) (by rfl) (gb + 1) (.slice NA (ndsK L j).length nc) (ndsK L j) [(⟨t, Nm.kindP (str t), 4⟩ : Nd)] (by rfl) (HNq.out.below ((Below.refl _ _).alloc (Nat.le_refl _) _)) ⟨wq.heap.size, 0, none⟩ 1 1 (by rfl) rfl (fun i u hi => ?_) (by have := ndsK_len L j; simp; omega) (by have := HKq.out.lt; simp; omega) ?_
                · rw [add_g0, (Blk.new wq 32 #[.string (str t), .int .i64 (Nm.kindP (str t)), .int .i64 (4)]).cell i]
                  simpa [Lay.all, ndLay] using hi
                intro v2 wr2 ho2 hg2 _
                have hwz : Below wq.heap.size wq (wq.alloc (.cells #[.string (str t), .int .i64 (Nm.kindP (str t)), .int .i64 (4)] 32)) := (Below.refl _ _).alloc (Nat.le_refl _) _
                have hgq := HKq.out.lt
                have hown := fun k hk => (HNq.out.below hwz).lt (g := k) hk
                have HK2 : Hid (Blk wr2 gb 29 #[.slice NA (ndsK L j).length nc, .slice none 0 0]) := (HKq.out.alloc _).grown hg2 (fun e => by have := (hown gb e.symm).1; omega)
                have hb2 : Below (gb + 1) wl wr2 := ((hHeld.grown hg2 (by have := HKq.out.lt; simp; omega) (fun k hk => (hown k hk).1)))
                obtain ⟨A5, c6, hv5, hz1, hz2, hz3, hz4⟩ := ho2.slice (by have := ndsK_len L j; simp [maxLen]; omega)
                subst hv5
                have HO2 := Lib.hid ho2
                have st0 : wr2.cell? ⟨gb, 0, none⟩ = some (.slice NA (ndsK L j).length nc) := HK2.out.cell 0
                have st1 := HK2.out.frozen 0
                have hlen5 : (ndsK L j ++ [(⟨t, Nm.kindP (str t), 4⟩ : Nd)]).length = (ndsK L j).length + 1 := by simp
                rw [hlen5] at HO2 ⊢
                refine hK.out _ _ (.inr ?_) (fun hHeld2 => ?_)
                · exact hb2
                clear hK K hHeld ho2 hg2 hz1 hz2 hz3 hz4 hown hwz
                have hHeld := hHeld2.resolve_left (by decide)
                clear hHeld2
                try simp only [Act.put, List.getElem_toArray, List.getElem_cons_zero, List.getElem_cons_succ, List.setIfInBounds_toArray, List.set_cons_zero, List.set_cons_succ]
                refine wpAnyZ_take (i := 10) (v := ?vz10_2) (by kernel_rfl) rfl (by kernel_rfl) (by kernel_rfl) (by kernel_rfl) (fun _ _ _ h => h) (Or.inl ⟨by rfl, ?hz10_2⟩) (by assumption) ?_
                case hz10_2 => (intro W hSw; (try dsimp only at hSw); go_simp; (try with_reducible rfl))
                try simp only [Act.put, List.getElem_toArray, List.getElem_cons_zero, List.getElem_cons_succ, List.setIfInBounds_toArray, List.set_cons_zero, List.set_cons_succ]
                refine wpAnyZ_one (i := 11) (by kernel_rfl) rfl (fun K hK => ?_)
                go_simp
                refine hK.out _ _ (.inl rfl) (fun _ => ?_)
                clear hK K hHeld 
                try simp only [Act.put, List.getElem_toArray, List.getElem_cons_zero, List.getElem_cons_succ, List.setIfInBounds_toArray, List.set_cons_zero, List.set_cons_succ]
                refine wpAnyZ_done (by kernel_rfl) ?_ _
                have hlj : (ndsK L (j + 1)).length = (ndsK L j).length + 1 := by rw [HNS.out]; simp
                have HO3 : Hid (OwnG ndLay 32 wr2 (gb + 1) (.slice A5 ((ndsK L j).length + 1) c6) (ndsK L (j + 1))) := by show OwnG _ _ _ _ _ _; rw [HNS.out, HNL.out]; exact HO2.out
                have HBZ : Hid (Below gb wn wr2) := HBl.out.trans (hb2.mono (Nat.le_succ gb))
                have hg2 := HK2.out.lt
                clear d0 hlk st0 st1 q0 q1 hb2
                go_wp2_with fail
                go_roundw
                case rel =>
                  refine ⟨A5, c6, j + 1, by omega, by go_num, ?_, ?_, ?_⟩
                  · rw [hlj]; exact HK2.out.setCell 0 _
                  · rw [hlj]; exact HO3.out.kept (grown_setCell wr2 ⟨gb, 0, none⟩ _) (fun x hx e => by have := (HO3.out.lt hx).1; injection e with e; subst e; exact absurd this (by simp))
                  · exact below_setCell HBZ.out (by omega) (Nat.le_refl gb) _
                case measure => simp [intOf]; omega

              · rw [show stateL R.x.s = R.x.s by unfold stateL; rw [if_neg (by omega)]] at HNL
                have h1' : 1 ≤ R.x.s := by omega
                have h4' : R.x.s ≤ 4 := by omega
                go_wp2_with fail
                refine wp_region_Z (S := fun W => Below (gb + 1) wl W) (z := 11) (by kernel_rfl) ?_ (fun hHeld => ?_)
                · exact (Below.refl _ _).drew
                refine wpAnyZ_take (i := 0) (v := ?vz0_3) (by kernel_rfl) rfl (by kernel_rfl) (by kernel_rfl) (by kernel_rfl) (fun _ _ _ h => h) (Or.inl ⟨by rfl, ?hz0_3⟩) (by assumption) ?_
                case hz0_3 => (intro W hSw; (try dsimp only at hSw); go_simp; (try with_reducible rfl))
                try simp only [Act.put, List.getElem_toArray, List.getElem_cons_zero, List.setIfInBounds_toArray, List.set_cons_zero, List.set_cons_succ]
                refine wpAnyZ_take (i := 1) (v := ?vz1_3) (by kernel_rfl) rfl (by kernel_rfl) (by kernel_rfl) (by kernel_rfl) (fun _ _ _ h => h) (Or.inl ⟨by rfl, ?hz1_3⟩) (by assumption) ?_
                case hz1_3 => (intro W hSw; have p0 := (Below.cell hSw (p := ⟨gb, 0, none⟩) (Nat.lt_succ_self gb)).trans d0; (try dsimp only at hSw); go_simp; (try with_reducible rfl))
                try simp only [Act.put, List.getElem_toArray, List.getElem_cons_zero, List.getElem_cons_succ, List.setIfInBounds_toArray, List.set_cons_zero, List.set_cons_succ]
                refine wpAnyZ_take (i := 2) (v := ?vz2_3) (by kernel_rfl) rfl (by kernel_rfl) (by kernel_rfl) (by kernel_rfl) (fun _ _ _ h => h) (Or.inl ⟨by rfl, ?hz2_3⟩) (by assumption) ?_
                case hz2_3 => (intro W hSw; (try dsimp only at hSw); go_simp; (try with_reducible rfl))
                try simp only [Act.put, List.getElem_toArray, List.getElem_cons_zero, List.getElem_cons_succ, List.setIfInBounds_toArray, List.set_cons_zero, List.set_cons_succ]
                refine wpAnyZ_take (i := 3) (v := ?vz3_3) (by kernel_rfl) rfl (by kernel_rfl) (by kernel_rfl) (by kernel_rfl) (fun _ _ _ h => h) (Or.inl ⟨by rfl, ?hz3_3⟩) (by assumption) ?_
                case hz3_3 => (intro W hSw; (try dsimp only at hSw); go_simp; (try with_reducible rfl))
                try simp only [Act.put, List.getElem_toArray, List.getElem_cons_zero, List.getElem_cons_succ, List.setIfInBounds_toArray, List.set_cons_zero, List.set_cons_succ]
                refine wpAnyZ_take (i := 6) (v := ?vz6_3) (by kernel_rfl) rfl (by kernel_rfl) (by kernel_rfl) (by kernel_rfl) (fun _ _ _ h => h) (Or.inl ⟨by rfl, ?hz6_3⟩) (by assumption) ?_
                case hz6_3 => (intro W hSw; (try dsimp only at hSw); go_simp; (try with_reducible rfl))
                try simp only [Act.put, List.getElem_toArray, List.getElem_cons_zero, List.getElem_cons_succ, List.setIfInBounds_toArray, List.set_cons_zero, List.set_cons_succ]
                refine wpAnyZ_one (i := 4) (by kernel_rfl) rfl (fun K hK => ?_)
                go_simp
                refine (Nm.Of_any (str t) hts _).mono ?_
                rintro e wq ⟨rfl, hbqd⟩
                have hbq : Below wl.heap.size wl wq := ((Below.refl _ wl).drew).trans hbqd
                have HNq := Lib.hid (HNl.out.below (w' := wq) hbq)
                have HKq : Hid (Blk wq gb 29 #[.slice NA (ndsK L j).length nc, .slice none 0 0]) := HKl.out.below hbq (by simpa using hgl)
                have hbq2 : Below (gb + 1) wl wq := hbq.mono (Nat.succ_le_of_lt hgl)
                refine hK.out _ _ (.inr ?_) (fun hHeld2 => ?_)
                · exact hbq2
                clear hK K hHeld hbq hbq2 hbqd
                have hHeld := hHeld2.resolve_left (by decide)
                clear hHeld2
                try simp only [Act.put, List.getElem_toArray, List.getElem_cons_zero, List.getElem_cons_succ, List.setIfInBounds_toArray, List.set_cons_zero, List.set_cons_succ]
                refine wpAnyZ_take (i := 5) (v := ?vz5_3) (by kernel_rfl) rfl (by kernel_rfl) (by kernel_rfl) (by kernel_rfl) (fun _ _ _ h => h) (Or.inl ⟨by rfl, ?hz5_3⟩) (by assumption) ?_
                case hz5_3 => (intro W hSw; (try dsimp only at hSw); go_simp; (try with_reducible rfl))
                try simp only [Act.put, List.getElem_toArray, List.getElem_cons_zero, List.getElem_cons_succ, List.setIfInBounds_toArray, List.set_cons_zero, List.set_cons_succ]
                refine wpAnyZ_take (i := 7) (v := ?vz7_3) (by kernel_rfl) rfl (by kernel_rfl) (by kernel_rfl) (by kernel_rfl) (fun _ _ _ h => h) (Or.inl ⟨by rfl, ?hz7_3⟩) (by assumption) ?_
                case hz7_3 => (intro W hSw; (try dsimp only at hSw); go_simp; (try with_reducible rfl))
                try simp only [Act.put, List.getElem_toArray, List.getElem_cons_zero, List.getElem_cons_succ, List.setIfInBounds_toArray, List.set_cons_zero, List.set_cons_succ]
                refine wpAnyZ_one (i := 8) (by kernel_rfl) rfl (fun K hK => ?_)
                go_simp
                refine hK.out _ _ (.inr ?_) (fun hHeld2 => ?_)
                · exact hHeld.alloc (Nat.le_trans (Nat.succ_le_of_lt hgl) hHeld.size) _
                clear hK K hHeld 
                have hHeld := hHeld2.resolve_left (by decide)
                clear hHeld2
                try simp only [Act.put, List.getElem_toArray, List.getElem_cons_zero, List.getElem_cons_succ, List.setIfInBounds_toArray, List.set_cons_zero, List.set_cons_succ]
                refine wpAnyZ_one (i := 9) (by kernel_rfl) rfl (fun K hK => ?_)
                refine step_appendO ndTy rfl (.tmp 67) (.tmp 74) (by rfl) (gb + 1) (.slice NA (ndsK L j).length nc) (ndsK L j) [(⟨t, Nm.kindP (str t), R.x.s⟩ : Nd)] (by rfl) (HNq.out.below ((Below.refl _ _).alloc (Nat.le_refl _) _)) ⟨wq.heap.size, 0, none⟩ 1 1 (by rfl) rfl (fun i u hi => ?_) (by have := ndsK_len L j; simp; omega) (by have := HKq.out.lt; simp; omega) ?_
                · rw [add_g0, (Blk.new wq 32 #[.string (str t), .int .i64 (Nm.kindP (str t)), .int .i64 (R.x.s)]).cell i]
                  simpa [Lay.all, ndLay] using hi
                intro v2 wr2 ho2 hg2 _
                have hwz : Below wq.heap.size wq (wq.alloc (.cells #[.string (str t), .int .i64 (Nm.kindP (str t)), .int .i64 (R.x.s)] 32)) := (Below.refl _ _).alloc (Nat.le_refl _) _
                have hgq := HKq.out.lt
                have hown := fun k hk => (HNq.out.below hwz).lt (g := k) hk
                have HK2 : Hid (Blk wr2 gb 29 #[.slice NA (ndsK L j).length nc, .slice none 0 0]) := (HKq.out.alloc _).grown hg2 (fun e => by have := (hown gb e.symm).1; omega)
                have hb2 : Below (gb + 1) wl wr2 := ((hHeld.grown hg2 (by have := HKq.out.lt; simp; omega) (fun k hk => (hown k hk).1)))
                obtain ⟨A5, c6, hv5, hz1, hz2, hz3, hz4⟩ := ho2.slice (by have := ndsK_len L j; simp [maxLen]; omega)
                subst hv5
                have HO2 := Lib.hid ho2
                have st0 : wr2.cell? ⟨gb, 0, none⟩ = some (.slice NA (ndsK L j).length nc) := HK2.out.cell 0
                have st1 := HK2.out.frozen 0
                have hlen5 : (ndsK L j ++ [(⟨t, Nm.kindP (str t), R.x.s⟩ : Nd)]).length = (ndsK L j).length + 1 := by simp
                rw [hlen5] at HO2 ⊢
                refine hK.out _ _ (.inr ?_) (fun hHeld2 => ?_)
                · exact hb2
                clear hK K hHeld ho2 hg2 hz1 hz2 hz3 hz4 hown hwz
                have hHeld := hHeld2.resolve_left (by decide)
                clear hHeld2
                try simp only [Act.put, List.getElem_toArray, List.getElem_cons_zero, List.getElem_cons_succ, List.setIfInBounds_toArray, List.set_cons_zero, List.set_cons_succ]
                refine wpAnyZ_take (i := 10) (v := ?vz10_3) (by kernel_rfl) rfl (by kernel_rfl) (by kernel_rfl) (by kernel_rfl) (fun _ _ _ h => h) (Or.inl ⟨by rfl, ?hz10_3⟩) (by assumption) ?_
                case hz10_3 => (intro W hSw; (try dsimp only at hSw); go_simp; (try with_reducible rfl))
                try simp only [Act.put, List.getElem_toArray, List.getElem_cons_zero, List.getElem_cons_succ, List.setIfInBounds_toArray, List.set_cons_zero, List.set_cons_succ]
                refine wpAnyZ_one (i := 11) (by kernel_rfl) rfl (fun K hK => ?_)
                go_simp
                refine hK.out _ _ (.inl rfl) (fun _ => ?_)
                clear hK K hHeld 
                try simp only [Act.put, List.getElem_toArray, List.getElem_cons_zero, List.getElem_cons_succ, List.setIfInBounds_toArray, List.set_cons_zero, List.set_cons_succ]
                refine wpAnyZ_done (by kernel_rfl) ?_ _
                have hlj : (ndsK L (j + 1)).length = (ndsK L j).length + 1 := by rw [HNS.out]; simp
                have HO3 : Hid (OwnG ndLay 32 wr2 (gb + 1) (.slice A5 ((ndsK L j).length + 1) c6) (ndsK L (j + 1))) := by show OwnG _ _ _ _ _ _; rw [HNS.out, HNL.out]; exact HO2.out
                have HBZ : Hid (Below gb wn wr2) := HBl.out.trans (hb2.mono (Nat.le_succ gb))
                have hg2 := HK2.out.lt
                clear d0 hlk st0 st1 q0 q1 hb2
                go_wp2_with fail
                go_roundw
                case rel =>
                  refine ⟨A5, c6, j + 1, by omega, by go_num, ?_, ?_, ?_⟩
                  · rw [hlj]; exact HK2.out.setCell 0 _
                  · rw [hlj]; exact HO3.out.kept (grown_setCell wr2 ⟨gb, 0, none⟩ _) (fun x hx e => by have := (HO3.out.lt hx).1; injection e with e; subst e; exact absurd this (by simp))
                  · exact below_setCell HBZ.out (by omega) (Nat.le_refl gb) _
                case measure => simp [intOf]; omega

          · obtain rfl : m = j := by omega
            have hND : ndsK L m = nodesL kT (L.map (·.x)) := by unfold ndsK nodesL; rw [List.take_of_length_le (by rw [hNT]; exact Nat.le_refl _)]
            have hlen64 := ndsK_len L m
            rw [hND] at HKl HNl hlen64
            have hbg : b + 1 < gb := by have := HM1.out.lt; omega
            have hgl := HKl.out.lt
            have hBwl : Below B w wl := (HB1.out.mono (by omega)).trans ((hBw.out.mono (by omega)).trans (HBl.out.mono (by omega)))
            have HO0 : Hid (Os wl wl gb (nodesL kT (L.map (·.x))) (esK L 0)) := ⟨⟨_, _, HKl.out, HNl.out, OwnG.nil _ _⟩, EsOk.nil _, hlen64, World.grownBy.refl _ _⟩
            have HCl : Hid (Ctx wl B gb (b + 1) k L) := ⟨fun r hr => (HL.out.is r hr).below hBwl, HM1.out.belowB HBl.out (by omega), by omega, hbg, hgl⟩
            have HRl : Hid (Blk wl b 29 #[.slice none 0 0, .slice none 0 0]) := (HRES.out.below hBw.out (Nat.lt_succ_self b)).below HBl.out (by omega)
            have d0 : wl.cell? ⟨gb, 0, none⟩ = some (.slice NA (nodesL kT (L.map (·.x))).length nc) := HKl.out.cell 0
            have HBW : Hid (Below b w wl) := (HB1.out.mono (by omega)).trans ((hBw.out.mono (by omega)).trans (HBl.out.mono (by omega)))
            go_wp2_with fail
            go_loopw [81] (fun i wr => ∃ q : Nat, q ≤ (nodesL kT (L.map (·.x))).length ∧ i = .int .i64 q ∧ Hid (Os wl wr gb (nodesL kT (L.map (·.x))) (esK L q))) (fun i wr => (nodesL kT (L.map (·.x))).length - (intOf i).toNat)
            case atStart => exact ⟨0, Nat.zero_le _, rfl, HO0⟩
            case round =>
              clear HO0 d0
              obtain ⟨q, hq, rfl, hOs⟩ := hrel
              obtain ⟨wv, hren⟩ : ∃ wv, wv = wr := ⟨wr, rfl⟩
              subst hren
              by_cases hqt : q < (nodesL kT (L.map (·.x))).length
              · have c0 : (0 : Int) ≤ (q : Int) := by omega
                have c1 : (q : Int) < ((nodesL kT (L.map (·.x))).length : Int) := by omega
                have HNv := HNl.out.kept hOs.out.grown (fun g' hg' e => by have := (HNl.out.lt hg').1; injection e with e; omega)
                obtain ⟨_, _, hv3, hz1, hz2, hz3, hrow⟩ := HNv.slice (by unfold maxLen; omega)
                injection hv3 with hv1 hv2 hv3
                subst hv1
                obtain ⟨ad2, x, rfl, hab2, hx, q0, q1, q2⟩ := nds_at hrow hqt
                have hxm := List.mem_of_getElem? hx
                have HES := Lib.hid (esK_succ hx)
                have HXN := Lib.hid (nodesL_has hxm)
                have HFD := Lib.hid (look_found (List.mem_of_mem_take (nodesL_has hxm).1))
                have hxl : x.n.length ≤ maxLen := by rw [← HFD.out.2.2.1]; exact (hS _ HFD.out.2.1).n
                have HOa : Hid (Os wl (wv.alloc (.cells #[.string (str x.n), .int .i64 x.k, .int .i64 x.s] 32)) gb (nodesL kT (L.map (·.x))) (esK L q)) := hOs.out.alloc _
                clear hv2 hv3 hz1 hz2 hz3 hrow HNv hx
                by_cases hs : x.s = 1
                · have HE := Lib.hid (own_one (es := esK L q) hxm hs)
                  have HC8 := Lib.hid (HCl.out.grown HOa.out.grown)
                  have hlk := HC8.out.look x.n hxl
                  have e1 : (x.s == 1) = true := by simpa using hs
                  have hMine : Mine (wv.alloc (.cells #[.string (str x.n), .int .i64 x.k, .int .i64 x.s] 32)) B (nodesL kT (L.map (·.x))) (lookR L x.n) := ⟨HC8.out.at_ x.n, hS _ HFD.out.2.1, by rw [HFD.out.2.2.1]; exact HXN.out.2.2⟩
                  have HMI := Lib.hid hMine
                  clear hs hMine hxm
                  go_wp2_with fail
                  refine (gOwn_any B gb (b + 1) k L (nodesL kT (L.map (·.x))) (esK L q) (lookR L x.n) _ HC8.out HMI.out ⟨HOa.out.box, HOa.out.ok, HOa.out.few, World.grownBy.refl _ _⟩ hS).mono ?_
                  rintro e wy ⟨rfl, h5⟩
                  have H5 : Hid (Os wl wy gb (nodesL kT (L.map (·.x))) (esK L (q + 1))) := by
                    rw [← HE.out, ← HES.out] at h5
                    exact ⟨h5.box, h5.ok, h5.few, grown_trans HOa.out.grown h5.grown⟩
                  clear h5
                  go_wp2_with fail
                  go_roundw
                  case rel => exact ⟨q + 1, by omega, by go_num, H5⟩
                  case measure => simp [intOf]; omega
                · have HE := Lib.hid (own_not (L := L) (es := esK L q) hs)
                  have e1 : (x.s == 1) = false := by simpa using hs
                  clear hs hxm
                  go_wp2_with fail
                  go_roundw
                  case rel => exact ⟨q + 1, by omega, by go_num, by rw [HES.out, HE.out]; exact HOa⟩
                  case measure => simp [intOf]; omega
              · obtain rfl : (nodesL kT (L.map (·.x))).length = q := by omega
                rw [esK_all] at hOs
                have hel := hOs.out.ok.len hOs.out.few
                obtain ⟨NA', nc', EA', ec', hB9, hG9, hN9, hE9⟩ := hOs.out.box.at_ (by unfold maxLen; omega) (by unfold maxLen; omega)
                have HB9 := Lib.hid hB9
                have HN9 := Lib.hid hN9
                have HE9 := Lib.hid hE9
                have d0 := hB9.cell 0
                have d1 := hB9.cell 1
                have hbne : b ≠ gb := by omega
                have HRv : Hid (Blk wv b 29 #[.slice none 0 0, .slice none 0 0]) := HRl.out.grown hOs.out.grown (by simpa using hbne)
                have HBV : Hid (Below b w wv) := HBW.out.trans ((grown_below hOs.out.grown (Nat.le_of_lt hgl)).mono (by omega))
                clear hB9 hG9 hN9 hE9
                go_wp2_with (refine wpList_store_row rfl 29 (.tmp 2) (.tmp 95) (by rfl) b #[.slice NA' (nodesL kT (L.map (·.x))).length nc', .slice EA' (ofE kT (L.map (·.x))).length ec'] (by rfl) (by rfl) 29 #[.slice none 0 0, .slice none 0 0] HRv.out (by kernel_rfl) rfl (graph_cells _ _ _ _ _ _) ?_)
                refine bodyPost_ret (results_cellG (p := 2) rfl _ _ b 29 _ _ rfl (Blk.row HRv.out _) Tryz.underlying29 rfl (by kernel_rfl)) rfl ⟨_, rfl, ?_, ?_⟩
                · exact grAt_own (HN9.out.kept (grown_setRow _ _ _) (fun x hx e => by have := (HN9.out.lt hx).1; injection e with e; omega)) (HE9.out.kept (grown_setRow _ _ _) (fun x hx e => by have := (HE9.out.lt hx).1; injection e with e; omega)) (by unfold maxLen; omega) (by unfold maxLen; omega)
                · rw [hb]; exact below_setRow HBV.out (Nat.le_refl b) _
      · have z0 : (64 : Int) < (m : Int) := by omega
        have z1 : (64 : Int) ≤ (c' : Int) := by omega
        go_wp2_with fail
        obtain ⟨gb, hgb⟩ : ∃ gb, wn.heap.size = gb := ⟨_, rfl⟩
        have hb3 : Below wn.heap.size wn (wn.alloc (.cells #[.slice none 0 0, .slice none 0 0] 29)) := (Below.refl _ _).alloc (Nat.le_refl _) _
        have HK3 : Hid (Blk (wn.alloc (.cells #[.slice none 0 0, .slice none 0 0] 29)) gb 29 #[.slice none 0 0, .slice none 0 0]) := by rw [← hgb]; exact Blk.new _ _ _
        obtain ⟨w3, hw3⟩ : ∃ w3, wn.alloc (.cells #[.slice none 0 0, .slice none 0 0] 29) = w3 := ⟨_, rfl⟩
        rw [hw3] at hb3 HK3
        rw [hw3]
        have HB3 := Lib.hid hb3
        clear hb3 hw3
        rw [hgb] at HB3
        rw [hgb]
        have HK30 : Hid (Blk w3 gb 29 #[.slice none (ndsK L 0).length 0, .slice none 0 0]) := HK3.out
        have HN30 : Hid (OwnG ndLay 32 w3 (gb + 1) (.slice none (ndsK L 0).length 0) (ndsK L 0)) := OwnG.nil _ _
        have HB30 := HB3
        clear HK3
        have hNT : ((namesL kT (L.map (·.x))).take 64).length = 64 := by rw [List.length_take, ← hNN, hm]; omega
        go_loopw [52] (fun i wr => ∃ (NA : Option Addr) (nc j : Nat), j ≤ 64 ∧ i = .int .i64 j ∧ Hid (Blk wr gb 29 #[.slice NA (ndsK L j).length nc, .slice none 0 0]) ∧ Hid (OwnG ndLay 32 wr (gb + 1) (.slice NA (ndsK L j).length nc) (ndsK L j)) ∧ Hid (Below gb wn wr)) (fun i wr => 64 - (intOf i).toNat)
        case atStart => exact ⟨none, 0, 0, Nat.zero_le _, rfl, HK30, HN30, HB30⟩
        case round =>
          clear HK30 HN30 HB30
          obtain ⟨NA, nc, j, hj, rfl, HKl, HNl, HBl⟩ := hrel
          obtain ⟨wl, hren⟩ : ∃ wl, wl = wr := ⟨wr, rfl⟩
          subst hren
          by_cases hlt : j < 64
          · have b0 : (0 : Int) ≤ (j : Int) := by omega
            have b1 : (j : Int) < (64 : Int) := by omega
            have hwl : Below gb wn wl := HBl.out
            obtain ⟨ad, t, rfl, hab, hx, q0⟩ := txs_at (HROW.out.below (by rw [hgb]; exact hwl)) (by omega : j < m)
            have hxt : ((namesL kT (L.map (·.x))).take 64)[j]? = some t := by rw [List.getElem?_take, if_pos (by omega), ← hNN]; exact hx
            have htm : t ∈ namesL kT (L.map (·.x)) := List.mem_of_mem_take (List.mem_of_getElem? hxt)
            have HF := Lib.hid (look_found htm)
            have htl : t.length ≤ maxLen := by rw [← HF.out.2.2.1]; exact (hS _ HF.out.2.1).n
            have hts : (str t).size ≤ maxLen := by rw [str_size]; exact htl
            have HNS := Lib.hid (ndsK_succ hxt)
            have HNL := Lib.hid (nodeL_look htm)
            have hbg : b + 1 < gb := by have := HM1.out.lt; omega
            have HMl := Lib.hid (HM1.out.belowB hwl (by omega))
            have hlk := HMl.out.look Tryz.underlying73 (zeroL_run _) t htl
            rw [mapF_get] at hlk
            have hI := (HL.out.is _ HF.out.2.1).state
            obtain ⟨R, hR⟩ : ∃ R, lookR L t = R := ⟨_, rfl⟩
            rw [hR] at hlk HNL hI
            have f1 := fun W => fld_state R hI W
            have hgl := HKl.out.lt
            have d0 : wl.cell? ⟨gb, 0, none⟩ = some (.slice NA (ndsK L j).length nc) := HKl.out.cell 0
            have q1 := fun w => Nm.fld0 (Nm.kindP (str t)) (Nm.preP (str t)) (Nm.instP (str t)) (Nm.atP (str t)) w
            have HNDK := Lib.hid hts
            clear hx hxt htm hI hwl
            by_cases h1 : R.x.s < 1
            · rw [show stateL R.x.s = 4 by unfold stateL; rw [if_pos (.inl h1)]] at HNL
              go_wp2_with fail
              refine wp_region_Z (S := fun W => Below (gb + 1) wl W) (z := 11) (by kernel_rfl) ?_ (fun hHeld => ?_)
              · exact (Below.refl _ _).drew
              refine wpAnyZ_take (i := 0) (v := ?vz0_4) (by kernel_rfl) rfl (by kernel_rfl) (by kernel_rfl) (by kernel_rfl) (fun _ _ _ h => h) (Or.inl ⟨by rfl, ?hz0_4⟩) (by assumption) ?_
              case hz0_4 => (intro W hSw; (try dsimp only at hSw); go_simp; (try with_reducible rfl))
              try simp only [Act.put, List.getElem_toArray, List.getElem_cons_zero, List.setIfInBounds_toArray, List.set_cons_zero, List.set_cons_succ]
              refine wpAnyZ_take (i := 1) (v := ?vz1_4) (by kernel_rfl) rfl (by kernel_rfl) (by kernel_rfl) (by kernel_rfl) (fun _ _ _ h => h) (Or.inl ⟨by rfl, ?hz1_4⟩) (by assumption) ?_
              case hz1_4 => (intro W hSw; have p0 := (Below.cell hSw (p := ⟨gb, 0, none⟩) (Nat.lt_succ_self gb)).trans d0; (try dsimp only at hSw); go_simp; (try with_reducible rfl))
              try simp only [Act.put, List.getElem_toArray, List.getElem_cons_zero, List.getElem_cons_succ, List.setIfInBounds_toArray, List.set_cons_zero, List.set_cons_succ]
              refine wpAnyZ_take (i := 2) (v := ?vz2_4) (by kernel_rfl) rfl (by kernel_rfl) (by kernel_rfl) (by kernel_rfl) (fun _ _ _ h => h) (Or.inl ⟨by rfl, ?hz2_4⟩) (by assumption) ?_
              case hz2_4 => (intro W hSw; (try dsimp only at hSw); go_simp; (try with_reducible rfl))
              try simp only [Act.put, List.getElem_toArray, List.getElem_cons_zero, List.getElem_cons_succ, List.setIfInBounds_toArray, List.set_cons_zero, List.set_cons_succ]
              refine wpAnyZ_take (i := 3) (v := ?vz3_4) (by kernel_rfl) rfl (by kernel_rfl) (by kernel_rfl) (by kernel_rfl) (fun _ _ _ h => h) (Or.inl ⟨by rfl, ?hz3_4⟩) (by assumption) ?_
              case hz3_4 => (intro W hSw; (try dsimp only at hSw); go_simp; (try with_reducible rfl))
              try simp only [Act.put, List.getElem_toArray, List.getElem_cons_zero, List.getElem_cons_succ, List.setIfInBounds_toArray, List.set_cons_zero, List.set_cons_succ]
              refine wpAnyZ_take (i := 6) (v := ?vz6_4) (by kernel_rfl) rfl (by kernel_rfl) (by kernel_rfl) (by kernel_rfl) (fun _ _ _ h => h) (Or.inl ⟨by rfl, ?hz6_4⟩) (by assumption) ?_
              case hz6_4 => (intro W hSw; (try dsimp only at hSw); go_simp; (try with_reducible rfl))
              try simp only [Act.put, List.getElem_toArray, List.getElem_cons_zero, List.getElem_cons_succ, List.setIfInBounds_toArray, List.set_cons_zero, List.set_cons_succ]
              refine wpAnyZ_one (i := 4) (by kernel_rfl) rfl (fun K hK => ?_)
              go_simp
              refine (Nm.Of_any (str t) hts _).mono ?_
              rintro e wq ⟨rfl, hbqd⟩
              have hbq : Below wl.heap.size wl wq := ((Below.refl _ wl).drew).trans hbqd
              have HNq := Lib.hid (HNl.out.below (w' := wq) hbq)
              have HKq : Hid (Blk wq gb 29 #[.slice NA (ndsK L j).length nc, .slice none 0 0]) := HKl.out.below hbq (by simpa using hgl)
              have hbq2 : Below (gb + 1) wl wq := hbq.mono (Nat.succ_le_of_lt hgl)
              refine hK.out _ _ (.inr ?_) (fun hHeld2 => ?_)
              · exact hbq2
              clear hK K hHeld hbq hbq2 hbqd
              have hHeld := hHeld2.resolve_left (by decide)
              clear hHeld2
              try simp only [Act.put, List.getElem_toArray, List.getElem_cons_zero, List.getElem_cons_succ, List.setIfInBounds_toArray, List.set_cons_zero, List.set_cons_succ]
              refine wpAnyZ_take (i := 5) (v := ?vz5_4) (by kernel_rfl) rfl (by kernel_rfl) (by kernel_rfl) (by kernel_rfl) (fun _ _ _ h => h) (Or.inl ⟨by rfl, ?hz5_4⟩) (by assumption) ?_
              case hz5_4 => (intro W hSw; (try dsimp only at hSw); go_simp; (try with_reducible rfl))
              try simp only [Act.put, List.getElem_toArray, List.getElem_cons_zero, List.getElem_cons_succ, List.setIfInBounds_toArray, List.set_cons_zero, List.set_cons_succ]
              refine wpAnyZ_take (i := 7) (v := ?vz7_4) (by kernel_rfl) rfl (by kernel_rfl) (by kernel_rfl) (by kernel_rfl) (fun _ _ _ h => h) (Or.inl ⟨by rfl, ?hz7_4⟩) (by assumption) ?_
              case hz7_4 => (intro W hSw; (try dsimp only at hSw); go_simp; (try with_reducible rfl))
              try simp only [Act.put, List.getElem_toArray, List.getElem_cons_zero, List.getElem_cons_succ, List.setIfInBounds_toArray, List.set_cons_zero, List.set_cons_succ]
              refine wpAnyZ_one (i := 8) (by kernel_rfl) rfl (fun K hK => ?_)
              go_simp
              refine hK.out _ _ (.inr ?_) (fun hHeld2 => ?_)
              · exact hHeld.alloc (Nat.le_trans (Nat.succ_le_of_lt hgl) hHeld.size) _
              clear hK K hHeld 
              have hHeld := hHeld2.resolve_left (by decide)
              clear hHeld2
              try simp only [Act.put, List.getElem_toArray, List.getElem_cons_zero, List.getElem_cons_succ, List.setIfInBounds_toArray, List.set_cons_zero, List.set_cons_succ]
              refine wpAnyZ_one (i := 9) (by kernel_rfl) rfl (fun K hK => ?_)
              refine step_appendO ndTy rfl (.tmp 67) (.tmp 74) (by rfl) (gb + 1) (.slice NA (ndsK L j).length nc) (ndsK L j) [(⟨t, Nm.kindP (str t), 4⟩ : Nd)] (by rfl) (HNq.out.below ((Below.refl _ _).alloc (Nat.le_refl _) _)) ⟨wq.heap.size, 0, none⟩ 1 1 (by rfl) rfl (fun i u hi => ?_) (by have := ndsK_len L j; simp; omega) (by have := HKq.out.lt; simp; omega) ?_
              · rw [add_g0, (Blk.new wq 32 #[.string (str t), .int .i64 (Nm.kindP (str t)), .int .i64 (4)]).cell i]
                simpa [Lay.all, ndLay] using hi
              intro v2 wr2 ho2 hg2 _
              have hwz : Below wq.heap.size wq (wq.alloc (.cells #[.string (str t), .int .i64 (Nm.kindP (str t)), .int .i64 (4)] 32)) := (Below.refl _ _).alloc (Nat.le_refl _) _
              have hgq := HKq.out.lt
              have hown := fun k hk => (HNq.out.below hwz).lt (g := k) hk
              have HK2 : Hid (Blk wr2 gb 29 #[.slice NA (ndsK L j).length nc, .slice none 0 0]) := (HKq.out.alloc _).grown hg2 (fun e => by have := (hown gb e.symm).1; omega)
              have hb2 : Below (gb + 1) wl wr2 := ((hHeld.grown hg2 (by have := HKq.out.lt; simp; omega) (fun k hk => (hown k hk).1)))
              obtain ⟨A5, c6, hv5, hz1, hz2, hz3, hz4⟩ := ho2.slice (by have := ndsK_len L j; simp [maxLen]; omega)
              subst hv5
              have HO2 := Lib.hid ho2
              have st0 : wr2.cell? ⟨gb, 0, none⟩ = some (.slice NA (ndsK L j).length nc) := HK2.out.cell 0
              have st1 := HK2.out.frozen 0
              have hlen5 : (ndsK L j ++ [(⟨t, Nm.kindP (str t), 4⟩ : Nd)]).length = (ndsK L j).length + 1 := by simp
              rw [hlen5] at HO2 ⊢
              refine hK.out _ _ (.inr ?_) (fun hHeld2 => ?_)
              · exact hb2
              clear hK K hHeld ho2 hg2 hz1 hz2 hz3 hz4 hown hwz
              have hHeld := hHeld2.resolve_left (by decide)
              clear hHeld2
              try simp only [Act.put, List.getElem_toArray, List.getElem_cons_zero, List.getElem_cons_succ, List.setIfInBounds_toArray, List.set_cons_zero, List.set_cons_succ]
              refine wpAnyZ_take (i := 10) (v := ?vz10_4) (by kernel_rfl) rfl (by kernel_rfl) (by kernel_rfl) (by kernel_rfl) (fun _ _ _ h => h) (Or.inl ⟨by rfl, ?hz10_4⟩) (by assumption) ?_
              case hz10_4 => (intro W hSw; (try dsimp only at hSw); go_simp; (try with_reducible rfl))
              try simp only [Act.put, List.getElem_toArray, List.getElem_cons_zero, List.getElem_cons_succ, List.setIfInBounds_toArray, List.set_cons_zero, List.set_cons_succ]
              refine wpAnyZ_one (i := 11) (by kernel_rfl) rfl (fun K hK => ?_)
              go_simp
              refine hK.out _ _ (.inl rfl) (fun _ => ?_)
              clear hK K hHeld 
              try simp only [Act.put, List.getElem_toArray, List.getElem_cons_zero, List.getElem_cons_succ, List.setIfInBounds_toArray, List.set_cons_zero, List.set_cons_succ]
              refine wpAnyZ_done (by kernel_rfl) ?_ _
              have hlj : (ndsK L (j + 1)).length = (ndsK L j).length + 1 := by rw [HNS.out]; simp
              have HO3 : Hid (OwnG ndLay 32 wr2 (gb + 1) (.slice A5 ((ndsK L j).length + 1) c6) (ndsK L (j + 1))) := by show OwnG _ _ _ _ _ _; rw [HNS.out, HNL.out]; exact HO2.out
              have HBZ : Hid (Below gb wn wr2) := HBl.out.trans (hb2.mono (Nat.le_succ gb))
              have hg2 := HK2.out.lt
              clear d0 hlk st0 st1 q0 q1 hb2
              go_wp2_with fail
              go_roundw
              case rel =>
                refine ⟨A5, c6, j + 1, by omega, by go_num, ?_, ?_, ?_⟩
                · rw [hlj]; exact HK2.out.setCell 0 _
                · rw [hlj]; exact HO3.out.kept (grown_setCell wr2 ⟨gb, 0, none⟩ _) (fun x hx e => by have := (HO3.out.lt hx).1; injection e with e; subst e; exact absurd this (by simp))
                · exact below_setCell HBZ.out (by omega) (Nat.le_refl gb) _
              case measure => simp [intOf]; omega

            · by_cases h4 : 4 < R.x.s
              · rw [show stateL R.x.s = 4 by unfold stateL; rw [if_pos (.inr h4)]] at HNL
                have h1' : 1 ≤ R.x.s := by omega
                clear h1
                go_wp2_with fail
                try any_goals (exfalso; omega)
                refine wp_region_Z (S := fun W => Below (gb + 1) wl W) (z := 11) (by kernel_rfl) ?_ (fun hHeld => ?_)
                · exact (Below.refl _ _).drew
                refine wpAnyZ_take (i := 0) (v := ?vz0_5) (by kernel_rfl) rfl (by kernel_rfl) (by kernel_rfl) (by kernel_rfl) (fun _ _ _ h => h) (Or.inl ⟨by rfl, ?hz0_5⟩) (by assumption) ?_
                case hz0_5 => (intro W hSw; (try dsimp only at hSw); go_simp; (try with_reducible rfl))
                try simp only [Act.put, List.getElem_toArray, List.getElem_cons_zero, List.setIfInBounds_toArray, List.set_cons_zero, List.set_cons_succ]
                refine wpAnyZ_take (i := 1) (v := ?vz1_5) (by kernel_rfl) rfl (by kernel_rfl) (by kernel_rfl) (by kernel_rfl) (fun _ _ _ h => h) (Or.inl ⟨by rfl, ?hz1_5⟩) (by assumption) ?_
                case hz1_5 => (intro W hSw; have p0 := (Below.cell hSw (p := ⟨gb, 0, none⟩) (Nat.lt_succ_self gb)).trans d0; (try dsimp only at hSw); go_simp; (try with_reducible rfl))
                try simp only [Act.put, List.getElem_toArray, List.getElem_cons_zero, List.getElem_cons_succ, List.setIfInBounds_toArray, List.set_cons_zero, List.set_cons_succ]
                refine wpAnyZ_take (i := 2) (v := ?vz2_5) (by kernel_rfl) rfl (by kernel_rfl) (by kernel_rfl) (by kernel_rfl) (fun _ _ _ h => h) (Or.inl ⟨by rfl, ?hz2_5⟩) (by assumption) ?_
                case hz2_5 => (intro W hSw; (try dsimp only at hSw); go_simp; (try with_reducible rfl))
                try simp only [Act.put, List.getElem_toArray, List.getElem_cons_zero, List.getElem_cons_succ, List.setIfInBounds_toArray, List.set_cons_zero, List.set_cons_succ]
                refine wpAnyZ_take (i := 3) (v := ?vz3_5) (by kernel_rfl) rfl (by kernel_rfl) (by kernel_rfl) (by kernel_rfl) (fun _ _ _ h => h) (Or.inl ⟨by rfl, ?hz3_5⟩) (by assumption) ?_
                case hz3_5 => (intro W hSw; (try dsimp only at hSw); go_simp; (try with_reducible rfl))
                try simp only [Act.put, List.getElem_toArray, List.getElem_cons_zero, List.getElem_cons_succ, List.setIfInBounds_toArray, List.set_cons_zero, List.set_cons_succ]
                refine wpAnyZ_take (i := 6) (v := ?vz6_5) (by kernel_rfl) rfl (by kernel_rfl) (by kernel_rfl) (by kernel_rfl) (fun _ _ _ h => h) (Or.inl ⟨by rfl, ?hz6_5⟩) (by assumption) ?_
                case hz6_5 => (intro W hSw; (try dsimp only at hSw); go_simp; (try with_reducible rfl))
                try simp only [Act.put, List.getElem_toArray, List.getElem_cons_zero, List.getElem_cons_succ, List.setIfInBounds_toArray, List.set_cons_zero, List.set_cons_succ]
                refine wpAnyZ_one (i := 4) (by kernel_rfl) rfl (fun K hK => ?_)
                go_simp
                refine (Nm.Of_any (str t) hts _).mono ?_
                rintro e wq ⟨rfl, hbqd⟩
                have hbq : Below wl.heap.size wl wq := ((Below.refl _ wl).drew).trans hbqd
                have HNq := Lib.hid (HNl.out.below (w' := wq) hbq)
                have HKq : Hid (Blk wq gb 29 #[.slice NA (ndsK L j).length nc, .slice none 0 0]) := HKl.out.below hbq (by simpa using hgl)
                have hbq2 : Below (gb + 1) wl wq := hbq.mono (Nat.succ_le_of_lt hgl)
                refine hK.out _ _ (.inr ?_) (fun hHeld2 => ?_)
                · exact hbq2
                clear hK K hHeld hbq hbq2 hbqd
                have hHeld := hHeld2.resolve_left (by decide)
                clear hHeld2
                try simp only [Act.put, List.getElem_toArray, List.getElem_cons_zero, List.getElem_cons_succ, List.setIfInBounds_toArray, List.set_cons_zero, List.set_cons_succ]
                refine wpAnyZ_take (i := 5) (v := ?vz5_5) (by kernel_rfl) rfl (by kernel_rfl) (by kernel_rfl) (by kernel_rfl) (fun _ _ _ h => h) (Or.inl ⟨by rfl, ?hz5_5⟩) (by assumption) ?_
                case hz5_5 => (intro W hSw; (try dsimp only at hSw); go_simp; (try with_reducible rfl))
                try simp only [Act.put, List.getElem_toArray, List.getElem_cons_zero, List.getElem_cons_succ, List.setIfInBounds_toArray, List.set_cons_zero, List.set_cons_succ]
                refine wpAnyZ_take (i := 7) (v := ?vz7_5) (by kernel_rfl) rfl (by kernel_rfl) (by kernel_rfl) (by kernel_rfl) (fun _ _ _ h => h) (Or.inl ⟨by rfl, ?hz7_5⟩) (by assumption) ?_
                case hz7_5 => (intro W hSw; (try dsimp only at hSw); go_simp; (try with_reducible rfl))
                try simp only [Act.put, List.getElem_toArray, List.getElem_cons_zero, List.getElem_cons_succ, List.setIfInBounds_toArray, List.set_cons_zero, List.set_cons_succ]
                refine wpAnyZ_one (i := 8) (by kernel_rfl) rfl (fun K hK => ?_)
                go_simp
                refine hK.out _ _ (.inr ?_) (fun hHeld2 => ?_)
                · exact hHeld.alloc (Nat.le_trans (Nat.succ_le_of_lt hgl) hHeld.size) _
                clear hK K hHeld 
                have hHeld := hHeld2.resolve_left (by decide)
                clear hHeld2
                try simp only [Act.put, List.getElem_toArray, List.getElem_cons_zero, List.getElem_cons_succ, List.setIfInBounds_toArray, List.set_cons_zero, List.set_cons_succ]
                refine wpAnyZ_one (i := 9) (by kernel_rfl) rfl (fun K hK => ?_)
                refine step_appendO ndTy rfl (.tmp 67) (.tmp 74) (by rfl) (gb + 1) (.slice NA (ndsK L j).length nc) (ndsK L j) [(⟨t, Nm.kindP (str t), 4⟩ : Nd)] (by rfl) (HNq.out.below ((Below.refl _ _).alloc (Nat.le_refl _) _)) ⟨wq.heap.size, 0, none⟩ 1 1 (by rfl) rfl (fun i u hi => ?_) (by have := ndsK_len L j; simp; omega) (by have := HKq.out.lt; simp; omega) ?_
                · rw [add_g0, (Blk.new wq 32 #[.string (str t), .int .i64 (Nm.kindP (str t)), .int .i64 (4)]).cell i]
                  simpa [Lay.all, ndLay] using hi
                intro v2 wr2 ho2 hg2 _
                have hwz : Below wq.heap.size wq (wq.alloc (.cells #[.string (str t), .int .i64 (Nm.kindP (str t)), .int .i64 (4)] 32)) := (Below.refl _ _).alloc (Nat.le_refl _) _
                have hgq := HKq.out.lt
                have hown := fun k hk => (HNq.out.below hwz).lt (g := k) hk
                have HK2 : Hid (Blk wr2 gb 29 #[.slice NA (ndsK L j).length nc, .slice none 0 0]) := (HKq.out.alloc _).grown hg2 (fun e => by have := (hown gb e.symm).1; omega)
                have hb2 : Below (gb + 1) wl wr2 := ((hHeld.grown hg2 (by have := HKq.out.lt; simp; omega) (fun k hk => (hown k hk).1)))
                obtain ⟨A5, c6, hv5, hz1, hz2, hz3, hz4⟩ := ho2.slice (by have := ndsK_len L j; simp [maxLen]; omega)
                subst hv5
                have HO2 := Lib.hid ho2
                have st0 : wr2.cell? ⟨gb, 0, none⟩ = some (.slice NA (ndsK L j).length nc) := HK2.out.cell 0
                have st1 := HK2.out.frozen 0
                have hlen5 : (ndsK L j ++ [(⟨t, Nm.kindP (str t), 4⟩ : Nd)]).length = (ndsK L j).length + 1 := by simp
                rw [hlen5] at HO2 ⊢
                refine hK.out _ _ (.inr ?_) (fun hHeld2 => ?_)
                · exact hb2
                clear hK K hHeld ho2 hg2 hz1 hz2 hz3 hz4 hown hwz
                have hHeld := hHeld2.resolve_left (by decide)
                clear hHeld2
                try simp only [Act.put, List.getElem_toArray, List.getElem_cons_zero, List.getElem_cons_succ, List.setIfInBounds_toArray, List.set_cons_zero, List.set_cons_succ]
                refine wpAnyZ_take (i := 10) (v := ?vz10_5) (by kernel_rfl) rfl (by kernel_rfl) (by kernel_rfl) (by kernel_rfl) (fun _ _ _ h => h) (Or.inl ⟨by rfl, ?hz10_5⟩) (by assumption) ?_
                case hz10_5 => (intro W hSw; (try dsimp only at hSw); go_simp; (try with_reducible rfl))
                try simp only [Act.put, List.getElem_toArray, List.getElem_cons_zero, List.getElem_cons_succ, List.setIfInBounds_toArray, List.set_cons_zero, List.set_cons_succ]
                refine wpAnyZ_one (i := 11) (by kernel_rfl) rfl (fun K hK => ?_)
                go_simp
                refine hK.out _ _ (.inl rfl) (fun _ => ?_)
                clear hK K hHeld 
                try simp only [Act.put, List.getElem_toArray, List.getElem_cons_zero, List.getElem_cons_succ, List.setIfInBounds_toArray, List.set_cons_zero, List.set_cons_succ]
                refine wpAnyZ_done (by kernel_rfl) ?_ _
                have hlj : (ndsK L (j + 1)).length = (ndsK L j).length + 1 := by rw [HNS.out]; simp
                have HO3 : Hid (OwnG ndLay 32 wr2 (gb + 1) (.slice A5 ((ndsK L j).length + 1) c6) (ndsK L (j + 1))) := by show OwnG _ _ _ _ _ _; rw [HNS.out, HNL.out]; exact HO2.out
                have HBZ : Hid (Below gb wn wr2) := HBl.out.trans (hb2.mono (Nat.le_succ gb))
                have hg2 := HK2.out.lt
                clear d0 hlk st0 st1 q0 q1 hb2
                go_wp2_with fail
                go_roundw
                case rel =>
                  refine ⟨A5, c6, j + 1, by omega, by go_num, ?_, ?_, ?_⟩
                  · rw [hlj]; exact HK2.out.setCell 0 _
                  · rw [hlj]; exact HO3.out.kept (grown_setCell wr2 ⟨gb, 0, none⟩ _) (fun x hx e => by have := (HO3.out.lt hx).1; injection e with e; subst e; exact absurd this (by simp))
                  · exact below_setCell HBZ.out (by omega) (Nat.le_refl gb) _
                case measure => simp [intOf]; omega

              · rw [show stateL R.x.s = R.x.s by unfold stateL; rw [if_neg (by omega)]] at HNL
                have h1' : 1 ≤ R.x.s := by omega
                have h4' : R.x.s ≤ 4 := by omega
                go_wp2_with fail
                refine wp_region_Z (S := fun W => Below (gb + 1) wl W) (z := 11) (by kernel_rfl) ?_ (fun hHeld => ?_)
                · exact (Below.refl _ _).drew
                refine wpAnyZ_take (i := 0) (v := ?vz0_6) (by kernel_rfl) rfl (by kernel_rfl) (by kernel_rfl) (by kernel_rfl) (fun _ _ _ h => h) (Or.inl ⟨by rfl, ?hz0_6⟩) (by assumption) ?_
                case hz0_6 => (intro W hSw; (try dsimp only at hSw); go_simp; (try with_reducible rfl))
                try simp only [Act.put, List.getElem_toArray, List.getElem_cons_zero, List.setIfInBounds_toArray, List.set_cons_zero, List.set_cons_succ]
                refine wpAnyZ_take (i := 1) (v := ?vz1_6) (by kernel_rfl) rfl (by kernel_rfl) (by kernel_rfl) (by kernel_rfl) (fun _ _ _ h => h) (Or.inl ⟨by rfl, ?hz1_6⟩) (by assumption) ?_
                case hz1_6 => (intro W hSw; have p0 := (Below.cell hSw (p := ⟨gb, 0, none⟩) (Nat.lt_succ_self gb)).trans d0; (try dsimp only at hSw); go_simp; (try with_reducible rfl))
                try simp only [Act.put, List.getElem_toArray, List.getElem_cons_zero, List.getElem_cons_succ, List.setIfInBounds_toArray, List.set_cons_zero, List.set_cons_succ]
                refine wpAnyZ_take (i := 2) (v := ?vz2_6) (by kernel_rfl) rfl (by kernel_rfl) (by kernel_rfl) (by kernel_rfl) (fun _ _ _ h => h) (Or.inl ⟨by rfl, ?hz2_6⟩) (by assumption) ?_
                case hz2_6 => (intro W hSw; (try dsimp only at hSw); go_simp; (try with_reducible rfl))
                try simp only [Act.put, List.getElem_toArray, List.getElem_cons_zero, List.getElem_cons_succ, List.setIfInBounds_toArray, List.set_cons_zero, List.set_cons_succ]
                refine wpAnyZ_take (i := 3) (v := ?vz3_6) (by kernel_rfl) rfl (by kernel_rfl) (by kernel_rfl) (by kernel_rfl) (fun _ _ _ h => h) (Or.inl ⟨by rfl, ?hz3_6⟩) (by assumption) ?_
                case hz3_6 => (intro W hSw; (try dsimp only at hSw); go_simp; (try with_reducible rfl))
                try simp only [Act.put, List.getElem_toArray, List.getElem_cons_zero, List.getElem_cons_succ, List.setIfInBounds_toArray, List.set_cons_zero, List.set_cons_succ]
                refine wpAnyZ_take (i := 6) (v := ?vz6_6) (by kernel_rfl) rfl (by kernel_rfl) (by kernel_rfl) (by kernel_rfl) (fun _ _ _ h => h) (Or.inl ⟨by rfl, ?hz6_6⟩) (by assumption) ?_
                case hz6_6 => (intro W hSw; (try dsimp only at hSw); go_simp; (try with_reducible rfl))
                try simp only [Act.put, List.getElem_toArray, List.getElem_cons_zero, List.getElem_cons_succ, List.setIfInBounds_toArray, List.set_cons_zero, List.set_cons_succ]
                refine wpAnyZ_one (i := 4) (by kernel_rfl) rfl (fun K hK => ?_)
                go_simp
                refine (Nm.Of_any (str t) hts _).mono ?_
                rintro e wq ⟨rfl, hbqd⟩
                have hbq : Below wl.heap.size wl wq := ((Below.refl _ wl).drew).trans hbqd
                have HNq := Lib.hid (HNl.out.below (w' := wq) hbq)
                have HKq : Hid (Blk wq gb 29 #[.slice NA (ndsK L j).length nc, .slice none 0 0]) := HKl.out.below hbq (by simpa using hgl)
                have hbq2 : Below (gb + 1) wl wq := hbq.mono (Nat.succ_le_of_lt hgl)
                refine hK.out _ _ (.inr ?_) (fun hHeld2 => ?_)
                · exact hbq2
                clear hK K hHeld hbq hbq2 hbqd
                have hHeld := hHeld2.resolve_left (by decide)
                clear hHeld2
                try simp only [Act.put, List.getElem_toArray, List.getElem_cons_zero, List.getElem_cons_succ, List.setIfInBounds_toArray, List.set_cons_zero, List.set_cons_succ]
                refine wpAnyZ_take (i := 5) (v := ?vz5_6) (by kernel_rfl) rfl (by kernel_rfl) (by kernel_rfl) (by kernel_rfl) (fun _ _ _ h => h) (Or.inl ⟨by rfl, ?hz5_6⟩) (by assumption) ?_
                case hz5_6 => (intro W hSw; (try dsimp only at hSw); go_simp; (try with_reducible rfl))
                try simp only [Act.put, List.getElem_toArray, List.getElem_cons_zero, List.getElem_cons_succ, List.setIfInBounds_toArray, List.set_cons_zero, List.set_cons_succ]
                refine wpAnyZ_take (i := 7) (v := ?vz7_6) (by kernel_rfl) rfl (by kernel_rfl) (by kernel_rfl) (by kernel_rfl) (fun _ _ _ h => h) (Or.inl ⟨by rfl, ?hz7_6⟩) (by assumption) ?_
                case hz7_6 => (intro W hSw; (try dsimp only at hSw); go_simp; (try with_reducible rfl))
                try simp only [Act.put, List.getElem_toArray, List.getElem_cons_zero, List.getElem_cons_succ, List.setIfInBounds_toArray, List.set_cons_zero, List.set_cons_succ]
                refine wpAnyZ_one (i := 8) (by kernel_rfl) rfl (fun K hK => ?_)
                go_simp
                refine hK.out _ _ (.inr ?_) (fun hHeld2 => ?_)
                · exact hHeld.alloc (Nat.le_trans (Nat.succ_le_of_lt hgl) hHeld.size) _
                clear hK K hHeld 
                have hHeld := hHeld2.resolve_left (by decide)
                clear hHeld2
                try simp only [Act.put, List.getElem_toArray, List.getElem_cons_zero, List.getElem_cons_succ, List.setIfInBounds_toArray, List.set_cons_zero, List.set_cons_succ]
                refine wpAnyZ_one (i := 9) (by kernel_rfl) rfl (fun K hK => ?_)
                refine step_appendO ndTy rfl (.tmp 67) (.tmp 74) (by rfl) (gb + 1) (.slice NA (ndsK L j).length nc) (ndsK L j) [(⟨t, Nm.kindP (str t), R.x.s⟩ : Nd)] (by rfl) (HNq.out.below ((Below.refl _ _).alloc (Nat.le_refl _) _)) ⟨wq.heap.size, 0, none⟩ 1 1 (by rfl) rfl (fun i u hi => ?_) (by have := ndsK_len L j; simp; omega) (by have := HKq.out.lt; simp; omega) ?_
                · rw [add_g0, (Blk.new wq 32 #[.string (str t), .int .i64 (Nm.kindP (str t)), .int .i64 (R.x.s)]).cell i]
                  simpa [Lay.all, ndLay] using hi
                intro v2 wr2 ho2 hg2 _
                have hwz : Below wq.heap.size wq (wq.alloc (.cells #[.string (str t), .int .i64 (Nm.kindP (str t)), .int .i64 (R.x.s)] 32)) := (Below.refl _ _).alloc (Nat.le_refl _) _
                have hgq := HKq.out.lt
                have hown := fun k hk => (HNq.out.below hwz).lt (g := k) hk
                have HK2 : Hid (Blk wr2 gb 29 #[.slice NA (ndsK L j).length nc, .slice none 0 0]) := (HKq.out.alloc _).grown hg2 (fun e => by have := (hown gb e.symm).1; omega)
                have hb2 : Below (gb + 1) wl wr2 := ((hHeld.grown hg2 (by have := HKq.out.lt; simp; omega) (fun k hk => (hown k hk).1)))
                obtain ⟨A5, c6, hv5, hz1, hz2, hz3, hz4⟩ := ho2.slice (by have := ndsK_len L j; simp [maxLen]; omega)
                subst hv5
                have HO2 := Lib.hid ho2
                have st0 : wr2.cell? ⟨gb, 0, none⟩ = some (.slice NA (ndsK L j).length nc) := HK2.out.cell 0
                have st1 := HK2.out.frozen 0
                have hlen5 : (ndsK L j ++ [(⟨t, Nm.kindP (str t), R.x.s⟩ : Nd)]).length = (ndsK L j).length + 1 := by simp
                rw [hlen5] at HO2 ⊢
                refine hK.out _ _ (.inr ?_) (fun hHeld2 => ?_)
                · exact hb2
                clear hK K hHeld ho2 hg2 hz1 hz2 hz3 hz4 hown hwz
                have hHeld := hHeld2.resolve_left (by decide)
                clear hHeld2
                try simp only [Act.put, List.getElem_toArray, List.getElem_cons_zero, List.getElem_cons_succ, List.setIfInBounds_toArray, List.set_cons_zero, List.set_cons_succ]
                refine wpAnyZ_take (i := 10) (v := ?vz10_6) (by kernel_rfl) rfl (by kernel_rfl) (by kernel_rfl) (by kernel_rfl) (fun _ _ _ h => h) (Or.inl ⟨by rfl, ?hz10_6⟩) (by assumption) ?_
                case hz10_6 => (intro W hSw; (try dsimp only at hSw); go_simp; (try with_reducible rfl))
                try simp only [Act.put, List.getElem_toArray, List.getElem_cons_zero, List.getElem_cons_succ, List.setIfInBounds_toArray, List.set_cons_zero, List.set_cons_succ]
                refine wpAnyZ_one (i := 11) (by kernel_rfl) rfl (fun K hK => ?_)
                go_simp
                refine hK.out _ _ (.inl rfl) (fun _ => ?_)
                clear hK K hHeld 
                try simp only [Act.put, List.getElem_toArray, List.getElem_cons_zero, List.getElem_cons_succ, List.setIfInBounds_toArray, List.set_cons_zero, List.set_cons_succ]
                refine wpAnyZ_done (by kernel_rfl) ?_ _
                have hlj : (ndsK L (j + 1)).length = (ndsK L j).length + 1 := by rw [HNS.out]; simp
                have HO3 : Hid (OwnG ndLay 32 wr2 (gb + 1) (.slice A5 ((ndsK L j).length + 1) c6) (ndsK L (j + 1))) := by show OwnG _ _ _ _ _ _; rw [HNS.out, HNL.out]; exact HO2.out
                have HBZ : Hid (Below gb wn wr2) := HBl.out.trans (hb2.mono (Nat.le_succ gb))
                have hg2 := HK2.out.lt
                clear d0 hlk st0 st1 q0 q1 hb2
                go_wp2_with fail
                go_roundw
                case rel =>
                  refine ⟨A5, c6, j + 1, by omega, by go_num, ?_, ?_, ?_⟩
                  · rw [hlj]; exact HK2.out.setCell 0 _
                  · rw [hlj]; exact HO3.out.kept (grown_setCell wr2 ⟨gb, 0, none⟩ _) (fun x hx e => by have := (HO3.out.lt hx).1; injection e with e; subst e; exact absurd this (by simp))
                  · exact below_setCell HBZ.out (by omega) (Nat.le_refl gb) _
                case measure => simp [intOf]; omega

          · have hje : 64 ≤ j := by omega
            have hd9 : (64 : Int) ≤ (j : Int) := by omega
            have hND : ndsK L j = nodesL kT (L.map (·.x)) := by unfold ndsK nodesL; rw [List.take_of_length_le (by rw [hNT]; exact hje)]
            have hlen64 := ndsK_len L j
            clear hlt hje
            rw [hND] at HKl HNl hlen64
            have hbg : b + 1 < gb := by have := HM1.out.lt; omega
            have hgl := HKl.out.lt
            have hBwl : Below B w wl := (HB1.out.mono (by omega)).trans ((hBw.out.mono (by omega)).trans (HBl.out.mono (by omega)))
            have HO0 : Hid (Os wl wl gb (nodesL kT (L.map (·.x))) (esK L 0)) := ⟨⟨_, _, HKl.out, HNl.out, OwnG.nil _ _⟩, EsOk.nil _, hlen64, World.grownBy.refl _ _⟩
            have HCl : Hid (Ctx wl B gb (b + 1) k L) := ⟨fun r hr => (HL.out.is r hr).below hBwl, HM1.out.belowB HBl.out (by omega), by omega, hbg, hgl⟩
            have HRl : Hid (Blk wl b 29 #[.slice none 0 0, .slice none 0 0]) := (HRES.out.below hBw.out (Nat.lt_succ_self b)).below HBl.out (by omega)
            have d0 : wl.cell? ⟨gb, 0, none⟩ = some (.slice NA (nodesL kT (L.map (·.x))).length nc) := HKl.out.cell 0
            have HBW : Hid (Below b w wl) := (HB1.out.mono (by omega)).trans ((hBw.out.mono (by omega)).trans (HBl.out.mono (by omega)))
            go_wp2_with fail
            go_loopw [81] (fun i wr => ∃ q : Nat, q ≤ (nodesL kT (L.map (·.x))).length ∧ i = .int .i64 q ∧ Hid (Os wl wr gb (nodesL kT (L.map (·.x))) (esK L q))) (fun i wr => (nodesL kT (L.map (·.x))).length - (intOf i).toNat)
            case atStart => exact ⟨0, Nat.zero_le _, rfl, HO0⟩
            case round =>
              clear HO0 d0
              obtain ⟨q, hq, rfl, hOs⟩ := hrel
              obtain ⟨wv, hren⟩ : ∃ wv, wv = wr := ⟨wr, rfl⟩
              subst hren
              by_cases hqt : q < (nodesL kT (L.map (·.x))).length
              · have c0 : (0 : Int) ≤ (q : Int) := by omega
                have c1 : (q : Int) < ((nodesL kT (L.map (·.x))).length : Int) := by omega
                have HNv := HNl.out.kept hOs.out.grown (fun g' hg' e => by have := (HNl.out.lt hg').1; injection e with e; omega)
                obtain ⟨_, _, hv3, hz1, hz2, hz3, hrow⟩ := HNv.slice (by unfold maxLen; omega)
                injection hv3 with hv1 hv2 hv3
                subst hv1
                obtain ⟨ad2, x, rfl, hab2, hx, q0, q1, q2⟩ := nds_at hrow hqt
                have hxm := List.mem_of_getElem? hx
                have HES := Lib.hid (esK_succ hx)
                have HXN := Lib.hid (nodesL_has hxm)
                have HFD := Lib.hid (look_found (List.mem_of_mem_take (nodesL_has hxm).1))
                have hxl : x.n.length ≤ maxLen := by rw [← HFD.out.2.2.1]; exact (hS _ HFD.out.2.1).n
                have HOa : Hid (Os wl (wv.alloc (.cells #[.string (str x.n), .int .i64 x.k, .int .i64 x.s] 32)) gb (nodesL kT (L.map (·.x))) (esK L q)) := hOs.out.alloc _
                clear hv2 hv3 hz1 hz2 hz3 hrow HNv hx
                by_cases hs : x.s = 1
                · have HE := Lib.hid (own_one (es := esK L q) hxm hs)
                  have HC8 := Lib.hid (HCl.out.grown HOa.out.grown)
                  have hlk := HC8.out.look x.n hxl
                  have e1 : (x.s == 1) = true := by simpa using hs
                  have hMine : Mine (wv.alloc (.cells #[.string (str x.n), .int .i64 x.k, .int .i64 x.s] 32)) B (nodesL kT (L.map (·.x))) (lookR L x.n) := ⟨HC8.out.at_ x.n, hS _ HFD.out.2.1, by rw [HFD.out.2.2.1]; exact HXN.out.2.2⟩
                  have HMI := Lib.hid hMine
                  clear hs hMine hxm
                  go_wp2_with fail
                  refine (gOwn_any B gb (b + 1) k L (nodesL kT (L.map (·.x))) (esK L q) (lookR L x.n) _ HC8.out HMI.out ⟨HOa.out.box, HOa.out.ok, HOa.out.few, World.grownBy.refl _ _⟩ hS).mono ?_
                  rintro e wy ⟨rfl, h5⟩
                  have H5 : Hid (Os wl wy gb (nodesL kT (L.map (·.x))) (esK L (q + 1))) := by
                    rw [← HE.out, ← HES.out] at h5
                    exact ⟨h5.box, h5.ok, h5.few, grown_trans HOa.out.grown h5.grown⟩
                  clear h5
                  go_wp2_with fail
                  go_roundw
                  case rel => exact ⟨q + 1, by omega, by go_num, H5⟩
                  case measure => simp [intOf]; omega
                · have HE := Lib.hid (own_not (L := L) (es := esK L q) hs)
                  have e1 : (x.s == 1) = false := by simpa using hs
                  clear hs hxm
                  go_wp2_with fail
                  go_roundw
                  case rel => exact ⟨q + 1, by omega, by go_num, by rw [HES.out, HE.out]; exact HOa⟩
                  case measure => simp [intOf]; omega
              · obtain rfl : (nodesL kT (L.map (·.x))).length = q := by omega
                rw [esK_all] at hOs
                have hel := hOs.out.ok.len hOs.out.few
                obtain ⟨NA', nc', EA', ec', hB9, hG9, hN9, hE9⟩ := hOs.out.box.at_ (by unfold maxLen; omega) (by unfold maxLen; omega)
                have HB9 := Lib.hid hB9
                have HN9 := Lib.hid hN9
                have HE9 := Lib.hid hE9
                have d0 := hB9.cell 0
                have d1 := hB9.cell 1
                have hbne : b ≠ gb := by omega
                have HRv : Hid (Blk wv b 29 #[.slice none 0 0, .slice none 0 0]) := HRl.out.grown hOs.out.grown (by simpa using hbne)
                have HBV : Hid (Below b w wv) := HBW.out.trans ((grown_below hOs.out.grown (Nat.le_of_lt hgl)).mono (by omega))
                clear hB9 hG9 hN9 hE9
                go_wp2_with (refine wpList_store_row rfl 29 (.tmp 2) (.tmp 95) (by rfl) b #[.slice NA' (nodesL kT (L.map (·.x))).length nc', .slice EA' (ofE kT (L.map (·.x))).length ec'] (by rfl) (by rfl) 29 #[.slice none 0 0, .slice none 0 0] HRv.out (by kernel_rfl) rfl (graph_cells _ _ _ _ _ _) ?_)
                refine bodyPost_ret (results_cellG (p := 2) rfl _ _ b 29 _ _ rfl (Blk.row HRv.out _) Tryz.underlying29 rfl (by kernel_rfl)) rfl ⟨_, rfl, ?_, ?_⟩
                · exact grAt_own (HN9.out.kept (grown_setRow _ _ _) (fun x hx e => by have := (HN9.out.lt hx).1; injection e with e; omega)) (HE9.out.kept (grown_setRow _ _ _) (fun x hx e => by have := (HE9.out.lt hx).1; injection e with e; omega)) (by unfold maxLen; omega) (by unfold maxLen; omega)
                · rw [hb]; exact below_setRow HBV.out (Nat.le_refl b) _
end Go.Proofs.YtcoepioahabbdaaGreat
