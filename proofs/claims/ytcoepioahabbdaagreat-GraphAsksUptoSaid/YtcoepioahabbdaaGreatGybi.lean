/- The walks of mayState and nodesOf. -/
import Derived.Test.YtcoepioahabbdaaGreatGybh
namespace Go.Proofs.YtcoepioahabbdaaGreat
open Go.RowKit
set_option maxHeartbeats 4000000 in
theorem mayState_any (s : Int) (w : World) : Calls Tryz.prog 56 #[.int .i64 s] w fun e w' => e = .returned (.bool (decide (1 ≤ s ∧ s ≤ 4))) ∧ w' = w := by
  by_cases h1 : 1 ≤ s
  · by_cases h4 : s ≤ 4
    · have HM : Hid (decide (1 ≤ s ∧ s ≤ 4) = true) := decide_eq_true ⟨h1, h4⟩
      go_enter Tryz.func56, Tryz.ntmps56
      go_wp2_with fail
      go_ret
      exact ⟨by rw [HM.out]; simp, rfl⟩
    · have HM : Hid (decide (1 ≤ s ∧ s ≤ 4) = false) := decide_eq_false (fun h => h4 h.2)
      go_enter Tryz.func56, Tryz.ntmps56
      go_wp2_with fail
      go_ret
      exact ⟨ret_bool (by symm; first | (rw [decide_eq_false_iff_not]; omega) | (rw [Bool.and_eq_false_iff]; right; rw [decide_eq_false_iff_not]; omega)), rfl⟩
  · have HM : Hid (decide (1 ≤ s ∧ s ≤ 4) = false) := decide_eq_false (fun h => h1 h.1)
    go_enter Tryz.func56, Tryz.ntmps56
    go_wp2_with fail
    go_ret
    exact ⟨ret_bool (by symm; rw [Bool.and_eq_false_iff]; left; rw [decide_eq_false_iff_not]; omega), rfl⟩
def nodeR (r : LdR) : Nd := ⟨r.x.n, kT r.x.n, stateL r.x.s⟩
theorem stateL_ok {s : Int} (h : 1 ≤ s ∧ s ≤ 4) : stateL s = s := by unfold stateL; rw [if_neg (by omega)]
theorem stateL_no {s : Int} (h : ¬ (1 ≤ s ∧ s ≤ 4)) : stateL s = 4 := by unfold stateL; rw [if_pos (by omega)]
theorem nd_one {w : World} {b : Nat} (x : Nd) (h : Blk w b 32 #[.string (str x.n), .int .i64 x.k, .int .i64 x.s]) : ∀ (j : Nat) (u : Value), (ndLay.all [x])[j]? = some u → w.cell? ((⟨b, 0, none⟩ : Addr).add j) = some u := fun j u hj => by
  rw [addA_mk, Nat.zero_add]
  refine box_cell h ?_
  simpa [Lay.all, ndLay] using hj
def NdsPost (l : List Nd) (w : World) (e : Ending) (w' : World) : Prop := ∃ v, e = .returned v ∧ OwnG ndLay 32 w' w.heap.size v l ∧ Below w.heap.size w w'
set_option maxRecDepth 10000 in
set_option maxHeartbeats 16000000 in
theorem nodesOf_any (A : Option Addr) (n c B : Nat) (U : List LdR) (w : World) (h : LdsAt w B A n U) (hB : B ≤ w.heap.size) (hS : ∀ r ∈ U, r.x.n.length ≤ maxLen) (hn : n ≤ 1048576) :
    Calls Tryz.prog 32 #[.slice A n c] w (NdsPost (U.map nodeR) w) := by
  have hLn := h.row.1
  have HL := Lib.hid h
  have HO0 : Hid (OwnG ndLay 32 w w.heap.size (.slice none 0 0) ((U.take 0).map nodeR)) := OwnG.nil _ _
  have HB0 : Hid (Below w.heap.size w w) := Below.refl _ _
  clear h
  unfold NdsPost
  go_enter Tryz.func32, Tryz.ntmps32
  go_wp2_with fail
  go_loopw [3, 9] (fun v i wr => ∃ (A' : Option Addr) (m c' k : Nat), k ≤ n ∧ v = .slice A' m c' ∧ i = .int .i64 k ∧ Hid (OwnG ndLay 32 wr w.heap.size (.slice A' m c') ((U.take k).map nodeR)) ∧ Hid (Below w.heap.size w wr)) (fun _ i wr => n - (intOf i).toNat)
  case atStart => exact ⟨none, 0, 0, 0, Nat.zero_le _, rfl, rfl, HO0, HB0⟩
  case round =>
    clear HO0 HB0
    obtain ⟨A', m, c', k, hk, rfl, rfl, hO, hBw⟩ := hrel
    by_cases hlt : k < n
    · have b0 : (0 : Int) ≤ (k : Int) := by omega
      have b1 : (k : Int) < (n : Int) := by omega
      have hws := hBw.out.size
      obtain ⟨ad, r, rfl, hab, hx, hld⟩ := load_row HL.out.row hlt
      have HLD := Lib.hid (hld wr (hBw.out.mono hB))
      have HI := Lib.hid (HL.out.is r (List.mem_of_getElem? hx))
      have hnl := hS r (List.mem_of_getElem? hx)
      have hsz : (str r.x.n).size ≤ maxLen := by rw [str_size]; exact hnl
      have HX := Lib.hid (map_take_succ hx nodeR)
      have hbx : Below w.heap.size w (wr.alloc (.cells r.a 53)) := hBw.out.alloc hws _
      have hbk : Blk (wr.alloc (.cells r.a 53)) wr.heap.size 53 r.a := Blk.new _ _ _
      have hox : OwnG ndLay 32 (wr.alloc (.cells r.a 53)) w.heap.size (.slice A' m c') ((U.take k).map nodeR) := hO.out.below ((Below.refl _ wr).alloc (Nat.le_refl _) _)
      have hlen : ((U.take k).map nodeR).length ≤ 1048576 := by rw [List.length_map, List.length_take]; omega
      obtain ⟨ys, hys⟩ : ∃ ys, (U.take k).map nodeR = ys := ⟨_, rfl⟩
      rw [hys] at hox HX hlen
      clear hx hld hO hys
      go_wp2_with (first
        | (refine wpList_load_part rfl 53 (.tmp 11) (by rfl) (ad.add (k * 42)) (by rfl) (.agg r.a) HLD.out ?_)
        | (refine wpList_store_row rfl 53 (.tmp 5) (.tmp 12) (by rfl) wr.heap.size r.a (by rfl) (by rfl) 53 _ (by exact heap_alloc_new _ _) (infoL r) (by rw [r.size]; rfl) r.all ?_
           rw [heap_alloc_setRow])
        | fail)
      obtain ⟨w2, hw2⟩ : ∃ w2, wr.alloc (.cells r.a 53) = w2 := ⟨_, rfl⟩
      obtain ⟨b, hb⟩ : ∃ b, wr.heap.size = b := ⟨_, rfl⟩
      rw [hw2] at hbx hbk hox
      rw [hw2]
      rw [hb] at hbk
      rw [hb]
      have HBX := Lib.hid hbx
      have HBK := Lib.hid hbk
      have HOX := Lib.hid hox
      have hbl := hbk.lt
      have c0 : w2.cell? ⟨b, 0, none⟩ = some (.string (str r.x.n)) := box_cell hbk HI.out.name
      clear hbx hbk hox hw2 hBw HLD
      obtain ⟨s2, hs2⟩ : ∃ s2, w2.heap.size = s2 := ⟨_, rfl⟩
      have HS2 := Lib.hid hs2
      rw [hs2] at hbl
      clear hs2
      go_wp2_with fail
      refine wp_region_Z (S := fun W => Below s2 w2 W) (z := 7) (by kernel_rfl) ?_ (fun hHeld => ?_)
      · exact (Below.refl _ _).drew
      refine wpAnyZ_takeF (i := 0) (v := ?vz0_1) (by kernel_rfl) rfl (by kernel_rfl) (by kernel_rfl) (by kernel_rfl) (fun _ _ _ h => h) (Or.inl ⟨by rfl, ?hz0_1⟩) (by assumption) ?_
      case hz0_1 => (intro W hSw; (try dsimp only at hSw); go_simp; (try with_reducible rfl))
      try simp only [Act.put, List.getElem_toArray, List.getElem_cons_zero, List.setIfInBounds_toArray, List.set_cons_zero, List.set_cons_succ]
      refine wpAnyZ_takeF (i := 1) (v := ?vz1_1) (by kernel_rfl) rfl (by kernel_rfl) (by kernel_rfl) (by kernel_rfl) (fun _ _ _ h => h) (Or.inl ⟨by rfl, ?hz1_1⟩) (by assumption) ?_
      case hz1_1 => (intro W hSw; have p0 := (Below.cell hSw (p := ⟨b, 0, none⟩) hbl).trans c0; (try dsimp only at hSw); go_simp; (try with_reducible rfl))
      try simp only [Act.put, List.getElem_toArray, List.getElem_cons_zero, List.getElem_cons_succ, List.setIfInBounds_toArray, List.set_cons_zero, List.set_cons_succ]
      refine wpAnyZ_takeF (i := 2) (v := ?vz2_1) (by kernel_rfl) rfl (by kernel_rfl) (by kernel_rfl) (by kernel_rfl) (fun _ _ _ h => h) (Or.inl ⟨by rfl, ?hz2_1⟩) (by assumption) ?_
      case hz2_1 => (intro W hSw; (try dsimp only at hSw); go_simp; (try with_reducible rfl))
      try simp only [Act.put, List.getElem_toArray, List.getElem_cons_zero, List.getElem_cons_succ, List.setIfInBounds_toArray, List.set_cons_zero, List.set_cons_succ]
      refine wpAnyZ_takeF (i := 3) (v := ?vz3_1) (by kernel_rfl) rfl (by kernel_rfl) (by kernel_rfl) (by kernel_rfl) (fun _ _ _ h => h) (Or.inl ⟨by rfl, ?hz3_1⟩) (by assumption) ?_
      case hz3_1 => (intro W hSw; have p0 := (Below.cell hSw (p := ⟨b, 0, none⟩) hbl).trans c0; (try dsimp only at hSw); go_simp; (try with_reducible rfl))
      try simp only [Act.put, List.getElem_toArray, List.getElem_cons_zero, List.getElem_cons_succ, List.setIfInBounds_toArray, List.set_cons_zero, List.set_cons_succ]
      refine wpAnyZ_two (i := 4) (j := 6) (by kernel_rfl) rfl rfl (fun K hK => ?_) (fun K hK => ?_)
      · go_simp
        refine (Nm.Kind_any (str r.x.n) hsz _).mono ?_
        rintro e wa ⟨rfl, hb4⟩
        rw [show Nm.kindP (str r.x.n) = kT r.x.n from rfl]
        refine hK.out _ _ (.inr ?_) (fun hHeld2 => ?_)
        · exact more3 hHeld (by rw [← HS2.out]; exact hHeld.size) hb4
        clear hK K hHeld
        have hHeld := hHeld2.resolve_left (by decide)
        clear hHeld2
        try simp only [Act.put, List.getElem_toArray, List.getElem_cons_zero, List.getElem_cons_succ, List.setIfInBounds_toArray, List.set_cons_zero, List.set_cons_succ]
        refine wpAnyZ_takeF (i := 5) (v := ?vb4) (by kernel_rfl) rfl (by kernel_rfl) (by kernel_rfl) (by kernel_rfl) (fun _ _ _ h => h) (Or.inl ⟨by rfl, ?hb4⟩) (by assumption) ?_
        case hb4 => (intro W hSw; (try dsimp only at hSw); go_simp; (try with_reducible rfl))
        try simp only [Act.put, List.getElem_toArray, List.getElem_cons_zero, List.getElem_cons_succ, List.setIfInBounds_toArray, List.set_cons_zero, List.set_cons_succ]
        refine wpAnyZ_one (i := 6) (by kernel_rfl) rfl (fun K hK => ?_)
        go_simp
        refine hK.out _ _ (.inr ?_) (fun hHeld2 => ?_)
        · exact hHeld.alloc (by rw [← HS2.out]; exact hHeld.size) _
        clear hK K
        have hHeld3 := hHeld2.resolve_left (by decide)
        clear hHeld2
        try simp only [Act.put, List.getElem_toArray, List.getElem_cons_zero, List.getElem_cons_succ, List.setIfInBounds_toArray, List.set_cons_zero, List.set_cons_succ]
        obtain ⟨nb, hnb0⟩ : ∃ nb, wa.heap.size = nb := ⟨_, rfl⟩
        have hz : Blk (wa.alloc (.cells #[.string ⟨#[]⟩, .int .i64 0, .int .i64 0] 32)) nb 32 #[.string ⟨#[]⟩, .int .i64 0, .int .i64 0] := by rw [← hnb0]; exact Blk.new _ _ _
        have hnb2 : s2 ≤ nb := by have := hHeld.size; have := HS2.out; omega
        rw [hnb0]
        clear hHeld
        obtain ⟨w4, hw4⟩ : ∃ w4, wa.alloc (.cells #[.string ⟨#[]⟩, .int .i64 0, .int .i64 0] 32) = w4 := ⟨_, rfl⟩
        rw [hw4] at hz hHeld3
        rw [hw4]
        clear hw4 hnb0
        refine wpAnyZ_one (i := 7) (by kernel_rfl) rfl (fun K hK => ?_)
        rw [if_pos (by rfl)]
        refine wp_store_row 32 (.tmp 6) (.tmp 18) (by rfl) nb #[.string (str r.x.n), .int .i64 (kT r.x.n), .int .i64 4] (by rfl) (by rfl) 32 _ hz (by kernel_rfl) rfl (ndA_all ⟨r.x.n, kT r.x.n, 4⟩) ?_
        have h5 := below_setRow hHeld3 hnb2 #[.string (str r.x.n), .int .i64 (kT r.x.n), .int .i64 4]
        have h5 : Below w2.heap.size w2 _ := (by rw [HS2.out]; exact h5)
        have hN5 := Blk.row hz #[.string (str r.x.n), .int .i64 (kT r.x.n), .int .i64 4]
        change K (Act.put _ none undef) _
        rw [show ∀ a : Act, a.put none undef = a from fun _ => rfl]
        refine hK.out _ _ (.inl rfl) (fun _ => ?_)
        clear hK K
        try simp only [Act.put, List.getElem_toArray, List.getElem_cons_zero, List.getElem_cons_succ, List.setIfInBounds_toArray, List.set_cons_zero, List.set_cons_succ]
        refine wpAnyZ_done (by kernel_rfl) ?_ _
        have HN5 := Lib.hid hN5
        have HO5 := Lib.hid (HOX.out.below h5)
        have HK5 := Lib.hid (HBK.out.below h5 (by rw [HS2.out]; exact hbl))
        have HB5 := Lib.hid (more3 HBX.out HBX.out.size h5)
        have hno : ∀ x, (Value.slice A' m c').ownBlock = some x → x ≠ nb := fun x hx e => by have := (HOX.out.lt hx).2; have := HS2.out; omega
        have hnb : w.heap.size ≤ nb := by have := HBX.out.size; have := HS2.out; omega
        obtain ⟨w5, hw5⟩ : ∃ w5, w4.setRow nb #[.string (str r.x.n), .int .i64 (kT r.x.n), .int .i64 4] = w5 := ⟨_, rfl⟩
        rw [hw5] at HN5 HO5 HK5 HB5
        rw [hw5]
        clear hw5 h5 hN5 hz hHeld3
        have c1 : w5.cell? ⟨b, 1, none⟩ = some (.int .i64 r.x.s) := box_cell HK5.out HI.out.state
        go_wp2_with fail
        refine (mayState_any r.x.s w5).mono ?_
        rintro e w6 ⟨rfl, rfl⟩
        by_cases hst : 1 ≤ r.x.s ∧ r.x.s ≤ 4
        · rw [decide_eq_true hst]
          have HST := Lib.hid (stateL_ok hst)
          have m2 : w6.cell? ⟨nb, 2, none⟩ = some (.int .i64 4) := HN5.out.cell 2
          have z2 : w6.frozen? ⟨nb, 2, none⟩ = false := HN5.out.frozen 2
          have HN7 : Hid (Blk (w6.setCell ⟨nb, 2, none⟩ (.int .i64 r.x.s)) nb 32 #[.string (str r.x.n), .int .i64 (kT r.x.n), .int .i64 r.x.s]) := HN5.out.setCell 2 _
          have HB7 : Hid (Below w.heap.size w (w6.setCell ⟨nb, 2, none⟩ (.int .i64 r.x.s))) := below_setCell HB5.out HB5.out.size hnb _
          have HO7 : Hid (OwnG ndLay 32 (w6.setCell ⟨nb, 2, none⟩ (.int .i64 r.x.s)) w.heap.size (.slice A' m c') ys) := HO5.out.kept (grown_setCell w6 ⟨nb, 2, none⟩ _) (fun x hx e => by injection e with e; exact hno x hx e)
          clear hst HO5 HB5 HN5 hno HK5
          go_upto_region 8 with fail
          obtain ⟨w7, hw7⟩ : ∃ w7, w6.setCell ⟨nb, 2, none⟩ (.int .i64 r.x.s) = w7 := ⟨_, rfl⟩
          rw [hw7] at HN7 HB7 HO7
          rw [hw7]
          clear hw7 m2 z2 c1
          have HNX : Hid ((U.take (k + 1)).map nodeR = ys ++ [⟨r.x.n, kT r.x.n, r.x.s⟩]) := by show _ = _; rw [HX.out]; unfold nodeR; rw [HST.out]
          have HOb := Lib.hid (HO7.out.below ((Below.refl _ w7).alloc (Nat.le_refl _) (.cells #[.string (str r.x.n), .int .i64 (kT r.x.n), .int .i64 r.x.s] 32)))
          have HNb := Lib.hid (nd_one (⟨r.x.n, kT r.x.n, r.x.s⟩ : Nd) (Blk.new w7 32 #[.string (str r.x.n), .int .i64 (kT r.x.n), .int .i64 r.x.s]))
          have HBb := Lib.hid (HB7.out.alloc HB7.out.size (.cells #[.string (str r.x.n), .int .i64 (kT r.x.n), .int .i64 r.x.s] 32))
          have n0 : w7.cell? ⟨nb, 0, none⟩ = some (.string (str r.x.n)) := HN7.out.cell 0
          have n1 : w7.cell? ⟨nb, 1, none⟩ = some (.int .i64 (kT r.x.n)) := HN7.out.cell 1
          have n2 : w7.cell? ⟨nb, 2, none⟩ = some (.int .i64 r.x.s) := HN7.out.cell 2
          have hb7 := HB7.out.size
          go_wp2_with (refine wpList_appendO ndTy rfl _ _ rfl w.heap.size _ ys [⟨r.x.n, kT r.x.n, r.x.s⟩] rfl HOb.out ⟨w7.heap.size, 0, none⟩ 1 1 rfl rfl HNb.out (by omega) (by simp; omega) ?_)
          intro v8 w8 own8 grow8 _
          have HB8 := Lib.hid (HBb.out.grown grow8 (by simp; omega) (fun g hg => (HOb.out.lt hg).1))
          obtain ⟨A8, c8, rfl, _, _, _, _⟩ := own8.slice (by rw [List.length_append, List.length_singleton]; unfold maxLen; omega)
          have HO8 := Lib.hid own8
          clear own8 grow8 n0 n1 n2
          go_wp2_with fail
          go_roundw
          case rel => exact ⟨A8, _, c8, k + 1, by omega, rfl, by go_num, by rw [HNX.out]; exact HO8, HB8⟩
          case measure => simp [intOf]; omega
        · rw [decide_eq_false hst]
          have HST := Lib.hid (stateL_no hst)
          have HN7 := HN5
          have HB7 := HB5
          have HO7 := HO5
          clear hst HO5 HB5 HN5 hno HK5
          have HNX : Hid ((U.take (k + 1)).map nodeR = ys ++ [⟨r.x.n, kT r.x.n, 4⟩]) := by show _ = _; rw [HX.out]; unfold nodeR; rw [HST.out]
          have HOb := Lib.hid (HO7.out.below ((Below.refl _ w6).alloc (Nat.le_refl _) (.cells #[.string (str r.x.n), .int .i64 (kT r.x.n), .int .i64 4] 32)))
          have HNb := Lib.hid (nd_one (⟨r.x.n, kT r.x.n, 4⟩ : Nd) (Blk.new w6 32 #[.string (str r.x.n), .int .i64 (kT r.x.n), .int .i64 4]))
          have HBb := Lib.hid (HB7.out.alloc HB7.out.size (.cells #[.string (str r.x.n), .int .i64 (kT r.x.n), .int .i64 4] 32))
          have n0 : w6.cell? ⟨nb, 0, none⟩ = some (.string (str r.x.n)) := HN7.out.cell 0
          have n1 : w6.cell? ⟨nb, 1, none⟩ = some (.int .i64 (kT r.x.n)) := HN7.out.cell 1
          have n2 : w6.cell? ⟨nb, 2, none⟩ = some (.int .i64 4) := HN7.out.cell 2
          have hb7 := HB7.out.size
          go_wp2_with (refine wpList_appendO ndTy rfl _ _ rfl w.heap.size _ ys [⟨r.x.n, kT r.x.n, 4⟩] rfl HOb.out ⟨w6.heap.size, 0, none⟩ 1 1 rfl rfl HNb.out (by omega) (by simp; omega) ?_)
          intro v8 w8 own8 grow8 _
          have HB8 := Lib.hid (HBb.out.grown grow8 (by simp; omega) (fun g hg => (HOb.out.lt hg).1))
          obtain ⟨A8, c8, rfl, _, _, _, _⟩ := own8.slice (by rw [List.length_append, List.length_singleton]; unfold maxLen; omega)
          have HO8 := Lib.hid own8
          clear own8 grow8 n0 n1 n2
          go_wp2_with fail
          go_roundw
          case rel => exact ⟨A8, _, c8, k + 1, by omega, rfl, by go_num, by rw [HNX.out]; exact HO8, HB8⟩
          case measure => simp [intOf]; omega
      · go_simp
        refine hK.out _ _ (.inr ?_) (fun hHeld2 => ?_)
        · exact ((Below.refl _ w2).alloc (by rw [HS2.out]; exact Nat.le_refl _) _).drew
        clear hK K hHeld
        have hHeld := hHeld2.resolve_left (by decide)
        clear hHeld2
        try simp only [Act.put, List.getElem_toArray, List.getElem_cons_zero, List.getElem_cons_succ, List.setIfInBounds_toArray, List.set_cons_zero, List.set_cons_succ]
        obtain ⟨nb, hnb0⟩ : ∃ nb, w2.heap.size = nb := ⟨_, rfl⟩
        have hz0 : Blk (w2.alloc (.cells #[.string ⟨#[]⟩, .int .i64 0, .int .i64 0] 32)).drew nb 32 #[.string ⟨#[]⟩, .int .i64 0, .int .i64 0] := by rw [← hnb0]; exact Blk.drew (Blk.new _ _ _)
        have hnb2 : s2 ≤ nb := by have := HS2.out; omega
        rw [hnb0]
        refine wpAnyZ_one (i := 4) (by kernel_rfl) rfl (fun K hK => ?_)
        go_simp
        refine (Nm.Kind_any (str r.x.n) hsz _).mono ?_
        rintro e wa ⟨rfl, hb4⟩
        rw [show Nm.kindP (str r.x.n) = kT r.x.n from rfl]
        have hz := hz0.below hb4 hz0.lt
        refine hK.out _ _ (.inr ?_) (fun hHeld2 => ?_)
        · exact more3 hHeld (by rw [← HS2.out]; exact hHeld.size) hb4
        clear hK K hHeld
        have hHeld := hHeld2.resolve_left (by decide)
        clear hHeld2
        try simp only [Act.put, List.getElem_toArray, List.getElem_cons_zero, List.getElem_cons_succ, List.setIfInBounds_toArray, List.set_cons_zero, List.set_cons_succ]
        have hHeld3 := hHeld
        refine wpAnyZ_takeF (i := 5) (v := ?vb6) (by kernel_rfl) rfl (by kernel_rfl) (by kernel_rfl) (by kernel_rfl) (fun _ _ _ h => h) (Or.inl ⟨by rfl, ?hb6⟩) (by assumption) ?_
        case hb6 => (intro W hSw; (try dsimp only at hSw); go_simp; (try with_reducible rfl))
        try simp only [Act.put, List.getElem_toArray, List.getElem_cons_zero, List.getElem_cons_succ, List.setIfInBounds_toArray, List.set_cons_zero, List.set_cons_succ]
        clear hnb0
        refine wpAnyZ_one (i := 7) (by kernel_rfl) rfl (fun K hK => ?_)
        rw [if_pos (by rfl)]
        refine wp_store_row 32 (.tmp 6) (.tmp 18) (by rfl) nb #[.string (str r.x.n), .int .i64 (kT r.x.n), .int .i64 4] (by rfl) (by rfl) 32 _ hz (by kernel_rfl) rfl (ndA_all ⟨r.x.n, kT r.x.n, 4⟩) ?_
        have h5 := below_setRow hHeld3 hnb2 #[.string (str r.x.n), .int .i64 (kT r.x.n), .int .i64 4]
        have h5 : Below w2.heap.size w2 _ := (by rw [HS2.out]; exact h5)
        have hN5 := Blk.row hz #[.string (str r.x.n), .int .i64 (kT r.x.n), .int .i64 4]
        change K (Act.put _ none undef) _
        rw [show ∀ a : Act, a.put none undef = a from fun _ => rfl]
        refine hK.out _ _ (.inl rfl) (fun _ => ?_)
        clear hK K
        try simp only [Act.put, List.getElem_toArray, List.getElem_cons_zero, List.getElem_cons_succ, List.setIfInBounds_toArray, List.set_cons_zero, List.set_cons_succ]
        refine wpAnyZ_done (by kernel_rfl) ?_ _
        have HN5 := Lib.hid hN5
        have HO5 := Lib.hid (HOX.out.below h5)
        have HK5 := Lib.hid (HBK.out.below h5 (by rw [HS2.out]; exact hbl))
        have HB5 := Lib.hid (more3 HBX.out HBX.out.size h5)
        have hno : ∀ x, (Value.slice A' m c').ownBlock = some x → x ≠ nb := fun x hx e => by have := (HOX.out.lt hx).2; have := HS2.out; omega
        have hnb : w.heap.size ≤ nb := by have := HBX.out.size; have := HS2.out; omega
        obtain ⟨w5, hw5⟩ : ∃ w5, wa.setRow nb #[.string (str r.x.n), .int .i64 (kT r.x.n), .int .i64 4] = w5 := ⟨_, rfl⟩
        rw [hw5] at HN5 HO5 HK5 HB5
        rw [hw5]
        clear hw5 h5 hN5 hz hz0 hHeld3
        have c1 : w5.cell? ⟨b, 1, none⟩ = some (.int .i64 r.x.s) := box_cell HK5.out HI.out.state
        go_wp2_with fail
        refine (mayState_any r.x.s w5).mono ?_
        rintro e w6 ⟨rfl, rfl⟩
        by_cases hst : 1 ≤ r.x.s ∧ r.x.s ≤ 4
        · rw [decide_eq_true hst]
          have HST := Lib.hid (stateL_ok hst)
          have m2 : w6.cell? ⟨nb, 2, none⟩ = some (.int .i64 4) := HN5.out.cell 2
          have z2 : w6.frozen? ⟨nb, 2, none⟩ = false := HN5.out.frozen 2
          have HN7 : Hid (Blk (w6.setCell ⟨nb, 2, none⟩ (.int .i64 r.x.s)) nb 32 #[.string (str r.x.n), .int .i64 (kT r.x.n), .int .i64 r.x.s]) := HN5.out.setCell 2 _
          have HB7 : Hid (Below w.heap.size w (w6.setCell ⟨nb, 2, none⟩ (.int .i64 r.x.s))) := below_setCell HB5.out HB5.out.size hnb _
          have HO7 : Hid (OwnG ndLay 32 (w6.setCell ⟨nb, 2, none⟩ (.int .i64 r.x.s)) w.heap.size (.slice A' m c') ys) := HO5.out.kept (grown_setCell w6 ⟨nb, 2, none⟩ _) (fun x hx e => by injection e with e; exact hno x hx e)
          clear hst HO5 HB5 HN5 hno HK5
          go_upto_region 8 with fail
          obtain ⟨w7, hw7⟩ : ∃ w7, w6.setCell ⟨nb, 2, none⟩ (.int .i64 r.x.s) = w7 := ⟨_, rfl⟩
          rw [hw7] at HN7 HB7 HO7
          rw [hw7]
          clear hw7 m2 z2 c1
          have HNX : Hid ((U.take (k + 1)).map nodeR = ys ++ [⟨r.x.n, kT r.x.n, r.x.s⟩]) := by show _ = _; rw [HX.out]; unfold nodeR; rw [HST.out]
          have HOb := Lib.hid (HO7.out.below ((Below.refl _ w7).alloc (Nat.le_refl _) (.cells #[.string (str r.x.n), .int .i64 (kT r.x.n), .int .i64 r.x.s] 32)))
          have HNb := Lib.hid (nd_one (⟨r.x.n, kT r.x.n, r.x.s⟩ : Nd) (Blk.new w7 32 #[.string (str r.x.n), .int .i64 (kT r.x.n), .int .i64 r.x.s]))
          have HBb := Lib.hid (HB7.out.alloc HB7.out.size (.cells #[.string (str r.x.n), .int .i64 (kT r.x.n), .int .i64 r.x.s] 32))
          have n0 : w7.cell? ⟨nb, 0, none⟩ = some (.string (str r.x.n)) := HN7.out.cell 0
          have n1 : w7.cell? ⟨nb, 1, none⟩ = some (.int .i64 (kT r.x.n)) := HN7.out.cell 1
          have n2 : w7.cell? ⟨nb, 2, none⟩ = some (.int .i64 r.x.s) := HN7.out.cell 2
          have hb7 := HB7.out.size
          go_wp2_with (refine wpList_appendO ndTy rfl _ _ rfl w.heap.size _ ys [⟨r.x.n, kT r.x.n, r.x.s⟩] rfl HOb.out ⟨w7.heap.size, 0, none⟩ 1 1 rfl rfl HNb.out (by omega) (by simp; omega) ?_)
          intro v8 w8 own8 grow8 _
          have HB8 := Lib.hid (HBb.out.grown grow8 (by simp; omega) (fun g hg => (HOb.out.lt hg).1))
          obtain ⟨A8, c8, rfl, _, _, _, _⟩ := own8.slice (by rw [List.length_append, List.length_singleton]; unfold maxLen; omega)
          have HO8 := Lib.hid own8
          clear own8 grow8 n0 n1 n2
          go_wp2_with fail
          go_roundw
          case rel => exact ⟨A8, _, c8, k + 1, by omega, rfl, by go_num, by rw [HNX.out]; exact HO8, HB8⟩
          case measure => simp [intOf]; omega
        · rw [decide_eq_false hst]
          have HST := Lib.hid (stateL_no hst)
          have HN7 := HN5
          have HB7 := HB5
          have HO7 := HO5
          clear hst HO5 HB5 HN5 hno HK5
          have HNX : Hid ((U.take (k + 1)).map nodeR = ys ++ [⟨r.x.n, kT r.x.n, 4⟩]) := by show _ = _; rw [HX.out]; unfold nodeR; rw [HST.out]
          have HOb := Lib.hid (HO7.out.below ((Below.refl _ w6).alloc (Nat.le_refl _) (.cells #[.string (str r.x.n), .int .i64 (kT r.x.n), .int .i64 4] 32)))
          have HNb := Lib.hid (nd_one (⟨r.x.n, kT r.x.n, 4⟩ : Nd) (Blk.new w6 32 #[.string (str r.x.n), .int .i64 (kT r.x.n), .int .i64 4]))
          have HBb := Lib.hid (HB7.out.alloc HB7.out.size (.cells #[.string (str r.x.n), .int .i64 (kT r.x.n), .int .i64 4] 32))
          have n0 : w6.cell? ⟨nb, 0, none⟩ = some (.string (str r.x.n)) := HN7.out.cell 0
          have n1 : w6.cell? ⟨nb, 1, none⟩ = some (.int .i64 (kT r.x.n)) := HN7.out.cell 1
          have n2 : w6.cell? ⟨nb, 2, none⟩ = some (.int .i64 4) := HN7.out.cell 2
          have hb7 := HB7.out.size
          go_wp2_with (refine wpList_appendO ndTy rfl _ _ rfl w.heap.size _ ys [⟨r.x.n, kT r.x.n, 4⟩] rfl HOb.out ⟨w6.heap.size, 0, none⟩ 1 1 rfl rfl HNb.out (by omega) (by simp; omega) ?_)
          intro v8 w8 own8 grow8 _
          have HB8 := Lib.hid (HBb.out.grown grow8 (by simp; omega) (fun g hg => (HOb.out.lt hg).1))
          obtain ⟨A8, c8, rfl, _, _, _, _⟩ := own8.slice (by rw [List.length_append, List.length_singleton]; unfold maxLen; omega)
          have HO8 := Lib.hid own8
          clear own8 grow8 n0 n1 n2
          go_wp2_with fail
          go_roundw
          case rel => exact ⟨A8, _, c8, k + 1, by omega, rfl, by go_num, by rw [HNX.out]; exact HO8, HB8⟩
          case measure => simp [intOf]; omega
    · obtain rfl : k = n := by omega
      have HT : Hid (U.take k = U) := List.take_of_length_le (by omega)
      rw [HT.out] at hO
      go_wp2_with fail
      go_ret
      exact ⟨_, rfl, hO.out, hBw.out⟩
end Go.Proofs.YtcoepioahabbdaaGreat
