/- The walk of the document's part. -/
import Derived.Test.YteflddgcddcejaaGreatDoorCwaf
import Derived.Test.YteflddgcddcejaaGreatDoorCwag
import Derived.Test.YteflddgcddcejaaGreatDoorCwai
import Derived.IntWalk
namespace Go.Proofs.YteflddgcddcejaaGreatDoor
open Go.RowKit
def PartP (s : ByteArray) (w : World) (e : Ending) (w' : World) : Prop :=
  e = .returned (.tuple #[.agg #[.int .i64 (partI s.data.toList).1, .int .i64 (partI s.data.toList).2.1, .int .i64 (partI s.data.toList).2.2.1], .bool (partI s.data.toList).2.2.2]) ∧ Below w.heap.size w w'
theorem PartP.of {s : ByteArray} {w w' : World} {a b c : Int} {ok : Bool} (h : partI s.data.toList = (a, b, c, ok)) (hb : Below w.heap.size w w') : PartP s w (.returned (.tuple #[.agg #[.int .i64 a, .int .i64 b, .int .i64 c], .bool ok])) w' := by
  unfold PartP; rw [h]; exact ⟨rfl, hb⟩
theorem part_long {s : List UInt8} (h : 2 < (splitL 47 s).length) : partI s = (-1, -1, 0, false) := by
  unfold partI; rw [if_pos h]
theorem part_zero {s x y : List UInt8} (h : splitL 47 s = [x, y]) (h1 : numI y < 1) : partI s = (-1, -1, numI y, false) := by
  unfold partI; rw [h]; simp [h1]
theorem part_two {s x y : List UInt8} (h : splitL 47 s = [x, y]) (h1 : ¬ numI y < 1) : partI s = ((bodyI x).1, (bodyI x).2.1, numI y, (bodyI x).2.2) := by
  unfold partI; rw [h]; simp [h1]
theorem part_one {s x : List UInt8} (h : splitL 47 s = [x]) : partI s = ((bodyI x).1, (bodyI x).2.1, 0, (bodyI x).2.2) := by
  unfold partI; rw [h]; simp
theorem own_first {w : World} {base nv cv : Nat} {A : Option Addr} {l : List (List UInt8)} (h : w.ownsRow base 9 1 (.slice A nv cv) l.length (wcells l)) (h0 : 1 ≤ l.length) :
    nv = l.length ∧ ∃ g, A = some ⟨g, 0, none⟩ ∧ base ≤ g ∧ g < w.heap.size ∧ ∀ j x, l[j]? = some x → w.cell? ⟨g, j, none⟩ = some (.string (str x)) := by
  have hh := h
  rcases h.2 with ⟨h1, h2⟩ | ⟨g, cap, cur, h1, h2, h3, h4, h5, h6, h7⟩
  · omega
  · injection h1 with h1 h11 h12
    subst h1 h11 h12
    refine ⟨rfl, g, rfl, h2, (Array.getElem?_eq_some_iff.1 h3).1, fun j x hj => ?_⟩
    have hc := hh.cells (g := g) rfl j (.string (str x)) (by unfold wcells; rw [List.getElem?_map, hj]; rfl)
    have : (⟨g, 0, none⟩ : Addr).add j = ⟨g, j, none⟩ := by unfold Addr.add; split <;> simp_all
    rw [this] at hc
    exact hc
theorem heap_setOtherE {w : World} {g : Nat} {a : Addr} (ha : g ≠ a.block) (u : Value) : (w.setCell a u).heap[g]? = w.heap[g]? := by
  simp [World.setCell, Array.getElem?_modify, Ne.symm ha]
theorem Blk.setCellE {w : World} {g : Nat} {t : TypeId} {cs : Array Value} (h : Blk w g t cs) (i : Nat) (v : Value) : Blk (w.setCell ⟨g, i, none⟩ v) g t (cs.setIfInBounds i v) := by
  unfold Blk at *
  simp [World.setCell, Array.getElem?_modify, h]
def numS (s : ByteArray) : Int := numI s.data.toList
theorem numS_any (s : ByteArray) (hs : s.size ≤ 4194304) (w : World) :
    Calls Tryz.prog 74 #[.string s] w fun e w' => e = .returned (.int .i64 (numS s)) ∧ w = w' := number_any s hs w
theorem one3 (a b c : Int) : (#[.int .i64 a, .int .i64 b, .int .i64 c] : Array Value).all (·.oneCell') = true := by simp [Value.oneCell']
set_option maxRecDepth 100000 in
set_option maxHeartbeats 8000000 in
theorem part_any (s : ByteArray) (hs : s.size ≤ 4194303) (w : World) :
    Calls Tryz.prog 51 #[.string s] w (PartP s w) := by
  go_enter Tryz.func51, Tryz.ntmps51
  go_wp2_with fail
  have HR0 : Hid (Blk ((w.alloc (.cells #[.int .i64 0, .int .i64 0, .int .i64 0] 35)).alloc (.cells #[.int .i64 (-1), .int .i64 (-1), .int .i64 0] 35)) w.heap.size 35 #[.int .i64 0, .int .i64 0, .int .i64 0]) := (Blk.new w _ _).alloc _
  have HP0 : Hid (Blk ((w.alloc (.cells #[.int .i64 0, .int .i64 0, .int .i64 0] 35)).alloc (.cells #[.int .i64 (-1), .int .i64 (-1), .int .i64 0] 35)) (w.heap.size + 1) 35 #[.int .i64 (-1), .int .i64 (-1), .int .i64 0]) := by
    have h := Blk.new (w.alloc (.cells #[.int .i64 0, .int .i64 0, .int .i64 0] 35)) 35 #[.int .i64 (-1), .int .i64 (-1), .int .i64 0]
    rw [show (w.alloc (.cells #[.int .i64 0, .int .i64 0, .int .i64 0] 35)).heap.size = w.heap.size + 1 by simp] at h
    exact h
  have HB0 : Hid (Below w.heap.size w ((w.alloc (.cells #[.int .i64 0, .int .i64 0, .int .i64 0] 35)).alloc (.cells #[.int .i64 (-1), .int .i64 (-1), .int .i64 0] 35))) := ((Below.refl _ _).alloc (Nat.le_refl _) _).alloc (by simp) _
  generalize (w.alloc (.cells #[.int .i64 0, .int .i64 0, .int .i64 0] 35)).alloc (.cells #[.int .i64 (-1), .int .i64 (-1), .int .i64 0] 35) = wa at *
  have hza := HP0.out.lt
  refine (Split_any s 47 (by omega) _).mono ?_
  rintro e w1 ⟨v, rfl, hown, hb1⟩
  obtain ⟨A, nv, cv, rfl⟩ : ∃ A nv cv, v = .slice A nv cv := by
    rcases hown.2 with ⟨hv, _⟩ | ⟨g, cap, cur, hv, _⟩
    · exact ⟨_, _, _, hv⟩
    · exact ⟨_, _, _, hv⟩
  have hlen := fun x => split_len (b := 47) (l := s.data.toList) (x := x)
  have hn1 := split_ne 47 s.data.toList
  have HLONG := Lib.hid (part_long (s := s.data.toList))
  have HZERO := fun x y => Lib.hid (part_zero (s := s.data.toList) (x := x) (y := y))
  have HTWO := fun x y => Lib.hid (part_two (s := s.data.toList) (x := x) (y := y))
  have HONE := fun x => Lib.hid (part_one (s := s.data.toList) (x := x))
  generalize splitL 47 s.data.toList = rs at *
  rw [size_list] at hlen
  obtain ⟨rfl, g, rfl, hg0, hg1, hcells⟩ := own_first hown hn1
  have HR := Lib.hid (HR0.out.below hb1 (by omega))
  have HP := Lib.hid (HP0.out.below hb1 hza)
  have HB := Lib.hid (more3 HB0.out HB0.out.size hb1)
  clear hown hb1 HR0 HP0 HB0
  by_cases h2 : 2 < rs.length
  · have HV := Lib.hid (HLONG.out h2)
    have h2i : (2 : Int) < (rs.length : Int) := by omega
    clear h2 hcells HLONG HZERO HTWO HONE
    go_wp2_with (first | (refine wpList_load_row rfl 35 (.tmp 4) (by rfl) (w.heap.size + 1) (by rfl) 35 #[.int .i64 (-1), .int .i64 (-1), .int .i64 0] (0, 0) _ HP.out Tryz.underlying35 rfl (by kernel_rfl) ?_) | (refine wpList_store_row rfl 35 (.tmp 2) (.tmp 13) (by rfl) w.heap.size #[.int .i64 (-1), .int .i64 (-1), .int .i64 0] (by rfl) (by rfl) 35 #[.int .i64 0, .int .i64 0, .int .i64 0] HR.out (by kernel_rfl) rfl (one3 _ _ _) ?_))
    exact bodyPost_ret (results_cell_tmp (p := 2) (q := 3) rfl _ _ w.heap.size 35 #[.int .i64 (-1), .int .i64 (-1), .int .i64 0] _ _ rfl rfl (Blk.row HR.out _) Tryz.underlying35 rfl (by kernel_rfl)) rfl (PartP.of HV.out (below_setRow HB.out (Nat.le_refl _) _))
  clear HLONG
  have h2i : (rs.length : Int) ≤ 2 := by omega
  match rs, h2, hn1, hlen, HZERO, HTWO, HONE, hcells, h2i with
  | [x, y], _, _, hlen, HZERO, HTWO, _, hcells, _ =>
  have hcx := hcells 0 x rfl
  have hcy := hcells 1 y rfl
  have hxl : (str x).size ≤ 4194303 := by have := hlen x (by simp); rw [← size_list]; exact Nat.le_trans this hs
  have hyl : (str y).size ≤ 4194303 := by have := hlen y (by simp); rw [← size_list]; exact Nat.le_trans this hs
  have HZ := Lib.hid ((HZERO x y).out rfl)
  have HT := Lib.hid ((HTWO x y).out rfl)
  have hp2 := HP.out.cell 2
  have hpf := HP.out.frozen 2
  clear hcells hlen HZERO HTWO h2
  go_wp2_with fail
  refine (number_any (str y) (by omega) _).mono ?_
  rintro e w2 ⟨rfl, rfl⟩
  rw [show (str y).data.toList = y from rfl]
  go_upto_if 24 with fail
  have HP2 : Hid (Blk (w1.setCell ⟨w.heap.size + 1, 2, none⟩ (.int .i64 (numI y))) (w.heap.size + 1) 35 #[.int .i64 (-1), .int .i64 (-1), .int .i64 (numI y)]) := HP.out.setCellE 2 _
  have HR2 : Hid (Blk (w1.setCell ⟨w.heap.size + 1, 2, none⟩ (.int .i64 (numI y))) w.heap.size 35 #[.int .i64 0, .int .i64 0, .int .i64 0]) := (heap_setOtherE (show w.heap.size ≠ w.heap.size + 1 by omega) _).trans HR.out
  have HB2 : Hid (Below w.heap.size w (w1.setCell ⟨w.heap.size + 1, 2, none⟩ (.int .i64 (numI y)))) := HB.out.setCell (by show w.heap.size ≤ w.heap.size + 1; omega) _
  have hcx2 : (w1.setCell ⟨w.heap.size + 1, 2, none⟩ (.int .i64 (numI y))).cell? ⟨g, 0, none⟩ = some (.string (str x)) := by
    rw [← hcx]
    unfold World.cell?
    rw [heap_setOtherE (show g ≠ w.heap.size + 1 by omega)]
  generalize w1.setCell ⟨w.heap.size + 1, 2, none⟩ (.int .i64 (numI y)) = wb at *
  clear hcx hcy hp2 hpf HP HR HB
  by_cases hs1 : numI y < 1
  · have HV := Lib.hid (HZ.out hs1)
    clear HZ HT
    go_wp2_with (first | (refine wpList_load_row rfl 35 (.tmp 4) (by rfl) (w.heap.size + 1) (by rfl) 35 #[.int .i64 (-1), .int .i64 (-1), .int .i64 (numI y)] (0, 0) _ HP2.out Tryz.underlying35 rfl (by kernel_rfl) ?_) | (refine wpList_store_row rfl 35 (.tmp 2) (.tmp 25) (by rfl) w.heap.size #[.int .i64 (-1), .int .i64 (-1), .int .i64 (numI y)] (by rfl) (by rfl) 35 #[.int .i64 0, .int .i64 0, .int .i64 0] HR2.out (by kernel_rfl) rfl (one3 _ _ _) ?_))
    exact bodyPost_ret (results_cell_tmp (p := 2) (q := 3) rfl _ _ w.heap.size 35 #[.int .i64 (-1), .int .i64 (-1), .int .i64 (numI y)] _ _ rfl rfl (Blk.row HR2.out _) Tryz.underlying35 rfl (by kernel_rfl)) rfl (PartP.of HV.out (below_setRow HB2.out (Nat.le_refl _) _))
  · have HV := Lib.hid (HT.out (by omega))
    have hs1i : (1 : Int) ≤ numI y := by omega
    clear HZ HT hs1
    by_cases h42 : x = [42]
    · have t1 : ((str x).toList == [42]) = true := by rw [h42, Lib.toList_data]; rfl
      have HV2 : Hid (partI s.data.toList = (-1, -1, numI y, true)) := by show _ = _; rw [HV.out, h42]; rfl
      clear h42
      go_wp2_with (first | (refine wpList_load_row rfl 35 (.tmp 4) (by rfl) (w.heap.size + 1) (by rfl) 35 #[.int .i64 (-1), .int .i64 (-1), .int .i64 (numI y)] (0, 0) _ HP2.out Tryz.underlying35 rfl (by kernel_rfl) ?_) | (refine wpList_store_row rfl 35 (.tmp 2) (.tmp 30) (by rfl) w.heap.size #[.int .i64 (-1), .int .i64 (-1), .int .i64 (numI y)] (by rfl) (by rfl) 35 #[.int .i64 0, .int .i64 0, .int .i64 0] HR2.out (by kernel_rfl) rfl (one3 _ _ _) ?_))
      exact bodyPost_ret (results_cell_tmp (p := 2) (q := 3) rfl _ _ w.heap.size 35 #[.int .i64 (-1), .int .i64 (-1), .int .i64 (numI y)] _ _ rfl rfl (Blk.row HR2.out _) Tryz.underlying35 rfl (by kernel_rfl)) rfl (PartP.of HV2.out (below_setRow HB2.out (Nat.le_refl _) _))
    · have t1 : ((str x).toList == [42]) = false := by
        rw [Lib.toList_data]
        show (x == [42]) = false
        simpa using h42
      by_cases hpp : 0 ≤ ptsI x
      · have hbd := pts_bd hpp
        have HBO : Hid (bodyI x = (numI (x.take (ptsI x).toNat), numI (x.drop ((ptsI x).toNat + 2)), decide (0 ≤ numI (x.take (ptsI x).toNat)) && decide (0 ≤ numI (x.drop ((ptsI x).toNat + 2))))) := by show _ = _; unfold bodyI; rw [if_neg h42, if_pos hpp]
        obtain ⟨k, hk⟩ : ∃ k : Nat, ptsI x = k := ⟨(ptsI x).toNat, by omega⟩
        rw [hk, Int.toNat_natCast] at HBO
        rw [hk, Int.toNat_natCast] at hbd
        have HK := Lib.hid hk
        have hxs : (str x).size = x.length := by rw [← size_list]; rfl
        have k0 : (0 : Int) ≤ (k : Int) := by omega
        have hwr : IntKind.i64.wrap ((k : Int) + 2) = (k : Int) + 2 := IntWalk.i64_in _ (by omega)
        have k1 : (k : Int) ≤ ((str x).size : Int) := by omega
        have k2 : (0 : Int) ≤ (k : Int) + 2 := by omega
        have k3 : (k : Int) + 2 ≤ ((str x).size : Int) := by omega
        have E1 : Hid (numS ((str x).extract 0 k) = numI (x.take k)) := by show _ = _; unfold numS; rw [Lib.extract_data]; rfl
        have E2 : Hid (numS ((str x).extract (k + 2) (str x).size) = numI (x.drop (k + 2))) := by
          show _ = _
          unfold numS
          rw [Lib.extract_data, List.take_of_length_le (by rw [List.length_drop, size_list]; exact Nat.le_refl _)]
          rfl
        have z1 : ((str x).extract 0 k).size ≤ 4194304 := by rw [ByteArray.size_extract]; omega
        have z2 : ((str x).extract (k + 2) (str x).size).size ≤ 4194304 := by rw [ByteArray.size_extract]; omega
        have HV2 : Hid (partI s.data.toList = (numS ((str x).extract 0 k), numS ((str x).extract (k + 2) (str x).size), numI y, decide (0 ≤ numS ((str x).extract 0 k)) && decide (0 ≤ numS ((str x).extract (k + 2) (str x).size)))) := by show _ = _; rw [HV.out, HBO.out, E1.out, E2.out]
        have hp0 := HP2.out.cell 0
        have hp1 := HP2.out.cell 1
        have hpf := HP2.out.frozen 0
        have hpf1 := HP2.out.frozen 1
        clear h42 hpp hbd hk HBO hxs
        go_wp2_with fail
        refine (points_any (str x) (by omega) _).mono ?_
        rintro e w3 ⟨rfl, rfl⟩
        rw [show (str x).data.toList = x from rfl, HK.out]
        go_wp2_with fail
        go_region_with ((go_at_call 74; refine (numS_any _ (by assumption) _).mono ?_; rintro e w' ⟨rfl, rfl⟩))
        all_goals
          rw [show ((k : Int) + 2).toNat = k + 2 by omega]
          have HP3 : Hid (Blk (((wb.setCell ⟨w.heap.size + 1, 0, none⟩ (.int .i64 (numS ((str x).extract 0 k)))).setCell ⟨w.heap.size + 1, 1, none⟩ (.int .i64 (numS ((str x).extract (k + 2) (str x).size)))).drew) (w.heap.size + 1) 35 #[.int .i64 (numS ((str x).extract 0 k)), .int .i64 (numS ((str x).extract (k + 2) (str x).size)), .int .i64 (numI y)]) := (HP2.out.setCellE 0 _).setCellE 1 _
          have HR3 : Hid (Blk (((wb.setCell ⟨w.heap.size + 1, 0, none⟩ (.int .i64 (numS ((str x).extract 0 k)))).setCell ⟨w.heap.size + 1, 1, none⟩ (.int .i64 (numS ((str x).extract (k + 2) (str x).size)))).drew) w.heap.size 35 #[.int .i64 0, .int .i64 0, .int .i64 0]) := (heap_setOtherE (show w.heap.size ≠ w.heap.size + 1 by omega) _).trans ((heap_setOtherE (show w.heap.size ≠ w.heap.size + 1 by omega) _).trans HR2.out)
          have HB3 : Hid (Below w.heap.size w (((wb.setCell ⟨w.heap.size + 1, 0, none⟩ (.int .i64 (numS ((str x).extract 0 k)))).setCell ⟨w.heap.size + 1, 1, none⟩ (.int .i64 (numS ((str x).extract (k + 2) (str x).size)))).drew)) := below_drewN ((HB2.out.setCell (p := ⟨w.heap.size + 1, 0, none⟩) (Nat.le_succ _) _).setCell (p := ⟨w.heap.size + 1, 1, none⟩) (Nat.le_succ _) _) 1
          generalize ((wb.setCell ⟨w.heap.size + 1, 0, none⟩ (.int .i64 (numS ((str x).extract 0 k)))).setCell ⟨w.heap.size + 1, 1, none⟩ (.int .i64 (numS ((str x).extract (k + 2) (str x).size)))).drew = wc at *
          clear hp0 hp1 hpf hpf1 hcx2 HP2 HR2 HB2 E1 E2
          generalize numS ((str x).extract 0 k) = a at *
          generalize numS ((str x).extract (k + 2) (str x).size) = b at *
          have c0 := HP3.out.cell 0
          have c1 := HP3.out.cell 1
          have c2 := HP3.out.cell 2
          have r0 := HR3.out.cell 0
          have r1 := HR3.out.cell 1
          have r2 := HR3.out.cell 2
          have f0 := HR3.out.frozen 0
          have f1 := HR3.out.frozen 1
          have f2 := HR3.out.frozen 2
          by_cases ha : 0 ≤ a
          · have ha' : (0 : Int) ≤ a := ha
            by_cases hb : 0 ≤ b
            · have hb' : (0 : Int) ≤ b := hb
              have HV3 : Hid (partI s.data.toList = (a, b, numI y, true)) := by show _ = _; rw [HV2.out]; simp [ha, hb]
              clear ha hb HV2
              go_wp2_with fail
              go_region
              have HRz : Hid (Blk (((wc.setCell ⟨w.heap.size, 0, none⟩ (.int .i64 a)).setCell ⟨w.heap.size, 1, none⟩ (.int .i64 b)).setCell ⟨w.heap.size, 2, none⟩ (.int .i64 (numI y))).drew w.heap.size 35 #[.int .i64 a, .int .i64 b, .int .i64 (numI y)]) := ((HR3.out.setCellE 0 _).setCellE 1 _).setCellE 2 _
              have HBz : Hid (Below w.heap.size w (((wc.setCell ⟨w.heap.size, 0, none⟩ (.int .i64 a)).setCell ⟨w.heap.size, 1, none⟩ (.int .i64 b)).setCell ⟨w.heap.size, 2, none⟩ (.int .i64 (numI y))).drew) := below_drewN (((HB3.out.setCell (p := ⟨w.heap.size, 0, none⟩) (Nat.le_refl _) _).setCell (p := ⟨w.heap.size, 1, none⟩) (Nat.le_refl _) _).setCell (p := ⟨w.heap.size, 2, none⟩) (Nat.le_refl _) _) 1
              go_wp2_with fail
              exact bodyPost_ret (results_cell_tmp (p := 2) (q := 3) rfl _ _ w.heap.size 35 #[.int .i64 a, .int .i64 b, .int .i64 (numI y)] _ _ rfl rfl HRz.out Tryz.underlying35 rfl (by kernel_rfl)) rfl (PartP.of HV3.out HBz.out)
            · have hbD : decide ((0 : Int) ≤ b) = false := decide_eq_false hb
              have HV3 : Hid (partI s.data.toList = (a, b, numI y, false)) := by show _ = _; rw [HV2.out]; simp [ha, hb]
              clear ha hb HV2
              go_wp2_with fail
              go_region
              have HRz : Hid (Blk (((wc.setCell ⟨w.heap.size, 0, none⟩ (.int .i64 a)).setCell ⟨w.heap.size, 1, none⟩ (.int .i64 b)).setCell ⟨w.heap.size, 2, none⟩ (.int .i64 (numI y))).drew w.heap.size 35 #[.int .i64 a, .int .i64 b, .int .i64 (numI y)]) := ((HR3.out.setCellE 0 _).setCellE 1 _).setCellE 2 _
              have HBz : Hid (Below w.heap.size w (((wc.setCell ⟨w.heap.size, 0, none⟩ (.int .i64 a)).setCell ⟨w.heap.size, 1, none⟩ (.int .i64 b)).setCell ⟨w.heap.size, 2, none⟩ (.int .i64 (numI y))).drew) := below_drewN (((HB3.out.setCell (p := ⟨w.heap.size, 0, none⟩) (Nat.le_refl _) _).setCell (p := ⟨w.heap.size, 1, none⟩) (Nat.le_refl _) _).setCell (p := ⟨w.heap.size, 2, none⟩) (Nat.le_refl _) _) 1
              go_wp2_with fail
              exact bodyPost_ret (results_cell_tmp (p := 2) (q := 3) rfl _ _ w.heap.size 35 #[.int .i64 a, .int .i64 b, .int .i64 (numI y)] _ _ rfl rfl HRz.out Tryz.underlying35 rfl (by kernel_rfl)) rfl (PartP.of HV3.out HBz.out)
          · have haD : decide ((0 : Int) ≤ a) = false := decide_eq_false ha
            have HV3 : Hid (partI s.data.toList = (a, b, numI y, false)) := by show _ = _; rw [HV2.out]; simp [ha]
            clear ha HV2
            go_wp2_with fail
            go_region
            have HRz : Hid (Blk (((wc.setCell ⟨w.heap.size, 0, none⟩ (.int .i64 a)).setCell ⟨w.heap.size, 1, none⟩ (.int .i64 b)).setCell ⟨w.heap.size, 2, none⟩ (.int .i64 (numI y))).drew w.heap.size 35 #[.int .i64 a, .int .i64 b, .int .i64 (numI y)]) := ((HR3.out.setCellE 0 _).setCellE 1 _).setCellE 2 _
            have HBz : Hid (Below w.heap.size w (((wc.setCell ⟨w.heap.size, 0, none⟩ (.int .i64 a)).setCell ⟨w.heap.size, 1, none⟩ (.int .i64 b)).setCell ⟨w.heap.size, 2, none⟩ (.int .i64 (numI y))).drew) := below_drewN (((HB3.out.setCell (p := ⟨w.heap.size, 0, none⟩) (Nat.le_refl _) _).setCell (p := ⟨w.heap.size, 1, none⟩) (Nat.le_refl _) _).setCell (p := ⟨w.heap.size, 2, none⟩) (Nat.le_refl _) _) 1
            go_wp2_with fail
            exact bodyPost_ret (results_cell_tmp (p := 2) (q := 3) rfl _ _ w.heap.size 35 #[.int .i64 a, .int .i64 b, .int .i64 (numI y)] _ _ rfl rfl HRz.out Tryz.underlying35 rfl (by kernel_rfl)) rfl (PartP.of HV3.out HBz.out)
      · have hpi : ptsI x < 0 := by omega
        have HBO : Hid (bodyI x = (numI x, -1, decide (0 ≤ numI x))) := by show _ = _; unfold bodyI; rw [if_neg h42, if_neg hpp]
        have HV2 : Hid (partI s.data.toList = (numI x, -1, numI y, decide (0 ≤ numI x))) := by show _ = _; rw [HV.out, HBO.out]
        have hp0 := HP2.out.cell 0
        have hpf := HP2.out.frozen 0
        clear h42 hpp
        go_wp2_with fail
        refine (points_any (str x) (by omega) _).mono ?_
        rintro e w3 ⟨rfl, rfl⟩
        rw [show (str x).data.toList = x from rfl]
        go_wp2_with fail
        refine (number_any (str x) (by omega) _).mono ?_
        rintro e w4 ⟨rfl, rfl⟩
        rw [show (str x).data.toList = x from rfl]
        go_wp2_with fail
        have HP3 : Hid (Blk (wb.setCell ⟨w.heap.size + 1, 0, none⟩ (.int .i64 (numI x))) (w.heap.size + 1) 35 #[.int .i64 (numI x), .int .i64 (-1), .int .i64 (numI y)]) := HP2.out.setCellE 0 _
        have HR3 : Hid (Blk (wb.setCell ⟨w.heap.size + 1, 0, none⟩ (.int .i64 (numI x))) w.heap.size 35 #[.int .i64 0, .int .i64 0, .int .i64 0]) := (heap_setOtherE (show w.heap.size ≠ w.heap.size + 1 by omega) _).trans HR2.out
        have HB3 : Hid (Below w.heap.size w (wb.setCell ⟨w.heap.size + 1, 0, none⟩ (.int .i64 (numI x)))) := HB2.out.setCell (by show w.heap.size ≤ w.heap.size + 1; omega) _
        generalize wb.setCell ⟨w.heap.size + 1, 0, none⟩ (.int .i64 (numI x)) = wc at *
        clear hp0 hpf hcx2 HP2 HR2 HB2
        have c0 := HP3.out.cell 0
        have c1 := HP3.out.cell 1
        have c2 := HP3.out.cell 2
        have r0 := HR3.out.cell 0
        have r1 := HR3.out.cell 1
        have r2 := HR3.out.cell 2
        have f0 := HR3.out.frozen 0
        have f1 := HR3.out.frozen 1
        have f2 := HR3.out.frozen 2
        have hHP3 := HP3.out
        have hHR3 := HR3.out
        go_region
        have HRz : Hid (Blk (((wc.setCell ⟨w.heap.size, 0, none⟩ (.int .i64 (numI x))).setCell ⟨w.heap.size, 1, none⟩ (.int .i64 (-1))).setCell ⟨w.heap.size, 2, none⟩ (.int .i64 (numI y))).drew w.heap.size 35 #[.int .i64 (numI x), .int .i64 (-1), .int .i64 (numI y)]) := ((HR3.out.setCellE 0 _).setCellE 1 _).setCellE 2 _
        have HBz : Hid (Below w.heap.size w (((wc.setCell ⟨w.heap.size, 0, none⟩ (.int .i64 (numI x))).setCell ⟨w.heap.size, 1, none⟩ (.int .i64 (-1))).setCell ⟨w.heap.size, 2, none⟩ (.int .i64 (numI y))).drew) := below_drewN (((HB3.out.setCell (p := ⟨w.heap.size, 0, none⟩) (Nat.le_refl _) _).setCell (p := ⟨w.heap.size, 1, none⟩) (Nat.le_refl _) _).setCell (p := ⟨w.heap.size, 2, none⟩) (Nat.le_refl _) _) 1
        go_wp2_with fail
        exact bodyPost_ret (results_cell_tmp (p := 2) (q := 3) rfl _ _ w.heap.size 35 #[.int .i64 (numI x), .int .i64 (-1), .int .i64 (numI y)] _ _ rfl rfl HRz.out Tryz.underlying35 rfl (by kernel_rfl)) rfl (PartP.of HV2.out HBz.out)

  | [x], _, _, hlen, _, _, HONE, hcells, _ =>
  have hcx2 := hcells 0 x rfl
  have hxl : (str x).size ≤ 4194303 := by have := hlen x (by simp); rw [← size_list]; exact Nat.le_trans this hs
  have HV := Lib.hid ((HONE x).out rfl)
  have HP2 := HP
  have HR2 := HR
  have HB2 := HB
  clear hcells hlen HONE h2 HP HR HB
  by_cases h42 : x = [42]
  · have t1 : ((str x).toList == [42]) = true := by rw [h42, Lib.toList_data]; rfl
    have HV2 : Hid (partI s.data.toList = (-1, -1, 0, true)) := by show _ = _; rw [HV.out, h42]; rfl
    clear h42
    go_wp2_with (first | (refine wpList_load_row rfl 35 (.tmp 4) (by rfl) (w.heap.size + 1) (by rfl) 35 #[.int .i64 (-1), .int .i64 (-1), .int .i64 (0)] (0, 0) _ HP2.out Tryz.underlying35 rfl (by kernel_rfl) ?_) | (refine wpList_store_row rfl 35 (.tmp 2) (.tmp 30) (by rfl) w.heap.size #[.int .i64 (-1), .int .i64 (-1), .int .i64 (0)] (by rfl) (by rfl) 35 #[.int .i64 0, .int .i64 0, .int .i64 0] HR2.out (by kernel_rfl) rfl (one3 _ _ _) ?_))
    exact bodyPost_ret (results_cell_tmp (p := 2) (q := 3) rfl _ _ w.heap.size 35 #[.int .i64 (-1), .int .i64 (-1), .int .i64 (0)] _ _ rfl rfl (Blk.row HR2.out _) Tryz.underlying35 rfl (by kernel_rfl)) rfl (PartP.of HV2.out (below_setRow HB2.out (Nat.le_refl _) _))
  · have t1 : ((str x).toList == [42]) = false := by
      rw [Lib.toList_data]
      show (x == [42]) = false
      simpa using h42
    by_cases hpp : 0 ≤ ptsI x
    · have hbd := pts_bd hpp
      have HBO : Hid (bodyI x = (numI (x.take (ptsI x).toNat), numI (x.drop ((ptsI x).toNat + 2)), decide (0 ≤ numI (x.take (ptsI x).toNat)) && decide (0 ≤ numI (x.drop ((ptsI x).toNat + 2))))) := by show _ = _; unfold bodyI; rw [if_neg h42, if_pos hpp]
      obtain ⟨k, hk⟩ : ∃ k : Nat, ptsI x = k := ⟨(ptsI x).toNat, by omega⟩
      rw [hk, Int.toNat_natCast] at HBO
      rw [hk, Int.toNat_natCast] at hbd
      have HK := Lib.hid hk
      have hxs : (str x).size = x.length := by rw [← size_list]; rfl
      have k0 : (0 : Int) ≤ (k : Int) := by omega
      have hwr : IntKind.i64.wrap ((k : Int) + 2) = (k : Int) + 2 := IntWalk.i64_in _ (by omega)
      have k1 : (k : Int) ≤ ((str x).size : Int) := by omega
      have k2 : (0 : Int) ≤ (k : Int) + 2 := by omega
      have k3 : (k : Int) + 2 ≤ ((str x).size : Int) := by omega
      have E1 : Hid (numS ((str x).extract 0 k) = numI (x.take k)) := by show _ = _; unfold numS; rw [Lib.extract_data]; rfl
      have E2 : Hid (numS ((str x).extract (k + 2) (str x).size) = numI (x.drop (k + 2))) := by
        show _ = _
        unfold numS
        rw [Lib.extract_data, List.take_of_length_le (by rw [List.length_drop, size_list]; exact Nat.le_refl _)]
        rfl
      have z1 : ((str x).extract 0 k).size ≤ 4194304 := by rw [ByteArray.size_extract]; omega
      have z2 : ((str x).extract (k + 2) (str x).size).size ≤ 4194304 := by rw [ByteArray.size_extract]; omega
      have HV2 : Hid (partI s.data.toList = (numS ((str x).extract 0 k), numS ((str x).extract (k + 2) (str x).size), 0, decide (0 ≤ numS ((str x).extract 0 k)) && decide (0 ≤ numS ((str x).extract (k + 2) (str x).size)))) := by show _ = _; rw [HV.out, HBO.out, E1.out, E2.out]
      have hp0 := HP2.out.cell 0
      have hp1 := HP2.out.cell 1
      have hpf := HP2.out.frozen 0
      have hpf1 := HP2.out.frozen 1
      clear h42 hpp hbd hk HBO hxs
      go_wp2_with fail
      refine (points_any (str x) (by omega) _).mono ?_
      rintro e w3 ⟨rfl, rfl⟩
      rw [show (str x).data.toList = x from rfl, HK.out]
      go_wp2_with fail
      go_region_with ((go_at_call 74; refine (numS_any _ (by assumption) _).mono ?_; rintro e w' ⟨rfl, rfl⟩))
      all_goals
        rw [show ((k : Int) + 2).toNat = k + 2 by omega]
        have HP3 : Hid (Blk (((w1.setCell ⟨w.heap.size + 1, 0, none⟩ (.int .i64 (numS ((str x).extract 0 k)))).setCell ⟨w.heap.size + 1, 1, none⟩ (.int .i64 (numS ((str x).extract (k + 2) (str x).size)))).drew) (w.heap.size + 1) 35 #[.int .i64 (numS ((str x).extract 0 k)), .int .i64 (numS ((str x).extract (k + 2) (str x).size)), .int .i64 (0)]) := (HP2.out.setCellE 0 _).setCellE 1 _
        have HR3 : Hid (Blk (((w1.setCell ⟨w.heap.size + 1, 0, none⟩ (.int .i64 (numS ((str x).extract 0 k)))).setCell ⟨w.heap.size + 1, 1, none⟩ (.int .i64 (numS ((str x).extract (k + 2) (str x).size)))).drew) w.heap.size 35 #[.int .i64 0, .int .i64 0, .int .i64 0]) := (heap_setOtherE (show w.heap.size ≠ w.heap.size + 1 by omega) _).trans ((heap_setOtherE (show w.heap.size ≠ w.heap.size + 1 by omega) _).trans HR2.out)
        have HB3 : Hid (Below w.heap.size w (((w1.setCell ⟨w.heap.size + 1, 0, none⟩ (.int .i64 (numS ((str x).extract 0 k)))).setCell ⟨w.heap.size + 1, 1, none⟩ (.int .i64 (numS ((str x).extract (k + 2) (str x).size)))).drew)) := below_drewN ((HB2.out.setCell (p := ⟨w.heap.size + 1, 0, none⟩) (Nat.le_succ _) _).setCell (p := ⟨w.heap.size + 1, 1, none⟩) (Nat.le_succ _) _) 1
        generalize ((w1.setCell ⟨w.heap.size + 1, 0, none⟩ (.int .i64 (numS ((str x).extract 0 k)))).setCell ⟨w.heap.size + 1, 1, none⟩ (.int .i64 (numS ((str x).extract (k + 2) (str x).size)))).drew = wc at *
        clear hp0 hp1 hpf hpf1 hcx2 HP2 HR2 HB2 E1 E2
        generalize numS ((str x).extract 0 k) = a at *
        generalize numS ((str x).extract (k + 2) (str x).size) = b at *
        have c0 := HP3.out.cell 0
        have c1 := HP3.out.cell 1
        have c2 := HP3.out.cell 2
        have r0 := HR3.out.cell 0
        have r1 := HR3.out.cell 1
        have r2 := HR3.out.cell 2
        have f0 := HR3.out.frozen 0
        have f1 := HR3.out.frozen 1
        have f2 := HR3.out.frozen 2
        by_cases ha : 0 ≤ a
        · have ha' : (0 : Int) ≤ a := ha
          by_cases hb : 0 ≤ b
          · have hb' : (0 : Int) ≤ b := hb
            have HV3 : Hid (partI s.data.toList = (a, b, 0, true)) := by show _ = _; rw [HV2.out]; simp [ha, hb]
            clear ha hb HV2
            go_wp2_with fail
            go_region
            have HRz : Hid (Blk (((wc.setCell ⟨w.heap.size, 0, none⟩ (.int .i64 a)).setCell ⟨w.heap.size, 1, none⟩ (.int .i64 b)).setCell ⟨w.heap.size, 2, none⟩ (.int .i64 (0))).drew w.heap.size 35 #[.int .i64 a, .int .i64 b, .int .i64 (0)]) := ((HR3.out.setCellE 0 _).setCellE 1 _).setCellE 2 _
            have HBz : Hid (Below w.heap.size w (((wc.setCell ⟨w.heap.size, 0, none⟩ (.int .i64 a)).setCell ⟨w.heap.size, 1, none⟩ (.int .i64 b)).setCell ⟨w.heap.size, 2, none⟩ (.int .i64 (0))).drew) := below_drewN (((HB3.out.setCell (p := ⟨w.heap.size, 0, none⟩) (Nat.le_refl _) _).setCell (p := ⟨w.heap.size, 1, none⟩) (Nat.le_refl _) _).setCell (p := ⟨w.heap.size, 2, none⟩) (Nat.le_refl _) _) 1
            go_wp2_with fail
            exact bodyPost_ret (results_cell_tmp (p := 2) (q := 3) rfl _ _ w.heap.size 35 #[.int .i64 a, .int .i64 b, .int .i64 (0)] _ _ rfl rfl HRz.out Tryz.underlying35 rfl (by kernel_rfl)) rfl (PartP.of HV3.out HBz.out)
          · have hbD : decide ((0 : Int) ≤ b) = false := decide_eq_false hb
            have HV3 : Hid (partI s.data.toList = (a, b, 0, false)) := by show _ = _; rw [HV2.out]; simp [ha, hb]
            clear ha hb HV2
            go_wp2_with fail
            go_region
            have HRz : Hid (Blk (((wc.setCell ⟨w.heap.size, 0, none⟩ (.int .i64 a)).setCell ⟨w.heap.size, 1, none⟩ (.int .i64 b)).setCell ⟨w.heap.size, 2, none⟩ (.int .i64 (0))).drew w.heap.size 35 #[.int .i64 a, .int .i64 b, .int .i64 (0)]) := ((HR3.out.setCellE 0 _).setCellE 1 _).setCellE 2 _
            have HBz : Hid (Below w.heap.size w (((wc.setCell ⟨w.heap.size, 0, none⟩ (.int .i64 a)).setCell ⟨w.heap.size, 1, none⟩ (.int .i64 b)).setCell ⟨w.heap.size, 2, none⟩ (.int .i64 (0))).drew) := below_drewN (((HB3.out.setCell (p := ⟨w.heap.size, 0, none⟩) (Nat.le_refl _) _).setCell (p := ⟨w.heap.size, 1, none⟩) (Nat.le_refl _) _).setCell (p := ⟨w.heap.size, 2, none⟩) (Nat.le_refl _) _) 1
            go_wp2_with fail
            exact bodyPost_ret (results_cell_tmp (p := 2) (q := 3) rfl _ _ w.heap.size 35 #[.int .i64 a, .int .i64 b, .int .i64 (0)] _ _ rfl rfl HRz.out Tryz.underlying35 rfl (by kernel_rfl)) rfl (PartP.of HV3.out HBz.out)
        · have haD : decide ((0 : Int) ≤ a) = false := decide_eq_false ha
          have HV3 : Hid (partI s.data.toList = (a, b, 0, false)) := by show _ = _; rw [HV2.out]; simp [ha]
          clear ha HV2
          go_wp2_with fail
          go_region
          have HRz : Hid (Blk (((wc.setCell ⟨w.heap.size, 0, none⟩ (.int .i64 a)).setCell ⟨w.heap.size, 1, none⟩ (.int .i64 b)).setCell ⟨w.heap.size, 2, none⟩ (.int .i64 (0))).drew w.heap.size 35 #[.int .i64 a, .int .i64 b, .int .i64 (0)]) := ((HR3.out.setCellE 0 _).setCellE 1 _).setCellE 2 _
          have HBz : Hid (Below w.heap.size w (((wc.setCell ⟨w.heap.size, 0, none⟩ (.int .i64 a)).setCell ⟨w.heap.size, 1, none⟩ (.int .i64 b)).setCell ⟨w.heap.size, 2, none⟩ (.int .i64 (0))).drew) := below_drewN (((HB3.out.setCell (p := ⟨w.heap.size, 0, none⟩) (Nat.le_refl _) _).setCell (p := ⟨w.heap.size, 1, none⟩) (Nat.le_refl _) _).setCell (p := ⟨w.heap.size, 2, none⟩) (Nat.le_refl _) _) 1
          go_wp2_with fail
          exact bodyPost_ret (results_cell_tmp (p := 2) (q := 3) rfl _ _ w.heap.size 35 #[.int .i64 a, .int .i64 b, .int .i64 (0)] _ _ rfl rfl HRz.out Tryz.underlying35 rfl (by kernel_rfl)) rfl (PartP.of HV3.out HBz.out)
    · have hpi : ptsI x < 0 := by omega
      have HBO : Hid (bodyI x = (numI x, -1, decide (0 ≤ numI x))) := by show _ = _; unfold bodyI; rw [if_neg h42, if_neg hpp]
      have HV2 : Hid (partI s.data.toList = (numI x, -1, 0, decide (0 ≤ numI x))) := by show _ = _; rw [HV.out, HBO.out]
      have hp0 := HP2.out.cell 0
      have hpf := HP2.out.frozen 0
      clear h42 hpp
      go_wp2_with fail
      refine (points_any (str x) (by omega) _).mono ?_
      rintro e w3 ⟨rfl, rfl⟩
      rw [show (str x).data.toList = x from rfl]
      go_wp2_with fail
      refine (number_any (str x) (by omega) _).mono ?_
      rintro e w4 ⟨rfl, rfl⟩
      rw [show (str x).data.toList = x from rfl]
      go_wp2_with fail
      have HP3 : Hid (Blk (w1.setCell ⟨w.heap.size + 1, 0, none⟩ (.int .i64 (numI x))) (w.heap.size + 1) 35 #[.int .i64 (numI x), .int .i64 (-1), .int .i64 (0)]) := HP2.out.setCellE 0 _
      have HR3 : Hid (Blk (w1.setCell ⟨w.heap.size + 1, 0, none⟩ (.int .i64 (numI x))) w.heap.size 35 #[.int .i64 0, .int .i64 0, .int .i64 0]) := (heap_setOtherE (show w.heap.size ≠ w.heap.size + 1 by omega) _).trans HR2.out
      have HB3 : Hid (Below w.heap.size w (w1.setCell ⟨w.heap.size + 1, 0, none⟩ (.int .i64 (numI x)))) := HB2.out.setCell (by show w.heap.size ≤ w.heap.size + 1; omega) _
      generalize w1.setCell ⟨w.heap.size + 1, 0, none⟩ (.int .i64 (numI x)) = wc at *
      clear hp0 hpf hcx2 HP2 HR2 HB2
      have c0 := HP3.out.cell 0
      have c1 := HP3.out.cell 1
      have c2 := HP3.out.cell 2
      have r0 := HR3.out.cell 0
      have r1 := HR3.out.cell 1
      have r2 := HR3.out.cell 2
      have f0 := HR3.out.frozen 0
      have f1 := HR3.out.frozen 1
      have f2 := HR3.out.frozen 2
      have hHP3 := HP3.out
      have hHR3 := HR3.out
      go_region
      have HRz : Hid (Blk (((wc.setCell ⟨w.heap.size, 0, none⟩ (.int .i64 (numI x))).setCell ⟨w.heap.size, 1, none⟩ (.int .i64 (-1))).setCell ⟨w.heap.size, 2, none⟩ (.int .i64 (0))).drew w.heap.size 35 #[.int .i64 (numI x), .int .i64 (-1), .int .i64 (0)]) := ((HR3.out.setCellE 0 _).setCellE 1 _).setCellE 2 _
      have HBz : Hid (Below w.heap.size w (((wc.setCell ⟨w.heap.size, 0, none⟩ (.int .i64 (numI x))).setCell ⟨w.heap.size, 1, none⟩ (.int .i64 (-1))).setCell ⟨w.heap.size, 2, none⟩ (.int .i64 (0))).drew) := below_drewN (((HB3.out.setCell (p := ⟨w.heap.size, 0, none⟩) (Nat.le_refl _) _).setCell (p := ⟨w.heap.size, 1, none⟩) (Nat.le_refl _) _).setCell (p := ⟨w.heap.size, 2, none⟩) (Nat.le_refl _) _) 1
      go_wp2_with fail
      exact bodyPost_ret (results_cell_tmp (p := 2) (q := 3) rfl _ _ w.heap.size 35 #[.int .i64 (numI x), .int .i64 (-1), .int .i64 (0)] _ _ rfl rfl HRz.out Tryz.underlying35 rfl (by kernel_rfl)) rfl (PartP.of HV2.out HBz.out)
end Go.Proofs.YteflddgcddcejaaGreatDoor
