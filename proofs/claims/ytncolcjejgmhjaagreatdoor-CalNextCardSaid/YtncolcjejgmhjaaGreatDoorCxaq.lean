/- The walks of dateOf and Of. -/
import Derived.Test.YtncolcjejgmhjaaGreatDoorCxaf
import Derived.Test.YtncolcjejgmhjaaGreatDoorCxab
namespace Go.Proofs.YtncolcjejgmhjaaGreatDoor
open Go.RowKit
theorem guess {n y : Int} (h0 : 2000 ≤ y) (h1 : y ≤ 2199) (a : yst y ≤ n) (b : n < yst (y + 1)) : (2000 + n / 366 = y ∧ n < yst (2000 + n / 366 + 1)) ∨ (2000 + n / 366 + 1 = y ∧ yst (2000 + n / 366 + 1) ≤ n) := by
  have h : 2000 + n / 366 = y ∨ 2000 + n / 366 = y - 1 := by unfold yst leaps at a b; omega
  rcases h with h | h
  · left; rw [h]; exact ⟨rfl, b⟩
  · right; rw [h]; exact ⟨by omega, by rw [show y - 1 + 1 = y by omega]; exact a⟩
set_option maxHeartbeats 2000000 in
theorem dateOf_any (n y m d : Int) (hd : IsDay y m d) (hn : num y m d = n) (w : World) :
    Calls Tryz.prog 38 #[.int .i64 n] w fun e w' => e = .returned (.agg #[.int .i64 y, .int .i64 m, .int .i64 d, .int .i64 0, .int .i64 0, .int .i64 0, .int .i64 ((n + 5) % 7 + 1)]) ∧ Below w.heap.size w w' := by
  have hb := num_bd hd
  have hy := num_in_year hd
  rw [hn] at hb hy
  obtain ⟨hb0, hb1⟩ := hb
  obtain ⟨hy0, hy1⟩ := hy
  have y0 := hd.y0
  have y1 := hd.y1
  have m0 := hd.m0
  have m1 := hd.m1
  have d0 := hd.d0
  have d1 := hd.d1
  have HN := Lib.hid (show n = yst y + mst y m + d - 1 by rw [← hn]; rfl)
  have ys0 : 0 ≤ yst y := by have := yst_le (a := 2000) (b := y) y0; rw [yst_2000] at this; omega
  have ys1 : n - yst y < 366 := by have := lp_01 y; have := yst_succ y; omega
  clear hn hd
  have e5 : Hid (n + 6 - 1 = n + 5) := by show n + 6 - 1 = n + 5; omega
  rcases guess y0 y1 hy0 hy1 with ⟨hg, hlt⟩ | ⟨hg, hle⟩
  · have HG := Lib.hid hg
    clear hg
    go_enter Tryz.func38, Tryz.ntmps38
    go_wp2_with fail
    refine (daysBefore_any _ (by omega) (by omega) _).mono ?_
    rintro e w1 ⟨rfl, rfl⟩
    go_wp2_with fail
    rw [HG.out]
    refine (daysBefore_any _ (by omega) (by omega) _).mono ?_
    rintro e w1 ⟨rfl, rfl⟩
    go_wp2_with fail
    rw [e5.out]
    go_loopw [4] (fun r wr => ∃ k : Int, 1 ≤ k ∧ k ≤ m ∧ r = .int .i64 (n - yst y - mst y k) ∧ wr = (w.alloc (.cells #[.int .i64 0, .int .i64 0, .int .i64 0, .int .i64 0, .int .i64 0, .int .i64 0, .int .i64 0] 39)).alloc (.cells #[.int .i64 y, .int .i64 k, .int .i64 0, .int .i64 0, .int .i64 0, .int .i64 0, .int .i64 ((n + 5) % 7 + 1)] 39)) (fun r wr => (intOf r).toNat)
    case atStart => exact ⟨1, by omega, by omega, by rw [mst_1]; go_num, rfl⟩
    case round =>
      obtain ⟨k, hk0, hk1, rfl, rfl⟩ := hrel
      have hk12 : k ≤ 12 := by omega
      have hs := mst_succ y k hk0 hk12
      have hm0 := mst_bd y k hk0 (by omega)
      have hdb := dim_bd y k hk0 hk12
      have HS := Lib.hid hs
      by_cases hlt2 : k < m
      · have hmo := mst_mono y hk0 (b := m) (by omega) hlt2
        have hN := HN.out
        have g1 : dim y k ≤ n - yst y - mst y k := by omega
        clear hN hs hmo
        go_wp2_with fail
        refine (Days_any y k _).mono ?_
        rintro e w1 ⟨rfl, rfl⟩
        go_wp2_with fail
        refine (Days_any y k _).mono ?_
        rintro e w1 ⟨rfl, rfl⟩
        go_wp2_with fail
        go_roundw
        case rel => exact ⟨k + 1, by omega, by omega, by rw [HS.out]; go_num, rfl⟩
        case measure => simp [intOf]; omega
      · have hkm : k = m := by omega
        clear hs
        subst hkm
        have hN := HN.out
        have g1 : n - yst y - mst y k < dim y k := by omega
        have g2 : n - yst y - mst y k = d - 1 := by omega
        have G2 := Lib.hid g2
        clear hN g2 hlt2
        go_wp2_with fail
        refine (Days_any y k _).mono ?_
        rintro e w1 ⟨rfl, rfl⟩
        go_wp2_with fail
        exact bodyPost_ret (v := .agg #[.int .i64 y, .int .i64 k, .int .i64 (n - yst y - mst y k + 1), .int .i64 0, .int .i64 0, .int .i64 0, .int .i64 ((n + 5) % 7 + 1)]) (by simp [results, Tryz.results38, go_sem]) rfl
          ⟨congrArg (fun x => Ending.returned (.agg #[.int .i64 y, .int .i64 k, .int .i64 x, .int .i64 0, .int .i64 0, .int .i64 0, .int .i64 ((n + 5) % 7 + 1)])) (by have := G2.out; omega), (Below.refl _ _).alloc (Nat.le_refl _) _ |>.alloc (by simp) _⟩
  · have HG := Lib.hid hg
    clear hg
    go_enter Tryz.func38, Tryz.ntmps38
    go_wp2_with fail
    refine (daysBefore_any _ (by omega) (by omega) _).mono ?_
    rintro e w1 ⟨rfl, rfl⟩
    go_wp2_with fail
    rw [HG.out]
    refine (daysBefore_any _ (by omega) (by omega) _).mono ?_
    rintro e w1 ⟨rfl, rfl⟩
    go_wp2_with fail
    rw [e5.out]
    go_loopw [4] (fun r wr => ∃ k : Int, 1 ≤ k ∧ k ≤ m ∧ r = .int .i64 (n - yst y - mst y k) ∧ wr = (w.alloc (.cells #[.int .i64 0, .int .i64 0, .int .i64 0, .int .i64 0, .int .i64 0, .int .i64 0, .int .i64 0] 39)).alloc (.cells #[.int .i64 y, .int .i64 k, .int .i64 0, .int .i64 0, .int .i64 0, .int .i64 0, .int .i64 ((n + 5) % 7 + 1)] 39)) (fun r wr => (intOf r).toNat)
    case atStart => exact ⟨1, by omega, by omega, by rw [mst_1]; go_num, rfl⟩
    case round =>
      obtain ⟨k, hk0, hk1, rfl, rfl⟩ := hrel
      have hk12 : k ≤ 12 := by omega
      have hs := mst_succ y k hk0 hk12
      have hm0 := mst_bd y k hk0 (by omega)
      have hdb := dim_bd y k hk0 hk12
      have HS := Lib.hid hs
      by_cases hlt2 : k < m
      · have hmo := mst_mono y hk0 (b := m) (by omega) hlt2
        have hN := HN.out
        have g1 : dim y k ≤ n - yst y - mst y k := by omega
        clear hN hs hmo
        go_wp2_with fail
        refine (Days_any y k _).mono ?_
        rintro e w1 ⟨rfl, rfl⟩
        go_wp2_with fail
        refine (Days_any y k _).mono ?_
        rintro e w1 ⟨rfl, rfl⟩
        go_wp2_with fail
        go_roundw
        case rel => exact ⟨k + 1, by omega, by omega, by rw [HS.out]; go_num, rfl⟩
        case measure => simp [intOf]; omega
      · have hkm : k = m := by omega
        clear hs
        subst hkm
        have hN := HN.out
        have g1 : n - yst y - mst y k < dim y k := by omega
        have g2 : n - yst y - mst y k = d - 1 := by omega
        have G2 := Lib.hid g2
        clear hN g2 hlt2
        go_wp2_with fail
        refine (Days_any y k _).mono ?_
        rintro e w1 ⟨rfl, rfl⟩
        go_wp2_with fail
        exact bodyPost_ret (v := .agg #[.int .i64 y, .int .i64 k, .int .i64 (n - yst y - mst y k + 1), .int .i64 0, .int .i64 0, .int .i64 0, .int .i64 ((n + 5) % 7 + 1)]) (by simp [results, Tryz.results38, go_sem]) rfl
          ⟨congrArg (fun x => Ending.returned (.agg #[.int .i64 y, .int .i64 k, .int .i64 x, .int .i64 0, .int .i64 0, .int .i64 0, .int .i64 ((n + 5) % 7 + 1)])) (by have := G2.out; omega), (Below.refl _ _).alloc (Nat.le_refl _) _ |>.alloc (by simp) _⟩
set_option maxHeartbeats 2000000 in
theorem Of_any (t : Int) (w : World) :
    Calls Tryz.prog 15 #[.int .i64 t] w fun e w' => e = .returned (.tuple #[.agg #[.int .i64 (fY t), .int .i64 (fM t), .int .i64 (fD t), .int .i64 (fH t), .int .i64 (fI t), .int .i64 (fS t), .int .i64 (fW t)], .bool (isT t)]) ∧ Below w.heap.size w w' := by
  rcases ht : isT t with _ | _
  · obtain ⟨e1, e2, e3, e4, e5, e6, e7⟩ := date_no ht
    have hb : t < 0 ∨ 6311433600 ≤ t := by
      have : ¬ isT t = true := by rw [ht]; simp
      rw [isT_iff] at this; omega
    rw [e1, e2, e3, e4, e5, e6, e7]
    clear e1 e2 e3 e4 e5 e6 e7 ht
    rcases hb with hb | hb
    · go_enter Tryz.func15, Tryz.ntmps15
      go_wp2_with fail
      exact bodyPost_ret (v := .tuple #[.agg #[.int .i64 0, .int .i64 0, .int .i64 0, .int .i64 0, .int .i64 0, .int .i64 0, .int .i64 0], .bool false]) (by simp [results, Tryz.results15, go_sem]) rfl ⟨rfl, (Below.refl _ _).alloc (Nat.le_refl _) _⟩
    · have hb0 : ¬ t < 0 := by omega
      go_enter Tryz.func15, Tryz.ntmps15
      go_wp2_with fail
      exact bodyPost_ret (v := .tuple #[.agg #[.int .i64 0, .int .i64 0, .int .i64 0, .int .i64 0, .int .i64 0, .int .i64 0, .int .i64 0], .bool false]) (by simp [results, Tryz.results15, go_sem]) rfl ⟨rfl, (Below.refl _ _).alloc (Nat.le_refl _) _⟩
  · have hb := (isT_iff t).1 ht
    obtain ⟨hb0, hb1⟩ := hb
    obtain ⟨hd, hn⟩ := dayOf_spec (n := t / 86400) (by omega) (by omega)
    have E : Hid (fY t = (dayOf (t / 86400)).1 ∧ fM t = (dayOf (t / 86400)).2.1 ∧ fD t = (dayOf (t / 86400)).2.2 ∧ fH t = t % 86400 / 3600 ∧ fI t = t % 3600 / 60 ∧ fS t = t % 60 ∧ fW t = (t / 86400 + 5) % 7 + 1) := by
      unfold fY fM fD fH fI fS fW
      simp only [if_pos ht]
      exact ⟨trivial, trivial, trivial, trivial, trivial, trivial, trivial⟩
    clear ht
    generalize (dayOf (t / 86400)).1 = y at *
    generalize (dayOf (t / 86400)).2.1 = m at *
    generalize (dayOf (t / 86400)).2.2 = d at *
    obtain ⟨e1, e2, e3, e4, e5, e6, e7⟩ := E.out
    rw [e1, e2, e3, e4, e5, e6, e7]
    clear e1 e2 e3 e4 e5 e6 e7 E
    have HD := Lib.hid hd
    have HN := Lib.hid hn
    clear hd hn
    go_enter Tryz.func15, Tryz.ntmps15
    go_wp2_with fail
    refine (dateOf_any _ y m d HD.out HN.out _).mono ?_
    rintro e w1 ⟨rfl, hb1⟩
    have hz : w.heap.size < w1.heap.size := by have := hb1.size; simp at this; omega
    have HB : Hid (Blk w1 w.heap.size 39 #[.int .i64 0, .int .i64 0, .int .i64 0, .int .i64 0, .int .i64 0, .int .i64 0, .int .i64 0]) := (Blk.new w _ _).below hb1 (by simp)
    have Hb := Lib.hid (more3 ((Below.refl w.heap.size w).alloc (Nat.le_refl _) _) (by simp) hb1)
    clear hb1
    go_wp2_with (refine wpList_store_row rfl 39 (.tmp 2) (.tmp 26) rfl w.heap.size #[.int .i64 y, .int .i64 m, .int .i64 d, .int .i64 (t % 86400 / 3600), .int .i64 (t % 3600 / 60), .int .i64 (t % 60), .int .i64 ((t / 86400 + 5) % 7 + 1)] rfl rfl 39 #[.int .i64 0, .int .i64 0, .int .i64 0, .int .i64 0, .int .i64 0, .int .i64 0, .int .i64 0] (HB.out.alloc _) (by kernel_rfl) rfl (one7 _ _ _ _ _ _ _) ?_)
    have HR := Lib.hid ((HB.out.alloc (.cells #[.int .i64 y, .int .i64 m, .int .i64 d, .int .i64 (t % 86400 / 3600), .int .i64 (t % 3600 / 60), .int .i64 (t % 60), .int .i64 ((t / 86400 + 5) % 7 + 1)] 39)).row #[.int .i64 y, .int .i64 m, .int .i64 d, .int .i64 (t % 86400 / 3600), .int .i64 (t % 3600 / 60), .int .i64 (t % 60), .int .i64 ((t / 86400 + 5) % 7 + 1)])
    exact bodyPost_ret (results_cell_tmp (p := 2) (q := 3) rfl _ _ w.heap.size 39 _ _ _ rfl rfl HR.out Tryz.underlying39 rfl (by kernel_rfl)) rfl
      ⟨rfl, below_setRow (Hb.out.alloc (by omega) _) (Nat.le_refl _) _⟩
end Go.Proofs.YtncolcjejgmhjaaGreatDoor
