/- The walk of the document's Of. -/
import Derived.Test.YtmimclohhhkjmaaCvK
import Derived.Test.YtmimclohhhkjmaaCvM
namespace Go.Proofs.Ytmimclohhhkjmaa
open Go.RowKit

theorem ret_date {a b c d e f g a' b' c' d' e' f' g' : Int} {r : Bool} (h : a = a' ∧ b = b' ∧ c = c' ∧ d = d' ∧ e = e' ∧ f = f' ∧ g = g') :
    Ending.returned (.tuple #[.agg #[.int .i64 a, .int .i64 b, .int .i64 c, .int .i64 d, .int .i64 e, .int .i64 f, .int .i64 g], .bool r]) = .returned (.tuple #[.agg #[.int .i64 a', .int .i64 b', .int .i64 c', .int .i64 d', .int .i64 e', .int .i64 f', .int .i64 g'], .bool r]) := by
  obtain ⟨rfl, rfl, rfl, rfl, rfl, rfl, rfl⟩ := h; rfl

set_option maxHeartbeats 2000000 in
theorem rOf_no (t : Int) (hb : t < 0 ∨ 6311433600 ≤ t) (w : World) :
    Calls Try.prog 10 #[.int .i64 t] w fun e w' => e = .returned (.tuple #[.agg #[.int .i64 0, .int .i64 0, .int .i64 0, .int .i64 0, .int .i64 0, .int .i64 0, .int .i64 0], .bool false]) ∧ Below w.heap.size w w' := by
  rcases hb with hb | hb
  · go_enter Try.func10, Try.ntmps10
    go_wp2_with fail
    exact bodyPost_ret (v := .tuple #[.agg #[.int .i64 0, .int .i64 0, .int .i64 0, .int .i64 0, .int .i64 0, .int .i64 0, .int .i64 0], .bool false]) (by simp [results, Try.results10, go_sem]) rfl ⟨rfl, (Below.refl _ _).alloc (Nat.le_refl _) _⟩
  · have hb0 : ¬ t < 0 := by omega
    go_enter Try.func10, Try.ntmps10
    go_wp2_with fail
    exact bodyPost_ret (v := .tuple #[.agg #[.int .i64 0, .int .i64 0, .int .i64 0, .int .i64 0, .int .i64 0, .int .i64 0, .int .i64 0], .bool false]) (by simp [results, Try.results10, go_sem]) rfl ⟨rfl, (Below.refl _ _).alloc (Nat.le_refl _) _⟩

set_option maxHeartbeats 4000000 in
theorem rOf_yes (t y m d hh mi ss wd : Int) (h : IsDate t y m d hh mi ss wd) (w : World) :
    Calls Try.prog 10 #[.int .i64 t] w fun e w' => e = .returned (.tuple #[.agg #[.int .i64 y, .int .i64 m, .int .i64 d, .int .i64 hh, .int .i64 mi, .int .i64 ss, .int .i64 wd], .bool true]) ∧ Below w.heap.size w w' := by
  have hd := h.day
  have hb := h.bd
  obtain ⟨hb0, hb1⟩ := hb
  have hn : num y m d = t / 86400 := by have := h.t_eq; have := h.h0; have := h.h1; have := h.m0; have := h.m1; have := h.s0; have := h.s1; omega
  have E : Hid (t % 86400 / 3600 = hh ∧ t % 86400 / 60 % 60 = mi ∧ t % 60 = ss ∧ (t / 86400 + 5) % 7 + 1 = wd) := by
    have := h.t_eq; have := h.h0; have := h.h1; have := h.m0; have := h.m1; have := h.s0; have := h.s1; have := h.w_eq
    exact ⟨by omega, by omega, by omega, by omega⟩
  clear h
  have hy := num_in_year hd
  rw [hn] at hy
  obtain ⟨hy0, hy1⟩ := hy
  obtain ⟨y0, y1, m0, m1, d0, d1⟩ := hd
  have HN := Lib.hid (show t / 86400 = yst y + mst y m + d - 1 by rw [← hn]; rfl)
  clear hn
  go_enter Try.func10, Try.ntmps10
  go_wp2_with fail
  go_loopw [4] (fun r wr => ∃ k : Int, 2000 ≤ k ∧ k ≤ y ∧ r = .int .i64 (t / 86400 - yst k) ∧ wr = (w.alloc (.cells #[.int .i64 0, .int .i64 0, .int .i64 0, .int .i64 0, .int .i64 0, .int .i64 0, .int .i64 0] 23)).alloc (.cells #[.int .i64 k, .int .i64 1, .int .i64 0, .int .i64 (t % 86400 / 3600), .int .i64 (t % 86400 / 60 % 60), .int .i64 (t % 60), .int .i64 ((t / 86400 + 5) % 7 + 1)] 23)) (fun r wr => (intOf r).toNat)
  case atStart => exact ⟨2000, by omega, by omega, by rw [yst_2000]; go_num, rfl⟩
  case round =>
    obtain ⟨k, hk0, hk1, rfl, rfl⟩ := hrel
    have hyk := yst_le (a := 2000) (b := k) hk0
    rw [yst_2000] at hyk
    have hyk2 : yst k ≤ t / 86400 := by have := yst_le (a := k) (b := y) hk1; omega
    by_cases hlt : k < y
    · have hsl := yst_lt hlt
      have hs := yst_succ k
      have HS := Lib.hid hs
      rcases hl : leapB k with _ | _
      all_goals
        have hp : lp k = if leapB k = true then 1 else 0 := rfl
        rw [hl] at hp
        simp only [if_true, if_false, Bool.false_eq_true] at hp
        have HP := Lib.hid hp
        have HL := Lib.hid hl
      · have g1 : 365 ≤ t / 86400 - yst k := by omega
        clear hl hs hsl hp
        go_wp2_with fail
        refine (rLeap_any k _).mono ?_
        rintro e w1 ⟨rfl, rfl⟩
        rw [HL.out]
        go_wp2_with fail
        go_roundw
        case rel => exact ⟨k + 1, by omega, by omega, by rw [HS.out, HP.out]; go_num, rfl⟩
        case measure => simp [intOf]; omega
      · have g1 : 366 ≤ t / 86400 - yst k := by omega
        clear hl hs hsl hp
        go_wp2_with fail
        refine (rLeap_any k _).mono ?_
        rintro e w1 ⟨rfl, rfl⟩
        rw [HL.out]
        go_wp2_with fail
        go_roundw
        case rel => exact ⟨k + 1, by omega, by omega, by rw [HS.out, HP.out]; go_num, rfl⟩
        case measure => simp [intOf]; omega
    · obtain rfl : k = y := by omega
      have hs := yst_succ k
      rcases hl : leapB k with _ | _
      all_goals
        have hp : lp k = if leapB k = true then 1 else 0 := rfl
        rw [hl] at hp
        simp only [if_true, if_false, Bool.false_eq_true] at hp
        have HL := Lib.hid hl
        have g0 : t / 86400 - yst k < 366 := by omega
        first
          | (have g1 : t / 86400 - yst k < 365 := by omega
             have dq : decide (t / 86400 - yst k < 365) = true := by simpa using g1)
          | (have dq : decide (t / 86400 - yst k < 366) = true := by simpa using g0)
        clear hl hs hp
        go_wp2_with fail
        refine (rLeap_any k _).mono ?_
        rintro e w1 ⟨rfl, rfl⟩
        rw [HL.out]
        go_wp2_with fail
        go_loopw [4] (fun r wr => ∃ j : Int, 1 ≤ j ∧ j ≤ m ∧ r = .int .i64 (t / 86400 - yst k - mst k j) ∧ wr = (w.alloc (.cells #[.int .i64 0, .int .i64 0, .int .i64 0, .int .i64 0, .int .i64 0, .int .i64 0, .int .i64 0] 23)).alloc (.cells #[.int .i64 k, .int .i64 j, .int .i64 0, .int .i64 (t % 86400 / 3600), .int .i64 (t % 86400 / 60 % 60), .int .i64 (t % 60), .int .i64 ((t / 86400 + 5) % 7 + 1)] 23)) (fun r wr => (intOf r).toNat)
        case atStart => exact ⟨1, by omega, by omega, by rw [mst_1]; go_num, rfl⟩
        case round =>
          obtain ⟨j, hj0, hj1, rfl, rfl⟩ := hrel
          have hj12 : j ≤ 12 := by omega
          have hs := mst_succ k j hj0 hj12
          have hm0 := mst_bd k j hj0 (by omega)
          have hdb := dim_bd k j hj0 hj12
          have HS := Lib.hid hs
          by_cases hlt2 : j < m
          · have hmo := mst_mono k hj0 (b := m) (by omega) hlt2
            have hN := HN.out
            have q1 : dim k j ≤ t / 86400 - yst k - mst k j := by omega
            clear hN hs hmo
            go_wp2_with fail
            refine (rDays_any k j _).mono ?_
            rintro e w1 ⟨rfl, rfl⟩
            go_wp2_with fail
            refine (rDays_any k j _).mono ?_
            rintro e w1 ⟨rfl, rfl⟩
            go_wp2_with fail
            go_roundw
            case rel => exact ⟨j + 1, by omega, by omega, by rw [HS.out]; go_num, rfl⟩
            case measure => simp [intOf]; omega
          · have hjm : j = m := by omega
            clear hs
            subst hjm
            have hN := HN.out
            have q1 : t / 86400 - yst k - mst k j < dim k j := by omega
            have q2 : t / 86400 - yst k - mst k j = d - 1 := by omega
            have Q2 := Lib.hid q2
            clear hN q2 hlt2
            go_wp2_with fail
            refine (rDays_any k j _).mono ?_
            rintro e w1 ⟨rfl, rfl⟩
            go_wp2_with fail
            exact bodyPost_ret (v := .tuple #[.agg #[.int .i64 k, .int .i64 j, .int .i64 (t / 86400 - yst k - mst k j + 1), .int .i64 (t % 86400 / 3600), .int .i64 (t % 86400 / 60 % 60), .int .i64 (t % 60), .int .i64 ((t / 86400 + 5) % 7 + 1)], .bool true]) (by simp [results, Try.results10, go_sem]) rfl
              ⟨ret_date ⟨rfl, rfl, by have := Q2.out; omega, E.out.1, E.out.2.1, E.out.2.2.1, E.out.2.2.2⟩, (Below.refl _ _).alloc (Nat.le_refl _) _ |>.alloc (by simp) _⟩
theorem rOf_any (t : Int) (w : World) :
    Calls Try.prog 10 #[.int .i64 t] w fun e w' => e = .returned (.tuple #[.agg #[.int .i64 (fY t), .int .i64 (fM t), .int .i64 (fD t), .int .i64 (fH t), .int .i64 (fI t), .int .i64 (fS t), .int .i64 (fW t)], .bool (isT t)]) ∧ Below w.heap.size w w' := by
  rcases ht : isT t with _ | _
  · obtain ⟨e1, e2, e3, e4, e5, e6, e7⟩ := date_no ht
    have hb : t < 0 ∨ 6311433600 ≤ t := by
      have : ¬ isT t = true := by rw [ht]; simp
      rw [isT_iff] at this; omega
    rw [e1, e2, e3, e4, e5, e6, e7]
    exact rOf_no t hb w
  · exact rOf_yes t _ _ _ _ _ _ _ (date_of ht) w
end Go.Proofs.Ytmimclohhhkjmaa
