/- The walks of CivilDays and CivilOrder. -/
import Derived.Test.YtmimclohhhkjmaaCvS
namespace Go.Proofs.Ytmimclohhhkjmaa
open Go.RowKit

theorem Of_yes {t y m d hh mi ss wd : Int} (h : IsDate t y m d hh mi ss wd) (w : World) :
    Calls Try.prog 9 #[.int .i64 t] w fun e w' => e = .returned (.tuple #[.agg #[.int .i64 y, .int .i64 m, .int .i64 d, .int .i64 hh, .int .i64 mi, .int .i64 ss, .int .i64 wd], .bool true]) ∧ Below w.heap.size w w' := by
  have := Of_any t w
  obtain ⟨e0, e1, e2, e3, e4, e5, e6, e7⟩ := date_eq h
  rw [e0, e1, e2, e3, e4, e5, e6, e7] at this
  exact this
theorem isT_not' {t : Int} (h : isT t = false) : t < 0 ∨ (0 ≤ t ∧ 6311433600 ≤ t) := by
  have : ¬ isT t = true := by rw [h]; simp
  rw [isT_iff] at this; omega
theorem wd_step (n : Int) : (n + 1 + 5) % 7 + 1 = ((n + 5) % 7 + 1) % 7 + 1 := by omega
theorem next_day {t y m d hh mi ss wd : Int} (h : IsDate t y m d hh mi ss wd) (ht : t < 6311347200) :
    (d + 1 ≤ dim y m ∧ IsDate (t + 86400) y m (d + 1) hh mi ss (wd % 7 + 1)) ∨ (d = dim y m ∧ m < 12 ∧ IsDate (t + 86400) y (m + 1) 1 hh mi ss (wd % 7 + 1)) ∨ (d = dim y m ∧ m = 12 ∧ IsDate (t + 86400) (y + 1) 1 1 hh mi ss (wd % 7 + 1)) := by
  obtain ⟨hd, h0, h1, m0, m1, s0, s1, te, we⟩ := h
  have hq := hd
  obtain ⟨y0, y1, a0, a1, d0, d1⟩ := hq
  have key : ∀ y' m' d', IsDay y' m' d' → num y' m' d' = num y m d + 1 → IsDate (t + 86400) y' m' d' hh mi ss (wd % 7 + 1) := by
    intro y' m' d' hd' hn
    exact ⟨hd', h0, h1, m0, m1, s0, s1, by rw [hn]; omega, by rw [hn, we]; exact (wd_step _).symm⟩
  have hs := mst_succ y m a0 a1
  by_cases c1 : d + 1 ≤ dim y m
  · exact .inl ⟨c1, key _ _ _ ⟨y0, y1, a0, a1, by omega, c1⟩ (by unfold num; omega)⟩
  · have c2 : d = dim y m := by omega
    by_cases c3 : m < 12
    · have := (dim_bd y (m + 1) (by omega) (by omega)).1
      exact .inr (.inl ⟨c2, c3, key _ _ _ ⟨y0, y1, by omega, by omega, by omega, by omega⟩ (by unfold num; omega)⟩)
    · have c4 : m = 12 := by omega
      have e13 : mst y (m + 1) = mst y 13 := by rw [c4]; rfl
      have f13 := mst_13 y
      have ys := yst_succ y
      have hnum : num y m d + 1 = yst (y + 1) := by unfold num; omega
      have hlt : y + 1 ≤ 2199 := by
        by_cases e : y = 2199
        · exfalso
          rw [e] at hnum
          have := yst_2200
          rw [show (2199 : Int) + 1 = 2200 from rfl] at hnum
          rw [← e] at hnum
          omega
        · omega
      refine .inr (.inr ⟨c2, c4, key _ _ _ ⟨by omega, hlt, by omega, by omega, by omega, by simp [dim]⟩ ?_⟩)
      unfold num; rw [mst_1]; unfold num at hnum; omega
theorem date_lt {s t y m d hh mi ss wd y' m' d' hh' mi' ss' wd' : Int} (h : IsDate s y m d hh mi ss wd) (h' : IsDate t y' m' d' hh' mi' ss' wd')
    (hl : y < y' ∨ y = y' ∧ (m < m' ∨ m = m' ∧ (d < d' ∨ d = d' ∧ (hh < hh' ∨ hh = hh' ∧ (mi < mi' ∨ mi = mi' ∧ ss < ss'))))) : s < t := by
  obtain ⟨hd, h0, h1, m0, m1, s0, s1, te, _⟩ := h
  obtain ⟨hd', h0', h1', m0', m1', s0', s1', te', _⟩ := h'
  rcases hl with hl | ⟨rfl, hl | ⟨rfl, hl | ⟨rfl, hl⟩⟩⟩
  · have := num_lt hd hd' (.inl hl); omega
  · have := num_lt hd hd' (.inr ⟨rfl, .inl hl⟩); omega
  · have := num_lt hd hd' (.inr ⟨rfl, .inr ⟨rfl, hl⟩⟩); omega
  · omega
theorem date_same {s t y m d hh mi ss wd wd' : Int} (h : IsDate s y m d hh mi ss wd) (h' : IsDate t y m d hh mi ss wd') : s = t := by
  have a := h.t_eq
  have b := h'.t_eq
  omega

set_option maxRecDepth 100000 in
set_option maxHeartbeats 8000000 in
theorem CivilDays_same (t y m d hh mi ss wd : Int) (h : IsDate t y m d hh mi ss wd) (ht : t < 6311347200) (h' : IsDate (t + 86400) y m (d + 1) hh mi ss (wd % 7 + 1)) (hq : d + 1 ≤ dim y m) (w : World) :
    Calls Try.prog 5 #[.int .i64 t] w fun e w' => e = .returned (.bool true) ∧ Below w.heap.size w w' := by
  have H := Lib.hid h
  have H' := Lib.hid h'
  have ht0 := h.bd.1
  have y0 := h.day.y0
  have y1 := h.day.y1
  have m0 := h.day.m0
  have m1 := h.day.m1
  have d0 := h.day.d0
  have d9 : d ≤ 31 := by have := h.day.d1; have := (dim_bd y m m0 m1).2; omega
  have w0 : 0 ≤ wd := by have := h.w_eq; omega
  have w1' : wd ≤ 7 := by have := h.w_eq; omega
  have k1 : decide (d + 1 ≤ dim y m) = true := decide_eq_true hq
  clear h h'
  go_enter Try.func5, Try.ntmps5
  go_wp2_with fail
  refine (shown_any _).mono ?_
  rintro e w1 ⟨rfl, hb1⟩
  have HB1 := Lib.hid (more ((Below.refl w.heap.size w)) (by simp) hb1)
  clear hb1
  go_wp2_with fail
  refine (Of_yes H.out _).mono ?_
  rintro e w2 ⟨rfl, hb2⟩
  have HB2 := Lib.hid (more HB1.out HB1.out.size hb2)
  clear hb2
  go_wp2_with fail
  refine (Of_yes H'.out _).mono ?_
  rintro e w3 ⟨rfl, hb3⟩
  have A3 : Hid (Blk w3 (w2.heap.size) 23 #[.int .i64 y, .int .i64 m, .int .i64 d, .int .i64 hh, .int .i64 mi, .int .i64 ss, .int .i64 wd]) := (Blk.new w2 _ _).below hb3 (by simp)
  have HB3 := Lib.hid (more (HB2.out.alloc HB2.out.size _) (by have := HB2.out.size; simp; omega) hb3)
  clear hb3
  obtain ⟨Ac0, Ac1, Ac2, Ac3, Ac4, Ac5, Ac6⟩ := cells7 A3.out
  have Az := A3.out.lt
  have Af := A3.out.frozen 6
  go_wp2_with fail
  go_quiet ((go_at_call 15; exact Calls.quiet_of_same (quiet_l (Days_any _ _ _))))
  go_wp2_with fail
  go_ret
  exact ⟨rfl, below_drewN (HB3.out.alloc HB3.out.size _) _⟩

set_option maxRecDepth 100000 in
set_option maxHeartbeats 8000000 in
theorem CivilDays_month (t y m d hh mi ss wd : Int) (h : IsDate t y m d hh mi ss wd) (ht : t < 6311347200) (h' : IsDate (t + 86400) y (m + 1) 1 hh mi ss (wd % 7 + 1)) (hq : d = dim y m) (hm : m < 12) (w : World) :
    Calls Try.prog 5 #[.int .i64 t] w fun e w' => e = .returned (.bool true) ∧ Below w.heap.size w w' := by
  have H := Lib.hid h
  have H' := Lib.hid h'
  have ht0 := h.bd.1
  have y0 := h.day.y0
  have y1 := h.day.y1
  have m0 := h.day.m0
  have m1 := h.day.m1
  have d0 := h.day.d0
  have d9 : d ≤ 31 := by have := h.day.d1; have := (dim_bd y m m0 m1).2; omega
  have w0 : 0 ≤ wd := by have := h.w_eq; omega
  have w1' : wd ≤ 7 := by have := h.w_eq; omega
  have k1 : ((1 : Int) == d + 1) = false := by simp; omega
  have k2 : (d != dim y m) = false := by rw [hq]; simp
  clear hq
  clear h h'
  go_enter Try.func5, Try.ntmps5
  go_wp2_with fail
  refine (shown_any _).mono ?_
  rintro e w1 ⟨rfl, hb1⟩
  have HB1 := Lib.hid (more ((Below.refl w.heap.size w)) (by simp) hb1)
  clear hb1
  go_wp2_with fail
  refine (Of_yes H.out _).mono ?_
  rintro e w2 ⟨rfl, hb2⟩
  have HB2 := Lib.hid (more HB1.out HB1.out.size hb2)
  clear hb2
  go_wp2_with fail
  refine (Of_yes H'.out _).mono ?_
  rintro e w3 ⟨rfl, hb3⟩
  have A3 : Hid (Blk w3 (w2.heap.size) 23 #[.int .i64 y, .int .i64 m, .int .i64 d, .int .i64 hh, .int .i64 mi, .int .i64 ss, .int .i64 wd]) := (Blk.new w2 _ _).below hb3 (by simp)
  have HB3 := Lib.hid (more (HB2.out.alloc HB2.out.size _) (by have := HB2.out.size; simp; omega) hb3)
  clear hb3
  obtain ⟨Ac0, Ac1, Ac2, Ac3, Ac4, Ac5, Ac6⟩ := cells7 A3.out
  have Az := A3.out.lt
  have Af := A3.out.frozen 6
  go_wp2_with fail
  go_quiet ((go_at_call 15; exact Calls.quiet_of_same (quiet_l (Days_any _ _ _))))
  go_wp2_with fail
  go_ret
  exact ⟨rfl, below_drewN (HB3.out.alloc HB3.out.size _) _⟩

set_option maxRecDepth 100000 in
set_option maxHeartbeats 8000000 in
theorem CivilDays_year (t y m d hh mi ss wd : Int) (h : IsDate t y m d hh mi ss wd) (ht : t < 6311347200) (h' : IsDate (t + 86400) (y + 1) 1 1 hh mi ss (wd % 7 + 1)) (hq : d = dim y m) (hm : m = 12) (w : World) :
    Calls Try.prog 5 #[.int .i64 t] w fun e w' => e = .returned (.bool true) ∧ Below w.heap.size w w' := by
  have H := Lib.hid h
  have H' := Lib.hid h'
  have ht0 := h.bd.1
  have y0 := h.day.y0
  have y1 := h.day.y1
  have m0 := h.day.m0
  have m1 := h.day.m1
  have d0 := h.day.d0
  have d9 : d ≤ 31 := by have := h.day.d1; have := (dim_bd y m m0 m1).2; omega
  have w0 : 0 ≤ wd := by have := h.w_eq; omega
  have w1' : wd ≤ 7 := by have := h.w_eq; omega
  have k1 : ((1 : Int) == d + 1) = false := by simp; omega
  have k2 : (d != dim y m) = false := by rw [hq]; simp
  have k3 : decide (m < 12) = false := decide_eq_false (by omega)
  have k4 : (m == 12) = true := by simp [hm]
  have K1 := Lib.hid k1
  have K2 := Lib.hid k2
  have K3 := Lib.hid k3
  have K4 := Lib.hid k4
  clear hq hm m0 m1 k1 k2 k3 k4
  clear h h'
  go_enter Try.func5, Try.ntmps5
  go_wp2_with fail
  refine (shown_any _).mono ?_
  rintro e w1 ⟨rfl, hb1⟩
  have HB1 := Lib.hid (more ((Below.refl w.heap.size w)) (by simp) hb1)
  clear hb1
  go_wp2_with fail
  refine (Of_yes H.out _).mono ?_
  rintro e w2 ⟨rfl, hb2⟩
  have HB2 := Lib.hid (more HB1.out HB1.out.size hb2)
  clear hb2
  go_wp2_with fail
  refine (Of_yes H'.out _).mono ?_
  rintro e w3 ⟨rfl, hb3⟩
  have A3 : Hid (Blk w3 (w2.heap.size) 23 #[.int .i64 y, .int .i64 m, .int .i64 d, .int .i64 hh, .int .i64 mi, .int .i64 ss, .int .i64 wd]) := (Blk.new w2 _ _).below hb3 (by simp)
  have HB3 := Lib.hid (more (HB2.out.alloc HB2.out.size _) (by have := HB2.out.size; simp; omega) hb3)
  clear hb3
  obtain ⟨Ac0, Ac1, Ac2, Ac3, Ac4, Ac5, Ac6⟩ := cells7 A3.out
  have Az := A3.out.lt
  have Af := A3.out.frozen 6
  have k1 := K1.out
  have k2 := K2.out
  have k3 := K3.out
  have k4 := K4.out
  go_wp2_with fail
  go_quiet ((go_at_call 15; exact Calls.quiet_of_same (quiet_l (Days_any _ _ _))))
  go_wp2_with fail
  go_ret
  exact ⟨rfl, below_drewN (HB3.out.alloc HB3.out.size _) _⟩

set_option maxHeartbeats 1000000 in
theorem CivilDays_walk (t : Int) (w : World) :
    Calls Try.prog 5 #[.int .i64 t] w fun e w' => e = .returned (.bool true) ∧ Below w.heap.size w w' := by
  by_cases h0 : t < 0
  · go_enter Try.func5, Try.ntmps5
    go_wp2_with fail
    refine (shown_any _).mono ?_
    rintro e w1 ⟨rfl, hb1⟩
    go_wp2_with fail
    go_ret
    exact ⟨rfl, hb1⟩
  by_cases h1 : 6311347200 ≤ t
  · go_enter Try.func5, Try.ntmps5
    go_wp2_with fail
    refine (shown_any _).mono ?_
    rintro e w1 ⟨rfl, hb1⟩
    go_wp2_with fail
    go_ret
    exact ⟨rfl, hb1⟩
  have h := date_of ((isT_iff t).2 ⟨by omega, by omega⟩)
  rcases next_day h (by omega) with ⟨a, b⟩ | ⟨a, c, b⟩ | ⟨a, c, b⟩
  · exact CivilDays_same t _ _ _ _ _ _ _ h (by omega) b a w
  · exact CivilDays_month t _ _ _ _ _ _ _ h (by omega) b a c w
  · exact CivilDays_year t _ _ _ _ _ _ _ h (by omega) b a c w

set_option maxHeartbeats 8000000 in
theorem CivilOrder_yes (s t y m d hh mi ss wd y' m' d' hh' mi' ss' wd' : Int) (h : IsDate s y m d hh mi ss wd) (h' : IsDate t y' m' d' hh' mi' ss' wd') (w : World) :
    Calls Try.prog 6 #[.int .i64 s, .int .i64 t] w fun e w' => e = .returned (.bool true) ∧ Below w.heap.size w w' := by
  have H := Lib.hid h
  have H' := Lib.hid h'
  clear h h'
  go_enter Try.func6, Try.ntmps6
  go_wp2_with fail
  refine (shown_any _).mono ?_
  rintro e w1 ⟨rfl, hb1⟩
  have HB1 := Lib.hid (more ((Below.refl w.heap.size w)) (by simp) hb1)
  clear hb1
  go_wp2_with fail
  refine (Of_yes H.out _).mono ?_
  rintro e w2 ⟨rfl, hb2⟩
  have HB2 := Lib.hid (more HB1.out HB1.out.size hb2)
  clear hb2
  go_wp2_with fail
  refine (Of_yes H'.out _).mono ?_
  rintro e w3 ⟨rfl, hb3⟩
  have A3 : Hid (Blk w3 (w2.heap.size) 23 #[.int .i64 y, .int .i64 m, .int .i64 d, .int .i64 hh, .int .i64 mi, .int .i64 ss, .int .i64 wd]) := (Blk.new w2 _ _).below hb3 (by simp)
  have HB3 := Lib.hid (more (HB2.out.alloc HB2.out.size _) (by have := HB2.out.size; simp; omega) hb3)
  clear hb3
  obtain ⟨Ac0, Ac1, Ac2, Ac3, Ac4, Ac5, Ac6⟩ := cells7 A3.out
  have Az := A3.out.lt
  have Af := A3.out.frozen 6
  go_wp2_with fail
  go_loopw [58] (fun i wr => ∃ k : Int, 0 ≤ k ∧ k ≤ 6 ∧ Hid ((1 ≤ k → y = y') ∧ (2 ≤ k → m = m') ∧ (3 ≤ k → d = d') ∧ (4 ≤ k → hh = hh') ∧ (5 ≤ k → mi = mi') ∧ (6 ≤ k → ss = ss')) ∧ ∃ n : Nat, i = .int .i64 k ∧ wr = (((w3.alloc (.cells #[.int .i64 y', .int .i64 m', .int .i64 d', .int .i64 hh', .int .i64 mi', .int .i64 ss', .int .i64 wd'] 23)).alloc (.cells #[.int .i64 y, .int .i64 m, .int .i64 d, .int .i64 hh, .int .i64 mi, .int .i64 ss] 3)).alloc (.cells #[.int .i64 y', .int .i64 m', .int .i64 d', .int .i64 hh', .int .i64 mi', .int .i64 ss'] 3)).drewN n) (fun i wr => (6 - intOf i).toNat)
  case atStart => exact ⟨0, by omega, by omega, ⟨fun h => absurd h (by omega), fun h => absurd h (by omega), fun h => absurd h (by omega), fun h => absurd h (by omega), fun h => absurd h (by omega), fun h => absurd h (by omega)⟩, 0, rfl, rfl⟩
  case round =>
    obtain ⟨k, hk0, hk1, heq, n, rfl, rfl⟩ := hrel
    by_cases h6 : k = 6
    · have hst : (s == t) = true := by
        obtain ⟨e0, e1, e2, e3, e4, e5⟩ := heq.out
        have a0 := e0 (by omega)
        have a1 := e1 (by omega)
        have a2 := e2 (by omega)
        have a3 := e3 (by omega)
        have a4 := e4 (by omega)
        have a5 := e5 (by omega)
        have hh := H'.out
        rw [← a0, ← a1, ← a2, ← a3, ← a4, ← a5] at hh
        simpa using date_same H.out hh
      subst h6
      clear heq
      go_wp2_with fail
      go_ret
      exact ⟨rfl, below_drewN (((HB3.out.alloc HB3.out.size _).alloc (by have := HB3.out.size; simp; omega) _).alloc (by have := HB3.out.size; simp; omega) _) _⟩
    · have hk : k = 0 ∨ k = 1 ∨ k = 2 ∨ k = 3 ∨ k = 4 ∨ k = 5 := by omega
      clear h6
      rcases hk with hk | hk | hk | hk | hk | hk
      · subst hk
        rcases Int.lt_trichotomy y y' with hx | hx | hx
        · have hst := date_lt H.out H'.out (.inl hx)
          have b1 : (y != y') = true := by simp; omega
          have b2 : decide (y < y') = true := decide_eq_true hx
          have b3 : decide (s < t) = true := decide_eq_true hst
          clear heq hx hst
          go_wp2_with fail
          go_quiet (fail)
          go_wp2_with fail
          go_quiet (fail)
          go_wp2_with fail
          go_ret
          exact ⟨rfl, below_drewN (below_drewN (below_drewN (((HB3.out.alloc HB3.out.size _).alloc (by have := HB3.out.size; simp; omega) _).alloc (by have := HB3.out.size; simp; omega) _) _) _) _⟩
        · have b1 : (y != y') = false := by simp [hx]
          have HE1 : Hid ((1 ≤ (1 : Int) → y = y') ∧ (2 ≤ (1 : Int) → m = m') ∧ (3 ≤ (1 : Int) → d = d') ∧ (4 ≤ (1 : Int) → hh = hh') ∧ (5 ≤ (1 : Int) → mi = mi') ∧ (6 ≤ (1 : Int) → ss = ss')) := ⟨fun _ => hx, fun h => absurd h (by omega), fun h => absurd h (by omega), fun h => absurd h (by omega), fun h => absurd h (by omega), fun h => absurd h (by omega)⟩
          clear heq hx
          go_wp2_with fail
          go_quiet (fail)
          go_wp2_with fail
          go_roundw
          case rel => exact ⟨1, by omega, by omega, HE1, _, rfl, rfl⟩
          case measure => simp [intOf]
        · have hst := date_lt H'.out H.out (.inl hx)
          have b1 : (y != y') = true := by simp; omega
          have b2 : decide (y < y') = false := decide_eq_false (by omega)
          have b3 : decide (s < t) = false := decide_eq_false (by omega)
          clear heq hx hst
          go_wp2_with fail
          go_quiet (fail)
          go_wp2_with fail
          go_quiet (fail)
          go_wp2_with fail
          go_ret
          exact ⟨rfl, below_drewN (below_drewN (below_drewN (((HB3.out.alloc HB3.out.size _).alloc (by have := HB3.out.size; simp; omega) _).alloc (by have := HB3.out.size; simp; omega) _) _) _) _⟩
      · subst hk
        have e0 : y = y' := heq.out.1 (by omega)
        rcases Int.lt_trichotomy m m' with hx | hx | hx
        · have hst := date_lt H.out H'.out (.inr ⟨e0, .inl hx⟩)
          have b1 : (m != m') = true := by simp; omega
          have b2 : decide (m < m') = true := decide_eq_true hx
          have b3 : decide (s < t) = true := decide_eq_true hst
          clear heq hx hst e0
          go_wp2_with fail
          go_quiet (fail)
          go_wp2_with fail
          go_quiet (fail)
          go_wp2_with fail
          go_ret
          exact ⟨rfl, below_drewN (below_drewN (below_drewN (((HB3.out.alloc HB3.out.size _).alloc (by have := HB3.out.size; simp; omega) _).alloc (by have := HB3.out.size; simp; omega) _) _) _) _⟩
        · have b1 : (m != m') = false := by simp [hx]
          have HE1 : Hid ((1 ≤ (2 : Int) → y = y') ∧ (2 ≤ (2 : Int) → m = m') ∧ (3 ≤ (2 : Int) → d = d') ∧ (4 ≤ (2 : Int) → hh = hh') ∧ (5 ≤ (2 : Int) → mi = mi') ∧ (6 ≤ (2 : Int) → ss = ss')) := ⟨fun _ => e0, fun _ => hx, fun h => absurd h (by omega), fun h => absurd h (by omega), fun h => absurd h (by omega), fun h => absurd h (by omega)⟩
          clear heq hx e0
          go_wp2_with fail
          go_quiet (fail)
          go_wp2_with fail
          go_roundw
          case rel => exact ⟨2, by omega, by omega, HE1, _, rfl, rfl⟩
          case measure => simp [intOf]
        · have hst := date_lt H'.out H.out (.inr ⟨e0.symm, .inl hx⟩)
          have b1 : (m != m') = true := by simp; omega
          have b2 : decide (m < m') = false := decide_eq_false (by omega)
          have b3 : decide (s < t) = false := decide_eq_false (by omega)
          clear heq hx hst e0
          go_wp2_with fail
          go_quiet (fail)
          go_wp2_with fail
          go_quiet (fail)
          go_wp2_with fail
          go_ret
          exact ⟨rfl, below_drewN (below_drewN (below_drewN (((HB3.out.alloc HB3.out.size _).alloc (by have := HB3.out.size; simp; omega) _).alloc (by have := HB3.out.size; simp; omega) _) _) _) _⟩
      · subst hk
        have e0 : y = y' := heq.out.1 (by omega)
        have e1 : m = m' := heq.out.2.1 (by omega)
        rcases Int.lt_trichotomy d d' with hx | hx | hx
        · have hst := date_lt H.out H'.out (.inr ⟨e0, .inr ⟨e1, .inl hx⟩⟩)
          have b1 : (d != d') = true := by simp; omega
          have b2 : decide (d < d') = true := decide_eq_true hx
          have b3 : decide (s < t) = true := decide_eq_true hst
          clear heq hx hst e0 e1
          go_wp2_with fail
          go_quiet (fail)
          go_wp2_with fail
          go_quiet (fail)
          go_wp2_with fail
          go_ret
          exact ⟨rfl, below_drewN (below_drewN (below_drewN (((HB3.out.alloc HB3.out.size _).alloc (by have := HB3.out.size; simp; omega) _).alloc (by have := HB3.out.size; simp; omega) _) _) _) _⟩
        · have b1 : (d != d') = false := by simp [hx]
          have HE1 : Hid ((1 ≤ (3 : Int) → y = y') ∧ (2 ≤ (3 : Int) → m = m') ∧ (3 ≤ (3 : Int) → d = d') ∧ (4 ≤ (3 : Int) → hh = hh') ∧ (5 ≤ (3 : Int) → mi = mi') ∧ (6 ≤ (3 : Int) → ss = ss')) := ⟨fun _ => e0, fun _ => e1, fun _ => hx, fun h => absurd h (by omega), fun h => absurd h (by omega), fun h => absurd h (by omega)⟩
          clear heq hx e0 e1
          go_wp2_with fail
          go_quiet (fail)
          go_wp2_with fail
          go_roundw
          case rel => exact ⟨3, by omega, by omega, HE1, _, rfl, rfl⟩
          case measure => simp [intOf]
        · have hst := date_lt H'.out H.out (.inr ⟨e0.symm, .inr ⟨e1.symm, .inl hx⟩⟩)
          have b1 : (d != d') = true := by simp; omega
          have b2 : decide (d < d') = false := decide_eq_false (by omega)
          have b3 : decide (s < t) = false := decide_eq_false (by omega)
          clear heq hx hst e0 e1
          go_wp2_with fail
          go_quiet (fail)
          go_wp2_with fail
          go_quiet (fail)
          go_wp2_with fail
          go_ret
          exact ⟨rfl, below_drewN (below_drewN (below_drewN (((HB3.out.alloc HB3.out.size _).alloc (by have := HB3.out.size; simp; omega) _).alloc (by have := HB3.out.size; simp; omega) _) _) _) _⟩
      · subst hk
        have e0 : y = y' := heq.out.1 (by omega)
        have e1 : m = m' := heq.out.2.1 (by omega)
        have e2 : d = d' := heq.out.2.2.1 (by omega)
        rcases Int.lt_trichotomy hh hh' with hx | hx | hx
        · have hst := date_lt H.out H'.out (.inr ⟨e0, .inr ⟨e1, .inr ⟨e2, .inl hx⟩⟩⟩)
          have b1 : (hh != hh') = true := by simp; omega
          have b2 : decide (hh < hh') = true := decide_eq_true hx
          have b3 : decide (s < t) = true := decide_eq_true hst
          clear heq hx hst e0 e1 e2
          go_wp2_with fail
          go_quiet (fail)
          go_wp2_with fail
          go_quiet (fail)
          go_wp2_with fail
          go_ret
          exact ⟨rfl, below_drewN (below_drewN (below_drewN (((HB3.out.alloc HB3.out.size _).alloc (by have := HB3.out.size; simp; omega) _).alloc (by have := HB3.out.size; simp; omega) _) _) _) _⟩
        · have b1 : (hh != hh') = false := by simp [hx]
          have HE1 : Hid ((1 ≤ (4 : Int) → y = y') ∧ (2 ≤ (4 : Int) → m = m') ∧ (3 ≤ (4 : Int) → d = d') ∧ (4 ≤ (4 : Int) → hh = hh') ∧ (5 ≤ (4 : Int) → mi = mi') ∧ (6 ≤ (4 : Int) → ss = ss')) := ⟨fun _ => e0, fun _ => e1, fun _ => e2, fun _ => hx, fun h => absurd h (by omega), fun h => absurd h (by omega)⟩
          clear heq hx e0 e1 e2
          go_wp2_with fail
          go_quiet (fail)
          go_wp2_with fail
          go_roundw
          case rel => exact ⟨4, by omega, by omega, HE1, _, rfl, rfl⟩
          case measure => simp [intOf]
        · have hst := date_lt H'.out H.out (.inr ⟨e0.symm, .inr ⟨e1.symm, .inr ⟨e2.symm, .inl hx⟩⟩⟩)
          have b1 : (hh != hh') = true := by simp; omega
          have b2 : decide (hh < hh') = false := decide_eq_false (by omega)
          have b3 : decide (s < t) = false := decide_eq_false (by omega)
          clear heq hx hst e0 e1 e2
          go_wp2_with fail
          go_quiet (fail)
          go_wp2_with fail
          go_quiet (fail)
          go_wp2_with fail
          go_ret
          exact ⟨rfl, below_drewN (below_drewN (below_drewN (((HB3.out.alloc HB3.out.size _).alloc (by have := HB3.out.size; simp; omega) _).alloc (by have := HB3.out.size; simp; omega) _) _) _) _⟩
      · subst hk
        have e0 : y = y' := heq.out.1 (by omega)
        have e1 : m = m' := heq.out.2.1 (by omega)
        have e2 : d = d' := heq.out.2.2.1 (by omega)
        have e3 : hh = hh' := heq.out.2.2.2.1 (by omega)
        rcases Int.lt_trichotomy mi mi' with hx | hx | hx
        · have hst := date_lt H.out H'.out (.inr ⟨e0, .inr ⟨e1, .inr ⟨e2, .inr ⟨e3, .inl hx⟩⟩⟩⟩)
          have b1 : (mi != mi') = true := by simp; omega
          have b2 : decide (mi < mi') = true := decide_eq_true hx
          have b3 : decide (s < t) = true := decide_eq_true hst
          clear heq hx hst e0 e1 e2 e3
          go_wp2_with fail
          go_quiet (fail)
          go_wp2_with fail
          go_quiet (fail)
          go_wp2_with fail
          go_ret
          exact ⟨rfl, below_drewN (below_drewN (below_drewN (((HB3.out.alloc HB3.out.size _).alloc (by have := HB3.out.size; simp; omega) _).alloc (by have := HB3.out.size; simp; omega) _) _) _) _⟩
        · have b1 : (mi != mi') = false := by simp [hx]
          have HE1 : Hid ((1 ≤ (5 : Int) → y = y') ∧ (2 ≤ (5 : Int) → m = m') ∧ (3 ≤ (5 : Int) → d = d') ∧ (4 ≤ (5 : Int) → hh = hh') ∧ (5 ≤ (5 : Int) → mi = mi') ∧ (6 ≤ (5 : Int) → ss = ss')) := ⟨fun _ => e0, fun _ => e1, fun _ => e2, fun _ => e3, fun _ => hx, fun h => absurd h (by omega)⟩
          clear heq hx e0 e1 e2 e3
          go_wp2_with fail
          go_quiet (fail)
          go_wp2_with fail
          go_roundw
          case rel => exact ⟨5, by omega, by omega, HE1, _, rfl, rfl⟩
          case measure => simp [intOf]
        · have hst := date_lt H'.out H.out (.inr ⟨e0.symm, .inr ⟨e1.symm, .inr ⟨e2.symm, .inr ⟨e3.symm, .inl hx⟩⟩⟩⟩)
          have b1 : (mi != mi') = true := by simp; omega
          have b2 : decide (mi < mi') = false := decide_eq_false (by omega)
          have b3 : decide (s < t) = false := decide_eq_false (by omega)
          clear heq hx hst e0 e1 e2 e3
          go_wp2_with fail
          go_quiet (fail)
          go_wp2_with fail
          go_quiet (fail)
          go_wp2_with fail
          go_ret
          exact ⟨rfl, below_drewN (below_drewN (below_drewN (((HB3.out.alloc HB3.out.size _).alloc (by have := HB3.out.size; simp; omega) _).alloc (by have := HB3.out.size; simp; omega) _) _) _) _⟩
      · subst hk
        have e0 : y = y' := heq.out.1 (by omega)
        have e1 : m = m' := heq.out.2.1 (by omega)
        have e2 : d = d' := heq.out.2.2.1 (by omega)
        have e3 : hh = hh' := heq.out.2.2.2.1 (by omega)
        have e4 : mi = mi' := heq.out.2.2.2.2.1 (by omega)
        rcases Int.lt_trichotomy ss ss' with hx | hx | hx
        · have hst := date_lt H.out H'.out (.inr ⟨e0, .inr ⟨e1, .inr ⟨e2, .inr ⟨e3, .inr ⟨e4, hx⟩⟩⟩⟩⟩)
          have b1 : (ss != ss') = true := by simp; omega
          have b2 : decide (ss < ss') = true := decide_eq_true hx
          have b3 : decide (s < t) = true := decide_eq_true hst
          clear heq hx hst e0 e1 e2 e3 e4
          go_wp2_with fail
          go_quiet (fail)
          go_wp2_with fail
          go_quiet (fail)
          go_wp2_with fail
          go_ret
          exact ⟨rfl, below_drewN (below_drewN (below_drewN (((HB3.out.alloc HB3.out.size _).alloc (by have := HB3.out.size; simp; omega) _).alloc (by have := HB3.out.size; simp; omega) _) _) _) _⟩
        · have b1 : (ss != ss') = false := by simp [hx]
          have HE1 : Hid ((1 ≤ (6 : Int) → y = y') ∧ (2 ≤ (6 : Int) → m = m') ∧ (3 ≤ (6 : Int) → d = d') ∧ (4 ≤ (6 : Int) → hh = hh') ∧ (5 ≤ (6 : Int) → mi = mi') ∧ (6 ≤ (6 : Int) → ss = ss')) := ⟨fun _ => e0, fun _ => e1, fun _ => e2, fun _ => e3, fun _ => e4, fun _ => hx⟩
          clear heq hx e0 e1 e2 e3 e4
          go_wp2_with fail
          go_quiet (fail)
          go_wp2_with fail
          go_roundw
          case rel => exact ⟨6, by omega, by omega, HE1, _, rfl, rfl⟩
          case measure => simp [intOf]
        · have hst := date_lt H'.out H.out (.inr ⟨e0.symm, .inr ⟨e1.symm, .inr ⟨e2.symm, .inr ⟨e3.symm, .inr ⟨e4.symm, hx⟩⟩⟩⟩⟩)
          have b1 : (ss != ss') = true := by simp; omega
          have b2 : decide (ss < ss') = false := decide_eq_false (by omega)
          have b3 : decide (s < t) = false := decide_eq_false (by omega)
          clear heq hx hst e0 e1 e2 e3 e4
          go_wp2_with fail
          go_quiet (fail)
          go_wp2_with fail
          go_quiet (fail)
          go_wp2_with fail
          go_ret
          exact ⟨rfl, below_drewN (below_drewN (below_drewN (((HB3.out.alloc HB3.out.size _).alloc (by have := HB3.out.size; simp; omega) _).alloc (by have := HB3.out.size; simp; omega) _) _) _) _⟩

set_option maxHeartbeats 2000000 in
theorem CivilOrder_walk (s t : Int) (w : World) :
    Calls Try.prog 6 #[.int .i64 s, .int .i64 t] w fun e w' => e = .returned (.bool true) ∧ Below w.heap.size w w' := by
  rcases hs : isT s with _ | _
  · have HS := Lib.hid hs
    clear hs
    go_enter Try.func6, Try.ntmps6
    go_wp2_with fail
    refine (shown_any _).mono ?_
    rintro e w1 ⟨rfl, hb1⟩
    have HB1 := Lib.hid hb1
    clear hb1
    go_wp2_with fail
    refine (Of_any s _).mono ?_
    rintro e w2 ⟨rfl, hb2⟩
    rw [HS.out]
    have HB2 := Lib.hid (more HB1.out HB1.out.size hb2)
    clear hb2
    go_wp2_with fail
    refine (Of_any t _).mono ?_
    rintro e w3 ⟨rfl, hb3⟩
    have HB3 := Lib.hid (more (HB2.out.alloc HB2.out.size _) (by have := HB2.out.size; simp; omega) hb3)
    clear hb3
    go_wp2_with fail
    go_ret
    exact ⟨rfl, HB3.out.alloc HB3.out.size _⟩
  · rcases ht : isT t with _ | _
    · have HS := Lib.hid hs
      have HT := Lib.hid ht
      clear hs ht
      go_enter Try.func6, Try.ntmps6
      go_wp2_with fail
      refine (shown_any _).mono ?_
      rintro e w1 ⟨rfl, hb1⟩
      have HB1 := Lib.hid hb1
      clear hb1
      go_wp2_with fail
      refine (Of_any s _).mono ?_
      rintro e w2 ⟨rfl, hb2⟩
      rw [HS.out]
      have HB2 := Lib.hid (more HB1.out HB1.out.size hb2)
      clear hb2
      go_wp2_with fail
      refine (Of_any t _).mono ?_
      rintro e w3 ⟨rfl, hb3⟩
      rw [HT.out]
      have HB3 := Lib.hid (more (HB2.out.alloc HB2.out.size _) (by have := HB2.out.size; simp; omega) hb3)
      clear hb3
      go_wp2_with fail
      go_ret
      exact ⟨rfl, HB3.out.alloc HB3.out.size _⟩
    · exact CivilOrder_yes s t _ _ _ _ _ _ _ _ _ _ _ _ _ _ (date_of hs) (date_of ht) w
end Go.Proofs.Ytmimclohhhkjmaa
