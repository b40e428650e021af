/- The document's own Digit, Dec. The walk of the document's Of. The walks of the document's dayName, pad, partText. The walk of the document's Print. The walks of the document's number, points, weekday. The walk of the document's numbers: an array of 2200 marks. The walk of the document's Match. -/
import Derived.Test.YtnbdcjohibfjaaaGreatDoorSpK
import Derived.Test.YtnbdcjohibfjaaaGreatDoorCvK
import Derived.Test.YtnbdcjohibfjaaaGreatDoorCvM
import Derived.Test.YtnbdcjohibfjaaaGreatDoorClC
import Derived.Test.YtnbdcjohibfjaaaGreatDoorClS
import Derived.Deep.OwnRows
import Derived.Deep.DeepCutAuto
import Derived.Deep.CutBlock
import Derived.Deep.LoopGhost
namespace Go.Proofs.YtnbdcjohibfjaaaGreatDoor
open Go.RowKit

theorem Digit_any (c : UInt8) (w : World) :
    Calls Tryz.prog 102 #[.int .u8 c.toNat] w fun e w' => e = .returned (.bool (isDig c)) ∧ w = w' := by
  have hr := c.toNat_lt
  by_cases h1 : c.toNat < 48
  · have HD := Lib.hid (show isDig c = false by unfold isDig; simp; omega)
    have h1' : (c.toNat : Int) < 48 := by omega
    go_enter Tryz.func102, Tryz.ntmps102
    go_wp2
    go_ret
    exact ⟨ret_bool HD.out.symm, rfl⟩
  · have h1' : (48 : Int) ≤ (c.toNat : Int) := by omega
    by_cases h2 : c.toNat ≤ 57
    · have HD := Lib.hid (show isDig c = true by unfold isDig; simp; omega)
      have h2' : (c.toNat : Int) ≤ 57 := by omega
      clear h1
      go_enter Tryz.func102, Tryz.ntmps102
      go_wp2
      go_ret
      exact ⟨ret_bool HD.out.symm, rfl⟩
    · have HD := Lib.hid (show isDig c = false by unfold isDig; simp; omega)
      have h2' : (57 : Int) < (c.toNat : Int) := by omega
      clear h1 h2
      go_enter Tryz.func102, Tryz.ntmps102
      go_wp2
      go_ret
      exact ⟨ret_bool (by rw [HD.out]; simp; omega), rfl⟩

theorem digit_slice : ∀ k : Nat, k < 10 → (⟨#[48, 49, 50, 51, 52, 53, 54, 55, 56, 57]⟩ : ByteArray).extract k (k + 1) = str [UInt8.ofNat (48 + k)] := by
  intro k hk
  have : k = 0 ∨ k = 1 ∨ k = 2 ∨ k = 3 ∨ k = 4 ∨ k = 5 ∨ k = 6 ∨ k = 7 ∨ k = 8 ∨ k = 9 := by omega
  rcases this with rfl | rfl | rfl | rfl | rfl | rfl | rfl | rfl | rfl | rfl <;> rfl
theorem Dec_any (k : Nat) : ∀ (n : Nat) (w : World), n ≤ k → n ≤ 9999999999 →
    Calls Tryz.prog 68 #[.int .i64 n] w fun e w' => e = .returned (.string (str (decL n))) ∧ w = w' := by
  induction k with
  | zero =>
    intro n w hk _
    obtain rfl : n = 0 := by omega
    go_enter Tryz.func68, Tryz.ntmps68
    go_wp2_with fail
    go_ret
    exact ⟨ret_str (by rw [decL]; rfl), rfl⟩
  | succ k ih =>
    intro n w hk hn
    have hm : n % 10 < 10 := Nat.mod_lt _ (by omega)
    have HS := Lib.hid (digit_slice (n % 10) hm)
    have b0 : (0 : Int) ≤ (n : Int) % 10 := by omega
    have b1 : (n : Int) % 10 < 10 := by omega
    have b2 : (n : Int) % 10 + 1 ≤ 10 := by omega
    have b3 : (n : Int) % 10 ≤ (n : Int) % 10 + 1 := by omega
    have b4 : (0 : Int) ≤ (n : Int) % 10 + 1 := by omega
    have b5 : (n : Int) % 10 ≤ 10 := by omega
    have b6 : (n : Int) % 10 ≤ 9 := by omega
    by_cases h : n < 10
    · have h' : (n : Int) < 10 := by omega
      have HD := Lib.hid (show decL n = [UInt8.ofNat (48 + n % 10)] by rw [decL, dif_pos h]; congr 2; omega)
      go_enter Tryz.func68, Tryz.ntmps68
      go_wp2_with fail
      go_ret
      exact ⟨ret_str (by rw [HD.out, HS.out]), rfl⟩
    · have h' : (10 : Int) ≤ (n : Int) := by omega
      have HD := Lib.hid (show decL n = decL (n / 10) ++ [UInt8.ofNat (48 + n % 10)] by rw [decL, dif_neg h])
      have E1 := Lib.hid (show (n : Int) / 10 = ((n / 10 : Nat) : Int) by omega)
      have hlen : (str (decL (n / 10))).size ≤ 10 := decL_len 9 (n / 10) (by omega)
      clear h
      go_enter Tryz.func68, Tryz.ntmps68
      go_wp2_with fail
      rw [E1.out]
      refine (ih (n / 10) _ (by omega) (by omega)).mono ?_
      rintro e w1 ⟨rfl, rfl⟩
      go_wp2_with fail
      go_ret
      exact ⟨ret_str (by rw [HD.out, HS.out, str_app]), rfl⟩
end Go.Proofs.YtnbdcjohibfjaaaGreatDoor
namespace Go.Proofs.YtnbdcjohibfjaaaGreatDoor
open Go.RowKit

theorem ret_date {a b c d e f g a' b' c' d' e' f' g' : Int} {r : Bool} (h : a = a' ∧ b = b' ∧ c = c' ∧ d = d' ∧ e = e' ∧ f = f' ∧ g = g') :
    Ending.returned (.tuple #[.agg #[.int .i64 a, .int .i64 b, .int .i64 c, .int .i64 d, .int .i64 e, .int .i64 f, .int .i64 g], .bool r]) = .returned (.tuple #[.agg #[.int .i64 a', .int .i64 b', .int .i64 c', .int .i64 d', .int .i64 e', .int .i64 f', .int .i64 g'], .bool r]) := by
  obtain ⟨rfl, rfl, rfl, rfl, rfl, rfl, rfl⟩ := h; rfl

set_option maxHeartbeats 2000000 in
theorem rOf_no (t : Int) (hb : t < 0 ∨ 6311433600 ≤ t) (w : World) :
    Calls Tryz.prog 49 #[.int .i64 t] w fun e w' => e = .returned (.tuple #[.agg #[.int .i64 0, .int .i64 0, .int .i64 0, .int .i64 0, .int .i64 0, .int .i64 0, .int .i64 0], .bool false]) ∧ Below w.heap.size w w' := by
  rcases hb with hb | hb
  · go_enter Tryz.func49, Tryz.ntmps49
    go_wp2_with fail
    exact bodyPost_ret (v := .tuple #[.agg #[.int .i64 0, .int .i64 0, .int .i64 0, .int .i64 0, .int .i64 0, .int .i64 0, .int .i64 0], .bool false]) (by simp [results, Tryz.results49, go_sem]) rfl ⟨rfl, (Below.refl _ _).alloc (Nat.le_refl _) _⟩
  · have hb0 : ¬ t < 0 := by omega
    go_enter Tryz.func49, Tryz.ntmps49
    go_wp2_with fail
    exact bodyPost_ret (v := .tuple #[.agg #[.int .i64 0, .int .i64 0, .int .i64 0, .int .i64 0, .int .i64 0, .int .i64 0, .int .i64 0], .bool false]) (by simp [results, Tryz.results49, go_sem]) rfl ⟨rfl, (Below.refl _ _).alloc (Nat.le_refl _) _⟩

set_option maxHeartbeats 4000000 in
theorem rOf_yes (t y m d hh mi ss wd : Int) (h : IsDate t y m d hh mi ss wd) (w : World) :
    Calls Tryz.prog 49 #[.int .i64 t] w fun e w' => e = .returned (.tuple #[.agg #[.int .i64 y, .int .i64 m, .int .i64 d, .int .i64 hh, .int .i64 mi, .int .i64 ss, .int .i64 wd], .bool true]) ∧ Below w.heap.size w w' := by
  have hd := h.day
  have hb := h.bd
  obtain ⟨hb0, hb1⟩ := hb
  have hn : num y m d = t / 86400 := by have := h.t_eq; have := h.h0; have := h.h1; have := h.m0; have := h.m1; have := h.s0; have := h.s1; omega
  have E : Hid (t % 86400 / 3600 = hh ∧ t % 86400 / 60 % 60 = mi ∧ t % 60 = ss ∧ (t / 86400 + 5) % 7 + 1 = wd) := by
    have := h.t_eq; have := h.h0; have := h.h1; have := h.m0; have := h.m1; have := h.s0; have := h.s1; have := h.w_eq
    exact ⟨by omega, by omega, by omega, by omega⟩
  clear h
  have hy := num_in_year hd
  rw [hn] at hy
  obtain ⟨hy0, hy1⟩ := hy
  obtain ⟨y0, y1, m0, m1, d0, d1⟩ := hd
  have HN := Lib.hid (show t / 86400 = yst y + mst y m + d - 1 by rw [← hn]; rfl)
  clear hn
  go_enter Tryz.func49, Tryz.ntmps49
  go_wp2_with fail
  go_loopw [4] (fun r wr => ∃ k : Int, 2000 ≤ k ∧ k ≤ y ∧ r = .int .i64 (t / 86400 - yst k) ∧ wr = (w.alloc (.cells #[.int .i64 0, .int .i64 0, .int .i64 0, .int .i64 0, .int .i64 0, .int .i64 0, .int .i64 0] 39)).alloc (.cells #[.int .i64 k, .int .i64 1, .int .i64 0, .int .i64 (t % 86400 / 3600), .int .i64 (t % 86400 / 60 % 60), .int .i64 (t % 60), .int .i64 ((t / 86400 + 5) % 7 + 1)] 39)) (fun r wr => (intOf r).toNat)
  case atStart => exact ⟨2000, by omega, by omega, by rw [yst_2000]; go_num, rfl⟩
  case round =>
    obtain ⟨k, hk0, hk1, rfl, rfl⟩ := hrel
    have hyk := yst_le (a := 2000) (b := k) hk0
    rw [yst_2000] at hyk
    have hyk2 : yst k ≤ t / 86400 := by have := yst_le (a := k) (b := y) hk1; omega
    by_cases hlt : k < y
    · have hsl := yst_lt hlt
      have hs := yst_succ k
      have HS := Lib.hid hs
      rcases hl : leapB k with _ | _
      all_goals
        have hp : lp k = if leapB k = true then 1 else 0 := rfl
        rw [hl] at hp
        simp only [if_true, if_false, Bool.false_eq_true] at hp
        have HP := Lib.hid hp
        have HL := Lib.hid hl
      · have g1 : 365 ≤ t / 86400 - yst k := by omega
        clear hl hs hsl hp
        go_wp2_with fail
        refine (rLeap_any k _).mono ?_
        rintro e w1 ⟨rfl, rfl⟩
        rw [HL.out]
        go_wp2_with fail
        go_roundw
        case rel => exact ⟨k + 1, by omega, by omega, by rw [HS.out, HP.out]; go_num, rfl⟩
        case measure => simp [intOf]; omega
      · have g1 : 366 ≤ t / 86400 - yst k := by omega
        clear hl hs hsl hp
        go_wp2_with fail
        refine (rLeap_any k _).mono ?_
        rintro e w1 ⟨rfl, rfl⟩
        rw [HL.out]
        go_wp2_with fail
        go_roundw
        case rel => exact ⟨k + 1, by omega, by omega, by rw [HS.out, HP.out]; go_num, rfl⟩
        case measure => simp [intOf]; omega
    · obtain rfl : k = y := by omega
      have hs := yst_succ k
      rcases hl : leapB k with _ | _
      all_goals
        have hp : lp k = if leapB k = true then 1 else 0 := rfl
        rw [hl] at hp
        simp only [if_true, if_false, Bool.false_eq_true] at hp
        have HL := Lib.hid hl
        have g0 : t / 86400 - yst k < 366 := by omega
        first
          | (have g1 : t / 86400 - yst k < 365 := by omega
             have dq : decide (t / 86400 - yst k < 365) = true := by simpa using g1)
          | (have dq : decide (t / 86400 - yst k < 366) = true := by simpa using g0)
        clear hl hs hp
        go_wp2_with fail
        refine (rLeap_any k _).mono ?_
        rintro e w1 ⟨rfl, rfl⟩
        rw [HL.out]
        go_wp2_with fail
        go_loopw [4] (fun r wr => ∃ j : Int, 1 ≤ j ∧ j ≤ m ∧ r = .int .i64 (t / 86400 - yst k - mst k j) ∧ wr = (w.alloc (.cells #[.int .i64 0, .int .i64 0, .int .i64 0, .int .i64 0, .int .i64 0, .int .i64 0, .int .i64 0] 39)).alloc (.cells #[.int .i64 k, .int .i64 j, .int .i64 0, .int .i64 (t % 86400 / 3600), .int .i64 (t % 86400 / 60 % 60), .int .i64 (t % 60), .int .i64 ((t / 86400 + 5) % 7 + 1)] 39)) (fun r wr => (intOf r).toNat)
        case atStart => exact ⟨1, by omega, by omega, by rw [mst_1]; go_num, rfl⟩
        case round =>
          obtain ⟨j, hj0, hj1, rfl, rfl⟩ := hrel
          have hj12 : j ≤ 12 := by omega
          have hs := mst_succ k j hj0 hj12
          have hm0 := mst_bd k j hj0 (by omega)
          have hdb := dim_bd k j hj0 hj12
          have HS := Lib.hid hs
          by_cases hlt2 : j < m
          · have hmo := mst_mono k hj0 (b := m) (by omega) hlt2
            have hN := HN.out
            have q1 : dim k j ≤ t / 86400 - yst k - mst k j := by omega
            clear hN hs hmo
            go_wp2_with fail
            refine (rDays_any k j _).mono ?_
            rintro e w1 ⟨rfl, rfl⟩
            go_wp2_with fail
            refine (rDays_any k j _).mono ?_
            rintro e w1 ⟨rfl, rfl⟩
            go_wp2_with fail
            go_roundw
            case rel => exact ⟨j + 1, by omega, by omega, by rw [HS.out]; go_num, rfl⟩
            case measure => simp [intOf]; omega
          · have hjm : j = m := by omega
            clear hs
            subst hjm
            have hN := HN.out
            have q1 : t / 86400 - yst k - mst k j < dim k j := by omega
            have q2 : t / 86400 - yst k - mst k j = d - 1 := by omega
            have Q2 := Lib.hid q2
            clear hN q2 hlt2
            go_wp2_with fail
            refine (rDays_any k j _).mono ?_
            rintro e w1 ⟨rfl, rfl⟩
            go_wp2_with fail
            exact bodyPost_ret (v := .tuple #[.agg #[.int .i64 k, .int .i64 j, .int .i64 (t / 86400 - yst k - mst k j + 1), .int .i64 (t % 86400 / 3600), .int .i64 (t % 86400 / 60 % 60), .int .i64 (t % 60), .int .i64 ((t / 86400 + 5) % 7 + 1)], .bool true]) (by simp [results, Tryz.results49, go_sem]) rfl
              ⟨ret_date ⟨rfl, rfl, by have := Q2.out; omega, E.out.1, E.out.2.1, E.out.2.2.1, E.out.2.2.2⟩, (Below.refl _ _).alloc (Nat.le_refl _) _ |>.alloc (by simp) _⟩
theorem rOf_any (t : Int) (w : World) :
    Calls Tryz.prog 49 #[.int .i64 t] w fun e w' => e = .returned (.tuple #[.agg #[.int .i64 (fY t), .int .i64 (fM t), .int .i64 (fD t), .int .i64 (fH t), .int .i64 (fI t), .int .i64 (fS t), .int .i64 (fW t)], .bool (isT t)]) ∧ Below w.heap.size w w' := by
  rcases ht : isT t with _ | _
  · obtain ⟨e1, e2, e3, e4, e5, e6, e7⟩ := date_no ht
    have hb : t < 0 ∨ 6311433600 ≤ t := by
      have : ¬ isT t = true := by rw [ht]; simp
      rw [isT_iff] at this; omega
    rw [e1, e2, e3, e4, e5, e6, e7]
    exact rOf_no t hb w
  · exact rOf_yes t _ _ _ _ _ _ _ (date_of ht) w
end Go.Proofs.YtnbdcjohibfjaaaGreatDoor
namespace Go.Proofs.YtnbdcjohibfjaaaGreatDoor
open Go.RowKit

set_option maxHeartbeats 1000000 in
theorem dayName_any (d : Int) (h0 : 1 ≤ d) (h1 : d ≤ 7) (w : World) :
    Calls Tryz.prog 44 #[.int .i64 d] w fun e w' => e = .returned (.string (str (dayL d))) ∧ w = w' := by
  have h : d = 1 ∨ d = 2 ∨ d = 3 ∨ d = 4 ∨ d = 5 ∨ d = 6 ∨ d = 7 := by omega
  rcases h with rfl | rfl | rfl | rfl | rfl | rfl | rfl
  all_goals
    go_enter Tryz.func44, Tryz.ntmps44
    go_wp2_with fail
    go_ret
    exact ⟨rfl, rfl⟩

def strSz : Value → Nat
  | .string s => s.size
  | _ => 0
set_option maxHeartbeats 2000000 in
theorem pad_any (n d : Nat) (hn : n ≤ 9999) (hd : d ≤ 4) (w : World) :
    Calls Tryz.prog 67 #[.int .i64 n, .int .i64 d] w fun e w' => e = .returned (.string (str (padL d n))) ∧ w = w' := by
  have hl := decL_len 3 n (by omega)
  have hl0 := List.length_pos_iff.2 (decL_ne n)
  go_enter Tryz.func67, Tryz.ntmps67
  go_wp2_with fail
  refine (Dec_any n n _ (Nat.le_refl _) (by omega)).mono ?_
  rintro e w1 ⟨rfl, rfl⟩
  go_wp2_with fail
  go_loop [5] (fun x => ∃ (S : ByteArray) (k : Nat), k ≤ d - (decL n).length ∧ Hid (S = str (List.replicate k 48 ++ decL n)) ∧ S.size ≤ k + (decL n).length ∧ k + (decL n).length ≤ S.size ∧ x = .string S) (fun x => 10 - strSz x)
  case atStart => exact ⟨_, 0, Nat.zero_le _, rfl, by simp [str_size], by simp [str_size], rfl⟩
  case round =>
    obtain ⟨S, k, hk, HS, s0, s1, rfl⟩ := hrel
    by_cases hlt : S.size < d
    · have HN : Hid ((⟨#[48]⟩ : ByteArray) ++ S = str (List.replicate (k + 1) 48 ++ decL n)) := by
        show _ = _
        rw [HS.out]; rfl
      have hz : ((⟨#[48]⟩ : ByteArray) ++ S).size = S.size + 1 := by rw [ByteArray.size_append]; show 1 + S.size = _; omega
      have z0 : ((⟨#[48]⟩ : ByteArray) ++ S).size ≤ S.size + 1 := by omega
      have z1 : S.size + 1 ≤ ((⟨#[48]⟩ : ByteArray) ++ S).size := by omega
      clear hz
      have hlt' : (S.size : Int) < (d : Int) := by omega
      go_wp2_with fail
      go_round
      case rel => exact ⟨_, k + 1, by omega, HN, by omega, by omega, rfl⟩
      case measure => simp only [strSz]; omega
    · have HE : Hid (S = str (padL d n)) := by
        show _ = _
        rw [HS.out]
        unfold padL
        rw [show k = d - (decL n).length by omega]
      have hlt' : (d : Int) ≤ (S.size : Int) := by omega
      clear hlt
      go_wp2_with fail
      go_ret
      exact ⟨ret_str HE.out, rfl⟩

theorem str_bd {n d : Nat} (hn : n ≤ 9999) (hd : d ≤ 4) : (str (padL d n)).size ≤ 4 := (padL_len hd hn).2
theorem dec_bd {n : Nat} (hn : n ≤ 9999) : (str (decL n)).size ≤ 4 := decL_len 3 n (by omega)

set_option maxHeartbeats 2000000 in
theorem pt_yabs (a : Nat) (ha : a ≤ 9999) (b : Nat) (hb : b ≤ 9999) (s : Nat) (hs : s ≤ 9999) (hs0 : (0 : Int) < (s : Int))  (w : World) :
    Calls Tryz.prog 45 #[.agg #[.int .i64 a, .int .i64 b, .int .i64 s], .int .i64 0] w fun e w' => e = .returned (.string (((str (padL 4 a)) ++ ((⟨#[46, 46]⟩ : ByteArray) ++ str (padL 4 b))) ++ ((⟨#[47]⟩ : ByteArray) ++ str (decL s)))) ∧ Below w.heap.size w w' := by
  have za := str_bd (d := 4) ha (by omega)
  have zb := str_bd (d := 4) hb (by omega)
  have zs := dec_bd hs
  have qa : (0 : Int) ≤ (a : Int) := by omega
  have qb : (0 : Int) ≤ (b : Int) := by omega
  have u0 : (0 : Nat) ≤ 0 := Nat.zero_le _
  go_enter Tryz.func45, Tryz.ntmps45
  go_wp2_with fail
  refine (pad_any a 4 ha (by omega) _).mono ?_
  rintro e w1 ⟨rfl, rfl⟩
  go_wp2_with fail
  refine (pad_any b 4 hb (by omega) _).mono ?_
  rintro e w1 ⟨rfl, rfl⟩
  go_wp2_with fail
  refine (Dec_any s s _ (Nat.le_refl _) (by omega)).mono ?_
  rintro e w1 ⟨rfl, rfl⟩
  go_wp2_with fail
  go_ret
  exact ⟨rfl, (Below.refl _ _).alloc (Nat.le_refl _) _⟩

set_option maxHeartbeats 2000000 in
theorem pt_yabx (a : Nat) (ha : a ≤ 9999) (b : Nat) (hb : b ≤ 9999) (s : Int) (hs0 : s ≤ 0)  (w : World) :
    Calls Tryz.prog 45 #[.agg #[.int .i64 a, .int .i64 b, .int .i64 s], .int .i64 0] w fun e w' => e = .returned (.string ((str (padL 4 a)) ++ ((⟨#[46, 46]⟩ : ByteArray) ++ str (padL 4 b)))) ∧ Below w.heap.size w w' := by
  have za := str_bd (d := 4) ha (by omega)
  have zb := str_bd (d := 4) hb (by omega)
  have qa : (0 : Int) ≤ (a : Int) := by omega
  have qb : (0 : Int) ≤ (b : Int) := by omega
  have u0 : (0 : Nat) ≤ 0 := Nat.zero_le _
  have u1 : (0 : Nat) ≤ 1 := Nat.zero_le _
  go_enter Tryz.func45, Tryz.ntmps45
  go_wp2_with fail
  refine (pad_any a 4 ha (by omega) _).mono ?_
  rintro e w1 ⟨rfl, rfl⟩
  go_wp2_with fail
  refine (pad_any b 4 hb (by omega) _).mono ?_
  rintro e w1 ⟨rfl, rfl⟩
  go_wp2_with fail
  go_ret
  exact ⟨rfl, (Below.refl _ _).alloc (Nat.le_refl _) _⟩

set_option maxHeartbeats 2000000 in
theorem pt_yaxs (a : Nat) (ha : a ≤ 9999) (b : Int) (hb : b < 0) (s : Nat) (hs : s ≤ 9999) (hs0 : (0 : Int) < (s : Int))  (w : World) :
    Calls Tryz.prog 45 #[.agg #[.int .i64 a, .int .i64 b, .int .i64 s], .int .i64 0] w fun e w' => e = .returned (.string ((str (padL 4 a)) ++ ((⟨#[47]⟩ : ByteArray) ++ str (decL s)))) ∧ Below w.heap.size w w' := by
  have za := str_bd (d := 4) ha (by omega)
  have zs := dec_bd hs
  have qa : (0 : Int) ≤ (a : Int) := by omega
  have u0 : (0 : Nat) ≤ 0 := Nat.zero_le _
  have u1 : (0 : Nat) ≤ 1 := Nat.zero_le _
  have u2 : (0 : Nat) ≤ 2 := Nat.zero_le _
  go_enter Tryz.func45, Tryz.ntmps45
  go_wp2_with fail
  refine (pad_any a 4 ha (by omega) _).mono ?_
  rintro e w1 ⟨rfl, rfl⟩
  go_wp2_with fail
  refine (Dec_any s s _ (Nat.le_refl _) (by omega)).mono ?_
  rintro e w1 ⟨rfl, rfl⟩
  go_wp2_with fail
  go_ret
  exact ⟨rfl, (Below.refl _ _).alloc (Nat.le_refl _) _⟩

set_option maxHeartbeats 2000000 in
theorem pt_yaxx (a : Nat) (ha : a ≤ 9999) (b : Int) (hb : b < 0) (s : Int) (hs0 : s ≤ 0)  (w : World) :
    Calls Tryz.prog 45 #[.agg #[.int .i64 a, .int .i64 b, .int .i64 s], .int .i64 0] w fun e w' => e = .returned (.string (str (padL 4 a))) ∧ Below w.heap.size w w' := by
  have za := str_bd (d := 4) ha (by omega)
  have qa : (0 : Int) ≤ (a : Int) := by omega
  have u0 : (0 : Nat) ≤ 0 := Nat.zero_le _
  have u1 : (0 : Nat) ≤ 1 := Nat.zero_le _
  have u2 : (0 : Nat) ≤ 2 := Nat.zero_le _
  have u3 : (0 : Nat) ≤ 3 := Nat.zero_le _
  go_enter Tryz.func45, Tryz.ntmps45
  go_wp2_with fail
  refine (pad_any a 4 ha (by omega) _).mono ?_
  rintro e w1 ⟨rfl, rfl⟩
  go_wp2_with fail
  go_ret
  exact ⟨rfl, (Below.refl _ _).alloc (Nat.le_refl _) _⟩

set_option maxHeartbeats 2000000 in
theorem pt_yxxs (a : Int) (ha : a < 0) (b : Int) (hb : b < 0) (s : Nat) (hs : s ≤ 9999) (hs0 : (0 : Int) < (s : Int))  (w : World) :
    Calls Tryz.prog 45 #[.agg #[.int .i64 a, .int .i64 b, .int .i64 s], .int .i64 0] w fun e w' => e = .returned (.string ((⟨#[42]⟩ : ByteArray) ++ ((⟨#[47]⟩ : ByteArray) ++ str (decL s)))) ∧ Below w.heap.size w w' := by
  have zs := dec_bd hs
  have u0 : (0 : Nat) ≤ 0 := Nat.zero_le _
  have u1 : (0 : Nat) ≤ 1 := Nat.zero_le _
  have u2 : (0 : Nat) ≤ 2 := Nat.zero_le _
  have u3 : (0 : Nat) ≤ 3 := Nat.zero_le _
  have u4 : (0 : Nat) ≤ 4 := Nat.zero_le _
  go_enter Tryz.func45, Tryz.ntmps45
  go_wp2_with fail
  refine (Dec_any s s _ (Nat.le_refl _) (by omega)).mono ?_
  rintro e w1 ⟨rfl, rfl⟩
  go_wp2_with fail
  go_ret
  exact ⟨rfl, (Below.refl _ _).alloc (Nat.le_refl _) _⟩

set_option maxHeartbeats 2000000 in
theorem pt_yxxx (a : Int) (ha : a < 0) (b : Int) (hb : b < 0) (s : Int) (hs0 : s ≤ 0)  (w : World) :
    Calls Tryz.prog 45 #[.agg #[.int .i64 a, .int .i64 b, .int .i64 s], .int .i64 0] w fun e w' => e = .returned (.string (⟨#[42]⟩ : ByteArray)) ∧ Below w.heap.size w w' := by
  have u0 : (0 : Nat) ≤ 0 := Nat.zero_le _
  have u1 : (0 : Nat) ≤ 1 := Nat.zero_le _
  have u2 : (0 : Nat) ≤ 2 := Nat.zero_le _
  have u3 : (0 : Nat) ≤ 3 := Nat.zero_le _
  have u4 : (0 : Nat) ≤ 4 := Nat.zero_le _
  have u5 : (0 : Nat) ≤ 5 := Nat.zero_le _
  go_enter Tryz.func45, Tryz.ntmps45
  go_wp2_with fail
  go_ret
  exact ⟨rfl, (Below.refl _ _).alloc (Nat.le_refl _) _⟩

set_option maxHeartbeats 2000000 in
theorem pt_nabs (a : Nat) (ha : a ≤ 9999) (b : Nat) (hb : b ≤ 9999) (s : Nat) (hs : s ≤ 9999) (hs0 : (0 : Int) < (s : Int)) (f : Int) (hf : (f == 0) = false) (w : World) :
    Calls Tryz.prog 45 #[.agg #[.int .i64 a, .int .i64 b, .int .i64 s], .int .i64 f] w fun e w' => e = .returned (.string (((str (padL 2 a)) ++ ((⟨#[46, 46]⟩ : ByteArray) ++ str (padL 2 b))) ++ ((⟨#[47]⟩ : ByteArray) ++ str (decL s)))) ∧ Below w.heap.size w w' := by
  have za := str_bd (d := 2) ha (by omega)
  have zb := str_bd (d := 2) hb (by omega)
  have zs := dec_bd hs
  have qa : (0 : Int) ≤ (a : Int) := by omega
  have qb : (0 : Int) ≤ (b : Int) := by omega
  have u0 : (0 : Nat) ≤ 0 := Nat.zero_le _
  have u1 : (0 : Nat) ≤ 1 := Nat.zero_le _
  have u2 : (0 : Nat) ≤ 2 := Nat.zero_le _
  have u3 : (0 : Nat) ≤ 3 := Nat.zero_le _
  have u4 : (0 : Nat) ≤ 4 := Nat.zero_le _
  have u5 : (0 : Nat) ≤ 5 := Nat.zero_le _
  have u6 : (0 : Nat) ≤ 6 := Nat.zero_le _
  go_enter Tryz.func45, Tryz.ntmps45
  go_wp2_with fail
  refine (pad_any a 2 ha (by omega) _).mono ?_
  rintro e w1 ⟨rfl, rfl⟩
  go_wp2_with fail
  refine (pad_any b 2 hb (by omega) _).mono ?_
  rintro e w1 ⟨rfl, rfl⟩
  go_wp2_with fail
  refine (Dec_any s s _ (Nat.le_refl _) (by omega)).mono ?_
  rintro e w1 ⟨rfl, rfl⟩
  go_wp2_with fail
  go_ret
  exact ⟨rfl, (Below.refl _ _).alloc (Nat.le_refl _) _⟩

set_option maxHeartbeats 2000000 in
theorem pt_nabx (a : Nat) (ha : a ≤ 9999) (b : Nat) (hb : b ≤ 9999) (s : Int) (hs0 : s ≤ 0) (f : Int) (hf : (f == 0) = false) (w : World) :
    Calls Tryz.prog 45 #[.agg #[.int .i64 a, .int .i64 b, .int .i64 s], .int .i64 f] w fun e w' => e = .returned (.string ((str (padL 2 a)) ++ ((⟨#[46, 46]⟩ : ByteArray) ++ str (padL 2 b)))) ∧ Below w.heap.size w w' := by
  have za := str_bd (d := 2) ha (by omega)
  have zb := str_bd (d := 2) hb (by omega)
  have qa : (0 : Int) ≤ (a : Int) := by omega
  have qb : (0 : Int) ≤ (b : Int) := by omega
  have u0 : (0 : Nat) ≤ 0 := Nat.zero_le _
  have u1 : (0 : Nat) ≤ 1 := Nat.zero_le _
  have u2 : (0 : Nat) ≤ 2 := Nat.zero_le _
  have u3 : (0 : Nat) ≤ 3 := Nat.zero_le _
  have u4 : (0 : Nat) ≤ 4 := Nat.zero_le _
  have u5 : (0 : Nat) ≤ 5 := Nat.zero_le _
  have u6 : (0 : Nat) ≤ 6 := Nat.zero_le _
  have u7 : (0 : Nat) ≤ 7 := Nat.zero_le _
  go_enter Tryz.func45, Tryz.ntmps45
  go_wp2_with fail
  refine (pad_any a 2 ha (by omega) _).mono ?_
  rintro e w1 ⟨rfl, rfl⟩
  go_wp2_with fail
  refine (pad_any b 2 hb (by omega) _).mono ?_
  rintro e w1 ⟨rfl, rfl⟩
  go_wp2_with fail
  go_ret
  exact ⟨rfl, (Below.refl _ _).alloc (Nat.le_refl _) _⟩

set_option maxHeartbeats 2000000 in
theorem pt_naxs (a : Nat) (ha : a ≤ 9999) (b : Int) (hb : b < 0) (s : Nat) (hs : s ≤ 9999) (hs0 : (0 : Int) < (s : Int)) (f : Int) (hf : (f == 0) = false) (w : World) :
    Calls Tryz.prog 45 #[.agg #[.int .i64 a, .int .i64 b, .int .i64 s], .int .i64 f] w fun e w' => e = .returned (.string ((str (padL 2 a)) ++ ((⟨#[47]⟩ : ByteArray) ++ str (decL s)))) ∧ Below w.heap.size w w' := by
  have za := str_bd (d := 2) ha (by omega)
  have zs := dec_bd hs
  have qa : (0 : Int) ≤ (a : Int) := by omega
  have u0 : (0 : Nat) ≤ 0 := Nat.zero_le _
  have u1 : (0 : Nat) ≤ 1 := Nat.zero_le _
  have u2 : (0 : Nat) ≤ 2 := Nat.zero_le _
  have u3 : (0 : Nat) ≤ 3 := Nat.zero_le _
  have u4 : (0 : Nat) ≤ 4 := Nat.zero_le _
  have u5 : (0 : Nat) ≤ 5 := Nat.zero_le _
  have u6 : (0 : Nat) ≤ 6 := Nat.zero_le _
  have u7 : (0 : Nat) ≤ 7 := Nat.zero_le _
  have u8 : (0 : Nat) ≤ 8 := Nat.zero_le _
  go_enter Tryz.func45, Tryz.ntmps45
  go_wp2_with fail
  refine (pad_any a 2 ha (by omega) _).mono ?_
  rintro e w1 ⟨rfl, rfl⟩
  go_wp2_with fail
  refine (Dec_any s s _ (Nat.le_refl _) (by omega)).mono ?_
  rintro e w1 ⟨rfl, rfl⟩
  go_wp2_with fail
  go_ret
  exact ⟨rfl, (Below.refl _ _).alloc (Nat.le_refl _) _⟩

set_option maxHeartbeats 2000000 in
theorem pt_naxx (a : Nat) (ha : a ≤ 9999) (b : Int) (hb : b < 0) (s : Int) (hs0 : s ≤ 0) (f : Int) (hf : (f == 0) = false) (w : World) :
    Calls Tryz.prog 45 #[.agg #[.int .i64 a, .int .i64 b, .int .i64 s], .int .i64 f] w fun e w' => e = .returned (.string (str (padL 2 a))) ∧ Below w.heap.size w w' := by
  have za := str_bd (d := 2) ha (by omega)
  have qa : (0 : Int) ≤ (a : Int) := by omega
  have u0 : (0 : Nat) ≤ 0 := Nat.zero_le _
  have u1 : (0 : Nat) ≤ 1 := Nat.zero_le _
  have u2 : (0 : Nat) ≤ 2 := Nat.zero_le _
  have u3 : (0 : Nat) ≤ 3 := Nat.zero_le _
  have u4 : (0 : Nat) ≤ 4 := Nat.zero_le _
  have u5 : (0 : Nat) ≤ 5 := Nat.zero_le _
  have u6 : (0 : Nat) ≤ 6 := Nat.zero_le _
  have u7 : (0 : Nat) ≤ 7 := Nat.zero_le _
  have u8 : (0 : Nat) ≤ 8 := Nat.zero_le _
  have u9 : (0 : Nat) ≤ 9 := Nat.zero_le _
  go_enter Tryz.func45, Tryz.ntmps45
  go_wp2_with fail
  refine (pad_any a 2 ha (by omega) _).mono ?_
  rintro e w1 ⟨rfl, rfl⟩
  go_wp2_with fail
  go_ret
  exact ⟨rfl, (Below.refl _ _).alloc (Nat.le_refl _) _⟩

set_option maxHeartbeats 2000000 in
theorem pt_nxxs (a : Int) (ha : a < 0) (b : Int) (hb : b < 0) (s : Nat) (hs : s ≤ 9999) (hs0 : (0 : Int) < (s : Int)) (f : Int) (hf : (f == 0) = false) (w : World) :
    Calls Tryz.prog 45 #[.agg #[.int .i64 a, .int .i64 b, .int .i64 s], .int .i64 f] w fun e w' => e = .returned (.string ((⟨#[42]⟩ : ByteArray) ++ ((⟨#[47]⟩ : ByteArray) ++ str (decL s)))) ∧ Below w.heap.size w w' := by
  have zs := dec_bd hs
  have u0 : (0 : Nat) ≤ 0 := Nat.zero_le _
  have u1 : (0 : Nat) ≤ 1 := Nat.zero_le _
  have u2 : (0 : Nat) ≤ 2 := Nat.zero_le _
  have u3 : (0 : Nat) ≤ 3 := Nat.zero_le _
  have u4 : (0 : Nat) ≤ 4 := Nat.zero_le _
  have u5 : (0 : Nat) ≤ 5 := Nat.zero_le _
  have u6 : (0 : Nat) ≤ 6 := Nat.zero_le _
  have u7 : (0 : Nat) ≤ 7 := Nat.zero_le _
  have u8 : (0 : Nat) ≤ 8 := Nat.zero_le _
  have u9 : (0 : Nat) ≤ 9 := Nat.zero_le _
  have u10 : (0 : Nat) ≤ 10 := Nat.zero_le _
  go_enter Tryz.func45, Tryz.ntmps45
  go_wp2_with fail
  refine (Dec_any s s _ (Nat.le_refl _) (by omega)).mono ?_
  rintro e w1 ⟨rfl, rfl⟩
  go_wp2_with fail
  go_ret
  exact ⟨rfl, (Below.refl _ _).alloc (Nat.le_refl _) _⟩

set_option maxHeartbeats 2000000 in
theorem pt_nxxx (a : Int) (ha : a < 0) (b : Int) (hb : b < 0) (s : Int) (hs0 : s ≤ 0) (f : Int) (hf : (f == 0) = false) (w : World) :
    Calls Tryz.prog 45 #[.agg #[.int .i64 a, .int .i64 b, .int .i64 s], .int .i64 f] w fun e w' => e = .returned (.string (⟨#[42]⟩ : ByteArray)) ∧ Below w.heap.size w w' := by
  have u0 : (0 : Nat) ≤ 0 := Nat.zero_le _
  have u1 : (0 : Nat) ≤ 1 := Nat.zero_le _
  have u2 : (0 : Nat) ≤ 2 := Nat.zero_le _
  have u3 : (0 : Nat) ≤ 3 := Nat.zero_le _
  have u4 : (0 : Nat) ≤ 4 := Nat.zero_le _
  have u5 : (0 : Nat) ≤ 5 := Nat.zero_le _
  have u6 : (0 : Nat) ≤ 6 := Nat.zero_le _
  have u7 : (0 : Nat) ≤ 7 := Nat.zero_le _
  have u8 : (0 : Nat) ≤ 8 := Nat.zero_le _
  have u9 : (0 : Nat) ≤ 9 := Nat.zero_le _
  have u10 : (0 : Nat) ≤ 10 := Nat.zero_le _
  have u11 : (0 : Nat) ≤ 11 := Nat.zero_le _
  go_enter Tryz.func45, Tryz.ntmps45
  go_wp2_with fail
  go_ret
  exact ⟨rfl, (Below.refl _ _).alloc (Nat.le_refl _) _⟩

set_option maxHeartbeats 1000000 in
theorem partText_any (p : Pt) (f : Nat) (hm : mayP f p = true) (w : World) :
    Calls Tryz.prog 45 #[.agg #[.int .i64 p.a, .int .i64 p.b, .int .i64 p.s], .int .i64 f] w fun e w' => e = .returned (.string (str (ptL f p))) ∧ Below w.heap.size w w' := by
  obtain ⟨a, b, s⟩ := p
  have hi := (mayP_iff f ⟨a, b, s⟩).1 hm
  have hl := lo_bd f
  simp only at hi
  have e2 : str [46, 46] = (⟨#[46, 46]⟩ : ByteArray) := rfl
  have e1 : str [47] = (⟨#[47]⟩ : ByteArray) := rfl
  have e0 : str [42] = (⟨#[42]⟩ : ByteArray) := rfl
  have key : ∀ (X : List UInt8) (Y : List UInt8), str (X ++ Y) = str X ++ str Y := fun X Y => (str_app X Y).symm
  have k2 : ∀ (X : List UInt8), str (46 :: 46 :: X) = (⟨#[46, 46]⟩ : ByteArray) ++ str X := fun X => by rw [← e2, str_app]; rfl
  have k1 : ∀ (X : List UInt8), str (47 :: X) = (⟨#[47]⟩ : ByteArray) ++ str X := fun X => by rw [← e1, str_app]; rfl
  have kn : ∀ (X : ByteArray), X ++ str [] = X := fun X => by apply ext_list; rw [app_list]; simp [str]
  unfold ptL ptBody
  by_cases hf : f = 0
  · subst hf
    rw [show dg 0 = 4 from rfl]
    by_cases ca : 0 ≤ a
    · obtain ⟨a, rfl⟩ : ∃ n : Nat, a = n := ⟨a.toNat, by omega⟩
      rw [if_pos ca, Int.toNat_natCast]
      by_cases cb : 0 ≤ b
      · obtain ⟨b, rfl⟩ : ∃ n : Nat, b = n := ⟨b.toNat, by omega⟩
        rw [if_pos cb, Int.toNat_natCast]
        by_cases cs : 0 < s
        · obtain ⟨s, rfl⟩ : ∃ n : Nat, s = n := ⟨s.toNat, by omega⟩
          rw [if_pos cs, Int.toNat_natCast]
          have h := pt_yabs a (by omega) b (by omega) s (by omega) cs w
          simp only [key, k2, k1]
          exact h
        · rw [if_neg cs]
          have h := pt_yabx a (by omega) b (by omega) s (by omega) w
          simp only [key, k2, kn]
          exact h
      · rw [if_neg cb]
        by_cases cs : 0 < s
        · obtain ⟨s, rfl⟩ : ∃ n : Nat, s = n := ⟨s.toNat, by omega⟩
          rw [if_pos cs, Int.toNat_natCast]
          have h := pt_yaxs a (by omega) b (by omega) s (by omega) cs w
          simp only [key, k1, kn]
          exact h
        · rw [if_neg cs]
          have h := pt_yaxx a (by omega) b (by omega) s (by omega) w
          simp only [key, kn]
          exact h
    · rw [if_neg ca]
      · rw [if_neg (show ¬ 0 ≤ b by omega)]
        by_cases cs : 0 < s
        · obtain ⟨s, rfl⟩ : ∃ n : Nat, s = n := ⟨s.toNat, by omega⟩
          rw [if_pos cs, Int.toNat_natCast]
          have h := pt_yxxs a (by omega) b (by omega) s (by omega) cs w
          simp only [key, k1, e0, kn]
          exact h
        · rw [if_neg cs]
          have h := pt_yxxx a (by omega) b (by omega) s (by omega) w
          simp only [key, e0, kn]
          exact h
  · rw [show dg f = 2 from if_neg hf]
    by_cases ca : 0 ≤ a
    · obtain ⟨a, rfl⟩ : ∃ n : Nat, a = n := ⟨a.toNat, by omega⟩
      rw [if_pos ca, Int.toNat_natCast]
      by_cases cb : 0 ≤ b
      · obtain ⟨b, rfl⟩ : ∃ n : Nat, b = n := ⟨b.toNat, by omega⟩
        rw [if_pos cb, Int.toNat_natCast]
        by_cases cs : 0 < s
        · obtain ⟨s, rfl⟩ : ∃ n : Nat, s = n := ⟨s.toNat, by omega⟩
          rw [if_pos cs, Int.toNat_natCast]
          have h := pt_nabs a (by omega) b (by omega) s (by omega) cs (f : Int) (by simpa using hf) w
          simp only [key, k2, k1]
          exact h
        · rw [if_neg cs]
          have h := pt_nabx a (by omega) b (by omega) s (by omega) (f : Int) (by simpa using hf) w
          simp only [key, k2, kn]
          exact h
      · rw [if_neg cb]
        by_cases cs : 0 < s
        · obtain ⟨s, rfl⟩ : ∃ n : Nat, s = n := ⟨s.toNat, by omega⟩
          rw [if_pos cs, Int.toNat_natCast]
          have h := pt_naxs a (by omega) b (by omega) s (by omega) cs (f : Int) (by simpa using hf) w
          simp only [key, k1, kn]
          exact h
        · rw [if_neg cs]
          have h := pt_naxx a (by omega) b (by omega) s (by omega) (f : Int) (by simpa using hf) w
          simp only [key, kn]
          exact h
    · rw [if_neg ca]
      · rw [if_neg (show ¬ 0 ≤ b by omega)]
        by_cases cs : 0 < s
        · obtain ⟨s, rfl⟩ : ∃ n : Nat, s = n := ⟨s.toNat, by omega⟩
          rw [if_pos cs, Int.toNat_natCast]
          have h := pt_nxxs a (by omega) b (by omega) s (by omega) cs (f : Int) (by simpa using hf) w
          simp only [key, k1, e0, kn]
          exact h
        · rw [if_neg cs]
          have h := pt_nxxx a (by omega) b (by omega) s (by omega) (f : Int) (by simpa using hf) w
          simp only [key, e0, kn]
          exact h
end Go.Proofs.YtnbdcjohibfjaaaGreatDoor
namespace Go.Proofs.YtnbdcjohibfjaaaGreatDoor
open Go.RowKit

theorem join_snocE (c : UInt8) (ws : List (List UInt8)) (w : List UInt8) : joinL c (ws ++ [w]) = if ws = [] then w else joinL c ws ++ c :: w := by
  cases ws with
  | nil => simp [joinL]
  | cons v r => simp [joinL]
theorem join_take {α : Type} (c : UInt8) (g : α → List UInt8) (l : List α) (k : Nat) (x : α) (h : l[k]? = some x) :
    joinL c ((l.take (k + 1)).map g) = if k = 0 then g x else joinL c ((l.take k).map g) ++ c :: g x := by
  have hk : k < l.length := by
    rcases Nat.lt_or_ge k l.length with h' | h'
    · exact h'
    · rw [List.getElem?_eq_none h'] at h; cases h
  have e : l.take (k + 1) = l.take k ++ [x] := by
    rw [List.take_add_one, h]; rfl
  rw [e, List.map_append, List.map_cons, List.map_nil, join_snocE]
  by_cases h0 : k = 0
  · rw [if_pos h0, if_pos (by rw [h0]; rfl)]
  · rw [if_neg h0, if_neg (by
      intro e'
      have := congrArg List.length e'
      rw [List.length_map, List.length_take, List.length_nil] at this
      omega)]
def sepE : Nat → List UInt8
  | 0 => [45]
  | 1 => [45]
  | 2 => [32]
  | 3 => [58]
  | 4 => [58]
  | _ => []
def accF (l : Cl) : Nat → List UInt8
  | 0 => []
  | f + 1 => accF l f ++ fieldL f (l.fld f) ++ sepE f
theorem accF_6 (l : Cl) : accF l 6 = bodyL l := by
  unfold bodyL dateL timeL
  simp [accF, sepE, Cl.fld]
def dayPart (l : Cl) : List UInt8 := if l.ds = [] then [] else joinL 44 (l.ds.map dayL) ++ [32]
theorem print_eq {l : Cl} (h : mayC l = true) : printC l = dayPart l ++ accF l 6 := by
  unfold printC dayPart
  rw [if_pos h, accF_6]
  split <;> simp
theorem may_fld {l : Cl} (h : mayC l = true) {f : Nat} (hf : f ≤ 5) : mayF f (l.fld f) = true := by
  obtain ⟨_, m1, m2, m3, m4, m5, m6⟩ := (mayC_iff l).1 h
  rcases f_cases hf with rfl | rfl | rfl | rfl | rfl | rfl <;> assumption
theorem str_cat {S : ByteArray} {X : List UInt8} (h : S = str X) (Y : List UInt8) : S ++ str Y = str (X ++ Y) := by rw [h, str_app]
theorem cat_size (a b : ByteArray) : (a ++ b).size = a.size + b.size := ByteArray.size_append

set_option maxHeartbeats 8000000 in
theorem rPrint_any (c : Ch) (l : Cl) (w : World) (hc : CalAt w w.heap.size c l) :
    Calls Tryz.prog 20 #[.agg c.cells] w fun e w' => e = .returned (.string (str (printC l))) ∧ Below w.heap.size w w' := by
  have HC := Lib.hid hc
  clear hc
  rcases hm : mayC l with _ | _
  · have HP := Lib.hid (printC_none hm)
    have HM := Lib.hid hm
    clear hm
    unfold Ch.cells
    go_enter Tryz.func20, Tryz.ntmps20
    go_wp2_with fail
    refine (MayCal_any c l _ ⟨(HC.out.1.below ((Below.refl _ _).alloc (Nat.le_refl _) _)).wide (by simp), fun f => ((HC.out.2 f).below ((Below.refl _ _).alloc (Nat.le_refl _) _)).wide (by simp)⟩).mono ?_
    rintro e w1 ⟨rfl, hb1⟩
    rw [HM.out]
    have HB1 := Lib.hid (more3 ((Below.refl w.heap.size w).alloc (Nat.le_refl _) _) (by simp) hb1)
    clear hb1
    go_wp2_with fail
    go_ret
    exact ⟨ret_str (by rw [HP.out]; rfl), HB1.out⟩
  · have HM := Lib.hid hm
    have HP := Lib.hid (print_eq hm)
    have hrises := ((mayC_iff l).1 hm).1
    have hds7 := rises_length hrises (by omega)
    have HDB := Lib.hid (rises_bd hrises)
    clear hrises hm
    obtain ⟨⟨dA, dn, dc⟩, y, m, t, h, i, s⟩ := c
    have HD : Hid (IntsAt w w.heap.size dA dn l.ds) := HC.out.1
    have hdn : dn ≤ 7 := by have := HD.out.1; omega
    clear hds7
    unfold Ch.cells
    go_enter Tryz.func20, Tryz.ntmps20
    go_wp2_with fail
    refine (MayCal_any ⟨⟨dA, dn, dc⟩, y, m, t, h, i, s⟩ l _ ⟨(HC.out.1.below ((Below.refl _ _).alloc (Nat.le_refl _) _)).wide (by simp), fun f => ((HC.out.2 f).below ((Below.refl _ _).alloc (Nat.le_refl _) _)).wide (by simp)⟩).mono ?_
    rintro e w1 ⟨rfl, hb1⟩
    rw [HM.out]
    have B1 : Hid (Blk w1 w.heap.size 26 #[.slice dA dn dc, .slice y.A y.n y.c, .slice m.A m.n m.c, .slice t.A t.n t.c, .slice h.A h.n h.c, .slice i.A i.n i.c, .slice s.A s.n s.c]) := (Blk.new w _ _).below hb1 (by simp)
    have HB1 := Lib.hid (more3 ((Below.refl w.heap.size w).alloc (Nat.le_refl _) _) (by simp) hb1)
    clear hb1
    have HD1 := Lib.hid (HD.out.below HB1.out)
    obtain ⟨c0, c1, c2, c3, c4, c5, c6⟩ := cells7c B1.out
    go_wp2_with fail
    go_loop [3, 15] (fun x i => ∃ (S : ByteArray) (k : Nat), k ≤ dn ∧ S.size ≤ 4 * k ∧ Hid (S = str (joinL 44 ((l.ds.take k).map dayL))) ∧ x = .string S ∧ i = .int .i64 k) (fun _ i => dn - (intOf i).toNat)
    case atStart => exact ⟨⟨#[]⟩, 0, Nat.zero_le _, Nat.zero_le _, by simp [Hid, joinL, str], rfl, rfl⟩
    case round =>
      obtain ⟨S, k, hk, hsz, hS, rfl, rfl⟩ := hrel
      by_cases hlt : k < dn
      · obtain ⟨ad, rfl, hbl, hcell⟩ := HD1.out.at_ hlt
        have hkl : k < l.ds.length := by rw [HD.out.1]; exact hlt
        have hge : l.ds[k]? = some (l.ds.getD k 0) := by simp [List.getD, List.getElem?_eq_getElem hkl]
        have hbd := HDB.out (l.ds.getD k 0) (List.mem_of_getElem? hge)
        have HJ := Lib.hid (join_take 44 dayL l.ds k _ hge)
        generalize l.ds.getD k 0 = d at hcell hbd HJ
        obtain ⟨d0, d1⟩ := hbd
        have hz3 : (str (dayL d)).size ≤ 3 := Nat.le_of_eq (dayL_length d)
        clear hkl hge
        by_cases hk0 : k = 0
        · subst hk0
          have hcell0 : w1.cell? ad = some (.int .i64 d) := by simpa [Addr.add] using hcell
          clear hcell
          have HN : Hid (S ++ str (dayL d) = str (joinL 44 ((l.ds.take (0 + 1)).map dayL))) := by
            show _ = _
            rw [HJ.out, if_pos rfl, hS.out]; rfl
          have hq := cat_size S (str (dayL d))
          have hq1 : (S ++ str (dayL d)).size ≤ 4 * (0 + 1) := by omega
          clear hq
          go_wp2_with fail
          refine (dayName_any d (by omega) (by omega) _).mono ?_
          rintro e w2 ⟨rfl, rfl⟩
          go_wp2_with fail
          go_round
          case rel => exact ⟨_, 0 + 1, by omega, hq1, HN, rfl, by go_num⟩
          case measure => simp [intOf]; omega
        · have hk1 : (0 : Int) < (k : Int) := by omega
          have HN : Hid (S ++ (⟨#[44]⟩ : ByteArray) ++ str (dayL d) = str (joinL 44 ((l.ds.take (k + 1)).map dayL))) := by
            show _ = _
            rw [HJ.out, if_neg hk0, hS.out, show (⟨#[44]⟩ : ByteArray) = str [44] from rfl, str_app, str_app]
            simp
          have hq0 := cat_size S (⟨#[44]⟩ : ByteArray)
          have hq := cat_size (S ++ (⟨#[44]⟩ : ByteArray)) (str (dayL d))
          have h44 : (⟨#[44]⟩ : ByteArray).size = 1 := rfl
          have hq1 : (S ++ (⟨#[44]⟩ : ByteArray) ++ str (dayL d)).size ≤ 4 * (k + 1) := by omega
          have hq2 : (S ++ (⟨#[44]⟩ : ByteArray)).size ≤ 4 * k + 1 := by omega
          clear hq hq0 h44 hk0
          go_wp2_with fail
          refine (dayName_any d (by omega) (by omega) _).mono ?_
          rintro e w2 ⟨rfl, rfl⟩
          go_wp2_with fail
          go_round
          case rel => exact ⟨_, k + 1, by omega, hq1, HN, rfl, by go_num⟩
          case measure => simp [intOf]; omega
      · obtain rfl : k = dn := by omega
        have hST : S = str (joinL 44 (l.ds.map dayL)) := by
          have := hS.out
          rw [List.take_of_length_le (by rw [HD.out.1]; exact Nat.le_refl _)] at this
          exact this
        obtain ⟨E, hE, hEz, hway⟩ : ∃ E : ByteArray, Hid (E = str (dayPart l)) ∧ E.size ≤ 29 ∧ ((S.toList.isEmpty = true ∧ Hid (E = S)) ∨ (S.toList.isEmpty = false ∧ Hid (E = S ++ (⟨#[32]⟩ : ByteArray)))) := by
          by_cases h0 : l.ds = []
          · refine ⟨S, ?_, by omega, .inl ⟨?_, rfl⟩⟩
            · show _ = _
              rw [hST]; unfold dayPart; rw [if_pos h0, h0]; rfl
            · rw [isEmpty_iff, hST, h0]; rfl
          · refine ⟨S ++ (⟨#[32]⟩ : ByteArray), ?_, ?_, .inr ⟨?_, rfl⟩⟩
            · show _ = _
              rw [hST, show (⟨#[32]⟩ : ByteArray) = str [32] from rfl, str_app]
              unfold dayPart; rw [if_neg h0]
            · rw [cat_size]; have h32 : (⟨#[32]⟩ : ByteArray).size = 1 := rfl; omega
            · rw [isEmpty_iff, hST, decide_eq_false]
              intro e
              rw [str_list] at e
              cases hd : l.ds with
              | nil => exact h0 hd
              | cons d r =>
                rw [hd] at e
                have := congrArg List.length e
                simp [joinL, dayL_length] at this
        clear hST hS hlt
        rcases hway with ⟨hway, hEE⟩ | ⟨hway, hEE⟩
        · go_wp2_with fail
          go_loopw [3, 6] (fun x g wr => ∃ (T : ByteArray) (f : Nat), f ≤ 6 ∧ T.size ≤ 29 + 65 * f ∧ Hid (T = str (dayPart l ++ accF l f)) ∧ x = .string T ∧ g = .int .i64 f ∧ Hid (Blk wr w.heap.size 26 #[.slice dA k dc, .slice y.A y.n y.c, .slice m.A m.n m.c, .slice t.A t.n t.c, .slice h.A h.n h.c, .slice i.A i.n i.c, .slice s.A s.n s.c]) ∧ Hid (Below w.heap.size w wr)) (fun x g wr => (6 - intOf g).toNat)
          case atStart => exact ⟨_, 0, by omega, (by have e := hEE.out; rw [← e]; exact hEz), by have e := hE.out; rw [hEE.out] at e; show _ = _; rw [accF, List.append_nil]; exact e, rfl, rfl, B1, HB1⟩
          case round =>
            obtain ⟨T, f, hf, hTz, hT, rfl, rfl, hB, hb⟩ := hrel
            by_cases hf6 : f < 6
            · have hf5 : f ≤ 5 := by omega
              have hmf := may_fld HM.out hf5
              have HMF := Lib.hid ((mayF_iff f (l.fld f)).1 hmf)
              have hfl := field_length hmf
              have hfl64 : (fieldL f (l.fld f)).length ≤ 64 := Nat.le_trans hfl (by split <;> omega)
              clear hfl hmf
              have hf65 : 29 + 65 * f ≤ 354 := by omega
              obtain ⟨c0, c1, c2, c3, c4, c5, c6⟩ := cells7c hB.out
              go_wp2_with fail
              refine (field_any ⟨⟨dA, k, dc⟩, y, m, t, h, i, s⟩ f hf5 _).mono ?_
              rintro e w2 ⟨rfl, hb2⟩
              have HPt := Lib.hid (HC.out.2 f)
              generalize Ch.fsl ⟨⟨dA, k, dc⟩, y, m, t, h, i, s⟩ f = Sg at HPt
              obtain ⟨A, n, cc⟩ := Sg
              dsimp only
              have HPt : Hid (PtsAt w w.heap.size A n (l.fld f)) := HPt
              have hn4 : n ≤ 4 := by have := HPt.out.1; have := HMF.out.1.2; omega
              have HB2 := Lib.hid (hB.out.below hb2 hB.out.lt)
              have Hb2 := Lib.hid (more3 hb.out hb.out.size hb2)
              clear hb2 c0 c1 c2 c3 c4 c5 c6
              go_wp2_with fail
              go_loopw [3, 41] (fun x g wr => ∃ (U : ByteArray) (j : Nat), j ≤ n ∧ U.size ≤ 29 + 65 * f + 16 * j ∧ Hid (U = str (dayPart l ++ accF l f ++ joinL 44 (((l.fld f).take j).map (ptL f)))) ∧ x = .string U ∧ g = .int .i64 j ∧ Hid (Blk wr w.heap.size 26 #[.slice dA k dc, .slice y.A y.n y.c, .slice m.A m.n m.c, .slice t.A t.n t.c, .slice h.A h.n h.c, .slice i.A i.n i.c, .slice s.A s.n s.c]) ∧ Hid (Below w.heap.size w wr)) (fun x g wr => n - (intOf g).toNat)
              case atStart => exact ⟨T, 0, Nat.zero_le _, by omega, by have e := hT.out; show _ = _; rw [List.take_zero, List.map_nil, joinL, List.append_nil]; exact e, rfl, rfl, HB2, Hb2⟩
              case round =>
                obtain ⟨U, j, hj, hUz, hU, rfl, rfl, hB2, hb2⟩ := hrel
                by_cases hjn : j < n
                · obtain ⟨ad, p, rfl, hbl, hlk, e0, e1, e2⟩ := (HPt.out.below hb2.out).at_ hjn
                  have hmp := HMF.out.2 p (List.mem_of_getElem? hlk)
                  have hpl := pt_length f p hmp
                  have hpz : (str (ptL f p)).size ≤ 15 := Nat.le_trans hpl (by split <;> omega)
                  have HJ := Lib.hid (join_take 44 (ptL f) (l.fld f) j p hlk)
                  have HMP := Lib.hid hmp
                  have hz : w.heap.size < wr.heap.size := hB2.out.lt
                  clear hlk hmp hpl
                  obtain ⟨pa, pb, ps⟩ := p
                  by_cases hj0 : j = 0
                  · subst hj0
                    have hadd : ad.add (0 * 3) = ad := by simp [Addr.add]
                    rw [hadd] at e0 e1 e2
                    have HN : Hid (U ++ str (ptL f ⟨pa, pb, ps⟩) = str (dayPart l ++ accF l f ++ joinL 44 (((l.fld f).take (0 + 1)).map (ptL f)))) := by
                      show _ = _
                      rw [HJ.out, if_pos rfl, hU.out, str_app]; simp [joinL]
                    have hq := cat_size U (str (ptL f ⟨pa, pb, ps⟩))
                    have hq1 : (U ++ str (ptL f ⟨pa, pb, ps⟩)).size ≤ 29 + 65 * f + 16 * (0 + 1) := by omega
                    clear hq hadd
                    go_wp2_with fail
                    refine (partText_any ⟨pa, pb, ps⟩ f HMP.out _).mono ?_
                    rintro e w3 ⟨rfl, hb3⟩
                    have HB3 := Lib.hid ((hB2.out.alloc _).below hb3 (hB2.out.alloc _).lt)
                    have Hb3 := Lib.hid (more3 (hb2.out.alloc hb2.out.size _) (by have := hb2.out.size; simp; omega) hb3)
                    clear hb3 e0 e1 e2
                    go_wp2_with fail
                    go_roundw
                    case rel => exact ⟨_, 0 + 1, by omega, hq1, HN, rfl, by go_num, HB3, Hb3⟩
                    case measure => simp [intOf]; omega
                  · have hj1 : (0 : Int) < (j : Int) := by omega
                    have HN : Hid (U ++ (⟨#[44]⟩ : ByteArray) ++ str (ptL f ⟨pa, pb, ps⟩) = str (dayPart l ++ accF l f ++ joinL 44 (((l.fld f).take (j + 1)).map (ptL f)))) := by
                      show _ = _
                      rw [HJ.out, if_neg hj0, hU.out, show (⟨#[44]⟩ : ByteArray) = str [44] from rfl, str_app, str_app]; simp
                    have hq0 := cat_size U (⟨#[44]⟩ : ByteArray)
                    have hq := cat_size (U ++ (⟨#[44]⟩ : ByteArray)) (str (ptL f ⟨pa, pb, ps⟩))
                    have h44 : (⟨#[44]⟩ : ByteArray).size = 1 := rfl
                    have hq1 : (U ++ (⟨#[44]⟩ : ByteArray) ++ str (ptL f ⟨pa, pb, ps⟩)).size ≤ 29 + 65 * f + 16 * (j + 1) := by omega
                    have hq2 : (U ++ (⟨#[44]⟩ : ByteArray)).size ≤ 29 + 65 * f + 16 * j + 1 := by omega
                    clear hq hq0 h44 hj0
                    go_wp2_with fail
                    refine (partText_any ⟨pa, pb, ps⟩ f HMP.out _).mono ?_
                    rintro e w3 ⟨rfl, hb3⟩
                    have HB3 := Lib.hid ((hB2.out.alloc _).below hb3 (hB2.out.alloc _).lt)
                    have Hb3 := Lib.hid (more3 (hb2.out.alloc hb2.out.size _) (by have := hb2.out.size; simp; omega) hb3)
                    clear hb3 e0 e1 e2
                    go_wp2_with fail
                    go_roundw
                    case rel => exact ⟨_, j + 1, by omega, hq1, HN, rfl, by go_num, HB3, Hb3⟩
                    case measure => simp [intOf]; omega
                · obtain rfl : j = n := by omega
                  have HF : Hid (U = str (dayPart l ++ accF l f ++ fieldL f (l.fld f))) := by
                    have e := hU.out
                    rw [List.take_of_length_le (by rw [HPt.out.1]; exact Nat.le_refl _)] at e
                    exact e
                  have hUz2 : U.size ≤ 29 + 65 * f + 64 := by omega
                  clear hj hjn hUz hU
                  rcases f_cases hf5 with rfl | rfl | rfl | rfl | rfl | rfl
                  · have HN : Hid (U ++ (⟨#[45]⟩ : ByteArray) = str (dayPart l ++ accF l (0 + 1))) := by
                      show _ = _
                      rw [HF.out, show (⟨#[45]⟩ : ByteArray) = str [45] from rfl, str_app]
                      simp [accF, sepE]
                    have hq := cat_size U (⟨#[45]⟩ : ByteArray)
                    have hq0 : (⟨#[45]⟩ : ByteArray).size = 1 := rfl
                    have hq1 : (U ++ (⟨#[45]⟩ : ByteArray)).size ≤ 29 + 65 * (0 + 1) := by omega
                    clear hq hq0
                    go_wp2_with fail
                    go_roundw
                    case rel => exact ⟨_, 0 + 1, by omega, hq1, HN, rfl, by go_num, hB2.out.alloc _, hb2.out.alloc hb2.out.size _⟩
                    case measure => simp [intOf]
                  · have HN : Hid (U ++ (⟨#[45]⟩ : ByteArray) = str (dayPart l ++ accF l (1 + 1))) := by
                      show _ = _
                      rw [HF.out, show (⟨#[45]⟩ : ByteArray) = str [45] from rfl, str_app]
                      simp [accF, sepE]
                    have hq := cat_size U (⟨#[45]⟩ : ByteArray)
                    have hq0 : (⟨#[45]⟩ : ByteArray).size = 1 := rfl
                    have hq1 : (U ++ (⟨#[45]⟩ : ByteArray)).size ≤ 29 + 65 * (1 + 1) := by omega
                    clear hq hq0
                    go_wp2_with fail
                    go_roundw
                    case rel => exact ⟨_, 1 + 1, by omega, hq1, HN, rfl, by go_num, hB2.out.alloc _, hb2.out.alloc hb2.out.size _⟩
                    case measure => simp [intOf]
                  · have HN : Hid (U ++ (⟨#[32]⟩ : ByteArray) = str (dayPart l ++ accF l (2 + 1))) := by
                      show _ = _
                      rw [HF.out, show (⟨#[32]⟩ : ByteArray) = str [32] from rfl, str_app]
                      simp [accF, sepE]
                    have hq := cat_size U (⟨#[32]⟩ : ByteArray)
                    have hq0 : (⟨#[32]⟩ : ByteArray).size = 1 := rfl
                    have hq1 : (U ++ (⟨#[32]⟩ : ByteArray)).size ≤ 29 + 65 * (2 + 1) := by omega
                    clear hq hq0
                    go_wp2_with fail
                    go_roundw
                    case rel => exact ⟨_, 2 + 1, by omega, hq1, HN, rfl, by go_num, hB2.out.alloc _, hb2.out.alloc hb2.out.size _⟩
                    case measure => simp [intOf]
                  · have HN : Hid (U ++ (⟨#[58]⟩ : ByteArray) = str (dayPart l ++ accF l (3 + 1))) := by
                      show _ = _
                      rw [HF.out, show (⟨#[58]⟩ : ByteArray) = str [58] from rfl, str_app]
                      simp [accF, sepE]
                    have hq := cat_size U (⟨#[58]⟩ : ByteArray)
                    have hq0 : (⟨#[58]⟩ : ByteArray).size = 1 := rfl
                    have hq1 : (U ++ (⟨#[58]⟩ : ByteArray)).size ≤ 29 + 65 * (3 + 1) := by omega
                    clear hq hq0
                    go_wp2_with fail
                    go_roundw
                    case rel => exact ⟨_, 3 + 1, by omega, hq1, HN, rfl, by go_num, hB2.out.alloc _, hb2.out.alloc hb2.out.size _⟩
                    case measure => simp [intOf]
                  · have HN : Hid (U ++ (⟨#[58]⟩ : ByteArray) = str (dayPart l ++ accF l (4 + 1))) := by
                      show _ = _
                      rw [HF.out, show (⟨#[58]⟩ : ByteArray) = str [58] from rfl, str_app]
                      simp [accF, sepE]
                    have hq := cat_size U (⟨#[58]⟩ : ByteArray)
                    have hq0 : (⟨#[58]⟩ : ByteArray).size = 1 := rfl
                    have hq1 : (U ++ (⟨#[58]⟩ : ByteArray)).size ≤ 29 + 65 * (4 + 1) := by omega
                    clear hq hq0
                    go_wp2_with fail
                    go_roundw
                    case rel => exact ⟨_, 4 + 1, by omega, hq1, HN, rfl, by go_num, hB2.out.alloc _, hb2.out.alloc hb2.out.size _⟩
                    case measure => simp [intOf]
                  · have HN : Hid (U ++ (⟨#[]⟩ : ByteArray) = str (dayPart l ++ accF l (5 + 1))) := by
                      show _ = _
                      rw [HF.out, show (⟨#[]⟩ : ByteArray) = str [] from rfl, str_app]
                      simp [accF, sepE]
                    have hq := cat_size U (⟨#[]⟩ : ByteArray)
                    have hq0 : (⟨#[]⟩ : ByteArray).size = 0 := rfl
                    have hq1 : (U ++ (⟨#[]⟩ : ByteArray)).size ≤ 29 + 65 * (5 + 1) := by omega
                    clear hq hq0
                    go_wp2_with fail
                    go_roundw
                    case rel => exact ⟨_, 5 + 1, by omega, hq1, HN, rfl, by go_num, hB2.out.alloc _, hb2.out.alloc hb2.out.size _⟩
                    case measure => simp [intOf]
            · obtain rfl : f = 6 := by omega
              clear hf hf6
              go_wp2_with fail
              go_ret
              exact ⟨ret_str (by rw [HP.out, hT.out]), hb.out⟩
        · go_wp2_with fail
          go_loopw [3, 6] (fun x g wr => ∃ (T : ByteArray) (f : Nat), f ≤ 6 ∧ T.size ≤ 29 + 65 * f ∧ Hid (T = str (dayPart l ++ accF l f)) ∧ x = .string T ∧ g = .int .i64 f ∧ Hid (Blk wr w.heap.size 26 #[.slice dA k dc, .slice y.A y.n y.c, .slice m.A m.n m.c, .slice t.A t.n t.c, .slice h.A h.n h.c, .slice i.A i.n i.c, .slice s.A s.n s.c]) ∧ Hid (Below w.heap.size w wr)) (fun x g wr => (6 - intOf g).toNat)
          case atStart => exact ⟨_, 0, by omega, (by have e := hEE.out; rw [← e]; exact hEz), by have e := hE.out; rw [hEE.out] at e; show _ = _; rw [accF, List.append_nil]; exact e, rfl, rfl, B1, HB1⟩
          case round =>
            obtain ⟨T, f, hf, hTz, hT, rfl, rfl, hB, hb⟩ := hrel
            by_cases hf6 : f < 6
            · have hf5 : f ≤ 5 := by omega
              have hmf := may_fld HM.out hf5
              have HMF := Lib.hid ((mayF_iff f (l.fld f)).1 hmf)
              have hfl := field_length hmf
              have hfl64 : (fieldL f (l.fld f)).length ≤ 64 := Nat.le_trans hfl (by split <;> omega)
              clear hfl hmf
              have hf65 : 29 + 65 * f ≤ 354 := by omega
              obtain ⟨c0, c1, c2, c3, c4, c5, c6⟩ := cells7c hB.out
              go_wp2_with fail
              refine (field_any ⟨⟨dA, k, dc⟩, y, m, t, h, i, s⟩ f hf5 _).mono ?_
              rintro e w2 ⟨rfl, hb2⟩
              have HPt := Lib.hid (HC.out.2 f)
              generalize Ch.fsl ⟨⟨dA, k, dc⟩, y, m, t, h, i, s⟩ f = Sg at HPt
              obtain ⟨A, n, cc⟩ := Sg
              dsimp only
              have HPt : Hid (PtsAt w w.heap.size A n (l.fld f)) := HPt
              have hn4 : n ≤ 4 := by have := HPt.out.1; have := HMF.out.1.2; omega
              have HB2 := Lib.hid (hB.out.below hb2 hB.out.lt)
              have Hb2 := Lib.hid (more3 hb.out hb.out.size hb2)
              clear hb2 c0 c1 c2 c3 c4 c5 c6
              go_wp2_with fail
              go_loopw [3, 41] (fun x g wr => ∃ (U : ByteArray) (j : Nat), j ≤ n ∧ U.size ≤ 29 + 65 * f + 16 * j ∧ Hid (U = str (dayPart l ++ accF l f ++ joinL 44 (((l.fld f).take j).map (ptL f)))) ∧ x = .string U ∧ g = .int .i64 j ∧ Hid (Blk wr w.heap.size 26 #[.slice dA k dc, .slice y.A y.n y.c, .slice m.A m.n m.c, .slice t.A t.n t.c, .slice h.A h.n h.c, .slice i.A i.n i.c, .slice s.A s.n s.c]) ∧ Hid (Below w.heap.size w wr)) (fun x g wr => n - (intOf g).toNat)
              case atStart => exact ⟨T, 0, Nat.zero_le _, by omega, by have e := hT.out; show _ = _; rw [List.take_zero, List.map_nil, joinL, List.append_nil]; exact e, rfl, rfl, HB2, Hb2⟩
              case round =>
                obtain ⟨U, j, hj, hUz, hU, rfl, rfl, hB2, hb2⟩ := hrel
                by_cases hjn : j < n
                · obtain ⟨ad, p, rfl, hbl, hlk, e0, e1, e2⟩ := (HPt.out.below hb2.out).at_ hjn
                  have hmp := HMF.out.2 p (List.mem_of_getElem? hlk)
                  have hpl := pt_length f p hmp
                  have hpz : (str (ptL f p)).size ≤ 15 := Nat.le_trans hpl (by split <;> omega)
                  have HJ := Lib.hid (join_take 44 (ptL f) (l.fld f) j p hlk)
                  have HMP := Lib.hid hmp
                  have hz : w.heap.size < wr.heap.size := hB2.out.lt
                  clear hlk hmp hpl
                  obtain ⟨pa, pb, ps⟩ := p
                  by_cases hj0 : j = 0
                  · subst hj0
                    have hadd : ad.add (0 * 3) = ad := by simp [Addr.add]
                    rw [hadd] at e0 e1 e2
                    have HN : Hid (U ++ str (ptL f ⟨pa, pb, ps⟩) = str (dayPart l ++ accF l f ++ joinL 44 (((l.fld f).take (0 + 1)).map (ptL f)))) := by
                      show _ = _
                      rw [HJ.out, if_pos rfl, hU.out, str_app]; simp [joinL]
                    have hq := cat_size U (str (ptL f ⟨pa, pb, ps⟩))
                    have hq1 : (U ++ str (ptL f ⟨pa, pb, ps⟩)).size ≤ 29 + 65 * f + 16 * (0 + 1) := by omega
                    clear hq hadd
                    go_wp2_with fail
                    refine (partText_any ⟨pa, pb, ps⟩ f HMP.out _).mono ?_
                    rintro e w3 ⟨rfl, hb3⟩
                    have HB3 := Lib.hid ((hB2.out.alloc _).below hb3 (hB2.out.alloc _).lt)
                    have Hb3 := Lib.hid (more3 (hb2.out.alloc hb2.out.size _) (by have := hb2.out.size; simp; omega) hb3)
                    clear hb3 e0 e1 e2
                    go_wp2_with fail
                    go_roundw
                    case rel => exact ⟨_, 0 + 1, by omega, hq1, HN, rfl, by go_num, HB3, Hb3⟩
                    case measure => simp [intOf]; omega
                  · have hj1 : (0 : Int) < (j : Int) := by omega
                    have HN : Hid (U ++ (⟨#[44]⟩ : ByteArray) ++ str (ptL f ⟨pa, pb, ps⟩) = str (dayPart l ++ accF l f ++ joinL 44 (((l.fld f).take (j + 1)).map (ptL f)))) := by
                      show _ = _
                      rw [HJ.out, if_neg hj0, hU.out, show (⟨#[44]⟩ : ByteArray) = str [44] from rfl, str_app, str_app]; simp
                    have hq0 := cat_size U (⟨#[44]⟩ : ByteArray)
                    have hq := cat_size (U ++ (⟨#[44]⟩ : ByteArray)) (str (ptL f ⟨pa, pb, ps⟩))
                    have h44 : (⟨#[44]⟩ : ByteArray).size = 1 := rfl
                    have hq1 : (U ++ (⟨#[44]⟩ : ByteArray) ++ str (ptL f ⟨pa, pb, ps⟩)).size ≤ 29 + 65 * f + 16 * (j + 1) := by omega
                    have hq2 : (U ++ (⟨#[44]⟩ : ByteArray)).size ≤ 29 + 65 * f + 16 * j + 1 := by omega
                    clear hq hq0 h44 hj0
                    go_wp2_with fail
                    refine (partText_any ⟨pa, pb, ps⟩ f HMP.out _).mono ?_
                    rintro e w3 ⟨rfl, hb3⟩
                    have HB3 := Lib.hid ((hB2.out.alloc _).below hb3 (hB2.out.alloc _).lt)
                    have Hb3 := Lib.hid (more3 (hb2.out.alloc hb2.out.size _) (by have := hb2.out.size; simp; omega) hb3)
                    clear hb3 e0 e1 e2
                    go_wp2_with fail
                    go_roundw
                    case rel => exact ⟨_, j + 1, by omega, hq1, HN, rfl, by go_num, HB3, Hb3⟩
                    case measure => simp [intOf]; omega
                · obtain rfl : j = n := by omega
                  have HF : Hid (U = str (dayPart l ++ accF l f ++ fieldL f (l.fld f))) := by
                    have e := hU.out
                    rw [List.take_of_length_le (by rw [HPt.out.1]; exact Nat.le_refl _)] at e
                    exact e
                  have hUz2 : U.size ≤ 29 + 65 * f + 64 := by omega
                  clear hj hjn hUz hU
                  rcases f_cases hf5 with rfl | rfl | rfl | rfl | rfl | rfl
                  · have HN : Hid (U ++ (⟨#[45]⟩ : ByteArray) = str (dayPart l ++ accF l (0 + 1))) := by
                      show _ = _
                      rw [HF.out, show (⟨#[45]⟩ : ByteArray) = str [45] from rfl, str_app]
                      simp [accF, sepE]
                    have hq := cat_size U (⟨#[45]⟩ : ByteArray)
                    have hq0 : (⟨#[45]⟩ : ByteArray).size = 1 := rfl
                    have hq1 : (U ++ (⟨#[45]⟩ : ByteArray)).size ≤ 29 + 65 * (0 + 1) := by omega
                    clear hq hq0
                    go_wp2_with fail
                    go_roundw
                    case rel => exact ⟨_, 0 + 1, by omega, hq1, HN, rfl, by go_num, hB2.out.alloc _, hb2.out.alloc hb2.out.size _⟩
                    case measure => simp [intOf]
                  · have HN : Hid (U ++ (⟨#[45]⟩ : ByteArray) = str (dayPart l ++ accF l (1 + 1))) := by
                      show _ = _
                      rw [HF.out, show (⟨#[45]⟩ : ByteArray) = str [45] from rfl, str_app]
                      simp [accF, sepE]
                    have hq := cat_size U (⟨#[45]⟩ : ByteArray)
                    have hq0 : (⟨#[45]⟩ : ByteArray).size = 1 := rfl
                    have hq1 : (U ++ (⟨#[45]⟩ : ByteArray)).size ≤ 29 + 65 * (1 + 1) := by omega
                    clear hq hq0
                    go_wp2_with fail
                    go_roundw
                    case rel => exact ⟨_, 1 + 1, by omega, hq1, HN, rfl, by go_num, hB2.out.alloc _, hb2.out.alloc hb2.out.size _⟩
                    case measure => simp [intOf]
                  · have HN : Hid (U ++ (⟨#[32]⟩ : ByteArray) = str (dayPart l ++ accF l (2 + 1))) := by
                      show _ = _
                      rw [HF.out, show (⟨#[32]⟩ : ByteArray) = str [32] from rfl, str_app]
                      simp [accF, sepE]
                    have hq := cat_size U (⟨#[32]⟩ : ByteArray)
                    have hq0 : (⟨#[32]⟩ : ByteArray).size = 1 := rfl
                    have hq1 : (U ++ (⟨#[32]⟩ : ByteArray)).size ≤ 29 + 65 * (2 + 1) := by omega
                    clear hq hq0
                    go_wp2_with fail
                    go_roundw
                    case rel => exact ⟨_, 2 + 1, by omega, hq1, HN, rfl, by go_num, hB2.out.alloc _, hb2.out.alloc hb2.out.size _⟩
                    case measure => simp [intOf]
                  · have HN : Hid (U ++ (⟨#[58]⟩ : ByteArray) = str (dayPart l ++ accF l (3 + 1))) := by
                      show _ = _
                      rw [HF.out, show (⟨#[58]⟩ : ByteArray) = str [58] from rfl, str_app]
                      simp [accF, sepE]
                    have hq := cat_size U (⟨#[58]⟩ : ByteArray)
                    have hq0 : (⟨#[58]⟩ : ByteArray).size = 1 := rfl
                    have hq1 : (U ++ (⟨#[58]⟩ : ByteArray)).size ≤ 29 + 65 * (3 + 1) := by omega
                    clear hq hq0
                    go_wp2_with fail
                    go_roundw
                    case rel => exact ⟨_, 3 + 1, by omega, hq1, HN, rfl, by go_num, hB2.out.alloc _, hb2.out.alloc hb2.out.size _⟩
                    case measure => simp [intOf]
                  · have HN : Hid (U ++ (⟨#[58]⟩ : ByteArray) = str (dayPart l ++ accF l (4 + 1))) := by
                      show _ = _
                      rw [HF.out, show (⟨#[58]⟩ : ByteArray) = str [58] from rfl, str_app]
                      simp [accF, sepE]
                    have hq := cat_size U (⟨#[58]⟩ : ByteArray)
                    have hq0 : (⟨#[58]⟩ : ByteArray).size = 1 := rfl
                    have hq1 : (U ++ (⟨#[58]⟩ : ByteArray)).size ≤ 29 + 65 * (4 + 1) := by omega
                    clear hq hq0
                    go_wp2_with fail
                    go_roundw
                    case rel => exact ⟨_, 4 + 1, by omega, hq1, HN, rfl, by go_num, hB2.out.alloc _, hb2.out.alloc hb2.out.size _⟩
                    case measure => simp [intOf]
                  · have HN : Hid (U ++ (⟨#[]⟩ : ByteArray) = str (dayPart l ++ accF l (5 + 1))) := by
                      show _ = _
                      rw [HF.out, show (⟨#[]⟩ : ByteArray) = str [] from rfl, str_app]
                      simp [accF, sepE]
                    have hq := cat_size U (⟨#[]⟩ : ByteArray)
                    have hq0 : (⟨#[]⟩ : ByteArray).size = 0 := rfl
                    have hq1 : (U ++ (⟨#[]⟩ : ByteArray)).size ≤ 29 + 65 * (5 + 1) := by omega
                    clear hq hq0
                    go_wp2_with fail
                    go_roundw
                    case rel => exact ⟨_, 5 + 1, by omega, hq1, HN, rfl, by go_num, hB2.out.alloc _, hb2.out.alloc hb2.out.size _⟩
                    case measure => simp [intOf]
            · obtain rfl : f = 6 := by omega
              clear hf hf6
              go_wp2_with fail
              go_ret
              exact ⟨ret_str (by rw [HP.out, hT.out]), hb.out⟩
end Go.Proofs.YtnbdcjohibfjaaaGreatDoor
namespace Go.Proofs.YtnbdcjohibfjaaaGreatDoor
open Go.RowKit

def numI (l : List UInt8) : Int := match numL l with
  | some n => n
  | none => -1
theorem numI_long {l : List UInt8} (h : l.length < 1 ∨ 4 < l.length) : numI l = -1 := by
  unfold numI numL; rw [if_neg (by omega)]
theorem numI_bad {l : List UInt8} {k : Nat} (h : k < l.length) (hd : isDig (l[k]'h) = false) : numI l = -1 := by
  unfold numI numL
  rw [if_neg]
  rintro ⟨_, _, h3⟩
  have := List.all_eq_true.1 h3 (l[k]'h) (List.getElem_mem h)
  rw [hd] at this; cases this
theorem numI_ok {l : List UInt8} (h0 : 1 ≤ l.length) (h4 : l.length ≤ 4) (h : ∀ c ∈ l, isDig c = true) : numI l = valL l := by
  unfold numI numL
  rw [if_pos ⟨h0, h4, List.all_eq_true.2 h⟩]
theorem val_snoc (l : List UInt8) (c : UInt8) : valL (l ++ [c]) = 10 * valL l + (c.toNat - 48) := by
  unfold valL; rw [List.foldl_append, List.foldl_cons, List.foldl_nil]

set_option maxHeartbeats 2000000 in
theorem number_any (s : ByteArray) (hs : s.size ≤ 4194304) (w : World) :
    Calls Tryz.prog 85 #[.string s] w fun e w' => e = .returned (.int .i64 (numI s.data.toList)) ∧ w = w' := by
  have hlen := size_list s
  by_cases h1 : s.size < 1
  · have HN := Lib.hid (numI_long (l := s.data.toList) (.inl (by omega)))
    have h1' : (s.size : Int) < 1 := by omega
    clear hlen h1
    go_enter Tryz.func85, Tryz.ntmps85
    go_wp2_with fail
    go_ret
    exact ⟨ret_int (by rw [HN.out]), rfl⟩
  by_cases h4 : 4 < s.size
  · have HN := Lib.hid (numI_long (l := s.data.toList) (.inr (by omega)))
    have h1' : (1 : Int) ≤ (s.size : Int) := by omega
    have h4' : (4 : Int) < (s.size : Int) := by omega
    have u1 : (0 : Nat) ≤ 1 := Nat.zero_le _
    clear hlen h1 h4
    go_enter Tryz.func85, Tryz.ntmps85
    go_wp2_with fail
    go_ret
    exact ⟨ret_int (by rw [HN.out]), rfl⟩
  have h1' : (1 : Int) ≤ (s.size : Int) := by omega
  have h4' : (s.size : Int) ≤ 4 := by omega
  have u1 : (0 : Nat) ≤ 1 := Nat.zero_le _
  have u2 : (0 : Nat) ≤ 2 := Nat.zero_le _
  have HL := Lib.hid hlen
  clear hlen h1 h4
  go_enter Tryz.func85, Tryz.ntmps85
  go_wp2_with fail
  go_loop [3, 4] (fun n i => ∃ (k v : Nat), k ≤ s.size ∧ v < 10 ^ k ∧ i = .int .i64 k ∧ n = .int .i64 v ∧ Hid (v = valL (s.data.toList.take k)) ∧ Hid (∀ c ∈ s.data.toList.take k, isDig c = true)) (fun _ i => s.size - (intOf i).toNat)
  case atStart => exact ⟨0, 0, Nat.zero_le _, by omega, rfl, rfl, by simp [Hid, valL], by intro c hc; simp at hc⟩
  case round =>
    obtain ⟨k, v, hk, hv, rfl, rfl, hval, hdig⟩ := hrel
    have hv4 : v < 10000 := Nat.lt_of_lt_of_le hv (Nat.le_trans (Nat.pow_le_pow_right (by omega) (show k ≤ 4 by omega)) (by decide))
    have HV := Lib.hid hv
    clear hv
    by_cases hlt : k < s.size
    · have b0 : (0 : Int) ≤ (k : Int) := by omega
      have b1 : (k : Int) < (s.size : Int) := by omega
      have hr := s[k].toNat_lt
      have HT := Lib.hid (take_at s k hlt)
      rcases hg : isDig s[k] with _ | _
      · have HN := Lib.hid (numI_bad (l := s.data.toList) (k := k) (by rw [HL.out]; exact hlt) (by exact hg))
        have HG := Lib.hid hg
        clear hg
        go_wp2_with fail
        refine (Digit_any s[k] _).mono ?_
        rintro e w1 ⟨rfl, rfl⟩
        rw [HG.out]
        go_wp2_with fail
        go_ret
        exact ⟨ret_int (by rw [HN.out]), rfl⟩
      · have hd : 48 ≤ s[k].toNat ∧ s[k].toNat ≤ 57 := by simpa [isDig, Bool.and_eq_true] using hg
        obtain ⟨d0, d1⟩ := hd
        have d0' : (48 : Int) ≤ (s[k].toNat : Int) := by omega
        have d1' : (s[k].toNat : Int) ≤ 57 := by omega
        have HG := Lib.hid hg
        have HV1 : Hid (v * 10 + (s[k].toNat - 48) < 10 ^ (k + 1)) := by
          have := HV.out
          show _ < _
          rw [Nat.pow_succ]; omega
        have HW : Hid (v * 10 + (s[k].toNat - 48) = valL (s.data.toList.take (k + 1))) := by
          show _ = _
          rw [HT.out, val_snoc, ← hval.out]; omega
        have HD1 : Hid (∀ c ∈ s.data.toList.take (k + 1), isDig c = true) := by
          intro c hc
          rw [HT.out] at hc
          rcases List.mem_append.1 hc with hc | hc
          · exact hdig.out c hc
          · rw [List.mem_singleton.1 hc]; exact HG.out
        clear hg d0 d1
        go_wp2_with fail
        refine (Digit_any s[k] _).mono ?_
        rintro e w1 ⟨rfl, rfl⟩
        rw [HG.out]
        go_wp2_with fail
        go_round
        case rel => exact ⟨k + 1, v * 10 + (s[k].toNat - 48), by omega, HV1.out, by go_num, by congr 1; omega, HW, HD1⟩
        case measure => simp [intOf]; omega
    · obtain rfl : k = s.size := by omega
      have HN : Hid (numI s.data.toList = v) := by
        have a := hval.out
        have b := hdig.out
        rw [List.take_of_length_le (by rw [HL.out]; exact Nat.le_refl _)] at a b
        show _ = _
        rw [numI_ok (by rw [HL.out]; omega) (by rw [HL.out]; omega) b, a]
      clear hlt
      go_wp2_with fail
      go_ret
      exact ⟨ret_int (by rw [HN.out]), rfl⟩

/-- Where the first two points stand; -1: nowhere. -/
def ptsI (l : List UInt8) : Int := match cutDots l with
  | some (x, _) => x.length
  | none => -1
theorem cut_spec {l x y : List UInt8} (h : cutDots l = some (x, y)) : l = x ++ 46 :: 46 :: y := by
  induction l generalizing x y with
  | nil => cases h
  | cons c l ih =>
    rw [cutDots] at h
    split at h
    · next hc =>
      obtain ⟨rfl, h2⟩ := hc
      have h' := Option.some.inj h
      cases l with
      | nil => cases h2
      | cons d r =>
        simp only [List.head?_cons, Option.some.injEq] at h2
        simp only [List.tail_cons, Prod.mk.injEq] at h'
        rw [← h'.1, ← h'.2, h2]; rfl
    · cases hr : cutDots l with
      | none => rw [hr] at h; cases h
      | some z =>
        rw [hr] at h
        have h' := Option.some.inj h
        simp only [Prod.mk.injEq] at h'
        rw [← h'.1, ← h'.2, List.cons_append, ← ih (x := z.1) (y := z.2) hr]
def cutAt (l : List UInt8) (k : Nat) : Prop := cutDots l = (cutDots (l.drop k)).map fun z => (l.take k ++ z.1, z.2)
theorem cutAt_zero (l : List UInt8) : cutAt l 0 := by
  unfold cutAt
  rw [List.drop_zero, List.take_zero]
  cases cutDots l <;> rfl
theorem cutAt_next {s : ByteArray} {k : Nat} (h : cutAt s.data.toList k) (hk : k + 1 < s.size) (hn : ¬ (s[k] = 46 ∧ s[k + 1] = 46)) : cutAt s.data.toList (k + 1) := by
  unfold cutAt at *
  rw [h, drop_at s k (by omega), cutDots, if_neg (by
    rw [drop_at s (k + 1) hk]
    rintro ⟨a, b⟩
    exact hn ⟨a, by simpa using b⟩), take_at s k (by omega)]
  cases cutDots (s.data.toList.drop (k + 1)) <;> simp
theorem cutAt_yes {s : ByteArray} {k : Nat} (h : cutAt s.data.toList k) (hk : k + 1 < s.size) (h0 : s[k] = 46) (h1 : s[k + 1] = 46) : ptsI s.data.toList = k := by
  unfold cutAt at h
  unfold ptsI
  rw [h, drop_at s k (by omega), drop_at s (k + 1) hk, cutDots, if_pos ⟨h0, by rw [h1]; rfl⟩]
  simp only [Option.map_some, List.append_nil]
  rw [List.length_take, size_list]
  omega
theorem cutAt_no {s : ByteArray} {k : Nat} (h : cutAt s.data.toList k) (hk : s.size ≤ k + 1) : ptsI s.data.toList = -1 := by
  unfold cutAt at h
  unfold ptsI
  have e : cutDots (s.data.toList.drop k) = none := by
    by_cases hk2 : k < s.size
    · rw [drop_at s k hk2, List.drop_of_length_le (by rw [size_list]; omega)]
      simp [cutDots]
    · rw [List.drop_of_length_le (by rw [size_list]; omega)]; rfl
  rw [h, e]; rfl
theorem two_slice (s : ByteArray) (k : Nat) (h : k + 1 < s.size) : (s.extract k (k + 2)).toList = [s[k], s[k + 1]] := by
  rw [Lib.toList_data, Lib.extract_data, show k + 2 - k = 2 by omega, drop_at s k (by omega), drop_at s (k + 1) h]
  rfl

set_option maxHeartbeats 2000000 in
theorem points_any (s : ByteArray) (hs : s.size ≤ 4194304) (w : World) :
    Calls Tryz.prog 86 #[.string s] w fun e w' => e = .returned (.int .i64 (ptsI s.data.toList)) ∧ w = w' := by
  go_enter Tryz.func86, Tryz.ntmps86
  go_wp2_with fail
  go_loop [3] (fun i => ∃ k : Nat, k ≤ s.size ∧ i = .int .i64 k ∧ Hid (cutAt s.data.toList k)) (fun i => s.size - (intOf i).toNat)
  case atStart => exact ⟨0, Nat.zero_le _, rfl, cutAt_zero _⟩
  case round =>
    obtain ⟨k, hk, rfl, hc⟩ := hrel
    by_cases hlt : k + 1 < s.size
    · have b0 : (0 : Int) ≤ (k : Int) := by omega
      have b1 : (k : Int) + 1 < (s.size : Int) := by omega
      have b2 : (k : Int) ≤ (k : Int) + 2 := by omega
      have b3 : (k : Int) + 2 ≤ (s.size : Int) := by omega
      have hsl := two_slice s k hlt
      by_cases hd : s[k] = 46 ∧ s[k + 1] = 46
      · have HN := Lib.hid (cutAt_yes hc.out hlt hd.1 hd.2)
        have e : ((s.extract k (k + 2)).toList == [46, 46]) = true := by rw [hsl, hd.1, hd.2]; rfl
        clear hsl hd
        go_wp2_with fail
        go_ret
        exact ⟨ret_int (by rw [HN.out]), rfl⟩
      · have HN := Lib.hid (cutAt_next hc.out hlt hd)
        have e : ((s.extract k (k + 2)).toList == [46, 46]) = false := by
          rw [hsl]
          simp only [beq_eq_false_iff_ne]
          intro e
          injection e with e0 e1
          injection e1 with e1 _
          exact hd ⟨e0, e1⟩
        clear hsl hd
        go_wp2_with fail
        go_round
        case rel => exact ⟨k + 1, by omega, by go_num, HN⟩
        case measure => simp [intOf]; omega
    · have HN := Lib.hid (cutAt_no hc.out (by omega))
      have b1 : (s.size : Int) ≤ (k : Int) + 1 := by omega
      clear hlt
      go_wp2_with fail
      go_ret
      exact ⟨ret_int (by rw [HN.out]), rfl⟩

set_option maxHeartbeats 4000000 in
theorem weekday_any (c : Ch) (l : Cl) (d : Int) (w : World) (hc : CalAt w w.heap.size c l) :
    Calls Tryz.prog 50 #[.agg c.cells, .int .i64 d] w fun e w' => e = .returned (.bool (dayB l.ds d)) ∧ Below w.heap.size w w' := by
  have HC := Lib.hid hc
  clear hc
  obtain ⟨⟨dA, dn, dc⟩, y, m, t, h, i, s⟩ := c
  have HD : Hid (IntsAt w w.heap.size dA dn l.ds) := HC.out.1
  have hn := HD.out.2.1
  unfold maxLen at hn
  obtain ⟨em, hem⟩ : ∃ em : Bool, (((dn : Int) == 0) = em) := ⟨_, rfl⟩
  have HE : Hid (l.ds.isEmpty = em) := by
    show _ = _
    rw [← hem, ← HD.out.1]
    cases l.ds <;> simp
    omega
  unfold Ch.cells
  go_enter Tryz.func50, Tryz.ntmps50
  go_wp2_with fail
  go_loop [5, 15] (fun x i => ∃ (k : Nat) (b : Bool), k ≤ dn ∧ i = .int .i64 k ∧ x = .bool b ∧ Hid (b = (l.ds.isEmpty || (l.ds.take k).contains d))) (fun _ i => dn - (intOf i).toNat)
  case atStart => exact ⟨0, em, Nat.zero_le _, rfl, rfl, by show _ = _; rw [HE.out]; simp⟩
  case round =>
    obtain ⟨k, b, hk, rfl, rfl, hb⟩ := hrel
    by_cases hlt : k < dn
    · obtain ⟨ad, rfl, hbl, hcell⟩ := HD.out.at_ hlt
      have hkl : k < l.ds.length := by rw [HD.out.1]; exact hlt
      have HT : Hid ((l.ds.take (k + 1)).contains d = ((l.ds.take k).contains d || (l.ds.getD k 0 == d))) := by
        show _ = _
        rw [List.take_add_one, List.getElem?_eq_getElem hkl]
        rw [List.contains_eq_any_beq, List.contains_eq_any_beq, List.any_append]
        congr 1
        simp [List.getD, List.getElem?_eq_getElem hkl]
        rw [Bool.eq_iff_iff]; simp
        exact eq_comm
      generalize l.ds.getD k 0 = x at hcell HT
      have hcA : ∀ o : Obj, (w.alloc o).cell? (ad.add k) = some (.int .i64 x) := fun o => (World.cell?_alloc_lt w o _ (by rw [block_of_add]; exact hbl)).trans hcell
      clear hcell hkl
      have HN : Hid ((b || (x == d)) = (l.ds.isEmpty || (l.ds.take (k + 1)).contains d)) := by
        show _ = _
        rw [HT.out, hb.out, Bool.or_assoc]
      cases b with
      | true =>
        go_wp2_with fail
        go_round
        case rel => exact ⟨k + 1, true, by omega, by go_num, rfl, by have e := HN.out; rw [Bool.true_or] at e; exact e⟩
        case measure => simp [intOf]; omega
      | false =>
        go_wp2_with fail
        go_round
        case rel => exact ⟨k + 1, x == d, by omega, by go_num, rfl, by have e := HN.out; rw [Bool.false_or] at e; exact e⟩
        case measure => simp [intOf]; omega
    · obtain rfl : k = dn := by omega
      have HF : Hid (b = dayB l.ds d) := by
        have e := hb.out
        rw [List.take_of_length_le (by rw [HD.out.1]; exact Nat.le_refl _)] at e
        exact e
      clear hlt
      go_wp2_with fail
      go_ret
      exact ⟨ret_bool HF.out, (Below.refl _ _).alloc (Nat.le_refl _) _⟩
end Go.Proofs.YtnbdcjohibfjaaaGreatDoor
namespace Go.Proofs.YtnbdcjohibfjaaaGreatDoor
open Go.RowKit

set_option maxRecDepth 1000000 in
theorem zeroMarks : (Tryz.prog.info? 84).bind (·.zero) = some (.agg (Array.replicate 2200 (.bool false))) := by kernel_rfl
theorem sizeMarks : (Tryz.prog.info? 84).map (·.size) = some 2200 := by kernel_rfl
section
variable {P : Program}
theorem run_alloc_big (t : TypeId) (z : Value) (h : (P.info? t).bind (·.zero) = some z) (w : World) :
    (Instr.alloc t true (.tuple #[])).run P w = .ok (.pointer (some ⟨w.heap.size, 0, none⟩)) (w.alloc (.cells z.cells t)) := by
  cases hq : P.info? t with
  | none => rw [hq] at h; cases h
  | some i =>
    rw [hq] at h
    have hz : i.zero = some z := h
    simp [Instr.alloc, zeroValue, typeInfo, hq, hz, newVar]
    rfl
theorem wpList_alloc_big {ops : Array Oper} {rest : List Oper} {o : Oper} {a : Act} {w : World} {Q : Exit → Act → World → Prop} (hgd : o.guard = none) (t : TypeId) (ho : o.op = .alloc t)
    (z : Value) (hz : (P.info? t).bind (·.zero) = some z)
    (h : wpList P ops Q rest (a.put o.dst (.pointer (some ⟨w.heap.size, 0, none⟩))) (w.alloc (.cells z.cells t))) : wpList P ops Q (o :: rest) a w :=
  wpList_plain hgd fun _ hK => by
    unfold Oper.wp execOp
    simp only [ho, Sem.run_bind, Sem.run_pure, Result.andThen_ok, run_alloc_big t z hz]
    exact hK _ _ h
end
theorem pt_bd {f : Nat} {p : Pt} (h : mayP f p = true) : 0 ≤ ptA f p ∧ ptB f p ≤ 2199 ∧ ptA f p ≤ 2199 := by
  have hi := (mayP_iff f p).1 h
  have hl := lo_bd f
  unfold ptA ptB
  refine ⟨?_, ?_, ?_⟩
  · split <;> omega
  · split
    · omega
    · split
      · split <;> omega
      · omega
  · split <;> omega
theorem step_in {f : Nat} {p : Pt} {N S : Int} {j : Int} (hS : ptS p = S) (hS0 : 1 ≤ S) (hA : ptA f p ≤ N) (hm : (N - ptA f p) % S = 0) (hNB : N ≤ ptB f p) :
    (inP f p j && decide (j < N + S)) = (decide (j = N) || (inP f p j && decide (j < N))) := by
  rw [Bool.eq_iff_iff]
  simp only [Bool.and_eq_true, Bool.or_eq_true, decide_eq_true_eq, inP_iff, hS]
  constructor
  · rintro ⟨⟨h1, h2, h3⟩, h4⟩
    by_cases e : j = N
    · exact .inl e
    · right
      refine ⟨⟨h1, h2, h3⟩, ?_⟩
      by_cases hl : j < N
      · exact hl
      · exfalso
        have d1 := Int.dvd_of_emod_eq_zero hm
        have d2 := Int.dvd_of_emod_eq_zero h3
        have d3 := Int.dvd_sub d2 d1
        rw [show j - ptA f p - (N - ptA f p) = j - N by omega] at d3
        have := Int.le_of_dvd (by omega) d3
        omega
  · rintro (rfl | ⟨h, h4⟩)
    · exact ⟨⟨hA, hNB, hm⟩, by omega⟩
    · exact ⟨h, by omega⟩
theorem end_in {f : Nat} {p : Pt} {N j : Int} (h : ptB f p < N) : (inP f p j && decide (j < N)) = inP f p j := by
  rw [Bool.eq_iff_iff]
  simp only [Bool.and_eq_true, decide_eq_true_eq, inP_iff]
  constructor
  · exact fun h => h.1
  · intro h'; exact ⟨h', by omega⟩
theorem take_in {f : Nat} {l : List Pt} {k : Nat} {p : Pt} (h : l[k]? = some p) (j : Int) : inF f (l.take (k + 1)) j = (inF f (l.take k) j || inP f p j) := by
  have e : l.take (k + 1) = l.take k ++ [p] := by rw [List.take_add_one, h]; rfl
  rw [e, inF_app]
  congr 1
  simp [inF]
def NumsPost (f : Nat) (l : List Pt) (w : World) (e : Ending) (w' : World) : Prop :=
  ∃ C : Array Value, e = .returned (.agg C) ∧ C.size = 2200 ∧ (∀ j, j < 2200 → C[j]? = some (.bool (inF f l j))) ∧ Below w.heap.size w w'

set_option maxRecDepth 100000 in
set_option maxHeartbeats 4000000 in
theorem numbers_any (A : Option Addr) (n c : Nat) (f : Nat) (l : List Pt) (hf : f ≤ 5) (hm : mayF f l = true) (w : World) (hl : PtsAt w w.heap.size A n l) :
    Calls Tryz.prog 51 #[.slice A n c, .int .i64 f] w (NumsPost f l w) := by
  have HL := Lib.hid hl
  have HM := Lib.hid ((mayF_iff f l).1 hm)
  have hn4 : n ≤ 4 := by have := HL.out.1; have := HM.out.1.2; omega
  clear hl hm
  go_enter Tryz.func51, Tryz.ntmps51
  go_wp2_with (refine wpList_alloc_big rfl 84 rfl (.agg (Array.replicate 2200 (.bool false))) zeroMarks ?_)
  have HR0 : Hid (((w.alloc (.cells (Array.replicate 2200 (.bool false)) 84)).alloc (.cells (Array.replicate 2200 (.bool false)) 84)).rowIs w.heap.size 84 2200 (fun _ => .bool false)) := by
    have h := World.rowIs_alloc w (Array.replicate 2200 (.bool false)) 84 (fun _ => .bool false) (fun i hi => by rw [Array.size_replicate] at hi; simp [hi])
    rw [Array.size_replicate] at h
    exact h.alloc _
  have HR1 : Hid (((w.alloc (.cells (Array.replicate 2200 (.bool false)) 84)).alloc (.cells (Array.replicate 2200 (.bool false)) 84)).rowIs (w.heap.size + 1) 84 2200 (fun j => .bool (inF f (l.take 0) j))) := by
    have h := World.rowIs_alloc (w.alloc (.cells (Array.replicate 2200 (.bool false)) 84)) (Array.replicate 2200 (.bool false)) 84 (fun j => .bool (inF f (l.take 0) j)) (fun i hi => by rw [Array.size_replicate] at hi; simp [hi, inF])
    rw [Array.size_replicate] at h
    have e : (w.alloc (.cells (Array.replicate 2200 (.bool false)) 84)).heap.size = w.heap.size + 1 := by simp
    rw [e] at h
    exact h
  have HB0 : Hid (Below w.heap.size w ((w.alloc (.cells (Array.replicate 2200 (.bool false)) 84)).alloc (.cells (Array.replicate 2200 (.bool false)) 84))) := ((Below.refl _ _).alloc (Nat.le_refl _) _).alloc (by simp) _
  go_loopw [14] (fun x wr => ∃ k : Nat, k ≤ n ∧ x = .int .i64 k ∧ Hid (wr.rowIs w.heap.size 84 2200 (fun _ => .bool false)) ∧ Hid (wr.rowIs (w.heap.size + 1) 84 2200 (fun j => .bool (inF f (l.take k) j))) ∧ Hid (Below w.heap.size w wr)) (fun x wr => n - (intOf x).toNat)
  case atStart => exact ⟨0, Nat.zero_le _, rfl, HR0, HR1, HB0⟩
  case round =>
    obtain ⟨k, hk, rfl, hr0, hr1, hb⟩ := hrel
    have hz := hr1.out.lt
    by_cases hlt : k < n
    · obtain ⟨ad, p, rfl, hbl, hlk, e0, e1, e2⟩ := (HL.out.below hb.out).at_ hlt
      have hmp := (mayP_iff f p).1 (HM.out.2 p (List.mem_of_getElem? hlk))
      have hmpp := Lib.hid (HM.out.2 p (List.mem_of_getElem? hlk))
      have HLK := Lib.hid hlk
      obtain ⟨pa, pb, ps⟩ := p
      simp only at hmp
      clear hlk
      obtain ⟨s0, s1, hab⟩ := hmp
      by_cases cs : ps < 1
      · have hs : ps = 0 := by omega
        subst hs
        have HS := Lib.hid (show ptS ⟨pa, pb, 0⟩ = 1 from rfl)
        clear cs
        go_wp2_with fail
        go_quiet (fail)
        have HB0 : Hid (Below wr.heap.size wr ((wr.alloc (.cells #[.int .i64 pa, .int .i64 pb, .int .i64 0] 43)).drewN nq)) := below_drewN ((Below.refl _ _).alloc (Nat.le_refl _) _) _
        go_upto_if 26 with fail
        go_cut [8, 9] (fun x8 x9 wx => x8 = .int .i64 (ptA f ⟨pa, pb, 0⟩) ∧ x9 = .int .i64 (ptB f ⟨pa, pb, 0⟩) ∧ Hid (Below wr.heap.size wr wx))
        case first =>
          by_cases ca : pa = -1
          · have ca' : (pa == -1) = true := by simp [ca]
            have HA := Lib.hid (show ptA f ⟨pa, pb, 0⟩ = lo f by unfold ptA; rw [if_pos ca])
            have HBB := Lib.hid (show ptB f ⟨pa, pb, 0⟩ = hi f by unfold ptB; rw [if_pos ca])
            clear ca hab
            go_wp2_with fail
            refine (least_any f hf _).mono ?_
            rintro e w2 ⟨rfl, hb2⟩
            have HB2 := Lib.hid (more3 HB0.out HB0.out.size hb2)
            clear hb2
            go_wp2_with fail
            refine (most_any f hf _).mono ?_
            rintro e w3 ⟨rfl, hb3⟩
            have HB3 := Lib.hid (more3 HB2.out HB2.out.size hb3)
            clear hb3
            go_wp2_with fail
            go_meet
            exact ⟨by rw [HA.out], by rw [HBB.out], HB3⟩
          · have ca' : (pa == -1) = false := by simpa using ca
            have HA := Lib.hid (show ptA f ⟨pa, pb, 0⟩ = pa by unfold ptA; rw [if_neg ca])
            have u1 : (0 : Nat) ≤ 1 := Nat.zero_le _
            by_cases cb : pb = -1
            · have cb' : (pb == -1) = true := by simp [cb]
              have HBB := Lib.hid (show ptB f ⟨pa, pb, 0⟩ = pa by unfold ptB; rw [if_neg ca, if_pos cb, if_pos rfl])
              clear ca cb hab
              go_wp2_with fail
              go_meet
              exact ⟨by rw [HA.out], by rw [HBB.out], HB0⟩
            · have cb' : (pb == -1) = false := by simpa using cb
              have HBB := Lib.hid (show ptB f ⟨pa, pb, 0⟩ = pb by unfold ptB; rw [if_neg ca, if_neg cb])
              have u2 : (0 : Nat) ≤ 2 := Nat.zero_le _
              clear ca cb hab
              go_wp2_with fail
              go_meet
              exact ⟨by rw [HA.out], by rw [HBB.out], HB0⟩
        case rest =>
          obtain ⟨rfl, rfl, hbx⟩ := hcut
          have hmarks : 0 ≤ ptA f ⟨pa, pb, 0⟩ ∧ ptB f ⟨pa, pb, 0⟩ ≤ 2199 ∧ ptA f ⟨pa, pb, 0⟩ ≤ 2199 := pt_bd hmpp.out
          obtain ⟨hA0, hB1, hA1⟩ := hmarks
          generalize hgA : ptA f ⟨pa, pb, 0⟩ = fa at hA0 hA1
          generalize hgB : ptB f ⟨pa, pb, 0⟩ = fb at hB1
          have HGA := Lib.hid hgA
          have HGB := Lib.hid hgB
          have hxz : w.heap.size + 1 < wc.heap.size := Nat.lt_of_lt_of_le hz hbx.out.size
          have hx0 := Lib.hid (hr0.out.of_block (hbx.out.block _ hr0.out.lt))
          have hx1 := Lib.hid (hr1.out.of_block (hbx.out.block _ hr1.out.lt))
          have hxb := Lib.hid (more3 hb.out hb.out.size hbx.out)
          have hm0 : Hid ((((fa.toNat : Nat) : Int) - fa) % 1 = 0) := by
            show _ % _ = 0
            rw [show ((fa.toNat : Nat) : Int) - fa = 0 by omega, Int.zero_emod]
          have hrow0 : Hid (wc.rowIs (w.heap.size + 1) 84 2200 (fun j => .bool (inF f (l.take k) j || (inP f ⟨pa, pb, 0⟩ j && decide ((j : Int) < ((fa.toNat : Nat) : Int)))))) := by
            refine hx1.out.congr fun j hj => ?_
            have : (inP f ⟨pa, pb, 0⟩ (j : Int) && decide ((j : Int) < ((fa.toNat : Nat) : Int))) = false := by
              rw [Bool.and_eq_false_iff]
              by_cases hi' : inP f ⟨pa, pb, 0⟩ (j : Int) = true
              · right
                have h2 := ((inP_iff f ⟨pa, pb, 0⟩ j).1 hi').1
                rw [HGA.out] at h2
                exact decide_eq_false (by omega)
              · left; simpa using hi'
            rw [this, Bool.or_false]
          clear hgA hgB hab
          go_wp2_with fail
          go_loopw [11] (fun x wi => ∃ N : Nat, x = .int .i64 N ∧ fa ≤ N ∧ (N : Int) ≤ 13000 ∧ Hid (((N : Int) - fa) % 1 = 0) ∧ Hid (wi.rowIs w.heap.size 84 2200 (fun _ => .bool false)) ∧ Hid (wi.rowIs (w.heap.size + 1) 84 2200 (fun j => .bool (inF f (l.take k) j || (inP f ⟨pa, pb, 0⟩ j && decide ((j : Int) < N))))) ∧ Hid (Below w.heap.size w wi)) (fun x _ => (fb + 1 - intOf x).toNat)
          case atStart => exact ⟨fa.toNat, by congr 1; omega, by omega, by omega, hm0, hx0, hrow0, hxb⟩
          case round =>
            obtain ⟨N, rfl, hN0, hN1, hNm, hw0, hw1, hwb⟩ := hrel
            by_cases hNB : (N : Int) ≤ fb
            · have hN22 : N < 2200 := by omega
              have hNi : (N : Int) < 2200 := by omega
              have hNn : (0 : Int) ≤ (N : Int) := by omega
              have hcell := hw1.out.cell hN22
              have hfro := hw1.out.frozen N
              have hzi := hw1.out.lt
              have hnm : Hid ((((N + (1 : Int).toNat : Nat) : Int) - fa) % 1 = 0) := by
                show _ % _ = 0
                rw [show ((N + (1 : Int).toNat : Nat) : Int) - fa = (N : Int) - fa + 1 by omega, Int.add_emod_right]
                exact hNm.out
              have hrow : Hid ((wr.setCell ⟨w.heap.size + 1, N, none⟩ (.bool true)).rowIs (w.heap.size + 1) 84 2200 (fun j => .bool (inF f (l.take k) j || (inP f ⟨pa, pb, 0⟩ j && decide ((j : Int) < ((N + (1 : Int).toNat : Nat) : Int)))))) := by
                refine (hw1.out.set N (.bool true)).congr fun j hj => ?_
                have hst := step_in (f := f) (p := ⟨pa, pb, 0⟩) (N := N) (S := 1) (j := j) HS.out (by omega) (by rw [HGA.out]; exact hN0) (by rw [HGA.out]; exact hNm.out) (by rw [HGB.out]; exact hNB)
                rw [show ((N + (1 : Int).toNat : Nat) : Int) = (N : Int) + 1 by omega, hst]
                by_cases e : j = N
                · rw [if_pos e, decide_eq_true (show (j : Int) = N by omega)]; simp
                · rw [if_neg e, decide_eq_false (show ¬ (j : Int) = N by omega), Bool.false_or]
              have hrow0' : Hid ((wr.setCell ⟨w.heap.size + 1, N, none⟩ (.bool true)).rowIs w.heap.size 84 2200 (fun _ => .bool false)) := hw0.out.setOther (by show w.heap.size ≠ w.heap.size + 1; omega) _
              have hwb' : Hid (Below w.heap.size w (wr.setCell ⟨w.heap.size + 1, N, none⟩ (.bool true))) := hwb.out.setCell (by show w.heap.size ≤ w.heap.size + 1; omega) _
              go_wp2_with fail
              go_roundw
              case rel => exact ⟨N + (1 : Int).toNat, by go_num, by omega, by omega, hnm, hrow0', hrow, hwb'⟩
              case measure => simp [intOf]; omega
            · have hNB' : fb < (N : Int) := by omega
              have hrow : Hid (wr.rowIs (w.heap.size + 1) 84 2200 (fun j => .bool (inF f (l.take (k + 1)) j))) := by
                refine hw1.out.congr fun j hj => ?_
                rw [take_in HLK.out, end_in (by rw [HGB.out]; exact hNB')]
              clear hNB
              go_wp2_with fail
              go_roundw
              case rel => exact ⟨k + 1, by omega, by go_num, hw0, hrow, hwb⟩
              case measure => simp [intOf]; omega
      · have cs' : 1 ≤ ps := by omega
        have HS := Lib.hid (show ptS ⟨pa, pb, ps⟩ = ps by unfold ptS; show max ps 1 = ps; omega)
        clear cs
        go_wp2_with fail
        go_quiet (fail)
        have HB0 : Hid (Below wr.heap.size wr ((wr.alloc (.cells #[.int .i64 pa, .int .i64 pb, .int .i64 ps] 43)).drewN nq)) := below_drewN ((Below.refl _ _).alloc (Nat.le_refl _) _) _
        go_upto_if 26 with fail
        go_cut [8, 9] (fun x8 x9 wx => x8 = .int .i64 (ptA f ⟨pa, pb, ps⟩) ∧ x9 = .int .i64 (ptB f ⟨pa, pb, ps⟩) ∧ Hid (Below wr.heap.size wr wx))
        case first =>
          by_cases ca : pa = -1
          · have ca' : (pa == -1) = true := by simp [ca]
            have HA := Lib.hid (show ptA f ⟨pa, pb, ps⟩ = lo f by unfold ptA; rw [if_pos ca])
            have HBB := Lib.hid (show ptB f ⟨pa, pb, ps⟩ = hi f by unfold ptB; rw [if_pos ca])
            clear ca hab
            go_wp2_with fail
            refine (least_any f hf _).mono ?_
            rintro e w2 ⟨rfl, hb2⟩
            have HB2 := Lib.hid (more3 HB0.out HB0.out.size hb2)
            clear hb2
            go_wp2_with fail
            refine (most_any f hf _).mono ?_
            rintro e w3 ⟨rfl, hb3⟩
            have HB3 := Lib.hid (more3 HB2.out HB2.out.size hb3)
            clear hb3
            go_wp2_with fail
            go_meet
            exact ⟨by rw [HA.out], by rw [HBB.out], HB3⟩
          · have ca' : (pa == -1) = false := by simpa using ca
            have HA := Lib.hid (show ptA f ⟨pa, pb, ps⟩ = pa by unfold ptA; rw [if_neg ca])
            have u1 : (0 : Nat) ≤ 1 := Nat.zero_le _
            by_cases cb : pb = -1
            · have cb' : (pb == -1) = true := by simp [cb]
              have HBB := Lib.hid (show ptB f ⟨pa, pb, ps⟩ = hi f by unfold ptB; rw [if_neg ca, if_pos cb, if_neg (show ¬ ps = 0 by omega)])
              have cz : (ps == 0) = false := by simp; omega
              clear ca cb hab
              go_wp2_with fail
              refine (most_any f hf _).mono ?_
              rintro e w3 ⟨rfl, hb3⟩
              have HB3 := Lib.hid (more3 HB0.out HB0.out.size hb3)
              clear hb3
              go_wp2_with fail
              go_meet
              exact ⟨by rw [HA.out], by rw [HBB.out], HB3⟩
            · have cb' : (pb == -1) = false := by simpa using cb
              have HBB := Lib.hid (show ptB f ⟨pa, pb, ps⟩ = pb by unfold ptB; rw [if_neg ca, if_neg cb])
              have u2 : (0 : Nat) ≤ 2 := Nat.zero_le _
              clear ca cb hab
              go_wp2_with fail
              go_meet
              exact ⟨by rw [HA.out], by rw [HBB.out], HB0⟩
        case rest =>
          obtain ⟨rfl, rfl, hbx⟩ := hcut
          have hmarks : 0 ≤ ptA f ⟨pa, pb, ps⟩ ∧ ptB f ⟨pa, pb, ps⟩ ≤ 2199 ∧ ptA f ⟨pa, pb, ps⟩ ≤ 2199 := pt_bd hmpp.out
          obtain ⟨hA0, hB1, hA1⟩ := hmarks
          generalize hgA : ptA f ⟨pa, pb, ps⟩ = fa at hA0 hA1
          generalize hgB : ptB f ⟨pa, pb, ps⟩ = fb at hB1
          have HGA := Lib.hid hgA
          have HGB := Lib.hid hgB
          have hxz : w.heap.size + 1 < wc.heap.size := Nat.lt_of_lt_of_le hz hbx.out.size
          have hx0 := Lib.hid (hr0.out.of_block (hbx.out.block _ hr0.out.lt))
          have hx1 := Lib.hid (hr1.out.of_block (hbx.out.block _ hr1.out.lt))
          have hxb := Lib.hid (more3 hb.out hb.out.size hbx.out)
          have hm0 : Hid ((((fa.toNat : Nat) : Int) - fa) % ps = 0) := by
            show _ % _ = 0
            rw [show ((fa.toNat : Nat) : Int) - fa = 0 by omega, Int.zero_emod]
          have hrow0 : Hid (wc.rowIs (w.heap.size + 1) 84 2200 (fun j => .bool (inF f (l.take k) j || (inP f ⟨pa, pb, ps⟩ j && decide ((j : Int) < ((fa.toNat : Nat) : Int)))))) := by
            refine hx1.out.congr fun j hj => ?_
            have : (inP f ⟨pa, pb, ps⟩ (j : Int) && decide ((j : Int) < ((fa.toNat : Nat) : Int))) = false := by
              rw [Bool.and_eq_false_iff]
              by_cases hi' : inP f ⟨pa, pb, ps⟩ (j : Int) = true
              · right
                have h2 := ((inP_iff f ⟨pa, pb, ps⟩ j).1 hi').1
                rw [HGA.out] at h2
                exact decide_eq_false (by omega)
              · left; simpa using hi'
            rw [this, Bool.or_false]
          clear hgA hgB hab
          go_wp2_with fail
          go_loopw [11] (fun x wi => ∃ N : Nat, x = .int .i64 N ∧ fa ≤ N ∧ (N : Int) ≤ 13000 ∧ Hid (((N : Int) - fa) % ps = 0) ∧ Hid (wi.rowIs w.heap.size 84 2200 (fun _ => .bool false)) ∧ Hid (wi.rowIs (w.heap.size + 1) 84 2200 (fun j => .bool (inF f (l.take k) j || (inP f ⟨pa, pb, ps⟩ j && decide ((j : Int) < N))))) ∧ Hid (Below w.heap.size w wi)) (fun x _ => (fb + 1 - intOf x).toNat)
          case atStart => exact ⟨fa.toNat, by congr 1; omega, by omega, by omega, hm0, hx0, hrow0, hxb⟩
          case round =>
            obtain ⟨N, rfl, hN0, hN1, hNm, hw0, hw1, hwb⟩ := hrel
            by_cases hNB : (N : Int) ≤ fb
            · have hN22 : N < 2200 := by omega
              have hNi : (N : Int) < 2200 := by omega
              have hNn : (0 : Int) ≤ (N : Int) := by omega
              have hcell := hw1.out.cell hN22
              have hfro := hw1.out.frozen N
              have hzi := hw1.out.lt
              have hnm : Hid ((((N + (ps : Int).toNat : Nat) : Int) - fa) % ps = 0) := by
                show _ % _ = 0
                rw [show ((N + (ps : Int).toNat : Nat) : Int) - fa = (N : Int) - fa + ps by omega, Int.add_emod_right]
                exact hNm.out
              have hrow : Hid ((wr.setCell ⟨w.heap.size + 1, N, none⟩ (.bool true)).rowIs (w.heap.size + 1) 84 2200 (fun j => .bool (inF f (l.take k) j || (inP f ⟨pa, pb, ps⟩ j && decide ((j : Int) < ((N + (ps : Int).toNat : Nat) : Int)))))) := by
                refine (hw1.out.set N (.bool true)).congr fun j hj => ?_
                have hst := step_in (f := f) (p := ⟨pa, pb, ps⟩) (N := N) (S := ps) (j := j) HS.out (by omega) (by rw [HGA.out]; exact hN0) (by rw [HGA.out]; exact hNm.out) (by rw [HGB.out]; exact hNB)
                rw [show ((N + (ps : Int).toNat : Nat) : Int) = (N : Int) + ps by omega, hst]
                by_cases e : j = N
                · rw [if_pos e, decide_eq_true (show (j : Int) = N by omega)]; simp
                · rw [if_neg e, decide_eq_false (show ¬ (j : Int) = N by omega), Bool.false_or]
              have hrow0' : Hid ((wr.setCell ⟨w.heap.size + 1, N, none⟩ (.bool true)).rowIs w.heap.size 84 2200 (fun _ => .bool false)) := hw0.out.setOther (by show w.heap.size ≠ w.heap.size + 1; omega) _
              have hwb' : Hid (Below w.heap.size w (wr.setCell ⟨w.heap.size + 1, N, none⟩ (.bool true))) := hwb.out.setCell (by show w.heap.size ≤ w.heap.size + 1; omega) _
              go_wp2_with fail
              go_roundw
              case rel => exact ⟨N + (ps : Int).toNat, by go_num, by omega, by omega, hnm, hrow0', hrow, hwb'⟩
              case measure => simp [intOf]; omega
            · have hNB' : fb < (N : Int) := by omega
              have hrow : Hid (wr.rowIs (w.heap.size + 1) 84 2200 (fun j => .bool (inF f (l.take (k + 1)) j))) := by
                refine hw1.out.congr fun j hj => ?_
                rw [take_in HLK.out, end_in (by rw [HGB.out]; exact hNB')]
              clear hNB
              go_wp2_with fail
              go_roundw
              case rel => exact ⟨k + 1, by omega, by go_num, hw0, hrow, hwb⟩
              case measure => simp [intOf]; omega
    · obtain rfl : k = n := by omega
      have HF : Hid (wr.rowIs (w.heap.size + 1) 84 2200 (fun j => .bool (inF f l j))) := by
        have h := hr1.out
        rw [List.take_of_length_le (by rw [HL.out.1]; exact Nat.le_refl _)] at h
        exact h
      clear hr1 hlt
      obtain ⟨C1, hb1, hs1, hc1⟩ := HF.out
      obtain ⟨C0, hb0, hs0, hc0⟩ := hr0.out
      have HB1 := Lib.hid hb1
      have HB0' := Lib.hid hb0
      have HC1 := Lib.hid hc1
      have HI : Hid ((Tryz.prog.info? 84).map (·.size) = some C1.size) := by show _ = _; rw [sizeMarks, hs1]
      have HO : Hid (C0.size = C1.size) := by show _ = _; rw [hs0, hs1]
      have HS1 := Lib.hid hs1
      have H1 : Hid (C1.all (·.oneCell') = true) := by
        show _ = true
        rw [Array.all_eq_true_iff_forall_mem]
        intro v hv
        obtain ⟨j, hj, e⟩ := Array.getElem_of_mem hv
        have h2 := hc1 j (by rw [← hs1]; exact hj)
        rw [Array.getElem?_eq_getElem hj, e] at h2
        rw [Option.some.inj h2]; rfl
      clear hb1 hs1 hc1 hb0 hs0 hc0 HF hr0 HR0 HR1 HB0
      go_wp2_with (first
        | (refine wpList_load_row rfl 84 (.tmp 5) (by rfl) (w.heap.size + 1) (by rfl) 84 C1 (0, 0) (.array 2200 4) HB1.out Tryz.underlying84 rfl HI.out ?_)
        | (refine wpList_store_row rfl 84 (.tmp 4) (.tmp 53) (by rfl) w.heap.size C1 (by rfl) (by rfl) 84 C0 HB0'.out HI.out HO.out H1.out ?_))
      exact bodyPost_ret (results_cell_row (P := Tryz.prog) (p := 4) rfl _ _ w.heap.size 84 C1 (0, 0) (.array 2200 4) rfl (setRow_heap _ w.heap.size C0 C1 84 (0, 0) HB0'.out) Tryz.underlying84 rfl HI.out) rfl
        ⟨C1, rfl, HS1.out, HC1.out, below_setRow hb.out (Nat.le_refl _) _⟩
end Go.Proofs.YtnbdcjohibfjaaaGreatDoor
namespace Go.Proofs.YtnbdcjohibfjaaaGreatDoor
open Go.RowKit

theorem run_index_marks (C : Array Value) (n : Nat) (hn : n < 2200) (b : Bool) (h : C[n]? = some (.bool b)) (w : World) :
    (Instr.index 84 (.agg C) (.int .i64 (n : Int))).run Tryz.prog w = .ok (.bool b) w := by
  simp [Instr.index, run_underlying Tryz.underlying84, asIntOf, hn, part, isAgg, run_underlying Tryz.underlying4, h]
/-- A second's number of a field. -/
noncomputable def numOf (t : Int) : Nat → Int
  | 0 => fY t
  | 1 => fM t
  | 2 => fD t
  | 3 => fH t
  | 4 => fI t
  | _ => fS t
theorem numOf_bd {t : Int} (h : isT t = true) (f : Nat) : 0 ≤ numOf t f ∧ numOf t f < 2200 := by
  have hd := date_of h
  have := hd.day.y0; have := hd.day.y1; have := hd.day.m0; have := hd.day.m1; have := hd.day.d0; have := hd.day.d1
  have := (dim_bd (fY t) (fM t) hd.day.m0 hd.day.m1).2
  have := hd.h0; have := hd.h1; have := hd.m0; have := hd.m1; have := hd.s0; have := hd.s1
  match f with
  | 0 => show 0 ≤ fY t ∧ fY t < 2200; omega
  | 1 => show 0 ≤ fM t ∧ fM t < 2200; omega
  | 2 => show 0 ≤ fD t ∧ fD t < 2200; omega
  | 3 => show 0 ≤ fH t ∧ fH t < 2200; omega
  | 4 => show 0 ≤ fI t ∧ fI t < 2200; omega
  | n + 5 => show 0 ≤ fS t ∧ fS t < 2200; omega
theorem nums_no {l : Cl} {t : Int} {f : Nat} (hf : f ≤ 5) (h : inF f (l.fld f) (numOf t f) = false) : numsB l t = false := by
  unfold numsB
  rcases f_cases hf with rfl | rfl | rfl | rfl | rfl | rfl
  all_goals
    simp only [Cl.fld, numOf] at h
    rw [h]
    simp
theorem nums_yes {l : Cl} {t : Int} (h : ∀ f, f < 6 → inF f (l.fld f) (numOf t f) = true) : numsB l t = true := by
  have h0 := h 0 (by omega)
  have h1 := h 1 (by omega)
  have h2 := h 2 (by omega)
  have h3 := h 3 (by omega)
  have h4 := h 4 (by omega)
  have h5 := h 5 (by omega)
  simp only [Cl.fld, numOf] at h0 h1 h2 h3 h4 h5
  unfold numsB
  rw [h0, h1, h2, h3, h4, h5]; rfl

set_option maxHeartbeats 8000000 in
theorem rMatch_any (c : Ch) (l : Cl) (t : Int) (w : World) (hc : CalAt w w.heap.size c l) :
    Calls Tryz.prog 22 #[.agg c.cells, .int .i64 t] w fun e w' => e = .returned (.bool (matchB l t)) ∧ Below w.heap.size w w' := by
  have HC := Lib.hid hc
  clear hc
  have HM : Hid (matchB l t = (mayC l && (isT t && (dayB l.ds (fW t) && numsB l t)))) := rfl
  obtain ⟨cm, hcm⟩ : ∃ b : Bool, mayC l = b := ⟨_, rfl⟩
  obtain ⟨ct, hct⟩ : ∃ b : Bool, isT t = b := ⟨_, rfl⟩
  have HCM := Lib.hid hcm
  have HCT := Lib.hid hct
  clear hcm hct
  unfold Ch.cells
  go_enter Tryz.func22, Tryz.ntmps22
  go_wp2_with fail
  refine (rOf_any t _).mono ?_
  rintro e w1 ⟨rfl, hb1⟩
  rw [HCT.out]
  have B1 : Hid (Blk w1 w.heap.size 26 #[.slice c.d.A c.d.n c.d.c, .slice c.y.A c.y.n c.y.c, .slice c.m.A c.m.n c.m.c, .slice c.t.A c.t.n c.t.c, .slice c.h.A c.h.n c.h.c, .slice c.i.A c.i.n c.i.c, .slice c.s.A c.s.n c.s.c]) := (Blk.new w _ _).below hb1 (by simp)
  have HB1 := Lib.hid (more3 ((Below.refl w.heap.size w).alloc (Nat.le_refl _) _) (by simp) hb1)
  clear hb1
  have hz1 : w.heap.size < w1.heap.size := B1.out.lt
  obtain ⟨c0, c1, c2, c3, c4, c5, c6⟩ := cells7c B1.out
  go_wp2_with fail
  refine (MayCal_any c l _ ⟨(HC.out.1.below (HB1.out.alloc HB1.out.size _)).wide (by have := HB1.out.size; simp; omega), fun f => ((HC.out.2 f).below (HB1.out.alloc HB1.out.size _)).wide (by have := HB1.out.size; simp; omega)⟩).mono ?_
  rintro e w2 ⟨rfl, hb2⟩
  rw [HCM.out]
  have B2 := Lib.hid ((B1.out.alloc _).below hb2 (B1.out.alloc _).lt)
  have D2 : Hid (Blk w2 w1.heap.size 39 #[.int .i64 (fY t), .int .i64 (fM t), .int .i64 (fD t), .int .i64 (fH t), .int .i64 (fI t), .int .i64 (fS t), .int .i64 (fW t)]) := (Blk.new w1 _ _).below hb2 (by simp)
  have HB2 := Lib.hid (more3 (HB1.out.alloc HB1.out.size _) (by have := HB1.out.size; simp; omega) hb2)
  clear hb2 c0 c1 c2 c3 c4 c5 c6
  have hz2 : w1.heap.size < w2.heap.size := D2.out.lt
  cases cm with
  | false =>
    go_wp2_with fail
    go_ret
    exact ⟨ret_bool (by rw [HM.out, HCM.out]; rfl), HB2.out⟩
  | true =>
    cases ct with
    | false =>
      go_wp2_with fail
      go_ret
      exact ⟨ret_bool (by rw [HM.out, HCM.out, HCT.out]; rfl), HB2.out⟩
    | true =>
      obtain ⟨c0, c1, c2, c3, c4, c5, c6⟩ := cells7c B2.out
      obtain ⟨d0, d1, d2, d3, d4, d5, d6⟩ := cells7c D2.out
      go_wp2_with fail
      refine (weekday_any c l (fW t) _ ⟨(HC.out.1.below HB2.out).wide HB2.out.size, fun f => ((HC.out.2 f).below HB2.out).wide HB2.out.size⟩).mono ?_
      rintro e w3 ⟨rfl, hb3⟩
      have B3 := Lib.hid (B2.out.below hb3 B2.out.lt)
      have D3 := Lib.hid (D2.out.below hb3 D2.out.lt)
      have HB3 := Lib.hid (more3 HB2.out HB2.out.size hb3)
      clear hb3 c0 c1 c2 c3 c4 c5 c6 d0 d1 d2 d3 d4 d5 d6
      obtain ⟨cd, hcd⟩ : ∃ b : Bool, dayB l.ds (fW t) = b := ⟨_, rfl⟩
      rw [hcd]
      have HCD := Lib.hid hcd
      clear hcd
      cases cd with
      | false =>
        go_wp2_with fail
        go_ret
        exact ⟨ret_bool (by rw [HM.out, HCM.out, HCT.out, HCD.out]; rfl), HB3.out⟩
      | true =>
        have HR : Hid (matchB l t = numsB l t) := by show _ = _; rw [HM.out, HCM.out, HCT.out, HCD.out]; rfl
        obtain ⟨d0, d1, d2, d3, d4, d5, d6⟩ := cells7c D3.out
        go_wp2_with fail
        have HTT : Hid (isT t = true) := HCT
        have SB : Hid (Blk (w3.alloc (.cells #[.int .i64 (fY t), .int .i64 (fM t), .int .i64 (fD t), .int .i64 (fH t), .int .i64 (fI t), .int .i64 (fS t)] 3)) w3.heap.size 3 #[.int .i64 (fY t), .int .i64 (fM t), .int .i64 (fD t), .int .i64 (fH t), .int .i64 (fI t), .int .i64 (fS t)]) := Blk.new w3 _ _
        go_loopw [42] (fun x wr => ∃ f : Nat, f ≤ 6 ∧ x = .int .i64 f ∧ Hid (∀ g, g < f → inF g (l.fld g) (numOf t g) = true) ∧ Hid (Blk wr w.heap.size 26 #[.slice c.d.A c.d.n c.d.c, .slice c.y.A c.y.n c.y.c, .slice c.m.A c.m.n c.m.c, .slice c.t.A c.t.n c.t.c, .slice c.h.A c.h.n c.h.c, .slice c.i.A c.i.n c.i.c, .slice c.s.A c.s.n c.s.c]) ∧ Hid (Blk wr w3.heap.size 3 #[.int .i64 (fY t), .int .i64 (fM t), .int .i64 (fD t), .int .i64 (fH t), .int .i64 (fI t), .int .i64 (fS t)]) ∧ Hid (Below w.heap.size w wr)) (fun x wr => (6 - intOf x).toNat)
        case atStart => exact ⟨0, by omega, rfl, fun g hg => absurd hg (by omega), B3.out.alloc _, SB, HB3.out.alloc HB3.out.size _⟩
        case round =>
          obtain ⟨f, hf, rfl, hall, hB, hS, hb⟩ := hrel
          by_cases hf6 : f < 6
          · have hf5 : f ≤ 5 := by omega
            obtain ⟨m0, m1⟩ := numOf_bd HTT.out f
            obtain ⟨N, hN⟩ : ∃ N : Nat, numOf t f = N := ⟨(numOf t f).toNat, by omega⟩
            have hN22 : N < 2200 := by omega
            have HNN := Lib.hid hN
            have n0 : (0 : Int) ≤ (N : Int) := by omega
            have n1 : (N : Int) < 2200 := by omega
            have hcell : wr.cell? ⟨w3.heap.size, f, none⟩ = some (.int .i64 N) := by
              rw [hS.out.cell f, ← hN]
              rcases f_cases hf5 with rfl | rfl | rfl | rfl | rfl | rfl <;> rfl
            have hzs := hS.out.lt
            have hzc := hB.out.lt
            have f0 : (0 : Int) ≤ (f : Int) := by omega
            have f1 : (f : Int) < 6 := by omega
            have HMF := Lib.hid (may_fld HCM.out hf5)
            obtain ⟨c0, c1, c2, c3, c4, c5, c6⟩ := cells7c hB.out
            clear hN m0 m1
            go_wp2_with fail
            refine (field_any c f hf5 _).mono ?_
            rintro e w4 ⟨rfl, hb4⟩
            have HP := Lib.hid (HC.out.2 f)
            generalize Ch.fsl c f = Sg at HP
            obtain ⟨A, n, cc⟩ := Sg
            dsimp only
            have HP : Hid (PtsAt w w.heap.size A n (l.fld f)) := HP
            have B4 := Lib.hid (hB.out.below hb4 hB.out.lt)
            have S4 := Lib.hid (hS.out.below hb4 hS.out.lt)
            have HB4 := Lib.hid (more3 hb.out hb.out.size hb4)
            clear hb4 c0 c1 c2 c3 c4 c5 c6 hcell
            go_wp2_with fail
            refine (numbers_any A n cc f (l.fld f) hf5 HMF.out _ ((HP.out.below HB4.out).wide HB4.out.size)).mono ?_
            rintro e w5 ⟨C, rfl, hCs, hC, hb5⟩
            have B5 := Lib.hid (B4.out.below hb5 B4.out.lt)
            have S5 := Lib.hid (S4.out.below hb5 S4.out.lt)
            have HB5 := Lib.hid (more3 HB4.out HB4.out.size hb5)
            obtain ⟨b, hbv⟩ : ∃ b : Bool, inF f (l.fld f) (N : Int) = b := ⟨_, rfl⟩
            have hix := fun W => run_index_marks C N hN22 b (by rw [hC N hN22, hbv]) W
            have HBV : Hid (inF f (l.fld f) (numOf t f) = b) := by show _ = _; rw [HNN.out, hbv]
            clear hb5 hCs hC hbv
            cases b with
            | false =>
              have HF := Lib.hid (nums_no hf5 HBV.out)
              go_wp2_with fail
              go_ret
              exact ⟨ret_bool (by rw [HR.out, HF.out]), HB5.out⟩
            | true =>
              have HA : Hid (∀ g, g < f + 1 → inF g (l.fld g) (numOf t g) = true) := by
                intro g hg
                by_cases e : g = f
                · rw [e]; exact HBV.out
                · exact hall.out g (by omega)
              go_wp2_with fail
              go_roundw
              case rel => exact ⟨f + 1, by omega, by go_num, HA, B5, S5, HB5⟩
              case measure => simp [intOf]; omega
          · obtain rfl : f = 6 := by omega
            have HF := Lib.hid (nums_yes hall.out)
            clear hf hf6
            go_wp2_with fail
            go_ret
            exact ⟨ret_bool (by rw [HR.out, HF.out]), hb.out⟩
end Go.Proofs.YtnbdcjohibfjaaaGreatDoor
