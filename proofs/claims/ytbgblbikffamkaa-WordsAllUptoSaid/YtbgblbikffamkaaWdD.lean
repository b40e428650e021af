/- The walks of the document's Hex, HexByte, escape, wrongAt, safe, quoted. -/
import Derived.Test.YtbgblbikffamkaaWdT
namespace Go.Proofs.Ytbgblbikffamkaa
open Go.RowKit

theorem hexW_dig (c : UInt8) (n : Nat) (hn : n < 16) : hexW c = n ↔ digW n = c := by
  have H : ∀ m : Fin 256, ∀ n : Fin 16, hexW m.1.toUInt8 = n.1 ↔ digW n.1 = m.1.toUInt8 := by decide +kernel
  have e : c.toNat.toUInt8 = c := by simp
  have := H ⟨c.toNat, c.toNat_lt⟩ ⟨n, hn⟩
  rwa [e] at this
theorem hexW_le (c : UInt8) : hexW c ≤ 16 := by
  unfold hexW
  repeat' split
  all_goals omega
theorem hexW_no (c : UInt8) (h : ∀ j, j < 16 → digW j ≠ c) : hexW c = 16 := by
  have h1 := hexW_le c
  rcases Nat.lt_or_ge (hexW c) 16 with h2 | h2
  · exact absurd ((hexW_dig c (hexW c) h2).1 rfl) (h _ h2)
  · omega
theorem digW_at (n : Nat) (h : n < 16) : ((⟨#[48, 49, 50, 51, 52, 53, 54, 55, 56, 57, 97, 98, 99, 100, 101, 102]⟩ : ByteArray)[n]'h) = digW n := by
  have H : ∀ m : Fin 16, ((⟨#[48, 49, 50, 51, 52, 53, 54, 55, 56, 57, 97, 98, 99, 100, 101, 102]⟩ : ByteArray)[m.1]'m.2) = digW m.1 := by decide
  exact H ⟨n, h⟩

set_option maxHeartbeats 2000000 in
theorem rHexW_any (c : UInt8) (w : World) :
    Calls Try.prog 29 #[.int .u8 c.toNat] w fun e w' => e = .returned (.int .i64 (hexW c)) ∧ w = w' := by
  have hr := c.toNat_lt
  go_enter Try.func29, Try.ntmps29
  go_wp2
  go_loop [3] (fun i => ∃ k : Nat, k ≤ 16 ∧ i = .int .i64 k ∧ Hid (∀ j, j < k → digW j ≠ c)) (fun i => 16 - (intOf i).toNat)
  case atStart => exact ⟨0, by omega, rfl, fun j hj => by omega⟩
  case round =>
    obtain ⟨k, hk, rfl, hb⟩ := hrel
    by_cases hlt : k < 16
    · have hlt' : (k : Int) < 16 := by omega
      have hg := Lib.hid (digW_at k hlt)
      by_cases he : digW k = c
      · have ht : ((((⟨#[48, 49, 50, 51, 52, 53, 54, 55, 56, 57, 97, 98, 99, 100, 101, 102]⟩ : ByteArray)[k]'hlt).toNat : Int) == (c.toNat : Int)) = true := by rw [hg.out, he]; simp
        have HE := Lib.hid ((hexW_dig c k hlt).2 he)
        clear he
        go_wp2
        go_ret
        exact ⟨ret_int (by rw [HE.out]), rfl⟩
      · have ht : ((((⟨#[48, 49, 50, 51, 52, 53, 54, 55, 56, 57, 97, 98, 99, 100, 101, 102]⟩ : ByteArray)[k]'hlt).toNat : Int) == (c.toNat : Int)) = false := by
          rw [hg.out]
          simp
          intro e
          exact he (UInt8.toNat_inj.1 (by omega))
        have HB : Hid (∀ j, j < k + 1 → digW j ≠ c) := fun j hj => by
          rcases Nat.lt_succ_iff_lt_or_eq.1 hj with h | rfl
          · exact hb.out j h
          · exact he
        clear he
        go_wp2
        go_round
        case rel => exact ⟨k + 1, by omega, by go_num, HB⟩
        case measure => simp [intOf]; omega
    · have hlt' : (16 : Int) ≤ k := by omega
      have HE := Lib.hid (hexW_no c (fun j hj => hb.out j (by omega)))
      go_wp2
      go_ret
      exact ⟨ret_int (by rw [HE.out]; rfl), rfl⟩
theorem rHexW_q (c : UInt8) (n : Nat) (h : hexW c = n) (w : World) :
    Calls Try.prog 29 #[.int .u8 c.toNat] w fun e w' => e = .returned (.int .i64 n) ∧ w' = w :=
  (rHexW_any c w).mono fun _ _ hh => ⟨by rw [← h]; exact hh.1, hh.2.symm⟩

theorem digW_slice (n : Nat) (h : n < 16) : (⟨#[48, 49, 50, 51, 52, 53, 54, 55, 56, 57, 97, 98, 99, 100, 101, 102]⟩ : ByteArray).extract n (n + 1) = str [digW n] := by
  have H : ∀ m : Fin 16, ((⟨#[48, 49, 50, 51, 52, 53, 54, 55, 56, 57, 97, 98, 99, 100, 101, 102]⟩ : ByteArray).extract m.1 (m.1 + 1)).data.toList = [digW m.1] := by decide +kernel
  exact eq_str.2 (H ⟨n, h⟩)
set_option maxHeartbeats 2000000 in
theorem rHexByteW_any (c : Nat) (hc : c ≤ 255) (w : World) :
    Calls Try.prog 34 #[.int .u8 c] w fun e w' => e = .returned (.string (str [digW (c / 16), digW (c % 16)])) ∧ ∃ n, w' = w.drewN n := by
  have h1 : (0 : Int) ≤ (c : Int) / 16 := by omega
  have h2 : (c : Int) / 16 ≤ (c : Int) / 16 + 1 := by omega
  have h3 : (c : Int) / 16 + 1 ≤ 16 := by omega
  have h4 : (0 : Int) ≤ (c : Int) % 16 := by omega
  have h5 : (c : Int) % 16 ≤ (c : Int) % 16 + 1 := by omega
  have h6 : (c : Int) % 16 + 1 ≤ 16 := by omega
  go_enter Try.func34, Try.ntmps34
  go_wp2
  go_region
  go_wp2_with fail
  go_ret
  exact ⟨ret_str (by rw [digW_slice _ (by omega), digW_slice _ (by omega)]; rfl), 1, rfl⟩

/-- What stands behind a backslash, of a text. -/
def escS5 (s : ByteArray) : UInt8 × Nat := escW s.data.toList
theorem escS5_at (s : ByteArray) (h : 0 < s.size) : escS5 s = if s[0] = 92 ∨ s[0] = 34 ∨ s[0] = 39 then (s[0], 1) else if s[0] = 110 then (10, 1) else if s[0] = 116 then (9, 1) else if s[0] = 115 then (32, 1) else if s[0] = 120 then escX (s.data.toList.drop 1) else (0, 0) := by
  have := drop_at s 0 h
  rw [List.drop_zero] at this
  rw [show escS5 s = escW (s[0] :: s.data.toList.drop 1) from congrArg escW this, escW_cons]
theorem escX_short (s : ByteArray) (h : s.size < 3) : escX (s.data.toList.drop 1) = (0, 0) := by
  rw [escX_two, if_pos]
  have hl : (s.data.toList.drop 1).length < 2 := by rw [List.length_drop, size_list]; omega
  match s.data.toList.drop 1, hl with
  | [], _ => rfl
  | [_], _ => rfl
theorem escX_three (s : ByteArray) (h : 3 ≤ s.size) : escX (s.data.toList.drop 1) = if hex2 s[1] s[2] = 0 then (0, 0) else (hex2 s[1] s[2], 3) := by
  rw [drop_at s 1 (by omega), drop_at s 2 (by omega), escX_cons]
theorem hex2_zero {a b : UInt8} (ha : hexW a < 16) (hb : hexW b < 16) : (hex2 a b = 0 ↔ hexW a = 0 ∧ hexW b = 0) ∧ ((hex2 a b).toNat : Int) = 16 * (hexW a : Int) + (hexW b : Int) := by
  have e : (hex2 a b).toNat = 16 * hexW a + hexW b := by
    unfold hex2
    rw [if_pos ⟨ha, hb⟩]
    simp
    omega
  refine ⟨?_, by rw [e]; omega⟩
  rw [byte_eq, e]
  show _ = 0 ↔ _
  omega
theorem two_zero (s : ByteArray) (h : 3 ≤ s.size) : ((s.extract 1 3).toList == [48, 48]) = (decide (hexW s[1] = 0) && decide (hexW s[2] = 0)) := by
  have e : (s.extract 1 3).toList = [s[1], s[2]] := by
    rw [Lib.toList_data, Lib.extract_data, drop_at s 1 (by omega), drop_at s 2 (by omega)]
    rfl
  rw [e, Bool.eq_iff_iff]
  have h1 := hexW_dig s[1] 0 (by omega)
  have h2 := hexW_dig s[2] 0 (by omega)
  simp only [beq_iff_eq, Bool.and_eq_true, decide_eq_true_eq, List.cons.injEq, and_true]
  rw [h1, h2]
  constructor
  · rintro ⟨h3, h4⟩; exact ⟨by rw [h3]; rfl, by rw [h4]; rfl⟩
  · rintro ⟨h3, h4⟩; exact ⟨h3.symm, h4.symm⟩
theorem ret_ui5 {a c : Int} {b d : Int} (h : a = c) (k : b = d) : Ending.returned (.tuple #[.int .u8 a, .int .i64 b]) = .returned (.tuple #[.int .u8 c, .int .i64 d]) := by rw [h, k]

set_option maxHeartbeats 4000000 in
theorem escape_x (s : ByteArray) (hm : s.size ≤ maxLen) (h0 : 0 < s.size) (h120 : s[0].toNat = 120) (w : World) :
    Calls Try.prog 18 #[.string s] w fun e w' => e = .returned (.tuple #[.int .u8 (escX (s.data.toList.drop 1)).1.toNat, .int .i64 (escX (s.data.toList.drop 1)).2]) ∧ ∃ n, w' = w.drewN n := by
  unfold maxLen at hm
  have hb : (0 : Int) < s.size := by omega
  have he : s.toList.isEmpty = false := by
    rw [isEmpty_iff, decide_eq_false_iff_not]
    intro e
    have := size_list s
    rw [e] at this
    simp at this
    omega
  by_cases h3 : s.size < 3
  · have HR := Lib.hid (escX_short s h3)
    have t1 : decide ((3 : Int) ≤ (s.size : Int)) = false := by simp; omega
    go_enter Try.func18, Try.ntmps18
    go_wp2_with fail
    go_ret2
    rw [HR.out]
    exact ⟨rfl, 0, rfl⟩
  have h3' : 3 ≤ s.size := by omega
  have t1 : decide ((3 : Int) ≤ (s.size : Int)) = true := by simp; omega
  have t2 : (3 : Int) ≤ (s.size : Int) := by omega
  have i1 : 1 < s.size := by omega
  have i2 : 2 < s.size := by omega
  have HX := Lib.hid (escX_three s h3')
  have r1 := s[1].toNat_lt
  have r2 := s[2].toNat_lt
  by_cases ha : hexW s[1] < 16
  · by_cases hbb : hexW s[2] < 16
    · obtain ⟨z1, z2⟩ := hex2_zero ha hbb
      have HTZ := Lib.hid (two_zero s h3')
      have A1 : Hid (hexW s[1] = hexW s[1]) := rfl
      obtain ⟨x, hx⟩ : ∃ x, hexW s[1] = x := ⟨_, rfl⟩
      obtain ⟨y, hy⟩ : ∃ y, hexW s[2] = y := ⟨_, rfl⟩
      rw [hx, hy] at HTZ z1 z2
      rw [hx] at ha
      rw [hy] at hbb
      have HX1 := Lib.hid hx
      have HY1 := Lib.hid hy
      clear hx hy A1
      have ta : (x : Int) < 16 := by omega
      have tb : (y : Int) < 16 := by omega
      by_cases hz : x = 0 ∧ y = 0
      · have HR : Hid (escX (s.data.toList.drop 1) = (0, 0)) := by show _ = _; rw [HX.out, if_pos (z1.2 hz)]
        have tz : ((s.extract 1 3).toList == [48, 48]) = true := by rw [HTZ.out, hz.1, hz.2]; rfl
        clear z1 z2 hz
        go_enter Try.func18, Try.ntmps18
        go_wp2_with fail
        refine (rHexW_any _ _).mono ?_
        rintro e w' ⟨rfl, rfl⟩
        rw [HX1.out]
        go_wp2_with fail
        refine (rHexW_any _ _).mono ?_
        rintro e w' ⟨rfl, rfl⟩
        rw [HY1.out]
        go_wp2_with fail
        go_ret2
        rw [HR.out]
        exact ⟨rfl, 0, rfl⟩
      · have HR : Hid (escX (s.data.toList.drop 1) = (hex2 s[1] s[2], 3)) := by show _ = _; rw [HX.out, if_neg (fun h => hz (z1.1 h))]
        have tz : ((s.extract 1 3).toList == [48, 48]) = false := by
          rw [HTZ.out, Bool.and_eq_false_iff]
          simp only [decide_eq_false_iff_not]
          omega
        have HV := Lib.hid z2
        clear z1 z2 hz
        have q1 : IntKind.i64.wrap (16 * (x : Int)) = 16 * (x : Int) := by rw [IntKind.wrap_i64]; omega
        have q2 : IntKind.i64.wrap (16 * (x : Int) + (y : Int)) = 16 * (x : Int) + (y : Int) := by rw [IntKind.wrap_i64]; omega
        go_enter Try.func18, Try.ntmps18
        go_wp2_with fail
        refine (rHexW_any _ _).mono ?_
        rintro e w' ⟨rfl, rfl⟩
        rw [HX1.out]
        go_wp2_with fail
        refine (rHexW_any _ _).mono ?_
        rintro e w' ⟨rfl, rfl⟩
        rw [HY1.out]
        go_wp2_with fail
        go_quiet ((go_at_call 29; exact Calls.quiet_of_same (rHexW_q _ _ (by with_reducible (first | exact HX1.out | exact HY1.out)) _)))
        go_wp2_with fail
        go_ret2
        rw [HR.out]
        exact ⟨ret_ui5 (by rw [HV.out]) rfl, _, rfl⟩
    · have HY1 := Lib.hid (show hexW s[2] = 16 by have := hexW_le s[2]; omega)
      have HR : Hid (escX (s.data.toList.drop 1) = (0, 0)) := by
        show _ = _
        rw [HX.out, if_pos]
        unfold hex2
        rw [if_neg (fun h => hbb h.2)]
      obtain ⟨x, hx⟩ : ∃ x, hexW s[1] = x := ⟨_, rfl⟩
      rw [hx] at ha
      have HX1 := Lib.hid hx
      have ta : (x : Int) < 16 := by omega
      clear hx hbb
      go_enter Try.func18, Try.ntmps18
      go_wp2_with fail
      refine (rHexW_any _ _).mono ?_
      rintro e w' ⟨rfl, rfl⟩
      rw [HX1.out]
      go_wp2_with fail
      refine (rHexW_any _ _).mono ?_
      rintro e w' ⟨rfl, rfl⟩
      rw [HY1.out]
      go_wp2_with fail
      go_ret2
      rw [HR.out]
      exact ⟨rfl, 0, rfl⟩
  · have HX1 := Lib.hid (show hexW s[1] = 16 by have := hexW_le s[1]; omega)
    have HR : Hid (escX (s.data.toList.drop 1) = (0, 0)) := by
      show _ = _
      rw [HX.out, if_pos]
      unfold hex2
      rw [if_neg (fun h => ha h.1)]
    clear ha
    go_enter Try.func18, Try.ntmps18
    go_wp2_with fail
    refine (rHexW_any _ _).mono ?_
    rintro e w' ⟨rfl, rfl⟩
    rw [HX1.out]
    go_wp2_with fail
    go_ret2
    rw [HR.out]
    exact ⟨rfl, 0, rfl⟩

set_option maxHeartbeats 4000000 in
theorem escape_any (s : ByteArray) (hm : s.size ≤ maxLen) (w : World) :
    Calls Try.prog 18 #[.string s] w fun e w' => e = .returned (.tuple #[.int .u8 (escS5 s).1.toNat, .int .i64 (escS5 s).2]) ∧ ∃ n, w' = w.drewN n := by
  by_cases h0 : s.size = 0
  · have hl : s.data.toList = [] := List.eq_nil_of_length_eq_zero (by rw [size_list]; exact h0)
    have he : s.toList.isEmpty = true := by rw [isEmpty_iff, hl]; rfl
    have HR : Hid (escS5 s = (0, 0)) := by show _ = _; unfold escS5; rw [hl]; rfl
    clear h0 hl
    go_enter Try.func18, Try.ntmps18
    go_wp2_with fail
    go_ret2
    rw [HR.out]
    exact ⟨rfl, 0, rfl⟩
  have h0' : 0 < s.size := by omega
  have hm0 := hm
  unfold maxLen at hm
  have hb : (0 : Int) < s.size := by omega
  have he : s.toList.isEmpty = false := by
    rw [isEmpty_iff, decide_eq_false_iff_not]
    intro e
    have := size_list s
    rw [e] at this
    simp at this
    omega
  have hlt := s[0].toNat_lt
  have E := escS5_at s h0'
  by_cases h92 : s[0].toNat = 92
  · have t1 := byte_is h92
    have hc : s[0] = 92 := byte_eq.2 h92
    have HR : Hid (escS5 s = (92, 1)) := by show _ = _; rw [E, if_pos (.inl hc), hc]
    clear E hc h0
    go_enter Try.func18, Try.ntmps18
    go_wp2_with fail
    go_ret2
    rw [HR.out]
    exact ⟨rfl, 0, rfl⟩
  have t1 := byte_ne h92
  have n1 : ¬ s[0] = 92 := ne_of_nat h92
  by_cases h34 : s[0].toNat = 34
  · have t2 := byte_is h34
    have hc : s[0] = 34 := byte_eq.2 h34
    have HR : Hid (escS5 s = (34, 1)) := by show _ = _; rw [E, if_pos (.inr (.inl hc)), hc]
    clear E hc h0 n1
    go_enter Try.func18, Try.ntmps18
    go_wp2_with fail
    go_ret2
    rw [HR.out]
    exact ⟨rfl, 0, rfl⟩
  have t2 := byte_ne h34
  have n2 : ¬ s[0] = 34 := ne_of_nat h34
  by_cases h39 : s[0].toNat = 39
  · have t3 := byte_is h39
    have hc : s[0] = 39 := byte_eq.2 h39
    have HR : Hid (escS5 s = (39, 1)) := by show _ = _; rw [E, if_pos (.inr (.inr hc)), hc]
    clear E hc h0 n1 n2
    go_enter Try.func18, Try.ntmps18
    go_wp2_with fail
    go_ret2
    rw [HR.out]
    exact ⟨rfl, 0, rfl⟩
  have t3 := byte_ne h39
  have n3 : ¬ s[0] = 39 := ne_of_nat h39
  rw [if_neg (by rintro (h | h | h) <;> contradiction)] at E
  clear n1 n2 n3
  by_cases h110 : s[0].toNat = 110
  · have t4 := byte_is h110
    have HR : Hid (escS5 s = (10, 1)) := by show _ = _; rw [E, if_pos (byte_eq.2 h110)]
    clear E h0
    go_enter Try.func18, Try.ntmps18
    go_wp2_with fail
    go_ret2
    rw [HR.out]
    exact ⟨rfl, 0, rfl⟩
  have t4 := byte_ne h110
  rw [if_neg (ne_of_nat h110)] at E
  by_cases h116 : s[0].toNat = 116
  · have t5 := byte_is h116
    have HR : Hid (escS5 s = (9, 1)) := by show _ = _; rw [E, if_pos (byte_eq.2 h116)]
    clear E h0
    go_enter Try.func18, Try.ntmps18
    go_wp2_with fail
    go_ret2
    rw [HR.out]
    exact ⟨rfl, 0, rfl⟩
  have t5 := byte_ne h116
  rw [if_neg (ne_of_nat h116)] at E
  by_cases h115 : s[0].toNat = 115
  · have t6 := byte_is h115
    have HR : Hid (escS5 s = (32, 1)) := by show _ = _; rw [E, if_pos (byte_eq.2 h115)]
    clear E h0
    go_enter Try.func18, Try.ntmps18
    go_wp2_with fail
    go_ret2
    rw [HR.out]
    exact ⟨rfl, 0, rfl⟩
  have t6 := byte_ne h115
  rw [if_neg (ne_of_nat h115)] at E
  by_cases h120 : s[0].toNat = 120
  · rw [if_pos (byte_eq.2 h120)] at E
    rw [E]
    exact escape_x s hm0 h0' h120 w
  · have t7 := byte_ne h120
    rw [if_neg (ne_of_nat h120)] at E
    have HR := Lib.hid E
    clear E h0
    go_enter Try.func18, Try.ntmps18
    go_wp2_with fail
    go_ret2
    rw [HR.out]
    exact ⟨rfl, 0, rfl⟩
theorem escS5_tail (s : ByteArray) (k : Nat) : escS5 (s.extract k s.size) = escW (s.data.toList.drop k) := by
  unfold escS5; rw [tail_list]

/-- The error where a word too many begins. -/
def wrongL : List UInt8 → Nat
  | [] => 2
  | c :: t => if c = 92 ∧ (escW t).2 = 0 then 13 else 2
def wrongC (s : ByteArray) : Nat := wrongL s.data.toList
theorem wrongC_at (s : ByteArray) (h : 0 < s.size) : wrongC s = if s[0] = 92 ∧ (escW (s.data.toList.drop 1)).2 = 0 then 13 else 2 := by
  have := drop_at s 0 h
  rw [List.drop_zero] at this
  exact congrArg wrongL this
set_option maxHeartbeats 2000000 in
theorem wrongAt_any (s : ByteArray) (hm : s.size ≤ maxLen) (h0 : 0 < s.size) (w : World) :
    Calls Try.prog 17 #[.string s] w fun e w' => e = .returned (.int .i64 (wrongC s)) ∧ ∃ n, w' = w.drewN n := by
  unfold maxLen at hm
  have b1 : (1 : Int) ≤ (s.size : Int) := by omega
  have b0 : (0 : Int) < (s.size : Int) := by omega
  have hsz : (s.extract 1 s.size).size ≤ maxLen := by rw [ByteArray.size_extract]; unfold maxLen; omega
  have HE := Lib.hid (escS5_tail s 1)
  by_cases hc : s[0] = 92
  · have t1 : ((s[0].toNat : Int) == 92) = true := by rw [hc]; rfl
    by_cases he : (escW (s.data.toList.drop 1)).2 = 0
    · have HR : Hid ((wrongC s : Int) = 13) := by show _ = _; rw [wrongC_at s h0, if_pos ⟨hc, he⟩]; rfl
      have HZ : Hid ((escS5 (s.extract 1 s.size)).2 = 0) := by show _ = _; rw [HE.out]; exact he
      clear hc he HE
      go_enter Try.func17, Try.ntmps17
      go_wp2_with fail
      refine (escape_any _ hsz _).mono ?_
      rintro e w' ⟨rfl, n, rfl⟩
      rw [HZ.out]
      go_wp2_with fail
      go_ret
      exact ⟨ret_int HR.out.symm, n, rfl⟩
    · have HR : Hid ((wrongC s : Int) = 2) := by show _ = _; rw [wrongC_at s h0, if_neg (fun h => he h.2)]; rfl
      have HZ : Hid ((((escS5 (s.extract 1 s.size)).2 : Int) == 0) = false) := by show _ = _; rw [HE.out]; simp only [beq_eq_false_iff_ne, ne_eq]; omega
      clear hc he HE
      go_enter Try.func17, Try.ntmps17
      go_wp2_with fail
      refine (escape_any _ hsz _).mono ?_
      rintro e w' ⟨rfl, n, rfl⟩
      have hz := HZ.out
      go_wp2_with fail
      go_ret
      exact ⟨ret_int HR.out.symm, n, rfl⟩
  · have t1 : ((s[0].toNat : Int) == 92) = false := by
      simp only [beq_eq_false_iff_ne, ne_eq]
      intro e
      exact hc (byte_eq.2 (by show _ = 92; omega))
    have HR : Hid ((wrongC s : Int) = 2) := by show _ = _; rw [wrongC_at s h0, if_neg (fun h => hc h.1)]; rfl
    clear hc HE
    go_enter Try.func17, Try.ntmps17
    go_wp2_with fail
    refine (escape_any _ hsz _).mono ?_
    rintro e w' ⟨rfl, n, rfl⟩
    go_wp2_with fail
    go_ret
    exact ⟨ret_int HR.out.symm, n, rfl⟩
end Go.Proofs.Ytbgblbikffamkaa
