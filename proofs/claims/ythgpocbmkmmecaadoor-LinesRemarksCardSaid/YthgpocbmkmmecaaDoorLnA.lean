/- Bytes and texts: the walks of the developers' isLetter, isLetterOrDigit, isText, and of the document's Letter, Digit, blank, Clean, Trim, remark. -/
import Derived.Test.YthgpocbmkmmecaaDoorSpK
import Derived.Test.YthgpocbmkmmecaaDoorLnL
namespace Go.Proofs.YthgpocbmkmmecaaDoor
open Go.RowKit

theorem emp_t {s : ByteArray} (h : s.size = 0) : s.toList.isEmpty = true := by
  rw [isEmpty_iff, decide_eq_true_eq]; exact List.eq_nil_of_length_eq_zero (by rw [size_list]; exact h)
theorem emp_f {s : ByteArray} (h : 0 < s.size) : s.toList.isEmpty = false := by
  rw [isEmpty_iff, decide_eq_false_iff_not]
  intro e
  have := size_list s
  rw [e] at this
  simp at this
  omega
theorem letC_iff (c : UInt8) : letC c = true ↔ (97 ≤ c.toNat ∧ c.toNat ≤ 122) ∨ (65 ≤ c.toNat ∧ c.toNat ≤ 90) := by unfold letC; simp
theorem isLetter_any (c : UInt8) (w : World) :
    Calls Tryd.prog 71 #[.int .u8 c.toNat] w fun e w' => e = .returned (.bool (letC c)) ∧ w = w' := by
  have hr := c.toNat_lt
  have HL := Lib.hid (letC_iff c)
  rcases hl : letC c with _ | _
  all_goals have HH := Lib.hid hl
  all_goals clear hl
  all_goals generalize c.toNat = n at *
  all_goals have H : n ≤ 64 ∨ (65 ≤ n ∧ n ≤ 90) ∨ (91 ≤ n ∧ n ≤ 96) ∨ (97 ≤ n ∧ n ≤ 122) ∨ 123 ≤ n := by omega
  all_goals rcases H with h | ⟨h1, h2⟩ | ⟨h1, h2⟩ | ⟨h1, h2⟩ | h
  all_goals
    go_enter Tryd.func71, Tryd.ntmps71
    go_wp2
  all_goals try (exfalso; omega)
  all_goals go_ret
  all_goals (refine ⟨ret_bool ?_, rfl⟩)
  all_goals first | rfl | (have h0 := HL.out; rw [HH.out] at h0; first | (exfalso; simp at h0; done) | (exfalso; simp at h0; omega) | (simp at h0 ⊢; done) | (simp at h0 ⊢; omega))
theorem Letter_any (c : UInt8) (w : World) :
    Calls Tryd.prog 40 #[.int .u8 c.toNat] w fun e w' => e = .returned (.bool (letC c)) ∧ w = w' := by
  have hr := c.toNat_lt
  have HL := Lib.hid (letC_iff c)
  rcases hl : letC c with _ | _
  all_goals have HH := Lib.hid hl
  all_goals clear hl
  all_goals generalize c.toNat = n at *
  all_goals have H : n ≤ 64 ∨ (65 ≤ n ∧ n ≤ 90) ∨ (91 ≤ n ∧ n ≤ 96) ∨ (97 ≤ n ∧ n ≤ 122) ∨ 123 ≤ n := by omega
  all_goals rcases H with h | ⟨h1, h2⟩ | ⟨h1, h2⟩ | ⟨h1, h2⟩ | h
  all_goals
    go_enter Tryd.func40, Tryd.ntmps40
    go_wp2
  all_goals try (exfalso; omega)
  all_goals go_ret
  all_goals (refine ⟨ret_bool ?_, rfl⟩)
  all_goals first | rfl | (have h0 := HL.out; rw [HH.out] at h0; first | (exfalso; simp at h0; done) | (exfalso; simp at h0; omega) | (simp at h0 ⊢; done) | (simp at h0 ⊢; omega))
theorem Digit_any (c : UInt8) (w : World) :
    Calls Tryd.prog 41 #[.int .u8 c.toNat] w fun e w' => e = .returned (.bool (isDig c)) ∧ w = w' := by
  have hr := c.toNat_lt
  by_cases h1 : c.toNat < 48
  · have HD := Lib.hid (show isDig c = false by unfold isDig; simp; omega)
    have h1' : (c.toNat : Int) < 48 := by omega
    go_enter Tryd.func41, Tryd.ntmps41
    go_wp2
    go_ret
    exact ⟨ret_bool HD.out.symm, rfl⟩
  · have h1' : (48 : Int) ≤ (c.toNat : Int) := by omega
    by_cases h2 : c.toNat ≤ 57
    · have HD := Lib.hid (show isDig c = true by unfold isDig; simp; omega)
      have h2' : (c.toNat : Int) ≤ 57 := by omega
      clear h1
      go_enter Tryd.func41, Tryd.ntmps41
      go_wp2
      go_ret
      exact ⟨ret_bool HD.out.symm, rfl⟩
    · have HD := Lib.hid (show isDig c = false by unfold isDig; simp; omega)
      have h2' : (57 : Int) < (c.toNat : Int) := by omega
      clear h1 h2
      go_enter Tryd.func41, Tryd.ntmps41
      go_wp2
      go_ret
      exact ⟨ret_bool (by rw [HD.out]; simp; omega), rfl⟩
theorem isKeyC_any (c : UInt8) (w : World) :
    Calls Tryd.prog 72 #[.int .u8 c.toNat] w fun e w' => e = .returned (.bool (keyC c)) ∧ w = w' := by
  have hr := c.toNat_lt
  rcases hl : letC c with _ | _
  · have H : c.toNat < 48 ∨ (48 ≤ c.toNat ∧ c.toNat ≤ 57) ∨ 57 < c.toNat := by omega
    rcases H with h | ⟨h1, h2⟩ | h
    · have HD := Lib.hid (show keyC c = false by unfold keyC isDig; rw [hl]; simp; omega)
      have h1' : (c.toNat : Int) < 48 := by omega
      clear h
      go_enter Tryd.func72, Tryd.ntmps72
      go_wp2_with (go_at_call 71; refine (isLetter_any _ _).mono ?_; rintro e w' ⟨rfl, rfl⟩)
      all_goals go_ret
      all_goals exact ⟨ret_bool (by first | exact HD.out.symm | (rw [HD.out]; done) | (rw [HD.out]; simp; done) | (rw [HD.out]; simp; omega)), rfl⟩
    · have HD := Lib.hid (show keyC c = true by unfold keyC isDig; rw [hl]; simp; omega)
      have h1' : (48 : Int) ≤ (c.toNat : Int) := by omega
      have h2' : (c.toNat : Int) ≤ 57 := by omega
      go_enter Tryd.func72, Tryd.ntmps72
      go_wp2_with (go_at_call 71; refine (isLetter_any _ _).mono ?_; rintro e w' ⟨rfl, rfl⟩)
      go_ret
      exact ⟨ret_bool (by first | exact HD.out.symm | (rw [HD.out]; done) | (rw [HD.out]; simp; done) | (rw [HD.out]; simp; omega)), rfl⟩
    · have HD := Lib.hid (show keyC c = false by unfold keyC isDig; rw [hl]; simp; omega)
      have h1' : (48 : Int) ≤ (c.toNat : Int) := by omega
      have h2' : (57 : Int) < (c.toNat : Int) := by omega
      go_enter Tryd.func72, Tryd.ntmps72
      go_wp2_with (go_at_call 71; refine (isLetter_any _ _).mono ?_; rintro e w' ⟨rfl, rfl⟩)
      go_ret
      exact ⟨ret_bool (by first | exact HD.out.symm | (rw [HD.out]; done) | (rw [HD.out]; simp; done) | (rw [HD.out]; simp; omega)), rfl⟩
  · have HD := Lib.hid (show keyC c = true by unfold keyC; rw [hl]; rfl)
    go_enter Tryd.func72, Tryd.ntmps72
    go_wp2_with (go_at_call 71; refine (isLetter_any _ _).mono ?_; rintro e w' ⟨rfl, rfl⟩)
    go_ret
    exact ⟨ret_bool HD.out.symm, rfl⟩
theorem blank_any (c : UInt8) (w : World) :
    Calls Tryd.prog 39 #[.int .u8 c.toNat] w fun e w' => e = .returned (.bool (blkL c)) ∧ w = w' := by
  have HB := Lib.hid (show blkL c = (decide (c.toNat = 32) || decide (c.toNat = 9)) by
    unfold blkL
    rw [Bool.eq_iff_iff]
    simp [← UInt8.toNat_inj])
  by_cases h1 : c.toNat = 32
  · have HD := Lib.hid (show blkL c = true by rw [HB.out, h1]; rfl)
    have e1 : ((c.toNat : Int) == 32) = true := by rw [h1]; rfl
    clear h1
    go_enter Tryd.func39, Tryd.ntmps39
    go_wp2
    go_ret
    exact ⟨ret_bool HD.out.symm, rfl⟩
  · have e1 : ((c.toNat : Int) == 32) = false := by rw [beq_eq_false_iff_ne]; omega
    by_cases h2 : c.toNat = 9
    · have HD := Lib.hid (show blkL c = true by rw [HB.out, h2]; rfl)
      have e2 : ((c.toNat : Int) == 9) = true := by rw [h2]; rfl
      clear h1 h2
      go_enter Tryd.func39, Tryd.ntmps39
      go_wp2
      go_ret
      exact ⟨ret_bool HD.out.symm, rfl⟩
    · have HD := Lib.hid (show blkL c = false by rw [HB.out]; simp [h1, h2])
      have e2 : ((c.toNat : Int) == 9) = false := by rw [beq_eq_false_iff_ne]; omega
      clear h1 h2
      go_enter Tryd.func39, Tryd.ntmps39
      go_wp2
      go_ret
      exact ⟨ret_bool HD.out.symm, rfl⟩

theorem all_succ {p : UInt8 → Bool} (s : ByteArray) (k : Nat) (h : k < s.size) (hb : (s.data.toList.take k).all p = true) (hc : p s[k] = true) : (s.data.toList.take (k + 1)).all p = true := by
  rw [take_at s k h, List.all_append, hb]; simp [hc]
theorem all_false {p : UInt8 → Bool} (s : ByteArray) (k : Nat) (h : k < s.size) (hc : p s[k] = false) : s.data.toList.all p = false := by
  rw [Bool.eq_false_iff]
  intro e
  rw [List.all_eq_true] at e
  have := e s[k] (by rw [← List.take_append_drop k s.data.toList, drop_at s k h]; simp)
  rw [hc] at this; cases this
theorem all_end {p : UInt8 → Bool} (s : ByteArray) (k : Nat) (h : s.size ≤ k) (hb : (s.data.toList.take k).all p = true) : s.data.toList.all p = true := by
  rwa [List.take_of_length_le (by rw [size_list]; exact h)] at hb
theorem cleanC_eq (c : UInt8) : cleanC c = !((decide (c.toNat < 32) && !((c.toNat : Int) == 9)) || ((c.toNat : Int) == 127)) := by
  unfold cleanC
  have e1 : (c == 9) = ((c.toNat : Int) == 9) := by rw [Bool.eq_iff_iff]; simp only [beq_iff_eq, ← UInt8.toNat_inj]; show c.toNat = 9 ↔ _; omega
  have e2 : (c == 127) = ((c.toNat : Int) == 127) := by rw [Bool.eq_iff_iff]; simp only [beq_iff_eq, ← UInt8.toNat_inj]; show c.toNat = 127 ↔ _; omega
  rw [e1, e2]
/-- The ways of a byte through the test of a clean one. -/
theorem clean_ways (c : UInt8) : ((c.toNat : Int) < 32 ∧ ((c.toNat : Int) == 9) = false ∧ ((c.toNat : Int) != 9) = true ∧ cleanC c = false) ∨
    ((c.toNat : Int) < 32 ∧ ((c.toNat : Int) == 9) = true ∧ ((c.toNat : Int) != 9) = false ∧ ((c.toNat : Int) == 127) = false ∧ cleanC c = true) ∨
    ((32 : Int) ≤ (c.toNat : Int) ∧ ((c.toNat : Int) == 127) = true ∧ cleanC c = false) ∨ ((32 : Int) ≤ (c.toNat : Int) ∧ ((c.toNat : Int) == 127) = false ∧ cleanC c = true) := by
  rw [cleanC_eq]
  by_cases h1 : c.toNat < 32
  · have i1 : (c.toNat : Int) < 32 := by omega
    have e3 : ((c.toNat : Int) == 127) = false := by rw [beq_eq_false_iff_ne]; omega
    rcases h2 : ((c.toNat : Int) == 9) with _ | _
    · exact .inl ⟨i1, rfl, by rw [bne, h2]; rfl, by simp [h1]⟩
    · exact .inr (.inl ⟨i1, rfl, by rw [bne, h2]; rfl, e3, by simp [e3]⟩)
  · have i1 : (32 : Int) ≤ (c.toNat : Int) := by omega
    rcases h2 : ((c.toNat : Int) == 127) with _ | _
    · exact .inr (.inr (.inr ⟨i1, rfl, by simp [h1]⟩))
    · exact .inr (.inr (.inl ⟨i1, rfl, by simp⟩))
set_option maxHeartbeats 2000000 in
theorem isText_any (s : ByteArray) (hs : s.size ≤ maxLen) (w : World) :
    Calls Tryd.prog 33 #[.string s] w fun e w' => e = .returned (.bool (cleanL s.data.toList)) ∧ w = w' := by
  unfold maxLen at hs
  go_enter Tryd.func33, Tryd.ntmps33
  go_wp2
  go_loop [7] (fun i => ∃ k : Nat, k ≤ s.size ∧ i = .int .i64 k ∧ Hid (cleanL (s.data.toList.take k) = true)) (fun i => s.size - (intOf i).toNat)
  case atStart => exact ⟨0, Nat.zero_le _, rfl, rfl⟩
  case round =>
    obtain ⟨k, hk, rfl, HK⟩ := hrel
    by_cases hlt : k < s.size
    · rcases clean_ways s[k] with ⟨i1, e1, e2, hc⟩ | ⟨i1, e1, e2, e3, hc⟩ | ⟨i1, e1, hc⟩ | ⟨i1, e1, hc⟩
      · have HC : Hid (cleanL s.data.toList = false) := all_false s k hlt hc
        clear hc
        go_wp2
        go_ret
        exact ⟨ret_bool HC.out.symm, rfl⟩
      · have HC : Hid (cleanL (s.data.toList.take (k + 1)) = true) := all_succ s k hlt HK.out hc
        clear hc
        go_wp2
        go_round
        case rel => exact ⟨k + 1, by omega, by go_num, HC⟩
        case measure => simp [intOf]; omega
      · have HC : Hid (cleanL s.data.toList = false) := all_false s k hlt hc
        clear hc
        go_wp2
        go_ret
        exact ⟨ret_bool HC.out.symm, rfl⟩
      · have HC : Hid (cleanL (s.data.toList.take (k + 1)) = true) := all_succ s k hlt HK.out hc
        clear hc
        go_wp2
        go_round
        case rel => exact ⟨k + 1, by omega, by go_num, HC⟩
        case measure => simp [intOf]; omega
    · have HC : Hid (cleanL s.data.toList = true) := all_end s k (by omega) HK.out
      go_wp2
      go_ret
      exact ⟨ret_bool HC.out.symm, rfl⟩
set_option maxHeartbeats 2000000 in
theorem Clean_any (s : ByteArray) (hs : s.size ≤ maxLen) (w : World) :
    Calls Tryd.prog 19 #[.string s] w fun e w' => e = .returned (.bool (cleanL s.data.toList)) ∧ w = w' := by
  unfold maxLen at hs
  go_enter Tryd.func19, Tryd.ntmps19
  go_wp2
  go_loop [3] (fun i => ∃ k : Nat, k ≤ s.size ∧ i = .int .i64 k ∧ Hid (cleanL (s.data.toList.take k) = true)) (fun i => s.size - (intOf i).toNat)
  case atStart => exact ⟨0, Nat.zero_le _, rfl, rfl⟩
  case round =>
    obtain ⟨k, hk, rfl, HK⟩ := hrel
    have b0 : (0 : Int) ≤ (k : Int) := by omega
    by_cases hlt : k < s.size
    · have b1 : (k : Int) < (s.size : Int) := by omega
      rcases clean_ways s[k] with ⟨i1, e1, e2, hc⟩ | ⟨i1, e1, e2, e3, hc⟩ | ⟨i1, e1, hc⟩ | ⟨i1, e1, hc⟩
      · have HC : Hid (cleanL s.data.toList = false) := all_false s k hlt hc
        clear hc
        go_wp2
        go_ret
        exact ⟨ret_bool HC.out.symm, rfl⟩
      · have HC : Hid (cleanL (s.data.toList.take (k + 1)) = true) := all_succ s k hlt HK.out hc
        clear hc
        go_wp2
        go_round
        case rel => exact ⟨k + 1, by omega, by go_num, HC⟩
        case measure => simp [intOf]; omega
      · have HC : Hid (cleanL s.data.toList = false) := all_false s k hlt hc
        clear hc
        go_wp2
        go_ret
        exact ⟨ret_bool HC.out.symm, rfl⟩
      · have HC : Hid (cleanL (s.data.toList.take (k + 1)) = true) := all_succ s k hlt HK.out hc
        clear hc
        go_wp2
        go_round
        case rel => exact ⟨k + 1, by omega, by go_num, HC⟩
        case measure => simp [intOf]; omega
    · have HC : Hid (cleanL s.data.toList = true) := all_end s k (by omega) HK.out
      go_wp2
      go_ret
      exact ⟨ret_bool HC.out.symm, rfl⟩

theorem ltrim_cons {s : ByteArray} (h : 0 < s.size) (hb : blkL s[0] = true) : ltrim s.data.toList = ltrim (s.extract 1 s.size).data.toList := by
  rw [tail_list, ← List.drop_zero (l := s.data.toList), drop_at s 0 h]
  unfold ltrim
  rw [List.dropWhile_cons, if_pos hb]
  rfl
theorem ltrim_stop {s : ByteArray} (h : 0 < s.size) (hb : blkL s[0] = false) : ltrim s.data.toList = s.data.toList := by
  refine ltrim_id fun c hc => ?_
  rw [← List.drop_zero (l := s.data.toList), drop_at s 0 h] at hc
  simp at hc
  subst hc; exact hb
theorem last_at {s : ByteArray} (h : 0 < s.size) : s.data.toList = (s.extract 0 (s.size - 1)).data.toList ++ [s[s.size - 1]'(by omega)] := by
  have := take_at s (s.size - 1) (by omega)
  rw [show s.size - 1 + 1 = s.size by omega, List.take_of_length_le (by rw [size_list]; omega)] at this
  rw [Lib.extract_data, List.drop_zero, Nat.sub_zero]
  exact this
theorem rtrim_snoc {s : ByteArray} (h : 0 < s.size) (hb : blkL (s[s.size - 1]'(by omega)) = true) : rtrim s.data.toList = rtrim (s.extract 0 (s.size - 1)).data.toList := by
  conv => lhs; rw [last_at h]
  unfold rtrim
  rw [List.reverse_append]
  simp only [List.reverse_cons, List.reverse_nil, List.nil_append, List.cons_append]
  rw [List.dropWhile_cons, if_pos hb]
theorem rtrim_stop {s : ByteArray} (h : 0 < s.size) (hb : blkL (s[s.size - 1]'(by omega)) = false) : rtrim s.data.toList = s.data.toList := by
  refine rtrim_id fun c hc => ?_
  rw [last_at h, List.getLast?_append] at hc
  simp at hc
  subst hc; exact hb
theorem nil_of_size {s : ByteArray} (h : s.size = 0) : s.data.toList = [] := List.eq_nil_of_length_eq_zero (by rw [size_list]; exact h)
/-- A text without its blanks, as a string. -/
def trimS (s : ByteArray) : ByteArray := str (trimL s.data.toList)
set_option maxHeartbeats 2000000 in
theorem Trim_any (s : ByteArray) (hs : s.size ≤ maxLen) (w : World) :
    Calls Tryd.prog 23 #[.string s] w fun e w' => e = .returned (.string (trimS s)) ∧ w = w' := by
  unfold maxLen at hs
  go_enter Tryd.func23, Tryd.ntmps23
  go_wp2
  go_loop [0] (fun v => ∃ t : ByteArray, v = .string t ∧ t.size ≤ s.size ∧ Hid (ltrim s.data.toList = ltrim t.data.toList)) (fun v => match v with | .string t => t.size | _ => 0)
  case atStart => exact ⟨s, rfl, Nat.le_refl _, rfl⟩
  case round =>
    obtain ⟨t, rfl, hts, HT⟩ := hrel
    by_cases h0 : 0 < t.size
    · have em := emp_f h0
      rcases hb : blkL t[0] with _ | _
      · have HT2 : Hid (ltrim s.data.toList = t.data.toList) := HT.out.trans (ltrim_stop h0 hb)
        have b1 : (0 : Int) < (t.size : Int) := by omega
        go_wp2_with (go_at_call 39; refine (blank_any _ _).mono ?_; rintro e w' ⟨rfl, rfl⟩)
        clear em
        go_loop [0] (fun v => ∃ u : ByteArray, v = .string u ∧ u.size ≤ s.size ∧ Hid (rtrim t.data.toList = rtrim u.data.toList)) (fun v => match v with | .string u => u.size | _ => 0)
        case atStart => exact ⟨t, rfl, hts, rfl⟩
        case round =>
          obtain ⟨u, rfl, hus, HU⟩ := hrel
          by_cases g0 : 0 < u.size
          · have em := emp_f g0
            have b0 : (0 : Int) ≤ (u.size : Int) - 1 := by omega
            have b1 : (u.size : Int) - 1 < (u.size : Int) := by omega
            have b2 : (u.size : Int) - 1 ≤ (u.size : Int) := by omega
            have b3 : ((u.size : Int) - 1).toNat = u.size - 1 := by omega
            rcases hc : blkL (u[u.size - 1]'(by omega)) with _ | _
            · have HX : Hid (trimL s.data.toList = u.data.toList) := by
                show _ = _
                unfold trimL
                rw [HT2.out, HU.out, rtrim_stop g0 hc]
              go_wp2_with (go_at_call 39; refine (blank_any _ _).mono ?_; rintro e w' ⟨rfl, rfl⟩)
              go_ret
              exact ⟨ret_str (by unfold trimS; rw [HX.out, str_data]), rfl⟩
            · have HX : Hid (rtrim t.data.toList = rtrim (u.extract 0 (u.size - 1)).data.toList) := HU.out.trans (rtrim_snoc g0 hc)
              go_wp2_with (go_at_call 39; refine (blank_any _ _).mono ?_; rintro e w' ⟨rfl, rfl⟩)
              go_round
              case rel => exact ⟨u.extract 0 (u.size - 1), rfl, by rw [ByteArray.size_extract]; omega, HX⟩
              case measure => simp only [ByteArray.size_extract]; omega
          · have em := emp_t (s := u) (by omega)
            have HX : Hid (trimL s.data.toList = u.data.toList) := by
              show _ = _
              unfold trimL
              rw [HT2.out, HU.out, nil_of_size (by omega)]; rfl
            go_wp2
            go_ret
            exact ⟨ret_str (by unfold trimS; rw [HX.out, str_data]), rfl⟩
      · have HX : Hid (ltrim s.data.toList = ltrim (t.extract 1 t.size).data.toList) := HT.out.trans (ltrim_cons h0 hb)
        have b1 : (0 : Int) < (t.size : Int) := by omega
        go_wp2_with (go_at_call 39; refine (blank_any _ _).mono ?_; rintro e w' ⟨rfl, rfl⟩)
        go_round
        case rel => exact ⟨t.extract 1 t.size, rfl, by rw [ByteArray.size_extract]; omega, HX⟩
        case measure => simp only [ByteArray.size_extract]; omega
    · have em := emp_t (s := t) (by omega)
      have HX : Hid (trimL s.data.toList = t.data.toList) := by
        show _ = _
        unfold trimL
        rw [HT.out, nil_of_size (s := t) (by omega)]; rfl
      have h0' : (t.size : Int) = 0 := by omega
      go_wp2
      go_loop [0] (fun v => v = .string t) (fun v => 0)
      case atStart => rfl
      case round =>
        obtain rfl := hrel
        go_wp2
        go_ret
        exact ⟨ret_str (by unfold trimS; rw [HX.out, str_data]), rfl⟩
end Go.Proofs.YthgpocbmkmmecaaDoor
