/- The walks of the developers' isLetter, isDigit, isVariable, and of the document's Letter, VarName. -/
import Derived.Test.YtjoedgkmpklhfaaExR
import Derived.Test.YtjoedgkmpklhfaaExL
namespace Go.Proofs.Ytjoedgkmpklhfaa
open Go.RowKit

theorem letterX_iff (c : UInt8) : letterX c = true ↔ (97 ≤ c.toNat ∧ c.toNat ≤ 122) ∨ (65 ≤ c.toNat ∧ c.toNat ≤ 90) := by unfold letterX; simp
theorem isLetter_any (c : UInt8) (w : World) :
    Calls Try.prog 56 #[.int .u8 c.toNat] w fun e w' => e = .returned (.bool (letterX c)) ∧ w = w' := by
  have hr := c.toNat_lt
  have HL := Lib.hid (letterX_iff c)
  rcases hl : letterX c with _ | _
  all_goals have HH := Lib.hid hl
  all_goals clear hl
  all_goals generalize c.toNat = n at *
  all_goals have H : n ≤ 64 ∨ (65 ≤ n ∧ n ≤ 90) ∨ (91 ≤ n ∧ n ≤ 96) ∨ (97 ≤ n ∧ n ≤ 122) ∨ 123 ≤ n := by omega
  all_goals rcases H with h | ⟨h1, h2⟩ | ⟨h1, h2⟩ | ⟨h1, h2⟩ | h
  all_goals
    go_enter Try.func56, Try.ntmps56
    go_wp2
  all_goals try (exfalso; omega)
  all_goals go_ret
  all_goals (refine ⟨ret_bool ?_, rfl⟩)
  all_goals first | rfl | (have h0 := HL.out; rw [HH.out] at h0; first | (exfalso; simp at h0; done) | (exfalso; simp at h0; omega) | (simp at h0 ⊢; done) | (simp at h0 ⊢; omega))
theorem Letter_any (c : UInt8) (w : World) :
    Calls Try.prog 33 #[.int .u8 c.toNat] w fun e w' => e = .returned (.bool (letterX c)) ∧ w = w' := by
  have hr := c.toNat_lt
  have HL := Lib.hid (letterX_iff c)
  rcases hl : letterX c with _ | _
  all_goals have HH := Lib.hid hl
  all_goals clear hl
  all_goals generalize c.toNat = n at *
  all_goals have H : n ≤ 64 ∨ (65 ≤ n ∧ n ≤ 90) ∨ (91 ≤ n ∧ n ≤ 96) ∨ (97 ≤ n ∧ n ≤ 122) ∨ 123 ≤ n := by omega
  all_goals rcases H with h | ⟨h1, h2⟩ | ⟨h1, h2⟩ | ⟨h1, h2⟩ | h
  all_goals
    go_enter Try.func33, Try.ntmps33
    go_wp2
  all_goals try (exfalso; omega)
  all_goals go_ret
  all_goals (refine ⟨ret_bool ?_, rfl⟩)
  all_goals first | rfl | (have h0 := HL.out; rw [HH.out] at h0; first | (exfalso; simp at h0; done) | (exfalso; simp at h0; omega) | (simp at h0 ⊢; done) | (simp at h0 ⊢; omega))
theorem isDigit_any (c : UInt8) (w : World) :
    Calls Try.prog 55 #[.int .u8 c.toNat] w fun e w' => e = .returned (.bool (isDig c)) ∧ w = w' := by
  have hr := c.toNat_lt
  by_cases h1 : c.toNat < 48
  · have HD := Lib.hid (show isDig c = false by unfold isDig; simp; omega)
    have h1' : (c.toNat : Int) < 48 := by omega
    go_enter Try.func55, Try.ntmps55
    go_wp2
    go_ret
    exact ⟨ret_bool HD.out.symm, rfl⟩
  · have h1' : (48 : Int) ≤ (c.toNat : Int) := by omega
    by_cases h2 : c.toNat ≤ 57
    · have HD := Lib.hid (show isDig c = true by unfold isDig; simp; omega)
      have h2' : (c.toNat : Int) ≤ 57 := by omega
      clear h1
      go_enter Try.func55, Try.ntmps55
      go_wp2
      go_ret
      exact ⟨ret_bool (by first | exact HD.out.symm | (rw [HD.out]; done) | (rw [HD.out]; simp; done) | (rw [HD.out]; simp; omega)), rfl⟩
    · have HD := Lib.hid (show isDig c = false by unfold isDig; simp; omega)
      have h2' : (57 : Int) < (c.toNat : Int) := by omega
      clear h1 h2
      go_enter Try.func55, Try.ntmps55
      go_wp2
      go_ret
      exact ⟨ret_bool (by first | exact HD.out.symm | (rw [HD.out]; done) | (rw [HD.out]; simp; done) | (rw [HD.out]; simp; omega)), rfl⟩

/-- Is a text a variable's name: a name that the walk does not look into. -/
def varS (s : ByteArray) : Bool := varX s.data.toList
def headDig (s : ByteArray) : Bool := match s.data.toList with | c :: _ => isDig c | [] => false
theorem varS_none {s : ByteArray} (h : s.size = 0) : varS s = false := by
  unfold varS
  rw [show s.data.toList = [] from List.eq_nil_of_length_eq_zero (by rw [size_list]; exact h)]; rfl
theorem varS_long {s : ByteArray} (h : 60 < s.size) : varS s = false := by
  unfold varS
  rw [← Bool.not_eq_true, varX_iff, size_list]
  rintro ⟨_, h2, _⟩
  omega
theorem varS_digit {s : ByteArray} (h : 0 < s.size) (hd : isDig s[0] = true) : varS s = false := by
  unfold varS
  rw [← Bool.not_eq_true, varX_iff]
  rintro ⟨_, _, h3, _⟩
  have := h3 s[0] (s.data.toList.drop 1) (by have := drop_at s 0 h; simpa using this)
  rw [hd] at this; cases this
theorem varS_bad {s : ByteArray} (k : Nat) (h : k < s.size) (hd : wordX s[k] = false) : varS s = false := by
  unfold varS
  rw [← Bool.not_eq_true, varX_iff]
  rintro ⟨_, _, _, h4⟩
  have := h4 s[k] (by
    have e := List.take_append_drop k s.data.toList
    rw [drop_at s k h] at e
    rw [← e]; simp)
  rw [hd] at this; cases this
theorem allX_succ {s : ByteArray} {k : Nat} (h : k < s.size) (ha : (s.data.toList.take k).all wordX = true) (hd : wordX s[k] = true) : (s.data.toList.take (k + 1)).all wordX = true := by
  rw [take_at s k h, List.all_append, ha]; simpa using hd
theorem varS_yes {s : ByteArray} (h1 : 0 < s.size) (h2 : s.size ≤ 60) (hd : isDig s[0] = false) (ha : (s.data.toList.take s.size).all wordX = true) : varS s = true := by
  unfold varS
  rw [varX_iff, size_list]
  refine ⟨h1, h2, ?_, ?_⟩
  · intro c t e
    have := drop_at s 0 h1
    rw [List.drop_zero, e] at this
    injection this with e1 _
    rw [e1]; exact hd
  · rw [List.take_of_length_le (by simp)] at ha
    exact List.all_eq_true.1 ha
theorem wordX_false {c : UInt8} (h1 : letterX c = false) (h2 : isDig c = false) (h3 : ¬ c.toNat = 95) : wordX c = false := by
  unfold wordX
  rw [h1, h2]
  have : c ≠ 95 := fun e => h3 (by rw [e]; rfl)
  simp [this]
theorem wordX_letter {c : UInt8} (h1 : letterX c = true) : wordX c = true := by unfold wordX; rw [h1]; rfl
theorem wordX_dig {c : UInt8} (h1 : isDig c = true) : wordX c = true := by unfold wordX; rw [h1]; simp
theorem wordX_low {c : UInt8} (h1 : c.toNat = 95) : wordX c = true := by
  have : c = 95 := by rw [← UInt8.toNat_inj]; exact h1
  subst this; rfl

set_option maxHeartbeats 4000000 in
theorem isVariable_any (s : ByteArray) (w : World) :
    Calls Try.prog 43 #[.string s] w fun e w' => e = .returned (.bool (varS s)) ∧ w = w' := by
  rcases Nat.eq_zero_or_pos s.size with h0 | h0
  · have HN := Lib.hid (varS_none h0)
    have he : s.toList.isEmpty = true := by
      rw [Lib.toList_data, show s.data.toList = [] from List.eq_nil_of_length_eq_zero (by rw [size_list]; exact h0)]; rfl
    clear h0
    go_enter Try.func43, Try.ntmps43
    go_wp2_with fail
    go_ret
    exact ⟨ret_bool HN.out.symm, rfl⟩
  have he : s.toList.isEmpty = false := by
    rw [Lib.toList_data]
    cases hd : s.data.toList with
    | nil => exfalso; rw [← size_list, hd] at h0; simp at h0
    | cons a t => rfl
  by_cases h60 : 60 < s.size
  · have HN := Lib.hid (varS_long h60)
    have b0 : (60 : Int) < (s.size : Int) := by omega
    go_enter Try.func43, Try.ntmps43
    go_wp2_with fail
    go_ret
    exact ⟨ret_bool HN.out.symm, rfl⟩
  have b0 : (s.size : Int) ≤ 60 := by omega
  have b1 : (0 : Int) < (s.size : Int) := by omega
  have hr0 := s[0].toNat_lt
  rcases hd : isDig s[0] with _ | _
  · have HY := Lib.hid (fun ha => varS_yes h0 (by omega) hd ha)
    go_enter Try.func43, Try.ntmps43
    go_wp2_with (go_at_call 55; refine (isDigit_any _ _).mono ?_; rintro e w' ⟨rfl, rfl⟩)
    clear hd
    go_loop [18] (fun i => ∃ k : Nat, k ≤ s.size ∧ i = .int .i64 k ∧ Hid ((s.data.toList.take k).all wordX = true)) (fun i => s.size - (intOf i).toNat)
    case atStart => exact ⟨0, Nat.zero_le _, rfl, by simp [Hid]⟩
    case round =>
      obtain ⟨k, hk, rfl, hb⟩ := hrel
      by_cases hlt : k < s.size
      · have hr := s[k].toNat_lt
        have c0 : (0 : Int) ≤ (k : Int) := by omega
        have c1 : (k : Int) < (s.size : Int) := by omega
        rcases hp : letterX s[k] with _ | _
        · rcases hq : isDig s[k] with _ | _
          · by_cases h95 : s[k].toNat = 95
            · have h95' : ((s[k].toNat : Int) != 95) = false := by simp [h95]
              have HB : Hid ((s.data.toList.take (k + 1)).all wordX = true) := allX_succ hlt hb.out (wordX_low h95)
              clear h95
              go_wp2_with (first | (go_at_call 56; refine (isLetter_any _ _).mono ?_; rintro e w' ⟨rfl, rfl⟩) | (go_at_call 55; refine (isDigit_any _ _).mono ?_; rintro e w' ⟨rfl, rfl⟩))
              go_round
              case rel => exact ⟨k + 1, by omega, by go_num, HB⟩
              case measure => simp [intOf]; omega
            · have h95' : ((s[k].toNat : Int) != 95) = true := by simp; omega
              have HN := Lib.hid (varS_bad k hlt (wordX_false hp hq h95))
              clear h95
              go_wp2_with (first | (go_at_call 56; refine (isLetter_any _ _).mono ?_; rintro e w' ⟨rfl, rfl⟩) | (go_at_call 55; refine (isDigit_any _ _).mono ?_; rintro e w' ⟨rfl, rfl⟩))
              go_ret
              exact ⟨ret_bool HN.out.symm, rfl⟩
          · have HB : Hid ((s.data.toList.take (k + 1)).all wordX = true) := allX_succ hlt hb.out (wordX_dig hq)
            go_wp2_with (first | (go_at_call 56; refine (isLetter_any _ _).mono ?_; rintro e w' ⟨rfl, rfl⟩) | (go_at_call 55; refine (isDigit_any _ _).mono ?_; rintro e w' ⟨rfl, rfl⟩))
            go_round
            case rel => exact ⟨k + 1, by omega, by go_num, HB⟩
            case measure => simp [intOf]; omega
        · have HB : Hid ((s.data.toList.take (k + 1)).all wordX = true) := allX_succ hlt hb.out (wordX_letter hp)
          go_wp2_with (first | (go_at_call 56; refine (isLetter_any _ _).mono ?_; rintro e w' ⟨rfl, rfl⟩) | (go_at_call 55; refine (isDigit_any _ _).mono ?_; rintro e w' ⟨rfl, rfl⟩))
          go_round
          case rel => exact ⟨k + 1, by omega, by go_num, HB⟩
          case measure => simp [intOf]; omega
      · obtain rfl : k = s.size := by omega
        go_wp2
        go_ret
        exact ⟨ret_bool (HY.out hb.out).symm, rfl⟩
  · have HN := Lib.hid (varS_digit h0 hd)
    have b2 : decide ((60 : Int) < (s.size : Int)) = false := by simp; omega
    go_enter Try.func43, Try.ntmps43
    go_wp2_with fail
    refine (isDigit_any _ _).mono ?_
    rintro e w' ⟨rfl, rfl⟩
    rw [hd]
    go_wp2_with fail
    go_ret
    exact ⟨ret_bool HN.out.symm, rfl⟩
end Go.Proofs.Ytjoedgkmpklhfaa
