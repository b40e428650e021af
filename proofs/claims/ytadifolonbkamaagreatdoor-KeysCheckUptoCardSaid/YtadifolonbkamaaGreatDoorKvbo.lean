/- The walks of the document's equals, Letter, VarName; what they say of the developers' own. -/
import Derived.Test.YtadifolonbkamaaGreatDoorKvbn
namespace Go.Proofs.YtadifolonbkamaaGreatDoor
open Go.RowKit
theorem first_uniq {c : UInt8} {a b a' b' : List UInt8} (h : a ++ c :: b = a' ++ c :: b') (ha : c ∉ a) (ha' : c ∉ a') : a = a' := by
  induction a generalizing a' with
  | nil =>
    cases a' with
    | nil => rfl
    | cons x a' =>
      injection h with h1 _
      exact absurd (by rw [h1]; simp) ha'
  | cons y a ih =>
    cases a' with
    | nil =>
      injection h with h1 _
      exact absurd (by rw [h1]; simp) ha
    | cons x a' =>
      injection h with h1 h2
      rw [h1, ih h2 (fun q => ha (by simp [q])) (fun q => ha' (by simp [q]))]
theorem ext_bytes {a b : ByteArray} (h : a.data.toList = b.data.toList) : a = b := by
  have := congrArg str h
  rwa [str_data, str_data] at this
def eqAt (s : ByteArray) : Int := if cutF 61 s = true then ((cutA 61 s).size : Int) else -1
theorem cut_take {c : UInt8} {s : ByteArray} {k : Nat} (h1 : k < s.size) (h2 : s[k] = c) (h3 : c ∉ s.data.toList.take k) : cutF c s = true ∧ cutA c s = s.extract 0 k := by
  have e : s.data.toList = s.data.toList.take k ++ c :: s.data.toList.drop (k + 1) := by
    conv => lhs; rw [← List.take_append_drop k s.data.toList, drop_at s k h1, h2]
  rcases hf : cutF c s with _ | _
  · have := (cutC_no hf).1
    rw [e] at this
    simp at this
  · obtain ⟨q1, q2, _⟩ := cutC_yes hf
    refine ⟨rfl, ext_bytes ?_⟩
    rw [Lib.extract_data, List.drop_zero, Nat.sub_zero]
    exact first_uniq (q2.symm.trans e) q1 h3
theorem eq_yes {s : ByteArray} (h : cutF 61 s = true) : ∃ m : Nat, eqAt s = m ∧ m + 1 ≤ s.size ∧ s.extract 0 m = cutA 61 s := by
  obtain ⟨q1, q2, q3⟩ := cutC_yes h
  refine ⟨(cutA 61 s).size, by unfold eqAt; rw [if_pos h], by omega, ext_bytes ?_⟩
  rw [Lib.extract_data, List.drop_zero, Nat.sub_zero, q2]
  have e : (cutA 61 s).size = (cutA 61 s).data.toList.length := (size_list _).symm
  rw [e, List.take_append_of_le_length (Nat.le_refl _), List.take_length]
theorem eq_no {s : ByteArray} (h : cutF 61 s = false) : eqAt s = -1 := by unfold eqAt; rw [h]; rfl
theorem not_mem_succ {c : UInt8} {s : ByteArray} {k : Nat} (h1 : k < s.size) (h2 : s[k] ≠ c) (h3 : c ∉ s.data.toList.take k) : c ∉ s.data.toList.take (k + 1) := by
  rw [take_at s k h1]
  simp only [List.mem_append, List.mem_singleton]
  rintro (h | h)
  · exact h3 h
  · exact h2 h.symm
set_option maxHeartbeats 2000000 in
theorem equals_any (s : ByteArray) (hs : s.size ≤ maxLen) (w : World) :
    Calls Tryz.prog 65 #[.string s] w fun e w' => e = .returned (.int .i64 (eqAt s)) ∧ w = w' := by
  unfold maxLen at hs
  go_enter Tryz.func65, Tryz.ntmps65
  go_wp2
  go_loop [3] (fun i => ∃ k : Nat, k ≤ s.size ∧ i = .int .i64 k ∧ Hid ((61 : UInt8) ∉ s.data.toList.take k)) (fun i => s.size - (intOf i).toNat)
  case atStart => exact ⟨0, Nat.zero_le _, rfl, Lib.hid (by simp)⟩
  case round =>
    obtain ⟨k, hk, rfl, HK⟩ := hrel
    have b0 : (0 : Int) ≤ (k : Int) := by omega
    by_cases hlt : k < s.size
    · have b1 : (k : Int) < (s.size : Int) := by omega
      by_cases hc : s[k] = 61
      · have HC : Hid (eqAt s = (k : Int)) := by
          show _ = _
          obtain ⟨q1, q2⟩ := cut_take hlt hc HK.out
          unfold eqAt
          rw [if_pos q1, q2, ByteArray.size_extract]
          omega
        have e1 : ((s[k].toNat : Int) == 61) = true := by rw [hc]; rfl
        clear hc
        go_wp2
        go_ret
        exact ⟨ret_int HC.out.symm, rfl⟩
      · have HC : Hid ((61 : UInt8) ∉ s.data.toList.take (k + 1)) := not_mem_succ hlt hc HK.out
        have e1 : ((s[k].toNat : Int) == 61) = false := by
          rw [beq_eq_false_iff_ne]
          intro e
          exact hc (UInt8.toNat_inj.1 (by show s[k].toNat = 61; omega))
        clear hc
        go_wp2
        go_round
        case rel => exact ⟨k + 1, by omega, by go_num, HC⟩
        case measure => simp [intOf]; omega
    · have HC : Hid (eqAt s = -1) := by
        show _ = _
        have h61 := HK.out
        rw [List.take_of_length_le (by rw [size_list]; omega)] at h61
        have : cutF 61 s = false := by
          rw [Bool.eq_false_iff]
          intro e
          exact h61 (by rw [(cutC_yes e).2.1]; simp)
        unfold eqAt
        rw [this, if_neg (by simp)]
      go_wp2
      go_ret
      exact ⟨ret_int HC.out.symm, rfl⟩
def letterX (c : UInt8) : Bool := (decide (97 ≤ c.toNat) && decide (c.toNat ≤ 122)) || (decide (65 ≤ c.toNat) && decide (c.toNat ≤ 90))
def wordX (c : UInt8) : Bool := letterX c || isDig c || decide (c = 95)
def varX (l : List UInt8) : Bool := decide (1 ≤ l.length) && decide (l.length ≤ 60) && !(match l with | c :: _ => isDig c | [] => false) && l.all wordX
theorem varX_iff (l : List UInt8) : varX l = true ↔ 1 ≤ l.length ∧ l.length ≤ 60 ∧ (∀ c t, l = c :: t → isDig c = false) ∧ ∀ c ∈ l, wordX c = true := by
  unfold varX
  cases l with
  | nil => simp
  | cons c t =>
    simp only [Bool.and_eq_true, decide_eq_true_eq, Bool.not_eq_true', List.all_eq_true]
    constructor
    · rintro ⟨⟨⟨h1, h2⟩, h3⟩, h4⟩
      exact ⟨h1, h2, fun c' t' e => by injection e with e1 e2; subst e1; exact h3, h4⟩
    · rintro ⟨h1, h2, h3, h4⟩
      exact ⟨⟨⟨h1, h2⟩, h3 c t rfl⟩, h4⟩
theorem letterX_iff (c : UInt8) : letterX c = true ↔ (97 ≤ c.toNat ∧ c.toNat ≤ 122) ∨ (65 ≤ c.toNat ∧ c.toNat ≤ 90) := by unfold letterX; simp
theorem Letter_any (c : UInt8) (w : World) :
    Calls Tryz.prog 93 #[.int .u8 c.toNat] w fun e w' => e = .returned (.bool (letterX c)) ∧ w = w' := by
  have hr := c.toNat_lt
  have HL := Lib.hid (letterX_iff c)
  rcases hl : letterX c with _ | _
  all_goals have HH := Lib.hid hl
  all_goals clear hl
  all_goals generalize c.toNat = n at *
  all_goals have H : n ≤ 64 ∨ (65 ≤ n ∧ n ≤ 90) ∨ (91 ≤ n ∧ n ≤ 96) ∨ (97 ≤ n ∧ n ≤ 122) ∨ 123 ≤ n := by omega
  all_goals rcases H with h | ⟨h1, h2⟩ | ⟨h1, h2⟩ | ⟨h1, h2⟩ | h
  all_goals
    go_enter Tryz.func93, Tryz.ntmps93
    go_wp2
  all_goals try (exfalso; omega)
  all_goals go_ret
  all_goals (refine ⟨ret_bool ?_, rfl⟩)
  all_goals first | rfl | (have h0 := HL.out; rw [HH.out] at h0; first | (exfalso; simp at h0; done) | (exfalso; simp at h0; omega) | (simp at h0 ⊢; done) | (simp at h0 ⊢; omega))
def varS (s : ByteArray) : Bool := varX s.data.toList
theorem varS_none {s : ByteArray} (h : s.size = 0) : varS s = false := by
  unfold varS
  rw [show s.data.toList = [] from List.eq_nil_of_length_eq_zero (by rw [size_list]; exact h)]; rfl
theorem varS_long {s : ByteArray} (h : 60 < s.size) : varS s = false := by
  unfold varS
  rw [← Bool.not_eq_true, varX_iff, size_list]
  rintro ⟨_, h2, _⟩
  omega
theorem varS_digit {s : ByteArray} (h : 0 < s.size) (hd : isDig s[0] = true) : varS s = false := by
  unfold varS
  rw [← Bool.not_eq_true, varX_iff]
  rintro ⟨_, _, h3, _⟩
  have := h3 s[0] (s.data.toList.drop 1) (by have := drop_at s 0 h; simpa using this)
  rw [hd] at this; cases this
theorem varS_bad {s : ByteArray} (k : Nat) (h : k < s.size) (hd : wordX s[k] = false) : varS s = false := by
  unfold varS
  rw [← Bool.not_eq_true, varX_iff]
  rintro ⟨_, _, _, h4⟩
  have := h4 s[k] (by
    have e := List.take_append_drop k s.data.toList
    rw [drop_at s k h] at e
    rw [← e]; simp)
  rw [hd] at this; cases this
theorem allX_succ {s : ByteArray} {k : Nat} (h : k < s.size) (ha : (s.data.toList.take k).all wordX = true) (hd : wordX s[k] = true) : (s.data.toList.take (k + 1)).all wordX = true := by
  rw [take_at s k h, List.all_append, ha]; simpa using hd
theorem varS_yes {s : ByteArray} (h1 : 0 < s.size) (h2 : s.size ≤ 60) (hd : isDig s[0] = false) (ha : (s.data.toList.take s.size).all wordX = true) : varS s = true := by
  unfold varS
  rw [varX_iff, size_list]
  refine ⟨h1, h2, ?_, ?_⟩
  · intro c t e
    have := drop_at s 0 h1
    rw [List.drop_zero, e] at this
    injection this with e1 _
    rw [e1]; exact hd
  · rw [List.take_of_length_le (by simp)] at ha
    exact List.all_eq_true.1 ha
theorem wordX_false {c : UInt8} (h1 : letterX c = false) (h2 : isDig c = false) (h3 : ¬ c.toNat = 95) : wordX c = false := by
  unfold wordX
  rw [h1, h2]
  have : c ≠ 95 := fun e => h3 (by rw [e]; rfl)
  simp [this]
theorem wordX_letter {c : UInt8} (h1 : letterX c = true) : wordX c = true := by unfold wordX; rw [h1]; rfl
theorem wordX_dig {c : UInt8} (h1 : isDig c = true) : wordX c = true := by unfold wordX; rw [h1]; simp
theorem wordX_low {c : UInt8} (h1 : c.toNat = 95) : wordX c = true := by
  have : c = 95 := by rw [← UInt8.toNat_inj]; exact h1
  subst this; rfl
set_option maxHeartbeats 4000000 in
theorem VarName_any (s : ByteArray) (w : World) :
    Calls Tryz.prog 66 #[.string s] w fun e w' => e = .returned (.bool (varS s)) ∧ w = w' := by
  rcases Nat.eq_zero_or_pos s.size with h0 | h0
  · have HN := Lib.hid (varS_none h0)
    have b0 : (s.size : Int) < 1 := by omega
    clear h0
    go_enter Tryz.func66, Tryz.ntmps66
    go_wp2_with fail
    go_ret
    exact ⟨ret_bool HN.out.symm, rfl⟩
  have b9 : (1 : Int) ≤ (s.size : Int) := by omega
  by_cases h60 : 60 < s.size
  · have HN := Lib.hid (varS_long h60)
    have b0 : (60 : Int) < (s.size : Int) := by omega
    have b2 : decide ((60 : Int) < (s.size : Int)) = true := by simp; omega
    have b3 : decide ((s.size : Int) < 1) = false := by simp; omega
    have u1 : (0 : Nat) ≤ 1 := Nat.zero_le _
    go_enter Tryz.func66, Tryz.ntmps66
    go_wp2_with fail
    go_ret
    exact ⟨ret_bool HN.out.symm, rfl⟩
  have b0 : (s.size : Int) ≤ 60 := by omega
  have b1 : (0 : Int) < (s.size : Int) := by omega
  have hr0 := s[0].toNat_lt
  rcases hd : isDig s[0] with _ | _
  · have HY := Lib.hid (fun ha => varS_yes h0 (by omega) hd ha)
    go_enter Tryz.func66, Tryz.ntmps66
    go_wp2_with (go_at_call 57; refine (Digit_any _ _).mono ?_; rintro e w' ⟨rfl, rfl⟩)
    clear hd
    go_loop [3] (fun i => ∃ k : Nat, k ≤ s.size ∧ i = .int .i64 k ∧ Hid ((s.data.toList.take k).all wordX = true)) (fun i => s.size - (intOf i).toNat)
    case atStart => exact ⟨0, Nat.zero_le _, rfl, by simp [Hid]⟩
    case round =>
      obtain ⟨k, hk, rfl, hb⟩ := hrel
      by_cases hlt : k < s.size
      · have hr := s[k].toNat_lt
        have c0 : (0 : Int) ≤ (k : Int) := by omega
        have c1 : (k : Int) < (s.size : Int) := by omega
        rcases hp : letterX s[k] with _ | _
        · rcases hq : isDig s[k] with _ | _
          · by_cases h95 : s[k].toNat = 95
            · have h95' : ((s[k].toNat : Int) != 95) = false := by simp [h95]
              have HB : Hid ((s.data.toList.take (k + 1)).all wordX = true) := allX_succ hlt hb.out (wordX_low h95)
              clear h95
              go_wp2_with (first | (go_at_call 93; refine (Letter_any _ _).mono ?_; rintro e w' ⟨rfl, rfl⟩) | (go_at_call 57; refine (Digit_any _ _).mono ?_; rintro e w' ⟨rfl, rfl⟩))
              go_round
              case rel => exact ⟨k + 1, by omega, by go_num, HB⟩
              case measure => simp [intOf]; omega
            · have h95' : ((s[k].toNat : Int) != 95) = true := by simp; omega
              have HN := Lib.hid (varS_bad k hlt (wordX_false hp hq h95))
              clear h95
              go_wp2_with (first | (go_at_call 93; refine (Letter_any _ _).mono ?_; rintro e w' ⟨rfl, rfl⟩) | (go_at_call 57; refine (Digit_any _ _).mono ?_; rintro e w' ⟨rfl, rfl⟩))
              go_ret
              exact ⟨ret_bool HN.out.symm, rfl⟩
          · have HB : Hid ((s.data.toList.take (k + 1)).all wordX = true) := allX_succ hlt hb.out (wordX_dig hq)
            go_wp2_with (first | (go_at_call 93; refine (Letter_any _ _).mono ?_; rintro e w' ⟨rfl, rfl⟩) | (go_at_call 57; refine (Digit_any _ _).mono ?_; rintro e w' ⟨rfl, rfl⟩))
            go_round
            case rel => exact ⟨k + 1, by omega, by go_num, HB⟩
            case measure => simp [intOf]; omega
        · have HB : Hid ((s.data.toList.take (k + 1)).all wordX = true) := allX_succ hlt hb.out (wordX_letter hp)
          go_wp2_with (first | (go_at_call 93; refine (Letter_any _ _).mono ?_; rintro e w' ⟨rfl, rfl⟩) | (go_at_call 57; refine (Digit_any _ _).mono ?_; rintro e w' ⟨rfl, rfl⟩))
          go_round
          case rel => exact ⟨k + 1, by omega, by go_num, HB⟩
          case measure => simp [intOf]; omega
      · obtain rfl : k = s.size := by omega
        go_wp2
        go_ret
        exact ⟨ret_bool (HY.out hb.out).symm, rfl⟩
  · have HN := Lib.hid (varS_digit h0 hd)
    have b2 : decide ((60 : Int) < (s.size : Int)) = false := by simp; omega
    have b3 : decide ((s.size : Int) < 1) = false := by simp; omega
    go_enter Tryz.func66, Tryz.ntmps66
    go_wp2_with fail
    refine (Digit_any _ _).mono ?_
    rintro e w' ⟨rfl, rfl⟩
    rw [hd]
    go_wp2_with fail
    go_ret
    exact ⟨ret_bool HN.out.symm, rfl⟩
theorem varX_isVar (s : ByteArray) : varS s = isVarS s := by
  unfold varS isVarS consS headDig
  have hl : s.data.toList.length = s.size := size_list s
  have he : s.toList.isEmpty = decide (s.data.toList = []) := by
    rw [Lib.toList_data]
    cases s.data.toList <;> rfl
  rw [he, ← hl]
  have hw : ∀ c, wordX c = varV c := fun c => by
    unfold wordX varV letterX
    have h95 : decide (c = 95) = decide (c.toNat = 95) := by
      rw [decide_eq_decide, ← UInt8.toNat_inj]; rfl
    have hd : isDig c = digV c := rfl
    rw [h95, hd]
  have hall : s.data.toList.all wordX = s.data.toList.all varV := by rw [funext hw]
  unfold varX
  rw [hall]
  cases hs : s.data.toList with
  | nil => rfl
  | cons c t =>
    have hd : isDig c = digV c := rfl
    simp only [List.length_cons]
    rw [hd]
    have h1 : decide (1 ≤ t.length + 1) = true := decide_eq_true (by omega)
    have h0 : decide (c :: t = []) = false := decide_eq_false (by simp)
    rw [h1, h0]
    cases decide (t.length + 1 ≤ 60) <;> cases (c :: t).all varV <;> cases digV c <;> rfl
end Go.Proofs.YtadifolonbkamaaGreatDoor
