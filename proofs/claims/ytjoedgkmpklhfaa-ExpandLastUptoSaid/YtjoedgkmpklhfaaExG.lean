/- The walks of the document's own VarName, value, braced. -/
import Derived.Test.YtjoedgkmpklhfaaExF
namespace Go.Proofs.Ytjoedgkmpklhfaa
open Go.RowKit Go.WideMaps Go.Maps

set_option maxHeartbeats 4000000 in
theorem VarName_any (s : ByteArray) (w : World) :
    Calls Try.prog 15 #[.string s] w fun e w' => e = .returned (.bool (varS s)) ∧ w = w' := by
  rcases Nat.eq_zero_or_pos s.size with h0 | h0
  · have HN := Lib.hid (varS_none h0)
    have b0 : (s.size : Int) < 1 := by omega
    clear h0
    go_enter Try.func15, Try.ntmps15
    go_wp2_with fail
    go_ret
    exact ⟨ret_bool HN.out.symm, rfl⟩
  have b9 : (1 : Int) ≤ (s.size : Int) := by omega
  by_cases h60 : 60 < s.size
  · have HN := Lib.hid (varS_long h60)
    have b0 : (60 : Int) < (s.size : Int) := by omega
    go_enter Try.func15, Try.ntmps15
    go_wp2_with fail
    go_ret
    exact ⟨ret_bool HN.out.symm, rfl⟩
  have b0 : (s.size : Int) ≤ 60 := by omega
  have b1 : (0 : Int) < (s.size : Int) := by omega
  have hr0 := s[0].toNat_lt
  rcases hd : isDig s[0] with _ | _
  · have HY := Lib.hid (fun ha => varS_yes h0 (by omega) hd ha)
    go_enter Try.func15, Try.ntmps15
    go_wp2_with (go_at_call 32; refine (Digit_any _ _).mono ?_; rintro e w' ⟨rfl, rfl⟩)
    clear hd
    go_loop [3] (fun i => ∃ k : Nat, k ≤ s.size ∧ i = .int .i64 k ∧ Hid ((s.data.toList.take k).all wordX = true)) (fun i => s.size - (intOf i).toNat)
    case atStart => exact ⟨0, Nat.zero_le _, rfl, by simp [Hid]⟩
    case round =>
      obtain ⟨k, hk, rfl, hb⟩ := hrel
      by_cases hlt : k < s.size
      · have hr := s[k].toNat_lt
        have c0 : (0 : Int) ≤ (k : Int) := by omega
        have c1 : (k : Int) < (s.size : Int) := by omega
        rcases hp : letterX s[k] with _ | _
        · rcases hq : isDig s[k] with _ | _
          · by_cases h95 : s[k].toNat = 95
            · have h95' : ((s[k].toNat : Int) != 95) = false := by simp [h95]
              have HB : Hid ((s.data.toList.take (k + 1)).all wordX = true) := allX_succ hlt hb.out (wordX_low h95)
              clear h95
              go_wp2_with (first | (go_at_call 33; refine (Letter_any _ _).mono ?_; rintro e w' ⟨rfl, rfl⟩) | (go_at_call 32; refine (Digit_any _ _).mono ?_; rintro e w' ⟨rfl, rfl⟩))
              go_round
              case rel => exact ⟨k + 1, by omega, by go_num, HB⟩
              case measure => simp [intOf]; omega
            · have h95' : ((s[k].toNat : Int) != 95) = true := by simp; omega
              have HN := Lib.hid (varS_bad k hlt (wordX_false hp hq h95))
              clear h95
              go_wp2_with (first | (go_at_call 33; refine (Letter_any _ _).mono ?_; rintro e w' ⟨rfl, rfl⟩) | (go_at_call 32; refine (Digit_any _ _).mono ?_; rintro e w' ⟨rfl, rfl⟩))
              go_ret
              exact ⟨ret_bool HN.out.symm, rfl⟩
          · have HB : Hid ((s.data.toList.take (k + 1)).all wordX = true) := allX_succ hlt hb.out (wordX_dig hq)
            go_wp2_with (first | (go_at_call 33; refine (Letter_any _ _).mono ?_; rintro e w' ⟨rfl, rfl⟩) | (go_at_call 32; refine (Digit_any _ _).mono ?_; rintro e w' ⟨rfl, rfl⟩))
            go_round
            case rel => exact ⟨k + 1, by omega, by go_num, HB⟩
            case measure => simp [intOf]; omega
        · have HB : Hid ((s.data.toList.take (k + 1)).all wordX = true) := allX_succ hlt hb.out (wordX_letter hp)
          go_wp2_with (first | (go_at_call 33; refine (Letter_any _ _).mono ?_; rintro e w' ⟨rfl, rfl⟩) | (go_at_call 32; refine (Digit_any _ _).mono ?_; rintro e w' ⟨rfl, rfl⟩))
          go_round
          case rel => exact ⟨k + 1, by omega, by go_num, HB⟩
          case measure => simp [intOf]; omega
      · obtain rfl : k = s.size := by omega
        go_wp2
        go_ret
        exact ⟨ret_bool (HY.out hb.out).symm, rfl⟩
  · have HN := Lib.hid (varS_digit h0 hd)
    have b2 : decide ((60 : Int) < (s.size : Int)) = false := by simp; omega
    have b3 : decide ((s.size : Int) < 1) = false := by simp; omega
    go_enter Try.func15, Try.ntmps15
    go_wp2_with fail
    refine (Digit_any _ _).mono ?_
    rintro e w' ⟨rfl, rfl⟩
    rw [hd]
    go_wp2_with fail
    go_ret
    exact ⟨ret_bool HN.out.symm, rfl⟩

/-- The value of a variable, from the end: below i no pair has that name. -/
def valAt (env : List PairX) (n : List UInt8) (k : Nat) : Prop := valX env n = valX (env.take k) n
theorem valAt_all {env : List PairX} {n : List UInt8} {k : Nat} (h : env.length ≤ k) : valAt env n k := by unfold valAt; rw [List.take_of_length_le h]
theorem valAt_hit {env : List PairX} {n : List UInt8} {k : Nat} {p : PairX} (h : valAt env n (k + 1)) (hp : env[k]? = some p) (hn : p.1 = n) : valX env n = p.2 := by
  unfold valAt at h
  rw [h, take_snoc hp, valX_snoc, if_pos hn]
theorem valAt_miss {env : List PairX} {n : List UInt8} {k : Nat} {p : PairX} (h : valAt env n (k + 1)) (hp : env[k]? = some p) (hn : p.1 ≠ n) : valAt env n k := by
  unfold valAt at *
  rw [h, take_snoc hp, valX_snoc, if_neg hn]
theorem valAt_none {env : List PairX} {n : List UInt8} (h : valAt env n 0) : valX env n = [] := by
  unfold valAt at h
  rw [h]; rfl

/-- A variable's value as a text: a name that the walk does not look into. -/
def valS (env : List PairX) (s : ByteArray) : ByteArray := str (valX env s.data.toList)
set_option maxHeartbeats 4000000 in
theorem value_any (A : Option Addr) (n c B : Nat) (env : List PairX) (s : ByteArray) (w : World) (h : PairsAt w B A n env) :
    Calls Try.prog 29 #[.slice A n c, .string s] w fun e w' => e = .returned (.string (valS env s)) ∧ w = w' := by
  have hm := h.2.1
  unfold maxLen at hm
  have HP := Lib.hid h
  have hat0 := Lib.hid (valAt_all (env := env) (n := s.data.toList) (k := n) (by rw [h.1]; exact Nat.le_refl _))
  clear h
  go_enter Try.func29, Try.ntmps29
  go_wp2_with fail
  go_loop [5] (fun i => ∃ k : Nat, k ≤ n ∧ i = .int .i64 ((k : Int) - 1) ∧ Hid (valAt env s.data.toList k)) (fun i => (intOf i + 1).toNat)
  case atStart => exact ⟨n, Nat.le_refl _, rfl, hat0⟩
  case round =>
    obtain ⟨k, hk, rfl, hat⟩ := hrel
    cases k with
    | zero =>
      have HN := Lib.hid (valAt_none hat.out)
      have b0 : ¬ ((0 : Int) ≤ ((0 : Nat) : Int) - 1) := by omega
      go_wp2_with fail
      go_ret
      exact ⟨ret_str (congrArg str HN.out.symm), rfl⟩
    | succ k =>
      have e1 : (((k + 1 : Nat) : Int) - 1) = (k : Int) := by omega
      rw [e1]
      clear e1
      have b0 : (0 : Int) ≤ (k : Int) := by omega
      have b1 : (k : Int) < (n : Int) := by omega
      obtain ⟨ad, p, rfl, hbl, hp, m1, m2, c1, c2⟩ := HP.out.at_ (k := k) (by omega)
      by_cases hn : p.1 = s.data.toList
      · have HH := Lib.hid (valAt_hit hat.out hp hn)
        have q1 : ((str p.1).toList == s.toList) = true := by rw [beq_str, decide_eq_true_iff, hn, str_data]
        clear hp hn
        go_wp2_with fail
        go_ret
        exact ⟨ret_str (congrArg str HH.out.symm), rfl⟩
      · have HH := Lib.hid (valAt_miss hat.out hp hn)
        have q1 : ((str p.1).toList == s.toList) = false := by
          rw [beq_str, decide_eq_false_iff_not]
          intro e
          exact hn (by rw [← e]; rfl)
        clear hp hn
        go_wp2_with fail
        go_round
        case rel => exact ⟨k, by omega, by first | rfl | go_num, HH⟩
        case measure => simp [intOf]

theorem brS_def (s : ByteArray) : brS s = str (brX s.data.toList) := rfl
/-- No end brace ahead of k. -/
def brAt (s : ByteArray) (k : Nat) : Prop := (125 : UInt8) ∉ s.data.toList.take k
theorem brAt_succ {s : ByteArray} {k : Nat} (h : brAt s k) (hk : k < s.size) (hc : s[k] ≠ 125) : brAt s (k + 1) := by
  unfold brAt at *
  rw [take_at s k hk]
  simp only [List.mem_append, List.mem_singleton, not_or]
  exact ⟨h, fun e => hc e.symm⟩
theorem brAt_none {s : ByteArray} {k : Nat} (h : brAt s k) (hk : s.size ≤ k) : brS s = ⟨#[]⟩ := by
  unfold brAt at h
  rw [List.take_of_length_le (by rw [size_list]; exact hk)] at h
  rw [brS_def]
  cases hs : s.data.toList with
  | nil => rfl
  | cons a t =>
    rw [hs] at h
    by_cases ha : a = 123
    · subst ha
      rw [brX_brace, cutX_none t (fun e => h (by simp [e])), if_neg (by simp)]
      rfl
    · rw [brX_other (fun r e => ha (by injection e))]; rfl
theorem brAt_split {s : ByteArray} {k : Nat} (h : brAt s k) (hk : k < s.size) (hc : s[k] = 125) (h0 : 0 < s.size) (hb : s[0] = 123) : 1 ≤ k ∧ s.data.toList = 123 :: ((s.extract 1 k).data.toList ++ 125 :: s.data.toList.drop (k + 1)) ∧ (125 : UInt8) ∉ (s.extract 1 k).data.toList := by
  have hk1 : 1 ≤ k := by
    rcases Nat.eq_zero_or_pos k with e | e
    · subst e; rw [hb] at hc; revert hc; decide
    · exact e
  have e1 := List.take_append_drop k s.data.toList
  have e2 := drop_at s k hk
  have e3 := drop_at s 0 h0
  rw [List.drop_zero] at e3
  have e4 : (s.extract 1 k).data.toList = (s.data.toList.drop 1).take (k - 1) := Lib.extract_data s 1 k
  have e5 : s.data.toList.take k = 123 :: (s.data.toList.drop 1).take (k - 1) := by
    conv => lhs; rw [e3, hb]
    obtain ⟨j, rfl⟩ : ∃ j, k = j + 1 := ⟨k - 1, by omega⟩
    rw [List.take_succ_cons]
    rfl
  refine ⟨hk1, ?_, ?_⟩
  · rw [e4]
    conv => lhs; rw [← e1, e2, hc, e5]
    rfl
  · rw [e4]
    intro hm
    exact h (by rw [e5]; exact List.mem_cons_of_mem _ hm)
theorem brAt_yes {s : ByteArray} {k : Nat} (h : brAt s k) (hk : k < s.size) (hc : s[k] = 125) (h0 : 0 < s.size) (hb : s[0] = 123) (hv : varS (s.extract 1 k) = true) : brS s = s.extract 1 k := by
  obtain ⟨_, e, _⟩ := brAt_split h hk hc h0 hb
  rw [brS_def, e, brX_of hv]
  exact str_data _
theorem brAt_no {s : ByteArray} {k : Nat} (h : brAt s k) (hk : k < s.size) (hc : s[k] = 125) (h0 : 0 < s.size) (hb : s[0] = 123) (hv : varS (s.extract 1 k) = false) : brS s = ⟨#[]⟩ := by
  obtain ⟨_, e, hn⟩ := brAt_split h hk hc h0 hb
  rw [brS_def, e, brX_brace, cutX_app _ _ hn, if_neg]
  · rfl
  · rintro ⟨_, h2⟩
    rw [show varX (s.extract 1 k).data.toList = false from hv] at h2
    cases h2
theorem br_head {s : ByteArray} (h0 : 0 < s.size) (hb : s[0] ≠ 123) : brS s = ⟨#[]⟩ := by
  rw [brS_def, brX_other]
  · rfl
  · intro t e
    have e3 := drop_at s 0 h0
    rw [List.drop_zero, e] at e3
    injection e3 with e4 _
    exact hb e4.symm

set_option maxHeartbeats 4000000 in
theorem rbraced_any (s : ByteArray) (hs : s.size ≤ maxLen) (w : World) :
    Calls Try.prog 30 #[.string s] w fun e w' => e = .returned (.string (brS s)) ∧ w = w' := by
  unfold maxLen at hs
  have hat0 : Hid (brAt s 0) := by show brAt s 0; unfold brAt; simp
  go_enter Try.func30, Try.ntmps30
  go_wp2_with fail
  go_loop [3] (fun i => ∃ k : Nat, k ≤ s.size ∧ i = .int .i64 k ∧ Hid (brAt s k)) (fun i => s.size - (intOf i).toNat)
  case atStart => exact ⟨0, Nat.zero_le _, rfl, hat0⟩
  case round =>
    obtain ⟨k, hk, rfl, hat⟩ := hrel
    by_cases hlt : k < s.size
    · have hr := s[k].toNat_lt
      have b0 : (0 : Int) ≤ (k : Int) := by omega
      have b1 : (k : Int) < (s.size : Int) := by omega
      have b2 : (0 : Int) < (s.size : Int) := by omega
      have h0 : 0 < s.size := by omega
      by_cases hc : s[k] = 125
      · have q1 : ((s[k].toNat : Int) == 125) = true := by rw [hc]; rfl
        by_cases h1 : 1 < s.size
        · have b3 : (1 : Int) < (s.size : Int) := by omega
          have hr0 := s[0].toNat_lt
          by_cases hb : s[0] = 123
          · have q2 : ((s[0].toNat : Int) == 123) = true := by rw [hb]; rfl
            have hk1 := (brAt_split hat.out hlt hc h0 hb).1
            have b4 : (1 : Int) ≤ (k : Int) := by omega
            have b5 : (k : Int) ≤ (s.size : Int) := by omega
            rcases hv : varS (s.extract 1 k) with _ | _
            · have HN := Lib.hid (brAt_no hat.out hlt hc h0 hb hv)
              clear hc hb
              go_wp2_with fail
              refine (VarName_any _ _).mono ?_
              rintro e w' ⟨rfl, rfl⟩
              go_wp2_with fail
              go_ret
              exact ⟨ret_str HN.out.symm, rfl⟩
            · have HN := Lib.hid (brAt_yes hat.out hlt hc h0 hb hv)
              clear hc hb
              go_wp2_with fail
              refine (VarName_any _ _).mono ?_
              rintro e w' ⟨rfl, rfl⟩
              go_wp2_with fail
              go_ret
              exact ⟨ret_str HN.out.symm, rfl⟩
          · have q2 : ((s[0].toNat : Int) == 123) = false := by simp; exact fun e => hb (u8_eq (d := 123) e)
            have HN := Lib.hid (br_head h0 hb)
            clear hc hb
            go_wp2_with fail
            go_ret
            exact ⟨ret_str HN.out.symm, rfl⟩
        · have b3 : ¬ ((1 : Int) < (s.size : Int)) := by omega
          have hk0 : k = 0 := by omega
          have HN := Lib.hid (br_head (s := s) h0 (by intro e; subst hk0; rw [e] at hc; revert hc; decide))
          clear hc
          subst hk0
          have q3 : ((s[0].toNat : Int) == 125) = true := q1
          clear q1
          go_wp2_with fail
          go_ret
          exact ⟨ret_str HN.out.symm, rfl⟩
      · have q1 : ((s[k].toNat : Int) == 125) = false := by simp; exact fun e => hc (u8_eq (d := 125) e)
        have hat1 := Lib.hid (brAt_succ hat.out hlt hc)
        clear hc
        go_wp2_with fail
        go_round
        case rel => exact ⟨k + 1, by omega, by go_num, hat1⟩
        case measure => simp [intOf]; omega
    · have HN := Lib.hid (brAt_none hat.out (by omega))
      go_wp2_with fail
      go_ret
      exact ⟨ret_str HN.out.symm, rfl⟩
end Go.Proofs.Ytjoedgkmpklhfaa
