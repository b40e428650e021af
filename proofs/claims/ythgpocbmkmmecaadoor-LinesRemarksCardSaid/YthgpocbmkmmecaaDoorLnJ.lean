/- The walks of the document's remark, of, equals. -/
import Derived.Test.YthgpocbmkmmecaaDoorLnT
import Derived.Test.YthgpocbmkmmecaaDoorLnF
namespace Go.Proofs.YthgpocbmkmmecaaDoor
open Go.RowKit

theorem remS_trim (s : ByteArray) : remS s = (headIs 35 (trimS s) || headIs 59 (trimS s)) := by
  have e : ∀ c, headIs c (trimS s) = headIs c (ltrimS s) := by
    intro c
    unfold headIs trimS ltrimS
    rw [str_list, str_list]
    unfold trimL
    have hd := dropWhile_head (p := blkL) (l := s.data.toList)
    change ∀ c, (ltrim s.data.toList).head? = some c → blkL c = false at hd
    cases h : ltrim s.data.toList with
    | nil => rfl
    | cons x r =>
      have hx := hd x (by rw [h]; rfl)
      rw [rtrim_cons, if_neg (by simp [hx])]
      rfl
  rw [remS_eq, e, e]
theorem headIs_at {c : UInt8} {s : ByteArray} (h : 0 < s.size) : headIs c s = ((s[0].toNat : Int) == (c.toNat : Int)) := by
  unfold headIs
  have hd : s.data.toList = s[0] :: s.data.toList.drop 1 := by
    have := drop_at s 0 h
    rwa [List.drop_zero] at this
  rw [hd, Bool.eq_iff_iff]
  simp only [List.head?_cons, Option.some.injEq, decide_eq_true_eq, beq_iff_eq, ← UInt8.toNat_inj]
  constructor
  · intro e; omega
  · intro e; omega
theorem headIs_empty {c : UInt8} {s : ByteArray} (h : s.size = 0) : headIs c s = false := by
  unfold headIs
  rw [nil_of_size h]; rfl
set_option maxHeartbeats 2000000 in
theorem remark_any (s : ByteArray) (hs : s.size ≤ maxLen) (w : World) :
    Calls Tryd.prog 38 #[.string s] w fun e w' => e = .returned (.bool (remS s)) ∧ w = w' := by
  have HR := Lib.hid (remS_trim s)
  by_cases h0 : 0 < (trimS s).size
  · have he : (trimS s).toList.isEmpty = false := emp_f h0
    have b0 : (0 : Int) < ((trimS s).size : Int) := by omega
    have q1 := headIs_at (c := 35) h0
    have q2 := headIs_at (c := 59) h0
    rcases p1 : headIs 35 (trimS s) with _ | _
    · have e1 : (((trimS s)[0].toNat : Int) == 35) = false := q1.symm.trans p1
      rcases p2 : headIs 59 (trimS s) with _ | _
      · have e2 : (((trimS s)[0].toNat : Int) == 59) = false := q2.symm.trans p2
        have HX : Hid (remS s = false) := by show _ = _; rw [HR.out, p1, p2]; rfl
        clear q1 q2 p1 p2
        go_enter Tryd.func38, Tryd.ntmps38
        go_wp2_with (go_at_call 23; refine (Trim_any _ hs _).mono ?_; rintro e w' ⟨rfl, rfl⟩)
        go_ret
        exact ⟨ret_bool HX.out.symm, rfl⟩
      · have e2 : (((trimS s)[0].toNat : Int) == 59) = true := q2.symm.trans p2
        have HX : Hid (remS s = true) := by show _ = _; rw [HR.out, p1, p2]; rfl
        clear q1 q2 p1 p2
        go_enter Tryd.func38, Tryd.ntmps38
        go_wp2_with (go_at_call 23; refine (Trim_any _ hs _).mono ?_; rintro e w' ⟨rfl, rfl⟩)
        go_ret
        exact ⟨ret_bool HX.out.symm, rfl⟩
    · have e1 : (((trimS s)[0].toNat : Int) == 35) = true := q1.symm.trans p1
      have HX : Hid (remS s = true) := by show _ = _; rw [HR.out, p1]; rfl
      clear q1 q2 p1
      go_enter Tryd.func38, Tryd.ntmps38
      go_wp2_with (go_at_call 23; refine (Trim_any _ hs _).mono ?_; rintro e w' ⟨rfl, rfl⟩)
      go_ret
      exact ⟨ret_bool HX.out.symm, rfl⟩
  · have he : (trimS s).toList.isEmpty = true := emp_t (by omega)
    have HX : Hid (remS s = false) := by show _ = _; rw [HR.out, headIs_empty (by omega), headIs_empty (by omega)]; rfl
    go_enter Tryd.func38, Tryd.ntmps38
    go_wp2_with (go_at_call 23; refine (Trim_any _ hs _).mono ?_; rintro e w' ⟨rfl, rfl⟩)
    go_ret
    exact ⟨ret_bool HX.out.symm, rfl⟩
set_option maxHeartbeats 2000000 in
theorem of_sec (s : ByteArray) (hs : s.size ≤ maxLen) (w : World) :
    Calls Tryd.prog 25 #[.string s, .int .i64 20, .bool false] w fun e w' => e = .returned (.bool (secS s)) ∧ w = w' := by
  unfold maxLen at hs
  by_cases h0 : 0 < s.size
  · have j0 : decide ((s.size : Int) < 1) = false := by simp; omega
    by_cases h1 : s.size ≤ 20
    · have i1 : decide ((20 : Int) < (s.size : Int)) = false := by simp; omega
      go_enter Tryd.func25, Tryd.ntmps25
      go_wp2
      go_loop [7] (fun i => ∃ k : Nat, k ≤ s.size ∧ i = .int .i64 k ∧ Hid ((s.data.toList.take k).all letC = true)) (fun i => s.size - (intOf i).toNat)
      case atStart => exact ⟨0, Nat.zero_le _, rfl, rfl⟩
      case round =>
        obtain ⟨k, hk, rfl, HK⟩ := hrel
        have b0 : (0 : Int) ≤ (k : Int) := by omega
        by_cases hlt : k < s.size
        · have b1 : (k : Int) < (s.size : Int) := by omega
          rcases hc : letC s[k] with _ | _
          · have HC : Hid (secS s = false) := ofL_no (all_false s k hlt hc)
            go_wp2_with (go_at_call 40; refine (Letter_any _ _).mono ?_; rintro e w' ⟨rfl, rfl⟩)
            go_ret
            exact ⟨ret_bool HC.out.symm, rfl⟩
          · have HC : Hid ((s.data.toList.take (k + 1)).all letC = true) := all_succ s k hlt HK.out hc
            go_wp2_with (go_at_call 40; refine (Letter_any _ _).mono ?_; rintro e w' ⟨rfl, rfl⟩)
            go_round
            case rel => exact ⟨k + 1, by omega, by go_num, HC⟩
            case measure => simp [intOf]; omega
        · have HC : Hid (secS s = true) := ofL_yes h0 h1 (all_end s k (by omega) HK.out)
          go_wp2
          go_ret
          exact ⟨ret_bool HC.out.symm, rfl⟩
    · have HC : Hid (secS s = false) := ofL_ne (.inr (by omega))
      have i1 : decide ((20 : Int) < (s.size : Int)) = true := by simp; omega
      go_enter Tryd.func25, Tryd.ntmps25
      go_wp2
      go_ret
      exact ⟨ret_bool HC.out.symm, rfl⟩
  · have j0 : decide ((s.size : Int) < 1) = true := by simp; omega
    have HC : Hid (secS s = false) := ofL_ne (.inl (by omega))
    go_enter Tryd.func25, Tryd.ntmps25
    go_wp2
    go_ret
    exact ⟨ret_bool HC.out.symm, rfl⟩
set_option maxHeartbeats 2000000 in
theorem of_key (s : ByteArray) (hs : s.size ≤ maxLen) (w : World) :
    Calls Tryd.prog 25 #[.string s, .int .i64 40, .bool true] w fun e w' => e = .returned (.bool (keyS s)) ∧ w = w' := by
  unfold maxLen at hs
  by_cases h0 : 0 < s.size
  · have j0 : decide ((s.size : Int) < 1) = false := by simp; omega
    by_cases h1 : s.size ≤ 40
    · have i1 : decide ((40 : Int) < (s.size : Int)) = false := by simp; omega
      go_enter Tryd.func25, Tryd.ntmps25
      go_wp2
      go_loop [7] (fun i => ∃ k : Nat, k ≤ s.size ∧ i = .int .i64 k ∧ Hid ((s.data.toList.take k).all keyC = true)) (fun i => s.size - (intOf i).toNat)
      case atStart => exact ⟨0, Nat.zero_le _, rfl, rfl⟩
      case round =>
        obtain ⟨k, hk, rfl, HK⟩ := hrel
        have b0 : (0 : Int) ≤ (k : Int) := by omega
        by_cases hlt : k < s.size
        · have b1 : (k : Int) < (s.size : Int) := by omega
          rcases hc : letC s[k] with _ | _
          · rcases hd : isDig s[k] with _ | _
            · have HC : Hid (keyS s = false) := ofL_no (all_false s k hlt (by unfold keyC; rw [hc, hd]; rfl))
              go_wp2_with (first | (go_at_call 40; refine (Letter_any _ _).mono ?_; rintro e w' ⟨rfl, rfl⟩) | (go_at_call 41; refine (Digit_any _ _).mono ?_; rintro e w' ⟨rfl, rfl⟩))
              go_ret
              exact ⟨ret_bool HC.out.symm, rfl⟩
            · have HC : Hid ((s.data.toList.take (k + 1)).all keyC = true) := all_succ s k hlt HK.out (by unfold keyC; rw [hc, hd]; rfl)
              go_wp2_with (first | (go_at_call 40; refine (Letter_any _ _).mono ?_; rintro e w' ⟨rfl, rfl⟩) | (go_at_call 41; refine (Digit_any _ _).mono ?_; rintro e w' ⟨rfl, rfl⟩))
              go_round
              case rel => exact ⟨k + 1, by omega, by go_num, HC⟩
              case measure => simp [intOf]; omega
          · have HC : Hid ((s.data.toList.take (k + 1)).all keyC = true) := all_succ s k hlt HK.out (let_key hc)
            go_wp2_with (first | (go_at_call 40; refine (Letter_any _ _).mono ?_; rintro e w' ⟨rfl, rfl⟩) | (go_at_call 41; refine (Digit_any _ _).mono ?_; rintro e w' ⟨rfl, rfl⟩))
            go_round
            case rel => exact ⟨k + 1, by omega, by go_num, HC⟩
            case measure => simp [intOf]; omega
        · have HC : Hid (keyS s = true) := ofL_yes h0 h1 (all_end s k (by omega) HK.out)
          go_wp2
          go_ret
          exact ⟨ret_bool HC.out.symm, rfl⟩
    · have HC : Hid (keyS s = false) := ofL_ne (.inr (by omega))
      have i1 : decide ((40 : Int) < (s.size : Int)) = true := by simp; omega
      go_enter Tryd.func25, Tryd.ntmps25
      go_wp2
      go_ret
      exact ⟨ret_bool HC.out.symm, rfl⟩
  · have j0 : decide ((s.size : Int) < 1) = true := by simp; omega
    have HC : Hid (keyS s = false) := ofL_ne (.inl (by omega))
    go_enter Tryd.func25, Tryd.ntmps25
    go_wp2
    go_ret
    exact ⟨ret_bool HC.out.symm, rfl⟩
/-- Where the first sign of equality is; -1. -/
def eqAt (s : ByteArray) : Int := if cutF 61 s = true then ((cutA 61 s).size : Int) else -1
theorem cut_take {c : UInt8} {s : ByteArray} {k : Nat} (h1 : k < s.size) (h2 : s[k] = c) (h3 : c ∉ s.data.toList.take k) : cutF c s = true ∧ cutA c s = s.extract 0 k ∧ cutB c s = s.extract (k + 1) s.size := by
  have e : s.data.toList = s.data.toList.take k ++ c :: s.data.toList.drop (k + 1) := by
    conv => lhs; rw [← List.take_append_drop k s.data.toList, drop_at s k h1, h2]
  have hx : cutX c s.data.toList = (s.data.toList.take k, s.data.toList.drop (k + 1), true) := by
    rw [e]
    have := cutX_app (s.data.toList.take k) (s.data.toList.drop (k + 1)) h3
    have e2 : s.data.toList.take k ++ c :: s.data.toList.drop (k + 1) = s.data.toList := e.symm
    rw [e2] at this ⊢
    exact this
  refine ⟨by unfold cutF; rw [hx], ?_, ?_⟩
  · unfold cutA
    rw [hx]
    apply ext_list
    show s.data.toList.take k = _
    rw [Lib.extract_data, List.drop_zero, Nat.sub_zero]
  · unfold cutB
    rw [hx]
    apply ext_list
    show s.data.toList.drop (k + 1) = _
    rw [tail_list]
theorem not_mem_succ {c : UInt8} {s : ByteArray} {k : Nat} (h1 : k < s.size) (h2 : s[k] ≠ c) (h3 : c ∉ s.data.toList.take k) : c ∉ s.data.toList.take (k + 1) := by
  rw [take_at s k h1]
  simp only [List.mem_append, List.mem_singleton]
  rintro (h | h)
  · exact h3 h
  · exact h2 h.symm
set_option maxHeartbeats 2000000 in
theorem equals_any (s : ByteArray) (hs : s.size ≤ maxLen) (w : World) :
    Calls Tryd.prog 24 #[.string s] w fun e w' => e = .returned (.int .i64 (eqAt s)) ∧ w = w' := by
  unfold maxLen at hs
  go_enter Tryd.func24, Tryd.ntmps24
  go_wp2
  go_loop [3] (fun i => ∃ k : Nat, k ≤ s.size ∧ i = .int .i64 k ∧ Hid ((61 : UInt8) ∉ s.data.toList.take k)) (fun i => s.size - (intOf i).toNat)
  case atStart => exact ⟨0, Nat.zero_le _, rfl, Lib.hid (by simp)⟩
  case round =>
    obtain ⟨k, hk, rfl, HK⟩ := hrel
    have b0 : (0 : Int) ≤ (k : Int) := by omega
    by_cases hlt : k < s.size
    · have b1 : (k : Int) < (s.size : Int) := by omega
      by_cases hc : s[k] = 61
      · have HC : Hid (eqAt s = (k : Int)) := by
          show _ = _
          obtain ⟨q1, q2, _⟩ := cut_take hlt hc HK.out
          unfold eqAt
          rw [if_pos q1, q2, ByteArray.size_extract]
          omega
        have e1 : ((s[k].toNat : Int) == 61) = true := by rw [hc]; rfl
        clear hc
        go_wp2
        go_ret
        exact ⟨ret_int HC.out.symm, rfl⟩
      · have HC : Hid ((61 : UInt8) ∉ s.data.toList.take (k + 1)) := not_mem_succ hlt hc HK.out
        have e1 : ((s[k].toNat : Int) == 61) = false := by
          rw [beq_eq_false_iff_ne]
          intro e
          exact hc (UInt8.toNat_inj.1 (by show s[k].toNat = 61; omega))
        clear hc
        go_wp2
        go_round
        case rel => exact ⟨k + 1, by omega, by go_num, HC⟩
        case measure => simp [intOf]; omega
    · have HC : Hid (eqAt s = -1) := by
        show _ = _
        have h61 := HK.out
        rw [List.take_of_length_le (by rw [size_list]; omega)] at h61
        have : cutF 61 s = false := by
          rw [(cut_is 61 s).2.2]
          rw [Bool.eq_false_iff]
          intro e
          exact h61 (by simpa using e)
        unfold eqAt
        rw [this, if_neg (by simp)]
      go_wp2
      go_ret
      exact ⟨ret_int HC.out.symm, rfl⟩
end Go.Proofs.YthgpocbmkmmecaaDoor
