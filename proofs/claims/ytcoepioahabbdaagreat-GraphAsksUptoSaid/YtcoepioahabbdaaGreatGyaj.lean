/- Walks of package name's isBody and kindOf. -/
import Derived.Test.YtcoepioahabbdaaGreatGyai
import Derived.Handy
import Derived.Lib.Strings
namespace Go.Proofs.YtcoepioahabbdaaGreat.Nm
open Go.RowKit
theorem ret_bool {a b : Bool} (h : a = b) : Ending.returned (.bool a) = .returned (.bool b) := by rw [h]
theorem ret_int {k : IntKind} {a b : Int} (h : a = b) : Ending.returned (.int k a) = .returned (.int k b) := by rw [h]
theorem ret_str {a b : ByteArray} (h : a = b) : Ending.returned (.string a) = .returned (.string b) := by rw [h]
def bodyByte (c : Nat) : Bool := plainB c || c == 45 || c == 92
def bodyL (l : List UInt8) : Bool := l.all fun c => bodyByte c.toNat
def bodyS (s : ByteArray) : Bool := bodyL s.data.toList
theorem bodyL_take_succ (s : ByteArray) (k : Nat) (h : k < s.size) (hb : bodyL (s.data.toList.take k) = true) (hc : bodyByte s[k].toNat = true) : bodyL (s.data.toList.take (k + 1)) = true := by
  rw [List.take_succ_eq_append_getElem (by simpa using h)]
  unfold bodyL at *
  rw [List.all_append, hb]
  simpa [ByteArray.getElem_eq_getElem_data] using hc
theorem bodyL_false (s : ByteArray) (k : Nat) (h : k < s.size) (hc : bodyByte s[k].toNat = false) : bodyL s.data.toList = false := by
  unfold bodyL
  rw [List.all_eq_false]
  exact ⟨s[k], by simp [ByteArray.getElem_eq_getElem_data], by simpa using hc⟩
set_option maxHeartbeats 1000000 in
theorem isBody_any (s : ByteArray) (hs : s.size ≤ maxLen) (w : World) :
    Calls Tryz.prog 93 #[.string s] w fun e w' => e = .returned (.bool (bodyS s)) ∧ w = w' := by
  unfold maxLen at hs
  go_enter Tryz.func93, Tryz.ntmps93
  go_wp2
  go_loop [7] (fun i => ∃ k : Nat, k ≤ s.size ∧ i = .int .i64 k ∧ Hid (bodyL (s.data.toList.take k) = true)) (fun i => s.size - (intOf i).toNat)
  case atStart => exact ⟨0, Nat.zero_le _, rfl, by simp [bodyL, Hid]⟩
  case round =>
    obtain ⟨k, hk, rfl, hb⟩ := hrel
    by_cases hlt : k < s.size
    · have hr := s[k].toNat_lt
      rcases hp : plainB s[k].toNat with _ | _
      · by_cases h45 : s[k].toNat = 45
        · have h45' : ((s[k].toNat : Int) != 45) = false := by simp [h45]
          have HB : Hid (bodyL (s.data.toList.take (k + 1)) = true) := bodyL_take_succ s k hlt hb (by simp [bodyByte, h45])
          clear h45
          go_wp2_with (go_at_call 117; refine (isPlain_any _ (by omega) _).mono ?_; rintro e w' ⟨rfl, rfl⟩)
          go_round
          case rel => exact ⟨k + 1, by omega, by go_num, HB⟩
          case measure => simp [intOf]; omega
        · by_cases h92 : s[k].toNat = 92
          · have h45' : ((s[k].toNat : Int) != 45) = true := by simp [h92]
            have h92' : ((s[k].toNat : Int) != 92) = false := by simp [h92]
            have HB : Hid (bodyL (s.data.toList.take (k + 1)) = true) := bodyL_take_succ s k hlt hb (by simp [bodyByte, h92])
            clear h45 h92
            go_wp2_with (go_at_call 117; refine (isPlain_any _ (by omega) _).mono ?_; rintro e w' ⟨rfl, rfl⟩)
            go_round
            case rel => exact ⟨k + 1, by omega, by go_num, HB⟩
            case measure => simp [intOf]; omega
          · have h45' : ((s[k].toNat : Int) != 45) = true := by simp; omega
            have h92' : ((s[k].toNat : Int) != 92) = true := by simp; omega
            have HB : Hid (bodyS s = false) := bodyL_false s k hlt (by simp [bodyByte, h45, h92, hp])
            clear h45 h92
            go_wp2_with (go_at_call 117; refine (isPlain_any _ (by omega) _).mono ?_; rintro e w' ⟨rfl, rfl⟩)
            go_ret
            exact ⟨ret_bool HB.out.symm, rfl⟩
      · have HB : Hid (bodyL (s.data.toList.take (k + 1)) = true) := bodyL_take_succ s k hlt hb (by simp [bodyByte, hp])
        go_wp2_with (go_at_call 117; refine (isPlain_any _ (by omega) _).mono ?_; rintro e w' ⟨rfl, rfl⟩)
        go_round
        case rel => exact ⟨k + 1, by omega, by go_num, HB⟩
        case measure => simp [intOf]; omega
    · go_wp2
      go_ret
      refine ⟨?_, rfl⟩
      have h : s.data.toList.take k = s.data.toList := List.take_of_length_le (by simp; omega)
      have := hb.out
      rw [h] at this
      exact ret_bool this.symm
def kindL (l : List UInt8) : Int := if l = sfx 1 then 1 else if l = sfx 2 then 2 else if l = sfx 3 then 3 else if l = sfx 4 then 4 else 0
def kindS (s : ByteArray) : Int := kindL s.data.toList
theorem str_data (s : ByteArray) : str s.data.toList = s := Lib.mk_data s
theorem eq_str {s : ByteArray} {l : List UInt8} : s = str l ↔ s.data.toList = l :=
  ⟨fun h => by rw [h]; rfl, fun h => by rw [← h, str_data]⟩
theorem beq_str (s t : ByteArray) : (s.toList == t.toList) = decide (s = t) := by
  rw [Bool.eq_iff_iff]
  simp only [beq_iff_eq, decide_eq_true_eq, Lib.toList_data]
  exact ⟨fun h => by rw [← str_data s, h, str_data], fun h => by rw [h]⟩
set_option maxHeartbeats 1000000 in
theorem kindOf_any (s : ByteArray) (w : World) :
    Calls Tryz.prog 91 #[.string s] w fun e w' => e = .returned (.int .i64 (kindS s)) ∧ w = w' := by
  by_cases h1 : s = str (sfx 1)
  · have H : Hid (kindS s = 1) := by rw [h1]; rfl
    have h1' : (s.toList == (str (sfx 1)).toList) = true := by rw [beq_str]; simpa using h1
    clear h1
    go_enter Tryz.func91, Tryz.ntmps91
    go_wp2
    refine wp_loop_rounds 5 ?_
    rw [rounds_succ]
    go_wp2_with (go_at_call 67; refine (Suffix_any _ _).mono ?_; rintro e w' ⟨rfl, rfl⟩)
    go_ret
    exact ⟨ret_int H.out.symm, rfl⟩
  · have h1' : (s.toList == (str (sfx 1)).toList) = false := by rw [beq_str]; simpa using h1
    by_cases h2 : s = str (sfx 2)
    · have H : Hid (kindS s = 2) := by rw [h2]; rfl
      have h2' : (s.toList == (str (sfx 2)).toList) = true := by rw [beq_str]; simpa using h2
      clear h1 h2
      go_enter Tryz.func91, Tryz.ntmps91
      go_wp2
      refine wp_loop_rounds 5 ?_
      rw [rounds_succ]
      go_wp2_with (go_at_call 67; refine (Suffix_any _ _).mono ?_; rintro e w' ⟨rfl, rfl⟩)
      rw [rounds_succ]
      go_wp2_with (go_at_call 67; refine (Suffix_any _ _).mono ?_; rintro e w' ⟨rfl, rfl⟩)
      go_ret
      exact ⟨ret_int H.out.symm, rfl⟩
    · have h2' : (s.toList == (str (sfx 2)).toList) = false := by rw [beq_str]; simpa using h2
      by_cases h3 : s = str (sfx 3)
      · have H : Hid (kindS s = 3) := by rw [h3]; rfl
        have h3' : (s.toList == (str (sfx 3)).toList) = true := by rw [beq_str]; simpa using h3
        clear h1 h2 h3
        go_enter Tryz.func91, Tryz.ntmps91
        go_wp2
        refine wp_loop_rounds 5 ?_
        iterate 3
          rw [rounds_succ]
          go_wp2_with (go_at_call 67; refine (Suffix_any _ _).mono ?_; rintro e w' ⟨rfl, rfl⟩)
        go_ret
        exact ⟨ret_int H.out.symm, rfl⟩
      · have h3' : (s.toList == (str (sfx 3)).toList) = false := by rw [beq_str]; simpa using h3
        by_cases h4 : s = str (sfx 4)
        · have H : Hid (kindS s = 4) := by rw [h4]; rfl
          have h4' : (s.toList == (str (sfx 4)).toList) = true := by rw [beq_str]; simpa using h4
          clear h1 h2 h3 h4
          go_enter Tryz.func91, Tryz.ntmps91
          go_wp2
          refine wp_loop_rounds 5 ?_
          iterate 4
            rw [rounds_succ]
            go_wp2_with (go_at_call 67; refine (Suffix_any _ _).mono ?_; rintro e w' ⟨rfl, rfl⟩)
          go_ret
          exact ⟨ret_int H.out.symm, rfl⟩
        · have h4' : (s.toList == (str (sfx 4)).toList) = false := by rw [beq_str]; simpa using h4
          have H : Hid (kindS s = 0) := by
            rw [eq_str] at h1 h2 h3 h4
            unfold kindS kindL
            rw [if_neg h1, if_neg h2, if_neg h3, if_neg h4]; rfl
          clear h1 h2 h3 h4
          go_enter Tryz.func91, Tryz.ntmps91
          go_wp2
          refine wp_loop_rounds 5 ?_
          iterate 5
            rw [rounds_succ]
            go_wp2_with (go_at_call 67; refine (Suffix_any _ _).mono ?_; rintro e w' ⟨rfl, rfl⟩)
          go_ret
          exact ⟨ret_int H.out.symm, rfl⟩
end Go.Proofs.YtcoepioahabbdaaGreat.Nm
