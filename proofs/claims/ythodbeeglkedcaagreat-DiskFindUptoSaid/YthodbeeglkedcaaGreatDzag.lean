/- The walks of the document's places, ends, dropName. -/
import Derived.Test.YthodbeeglkedcaaGreatDzaf
import Derived.Test.YthodbeeglkedcaaGreatDzae
namespace Go.Proofs.YthodbeeglkedcaaGreat
open Go.RowKit
def endOk (s v : ByteArray) : Bool := (endsL v.data.toList s.data.toList).isSome
def endS (s v : ByteArray) : ByteArray := str ((endsL v.data.toList s.data.toList).getD [])
theorem end_short {s v : ByteArray} (h : s.size ≤ v.size) : endOk s v = false ∧ endS s v = ⟨#[]⟩ := by
  have : endsL v.data.toList s.data.toList = none := by
    unfold endsL
    rw [if_neg]
    rw [size_list, size_list]; omega
  unfold endOk endS
  rw [this]; exact ⟨rfl, rfl⟩
theorem end_drop {s v : ByteArray} : (s.extract (s.size - v.size) s.size).data.toList = s.data.toList.drop (s.data.toList.length - v.data.toList.length) := by
  rw [tail_list, size_list, size_list]
theorem end_no {s v : ByteArray} (h : ((s.extract (s.size - v.size) s.size).toList == v.toList) = false) : endOk s v = false ∧ endS s v = ⟨#[]⟩ := by
  have : endsL v.data.toList s.data.toList = none := by
    unfold endsL
    rw [if_neg]
    rintro ⟨_, h2⟩
    rw [Lib.toList_data, Lib.toList_data, end_drop, h2] at h
    simp at h
  unfold endOk endS
  rw [this]; exact ⟨rfl, rfl⟩
theorem end_yes {s v : ByteArray} (hl : v.size < s.size) (h : ((s.extract (s.size - v.size) s.size).toList == v.toList) = true) : endOk s v = true ∧ endS s v = s.extract 0 (s.size - v.size) := by
  have : endsL v.data.toList s.data.toList = some (s.extract 0 (s.size - v.size)).data.toList := by
    unfold endsL
    rw [if_pos ⟨by rw [size_list, size_list]; exact hl, by
      rw [Lib.toList_data, Lib.toList_data, end_drop] at h
      exact eq_of_beq h⟩]
    rw [Lib.extract_data, size_list, size_list]
    simp
  unfold endOk endS
  rw [this]
  exact ⟨rfl, str_data _⟩
set_option maxHeartbeats 2000000 in
theorem ends_any (s v : ByteArray) (hs : s.size ≤ maxLen) (hv : v.size ≤ maxLen) (w : World) :
    Calls Tryz.prog 66 #[.string s, .string v] w fun e w' => e = .returned (.tuple #[.string (endS s v), .bool (endOk s v)]) ∧ w = w' := by
  unfold maxLen at hs hv
  by_cases h : s.size ≤ v.size
  · have h' : (s.size : Int) ≤ (v.size : Int) := by omega
    obtain ⟨e1, e2⟩ := end_short h
    rw [e1, e2]
    clear e1 e2
    go_enter Tryz.func66, Tryz.ntmps66
    go_wp2_with fail
    go_ret2
    exact ⟨rfl, rfl⟩
  · have h' : (v.size : Int) < (s.size : Int) := by omega
    have h2 : (0 : Int) ≤ (s.size : Int) - (v.size : Int) := by omega
    have h3 : (s.size : Int) - (v.size : Int) ≤ (s.size : Int) := by omega
    rcases hb : ((s.extract (s.size - v.size) s.size).toList == v.toList) with _ | _
    · obtain ⟨e1, e2⟩ := end_no hb
      rw [e1, e2]
      clear e1 e2
      go_enter Tryz.func66, Tryz.ntmps66
      go_wp2_with fail
      go_ret2
      exact ⟨rfl, rfl⟩
    · obtain ⟨e1, e2⟩ := end_yes (by omega) hb
      rw [e1, e2]
      clear e1 e2
      go_enter Tryz.func66, Tryz.ntmps66
      go_wp2_with fail
      go_ret2
      exact ⟨rfl, rfl⟩
def dropS (s : ByteArray) : Bool := dropN s.data.toList
theorem drop_is (c : UInt8) : dropB c = (letterX c || isDig c || decide (c.toNat = 45) || decide (c.toNat = 95)) := by
  unfold dropB letterX isDig
  rw [Bool.eq_iff_iff]
  simp
  omega
theorem dropS_long {s : ByteArray} (h : s.size < 1 ∨ 20 < s.size) : dropS s = false := by
  unfold dropS dropN
  rw [size_list]
  simp; omega
theorem dropS_bad {s : ByteArray} {k : Nat} (h : k < s.size) (hc : dropB s[k] = false) : dropS s = false := by
  unfold dropS dropN
  rw [Bool.and_eq_false_iff]
  right
  rw [List.all_eq_false]
  exact ⟨s[k], by
    have : s.data.toList[k]? = some s[k] := by rw [List.getElem?_eq_getElem (by simpa using h)]; rfl
    exact List.mem_of_getElem? this, by rw [hc]; simp⟩
theorem dropS_ok {s : ByteArray} (h1 : 1 ≤ s.size) (h2 : s.size ≤ 20) (h : s.data.toList.all dropB = true) : dropS s = true := by
  unfold dropS dropN
  rw [size_list, h]
  simp; omega
set_option maxHeartbeats 4000000 in
theorem dropName_any (s : ByteArray) (hs : s.size ≤ maxLen) (w : World) :
    Calls Tryz.prog 67 #[.string s] w fun e w' => e = .returned (.bool (dropS s)) ∧ w = w' := by
  unfold maxLen at hs
  by_cases h1 : s.size < 1
  · have HN := Lib.hid (dropS_long (s := s) (.inl h1))
    have h1' : (s.size : Int) < 1 := by omega
    clear h1
    go_enter Tryz.func67, Tryz.ntmps67
    go_wp2_with fail
    go_ret
    exact ⟨ret_bool (by rw [HN.out]), rfl⟩
  by_cases h2 : 20 < s.size
  · have HN := Lib.hid (dropS_long (s := s) (.inr h2))
    have h1' : (1 : Int) ≤ (s.size : Int) := by omega
    have h2' : (20 : Int) < (s.size : Int) := by omega
    have u1 : (0 : Nat) ≤ 1 := Nat.zero_le _
    clear h1 h2
    go_enter Tryz.func67, Tryz.ntmps67
    go_wp2_with fail
    go_ret
    exact ⟨ret_bool (by rw [HN.out]), rfl⟩
  have h1' : (1 : Int) ≤ (s.size : Int) := by omega
  have h2' : (s.size : Int) ≤ 20 := by omega
  have u1 : (0 : Nat) ≤ 1 := Nat.zero_le _
  have u2 : (0 : Nat) ≤ 2 := Nat.zero_le _
  clear h1 h2
  go_enter Tryz.func67, Tryz.ntmps67
  go_wp2_with fail
  go_loopw [3] (fun i wr => ∃ k : Nat, k ≤ s.size ∧ i = .int .i64 k ∧ w = wr ∧ Hid ((s.data.toList.take k).all dropB = true)) (fun i wr => s.size - (intOf i).toNat)
  case atStart => exact ⟨0, Nat.zero_le _, rfl, rfl, rfl⟩
  case round =>
    obtain ⟨k, hk, rfl, rfl, hb⟩ := hrel
    by_cases hlt : k < s.size
    · have hr := s[k].toNat_lt
      have c0 : (0 : Int) ≤ (k : Int) := by omega
      have c1 : (k : Int) < (s.size : Int) := by omega
      have HI := Lib.hid (drop_is s[k])
      have HB : Hid (dropB s[k] = true → (s.data.toList.take (k + 1)).all dropB = true) := fun h => by
        rw [take_at s k hlt, List.all_append, hb.out]
        simp [h]
      have HN : Hid (dropB s[k] = false → dropS s = false) := fun h => dropS_bad hlt h
      rcases hp : letterX s[k] with _ | _
      · rcases hq : isDig s[k] with _ | _
        · by_cases h45 : s[k].toNat = 45
          · have h45' : ((s[k].toNat : Int) != 45) = false := by simp [h45]
            have HB1 := Lib.hid (HB.out (by rw [HI.out, hp, hq]; simp [h45]))
            clear HI HB HN h45
            go_wp2_with (first | (go_at_call 68; refine (Letter_any _ _).mono ?_; rintro e w' ⟨rfl, rfl⟩) | (go_at_call 69; refine (Digit_any _ _).mono ?_; rintro e w' ⟨rfl, rfl⟩))
            go_roundw
            case rel => exact ⟨k + 1, by omega, by go_num, by first | rfl | trivial, HB1⟩
            case measure => simp [intOf]; omega
          · have h45' : ((s[k].toNat : Int) != 45) = true := by simp; omega
            by_cases h95 : s[k].toNat = 95
            · have h95' : ((s[k].toNat : Int) != 95) = false := by simp [h95]
              have HB1 := Lib.hid (HB.out (by rw [HI.out, hp, hq]; simp [h95]))
              clear HI HB HN h45 h95
              go_wp2_with (first | (go_at_call 68; refine (Letter_any _ _).mono ?_; rintro e w' ⟨rfl, rfl⟩) | (go_at_call 69; refine (Digit_any _ _).mono ?_; rintro e w' ⟨rfl, rfl⟩))
              go_roundw
              case rel => exact ⟨k + 1, by omega, by go_num, by first | rfl | trivial, HB1⟩
              case measure => simp [intOf]; omega
            · have h95' : ((s[k].toNat : Int) != 95) = true := by simp; omega
              have HN1 := Lib.hid (HN.out (by rw [HI.out, hp, hq]; simp [h45, h95]))
              clear HI HB HN h45 h95
              go_wp2_with (first | (go_at_call 68; refine (Letter_any _ _).mono ?_; rintro e w' ⟨rfl, rfl⟩) | (go_at_call 69; refine (Digit_any _ _).mono ?_; rintro e w' ⟨rfl, rfl⟩))
              go_ret
              exact ⟨ret_bool HN1.out.symm, by first | rfl | trivial⟩
        · have HB1 := Lib.hid (HB.out (by rw [HI.out, hp, hq]; rfl))
          clear HI HB HN
          go_wp2_with (first | (go_at_call 68; refine (Letter_any _ _).mono ?_; rintro e w' ⟨rfl, rfl⟩) | (go_at_call 69; refine (Digit_any _ _).mono ?_; rintro e w' ⟨rfl, rfl⟩))
          go_roundw
          case rel => exact ⟨k + 1, by omega, by go_num, by first | rfl | trivial, HB1⟩
          case measure => simp [intOf]; omega
      · have HB1 := Lib.hid (HB.out (by rw [HI.out, hp]; rfl))
        clear HI HB HN
        go_wp2_with (first | (go_at_call 68; refine (Letter_any _ _).mono ?_; rintro e w' ⟨rfl, rfl⟩) | (go_at_call 69; refine (Digit_any _ _).mono ?_; rintro e w' ⟨rfl, rfl⟩))
        go_roundw
        case rel => exact ⟨k + 1, by omega, by go_num, by first | rfl | trivial, HB1⟩
        case measure => simp [intOf]; omega
    · obtain rfl : k = s.size := by omega
      have HF : Hid (dropS s = true) := by
        have := hb.out
        rw [List.take_of_length_le (by rw [size_list]; exact Nat.le_refl _)] at this
        exact dropS_ok (by omega) (by omega) this
      clear hlt
      go_wp2_with fail
      go_ret
      exact ⟨ret_bool HF.out.symm, by first | rfl | trivial⟩
end Go.Proofs.YthodbeeglkedcaaGreat
