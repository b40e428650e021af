/- strings.Trim, TrimLeft at blanks, HasPrefix, HasSuffix, CutSuffix at one byte; the developers' isComment, consistsOf, isSection, isKey. -/
import Derived.Test.YthgpocbmkmmecaaDoorShelf
import Derived.Test.YthgpocbmkmmecaaDoorLnA
import Derived.Shelf.Strings.SlTrimAscii
namespace Go.Proofs.YthgpocbmkmmecaaDoor
open Go.RowKit

theorem blk_set : (fun c : UInt8 => ([32, 9] : List UInt8).contains c) = blkL := by
  funext c
  unfold blkL
  rw [List.contains_cons, List.contains_cons, List.contains_nil, Bool.or_false]
theorem lib_ltrim (l : List UInt8) : Lib.trimLeftS l [32, 9] = ltrim l := by
  unfold Lib.trimLeftS ltrim
  rw [← blk_set]
theorem rtrim_cons (c : UInt8) (l : List UInt8) : rtrim (c :: l) = if rtrim l = [] ∧ blkL c = true then [] else c :: rtrim l := by
  unfold rtrim
  rw [List.reverse_cons, List.dropWhile_append]
  cases h : List.dropWhile blkL l.reverse with
  | nil =>
    cases hc : blkL c <;> simp [hc]
  | cons x r => simp
theorem trim_comm (l : List UInt8) : ltrim (rtrim l) = trimL l := by
  induction l with
  | nil => rfl
  | cons c l ih =>
    rw [rtrim_cons]
    unfold trimL at ih ⊢
    cases hc : blkL c with
    | true =>
      have e : ltrim (c :: l) = ltrim l := by unfold ltrim; rw [List.dropWhile_cons, if_pos hc]
      rw [e, ← ih]
      by_cases hr : rtrim l = []
      · rw [if_pos ⟨hr, rfl⟩, hr]
      · rw [if_neg (fun h => hr h.1)]
        unfold ltrim
        rw [List.dropWhile_cons, if_pos hc]
    | false =>
      have e : ltrim (c :: l) = c :: l := by unfold ltrim; rw [List.dropWhile_cons, hc]; rfl
      rw [e, rtrim_cons, if_neg (by simp), if_neg (by simp [hc])]
      unfold ltrim
      rw [List.dropWhile_cons, hc]; rfl
theorem lib_trim (l : List UInt8) : Lib.trimS l [32, 9] = trimL l := by
  rw [← trim_comm]
  unfold Lib.trimS Lib.trimRightS rtrim
  rw [lib_ltrim, ← blk_set]
theorem trim_any (s : ByteArray) (hs : s.size ≤ maxLen) (w : World) :
    Calls Tryd.prog 31 #[.string s, .string ⟨#[32, 9]⟩] w fun e w' => e = .returned (.string (trimS s)) ∧ Below w.heap.size w w' := by
  unfold maxLen at hs
  refine (Any.strings_Trim_laid Tryd.lays160 (by kernel_rfl) s ⟨#[32, 9]⟩ w (by omega) (by decide) (ascii_of_all (by decide))).mono ?_
  rintro e w' ⟨rfl, hb⟩
  refine ⟨ret_str ?_, hb⟩
  show str _ = str _
  rw [← lib_trim]
def ltrimS (s : ByteArray) : ByteArray := str (ltrim s.data.toList)
theorem ltrim_any (s : ByteArray) (w : World) :
    Calls Tryd.prog 64 #[.string s, .string ⟨#[32, 9]⟩] w fun e w' => e = .returned (.string (ltrimS s)) ∧ Below w.heap.size w w' := by
  refine (Any.strings_TrimLeft_laid Tryd.lays161 (by kernel_rfl) s ⟨#[32, 9]⟩ w (by decide) (ascii_of_all (by decide))).mono ?_
  rintro e w' ⟨rfl, hb⟩
  refine ⟨ret_str ?_, hb⟩
  show str _ = str _
  rw [← lib_ltrim]
/-- Does a text begin with a byte? does it end with one? -/
def headIs (c : UInt8) (s : ByteArray) : Bool := decide (s.data.toList.head? = some c)
def lastIs (c : UInt8) (s : ByteArray) : Bool := decide (s.data.toList.getLast? = some c)
/-- A text without a byte at its end. -/
def cutEnd (c : UInt8) (s : ByteArray) : ByteArray := if lastIs c s = true then str s.data.toList.dropLast else s
theorem lib_head (c : UInt8) (l : List UInt8) : Lib.hasPrefix l [c] = decide (l.head? = some c) := by
  unfold Lib.hasPrefix
  cases l with
  | nil => rfl
  | cons x l =>
    show (c == x && List.isPrefixOf [] l) = decide (some x = some c)
    rw [Bool.eq_iff_iff, Bool.and_eq_true, beq_iff_eq, decide_eq_true_eq, Option.some.injEq]
    exact ⟨fun h => h.1.symm, fun h => ⟨h.symm, by cases l <;> rfl⟩⟩
theorem lib_last (c : UInt8) (l : List UInt8) : Lib.hasSuffix l [c] = decide (l.getLast? = some c) := by
  have e : Lib.hasSuffix l [c] = Lib.hasPrefix l.reverse [c] := rfl
  rw [e, lib_head, List.head?_reverse]
theorem pre_any (c : UInt8) (s : ByteArray) (w : World) :
    Calls Tryd.prog 34 #[.string s, .string ⟨#[c]⟩] w fun e w' => e = .returned (.bool (headIs c s)) ∧ w = w' := by
  refine (Tryd.strings_HasPrefix s ⟨#[c]⟩ w).mono ?_
  rintro e w' ⟨rfl, rfl⟩
  exact ⟨ret_bool (lib_head c s.data.toList), rfl⟩
theorem suf_any (c : UInt8) (s : ByteArray) (hs : s.size ≤ maxLen) (w : World) :
    Calls Tryd.prog 73 #[.string s, .string ⟨#[c]⟩] w fun e w' => e = .returned (.bool (lastIs c s)) ∧ w = w' := by
  unfold maxLen at hs
  refine (Tryd.strings_HasSuffix s ⟨#[c]⟩ w (by omega)).mono ?_
  rintro e w' ⟨rfl, rfl⟩
  exact ⟨ret_bool (lib_last c s.data.toList), rfl⟩
theorem cutEnd_any (c : UInt8) (s : ByteArray) (hs : s.size ≤ maxLen) (w : World) :
    Calls Tryd.prog 56 #[.string s, .string ⟨#[c]⟩] w fun e w' => e = .returned (.tuple #[.string (cutEnd c s), .bool (lastIs c s)]) ∧ w = w' := by
  unfold maxLen at hs
  refine (Tryd.strings_CutSuffix s ⟨#[c]⟩ w (by omega)).mono ?_
  rintro e w' ⟨rfl, rfl⟩
  have e1 : Lib.hasSuffix s.data.toList [c] = lastIs c s := lib_last c s.data.toList
  have e2 : str (Lib.trimSuffix s.data.toList [c]) = cutEnd c s := by
    unfold Lib.trimSuffix cutEnd
    rw [e1]
    split
    · rw [List.dropLast_eq_take]; rfl
    · exact str_data s
  refine ⟨?_, rfl⟩
  show Ending.returned (.tuple #[.string (str (Lib.trimSuffix s.data.toList [c])), .bool (Lib.hasSuffix s.data.toList [c])]) = _
  rw [e1, e2]
theorem cutEnd_size (c : UInt8) (s : ByteArray) : (cutEnd c s).size ≤ s.size := by
  unfold cutEnd
  split
  · rw [str_size, List.length_dropLast, size_list]; omega
  · exact Nat.le_refl _

/-- Is a line a remark, as a string? -/
def remS (s : ByteArray) : Bool := remL s.data.toList
theorem remS_eq (s : ByteArray) : remS s = (headIs 35 (ltrimS s) || headIs 59 (ltrimS s)) := by
  unfold remS remL headIs ltrimS
  rw [str_list]
  cases h : ltrim s.data.toList with
  | nil => rfl
  | cons c l => simp only [List.head?_cons, Option.some.injEq]; rfl
theorem isComment_any (s : ByteArray) (w : World) :
    Calls Tryd.prog 48 #[.string s] w fun e w' => e = .returned (.bool (remS s)) ∧ Below w.heap.size w w' := by
  have HR := Lib.hid (remS_eq s)
  rcases h1 : headIs 35 (ltrimS s) with _ | _
  all_goals
    go_enter Tryd.func48, Tryd.ntmps48
    go_wp2_with (first
      | (go_at_call 64; refine (ltrim_any _ _).mono ?_; rintro e w1 ⟨rfl, hb⟩)
      | (go_at_call 34; refine (pre_any _ _ _).mono ?_; rintro e w' ⟨rfl, rfl⟩))
    go_ret
    exact ⟨ret_bool (by rw [HR.out, h1]; first | rfl | simp), hb⟩

theorem ofL_ne {m : Nat} {p : UInt8 → Bool} {s : ByteArray} (h : s.size = 0 ∨ m < s.size) : ofL m p s.data.toList = false := by
  rw [Bool.eq_false_iff]
  intro e
  obtain ⟨h1, h2, _⟩ := ofL_iff.1 e
  rw [size_list] at h1 h2
  omega
theorem ofL_yes {m : Nat} {p : UInt8 → Bool} {s : ByteArray} (h1 : 0 < s.size) (h2 : s.size ≤ m) (h3 : s.data.toList.all p = true) : ofL m p s.data.toList = true := by
  refine ofL_iff.2 ⟨by rw [size_list]; omega, by rw [size_list]; exact h2, ?_⟩
  rwa [List.all_eq_true] at h3
theorem ofL_no {m : Nat} {p : UInt8 → Bool} {s : ByteArray} (h3 : s.data.toList.all p = false) : ofL m p s.data.toList = false := by
  unfold ofL
  rw [h3, Bool.and_false]
def secS (s : ByteArray) : Bool := secL s.data.toList
def keyS (s : ByteArray) : Bool := keyL s.data.toList
set_option maxHeartbeats 2000000 in
theorem consists_letters (s : ByteArray) (hs : s.size ≤ maxLen) (w : World) :
    Calls Tryd.prog 70 #[.string s, .int .i64 20, .func (.func 71) #[] #[]] w fun e w' => e = .returned (.bool (secS s)) ∧ w = w' := by
  unfold maxLen at hs
  by_cases h0 : 0 < s.size
  · have em := emp_f h0
    by_cases h1 : s.size ≤ 20
    · have i1 : (s.size : Int) ≤ 20 := by omega
      go_enter Tryd.func70, Tryd.ntmps70
      go_wp2
      go_loop [18] (fun i => ∃ k : Nat, k ≤ s.size ∧ i = .int .i64 k ∧ Hid ((s.data.toList.take k).all letC = true)) (fun i => s.size - (intOf i).toNat)
      case atStart => exact ⟨0, Nat.zero_le _, rfl, rfl⟩
      case round =>
        obtain ⟨k, hk, rfl, HK⟩ := hrel
        by_cases hlt : k < s.size
        · rcases hc : letC s[k] with _ | _
          · have HC : Hid (secS s = false) := ofL_no (all_false s k hlt hc)
            go_wp2_with (go_at_call 71; refine (isLetter_any _ _).mono ?_; rintro e w' ⟨rfl, rfl⟩)
            go_ret
            exact ⟨ret_bool HC.out.symm, rfl⟩
          · have HC : Hid ((s.data.toList.take (k + 1)).all letC = true) := all_succ s k hlt HK.out hc
            go_wp2_with (go_at_call 71; refine (isLetter_any _ _).mono ?_; rintro e w' ⟨rfl, rfl⟩)
            go_round
            case rel => exact ⟨k + 1, by omega, by go_num, HC⟩
            case measure => simp [intOf]; omega
        · have HC : Hid (secS s = true) := ofL_yes h0 h1 (all_end s k (by omega) HK.out)
          go_wp2
          go_ret
          exact ⟨ret_bool HC.out.symm, rfl⟩
    · have HC : Hid (secS s = false) := ofL_ne (.inr (by omega))
      have i1 : (20 : Int) < (s.size : Int) := by omega
      go_enter Tryd.func70, Tryd.ntmps70
      go_wp2
      go_ret
      exact ⟨ret_bool HC.out.symm, rfl⟩
  · have em := emp_t (s := s) (by omega)
    have HC : Hid (secS s = false) := ofL_ne (.inl (by omega))
    go_enter Tryd.func70, Tryd.ntmps70
    go_wp2
    go_ret
    exact ⟨ret_bool HC.out.symm, rfl⟩
set_option maxHeartbeats 2000000 in
theorem consists_keys (s : ByteArray) (hs : s.size ≤ maxLen) (w : World) :
    Calls Tryd.prog 70 #[.string s, .int .i64 40, .func (.func 72) #[] #[]] w fun e w' => e = .returned (.bool (keyS s)) ∧ w = w' := by
  unfold maxLen at hs
  by_cases h0 : 0 < s.size
  · have em := emp_f h0
    by_cases h1 : s.size ≤ 40
    · have i1 : (s.size : Int) ≤ 40 := by omega
      go_enter Tryd.func70, Tryd.ntmps70
      go_wp2
      go_loop [18] (fun i => ∃ k : Nat, k ≤ s.size ∧ i = .int .i64 k ∧ Hid ((s.data.toList.take k).all keyC = true)) (fun i => s.size - (intOf i).toNat)
      case atStart => exact ⟨0, Nat.zero_le _, rfl, rfl⟩
      case round =>
        obtain ⟨k, hk, rfl, HK⟩ := hrel
        by_cases hlt : k < s.size
        · rcases hc : keyC s[k] with _ | _
          · have HC : Hid (keyS s = false) := ofL_no (all_false s k hlt hc)
            go_wp2_with (go_at_call 72; refine (isKeyC_any _ _).mono ?_; rintro e w' ⟨rfl, rfl⟩)
            go_ret
            exact ⟨ret_bool HC.out.symm, rfl⟩
          · have HC : Hid ((s.data.toList.take (k + 1)).all keyC = true) := all_succ s k hlt HK.out hc
            go_wp2_with (go_at_call 72; refine (isKeyC_any _ _).mono ?_; rintro e w' ⟨rfl, rfl⟩)
            go_round
            case rel => exact ⟨k + 1, by omega, by go_num, HC⟩
            case measure => simp [intOf]; omega
        · have HC : Hid (keyS s = true) := ofL_yes h0 h1 (all_end s k (by omega) HK.out)
          go_wp2
          go_ret
          exact ⟨ret_bool HC.out.symm, rfl⟩
    · have HC : Hid (keyS s = false) := ofL_ne (.inr (by omega))
      have i1 : (40 : Int) < (s.size : Int) := by omega
      go_enter Tryd.func70, Tryd.ntmps70
      go_wp2
      go_ret
      exact ⟨ret_bool HC.out.symm, rfl⟩
  · have em := emp_t (s := s) (by omega)
    have HC : Hid (keyS s = false) := ofL_ne (.inl (by omega))
    go_enter Tryd.func70, Tryd.ntmps70
    go_wp2
    go_ret
    exact ⟨ret_bool HC.out.symm, rfl⟩
theorem isSection_any (s : ByteArray) (hs : s.size ≤ maxLen) (w : World) :
    Calls Tryd.prog 59 #[.string s] w fun e w' => e = .returned (.bool (secS s)) ∧ w = w' := by
  go_enter Tryd.func59, Tryd.ntmps59
  go_wp2_with (go_at_call 70; refine (consists_letters s hs _).mono ?_; rintro e w' ⟨rfl, rfl⟩)
  go_ret
  exact ⟨rfl, rfl⟩
theorem isKey_any (s : ByteArray) (hs : s.size ≤ maxLen) (w : World) :
    Calls Tryd.prog 60 #[.string s] w fun e w' => e = .returned (.bool (keyS s)) ∧ w = w' := by
  go_enter Tryd.func60, Tryd.ntmps60
  go_wp2_with (go_at_call 70; refine (consists_keys s hs _).mono ?_; rintro e w' ⟨rfl, rfl⟩)
  go_ret
  exact ⟨rfl, rfl⟩
end Go.Proofs.YthgpocbmkmmecaaDoor
