/- strings.CutPrefix, CutSuffix, TrimSuffix, Cut at a slash, ContainsFunc, as package disk asks them. -/
import Derived.Test.YthodbeeglkedcaaGreatDzbe
import Derived.Test.YthodbeeglkedcaaGreatDzag
import Derived.Test.YthodbeeglkedcaaGreatDzak
import Derived.Test.YthodbeeglkedcaaGreatDzbf
import Derived.Lib.CutLaws
import Derived.Laws.RangeString
import Derived.Laws.RangeAny
namespace Go.Proofs.YthodbeeglkedcaaGreat
open Go.RowKit
theorem lib_pre (l p : List UInt8) : Lib.hasPrefix l p = decide (p <+: l) := by
  unfold Lib.hasPrefix
  rw [Bool.eq_iff_iff, decide_eq_true_eq, List.isPrefixOf_iff_prefix]
theorem lib_suf (l p : List UInt8) : Lib.hasSuffix l p = decide (p <:+ l) := by
  unfold Lib.hasSuffix
  rw [Bool.eq_iff_iff, decide_eq_true_eq, List.isSuffixOf_iff_suffix]
def cutPre (l p : List UInt8) : List UInt8 := if p <+: l then l.drop p.length else l
theorem cutPre_len (l p : List UInt8) : (cutPre l p).length ≤ l.length := by
  unfold cutPre
  split
  · rw [List.length_drop]; omega
  · exact Nat.le_refl _
theorem cutPre_any (l p : List UInt8) (w : World) :
    Calls Tryz.prog 35 #[.string (str l), .string (str p)] w fun e w' => e = .returned (.tuple #[.string (str (cutPre l p)), .bool (decide (p <+: l))]) ∧ w = w' := by
  refine (Tryz.strings_CutPrefix (str l) (str p) w).mono ?_
  rintro e w' ⟨rfl, rfl⟩
  refine ⟨?_, rfl⟩
  show Ending.returned (.tuple #[.string (str (Lib.trimPrefix (str l).data.toList (str p).data.toList)), .bool (Lib.hasPrefix (str l).data.toList (str p).data.toList)]) = _
  rw [str_list, str_list, lib_pre]
  unfold Lib.trimPrefix cutPre
  rw [lib_pre]
  by_cases h : p <+: l <;> simp [h]
theorem trimC_lib (l : List UInt8) : Lib.trimSuffix l dotC = trimC l := by
  unfold Lib.trimSuffix trimC
  rw [lib_suf]
  by_cases h : dotC <:+ l <;> simp [h, show dotC.length = 5 from rfl]
theorem trimC_len (l : List UInt8) : (trimC l).length ≤ l.length := by
  unfold trimC
  split
  · rw [List.length_take]; omega
  · exact Nat.le_refl _
theorem cutSuf_any (l : List UInt8) (hl : l.length ≤ maxLen) (w : World) :
    Calls Tryz.prog 73 #[.string (str l), .string ⟨#[46, 99, 111, 110, 102]⟩] w fun e w' => e = .returned (.tuple #[.string (str (trimC l)), .bool (decide (dotC <:+ l))]) ∧ w = w' := by
  unfold maxLen at hl
  refine (Tryz.strings_CutSuffix (str l) ⟨#[46, 99, 111, 110, 102]⟩ w (by rw [str_size]; omega)).mono ?_
  rintro e w' ⟨rfl, rfl⟩
  refine ⟨?_, rfl⟩
  show Ending.returned (.tuple #[.string (str (Lib.trimSuffix (str l).data.toList dotC)), .bool (Lib.hasSuffix (str l).data.toList dotC)]) = _
  rw [str_list, lib_suf, trimC_lib]
theorem trimSuf_any (l : List UInt8) (hl : l.length ≤ maxLen) (w : World) :
    Calls Tryz.prog 36 #[.string (str l), .string ⟨#[46, 99, 111, 110, 102]⟩] w fun e w' => e = .returned (.string (str (trimC l))) ∧ w = w' := by
  unfold maxLen at hl
  refine (Tryz.strings_TrimSuffix (str l) ⟨#[46, 99, 111, 110, 102]⟩ w (by rw [str_size]; omega)).mono ?_
  rintro e w' ⟨rfl, rfl⟩
  refine ⟨?_, rfl⟩
  show Ending.returned (.string (str (Lib.trimSuffix (str l).data.toList dotC))) = _
  rw [str_list, trimC_lib]
theorem cutD_lib (c : UInt8) (l : List UInt8) : Lib.cut l [c] = cutD c l := by
  induction l with
  | nil => rfl
  | cons x l ih =>
    have hge := Lib.index_ge l [c]
    have hp : ([c].isPrefixOf (x :: l)) = decide (x = c) := by
      rw [Bool.eq_iff_iff]; simp [List.isPrefixOf]; exact eq_comm
    rw [cutD]
    unfold Lib.cut at ih ⊢
    have e : Lib.index (x :: l) [c] = if x = c then 0 else if Lib.index l [c] = -1 then -1 else Lib.index l [c] + 1 := by
      rw [Lib.index, hp]
      by_cases h : x = c <;> simp [h]
    by_cases hx : x = c
    · rw [e, if_pos hx, if_pos hx]; rfl
    · rw [e, if_neg hx, if_neg hx, ← ih]
      by_cases h1 : Lib.index l [c] = -1
      · rw [if_pos h1, if_neg (by omega), if_neg (by omega)]
      · rw [if_neg h1, if_pos (by omega), if_pos (by omega)]
        have e2 : (Lib.index l [c] + 1).toNat = (Lib.index l [c]).toNat + 1 := by omega
        rw [e2]; rfl
theorem cutD_len (c : UInt8) (l : List UInt8) : (cutD c l).1.length ≤ l.length ∧ (cutD c l).2.1.length ≤ l.length := by
  induction l with
  | nil => exact ⟨Nat.le_refl _, Nat.le_refl _⟩
  | cons x l ih =>
    rw [cutD]
    split
    · simp
    · simp; omega
def cA (l : List UInt8) : List UInt8 := (cutD 47 l).1
def cB (l : List UInt8) : List UInt8 := (cutD 47 l).2.1
def cF (l : List UInt8) : Bool := (cutD 47 l).2.2
theorem cA_len (l : List UInt8) : (cA l).length ≤ l.length := (cutD_len 47 l).1
theorem cB_len (l : List UInt8) : (cB l).length ≤ l.length := (cutD_len 47 l).2
set_option maxHeartbeats 2000000 in
set_option maxRecDepth 100000 in
theorem liteCut_s (l : List UInt8) (hs : l.length ≤ maxLen) (w : World) :
    Calls Tryz.prog 59 #[.string (str l), .string ⟨#[47]⟩] w fun e w' => e = .returned (.tuple #[.string (str (cA l)), .string (str (cB l)), .bool (cF l)]) ∧ ∃ n, w' = w.drewN n := by
  unfold maxLen at hs
  have hsz0 : (str l).size = l.length := str_size l
  have hcut : Lib.cut (str l).data.toList (⟨#[47]⟩ : ByteArray).data.toList = cutD 47 l := by rw [str_list]; exact cutD_lib 47 l
  generalize str l = s at *
  have hi1 : Lib.indexByte s.data.toList 47 = Lib.indexB s ⟨#[47]⟩ := (Lib.index_one s.data.toList 47).symm
  rcases Lib.indexB_cases s ⟨#[47]⟩ with hix | ⟨i, hix, hroom⟩
  · obtain ⟨e1, e2, e3⟩ := Lib.cutB_miss s ⟨#[47]⟩ hix
    rw [hcut] at e1 e2 e3
    have E1 : str (cA l) = _ := e1
    have E2 : str (cB l) = _ := e2
    have E3 : cF l = _ := e3
    rw [E1, E2, E3]
    rw [hix] at hi1
    clear e1 e2 e3 E1 E2 E3 hix hcut
    have H := Lib.hid hi1
    clear hi1
    go_enter Tryz.func59, Tryz.ntmps59
    go_wp2_with (go_at_call 80; refine (Tryz.stringslite_Index_one _ _ _).mono ?_; rintro e w' ⟨rfl, rfl⟩; rw [H.out])
    go_ret3
    exact ⟨rfl, 0, rfl⟩
  · obtain ⟨e1, e2, e3⟩ := Lib.cutB_hit s ⟨#[47]⟩ i hix
    rw [hcut] at e1 e2 e3
    have E1 : str (cA l) = _ := e1
    have E2 : str (cB l) = _ := e2
    have E3 : cF l = _ := e3
    rw [E1, E2, E3]
    rw [hix] at hi1
    clear e1 e2 e3 E1 E2 E3 hix hcut
    have hsz : (⟨#[47]⟩ : ByteArray).size = 1 := rfl
    rw [hsz] at hroom ⊢
    clear hsz
    have H := Lib.hid hi1
    clear hi1
    have c1 : (0 : Int) ≤ ↑i := by omega
    have c2 : (↑i : Int) ≤ ↑s.size := by omega
    have c3 : (0 : Int) ≤ ↑i + 1 := by omega
    have c4 : (↑i + 1 : Int) ≤ ↑s.size := by omega
    have c5 : s.size ≤ 9223372036854775807 := by omega
    clear hsz0 hs
    go_enter Tryz.func59, Tryz.ntmps59
    go_wp2_with (go_at_call 80; refine (Tryz.stringslite_Index_one _ _ _).mono ?_; rintro e w' ⟨rfl, rfl⟩; rw [H.out])
    go_region
    go_wp2
    go_ret3
    exact ⟨rfl, 1, rfl⟩
set_option maxHeartbeats 1000000 in
theorem cut_s (l : List UInt8) (hs : l.length ≤ maxLen) (w : World) :
    Calls Tryz.prog 32 #[.string (str l), .string ⟨#[47]⟩] w fun e w' => e = .returned (.tuple #[.string (str (cA l)), .string (str (cB l)), .bool (cF l)]) ∧ Below w.heap.size w w' := by
  go_enter Tryz.func32, Tryz.ntmps32
  go_wp2_with (go_at_call 59; refine (liteCut_s _ hs _).mono ?_; rintro e w' ⟨rfl, n, rfl⟩)
  go_ret3
  exact ⟨rfl, below_drewN (Below.refl _ _) n⟩
set_option maxHeartbeats 2000000 in
theorem isOdd_0 (R : Nat) (h1 : 0 ≤ R) (h2 : R ≤ 44) (w : World) : Calls Tryz.prog 75 #[.int .i32 R] w fun e w' => e = .returned (.bool true) ∧ w = w' := by
  have a97 : ((R : Int) < 97) := by omega
  have a65 : ((R : Int) < 65) := by omega
  have a48 : ((R : Int) < 48) := by omega
  have q45 : ((R : Int) == 45) = false := by simp; omega
  have q95 : ((R : Int) == 95) = false := by simp; omega
  clear h1 h2
  go_enter Tryz.func75, Tryz.ntmps75
  go_wp2
  go_ret
  exact ⟨ret_bool (by first | rfl | (simp; done) | (simp; omega)), by first | rfl | trivial⟩
set_option maxHeartbeats 2000000 in
theorem isOdd_1 (w : World) : Calls Tryz.prog 75 #[.int .i32 45] w fun e w' => e = .returned (.bool false) ∧ w = w' := by
  have u0 : (0 : Nat) ≤ 1 := Nat.zero_le _
  go_enter Tryz.func75, Tryz.ntmps75
  go_wp2
  go_ret
  exact ⟨rfl, by first | rfl | trivial⟩
set_option maxHeartbeats 2000000 in
theorem isOdd_2 (R : Nat) (h1 : 46 ≤ R) (h2 : R ≤ 47) (w : World) : Calls Tryz.prog 75 #[.int .i32 R] w fun e w' => e = .returned (.bool true) ∧ w = w' := by
  have a97 : ((R : Int) < 97) := by omega
  have a65 : ((R : Int) < 65) := by omega
  have a48 : ((R : Int) < 48) := by omega
  have q45 : ((R : Int) == 45) = false := by simp; omega
  have q95 : ((R : Int) == 95) = false := by simp; omega
  have u0 : (0 : Nat) ≤ 1 := Nat.zero_le _
  have u1 : (0 : Nat) ≤ 2 := Nat.zero_le _
  clear h1 h2
  go_enter Tryz.func75, Tryz.ntmps75
  go_wp2
  go_ret
  exact ⟨ret_bool (by first | rfl | (simp; done) | (simp; omega)), by first | rfl | trivial⟩
set_option maxHeartbeats 2000000 in
theorem isOdd_3 (R : Nat) (h1 : 48 ≤ R) (h2 : R ≤ 57) (w : World) : Calls Tryz.prog 75 #[.int .i32 R] w fun e w' => e = .returned (.bool false) ∧ w = w' := by
  have a97 : ((R : Int) < 97) := by omega
  have a65 : ((R : Int) < 65) := by omega
  have a48 : ((48 : Int) ≤ (R : Int)) := by omega
  have z48 : ((R : Int) ≤ 57) := by omega
  have q45 : ((R : Int) == 45) = false := by simp; omega
  have q95 : ((R : Int) == 95) = false := by simp; omega
  have u0 : (0 : Nat) ≤ 1 := Nat.zero_le _
  have u1 : (0 : Nat) ≤ 2 := Nat.zero_le _
  have u2 : (0 : Nat) ≤ 3 := Nat.zero_le _
  clear h1 h2
  go_enter Tryz.func75, Tryz.ntmps75
  go_wp2
  go_ret
  exact ⟨ret_bool (by first | rfl | (simp; done) | (simp; omega)), by first | rfl | trivial⟩
set_option maxHeartbeats 2000000 in
theorem isOdd_4 (R : Nat) (h1 : 58 ≤ R) (h2 : R ≤ 64) (w : World) : Calls Tryz.prog 75 #[.int .i32 R] w fun e w' => e = .returned (.bool true) ∧ w = w' := by
  have a97 : ((R : Int) < 97) := by omega
  have a65 : ((R : Int) < 65) := by omega
  have a48 : ((48 : Int) ≤ (R : Int)) := by omega
  have z48 : ((57 : Int) < (R : Int)) := by omega
  have q45 : ((R : Int) == 45) = false := by simp; omega
  have q95 : ((R : Int) == 95) = false := by simp; omega
  have u0 : (0 : Nat) ≤ 1 := Nat.zero_le _
  have u1 : (0 : Nat) ≤ 2 := Nat.zero_le _
  have u2 : (0 : Nat) ≤ 3 := Nat.zero_le _
  have u3 : (0 : Nat) ≤ 4 := Nat.zero_le _
  clear h1 h2
  go_enter Tryz.func75, Tryz.ntmps75
  go_wp2
  go_ret
  exact ⟨ret_bool (by first | rfl | (simp; done) | (simp; omega)), by first | rfl | trivial⟩
set_option maxHeartbeats 2000000 in
theorem isOdd_5 (R : Nat) (h1 : 65 ≤ R) (h2 : R ≤ 90) (w : World) : Calls Tryz.prog 75 #[.int .i32 R] w fun e w' => e = .returned (.bool false) ∧ w = w' := by
  have a97 : ((R : Int) < 97) := by omega
  have a65 : ((65 : Int) ≤ (R : Int)) := by omega
  have z65 : ((R : Int) ≤ 90) := by omega
  have a48 : ((48 : Int) ≤ (R : Int)) := by omega
  have z48 : ((57 : Int) < (R : Int)) := by omega
  have q45 : ((R : Int) == 45) = false := by simp; omega
  have q95 : ((R : Int) == 95) = false := by simp; omega
  have u0 : (0 : Nat) ≤ 1 := Nat.zero_le _
  have u1 : (0 : Nat) ≤ 2 := Nat.zero_le _
  have u2 : (0 : Nat) ≤ 3 := Nat.zero_le _
  have u3 : (0 : Nat) ≤ 4 := Nat.zero_le _
  have u4 : (0 : Nat) ≤ 5 := Nat.zero_le _
  clear h1 h2
  go_enter Tryz.func75, Tryz.ntmps75
  go_wp2
  go_ret
  exact ⟨ret_bool (by first | rfl | (simp; done) | (simp; omega)), by first | rfl | trivial⟩
set_option maxHeartbeats 2000000 in
theorem isOdd_6 (R : Nat) (h1 : 91 ≤ R) (h2 : R ≤ 94) (w : World) : Calls Tryz.prog 75 #[.int .i32 R] w fun e w' => e = .returned (.bool true) ∧ w = w' := by
  have a97 : ((R : Int) < 97) := by omega
  have a65 : ((65 : Int) ≤ (R : Int)) := by omega
  have z65 : ((90 : Int) < (R : Int)) := by omega
  have a48 : ((48 : Int) ≤ (R : Int)) := by omega
  have z48 : ((57 : Int) < (R : Int)) := by omega
  have q45 : ((R : Int) == 45) = false := by simp; omega
  have q95 : ((R : Int) == 95) = false := by simp; omega
  have u0 : (0 : Nat) ≤ 1 := Nat.zero_le _
  have u1 : (0 : Nat) ≤ 2 := Nat.zero_le _
  have u2 : (0 : Nat) ≤ 3 := Nat.zero_le _
  have u3 : (0 : Nat) ≤ 4 := Nat.zero_le _
  have u4 : (0 : Nat) ≤ 5 := Nat.zero_le _
  have u5 : (0 : Nat) ≤ 6 := Nat.zero_le _
  clear h1 h2
  go_enter Tryz.func75, Tryz.ntmps75
  go_wp2
  go_ret
  exact ⟨ret_bool (by first | rfl | (simp; done) | (simp; omega)), by first | rfl | trivial⟩
set_option maxHeartbeats 2000000 in
theorem isOdd_7 (w : World) : Calls Tryz.prog 75 #[.int .i32 95] w fun e w' => e = .returned (.bool false) ∧ w = w' := by
  have u0 : (0 : Nat) ≤ 1 := Nat.zero_le _
  have u1 : (0 : Nat) ≤ 2 := Nat.zero_le _
  have u2 : (0 : Nat) ≤ 3 := Nat.zero_le _
  have u3 : (0 : Nat) ≤ 4 := Nat.zero_le _
  have u4 : (0 : Nat) ≤ 5 := Nat.zero_le _
  have u5 : (0 : Nat) ≤ 6 := Nat.zero_le _
  have u6 : (0 : Nat) ≤ 7 := Nat.zero_le _
  go_enter Tryz.func75, Tryz.ntmps75
  go_wp2
  go_ret
  exact ⟨rfl, by first | rfl | trivial⟩
set_option maxHeartbeats 2000000 in
theorem isOdd_8 (w : World) : Calls Tryz.prog 75 #[.int .i32 96] w fun e w' => e = .returned (.bool true) ∧ w = w' := by
  have u0 : (0 : Nat) ≤ 1 := Nat.zero_le _
  have u1 : (0 : Nat) ≤ 2 := Nat.zero_le _
  have u2 : (0 : Nat) ≤ 3 := Nat.zero_le _
  have u3 : (0 : Nat) ≤ 4 := Nat.zero_le _
  have u4 : (0 : Nat) ≤ 5 := Nat.zero_le _
  have u5 : (0 : Nat) ≤ 6 := Nat.zero_le _
  have u6 : (0 : Nat) ≤ 7 := Nat.zero_le _
  have u7 : (0 : Nat) ≤ 8 := Nat.zero_le _
  go_enter Tryz.func75, Tryz.ntmps75
  go_wp2
  go_ret
  exact ⟨rfl, by first | rfl | trivial⟩
set_option maxHeartbeats 2000000 in
theorem isOdd_9 (R : Nat) (h1 : 97 ≤ R) (h2 : R ≤ 122) (w : World) : Calls Tryz.prog 75 #[.int .i32 R] w fun e w' => e = .returned (.bool false) ∧ w = w' := by
  have a97 : ((97 : Int) ≤ (R : Int)) := by omega
  have z97 : ((R : Int) ≤ 122) := by omega
  have a65 : ((65 : Int) ≤ (R : Int)) := by omega
  have z65 : ((90 : Int) < (R : Int)) := by omega
  have a48 : ((48 : Int) ≤ (R : Int)) := by omega
  have z48 : ((57 : Int) < (R : Int)) := by omega
  have q45 : ((R : Int) == 45) = false := by simp; omega
  have q95 : ((R : Int) == 95) = false := by simp; omega
  have u0 : (0 : Nat) ≤ 1 := Nat.zero_le _
  have u1 : (0 : Nat) ≤ 2 := Nat.zero_le _
  have u2 : (0 : Nat) ≤ 3 := Nat.zero_le _
  have u3 : (0 : Nat) ≤ 4 := Nat.zero_le _
  have u4 : (0 : Nat) ≤ 5 := Nat.zero_le _
  have u5 : (0 : Nat) ≤ 6 := Nat.zero_le _
  have u6 : (0 : Nat) ≤ 7 := Nat.zero_le _
  have u7 : (0 : Nat) ≤ 8 := Nat.zero_le _
  have u8 : (0 : Nat) ≤ 9 := Nat.zero_le _
  clear h1 h2
  go_enter Tryz.func75, Tryz.ntmps75
  go_wp2
  go_ret
  exact ⟨ret_bool (by first | rfl | (simp; done) | (simp; omega)), by first | rfl | trivial⟩
set_option maxHeartbeats 2000000 in
theorem isOdd_10 (R : Nat) (h1 : 123 ≤ R) (w : World) : Calls Tryz.prog 75 #[.int .i32 R] w fun e w' => e = .returned (.bool true) ∧ w = w' := by
  have a97 : ((97 : Int) ≤ (R : Int)) := by omega
  have z97 : ((122 : Int) < (R : Int)) := by omega
  have a65 : ((65 : Int) ≤ (R : Int)) := by omega
  have z65 : ((90 : Int) < (R : Int)) := by omega
  have a48 : ((48 : Int) ≤ (R : Int)) := by omega
  have z48 : ((57 : Int) < (R : Int)) := by omega
  have q45 : ((R : Int) == 45) = false := by simp; omega
  have q95 : ((R : Int) == 95) = false := by simp; omega
  have u0 : (0 : Nat) ≤ 1 := Nat.zero_le _
  have u1 : (0 : Nat) ≤ 2 := Nat.zero_le _
  have u2 : (0 : Nat) ≤ 3 := Nat.zero_le _
  have u3 : (0 : Nat) ≤ 4 := Nat.zero_le _
  have u4 : (0 : Nat) ≤ 5 := Nat.zero_le _
  have u5 : (0 : Nat) ≤ 6 := Nat.zero_le _
  have u6 : (0 : Nat) ≤ 7 := Nat.zero_le _
  have u7 : (0 : Nat) ≤ 8 := Nat.zero_le _
  have u8 : (0 : Nat) ≤ 9 := Nat.zero_le _
  have u9 : (0 : Nat) ≤ 10 := Nat.zero_le _
  clear h1
  go_enter Tryz.func75, Tryz.ntmps75
  go_wp2
  go_ret
  exact ⟨ret_bool (by first | rfl | (simp; done) | (simp; omega)), by first | rfl | trivial⟩
def oddR (r : Nat) : Bool := !decide (97 ≤ r ∧ r ≤ 122 ∨ 65 ≤ r ∧ r ≤ 90 ∨ 48 ≤ r ∧ r ≤ 57 ∨ r = 45 ∨ r = 95)
theorem isOdd_any (R : Nat) (w : World) : Calls Tryz.prog 75 #[.int .i32 R] w fun e w' => e = .returned (.bool (oddR R)) ∧ w = w' := by
  by_cases c0 : R ≤ 44
  · have e : oddR R = true := by unfold oddR; rw [decide_eq_false (by omega)]; rfl
    rw [e]; exact isOdd_0 R (by omega) c0 w
  by_cases c1 : R ≤ 45
  · have e : oddR R = false := by unfold oddR; rw [decide_eq_true (by omega)]; rfl
    obtain rfl : R = 45 := by omega
    rw [e]; exact isOdd_1 w
  by_cases c2 : R ≤ 47
  · have e : oddR R = true := by unfold oddR; rw [decide_eq_false (by omega)]; rfl
    rw [e]; exact isOdd_2 R (by omega) c2 w
  by_cases c3 : R ≤ 57
  · have e : oddR R = false := by unfold oddR; rw [decide_eq_true (by omega)]; rfl
    rw [e]; exact isOdd_3 R (by omega) c3 w
  by_cases c4 : R ≤ 64
  · have e : oddR R = true := by unfold oddR; rw [decide_eq_false (by omega)]; rfl
    rw [e]; exact isOdd_4 R (by omega) c4 w
  by_cases c5 : R ≤ 90
  · have e : oddR R = false := by unfold oddR; rw [decide_eq_true (by omega)]; rfl
    rw [e]; exact isOdd_5 R (by omega) c5 w
  by_cases c6 : R ≤ 94
  · have e : oddR R = true := by unfold oddR; rw [decide_eq_false (by omega)]; rfl
    rw [e]; exact isOdd_6 R (by omega) c6 w
  by_cases c7 : R ≤ 95
  · have e : oddR R = false := by unfold oddR; rw [decide_eq_true (by omega)]; rfl
    obtain rfl : R = 95 := by omega
    rw [e]; exact isOdd_7 w
  by_cases c8 : R ≤ 96
  · have e : oddR R = true := by unfold oddR; rw [decide_eq_false (by omega)]; rfl
    obtain rfl : R = 96 := by omega
    rw [e]; exact isOdd_8 w
  by_cases c9 : R ≤ 122
  · have e : oddR R = false := by unfold oddR; rw [decide_eq_true (by omega)]; rfl
    rw [e]; exact isOdd_9 R (by omega) c9 w
  have e : oddR R = true := by unfold oddR; rw [decide_eq_false (by omega)]; rfl
  rw [e]; exact isOdd_10 R (by omega) w
theorem odd_byte (c : UInt8) : oddR c.toNat = !dropB c := by
  unfold oddR dropB
  rfl
theorem odd_high {r : Nat} (h : 128 ≤ r) : oddR r = true := by
  unfold oddR
  rw [decide_eq_false (by omega)]
  rfl
theorem idx_odd (s : ByteArray) (f pos : Nat) (hf : s.size ≤ pos + f) (hpos : pos ≤ s.size) : decide (0 ≤ Lib.idxFuncFrom oddR true s f pos) = !(s.data.toList.drop pos).all dropB := by
  induction f generalizing pos with
  | zero =>
    have : pos = s.size := by omega
    rw [List.drop_of_length_le (by rw [size_list]; omega)]
    rfl
  | succ f ih =>
    unfold Lib.idxFuncFrom
    by_cases hp : pos < s.size
    · rw [if_pos hp]
      have hl : pos < s.data.toList.length := by rw [size_list]; exact hp
      have hd : s.data.toList.drop pos = s[pos] :: s.data.toList.drop (pos + 1) := by
        rw [List.drop_eq_getElem_cons hl]
        rfl
      by_cases ha : s[pos].toNat < 128
      · rw [decode_ascii s pos hp ha]
        simp only
        rw [odd_byte, hd, List.all_cons]
        rcases hb : dropB s[pos] with _ | _
        · simp
        · simp only [Bool.not_true, Bool.true_and]
          rw [if_neg (by simp)]
          exact ih (pos + 1) (by omega) (by omega)
      · obtain ⟨h1, h2⟩ := decode_high s pos hp (by omega)
        rw [if_pos (odd_high h1), hd, List.all_cons]
        have : dropB s[pos] = false := by
          have h := odd_byte s[pos]
          rw [odd_high (by omega)] at h
          rcases hb : dropB s[pos] with _ | _
          · rfl
          · rw [hb] at h; cases h
        rw [this]
        simp
    · rw [if_neg hp, List.drop_of_length_le (by rw [size_list]; omega)]
      rfl
theorem containsOdd_any (s : ByteArray) (w : World) :
    Calls Tryz.prog 74 #[.string s, .func (.func 75) #[] #[]] w fun e w' => e = .returned (.bool (!s.data.toList.all dropB)) ∧ Below w.heap.size w w' := by
  refine (Tryz.strings_ContainsFunc 75 #[] (enters_of Tryz.func75 (by kernel_rfl) rfl) oddR s w (fun W x _ => (isOdd_any x W).mono ?_)).mono ?_
  · rintro e w' ⟨rfl, rfl⟩
    exact ⟨rfl, 0, rfl⟩
  · rintro e w' ⟨rfl, hb⟩
    refine ⟨ret_bool ?_, hb⟩
    have := idx_odd s s.size 0 (by omega) (by omega)
    rwa [List.drop_zero] at this
end Go.Proofs.YthodbeeglkedcaaGreat
