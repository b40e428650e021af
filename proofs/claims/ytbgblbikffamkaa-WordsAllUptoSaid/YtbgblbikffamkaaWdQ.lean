/- The walk of the law WordsQuote. -/
import Derived.Test.YtbgblbikffamkaaWdV
namespace Go.Proofs.Ytbgblbikffamkaa
open Go.RowKit

theorem conv_one (c : UInt8) (W : World) : (convert 33 9 (.slice (some ⟨W.heap.size, 0, none⟩) 1 1)).run Try.prog (W.alloc (.cells #[.int .u8 c.toNat] 5)) = .ok (.string (str [c])) (W.alloc (.cells #[.int .u8 c.toNat] 5)) :=
  conv_rowW (W.alloc (.cells #[.int .u8 c.toNat] 5)) W.heap.size _ [c] ⟨rfl, .inr ⟨W.heap.size, 1, #[.int .u8 c.toNat], rfl, Nat.le_refl _, Blk.new W 5 _, Nat.le_refl _, by unfold maxLen; omega, rfl, rfl⟩⟩
def tidyAt (q : UInt8) (s : ByteArray) (k : Nat) : Prop := (s.data.toList.take k).all (tidyW q) = true
theorem tidy_succ {q : UInt8} {s : ByteArray} {k : Nat} (h : tidyAt q s k) (hk : k < s.size) (hc : tidyW q s[k] = true) : tidyAt q s (k + 1) := by
  unfold tidyAt at *
  rw [take_at s k hk, List.all_append, h]
  simpa using hc
theorem tidy_good {q c : UInt8} (h1 : c.toNat < 32 → c.toNat = 9) (h2 : ¬ c.toNat = 127) (h3 : ¬ c.toNat = q.toNat) (h4 : ¬ c.toNat = 92) : tidyW q c = true := by
  unfold tidyW badW
  have e1 : (c == 127) = false := by simp only [beq_eq_false_iff_ne]; exact ne_of_nat h2
  have e2 : (c == q) = false := by simp only [beq_eq_false_iff_ne]; exact ne_of_nat h3
  have e3 : (c == 92) = false := by simp only [beq_eq_false_iff_ne]; exact ne_of_nat h4
  rw [e1, e2, e3]
  by_cases h : c.toNat < 32
  · have e4 : (c == 9) = true := by rw [beq_iff_eq]; exact byte_eq.2 (h1 h)
    rw [e4]; simp
  · simp [h]
theorem quote_list (q : UInt8) (s : ByteArray) : (str [q] ++ s ++ str [q]).data.toList = q :: (s.data.toList ++ [q]) := by
  rw [app_list, app_list]; rfl
theorem quote_list2 (q : UInt8) (s : ByteArray) : ((⟨#[120]⟩ : ByteArray) ++ (str [q] ++ s ++ str [q]) ++ (⟨#[121]⟩ : ByteArray)).data.toList = 120 :: (q :: (s.data.toList ++ [q]) ++ [121]) := by
  rw [app_list, app_list, quote_list]; rfl
theorem str_s (s : ByteArray) : str s.data.toList = s := str_data s
theorem xy_eq (s : ByteArray) : str (120 :: (s.data.toList ++ [121])) = (⟨#[120]⟩ : ByteArray) ++ s ++ (⟨#[121]⟩ : ByteArray) := by
  refine (eq_str.2 ?_).symm
  rw [app_list, app_list]
  rfl
theorem beq_self (s : ByteArray) : (s.toList == s.toList) = true := by simp

set_option maxHeartbeats 8000000 in
theorem WordsQuote_q39 (s : ByteArray) (hs : s.size ≤ 140737488351232) (w : World) :
    Calls Try.prog 7 #[.string s, .bool false] w fun e w' => e = .returned (.bool true) ∧ Below w.heap.size w w' := by
  have HZ : Hid (tidyAt 39 s 0) := rfl
  go_enter Try.func7, Try.ntmps7
  go_wp2_with fail
  refine (shown5_any _).mono ?_
  rintro e w1 ⟨rfl, hb1⟩
  have HB1 := Lib.hid hb1
  clear hb1
  go_wp2_with fail
  go_loop [6] (fun i => ∃ k : Nat, k ≤ s.size ∧ i = .int .i64 k ∧ Hid (tidyAt 39 s k)) (fun i => s.size - (intOf i).toNat)
  case atStart => exact ⟨0, Nat.zero_le _, rfl, HZ⟩
  case round =>
    obtain ⟨k, hk, rfl, ht⟩ := hrel
    by_cases hlt : k < s.size
    · have hr := s[k].toNat_lt
      have b0 : (0 : Int) ≤ (k : Int) := by omega
      have b1 : (k : Int) < (s.size : Int) := by omega
      by_cases h1 : s[k].toNat < 32 ∧ ¬ s[k].toNat = 9
      · have d1 : decide ((s[k].toNat : Int) < 32) = true := by simp; omega
        have d2 : ((s[k].toNat : Int) != 9) = true := by simp; omega
        clear h1
        go_wp2_with fail
        go_ret
        exact ⟨rfl, HB1.out⟩
      by_cases h9 : s[k].toNat = 9
      · have d1 : decide ((s[k].toNat : Int) < 32) = true := by simp; omega
        have d2 : ((s[k].toNat : Int) != 9) = false := by simp; omega
        have d3 : ((s[k].toNat : Int) == 127) = false := by simp; omega
        have d4 : ((s[k].toNat : Int) == 39) = false := by simp; omega
        have d5 : ((s[k].toNat : Int) == 92) = false := by simp; omega
        have HT := Lib.hid (tidy_succ ht.out hlt (tidy_good (fun _ => h9) (by omega) (by show ¬ _ = 39; omega) (by omega)))
        clear h1 h9
        go_wp2_with fail
        go_round
        case rel => exact ⟨k + 1, by omega, by go_num, HT⟩
        case measure => simp [intOf]; omega
      have d1 : decide ((s[k].toNat : Int) < 32) = false := by simp; omega
      by_cases g0 : s[k].toNat = 127
      · have d3 : ((s[k].toNat : Int) == 127) = true := by simp; omega
        clear h1 h9 g0
        go_wp2_with fail
        go_ret
        exact ⟨rfl, HB1.out⟩
      have d3 : ((s[k].toNat : Int) == 127) = false := by simp; omega
      by_cases g1 : s[k].toNat = 39
      · have d4 : ((s[k].toNat : Int) == 39) = true := by simp; omega
        clear h1 h9 g1
        go_wp2_with fail
        go_ret
        exact ⟨rfl, HB1.out⟩
      have d4 : ((s[k].toNat : Int) == 39) = false := by simp; omega
      by_cases g2 : s[k].toNat = 92
      · have d5 : ((s[k].toNat : Int) == 92) = true := by simp; omega
        clear h1 h9 g2
        go_wp2_with fail
        go_ret
        exact ⟨rfl, HB1.out⟩
      have d5 : ((s[k].toNat : Int) == 92) = false := by simp; omega
      have HT := Lib.hid (tidy_succ ht.out hlt (tidy_good (fun h => absurd ⟨h, h9⟩ h1) g0 (by show ¬ _ = 39; exact g1) g2))
      clear h1 h9 g0 g1 g2
      go_wp2_with fail
      go_round
      case rel => exact ⟨k + 1, by omega, by go_num, HT⟩
      case measure => simp [intOf]; omega
    · obtain rfl : k = s.size := by omega
      have hall : s.data.toList.all (tidyW 39) = true := by
        have := ht.out
        unfold tidyAt at this
        rwa [List.take_of_length_le (by rw [size_list]; exact Nat.le_refl _)] at this
      obtain ⟨hs1, hs2⟩ := split_quote (q := 39) (by simp) hall
      have HS1 : Hid (splitW (str [39] ++ s ++ str [39]).data.toList = ([s.data.toList], 0)) := by show _ = _; rw [quote_list]; exact hs1
      have HS2 : Hid (splitW ((⟨#[120]⟩ : ByteArray) ++ (str [39] ++ s ++ str [39]) ++ (⟨#[121]⟩ : ByteArray)).data.toList = ([120 :: (s.data.toList ++ [121])], 0)) := by show _ = _; rw [quote_list2]; exact hs2
      clear hall hs1 hs2
      have z1 : (str [39] ++ s ++ str [39]).size = s.size + 2 := by rw [ByteArray.size_append, ByteArray.size_append, str_size]; simp; omega
      have z2 : ((⟨#[120]⟩ : ByteArray) ++ (str [39] ++ s ++ str [39]) ++ (⟨#[121]⟩ : ByteArray)).size = s.size + 4 := by rw [ByteArray.size_append, ByteArray.size_append, z1]; show 1 + (s.size + 2) + 1 = _; omega
      have HM1 : Hid ((str [39] ++ s ++ str [39]).size ≤ maxLen) := by show _ ≤ _; rw [z1]; unfold maxLen; omega
      have HM2 : Hid (((⟨#[120]⟩ : ByteArray) ++ (str [39] ++ s ++ str [39]) ++ (⟨#[121]⟩ : ByteArray)).size ≤ maxLen) := by show _ ≤ _; rw [z2]; unfold maxLen; omega
      have HT1 : Hid (topS (str [39] ++ s ++ str [39]).data.toList + 1 ≤ 140737488355328) := by
        show _ ≤ _
        have := topS_le (str [39] ++ s ++ str [39]).data.toList
        rw [size_list, z1] at this
        omega
      have HT2 : Hid (topS ((⟨#[120]⟩ : ByteArray) ++ (str [39] ++ s ++ str [39]) ++ (⟨#[121]⟩ : ByteArray)).data.toList + 1 ≤ 140737488355328) := by
        show _ ≤ _
        have := topS_le ((⟨#[120]⟩ : ByteArray) ++ (str [39] ++ s ++ str [39]) ++ (⟨#[121]⟩ : ByteArray)).data.toList
        rw [size_list, z2] at this
        omega
      clear z1 z2
      have hc1 : (convert 33 9 (.slice (some ⟨w1.heap.size, 0, none⟩) 1 1)).run Try.prog (w1.alloc (.cells #[.int .u8 39] 5)) = .ok (.string (str [39])) (w1.alloc (.cells #[.int .u8 39] 5)) := conv_one 39 w1
      have hc2 : (convert 33 9 (.slice (some ⟨w1.heap.size + 1, 0, none⟩) 1 1)).run Try.prog ((w1.alloc (.cells #[.int .u8 39] 5)).alloc (.cells #[.int .u8 39] 5)) = .ok (.string (str [39])) ((w1.alloc (.cells #[.int .u8 39] 5)).alloc (.cells #[.int .u8 39] 5)) := by
        have := conv_one 39 (w1.alloc (.cells #[.int .u8 39] 5))
        rw [show (w1.alloc (.cells #[.int .u8 39] 5)).heap.size = w1.heap.size + 1 by simp] at this
        exact this
      have HB2 : Hid (Below w.heap.size w ((w1.alloc (.cells #[.int .u8 39] 5)).alloc (.cells #[.int .u8 39] 5))) := (HB1.out.alloc HB1.out.size _).alloc (by have := HB1.out.size; simp; omega) _
      have z5 : ¬ (9223372036854775807 < (str [39]).size + s.size) := by rw [str_size]; simp; omega
      have z6 : ¬ (9223372036854775807 < (str [39] ++ s).size + (str [39]).size) := by rw [ByteArray.size_append, str_size]; simp; omega
      have z7 : ¬ (9223372036854775807 < (⟨#[120]⟩ : ByteArray).size + (str [39] ++ s ++ str [39]).size) := by rw [ByteArray.size_append, ByteArray.size_append, str_size]; show ¬ (_ < 1 + (1 + s.size + 1)); omega
      have z8 : ¬ (9223372036854775807 < ((⟨#[120]⟩ : ByteArray) ++ (str [39] ++ s ++ str [39])).size + (⟨#[121]⟩ : ByteArray).size) := by rw [ByteArray.size_append, ByteArray.size_append, ByteArray.size_append, str_size]; show ¬ (_ < 1 + (1 + s.size + 1) + 1); omega
      have Z7 := Lib.hid z7
      have Z8 := Lib.hid z8
      clear z7 z8
      go_wp2_with fail
      refine (Split_any _ HM1.out HT1.out _).mono ?_
      rintro e w2 ⟨A, n, c, rfl, hnc, hn32, hrow, hb2⟩
      rw [HS1.out] at hrow ⊢
      dsimp only at hrow ⊢
      obtain rfl : n = 1 := by have := hrow.1; simpa using this.symm
      have HR1 := Lib.hid hrow
      have HB3 := Lib.hid (below_more HB2.out HB2.out.size hb2)
      clear hrow hb2 hc1 hc2 z5 z6
      have z7 := Z7.out
      have z8 := Z8.out
      go_wp2_with fail
      refine (Split_any _ HM2.out HT2.out _).mono ?_
      rintro e w3 ⟨A', n', c', rfl, hnc', hn32', hrow', hb3⟩
      rw [HS2.out] at hrow' ⊢
      dsimp only at hrow' ⊢
      obtain rfl : n' = 1 := by have := hrow'.1; simpa using this.symm
      obtain ⟨ad, x, rfl, _, hx, hc⟩ := (HR1.out.below hb3).at_ (k := 0) (by omega)
      obtain ⟨ad', x', rfl, _, hx', hc'⟩ := hrow'.at_ (k := 0) (by omega)
      obtain rfl : s.data.toList = x := by simpa using hx
      obtain rfl : 120 :: (s.data.toList ++ [121]) = x' := by simpa using hx'
      rw [str_s] at hc
      rw [xy_eq] at hc'
      have a0 : w3.cell? ad = some (.string s) := by simpa [Addr.add] using hc
      have a1 : w3.cell? ad' = some (.string ((⟨#[120]⟩ : ByteArray) ++ s ++ (⟨#[121]⟩ : ByteArray))) := by simpa [Addr.add] using hc'
      have HB4 := Lib.hid (below_more HB3.out HB3.out.size hb3)
      clear hb3 hrow' hx hx' hc hc' z7 z8 Z7 Z8
      have y1 : ¬ (9223372036854775807 < (⟨#[120]⟩ : ByteArray).size + s.size) := by show ¬ (_ < 1 + s.size); omega
      have y2 : ¬ (9223372036854775807 < ((⟨#[120]⟩ : ByteArray) ++ s).size + (⟨#[121]⟩ : ByteArray).size) := by rw [ByteArray.size_append]; show ¬ (_ < 1 + s.size + 1); omega
      have y3 := beq_self s
      have y4 := beq_self ((⟨#[120]⟩ : ByteArray) ++ s ++ (⟨#[121]⟩ : ByteArray))
      go_wp2_with fail
      go_ret
      exact ⟨rfl, HB4.out⟩

set_option maxHeartbeats 8000000 in
theorem WordsQuote_q34 (s : ByteArray) (hs : s.size ≤ 140737488351232) (w : World) :
    Calls Try.prog 7 #[.string s, .bool true] w fun e w' => e = .returned (.bool true) ∧ Below w.heap.size w w' := by
  have HZ : Hid (tidyAt 34 s 0) := rfl
  go_enter Try.func7, Try.ntmps7
  go_wp2_with fail
  refine (shown5_any _).mono ?_
  rintro e w1 ⟨rfl, hb1⟩
  have HB1 := Lib.hid hb1
  clear hb1
  go_wp2_with fail
  go_loop [6] (fun i => ∃ k : Nat, k ≤ s.size ∧ i = .int .i64 k ∧ Hid (tidyAt 34 s k)) (fun i => s.size - (intOf i).toNat)
  case atStart => exact ⟨0, Nat.zero_le _, rfl, HZ⟩
  case round =>
    obtain ⟨k, hk, rfl, ht⟩ := hrel
    by_cases hlt : k < s.size
    · have hr := s[k].toNat_lt
      have b0 : (0 : Int) ≤ (k : Int) := by omega
      have b1 : (k : Int) < (s.size : Int) := by omega
      by_cases h1 : s[k].toNat < 32 ∧ ¬ s[k].toNat = 9
      · have d1 : decide ((s[k].toNat : Int) < 32) = true := by simp; omega
        have d2 : ((s[k].toNat : Int) != 9) = true := by simp; omega
        clear h1
        go_wp2_with fail
        go_ret
        exact ⟨rfl, HB1.out⟩
      by_cases h9 : s[k].toNat = 9
      · have d1 : decide ((s[k].toNat : Int) < 32) = true := by simp; omega
        have d2 : ((s[k].toNat : Int) != 9) = false := by simp; omega
        have d3 : ((s[k].toNat : Int) == 127) = false := by simp; omega
        have d4 : ((s[k].toNat : Int) == 34) = false := by simp; omega
        have d5 : ((s[k].toNat : Int) == 92) = false := by simp; omega
        have HT := Lib.hid (tidy_succ ht.out hlt (tidy_good (fun _ => h9) (by omega) (by show ¬ _ = 34; omega) (by omega)))
        clear h1 h9
        go_wp2_with fail
        go_round
        case rel => exact ⟨k + 1, by omega, by go_num, HT⟩
        case measure => simp [intOf]; omega
      have d1 : decide ((s[k].toNat : Int) < 32) = false := by simp; omega
      by_cases g0 : s[k].toNat = 127
      · have d3 : ((s[k].toNat : Int) == 127) = true := by simp; omega
        clear h1 h9 g0
        go_wp2_with fail
        go_ret
        exact ⟨rfl, HB1.out⟩
      have d3 : ((s[k].toNat : Int) == 127) = false := by simp; omega
      by_cases g1 : s[k].toNat = 34
      · have d4 : ((s[k].toNat : Int) == 34) = true := by simp; omega
        clear h1 h9 g1
        go_wp2_with fail
        go_ret
        exact ⟨rfl, HB1.out⟩
      have d4 : ((s[k].toNat : Int) == 34) = false := by simp; omega
      by_cases g2 : s[k].toNat = 92
      · have d5 : ((s[k].toNat : Int) == 92) = true := by simp; omega
        clear h1 h9 g2
        go_wp2_with fail
        go_ret
        exact ⟨rfl, HB1.out⟩
      have d5 : ((s[k].toNat : Int) == 92) = false := by simp; omega
      have HT := Lib.hid (tidy_succ ht.out hlt (tidy_good (fun h => absurd ⟨h, h9⟩ h1) g0 (by show ¬ _ = 34; exact g1) g2))
      clear h1 h9 g0 g1 g2
      go_wp2_with fail
      go_round
      case rel => exact ⟨k + 1, by omega, by go_num, HT⟩
      case measure => simp [intOf]; omega
    · obtain rfl : k = s.size := by omega
      have hall : s.data.toList.all (tidyW 34) = true := by
        have := ht.out
        unfold tidyAt at this
        rwa [List.take_of_length_le (by rw [size_list]; exact Nat.le_refl _)] at this
      obtain ⟨hs1, hs2⟩ := split_quote (q := 34) (by simp) hall
      have HS1 : Hid (splitW (str [34] ++ s ++ str [34]).data.toList = ([s.data.toList], 0)) := by show _ = _; rw [quote_list]; exact hs1
      have HS2 : Hid (splitW ((⟨#[120]⟩ : ByteArray) ++ (str [34] ++ s ++ str [34]) ++ (⟨#[121]⟩ : ByteArray)).data.toList = ([120 :: (s.data.toList ++ [121])], 0)) := by show _ = _; rw [quote_list2]; exact hs2
      clear hall hs1 hs2
      have z1 : (str [34] ++ s ++ str [34]).size = s.size + 2 := by rw [ByteArray.size_append, ByteArray.size_append, str_size]; simp; omega
      have z2 : ((⟨#[120]⟩ : ByteArray) ++ (str [34] ++ s ++ str [34]) ++ (⟨#[121]⟩ : ByteArray)).size = s.size + 4 := by rw [ByteArray.size_append, ByteArray.size_append, z1]; show 1 + (s.size + 2) + 1 = _; omega
      have HM1 : Hid ((str [34] ++ s ++ str [34]).size ≤ maxLen) := by show _ ≤ _; rw [z1]; unfold maxLen; omega
      have HM2 : Hid (((⟨#[120]⟩ : ByteArray) ++ (str [34] ++ s ++ str [34]) ++ (⟨#[121]⟩ : ByteArray)).size ≤ maxLen) := by show _ ≤ _; rw [z2]; unfold maxLen; omega
      have HT1 : Hid (topS (str [34] ++ s ++ str [34]).data.toList + 1 ≤ 140737488355328) := by
        show _ ≤ _
        have := topS_le (str [34] ++ s ++ str [34]).data.toList
        rw [size_list, z1] at this
        omega
      have HT2 : Hid (topS ((⟨#[120]⟩ : ByteArray) ++ (str [34] ++ s ++ str [34]) ++ (⟨#[121]⟩ : ByteArray)).data.toList + 1 ≤ 140737488355328) := by
        show _ ≤ _
        have := topS_le ((⟨#[120]⟩ : ByteArray) ++ (str [34] ++ s ++ str [34]) ++ (⟨#[121]⟩ : ByteArray)).data.toList
        rw [size_list, z2] at this
        omega
      clear z1 z2
      have hc1 : (convert 33 9 (.slice (some ⟨w1.heap.size, 0, none⟩) 1 1)).run Try.prog (w1.alloc (.cells #[.int .u8 34] 5)) = .ok (.string (str [34])) (w1.alloc (.cells #[.int .u8 34] 5)) := conv_one 34 w1
      have hc2 : (convert 33 9 (.slice (some ⟨w1.heap.size + 1, 0, none⟩) 1 1)).run Try.prog ((w1.alloc (.cells #[.int .u8 34] 5)).alloc (.cells #[.int .u8 34] 5)) = .ok (.string (str [34])) ((w1.alloc (.cells #[.int .u8 34] 5)).alloc (.cells #[.int .u8 34] 5)) := by
        have := conv_one 34 (w1.alloc (.cells #[.int .u8 34] 5))
        rw [show (w1.alloc (.cells #[.int .u8 34] 5)).heap.size = w1.heap.size + 1 by simp] at this
        exact this
      have HB2 : Hid (Below w.heap.size w ((w1.alloc (.cells #[.int .u8 34] 5)).alloc (.cells #[.int .u8 34] 5))) := (HB1.out.alloc HB1.out.size _).alloc (by have := HB1.out.size; simp; omega) _
      have z5 : ¬ (9223372036854775807 < (str [34]).size + s.size) := by rw [str_size]; simp; omega
      have z6 : ¬ (9223372036854775807 < (str [34] ++ s).size + (str [34]).size) := by rw [ByteArray.size_append, str_size]; simp; omega
      have z7 : ¬ (9223372036854775807 < (⟨#[120]⟩ : ByteArray).size + (str [34] ++ s ++ str [34]).size) := by rw [ByteArray.size_append, ByteArray.size_append, str_size]; show ¬ (_ < 1 + (1 + s.size + 1)); omega
      have z8 : ¬ (9223372036854775807 < ((⟨#[120]⟩ : ByteArray) ++ (str [34] ++ s ++ str [34])).size + (⟨#[121]⟩ : ByteArray).size) := by rw [ByteArray.size_append, ByteArray.size_append, ByteArray.size_append, str_size]; show ¬ (_ < 1 + (1 + s.size + 1) + 1); omega
      have Z7 := Lib.hid z7
      have Z8 := Lib.hid z8
      clear z7 z8
      go_wp2_with fail
      refine (Split_any _ HM1.out HT1.out _).mono ?_
      rintro e w2 ⟨A, n, c, rfl, hnc, hn32, hrow, hb2⟩
      rw [HS1.out] at hrow ⊢
      dsimp only at hrow ⊢
      obtain rfl : n = 1 := by have := hrow.1; simpa using this.symm
      have HR1 := Lib.hid hrow
      have HB3 := Lib.hid (below_more HB2.out HB2.out.size hb2)
      clear hrow hb2 hc1 hc2 z5 z6
      have z7 := Z7.out
      have z8 := Z8.out
      go_wp2_with fail
      refine (Split_any _ HM2.out HT2.out _).mono ?_
      rintro e w3 ⟨A', n', c', rfl, hnc', hn32', hrow', hb3⟩
      rw [HS2.out] at hrow' ⊢
      dsimp only at hrow' ⊢
      obtain rfl : n' = 1 := by have := hrow'.1; simpa using this.symm
      obtain ⟨ad, x, rfl, _, hx, hc⟩ := (HR1.out.below hb3).at_ (k := 0) (by omega)
      obtain ⟨ad', x', rfl, _, hx', hc'⟩ := hrow'.at_ (k := 0) (by omega)
      obtain rfl : s.data.toList = x := by simpa using hx
      obtain rfl : 120 :: (s.data.toList ++ [121]) = x' := by simpa using hx'
      rw [str_s] at hc
      rw [xy_eq] at hc'
      have a0 : w3.cell? ad = some (.string s) := by simpa [Addr.add] using hc
      have a1 : w3.cell? ad' = some (.string ((⟨#[120]⟩ : ByteArray) ++ s ++ (⟨#[121]⟩ : ByteArray))) := by simpa [Addr.add] using hc'
      have HB4 := Lib.hid (below_more HB3.out HB3.out.size hb3)
      clear hb3 hrow' hx hx' hc hc' z7 z8 Z7 Z8
      have y1 : ¬ (9223372036854775807 < (⟨#[120]⟩ : ByteArray).size + s.size) := by show ¬ (_ < 1 + s.size); omega
      have y2 : ¬ (9223372036854775807 < ((⟨#[120]⟩ : ByteArray) ++ s).size + (⟨#[121]⟩ : ByteArray).size) := by rw [ByteArray.size_append]; show ¬ (_ < 1 + s.size + 1); omega
      have y3 := beq_self s
      have y4 := beq_self ((⟨#[120]⟩ : ByteArray) ++ s ++ (⟨#[121]⟩ : ByteArray))
      go_wp2_with fail
      go_ret
      exact ⟨rfl, HB4.out⟩

theorem WordsQuote_any (s : ByteArray) (b : Bool) (hs : s.size ≤ 140737488351232) (w : World) :
    Calls Try.prog 7 #[.string s, .bool b] w fun e w' => e = .returned (.bool true) ∧ Below w.heap.size w w' := by
  cases b with
  | false => exact WordsQuote_q39 s hs w
  | true => exact WordsQuote_q34 s hs w
end Go.Proofs.Ytbgblbikffamkaa
