/- The walks of the laws' own shown, of SpanSum, SpanTurn and SpanWords. -/
import Derived.Test.YteoflefahoamnaaDoorSpT
import Derived.Test.YteoflefahoamnaaDoorSpU
namespace Go.Proofs.YteoflefahoamnaaDoor
open Go.RowKit

theorem dec1 (n : Nat) (h : n < 10) : decL n = [UInt8.ofNat (48 + n)] := by rw [decL, dif_pos h]
theorem print_93784 : str (printZ 93784) = ⟨#[49, 100, 32, 50, 104, 32, 51, 109, 105, 110, 32, 52, 115]⟩ := by
  have e1 : decL 1 = [49] := dec1 1 (by omega)
  have e2 : decL 2 = [50] := dec1 2 (by omega)
  have e3 : decL 3 = [51] := dec1 3 (by omega)
  have e4 : decL 4 = [52] := dec1 4 (by omega)
  have : printZ 93784 = [49, 100, 32, 50, 104, 32, 51, 109, 105, 110, 32, 52, 115] := by
    unfold printZ printL
    rw [if_neg (by omega), if_neg (by decide), if_neg (by decide), if_neg (by decide)]
    unfold wordsL partW
    rw [show Int.toNat 93784 / 86400 = 1 from rfl, show Int.toNat 93784 % 86400 / 3600 = 2 from rfl, show Int.toNat 93784 % 3600 / 60 = 3 from rfl, show Int.toNat 93784 % 60 = 4 from rfl, e1, e2, e3, e4]
    rfl
  rw [this]; rfl
theorem print_0 : str (printZ 0) = ⟨#[48]⟩ := rfl

set_option maxHeartbeats 2000000 in
theorem shown_any (w : World) (ht : P10 w) :
    Calls Tryd.prog 7 #[] w fun e w' => e = .returned (.bool true) ∧ Below w.heap.size w w' := by
  have Ht := Lib.hid ht
  clear ht
  go_enter Tryd.func7, Tryd.ntmps7
  go_wp2_with fail
  refine (Parse_any _ (by decide) _).mono ?_
  rintro e w1 ⟨rfl, hb1⟩
  rw [show parseN (⟨#[49, 104, 32, 51, 48, 109, 105, 110, 32, 53]⟩ : ByteArray) = 5405 by decide, show parseOk (⟨#[49, 104, 32, 51, 48, 109, 105, 110, 32, 53]⟩ : ByteArray) = true by decide]
  go_wp2_with fail
  refine (Parse_any _ (by decide) _).mono ?_
  rintro e w2 ⟨rfl, hb2⟩
  rw [show parseN (⟨#[49, 121]⟩ : ByteArray) = 0 by decide, show parseOk (⟨#[49, 121]⟩ : ByteArray) = false by decide]
  go_wp2_with fail
  refine (Parse_any _ (by decide) _).mono ?_
  rintro e w3 ⟨rfl, hb3⟩
  rw [show parseN (⟨#[105, 110, 102, 105, 110, 105, 116, 121]⟩ : ByteArray) = 1099511627776 by decide, show parseOk (⟨#[105, 110, 102, 105, 110, 105, 116, 121]⟩ : ByteArray) = true by decide]
  have HB3 := Lib.hid (more (more hb1 hb2) hb3)
  clear hb1 hb2 hb3
  go_wp2_with fail
  refine (Print_any 93784 _ (Ht.out.below HB3.out)).mono ?_
  rintro e w4 ⟨rfl, hb4⟩
  rw [print_93784]
  have HB4 := Lib.hid (more HB3.out hb4)
  clear hb4
  go_wp2_with fail
  refine (Print_any 0 _ (Ht.out.below HB4.out)).mono ?_
  rintro e w5 ⟨rfl, hb5⟩
  rw [print_0]
  have HB5 := Lib.hid (more HB4.out hb5)
  clear hb5
  go_wp2_with fail
  refine (Sum_any 2 3 (by omega) (by omega) (by omega) (by omega) _).mono ?_
  rintro e w6 ⟨rfl, rfl⟩
  rw [show sumZ 2 3 = 5 by decide]
  go_wp2_with fail
  go_ret
  exact ⟨rfl, HB5.out⟩

theorem sumZ_le (a b : Int) : 0 ≤ sumZ a b ∧ sumZ a b ≤ 1099511627776 ∧ (sumZ a b ≤ 6311433600 ∨ sumZ a b = 1099511627776) := by
  unfold sumZ
  split <;> omega
theorem sumZ_comm (a b : Int) : sumZ b a = sumZ a b := by
  unfold sumZ
  split <;> split <;> omega
theorem sumZ_assoc (a b c : Int) : sumZ a (sumZ b c) = sumZ (sumZ a b) c := by
  unfold sumZ
  split <;> split <;> split <;> (try split) <;> omega
theorem sumZ_forever (a : Int) : sumZ a 1099511627776 = 1099511627776 := by
  unfold sumZ
  split <;> omega
theorem sumZ_zero {n : Int} (h0 : 0 ≤ n) (h : n ≤ 6311433600 ∨ n = 1099511627776) : sumZ n 0 = n := by
  unfold sumZ
  split <;> omega

set_option maxHeartbeats 2000000 in
theorem SpanSum_walk (a b c : Int) (ha0 : -9223372036854775808 ≤ a) (ha1 : a ≤ 9223372036854775807) (hb0 : -9223372036854775808 ≤ b) (hb1 : b ≤ 9223372036854775807) (hc0 : -9223372036854775808 ≤ c) (hc1 : c ≤ 9223372036854775807) (w : World) (ht : P10 w) :
    Calls Tryd.prog 6 #[.int .i64 a, .int .i64 b, .int .i64 c] w fun e w' => e = .returned (.bool true) ∧ Below w.heap.size w w' := by
  obtain ⟨n0, n1, n2⟩ := sumZ_le a b
  obtain ⟨m0, m1, _⟩ := sumZ_le b c
  have C1 := Lib.hid (sumZ_comm a b)
  have C2 := Lib.hid (sumZ_assoc a b c)
  have C3 := Lib.hid (sumZ_forever a)
  have C4 := Lib.hid (sumZ_zero n0 n2)
  rcases n2 with n2 | n2
  · have z0 : sumZ a b ≤ 6311433600 := n2
    clear n2
    go_enter Tryd.func6, Tryd.ntmps6
    go_wp2_with fail
    refine (shown_any _ ht).mono ?_
    rintro e w1 ⟨rfl, hw1⟩
    go_wp2_with fail
    refine (Sum_any a b ha0 ha1 hb0 hb1 _).mono ?_
    rintro e w2 ⟨rfl, rfl⟩
    go_wp2_with fail
    refine (Sum_any b a hb0 hb1 ha0 ha1 _).mono ?_
    rintro e w2 ⟨rfl, rfl⟩
    rw [C1.out]
    go_wp2_with fail
    refine (Sum_any a b ha0 ha1 hb0 hb1 _).mono ?_
    rintro e w2 ⟨rfl, rfl⟩
    go_wp2_with fail
    refine (Sum_any _ c (by omega) (by omega) hc0 hc1 _).mono ?_
    rintro e w2 ⟨rfl, rfl⟩
    go_wp2_with fail
    refine (Sum_any b c hb0 hb1 hc0 hc1 _).mono ?_
    rintro e w2 ⟨rfl, rfl⟩
    go_wp2_with fail
    refine (Sum_any a _ ha0 ha1 (by omega) (by omega) _).mono ?_
    rintro e w2 ⟨rfl, rfl⟩
    rw [C2.out]
    go_wp2_with fail
    refine (Sum_any a b ha0 ha1 hb0 hb1 _).mono ?_
    rintro e w2 ⟨rfl, rfl⟩
    go_wp2_with fail
    refine (Sum_any a _ ha0 ha1 (by omega) (by omega) _).mono ?_
    rintro e w2 ⟨rfl, rfl⟩
    rw [C3.out]
    go_wp2_with fail
    refine (Sum_any _ 0 (by omega) (by omega) (by omega) (by omega) _).mono ?_
    rintro e w2 ⟨rfl, rfl⟩
    rw [C4.out]
    go_wp2_with fail
    go_ret
    exact ⟨rfl, hw1⟩
  · have z1 : (sumZ a b == 1099511627776) = true := by simp [n2]
    have z2 : 6311433600 < sumZ a b := by omega
    clear n2
    go_enter Tryd.func6, Tryd.ntmps6
    go_wp2_with fail
    refine (shown_any _ ht).mono ?_
    rintro e w1 ⟨rfl, hw1⟩
    go_wp2_with fail
    refine (Sum_any a b ha0 ha1 hb0 hb1 _).mono ?_
    rintro e w2 ⟨rfl, rfl⟩
    go_wp2_with fail
    refine (Sum_any b a hb0 hb1 ha0 ha1 _).mono ?_
    rintro e w2 ⟨rfl, rfl⟩
    rw [C1.out]
    go_wp2_with fail
    refine (Sum_any a b ha0 ha1 hb0 hb1 _).mono ?_
    rintro e w2 ⟨rfl, rfl⟩
    go_wp2_with fail
    refine (Sum_any _ c (by omega) (by omega) hc0 hc1 _).mono ?_
    rintro e w2 ⟨rfl, rfl⟩
    go_wp2_with fail
    refine (Sum_any b c hb0 hb1 hc0 hc1 _).mono ?_
    rintro e w2 ⟨rfl, rfl⟩
    go_wp2_with fail
    refine (Sum_any a _ ha0 ha1 (by omega) (by omega) _).mono ?_
    rintro e w2 ⟨rfl, rfl⟩
    rw [C2.out]
    go_wp2_with fail
    refine (Sum_any a b ha0 ha1 hb0 hb1 _).mono ?_
    rintro e w2 ⟨rfl, rfl⟩
    go_wp2_with fail
    refine (Sum_any a _ ha0 ha1 (by omega) (by omega) _).mono ?_
    rintro e w2 ⟨rfl, rfl⟩
    rw [C3.out]
    go_wp2_with fail
    refine (Sum_any _ 0 (by omega) (by omega) (by omega) (by omega) _).mono ?_
    rintro e w2 ⟨rfl, rfl⟩
    rw [C4.out]
    go_wp2_with fail
    go_ret
    exact ⟨rfl, hw1⟩

theorem parse_print {a : Int} (h : 0 ≤ a ∧ a ≤ 6311433600 ∨ a = 1099511627776) : ((parseN (str (printZ a)) : Nat) : Int) = a ∧ parseOk (str (printZ a)) = true ∧ printZ a ≠ [] := by
  obtain ⟨m, rfl⟩ : ∃ m : Nat, a = m := ⟨a.toNat, by omega⟩
  have hm : m ≤ maxSpan ∨ m = forever := by unfold maxSpan forever; omega
  have e : printZ (m : Int) = printL m := by unfold printZ; rw [if_neg (by omega), Int.toNat_natCast]
  have hp := span_print m hm
  unfold parseN parseOk
  rw [e, str_list, hp]
  exact ⟨rfl, rfl, print_ne m hm⟩
theorem print_not {a : Int} (h : ¬ (0 ≤ a ∧ a ≤ 6311433600 ∨ a = 1099511627776)) : printZ a = [] := by
  unfold printZ
  split
  · rfl
  · exact print_none _ (by unfold maxSpan; omega) (by unfold forever; omega)
theorem print_same {a b : Int} (h : 0 ≤ a ∧ a ≤ 6311433600 ∨ a = 1099511627776) : printZ b = printZ a ↔ b = a := by
  constructor
  · intro e
    by_cases hb : 0 ≤ b ∧ b ≤ 6311433600 ∨ b = 1099511627776
    · have h1 := (parse_print h).1
      have h2 := (parse_print hb).1
      rw [e, h1] at h2
      exact h2.symm
    · rw [print_not hb] at e
      exact absurd e.symm (parse_print h).2.2
  · rintro rfl; rfl
theorem parse_nothing : parseN (str []) = 0 ∧ parseOk (str []) = false := by decide
theorem printL_len (m : Nat) : (printL m).length ≤ 100 := by
  unfold printL
  split
  · decide
  · split
    · simp
    · split
      · simp
      · next h1 h2 h3 =>
        have := print_chain m h3 (by omega)
        unfold printL at this
        rw [if_neg h1, if_neg h2, if_neg h3] at this
        rw [← this]
        unfold maxSpan at h2
        have a1 := addL_len [] (m / 86400) [100] (by omega) (by simp)
        have a2 := addL_len (addL [] (m / 86400) [100]) (m % 86400 / 3600) [104] (by omega) (by simp)
        have a3 := addL_len (addL (addL [] (m / 86400) [100]) (m % 86400 / 3600) [104]) (m % 3600 / 60) [109, 105, 110] (by omega) (by simp)
        have a4 := addL_len (addL (addL (addL [] (m / 86400) [100]) (m % 86400 / 3600) [104]) (m % 3600 / 60) [109, 105, 110]) (m % 60) [115] (by omega) (by simp)
        simp only [List.length_nil] at a1
        omega
theorem printZ_len (a : Int) : (str (printZ a)).size ≤ maxLen := by
  have : (printZ a).length ≤ 100 := by
    unfold printZ
    split
    · simp
    · exact printL_len _
  rw [str_size]; unfold maxLen; omega

set_option maxHeartbeats 4000000 in
theorem SpanTurn_walk (a b : Int) (w : World) (ht : P10 w) :
    Calls Tryd.prog 4 #[.int .i64 a, .int .i64 b] w fun e w' => e = .returned (.bool true) ∧ Below w.heap.size w w' := by
  have hz := printZ_len a
  have Ht := Lib.hid ht
  clear ht
  by_cases hm : 0 ≤ a ∧ a ≤ 6311433600 ∨ a = 1099511627776
  · obtain ⟨p1, p2, p3⟩ := parse_print hm
    have hs := print_same (b := b) hm
    have HP1 := Lib.hid p1
    have HP2 := Lib.hid p2
    have e1 : (str (printZ a)).toList.isEmpty = false := by rw [isEmpty_iff, str_list]; simpa using p3
    have e1' : ¬ (str (printZ a)).toList = [] := by simpa using e1
    have e2 : (((str (printZ b)).toList == (str (printZ a)).toList) == (a == b)) = true := by
      rw [beq_str]
      by_cases h : b = a
      · subst h; simp
      · have h2 : str (printZ b) ≠ str (printZ a) := fun e => h (hs.1 (by have := congrArg (fun x : ByteArray => x.data.toList) e; simpa [str] using this))
        have h3 : ¬ a = b := fun e => h e.symm
        simp [h2, h3]
    clear hs p1 p2 p3
    rcases hm with ⟨m1, m2⟩ | m1
    · go_enter Tryd.func4, Tryd.ntmps4
      go_wp2_with fail
      refine (shown_any _ Ht.out).mono ?_
      rintro e w1 ⟨rfl, hw1⟩
      have HB1 := Lib.hid hw1
      clear hw1
      go_wp2_with fail
      refine (Print_any a _ (Ht.out.below HB1.out)).mono ?_
      rintro e w2 ⟨rfl, hw2⟩
      have HB2 := Lib.hid (more HB1.out hw2)
      clear hw2
      go_wp2_with fail
      refine (Parse_any _ hz _).mono ?_
      rintro e w3 ⟨rfl, hw3⟩
      rw [HP1.out, HP2.out]
      have HB3 := Lib.hid (more HB2.out hw3)
      clear hw3
      go_wp2_with fail
      refine (Print_any b _ (Ht.out.below HB3.out)).mono ?_
      rintro e w4 ⟨rfl, hw4⟩
      have HB4 := Lib.hid (more HB3.out hw4)
      clear hw4
      go_wp2_with fail
      go_ret
      exact ⟨rfl, HB4.out⟩
    · have m2 : (a == 1099511627776) = true := by simp [m1]
      have m3 : 6311433600 < a := by omega
      have m4 : 0 ≤ a := by omega
      clear m1
      go_enter Tryd.func4, Tryd.ntmps4
      go_wp2_with fail
      refine (shown_any _ Ht.out).mono ?_
      rintro e w1 ⟨rfl, hw1⟩
      have HB1 := Lib.hid hw1
      clear hw1
      go_wp2_with fail
      refine (Print_any a _ (Ht.out.below HB1.out)).mono ?_
      rintro e w2 ⟨rfl, hw2⟩
      have HB2 := Lib.hid (more HB1.out hw2)
      clear hw2
      go_wp2_with fail
      refine (Parse_any _ hz _).mono ?_
      rintro e w3 ⟨rfl, hw3⟩
      rw [HP1.out, HP2.out]
      have HB3 := Lib.hid (more HB2.out hw3)
      clear hw3
      go_wp2_with fail
      refine (Print_any b _ (Ht.out.below HB3.out)).mono ?_
      rintro e w4 ⟨rfl, hw4⟩
      have HB4 := Lib.hid (more HB3.out hw4)
      clear hw4
      go_wp2_with fail
      go_ret
      exact ⟨rfl, HB4.out⟩
  · have HP := Lib.hid (print_not hm)
    have hz1 : (str []).size ≤ maxLen := by decide
    have m1 : (a == 1099511627776) = false := by simp; omega
    have e1 : (str []).toList.isEmpty = true := by rw [isEmpty_iff]; rfl
    by_cases h0 : a < 0
    · clear hm
      go_enter Tryd.func4, Tryd.ntmps4
      go_wp2_with fail
      refine (shown_any _ Ht.out).mono ?_
      rintro e w1 ⟨rfl, hw1⟩
      have HB1 := Lib.hid hw1
      clear hw1
      go_wp2_with fail
      refine (Print_any a _ (Ht.out.below HB1.out)).mono ?_
      rintro e w2 ⟨rfl, hw2⟩
      rw [HP.out]
      have HB2 := Lib.hid (more HB1.out hw2)
      clear hw2
      go_wp2_with fail
      refine (Parse_any _ hz1 _).mono ?_
      rintro e w3 ⟨rfl, hw3⟩
      rw [parse_nothing.1, parse_nothing.2]
      have HB3 := Lib.hid (more HB2.out hw3)
      clear hw3
      go_wp2_with fail
      go_ret
      exact ⟨rfl, HB3.out⟩
    · have h1 : 6311433600 < a := by omega
      have h0' : 0 ≤ a := by omega
      clear hm h0
      go_enter Tryd.func4, Tryd.ntmps4
      go_wp2_with fail
      refine (shown_any _ Ht.out).mono ?_
      rintro e w1 ⟨rfl, hw1⟩
      have HB1 := Lib.hid hw1
      clear hw1
      go_wp2_with fail
      refine (Print_any a _ (Ht.out.below HB1.out)).mono ?_
      rintro e w2 ⟨rfl, hw2⟩
      rw [HP.out]
      have HB2 := Lib.hid (more HB1.out hw2)
      clear hw2
      go_wp2_with fail
      refine (Parse_any _ hz1 _).mono ?_
      rintro e w3 ⟨rfl, hw3⟩
      rw [parse_nothing.1, parse_nothing.2]
      have HB3 := Lib.hid (more HB2.out hw3)
      clear hw3
      go_wp2_with fail
      go_ret
      exact ⟨rfl, HB3.out⟩
end Go.Proofs.YteoflefahoamnaaDoor
