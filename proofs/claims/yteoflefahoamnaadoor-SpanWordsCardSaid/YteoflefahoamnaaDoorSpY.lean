/- The walk of SpanWords. -/
import Derived.Test.YteoflefahoamnaaDoorSpX
namespace Go.Proofs.YteoflefahoamnaaDoor
open Go.RowKit

theorem parse_of {s : ByteArray} (h : parseOk s = true) : spanL s.data.toList = some (parseN s) := by
  unfold parseOk at h
  unfold parseN
  cases e : spanL s.data.toList with
  | none => rw [e] at h; cases h
  | some n => rfl
theorem parse_is {s : ByteArray} {o : Option Nat} (h : spanL s.data.toList = o) : parseN s = o.getD 0 ∧ parseOk s = o.isSome := by
  unfold parseN parseOk
  rw [h]
  exact ⟨rfl, rfl⟩
theorem two_in {a b : ByteArray} (ha : parseOk a = true) (hb : parseOk b = true) (hx : parseN a ≤ 6311433600) (hy : parseN b ≤ 6311433600) :
    spanL ((a ++ (⟨#[32, 32]⟩ : ByteArray)) ++ b).data.toList = (if parseN a + parseN b ≤ 6311433600 then some (parseN a + parseN b) else none) ∧
    spanL ((((⟨#[32]⟩ : ByteArray) ++ b) ++ (⟨#[32]⟩ : ByteArray)) ++ a).data.toList = (if parseN a + parseN b ≤ 6311433600 then some (parseN a + parseN b) else none) := by
  have h1 := span_two (parse_of ha) (parse_of hb) hx hy
  have h2 := span_turned (parse_of ha) (parse_of hb) hx hy
  refine ⟨?_, ?_⟩
  · rw [app_list, app_list]; exact h1
  · rw [app_list, app_list, app_list]; exact h2

set_option maxHeartbeats 4000000 in
theorem SpanWords_walk (a b : ByteArray) (ha : a.size ≤ 140737488351232) (hb : b.size ≤ 140737488351232) (w : World) (ht : P10 w) :
    Calls Tryd.prog 5 #[.string a, .string b] w fun e w' => e = .returned (.bool true) ∧ Below w.heap.size w w' := by
  have q1 : a.size ≤ maxLen := by unfold maxLen; omega
  have q2 : b.size ≤ maxLen := by unfold maxLen; omega
  have q3 : ((a ++ (⟨#[32, 32]⟩ : ByteArray)) ++ b).size ≤ maxLen := by
    rw [ByteArray.size_append, ByteArray.size_append]; show a.size + 2 + b.size ≤ _; unfold maxLen; omega
  have q4 : ((((⟨#[32]⟩ : ByteArray) ++ b) ++ (⟨#[32]⟩ : ByteArray)) ++ a).size ≤ maxLen := by
    rw [ByteArray.size_append, ByteArray.size_append, ByteArray.size_append]; show 1 + b.size + 1 + a.size ≤ _; unfold maxLen; omega
  have Q3 := Lib.hid q3
  have Q4 := Lib.hid q4
  clear q3 q4
  rcases hA : parseOk a with _ | _
  · have HA := Lib.hid hA
    clear hA
    go_enter Tryd.func5, Tryd.ntmps5
    go_wp2_with fail
    refine (shown_any _ ht).mono ?_
    rintro e w1 ⟨rfl, hw1⟩
    have HB1 := Lib.hid hw1
    clear hw1
    go_wp2_with fail
    refine (Parse_any _ q1 _).mono ?_
    rintro e w2 ⟨rfl, hw2⟩
    rw [HA.out]
    have HB2 := Lib.hid (more HB1.out hw2)
    clear hw2
    go_wp2_with fail
    refine (Parse_any _ q2 _).mono ?_
    rintro e w3 ⟨rfl, hw3⟩
    have HB3 := Lib.hid (more HB2.out hw3)
    clear hw3
    go_wp2_with fail
    refine (Parse_any _ Q3.out _).mono ?_
    rintro e w4 ⟨rfl, hw4⟩
    have HB4 := Lib.hid (more HB3.out hw4)
    clear hw4
    go_wp2_with fail
    refine (Parse_any _ Q4.out _).mono ?_
    rintro e w5 ⟨rfl, hw5⟩
    have HB5 := Lib.hid (more HB4.out hw5)
    clear hw5
    go_wp2_with fail
    go_ret
    exact ⟨rfl, HB5.out⟩
  · rcases hB : parseOk b with _ | _
    · have HA := Lib.hid hA
      have HB := Lib.hid hB
      clear hA hB
      go_enter Tryd.func5, Tryd.ntmps5
      go_wp2_with fail
      refine (shown_any _ ht).mono ?_
      rintro e w1 ⟨rfl, hw1⟩
      have HB1 := Lib.hid hw1
      clear hw1
      go_wp2_with fail
      refine (Parse_any _ q1 _).mono ?_
      rintro e w2 ⟨rfl, hw2⟩
      rw [HA.out]
      have HB2 := Lib.hid (more HB1.out hw2)
      clear hw2
      go_wp2_with fail
      refine (Parse_any _ q2 _).mono ?_
      rintro e w3 ⟨rfl, hw3⟩
      rw [HB.out]
      have HB3 := Lib.hid (more HB2.out hw3)
      clear hw3
      go_wp2_with fail
      refine (Parse_any _ Q3.out _).mono ?_
      rintro e w4 ⟨rfl, hw4⟩
      have HB4 := Lib.hid (more HB3.out hw4)
      clear hw4
      go_wp2_with fail
      refine (Parse_any _ Q4.out _).mono ?_
      rintro e w5 ⟨rfl, hw5⟩
      have HB5 := Lib.hid (more HB4.out hw5)
      clear hw5
      go_wp2_with fail
      go_ret
      exact ⟨rfl, HB5.out⟩
    · by_cases hx : parseN a ≤ 6311433600
      · by_cases hy : parseN b ≤ 6311433600
        · obtain ⟨t1, t2⟩ := two_in hA hB hx hy
          have HA := Lib.hid hA
          have HB := Lib.hid hB
          have x1 : (parseN a : Int) ≤ 6311433600 := by omega
          have y1 : (parseN b : Int) ≤ 6311433600 := by omega
          have y0 : (0 : Int) ≤ (parseN b : Int) := by omega
          by_cases hs : parseN a + parseN b ≤ 6311433600
          · rw [if_pos hs] at t1 t2
            obtain ⟨n1, o1⟩ := parse_is t1
            obtain ⟨n2, o2⟩ := parse_is t2
            have N1 := Lib.hid (show ((parseN ((a ++ (⟨#[32, 32]⟩ : ByteArray)) ++ b) : Nat) : Int) = (parseN a : Int) + (parseN b : Int) by rw [n1]; rfl)
            have N2 := Lib.hid (show ((parseN ((((⟨#[32]⟩ : ByteArray) ++ b) ++ (⟨#[32]⟩ : ByteArray)) ++ a) : Nat) : Int) = (parseN a : Int) + (parseN b : Int) by rw [n2]; rfl)
            have O1 := Lib.hid (show parseOk ((a ++ (⟨#[32, 32]⟩ : ByteArray)) ++ b) = true by rw [o1]; rfl)
            have O2 := Lib.hid (show parseOk ((((⟨#[32]⟩ : ByteArray) ++ b) ++ (⟨#[32]⟩ : ByteArray)) ++ a) = true by rw [o2]; rfl)
            have s1 : (parseN a : Int) ≤ 6311433600 - (parseN b : Int) := by omega
            have s2 : (parseN a : Int) + (parseN b : Int) ≤ 6311433600 := by omega
            clear hA hB t1 t2 n1 o1 n2 o2 hs hx hy
            go_enter Tryd.func5, Tryd.ntmps5
            go_wp2_with fail
            refine (shown_any _ ht).mono ?_
            rintro e w1 ⟨rfl, hw1⟩
            have HB1 := Lib.hid hw1
            clear hw1
            go_wp2_with fail
            refine (Parse_any _ q1 _).mono ?_
            rintro e w2 ⟨rfl, hw2⟩
            rw [HA.out]
            have HB2 := Lib.hid (more HB1.out hw2)
            clear hw2
            go_wp2_with fail
            refine (Parse_any _ q2 _).mono ?_
            rintro e w3 ⟨rfl, hw3⟩
            rw [HB.out]
            have HB3 := Lib.hid (more HB2.out hw3)
            clear hw3
            go_wp2_with fail
            refine (Parse_any _ Q3.out _).mono ?_
            rintro e w4 ⟨rfl, hw4⟩
            rw [N1.out, O1.out]
            have HB4 := Lib.hid (more HB3.out hw4)
            clear hw4
            go_wp2_with fail
            refine (Parse_any _ Q4.out _).mono ?_
            rintro e w5 ⟨rfl, hw5⟩
            rw [N2.out, O2.out]
            have HB5 := Lib.hid (more HB4.out hw5)
            clear hw5
            go_wp2_with fail
            go_ret
            exact ⟨rfl, HB5.out⟩
          · rw [if_neg hs] at t1 t2
            obtain ⟨n1, o1⟩ := parse_is t1
            obtain ⟨n2, o2⟩ := parse_is t2
            have O1 := Lib.hid (show parseOk ((a ++ (⟨#[32, 32]⟩ : ByteArray)) ++ b) = false by rw [o1]; rfl)
            have O2 := Lib.hid (show parseOk ((((⟨#[32]⟩ : ByteArray) ++ b) ++ (⟨#[32]⟩ : ByteArray)) ++ a) = false by rw [o2]; rfl)
            have s1 : 6311433600 - (parseN b : Int) < (parseN a : Int) := by omega
            clear hA hB t1 t2 n1 o1 n2 o2 hs hx hy
            go_enter Tryd.func5, Tryd.ntmps5
            go_wp2_with fail
            refine (shown_any _ ht).mono ?_
            rintro e w1 ⟨rfl, hw1⟩
            have HB1 := Lib.hid hw1
            clear hw1
            go_wp2_with fail
            refine (Parse_any _ q1 _).mono ?_
            rintro e w2 ⟨rfl, hw2⟩
            rw [HA.out]
            have HB2 := Lib.hid (more HB1.out hw2)
            clear hw2
            go_wp2_with fail
            refine (Parse_any _ q2 _).mono ?_
            rintro e w3 ⟨rfl, hw3⟩
            rw [HB.out]
            have HB3 := Lib.hid (more HB2.out hw3)
            clear hw3
            go_wp2_with fail
            refine (Parse_any _ Q3.out _).mono ?_
            rintro e w4 ⟨rfl, hw4⟩
            rw [O1.out]
            have HB4 := Lib.hid (more HB3.out hw4)
            clear hw4
            go_wp2_with fail
            refine (Parse_any _ Q4.out _).mono ?_
            rintro e w5 ⟨rfl, hw5⟩
            rw [O2.out]
            have HB5 := Lib.hid (more HB4.out hw5)
            clear hw5
            go_wp2_with fail
            go_ret
            exact ⟨rfl, HB5.out⟩
        · have HA := Lib.hid hA
          have HB := Lib.hid hB
          have x1 : (parseN a : Int) ≤ 6311433600 := by omega
          have y1 : 6311433600 < (parseN b : Int) := by omega
          clear hA hB hx hy
          go_enter Tryd.func5, Tryd.ntmps5
          go_wp2_with fail
          refine (shown_any _ ht).mono ?_
          rintro e w1 ⟨rfl, hw1⟩
          have HB1 := Lib.hid hw1
          clear hw1
          go_wp2_with fail
          refine (Parse_any _ q1 _).mono ?_
          rintro e w2 ⟨rfl, hw2⟩
          rw [HA.out]
          have HB2 := Lib.hid (more HB1.out hw2)
          clear hw2
          go_wp2_with fail
          refine (Parse_any _ q2 _).mono ?_
          rintro e w3 ⟨rfl, hw3⟩
          rw [HB.out]
          have HB3 := Lib.hid (more HB2.out hw3)
          clear hw3
          go_wp2_with fail
          refine (Parse_any _ Q3.out _).mono ?_
          rintro e w4 ⟨rfl, hw4⟩
          have HB4 := Lib.hid (more HB3.out hw4)
          clear hw4
          go_wp2_with fail
          refine (Parse_any _ Q4.out _).mono ?_
          rintro e w5 ⟨rfl, hw5⟩
          have HB5 := Lib.hid (more HB4.out hw5)
          clear hw5
          go_wp2_with fail
          go_ret
          exact ⟨rfl, HB5.out⟩
      · have HA := Lib.hid hA
        have HB := Lib.hid hB
        have x1 : 6311433600 < (parseN a : Int) := by omega
        clear hA hB hx
        go_enter Tryd.func5, Tryd.ntmps5
        go_wp2_with fail
        refine (shown_any _ ht).mono ?_
        rintro e w1 ⟨rfl, hw1⟩
        have HB1 := Lib.hid hw1
        clear hw1
        go_wp2_with fail
        refine (Parse_any _ q1 _).mono ?_
        rintro e w2 ⟨rfl, hw2⟩
        rw [HA.out]
        have HB2 := Lib.hid (more HB1.out hw2)
        clear hw2
        go_wp2_with fail
        refine (Parse_any _ q2 _).mono ?_
        rintro e w3 ⟨rfl, hw3⟩
        rw [HB.out]
        have HB3 := Lib.hid (more HB2.out hw3)
        clear hw3
        go_wp2_with fail
        refine (Parse_any _ Q3.out _).mono ?_
        rintro e w4 ⟨rfl, hw4⟩
        have HB4 := Lib.hid (more HB3.out hw4)
        clear hw4
        go_wp2_with fail
        refine (Parse_any _ Q4.out _).mono ?_
        rintro e w5 ⟨rfl, hw5⟩
        have HB5 := Lib.hid (more HB4.out hw5)
        clear hw5
        go_wp2_with fail
        go_ret
        exact ⟨rfl, HB5.out⟩
end Go.Proofs.YteoflefahoamnaaDoor
