/- The walk of SpanAll. -/
import Derived.Test.YteoflefahoamnaaDoorSpV
import Derived.Test.YteoflefahoamnaaDoorSpW
import Derived.Test.YteoflefahoamnaaDoorSpX
namespace Go.Proofs.YteoflefahoamnaaDoor
open Go.RowKit

set_option maxHeartbeats 1000000 in
theorem rPrint_any (n : Int) (w : World) :
    Calls Tryd.prog 11 #[.int .i64 n] w fun e w' => e = .returned (.string (str (printZ n))) ∧ Below w.heap.size w w' := by
  by_cases h1 : n = 1099511627776
  · have HZ := Lib.hid (show printZ n = infL by rw [h1]; rfl)
    have z0 : (n == 1099511627776) = true := by simp [h1]
    clear h1
    go_enter Tryd.func11, Tryd.ntmps11
    go_wp2
    go_ret
    exact ⟨ret_str (by rw [HZ.out]; rfl), Below.refl _ _⟩
  · have z0 : (n == 1099511627776) = false := by simp [h1]
    by_cases h2 : n < 0
    · have HZ := Lib.hid (show printZ n = [] by unfold printZ; rw [if_pos h2])
      clear h1
      go_enter Tryd.func11, Tryd.ntmps11
      go_wp2
      go_ret
      exact ⟨ret_str (by rw [HZ.out]; rfl), Below.refl _ _⟩
    · by_cases h3 : 6311433600 < n
      · have HZ := Lib.hid (show printZ n = [] by
          unfold printZ printL
          rw [if_neg h2, if_neg (by unfold forever; omega), if_pos (by unfold maxSpan; omega)])
        have h2' : 0 ≤ n := by omega
        clear h1
        go_enter Tryd.func11, Tryd.ntmps11
        go_wp2
        go_ret
        exact ⟨ret_str (by rw [HZ.out]; rfl), Below.refl _ _⟩
      · by_cases h4 : n = 0
        · have HZ := Lib.hid (show printZ n = [48] by rw [h4]; decide)
          have z1 : (n == 0) = true := by simp [h4]
          have h2' : 0 ≤ n := by omega
          have h3' : n ≤ 6311433600 := by omega
          clear h1 h4
          go_enter Tryd.func11, Tryd.ntmps11
          go_wp2
          go_ret
          exact ⟨ret_str (by rw [HZ.out]; rfl), Below.refl _ _⟩
        · obtain ⟨m, rfl⟩ : ∃ m : Nat, n = m := ⟨n.toNat, by omega⟩
          have := rprint_mid m (by omega) (by omega) w
          unfold printZ
          rw [if_neg h2, Int.toNat_natCast]
          exact this

set_option maxHeartbeats 2000000 in
theorem SpanAll_walk (s : ByteArray) (a b : Int) (hs : s.size ≤ 4194304) (ha0 : -9223372036854775808 ≤ a) (ha1 : a ≤ 9223372036854775807) (hb0 : -9223372036854775808 ≤ b) (hb1 : b ≤ 9223372036854775807) (w : World) (ht : P10 w) :
    Calls Tryd.prog 3 #[.string s, .int .i64 a, .int .i64 b] w fun e w' => e = .returned (.bool true) ∧ Below w.heap.size w w' := by
  have hs2 : s.size ≤ maxLen := by unfold maxLen; omega
  have Ht := Lib.hid ht
  clear ht
  go_enter Tryd.func3, Tryd.ntmps3
  go_wp2_with fail
  refine (shown_any _ Ht.out).mono ?_
  rintro e w1 ⟨rfl, hw1⟩
  have HB1 := Lib.hid hw1
  clear hw1
  go_wp2_with fail
  refine (Parse_any _ hs2 _).mono ?_
  rintro e w2 ⟨rfl, hw2⟩
  have HB2 := Lib.hid (more HB1.out hw2)
  clear hw2
  go_wp2_with fail
  refine (rSpan_any _ hs _).mono ?_
  rintro e w3 ⟨rfl, hw3⟩
  have HB3 := Lib.hid (more HB2.out hw3)
  clear hw3
  go_wp2_with fail
  refine (Print_any a _ (Ht.out.below HB3.out)).mono ?_
  rintro e w4 ⟨rfl, hw4⟩
  have HB4 := Lib.hid (more HB3.out hw4)
  clear hw4
  go_wp2_with fail
  refine (rPrint_any a _).mono ?_
  rintro e w5 ⟨rfl, hw5⟩
  have HB5 := Lib.hid (more HB4.out hw5)
  clear hw5
  go_wp2_with fail
  refine (Sum_any a b ha0 ha1 hb0 hb1 _).mono ?_
  rintro e w6 ⟨rfl, rfl⟩
  go_wp2_with fail
  refine (rSum_any a b _).mono ?_
  rintro e w7 ⟨rfl, rfl⟩
  go_wp2_with fail
  go_ret
  exact ⟨rfl, HB5.out⟩
end Go.Proofs.YteoflefahoamnaaDoor
