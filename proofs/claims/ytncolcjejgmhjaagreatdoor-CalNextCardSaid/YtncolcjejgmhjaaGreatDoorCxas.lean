/- The walks of the developers' numbersOf, dateOf, weekday, hasDay. -/
import Derived.Test.YtncolcjejgmhjaaGreatDoorCxap
import Derived.Test.YtncolcjejgmhjaaGreatDoorCxar
import Derived.Test.YtncolcjejgmhjaaGreatDoorCxaq
namespace Go.Proofs.YtncolcjejgmhjaaGreatDoor
open Go.RowKit
set_option maxHeartbeats 2000000 in
theorem numbersOf_any (y m d h i s wd : Int) (w : World) :
    Calls Tryz.prog 18 #[.agg #[.int .i64 y, .int .i64 m, .int .i64 d, .int .i64 h, .int .i64 i, .int .i64 s, .int .i64 wd]] w fun e w' => e = .returned (.agg #[.int .i64 y, .int .i64 m, .int .i64 d, .int .i64 h, .int .i64 i, .int .i64 s]) ∧ Below w.heap.size w w' := by
  go_enter Tryz.func18, Tryz.ntmps18
  go_wp2_with fail
  refine bodyPost_ret (v := .agg #[.int .i64 y, .int .i64 m, .int .i64 d, .int .i64 h, .int .i64 i, .int .i64 s]) (by simp [results, Tryz.results18, go_sem]) rfl ⟨rfl, ?_⟩
  exact ((Below.refl _ _).alloc (Nat.le_refl _) _).alloc (by simp) _
set_option maxHeartbeats 2000000 in
theorem devDate_any (y m d h i s : Int) (w : World) :
    Calls Tryz.prog 20 #[.agg #[.int .i64 y, .int .i64 m, .int .i64 d, .int .i64 h, .int .i64 i, .int .i64 s]] w fun e w' => e = .returned (.agg #[.int .i64 y, .int .i64 m, .int .i64 d, .int .i64 h, .int .i64 i, .int .i64 s, .int .i64 0]) ∧ Below w.heap.size w w' := by
  go_enter Tryz.func20, Tryz.ntmps20
  go_wp2_with fail
  refine bodyPost_ret (v := .agg #[.int .i64 y, .int .i64 m, .int .i64 d, .int .i64 h, .int .i64 i, .int .i64 s, .int .i64 0]) (by simp [results, Tryz.results20, go_sem]) rfl ⟨rfl, ?_⟩
  exact ((Below.refl _ _).alloc (Nat.le_refl _) _).alloc (by simp) _
set_option maxHeartbeats 2000000 in
theorem devWeekday_any (t : Int) (w : World) :
    Calls Tryz.prog 22 #[.int .i64 t] w fun e w' => e = .returned (.int .i64 (fW t)) ∧ Below w.heap.size w w' := by
  go_enter Tryz.func22, Tryz.ntmps22
  go_wp2_with fail
  refine (Of_any t _).mono ?_
  rintro e w1 ⟨rfl, hb1⟩
  have HB1 := Lib.hid hb1
  clear hb1
  go_wp2_with fail
  go_ret
  exact ⟨rfl, HB1.out.alloc HB1.out.size _⟩
theorem contains_step {l : List Int} {k : Nat} {d x : Int} (hk : k < l.length) (hx : l.getD k 0 = x) : (l.drop k).contains d = ((x == d) || (l.drop (k + 1)).contains d) := by
  rw [drop_cons hk, hx, List.contains_cons]
  congr 1
  rw [Bool.eq_iff_iff]; simp; exact eq_comm
def IdxPost (l : List Int) (d : Int) (w : World) (e : Ending) (w' : World) : Prop := ∃ i : Int, e = .returned (.int .i64 i) ∧ (-1 ≤ i ∧ decide (0 ≤ i) = l.contains d) ∧ w = w'
set_option maxHeartbeats 4000000 in
theorem sliceIndex_any (A : Option Addr) (n c : Nat) (l : List Int) (d : Int) (w : World) (B : Nat) (hl : IntsAt w B A n l) :
    Calls Tryz.prog 58 #[.slice A n c, .int .i64 d] w (IdxPost l d w) := by
  have HD := Lib.hid hl
  have hn := HD.out.2.1
  unfold maxLen at hn
  clear hl
  go_enter Tryz.func58, Tryz.ntmps58
  go_wp2_with fail
  go_loop [5, 8] (fun _ i => ∃ k : Nat, k ≤ n ∧ i = .int .i64 k ∧ Hid (l.contains d = (l.drop k).contains d)) (fun _ i => n - (intOf i).toNat)
  case atStart => exact ⟨0, Nat.zero_le _, rfl, by show _ = _; rw [List.drop_zero]⟩
  case round =>
    obtain ⟨k, hk, rfl, hr⟩ := hrel
    by_cases hlt : k < n
    · obtain ⟨ad, rfl, hbl, hcell⟩ := HD.out.at_ hlt
      have HST := Lib.hid (contains_step (d := d) (k := k) (by rw [HD.out.1]; exact hlt) rfl)
      generalize l.getD k 0 = x at hcell HST
      have hln : (n : Int) ≤ 9223372036854775807 := by omega
      by_cases hx : d = x
      · have hx' : (d == x) = true := by simp [hx]
        have HT : Hid (l.contains d = true) := by show _ = _; rw [hr.out, HST.out, hx]; simp
        clear hx
        go_wp2_with fail
        go_ret
        exact ⟨k, rfl, ⟨by omega, by rw [HT.out]; simp⟩, rfl⟩
      · have hx' : (d == x) = false := by simpa using hx
        have HN : Hid (l.contains d = (l.drop (k + 1)).contains d) := by
          show _ = _
          rw [hr.out, HST.out, show (x == d) = false by simp; exact fun e => hx e.symm, Bool.false_or]
        have u1 : (0 : Nat) ≤ 1 := Nat.zero_le _
        clear hx
        go_wp2_with fail
        go_round
        case rel => exact ⟨k + 1, by omega, by go_num, HN⟩
        case measure => simp [intOf]; omega
    · obtain rfl : k = n := by omega
      have HT : Hid (l.contains d = false) := by
        show _ = _
        rw [hr.out, List.drop_of_length_le (by rw [HD.out.1]; exact Nat.le_refl _)]; rfl
      clear hlt
      go_wp2_with fail
      go_ret
      exact ⟨-1, rfl, ⟨by omega, by rw [HT.out]; rfl⟩, rfl⟩
set_option maxHeartbeats 4000000 in
theorem contains_any (A : Option Addr) (n c : Nat) (l : List Int) (d : Int) (w : World) (B : Nat) (hl : IntsAt w B A n l) :
    Calls Tryz.prog 43 #[.slice A n c, .int .i64 d] w fun e w' => e = .returned (.bool (l.contains d)) ∧ w = w' := by
  go_enter Tryz.func43, Tryz.ntmps43
  go_wp2_with fail
  refine (sliceIndex_any A n c l d _ B hl).mono ?_
  rintro e w1 ⟨i, rfl, ⟨h1, h2⟩, rfl⟩
  have H2 := Lib.hid h2
  clear h2
  by_cases c : 0 ≤ i
  · have H3 : Hid (l.contains d = true) := by show _ = _; rw [← H2.out]; exact decide_eq_true c
    go_wp2_with fail
    go_ret
    exact ⟨ret_bool H3.out.symm, rfl⟩
  · have H3 : Hid (l.contains d = false) := by show _ = _; rw [← H2.out]; exact decide_eq_false c
    have c' : i < 0 := by omega
    clear c
    go_wp2_with fail
    go_ret
    exact ⟨ret_bool (by first | exact H3.out.symm | exact H2.out), rfl⟩
set_option maxHeartbeats 4000000 in
theorem calHasDay_any (A : Option Addr) (n c : Nat) (l : List Int) (d : Int) (w : World) (B : Nat) (hl : IntsAt w B A n l) :
    Calls Tryz.prog 21 #[.slice A n c, .int .i64 d] w fun e w' => e = .returned (.bool (dayB l d)) ∧ w = w' := by
  have HD := Lib.hid hl
  have HB : Hid (dayB l d = (l.isEmpty || l.contains d)) := rfl
  clear hl
  by_cases hn : n = 0
  · have hn' : ((n : Int) == 0) = true := by simp [hn]
    have HE : Hid (l.isEmpty = true) := by
      have := HD.out.1
      show _ = _
      rw [List.isEmpty_iff, ← List.length_eq_zero_iff]; omega
    clear hn
    go_enter Tryz.func21, Tryz.ntmps21
    go_wp2_with fail
    go_ret
    exact ⟨ret_bool (by rw [HB.out, HE.out]; rfl), rfl⟩
  · have hn' : ((n : Int) == 0) = false := by simp; omega
    have HE : Hid (l.isEmpty = false) := by
      have := HD.out.1
      show _ = _
      rw [← Bool.not_eq_true, List.isEmpty_iff, ← List.length_eq_zero_iff]; omega
    have u1 : (0 : Nat) ≤ 1 := Nat.zero_le _
    clear hn
    go_enter Tryz.func21, Tryz.ntmps21
    go_wp2_with fail
    refine (contains_any A n c l d _ B HD.out).mono ?_
    rintro e w1 ⟨rfl, rfl⟩
    go_wp2_with fail
    go_ret
    exact ⟨ret_bool (by rw [HB.out, HE.out, Bool.false_or]; first | done | simp), rfl⟩
end Go.Proofs.YtncolcjejgmhjaaGreatDoor
