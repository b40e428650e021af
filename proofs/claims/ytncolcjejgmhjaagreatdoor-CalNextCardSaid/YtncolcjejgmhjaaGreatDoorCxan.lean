/- The walks of the developers' mayPart, mayDays, lists. -/
import Derived.Test.YtncolcjejgmhjaaGreatDoorCxaj
import Derived.Test.YtncolcjejgmhjaaGreatDoorCxam
namespace Go.Proofs.YtncolcjejgmhjaaGreatDoor
open Go.RowKit
set_option maxHeartbeats 2000000 in
theorem devPart_m0 (a b s : Int) (f : Nat) (h0 : s < 0) (w : World) :
    Calls Tryz.prog 29 #[.agg #[.int .i64 a, .int .i64 b, .int .i64 s], .agg #[.int .i64 (lo f), .int .i64 (hi f)]] w fun e w' => e = .returned (.bool false) ∧ Below w.heap.size w w' := by
  go_enter Tryz.func29, Tryz.ntmps29
  go_wp2_with fail
  all_goals first | (exfalso; omega) | (go_ret; exact ⟨rfl, ((Below.refl _ _).alloc (Nat.le_refl _) _).alloc (by simp) _⟩)
set_option maxHeartbeats 2000000 in
theorem devPart_m1 (a b s : Int) (f : Nat) (_h0 : 0 ≤ s) (h1 : 9999 < s) (w : World) :
    Calls Tryz.prog 29 #[.agg #[.int .i64 a, .int .i64 b, .int .i64 s], .agg #[.int .i64 (lo f), .int .i64 (hi f)]] w fun e w' => e = .returned (.bool false) ∧ Below w.heap.size w w' := by
  have u0 : (0 : Nat) ≤ 0 := Nat.zero_le _
  go_enter Tryz.func29, Tryz.ntmps29
  go_wp2_with fail
  all_goals first | (exfalso; omega) | (go_ret; exact ⟨rfl, ((Below.refl _ _).alloc (Nat.le_refl _) _).alloc (by simp) _⟩)
set_option maxHeartbeats 2000000 in
theorem devPart_m2 (a b s : Int) (f : Nat) (h0 : 0 ≤ s) (h1 : s ≤ 9999) (h2 : (a == -1) = true) (h3 : (b == -1) = true) (w : World) :
    Calls Tryz.prog 29 #[.agg #[.int .i64 a, .int .i64 b, .int .i64 s], .agg #[.int .i64 (lo f), .int .i64 (hi f)]] w fun e w' => e = .returned (.bool true) ∧ Below w.heap.size w w' := by
  have u0 : (0 : Nat) ≤ 0 := Nat.zero_le _
  have u1 : (0 : Nat) ≤ 1 := Nat.zero_le _
  go_enter Tryz.func29, Tryz.ntmps29
  go_wp2_with fail
  all_goals first | (exfalso; omega) | (go_ret; exact ⟨rfl, ((Below.refl _ _).alloc (Nat.le_refl _) _).alloc (by simp) _⟩)
set_option maxHeartbeats 2000000 in
theorem devPart_m3 (a b s : Int) (f : Nat) (h0 : 0 ≤ s) (h1 : s ≤ 9999) (h2 : (a == -1) = true) (h3 : (b == -1) = false) (h4 : decide (lo f ≤ a) = false) (w : World) :
    Calls Tryz.prog 29 #[.agg #[.int .i64 a, .int .i64 b, .int .i64 s], .agg #[.int .i64 (lo f), .int .i64 (hi f)]] w fun e w' => e = .returned (.bool false) ∧ Below w.heap.size w w' := by
  have u0 : (0 : Nat) ≤ 0 := Nat.zero_le _
  have u1 : (0 : Nat) ≤ 1 := Nat.zero_le _
  have u2 : (0 : Nat) ≤ 2 := Nat.zero_le _
  go_enter Tryz.func29, Tryz.ntmps29
  go_wp2_with fail
  all_goals first | (exfalso; omega) | (go_ret; exact ⟨rfl, ((Below.refl _ _).alloc (Nat.le_refl _) _).alloc (by simp) _⟩)
set_option maxHeartbeats 2000000 in
theorem devPart_m4 (a b s : Int) (f : Nat) (h0 : 0 ≤ s) (h1 : s ≤ 9999) (h2 : (a == -1) = false) (h4 : decide (lo f ≤ a) = false) (w : World) :
    Calls Tryz.prog 29 #[.agg #[.int .i64 a, .int .i64 b, .int .i64 s], .agg #[.int .i64 (lo f), .int .i64 (hi f)]] w fun e w' => e = .returned (.bool false) ∧ Below w.heap.size w w' := by
  have u0 : (0 : Nat) ≤ 0 := Nat.zero_le _
  have u1 : (0 : Nat) ≤ 1 := Nat.zero_le _
  have u2 : (0 : Nat) ≤ 2 := Nat.zero_le _
  have u3 : (0 : Nat) ≤ 3 := Nat.zero_le _
  go_enter Tryz.func29, Tryz.ntmps29
  go_wp2_with fail
  all_goals first | (exfalso; omega) | (go_ret; exact ⟨rfl, ((Below.refl _ _).alloc (Nat.le_refl _) _).alloc (by simp) _⟩)
set_option maxHeartbeats 2000000 in
theorem devPart_m5 (a b s : Int) (f : Nat) (h0 : 0 ≤ s) (h1 : s ≤ 9999) (h2 : (a == -1) = false) (h4 : lo f ≤ a) (h5 : decide (a ≤ hi f) = false) (w : World) :
    Calls Tryz.prog 29 #[.agg #[.int .i64 a, .int .i64 b, .int .i64 s], .agg #[.int .i64 (lo f), .int .i64 (hi f)]] w fun e w' => e = .returned (.bool false) ∧ Below w.heap.size w w' := by
  have u0 : (0 : Nat) ≤ 0 := Nat.zero_le _
  have u1 : (0 : Nat) ≤ 1 := Nat.zero_le _
  have u2 : (0 : Nat) ≤ 2 := Nat.zero_le _
  have u3 : (0 : Nat) ≤ 3 := Nat.zero_le _
  have u4 : (0 : Nat) ≤ 4 := Nat.zero_le _
  go_enter Tryz.func29, Tryz.ntmps29
  go_wp2_with fail
  all_goals first | (exfalso; omega) | (go_ret; exact ⟨rfl, ((Below.refl _ _).alloc (Nat.le_refl _) _).alloc (by simp) _⟩)
set_option maxHeartbeats 2000000 in
theorem devPart_m6 (a b s : Int) (f : Nat) (h0 : 0 ≤ s) (h1 : s ≤ 9999) (h2 : (a == -1) = false) (h4 : lo f ≤ a) (h5 : a ≤ hi f) (h3 : (b == -1) = true) (w : World) :
    Calls Tryz.prog 29 #[.agg #[.int .i64 a, .int .i64 b, .int .i64 s], .agg #[.int .i64 (lo f), .int .i64 (hi f)]] w fun e w' => e = .returned (.bool true) ∧ Below w.heap.size w w' := by
  have u0 : (0 : Nat) ≤ 0 := Nat.zero_le _
  have u1 : (0 : Nat) ≤ 1 := Nat.zero_le _
  have u2 : (0 : Nat) ≤ 2 := Nat.zero_le _
  have u3 : (0 : Nat) ≤ 3 := Nat.zero_le _
  have u4 : (0 : Nat) ≤ 4 := Nat.zero_le _
  have u5 : (0 : Nat) ≤ 5 := Nat.zero_le _
  go_enter Tryz.func29, Tryz.ntmps29
  go_wp2_with fail
  all_goals first | (exfalso; omega) | (go_ret; exact ⟨rfl, ((Below.refl _ _).alloc (Nat.le_refl _) _).alloc (by simp) _⟩)
set_option maxHeartbeats 2000000 in
theorem devPart_m7 (a b s : Int) (f : Nat) (h0 : 0 ≤ s) (h1 : s ≤ 9999) (h2 : (a == -1) = false) (h4 : lo f ≤ a) (h5 : a ≤ hi f) (h3 : (b == -1) = false) (h6 : decide (a ≤ b) = false) (w : World) :
    Calls Tryz.prog 29 #[.agg #[.int .i64 a, .int .i64 b, .int .i64 s], .agg #[.int .i64 (lo f), .int .i64 (hi f)]] w fun e w' => e = .returned (.bool false) ∧ Below w.heap.size w w' := by
  have u0 : (0 : Nat) ≤ 0 := Nat.zero_le _
  have u1 : (0 : Nat) ≤ 1 := Nat.zero_le _
  have u2 : (0 : Nat) ≤ 2 := Nat.zero_le _
  have u3 : (0 : Nat) ≤ 3 := Nat.zero_le _
  have u4 : (0 : Nat) ≤ 4 := Nat.zero_le _
  have u5 : (0 : Nat) ≤ 5 := Nat.zero_le _
  have u6 : (0 : Nat) ≤ 6 := Nat.zero_le _
  go_enter Tryz.func29, Tryz.ntmps29
  go_wp2_with fail
  all_goals first | (exfalso; omega) | (go_ret; exact ⟨rfl, ((Below.refl _ _).alloc (Nat.le_refl _) _).alloc (by simp) _⟩)
set_option maxHeartbeats 2000000 in
theorem devPart_m8 (a b s : Int) (f : Nat) (h0 : 0 ≤ s) (h1 : s ≤ 9999) (h2 : (a == -1) = false) (h4 : lo f ≤ a) (h5 : a ≤ hi f) (h3 : (b == -1) = false) (h6 : a ≤ b) (h7 : decide (b ≤ hi f) = false) (w : World) :
    Calls Tryz.prog 29 #[.agg #[.int .i64 a, .int .i64 b, .int .i64 s], .agg #[.int .i64 (lo f), .int .i64 (hi f)]] w fun e w' => e = .returned (.bool false) ∧ Below w.heap.size w w' := by
  have u0 : (0 : Nat) ≤ 0 := Nat.zero_le _
  have u1 : (0 : Nat) ≤ 1 := Nat.zero_le _
  have u2 : (0 : Nat) ≤ 2 := Nat.zero_le _
  have u3 : (0 : Nat) ≤ 3 := Nat.zero_le _
  have u4 : (0 : Nat) ≤ 4 := Nat.zero_le _
  have u5 : (0 : Nat) ≤ 5 := Nat.zero_le _
  have u6 : (0 : Nat) ≤ 6 := Nat.zero_le _
  have u7 : (0 : Nat) ≤ 7 := Nat.zero_le _
  go_enter Tryz.func29, Tryz.ntmps29
  go_wp2_with fail
  all_goals first | (exfalso; omega) | (go_ret; exact ⟨rfl, ((Below.refl _ _).alloc (Nat.le_refl _) _).alloc (by simp) _⟩)
set_option maxHeartbeats 2000000 in
theorem devPart_m9 (a b s : Int) (f : Nat) (h0 : 0 ≤ s) (h1 : s ≤ 9999) (h2 : (a == -1) = false) (h4 : lo f ≤ a) (h5 : a ≤ hi f) (h3 : (b == -1) = false) (h6 : a ≤ b) (h7 : b ≤ hi f) (w : World) :
    Calls Tryz.prog 29 #[.agg #[.int .i64 a, .int .i64 b, .int .i64 s], .agg #[.int .i64 (lo f), .int .i64 (hi f)]] w fun e w' => e = .returned (.bool true) ∧ Below w.heap.size w w' := by
  have u0 : (0 : Nat) ≤ 0 := Nat.zero_le _
  have u1 : (0 : Nat) ≤ 1 := Nat.zero_le _
  have u2 : (0 : Nat) ≤ 2 := Nat.zero_le _
  have u3 : (0 : Nat) ≤ 3 := Nat.zero_le _
  have u4 : (0 : Nat) ≤ 4 := Nat.zero_le _
  have u5 : (0 : Nat) ≤ 5 := Nat.zero_le _
  have u6 : (0 : Nat) ≤ 6 := Nat.zero_le _
  have u7 : (0 : Nat) ≤ 7 := Nat.zero_le _
  have u8 : (0 : Nat) ≤ 8 := Nat.zero_le _
  go_enter Tryz.func29, Tryz.ntmps29
  go_wp2_with fail
  all_goals first | (exfalso; omega) | (go_ret; exact ⟨rfl, ((Below.refl _ _).alloc (Nat.le_refl _) _).alloc (by simp) _⟩)
theorem devPart_any (p : Pt) (f : Nat) (w : World) :
    Calls Tryz.prog 29 #[.agg #[.int .i64 p.a, .int .i64 p.b, .int .i64 p.s], .agg #[.int .i64 (lo f), .int .i64 (hi f)]] w fun e w' => e = .returned (.bool (mayP f p)) ∧ Below w.heap.size w w' := by
  obtain ⟨a, b, s⟩ := p
  dsimp only
  have hl := lo_bd f
  have no : ¬ (0 ≤ s ∧ s ≤ 9999 ∧ (a = -1 ∧ b = -1 ∨ lo f ≤ a ∧ a ≤ hi f ∧ (b = -1 ∨ a ≤ b ∧ b ≤ hi f))) → mayP f ⟨a, b, s⟩ = false := fun h => by unfold mayP; exact decide_eq_false h
  have yes : (0 ≤ s ∧ s ≤ 9999 ∧ (a = -1 ∧ b = -1 ∨ lo f ≤ a ∧ a ≤ hi f ∧ (b = -1 ∨ a ≤ b ∧ b ≤ hi f))) → mayP f ⟨a, b, s⟩ = true := fun h => by unfold mayP; exact decide_eq_true h
  by_cases c0 : s < 0
  · rw [no (by omega)]; exact devPart_m0 a b s f c0 w
  by_cases c1 : 9999 < s
  · rw [no (by omega)]; exact devPart_m1 a b s f (by omega) c1 w
  by_cases c2 : a = -1
  · by_cases c3 : b = -1
    · rw [yes (by omega)]; exact devPart_m2 a b s f (by omega) (by omega) (by simp [c2]) (by simp [c3]) w
    · rw [no (by omega)]; exact devPart_m3 a b s f (by omega) (by omega) (by simp [c2]) (by simpa using c3) (decide_eq_false (by omega)) w
  by_cases c4 : a < lo f
  · rw [no (by omega)]; exact devPart_m4 a b s f (by omega) (by omega) (by simpa using c2) (decide_eq_false (by omega)) w
  by_cases c5 : hi f < a
  · rw [no (by omega)]; exact devPart_m5 a b s f (by omega) (by omega) (by simpa using c2) (by omega) (decide_eq_false (by omega)) w
  by_cases c3 : b = -1
  · rw [yes (by omega)]; exact devPart_m6 a b s f (by omega) (by omega) (by simpa using c2) (by omega) (by omega) (by simp [c3]) w
  by_cases c6 : b < a
  · rw [no (by omega)]; exact devPart_m7 a b s f (by omega) (by omega) (by simpa using c2) (by omega) (by omega) (by simpa using c3) (decide_eq_false (by omega)) w
  by_cases c7 : hi f < b
  · rw [no (by omega)]; exact devPart_m8 a b s f (by omega) (by omega) (by simpa using c2) (by omega) (by omega) (by simpa using c3) (by omega) (decide_eq_false (by omega)) w
  · rw [yes (by omega)]; exact devPart_m9 a b s f (by omega) (by omega) (by simpa using c2) (by omega) (by omega) (by simpa using c3) (by omega) (by omega) w
end Go.Proofs.YtncolcjejgmhjaaGreatDoor
