/- The library's cuts on plain lists; the walks of the developers' dayOf, fullForm. The walks of the developers' mayPart, m -/
import Derived.Test.YtadifolonbkamaaGreatDoorKvav
import Derived.Lib.CutLaws
import Derived.Test.YtadifolonbkamaaGreatDoorKvau
namespace Go.Proofs.YtadifolonbkamaaGreatDoor.Ca
open Go.RowKit
theorem cut_cut1 (c : UInt8) (l : List UInt8) : Lib.cut l [c] = cut1 c l := by
  induction l with
  | nil => rfl
  | cons x l ih =>
    have hge := Lib.index_ge l [c]
    have hp : ([c].isPrefixOf (x :: l)) = decide (x = c) := by
      rw [Bool.eq_iff_iff]; simp [List.isPrefixOf]; exact eq_comm
    rw [cut1]
    unfold Lib.cut at ih ⊢
    have e : Lib.index (x :: l) [c] = if x = c then 0 else if Lib.index l [c] = -1 then -1 else Lib.index l [c] + 1 := by
      rw [Lib.index, hp]
      by_cases h : x = c <;> simp [h]
    by_cases hx : x = c
    · rw [e, if_pos hx, if_pos hx]; rfl
    · rw [e, if_neg hx, if_neg hx, ← ih]
      by_cases h1 : Lib.index l [c] = -1
      · rw [if_pos h1, if_neg (by omega), if_neg (by omega)]
      · rw [if_neg h1, if_pos (by omega), if_pos (by omega)]
        have e2 : (Lib.index l [c] + 1).toNat = (Lib.index l [c]).toNat + 1 := by omega
        rw [e2]; rfl
theorem cut_dots (l : List UInt8) : Lib.cut l [46, 46] = match cutDots l with
    | some z => (z.1, z.2, true)
    | none => (l, [], false) := by
  induction l with
  | nil => rfl
  | cons x l ih =>
    have hge := Lib.index_ge l [46, 46]
    have hp : ([46, 46].isPrefixOf (x :: l)) = decide (x = 46 ∧ l.head? = some 46) := by
      rw [Bool.eq_iff_iff]
      cases l with
      | nil => simp [List.isPrefixOf]
      | cons y r => simp [List.isPrefixOf]; constructor <;> rintro ⟨a, b⟩ <;> exact ⟨a.symm, b.symm⟩
    rw [cutDots]
    unfold Lib.cut at ih ⊢
    have e : Lib.index (x :: l) [46, 46] = if (x = 46 ∧ l.head? = some 46) then 0 else if Lib.index l [46, 46] = -1 then -1 else Lib.index l [46, 46] + 1 := by
      rw [Lib.index, hp]
      by_cases h : x = 46 ∧ l.head? = some 46 <;> simp [h]
    by_cases hx : x = 46 ∧ l.head? = some 46
    · rw [e, if_pos hx, if_pos hx]
      simp only
      rw [if_pos (by omega)]
      cases l with
      | nil => simp at hx
      | cons y r => rfl
    · rw [e, if_neg hx, if_neg hx]
      by_cases h1 : Lib.index l [46, 46] = -1
      · rw [if_pos h1, if_neg (by omega)]
        rw [if_neg (by omega)] at ih
        cases hc : cutDots l with
        | none => rfl
        | some z => rw [hc] at ih; simp at ih
      · rw [if_neg h1, if_pos (by omega)]
        rw [if_pos (by omega)] at ih
        have e2 : (Lib.index l [46, 46] + 1).toNat = (Lib.index l [46, 46]).toNat + 1 := by omega
        cases hc : cutDots l with
        | none => rw [hc] at ih; simp at ih
        | some z =>
          rw [hc] at ih
          simp only [Prod.mk.injEq, and_true] at ih
          simp only [Option.map_some]
          rw [← ih.1, ← ih.2, e2]
          rfl
theorem has_byte (l : List UInt8) (c : UInt8) : decide (0 ≤ Lib.indexByte l c) = decide (c ∈ l) := by
  rw [Bool.eq_iff_iff, decide_eq_true_iff, decide_eq_true_iff]
  induction l with
  | nil => simp [Lib.indexByte]
  | cons x l ih =>
    have hge := Lib.indexByte_ge l c
    rw [Lib.indexByte]
    by_cases hx : x = c
    · subst hx; simp
    · have hx' : (x == c) = false := by simpa using hx
      rw [hx']
      simp only [Bool.false_eq_true, if_false, List.mem_cons]
      by_cases h1 : Lib.indexByte l c = -1
      · rw [if_pos (by simp [h1])]
        have : c ∉ l := fun h => by have := ih.2 h; omega
        constructor
        · intro h; omega
        · rintro (h | h)
          · exact absurd h.symm hx
          · exact absurd h this
      · rw [if_neg (by simp [h1])]
        constructor
        · intro _; exact .inr (ih.1 (by omega))
        · rintro (h | h)
          · exact absurd h.symm hx
          · have := ih.2 h; omega
theorem dayN_hit {l : List UInt8} {k : Nat} (hk : k < 7) (h : l = dayL ((k : Int) + 1)) : dayN l = (k : Int) + 1 := by
  have : k = 0 ∨ k = 1 ∨ k = 2 ∨ k = 3 ∨ k = 4 ∨ k = 5 ∨ k = 6 := by omega
  subst h
  rcases this with rfl | rfl | rfl | rfl | rfl | rfl | rfl <;> decide
theorem dayN_none {l : List UInt8} (h : ∀ k : Nat, k < 7 → l ≠ dayL ((k : Int) + 1)) : dayN l = 0 := by
  rcases dayN_spec l with h0 | ⟨h0, h1, h2⟩
  · exact h0
  · exfalso
    refine h (dayN l - 1).toNat (by omega) ?_
    rw [show (((dayN l - 1).toNat : Nat) : Int) + 1 = dayN l by omega]; exact h2
theorem run_index_day (k : Nat) (hk : k < 7) (w : World) : (Instr.index 173 (.agg daysCells) (.int .i64 (k : Int))).run Tryz.prog w = .ok (.string (str (dayL ((k : Int) + 1)))) w := by
  have : k = 0 ∨ k = 1 ∨ k = 2 ∨ k = 3 ∨ k = 4 ∨ k = 5 ∨ k = 6 := by omega
  rcases this with rfl | rfl | rfl | rfl | rfl | rfl | rfl <;>
  simp [Instr.index, run_underlying Tryz.underlying173, asIntOf, part, isAgg, run_underlying Tryz.underlying9, daysCells] <;> rfl
set_option maxHeartbeats 4000000 in
theorem dayOf_any (s : ByteArray) (w : World) (ht : Tabs w) :
    Calls Tryz.prog 128 #[.string s] w fun e w' => e = .returned (.int .i64 (dayN s.data.toList)) ∧ w = w' := by
  have HC : Hid (∀ i, w.cell? ⟨3, i, none⟩ = daysCells[i]?) := fun i => World.var?_cell days_glob ht.days i
  have c0 : w.cell? ⟨3, 0, none⟩ = some (.string ⟨#[77, 111, 110]⟩) := HC.out 0
  have c1 : w.cell? ⟨3, 1, none⟩ = some (.string ⟨#[84, 117, 101]⟩) := HC.out 1
  have c2 : w.cell? ⟨3, 2, none⟩ = some (.string ⟨#[87, 101, 100]⟩) := HC.out 2
  have c3 : w.cell? ⟨3, 3, none⟩ = some (.string ⟨#[84, 104, 117]⟩) := HC.out 3
  have c4 : w.cell? ⟨3, 4, none⟩ = some (.string ⟨#[70, 114, 105]⟩) := HC.out 4
  have c5 : w.cell? ⟨3, 5, none⟩ = some (.string ⟨#[83, 97, 116]⟩) := HC.out 5
  have c6 : w.cell? ⟨3, 6, none⟩ = some (.string ⟨#[83, 117, 110]⟩) := HC.out 6
  have HIx := Lib.hid run_index_day
  unfold daysCells at HIx
  clear ht
  go_enter Tryz.func128, Tryz.ntmps128
  go_wp2_with fail
  go_loop [3, 4, 6] (fun _ _ i => ∃ k : Nat, k ≤ 7 ∧ i = .int .i64 k ∧ Hid (∀ j : Nat, j < k → s.data.toList ≠ dayL ((j : Int) + 1))) (fun _ _ i => 7 - (intOf i).toNat)
  case atStart => exact ⟨0, by omega, rfl, fun j hj => absurd hj (by omega)⟩
  case round =>
    obtain ⟨k, hk, rfl, hno⟩ := hrel
    by_cases hlt : k < 7
    · have hix := HIx.out k hlt
      by_cases he : s.data.toList = dayL ((k : Int) + 1)
      · have HN := Lib.hid (dayN_hit hlt he)
        have e : (s.toList == (str (dayL ((k : Int) + 1))).toList) = true := by rw [beq_str]; exact decide_eq_true (eq_str.2 he)
        clear he
        go_wp2_with fail
        go_ret
        exact ⟨ret_int HN.out.symm, rfl⟩
      · have e : (s.toList == (str (dayL ((k : Int) + 1))).toList) = false := by rw [beq_str]; exact decide_eq_false fun h => he (eq_str.1 h)
        have HN : Hid (∀ j : Nat, j < k + 1 → s.data.toList ≠ dayL ((j : Int) + 1)) := fun j hj => by
          by_cases hjk : j = k
          · rw [hjk]; exact he
          · exact hno.out j (by omega)
        have u1 : (0 : Nat) ≤ 1 := Nat.zero_le _
        clear he
        go_wp2_with fail
        go_round
        case rel => exact ⟨k + 1, by omega, by go_num, HN⟩
        case measure => simp [intOf]; omega
    · obtain rfl : k = 7 := by omega
      have HN := Lib.hid (dayN_none hno.out)
      clear hk hlt
      go_wp2_with fail
      go_ret
      exact ⟨ret_int HN.out.symm, rfl⟩
end Go.Proofs.YtadifolonbkamaaGreatDoor.Ca
namespace Go.Proofs.YtadifolonbkamaaGreatDoor.Ca
open Go.RowKit
set_option maxHeartbeats 2000000 in
theorem devPart_m0 (a b s : Int) (f : Nat) (h0 : s < 0) (w : World) :
    Calls Tryz.prog 104 #[.agg #[.int .i64 a, .int .i64 b, .int .i64 s], .agg #[.int .i64 (lo f), .int .i64 (hi f)]] w fun e w' => e = .returned (.bool false) ∧ Below w.heap.size w w' := by
  go_enter Tryz.func104, Tryz.ntmps104
  go_wp2_with fail
  all_goals first | (exfalso; omega) | (go_ret; exact ⟨rfl, ((Below.refl _ _).alloc (Nat.le_refl _) _).alloc (by simp) _⟩)
set_option maxHeartbeats 2000000 in
theorem devPart_m1 (a b s : Int) (f : Nat) (_h0 : 0 ≤ s) (h1 : 9999 < s) (w : World) :
    Calls Tryz.prog 104 #[.agg #[.int .i64 a, .int .i64 b, .int .i64 s], .agg #[.int .i64 (lo f), .int .i64 (hi f)]] w fun e w' => e = .returned (.bool false) ∧ Below w.heap.size w w' := by
  have u0 : (0 : Nat) ≤ 0 := Nat.zero_le _
  go_enter Tryz.func104, Tryz.ntmps104
  go_wp2_with fail
  all_goals first | (exfalso; omega) | (go_ret; exact ⟨rfl, ((Below.refl _ _).alloc (Nat.le_refl _) _).alloc (by simp) _⟩)
set_option maxHeartbeats 2000000 in
theorem devPart_m2 (a b s : Int) (f : Nat) (h0 : 0 ≤ s) (h1 : s ≤ 9999) (h2 : (a == -1) = true) (h3 : (b == -1) = true) (w : World) :
    Calls Tryz.prog 104 #[.agg #[.int .i64 a, .int .i64 b, .int .i64 s], .agg #[.int .i64 (lo f), .int .i64 (hi f)]] w fun e w' => e = .returned (.bool true) ∧ Below w.heap.size w w' := by
  have u0 : (0 : Nat) ≤ 0 := Nat.zero_le _
  have u1 : (0 : Nat) ≤ 1 := Nat.zero_le _
  go_enter Tryz.func104, Tryz.ntmps104
  go_wp2_with fail
  all_goals first | (exfalso; omega) | (go_ret; exact ⟨rfl, ((Below.refl _ _).alloc (Nat.le_refl _) _).alloc (by simp) _⟩)
set_option maxHeartbeats 2000000 in
theorem devPart_m3 (a b s : Int) (f : Nat) (h0 : 0 ≤ s) (h1 : s ≤ 9999) (h2 : (a == -1) = true) (h3 : (b == -1) = false) (h4 : decide (lo f ≤ a) = false) (w : World) :
    Calls Tryz.prog 104 #[.agg #[.int .i64 a, .int .i64 b, .int .i64 s], .agg #[.int .i64 (lo f), .int .i64 (hi f)]] w fun e w' => e = .returned (.bool false) ∧ Below w.heap.size w w' := by
  have u0 : (0 : Nat) ≤ 0 := Nat.zero_le _
  have u1 : (0 : Nat) ≤ 1 := Nat.zero_le _
  have u2 : (0 : Nat) ≤ 2 := Nat.zero_le _
  go_enter Tryz.func104, Tryz.ntmps104
  go_wp2_with fail
  all_goals first | (exfalso; omega) | (go_ret; exact ⟨rfl, ((Below.refl _ _).alloc (Nat.le_refl _) _).alloc (by simp) _⟩)
set_option maxHeartbeats 2000000 in
theorem devPart_m4 (a b s : Int) (f : Nat) (h0 : 0 ≤ s) (h1 : s ≤ 9999) (h2 : (a == -1) = false) (h4 : decide (lo f ≤ a) = false) (w : World) :
    Calls Tryz.prog 104 #[.agg #[.int .i64 a, .int .i64 b, .int .i64 s], .agg #[.int .i64 (lo f), .int .i64 (hi f)]] w fun e w' => e = .returned (.bool false) ∧ Below w.heap.size w w' := by
  have u0 : (0 : Nat) ≤ 0 := Nat.zero_le _
  have u1 : (0 : Nat) ≤ 1 := Nat.zero_le _
  have u2 : (0 : Nat) ≤ 2 := Nat.zero_le _
  have u3 : (0 : Nat) ≤ 3 := Nat.zero_le _
  go_enter Tryz.func104, Tryz.ntmps104
  go_wp2_with fail
  all_goals first | (exfalso; omega) | (go_ret; exact ⟨rfl, ((Below.refl _ _).alloc (Nat.le_refl _) _).alloc (by simp) _⟩)
set_option maxHeartbeats 2000000 in
theorem devPart_m5 (a b s : Int) (f : Nat) (h0 : 0 ≤ s) (h1 : s ≤ 9999) (h2 : (a == -1) = false) (h4 : lo f ≤ a) (h5 : decide (a ≤ hi f) = false) (w : World) :
    Calls Tryz.prog 104 #[.agg #[.int .i64 a, .int .i64 b, .int .i64 s], .agg #[.int .i64 (lo f), .int .i64 (hi f)]] w fun e w' => e = .returned (.bool false) ∧ Below w.heap.size w w' := by
  have u0 : (0 : Nat) ≤ 0 := Nat.zero_le _
  have u1 : (0 : Nat) ≤ 1 := Nat.zero_le _
  have u2 : (0 : Nat) ≤ 2 := Nat.zero_le _
  have u3 : (0 : Nat) ≤ 3 := Nat.zero_le _
  have u4 : (0 : Nat) ≤ 4 := Nat.zero_le _
  go_enter Tryz.func104, Tryz.ntmps104
  go_wp2_with fail
  all_goals first | (exfalso; omega) | (go_ret; exact ⟨rfl, ((Below.refl _ _).alloc (Nat.le_refl _) _).alloc (by simp) _⟩)
set_option maxHeartbeats 2000000 in
theorem devPart_m6 (a b s : Int) (f : Nat) (h0 : 0 ≤ s) (h1 : s ≤ 9999) (h2 : (a == -1) = false) (h4 : lo f ≤ a) (h5 : a ≤ hi f) (h3 : (b == -1) = true) (w : World) :
    Calls Tryz.prog 104 #[.agg #[.int .i64 a, .int .i64 b, .int .i64 s], .agg #[.int .i64 (lo f), .int .i64 (hi f)]] w fun e w' => e = .returned (.bool true) ∧ Below w.heap.size w w' := by
  have u0 : (0 : Nat) ≤ 0 := Nat.zero_le _
  have u1 : (0 : Nat) ≤ 1 := Nat.zero_le _
  have u2 : (0 : Nat) ≤ 2 := Nat.zero_le _
  have u3 : (0 : Nat) ≤ 3 := Nat.zero_le _
  have u4 : (0 : Nat) ≤ 4 := Nat.zero_le _
  have u5 : (0 : Nat) ≤ 5 := Nat.zero_le _
  go_enter Tryz.func104, Tryz.ntmps104
  go_wp2_with fail
  all_goals first | (exfalso; omega) | (go_ret; exact ⟨rfl, ((Below.refl _ _).alloc (Nat.le_refl _) _).alloc (by simp) _⟩)
set_option maxHeartbeats 2000000 in
theorem devPart_m7 (a b s : Int) (f : Nat) (h0 : 0 ≤ s) (h1 : s ≤ 9999) (h2 : (a == -1) = false) (h4 : lo f ≤ a) (h5 : a ≤ hi f) (h3 : (b == -1) = false) (h6 : decide (a ≤ b) = false) (w : World) :
    Calls Tryz.prog 104 #[.agg #[.int .i64 a, .int .i64 b, .int .i64 s], .agg #[.int .i64 (lo f), .int .i64 (hi f)]] w fun e w' => e = .returned (.bool false) ∧ Below w.heap.size w w' := by
  have u0 : (0 : Nat) ≤ 0 := Nat.zero_le _
  have u1 : (0 : Nat) ≤ 1 := Nat.zero_le _
  have u2 : (0 : Nat) ≤ 2 := Nat.zero_le _
  have u3 : (0 : Nat) ≤ 3 := Nat.zero_le _
  have u4 : (0 : Nat) ≤ 4 := Nat.zero_le _
  have u5 : (0 : Nat) ≤ 5 := Nat.zero_le _
  have u6 : (0 : Nat) ≤ 6 := Nat.zero_le _
  go_enter Tryz.func104, Tryz.ntmps104
  go_wp2_with fail
  all_goals first | (exfalso; omega) | (go_ret; exact ⟨rfl, ((Below.refl _ _).alloc (Nat.le_refl _) _).alloc (by simp) _⟩)
set_option maxHeartbeats 2000000 in
theorem devPart_m8 (a b s : Int) (f : Nat) (h0 : 0 ≤ s) (h1 : s ≤ 9999) (h2 : (a == -1) = false) (h4 : lo f ≤ a) (h5 : a ≤ hi f) (h3 : (b == -1) = false) (h6 : a ≤ b) (h7 : decide (b ≤ hi f) = false) (w : World) :
    Calls Tryz.prog 104 #[.agg #[.int .i64 a, .int .i64 b, .int .i64 s], .agg #[.int .i64 (lo f), .int .i64 (hi f)]] w fun e w' => e = .returned (.bool false) ∧ Below w.heap.size w w' := by
  have u0 : (0 : Nat) ≤ 0 := Nat.zero_le _
  have u1 : (0 : Nat) ≤ 1 := Nat.zero_le _
  have u2 : (0 : Nat) ≤ 2 := Nat.zero_le _
  have u3 : (0 : Nat) ≤ 3 := Nat.zero_le _
  have u4 : (0 : Nat) ≤ 4 := Nat.zero_le _
  have u5 : (0 : Nat) ≤ 5 := Nat.zero_le _
  have u6 : (0 : Nat) ≤ 6 := Nat.zero_le _
  have u7 : (0 : Nat) ≤ 7 := Nat.zero_le _
  go_enter Tryz.func104, Tryz.ntmps104
  go_wp2_with fail
  all_goals first | (exfalso; omega) | (go_ret; exact ⟨rfl, ((Below.refl _ _).alloc (Nat.le_refl _) _).alloc (by simp) _⟩)
set_option maxHeartbeats 2000000 in
theorem devPart_m9 (a b s : Int) (f : Nat) (h0 : 0 ≤ s) (h1 : s ≤ 9999) (h2 : (a == -1) = false) (h4 : lo f ≤ a) (h5 : a ≤ hi f) (h3 : (b == -1) = false) (h6 : a ≤ b) (h7 : b ≤ hi f) (w : World) :
    Calls Tryz.prog 104 #[.agg #[.int .i64 a, .int .i64 b, .int .i64 s], .agg #[.int .i64 (lo f), .int .i64 (hi f)]] w fun e w' => e = .returned (.bool true) ∧ Below w.heap.size w w' := by
  have u0 : (0 : Nat) ≤ 0 := Nat.zero_le _
  have u1 : (0 : Nat) ≤ 1 := Nat.zero_le _
  have u2 : (0 : Nat) ≤ 2 := Nat.zero_le _
  have u3 : (0 : Nat) ≤ 3 := Nat.zero_le _
  have u4 : (0 : Nat) ≤ 4 := Nat.zero_le _
  have u5 : (0 : Nat) ≤ 5 := Nat.zero_le _
  have u6 : (0 : Nat) ≤ 6 := Nat.zero_le _
  have u7 : (0 : Nat) ≤ 7 := Nat.zero_le _
  have u8 : (0 : Nat) ≤ 8 := Nat.zero_le _
  go_enter Tryz.func104, Tryz.ntmps104
  go_wp2_with fail
  all_goals first | (exfalso; omega) | (go_ret; exact ⟨rfl, ((Below.refl _ _).alloc (Nat.le_refl _) _).alloc (by simp) _⟩)
theorem devPart_any (p : Pt) (f : Nat) (w : World) :
    Calls Tryz.prog 104 #[.agg #[.int .i64 p.a, .int .i64 p.b, .int .i64 p.s], .agg #[.int .i64 (lo f), .int .i64 (hi f)]] w fun e w' => e = .returned (.bool (mayP f p)) ∧ Below w.heap.size w w' := by
  obtain ⟨a, b, s⟩ := p
  dsimp only
  have hl := lo_bd f
  have no : ¬ (0 ≤ s ∧ s ≤ 9999 ∧ (a = -1 ∧ b = -1 ∨ lo f ≤ a ∧ a ≤ hi f ∧ (b = -1 ∨ a ≤ b ∧ b ≤ hi f))) → mayP f ⟨a, b, s⟩ = false := fun h => by unfold mayP; exact decide_eq_false h
  have yes : (0 ≤ s ∧ s ≤ 9999 ∧ (a = -1 ∧ b = -1 ∨ lo f ≤ a ∧ a ≤ hi f ∧ (b = -1 ∨ a ≤ b ∧ b ≤ hi f))) → mayP f ⟨a, b, s⟩ = true := fun h => by unfold mayP; exact decide_eq_true h
  by_cases c0 : s < 0
  · rw [no (by omega)]; exact devPart_m0 a b s f c0 w
  by_cases c1 : 9999 < s
  · rw [no (by omega)]; exact devPart_m1 a b s f (by omega) c1 w
  by_cases c2 : a = -1
  · by_cases c3 : b = -1
    · rw [yes (by omega)]; exact devPart_m2 a b s f (by omega) (by omega) (by simp [c2]) (by simp [c3]) w
    · rw [no (by omega)]; exact devPart_m3 a b s f (by omega) (by omega) (by simp [c2]) (by simpa using c3) (decide_eq_false (by omega)) w
  by_cases c4 : a < lo f
  · rw [no (by omega)]; exact devPart_m4 a b s f (by omega) (by omega) (by simpa using c2) (decide_eq_false (by omega)) w
  by_cases c5 : hi f < a
  · rw [no (by omega)]; exact devPart_m5 a b s f (by omega) (by omega) (by simpa using c2) (by omega) (decide_eq_false (by omega)) w
  by_cases c3 : b = -1
  · rw [yes (by omega)]; exact devPart_m6 a b s f (by omega) (by omega) (by simpa using c2) (by omega) (by omega) (by simp [c3]) w
  by_cases c6 : b < a
  · rw [no (by omega)]; exact devPart_m7 a b s f (by omega) (by omega) (by simpa using c2) (by omega) (by omega) (by simpa using c3) (decide_eq_false (by omega)) w
  by_cases c7 : hi f < b
  · rw [no (by omega)]; exact devPart_m8 a b s f (by omega) (by omega) (by simpa using c2) (by omega) (by omega) (by simpa using c3) (by omega) (decide_eq_false (by omega)) w
  · rw [yes (by omega)]; exact devPart_m9 a b s f (by omega) (by omega) (by simpa using c2) (by omega) (by omega) (by simpa using c3) (by omega) (by omega) w
end Go.Proofs.YtadifolonbkamaaGreatDoor.Ca
namespace Go.Proofs.YtadifolonbkamaaGreatDoor.Ca
open Go.RowKit
set_option maxHeartbeats 4000000 in
theorem mayDays_any (A : Option Addr) (n c : Nat) (ds : List Int) (w : World) (hd : IntsAt w w.heap.size A n ds) :
    Calls Tryz.prog 105 #[.slice A n c] w fun e w' => e = .returned (.bool (risesB 0 ds)) ∧ w = w' := by
  have HD := Lib.hid hd
  clear hd
  have hn := HD.out.2.1
  unfold maxLen at hn
  go_enter Tryz.func105, Tryz.ntmps105
  go_wp2_with fail
  go_loop [3, 5, 8] (fun x _ i => ∃ (k : Nat) (z : Int), k ≤ n ∧ i = .int .i64 k ∧ x = .int .i64 z ∧ Hid (risesB 0 ds = risesB z (ds.drop k))) (fun _ _ i => n - (intOf i).toNat)
  case atStart => exact ⟨0, 0, Nat.zero_le _, rfl, rfl, by show risesB 0 ds = _; rw [List.drop_zero]⟩
  case round =>
    obtain ⟨k, z, hk, rfl, rfl, hr⟩ := hrel
    by_cases hlt : k < n
    · obtain ⟨ad, rfl, hbl, hcell⟩ := HD.out.at_ hlt
      have hdr := drop_cons (l := ds) (k := k) (by rw [HD.out.1]; exact hlt)
      generalize ds.getD k 0 = d at hdr hcell
      have HR : Hid (risesB 0 ds = risesB z (d :: ds.drop (k + 1))) := by rw [← hdr]; exact hr
      clear hdr
      have hln : (n : Int) ≤ 9223372036854775807 := by omega
      by_cases h1 : d ≤ z
      · have HF := Lib.hid (rises_no (r := ds.drop (k + 1)) (.inl h1))
        go_wp2_with fail
        go_ret
        exact ⟨ret_bool (by rw [HR.out, HF.out]), rfl⟩
      · by_cases h7 : 7 < d
        · have HF := Lib.hid (rises_no (x := z) (r := ds.drop (k + 1)) (.inr h7))
          have h1' : z < d := by omega
          have u1 : (0 : Nat) ≤ 1 := Nat.zero_le _
          go_wp2_with fail
          go_ret
          exact ⟨ret_bool (by rw [HR.out, HF.out]), rfl⟩
        · have HF := Lib.hid (rises_yes (r := ds.drop (k + 1)) (show z < d by omega) (show d ≤ 7 by omega))
          have h1' : z < d := by omega
          have h7' : d ≤ 7 := by omega
          have HN : Hid (risesB 0 ds = risesB d (ds.drop (k + 1))) := by rw [HR.out, HF.out]; rfl
          have u1 : (0 : Nat) ≤ 1 := Nat.zero_le _
          have u2 : (0 : Nat) ≤ 2 := Nat.zero_le _
          clear h1 h7
          go_wp2_with fail
          all_goals try (exfalso; omega)
          first | (refine ⟨⟨(by rfl), ?_⟩, ?measure⟩; (repeat apply Exists.intro); refine ⟨?rel, rfl⟩) | refine ⟨?rel, ?measure⟩
          case rel => exact ⟨k + 1, d, by omega, by go_num, rfl, HN⟩
          case measure => simp [intOf]; omega
    · obtain rfl : k = n := by omega
      have HT : Hid (risesB 0 ds = true) := by
        show _ = true
        rw [hr.out, List.drop_of_length_le (by rw [HD.out.1]; exact Nat.le_refl _)]; rfl
      clear hr hlt
      go_wp2_with fail
      go_ret
      exact ⟨ret_bool HT.out.symm, rfl⟩
def Ch.six (c : Ch) : Array Value := #[.slice c.y.A c.y.n c.y.c, .slice c.m.A c.m.n c.m.c, .slice c.t.A c.t.n c.t.c, .slice c.h.A c.h.n c.h.c, .slice c.i.A c.i.n c.i.c, .slice c.s.A c.s.n c.s.c]
set_option maxHeartbeats 4000000 in
theorem lists_any (c : Ch) (w : World) :
    Calls Tryz.prog 103 #[.agg c.cells] w fun e w' => e = .returned (.agg c.six) ∧ Below w.heap.size w w' := by
  unfold Ch.cells Ch.six
  go_enter Tryz.func103, Tryz.ntmps103
  go_wp2_with fail
  refine bodyPost_ret (v := .agg #[.slice c.y.A c.y.n c.y.c, .slice c.m.A c.m.n c.m.c, .slice c.t.A c.t.n c.t.c, .slice c.h.A c.h.n c.h.c, .slice c.i.A c.i.n c.i.c, .slice c.s.A c.s.n c.s.c]) (by simp [results, Tryz.results103, go_sem]) rfl ⟨rfl, ?_⟩
  exact ((Below.refl _ _).alloc (Nat.le_refl _) _).alloc (by simp) _
end Go.Proofs.YtadifolonbkamaaGreatDoor.Ca
