/- The walk of the developers' parseWord. -/
import Derived.Test.YtadifolonbkamaaGreatDoorKfbh
namespace Go.Proofs.YtadifolonbkamaaGreatDoor.Sn
open Go.RowKit
def wordN (s : ByteArray) : Nat := (wordV s.data.toList).getD 0
def wordOk (s : ByteArray) : Bool := (wordV s.data.toList).isSome
/-- The number that the first k bytes are. -/
def valS (s : ByteArray) (k : Nat) : Nat := valL (s.data.toList.take k)
def digS (s : ByteArray) (k : Nat) : Prop := ∀ c ∈ s.data.toList.take k, isDig c = true
theorem digS_zero (s : ByteArray) : digS s 0 := by intro c hc; simp at hc
theorem digS_succ {s : ByteArray} {k : Nat} (h : digS s k) (hk : k < s.size) (hd : isDig s[k] = true) : digS s (k + 1) := by
  intro c hc
  rw [take_at s k hk] at hc
  rcases List.mem_append.1 hc with hc | hc
  · exact h c hc
  · rw [List.mem_singleton.1 hc]; exact hd
theorem valS_succ {s : ByteArray} {k : Nat} (hk : k < s.size) : valS s (k + 1) = 10 * valS s k + (s[k].toNat - 48) := by
  unfold valS valL
  rw [take_at s k hk, List.foldl_append, List.foldl_cons, List.foldl_nil]
theorem dig_bounds {c : UInt8} (h : isDig c = true) : 48 ≤ c.toNat ∧ c.toNat ≤ 57 := by
  simpa [isDig, Bool.and_eq_true] using h
theorem valL_go (l : List UInt8) (h : ∀ c ∈ l, isDig c = true) (acc : Nat) : l.foldl (fun n c => 10 * n + (c.toNat - 48)) acc < (acc + 1) * 10 ^ l.length := by
  induction l generalizing acc with
  | nil => simp
  | cons c l ih =>
    have h2 := dig_bounds (h c (by simp))
    have h1 := ih (fun x hx => h x (by simp [hx])) (10 * acc + (c.toNat - 48))
    rw [List.foldl_cons, List.length_cons, Nat.pow_succ]
    have h3 : (10 * acc + (c.toNat - 48) + 1) * 10 ^ l.length ≤ (10 * (acc + 1)) * 10 ^ l.length := Nat.mul_le_mul_right _ (by omega)
    have h4 : (10 * (acc + 1)) * 10 ^ l.length = (acc + 1) * (10 ^ l.length * 10) := by rw [Nat.mul_comm 10, Nat.mul_assoc, Nat.mul_comm 10]
    omega
theorem valL_lt (l : List UInt8) (h : ∀ c ∈ l, isDig c = true) : valL l < 10 ^ l.length := by
  have := valL_go l h 0
  unfold valL; omega
theorem valS_le {s : ByteArray} {k : Nat} (h : digS s k) (hk : k ≤ 10) : valS s k ≤ 9999999999 := by
  have h1 := valL_lt _ h
  have h2 : (s.data.toList.take k).length ≤ 10 := by rw [List.length_take]; omega
  have h3 : 10 ^ (s.data.toList.take k).length ≤ 10 ^ 10 := Nat.pow_le_pow_right (by omega) h2
  unfold valS
  omega
theorem valS_le9 {s : ByteArray} {k : Nat} (h : digS s k) (hk : k ≤ 9) : valS s k ≤ 999999999 := by
  have h1 := valL_lt _ h
  have h2 : (s.data.toList.take k).length ≤ 9 := by rw [List.length_take]; omega
  have h3 : 10 ^ (s.data.toList.take k).length ≤ 10 ^ 9 := Nat.pow_le_pow_right (by omega) h2
  unfold valS
  omega
theorem unitL_le (l : List UInt8) : unitL l ≤ 604800 := by
  unfold unitL
  repeat' split
  all_goals omega
theorem unitS_le (s : ByteArray) : unitS s ≤ 604800 := unitL_le _
theorem unit_big (v u : Nat) (hv : v ≤ 9999999999) (hu : u ≤ 604800) : v * u ≤ 6047999999395200 :=
  Nat.le_trans (Nat.mul_le_mul hv hu) (by omega)
/-- The digits end at k: what the word is worth. -/
theorem word_at {s : ByteArray} {k : Nat} (h : digS s k) (hk : k ≤ s.size) (he : ∀ hlt : k < s.size, isDig s[k] = false) (h10 : k ≤ 10) :
    wordV s.data.toList = if k = 0 ∨ unitS (s.extract k s.size) = 0 then none else some (valS s k * unitS (s.extract k s.size)) := by
  have hr : ∀ c, (s.data.toList.drop k).head? = some c → isDig c = false := by
    intro c hc
    by_cases hlt : k < s.size
    · rw [drop_at s k hlt] at hc
      simp at hc
      rw [← hc]; exact he hlt
    · rw [List.drop_of_length_le (by simp; omega)] at hc; simp at hc
  obtain ⟨e1, e2⟩ := take_all (s.data.toList.take k) (s.data.toList.drop k) h hr
  rw [List.take_append_drop] at e1 e2
  unfold wordV unitS valS
  rw [e1, e2, tail_list]
  have hl : (s.data.toList.take k).length = k := by rw [List.length_take]; simp; omega
  have h0 : s.data.toList.take k = [] ↔ k = 0 := by
    rw [← List.length_eq_zero_iff, hl]
  have : ¬ 10 < k := by omega
  simp only [hl, h0, this, false_or]
theorem word_long {s : ByteArray} (h : digS s 10) (hk : 10 < s.size) (hd : isDig s[10] = true) : wordV s.data.toList = none := by
  have h1 := digS_succ h hk hd
  have h2 : 10 < (s.data.toList.takeWhile isDig).length := by
    have e : s.data.toList.takeWhile isDig = s.data.toList.take 11 ++ (s.data.toList.drop 11).takeWhile isDig := by
      conv => lhs; rw [← List.take_append_drop 11 s.data.toList]
      rw [List.takeWhile_append_of_pos h1]
    rw [e, List.length_append, List.length_take]
    simp
    omega
  unfold wordV
  rw [if_pos (.inr (.inl h2))]
theorem word_ret {s : ByteArray} {o : Option Nat} (h : wordV s.data.toList = o) : wordN s = o.getD 0 ∧ wordOk s = o.isSome := by
  unfold wordN wordOk; rw [h]; exact ⟨rfl, rfl⟩
set_option maxHeartbeats 2000000 in
theorem parseWord_any (s : ByteArray) (hs : s.size ≤ maxLen) (w : World) :
    Calls Tryz.prog 76 #[.string s] w fun e w' => e = .returned (.tuple #[.int .i64 (wordN s), .bool (wordOk s)]) ∧ w = w' := by
  unfold maxLen at hs
  go_enter Tryz.func76, Tryz.ntmps76
  go_wp2
  go_loop [4, 5] (fun d n => ∃ k : Nat, k ≤ s.size ∧ k ≤ 10 ∧ d = .int .i64 k ∧ n = .int .i64 (valS s k) ∧ Hid (digS s k)) (fun d _ => s.size - (intOf d).toNat)
  case atStart => exact ⟨0, Nat.zero_le _, by omega, rfl, rfl, digS_zero s⟩
  case round =>
    obtain ⟨k, hk, h10, rfl, rfl, hd⟩ := hrel
    have hv0 := valS_le hd.out h10
    by_cases hlt : k < s.size
    · have hr := s[k].toNat_lt
      rcases hg : isDig s[k] with _ | _
      · obtain ⟨hN, hO⟩ := word_ret (word_at hd.out hk (fun _ => hg) h10)
        have hs1 : ((0 : Int) ≤ (k : Int)) := by omega
        have hs2 : ((k : Int) ≤ (s.size : Int)) := by omega
        have hu := unitS_le (s.extract k s.size)
        have hb := unit_big _ _ hv0 hu
        by_cases hz : k = 0 ∨ unitS (s.extract k s.size) = 0
        · rw [if_pos hz] at hN hO
          have HN := Lib.hid hN
          have HO := Lib.hid hO
          clear hN hO
          unfold isDig at hg
          simp only [Bool.and_eq_false_iff, decide_eq_false_iff_not] at hg
          rcases hz with hz | hz
          · have z1 : ((k : Int) == 0) = true := by simp; omega
            clear hz
            rcases hg with hg | hg
            · have g1 : (s[k].toNat : Int) < 48 := by omega
              clear hg
              go_wp2_with (go_at_call 98; refine (seconds_any _ _).mono ?_; rintro e w' ⟨rfl, rfl⟩)
              go_ret2
              exact ⟨ret_ib (by rw [HN.out]; rfl) (by rw [HO.out]; rfl), rfl⟩
            · have g1 : (57 : Int) < (s[k].toNat : Int) := by omega
              have g0 : (48 : Int) ≤ (s[k].toNat : Int) := by omega
              clear hg
              go_wp2_with (go_at_call 98; refine (seconds_any _ _).mono ?_; rintro e w' ⟨rfl, rfl⟩)
              go_ret2
              exact ⟨ret_ib (by rw [HN.out]; rfl) (by rw [HO.out]; rfl), rfl⟩
          · have HZ := Lib.hid hz
            clear hz
            rcases hg with hg | hg
            · have g1 : (s[k].toNat : Int) < 48 := by omega
              clear hg
              go_wp2_with (go_at_call 98; refine (seconds_any _ _).mono ?_; rintro e w' ⟨rfl, rfl⟩; rw [HZ.out])
              all_goals (go_ret2; exact ⟨ret_ib (by rw [HN.out]; rfl) (by rw [HO.out]; rfl), rfl⟩)
            · have g1 : (57 : Int) < (s[k].toNat : Int) := by omega
              have g0 : (48 : Int) ≤ (s[k].toNat : Int) := by omega
              clear hg
              go_wp2_with (go_at_call 98; refine (seconds_any _ _).mono ?_; rintro e w' ⟨rfl, rfl⟩; rw [HZ.out])
              all_goals (go_ret2; exact ⟨ret_ib (by rw [HN.out]; rfl) (by rw [HO.out]; rfl), rfl⟩)
        · rw [if_neg hz] at hN hO
          have HN := Lib.hid hN
          have HO := Lib.hid hO
          clear hN hO
          have hk0 : 0 < k := by omega
          have hu0 : 0 < unitS (s.extract k s.size) := by omega
          have z1 : ((k : Int) == 0) = false := by simp; omega
          have z2 : ((unitS (s.extract k s.size) : Int) == 0) = false := by simp; omega
          have b0 : (0 : Int) ≤ (valS s k : Int) * (unitS (s.extract k s.size) : Int) := by rw [← Int.natCast_mul]; omega
          have b1 : (valS s k : Int) * (unitS (s.extract k s.size) : Int) ≤ 6047999999395200 := by rw [← Int.natCast_mul]; omega
          clear hz
          unfold isDig at hg
          simp only [Bool.and_eq_false_iff, decide_eq_false_iff_not] at hg
          rcases hg with hg | hg
          · have g1 : (s[k].toNat : Int) < 48 := by omega
            clear hg
            go_wp2_with (go_at_call 98; refine (seconds_any _ _).mono ?_; rintro e w' ⟨rfl, rfl⟩)
            go_ret2
            exact ⟨ret_ib (by rw [HN.out]; simp) (by rw [HO.out]; rfl), rfl⟩
          · have g1 : (57 : Int) < (s[k].toNat : Int) := by omega
            have g0 : (48 : Int) ≤ (s[k].toNat : Int) := by omega
            clear hg
            go_wp2_with (go_at_call 98; refine (seconds_any _ _).mono ?_; rintro e w' ⟨rfl, rfl⟩)
            go_ret2
            exact ⟨ret_ib (by rw [HN.out]; simp) (by rw [HO.out]; rfl), rfl⟩
      · obtain ⟨g1, g2⟩ := dig_bounds hg
        by_cases hten : k = 10
        · subst hten
          obtain ⟨hN, hO⟩ := word_ret (word_long hd.out hlt hg)
          have HN := Lib.hid hN
          have HO := Lib.hid hO
          clear hN hO hg
          go_wp2
          go_ret2
          exact ⟨ret_ib (by rw [HN.out]; rfl) (by rw [HO.out]; rfl), rfl⟩
        · have hd1 := Lib.hid (digS_succ hd.out hlt hg)
          have hv1 := valS_le9 hd.out (by omega)
          have HV := Lib.hid (valS_succ (s := s) hlt)
          have ht : ((k : Int) == 10) = false := by simp; omega
          clear hg
          go_wp2
          go_round
          case rel => exact ⟨k + 1, by omega, by omega, by go_num, by rw [HV.out]; go_num, hd1⟩
          case measure => simp [intOf]; omega
    · obtain ⟨hN, hO⟩ := word_ret (word_at hd.out hk (fun h => absurd h hlt) h10)
      have hs1 : ((0 : Int) ≤ (k : Int)) := by omega
      have hs2 : ((k : Int) ≤ (s.size : Int)) := by omega
      have hu := unitS_le (s.extract k s.size)
      have hb := unit_big _ _ hv0 hu
      by_cases hz : k = 0 ∨ unitS (s.extract k s.size) = 0
      · rw [if_pos hz] at hN hO
        have HN := Lib.hid hN
        have HO := Lib.hid hO
        clear hN hO
        rcases hz with hz | hz
        · have z1 : ((k : Int) == 0) = true := by simp; omega
          clear hz
          go_wp2_with (go_at_call 98; refine (seconds_any _ _).mono ?_; rintro e w' ⟨rfl, rfl⟩)
          go_ret2
          exact ⟨ret_ib (by rw [HN.out]; rfl) (by rw [HO.out]; rfl), rfl⟩
        · have HZ := Lib.hid hz
          clear hz
          go_wp2_with (go_at_call 98; refine (seconds_any _ _).mono ?_; rintro e w' ⟨rfl, rfl⟩; rw [HZ.out])
          all_goals (go_ret2; exact ⟨ret_ib (by rw [HN.out]; rfl) (by rw [HO.out]; rfl), rfl⟩)
      · rw [if_neg hz] at hN hO
        have HN := Lib.hid hN
        have HO := Lib.hid hO
        clear hN hO
        have hk0 : 0 < k := by omega
        have hu0 : 0 < unitS (s.extract k s.size) := by omega
        have z1 : ((k : Int) == 0) = false := by simp; omega
        have z2 : ((unitS (s.extract k s.size) : Int) == 0) = false := by simp; omega
        have b0 : (0 : Int) ≤ (valS s k : Int) * (unitS (s.extract k s.size) : Int) := by rw [← Int.natCast_mul]; omega
        have b1 : (valS s k : Int) * (unitS (s.extract k s.size) : Int) ≤ 6047999999395200 := by rw [← Int.natCast_mul]; omega
        clear hz
        go_wp2_with (go_at_call 98; refine (seconds_any _ _).mono ?_; rintro e w' ⟨rfl, rfl⟩)
        go_ret2
        exact ⟨ret_ib (by rw [HN.out]; simp) (by rw [HO.out]; rfl), rfl⟩
end Go.Proofs.YtadifolonbkamaaGreatDoor.Sn
