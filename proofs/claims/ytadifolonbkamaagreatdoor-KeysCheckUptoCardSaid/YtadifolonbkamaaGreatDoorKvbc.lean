/- The units: the developers' seconds, the document's unit. The walk of the developers' parseWord. strings.SplitSeq at a bl -/
import Derived.Test.YtadifolonbkamaaGreatDoorKvaa
import Derived.Test.YtadifolonbkamaaGreatDoorKvac
import Derived.RangeFuncNested
import Derived.RangeFuncBound
import Derived.RangeFuncCalls
import Derived.RangeFuncLeaves
import Derived.Shelf.Abstract
import Derived.Shelf.RegionOpen
import Derived.OwnWalkIn
import Derived.TacticsInMore
import Derived.LoopNIn
import Derived.LoopIn
namespace Go.Proofs.YtadifolonbkamaaGreatDoor.Sn
open Go.RowKit
def unitS (s : ByteArray) : Nat := unitL s.data.toList
theorem ne_beq {s : ByteArray} {l : List UInt8} (h : s ≠ str l) : (s.toList == l) = false := by
  have := beq_str s (str l)
  rw [Lib.toList_data (str l)] at this
  rw [show l = (str l).data.toList from rfl, this]
  simpa using h
theorem is_beq {s : ByteArray} {l : List UInt8} (h : s = str l) : (s.toList == l) = true := by
  have := beq_str s (str l)
  rw [Lib.toList_data (str l)] at this
  rw [show l = (str l).data.toList from rfl, this]
  simpa using h
theorem ne_empty {s : ByteArray} (h : s ≠ str []) : s.toList.isEmpty = false := by
  rw [isEmpty_iff]
  simpa [eq_str] using h
theorem is_empty {s : ByteArray} (h : s = str []) : s.toList.isEmpty = true := by
  rw [isEmpty_iff]
  simpa [eq_str] using h
set_option maxHeartbeats 1000000 in
theorem seconds_any (s : ByteArray) (w : World) :
    Calls Tryz.prog 98 #[.string s] w fun e w' => e = .returned (.int .i64 (unitS s)) ∧ w = w' := by
  by_cases h0 : s = str []
  · have H := Lib.hid (show unitS s = 1 by rw [h0]; decide)
    have e0 := is_empty h0
    clear h0
    go_enter Tryz.func98, Tryz.ntmps98
    go_wp2
    go_ret
    exact ⟨ret_int (by rw [H.out]; rfl), rfl⟩
  by_cases h1 : s = str [115]
  · have H := Lib.hid (show unitS s = 1 by rw [h1]; decide)
    have e0 := ne_empty h0
    have e1 := is_beq h1
    clear h0 h1
    go_enter Tryz.func98, Tryz.ntmps98
    go_wp2
    go_ret
    exact ⟨ret_int (by rw [H.out]; rfl), rfl⟩
  by_cases h2 : s = str [115, 101, 99]
  · have H := Lib.hid (show unitS s = 1 by rw [h2]; decide)
    have e0 := ne_empty h0
    have e1 := ne_beq h1
    have e2 := is_beq h2
    clear h0 h1 h2
    go_enter Tryz.func98, Tryz.ntmps98
    go_wp2
    go_ret
    exact ⟨ret_int (by rw [H.out]; rfl), rfl⟩
  by_cases h3 : s = str [109]
  · have H := Lib.hid (show unitS s = 60 by rw [h3]; decide)
    have e0 := ne_empty h0
    have e1 := ne_beq h1
    have e2 := ne_beq h2
    have e3 := is_beq h3
    clear h0 h1 h2 h3
    go_enter Tryz.func98, Tryz.ntmps98
    go_wp2
    go_ret
    exact ⟨ret_int (by rw [H.out]; rfl), rfl⟩
  by_cases h4 : s = str [109, 105, 110]
  · have H := Lib.hid (show unitS s = 60 by rw [h4]; decide)
    have e0 := ne_empty h0
    have e1 := ne_beq h1
    have e2 := ne_beq h2
    have e3 := ne_beq h3
    have e4 := is_beq h4
    clear h0 h1 h2 h3 h4
    go_enter Tryz.func98, Tryz.ntmps98
    go_wp2
    go_ret
    exact ⟨ret_int (by rw [H.out]; rfl), rfl⟩
  by_cases h5 : s = str [104]
  · have H := Lib.hid (show unitS s = 3600 by rw [h5]; decide)
    have e0 := ne_empty h0
    have e1 := ne_beq h1
    have e2 := ne_beq h2
    have e3 := ne_beq h3
    have e4 := ne_beq h4
    have e5 := is_beq h5
    clear h0 h1 h2 h3 h4 h5
    go_enter Tryz.func98, Tryz.ntmps98
    go_wp2
    go_ret
    exact ⟨ret_int (by rw [H.out]; rfl), rfl⟩
  by_cases h6 : s = str [104, 114]
  · have H := Lib.hid (show unitS s = 3600 by rw [h6]; decide)
    have e0 := ne_empty h0
    have e1 := ne_beq h1
    have e2 := ne_beq h2
    have e3 := ne_beq h3
    have e4 := ne_beq h4
    have e5 := ne_beq h5
    have e6 := is_beq h6
    clear h0 h1 h2 h3 h4 h5 h6
    go_enter Tryz.func98, Tryz.ntmps98
    go_wp2
    go_ret
    exact ⟨ret_int (by rw [H.out]; rfl), rfl⟩
  by_cases h7 : s = str [100]
  · have H := Lib.hid (show unitS s = 86400 by rw [h7]; decide)
    have e0 := ne_empty h0
    have e1 := ne_beq h1
    have e2 := ne_beq h2
    have e3 := ne_beq h3
    have e4 := ne_beq h4
    have e5 := ne_beq h5
    have e6 := ne_beq h6
    have e7 := is_beq h7
    clear h0 h1 h2 h3 h4 h5 h6 h7
    go_enter Tryz.func98, Tryz.ntmps98
    go_wp2
    go_ret
    exact ⟨ret_int (by rw [H.out]; rfl), rfl⟩
  by_cases h8 : s = str [100, 97, 121]
  · have H := Lib.hid (show unitS s = 86400 by rw [h8]; decide)
    have e0 := ne_empty h0
    have e1 := ne_beq h1
    have e2 := ne_beq h2
    have e3 := ne_beq h3
    have e4 := ne_beq h4
    have e5 := ne_beq h5
    have e6 := ne_beq h6
    have e7 := ne_beq h7
    have e8 := is_beq h8
    clear h0 h1 h2 h3 h4 h5 h6 h7 h8
    go_enter Tryz.func98, Tryz.ntmps98
    go_wp2
    go_ret
    exact ⟨ret_int (by rw [H.out]; rfl), rfl⟩
  by_cases h9 : s = str [119]
  · have H := Lib.hid (show unitS s = 604800 by rw [h9]; decide)
    have e0 := ne_empty h0
    have e1 := ne_beq h1
    have e2 := ne_beq h2
    have e3 := ne_beq h3
    have e4 := ne_beq h4
    have e5 := ne_beq h5
    have e6 := ne_beq h6
    have e7 := ne_beq h7
    have e8 := ne_beq h8
    have e9 := is_beq h9
    clear h0 h1 h2 h3 h4 h5 h6 h7 h8 h9
    go_enter Tryz.func98, Tryz.ntmps98
    go_wp2
    go_ret
    exact ⟨ret_int (by rw [H.out]; rfl), rfl⟩
  by_cases h10 : s = str [119, 101, 101, 107]
  · have H := Lib.hid (show unitS s = 604800 by rw [h10]; decide)
    have e0 := ne_empty h0
    have e1 := ne_beq h1
    have e2 := ne_beq h2
    have e3 := ne_beq h3
    have e4 := ne_beq h4
    have e5 := ne_beq h5
    have e6 := ne_beq h6
    have e7 := ne_beq h7
    have e8 := ne_beq h8
    have e9 := ne_beq h9
    have e10 := is_beq h10
    clear h0 h1 h2 h3 h4 h5 h6 h7 h8 h9 h10
    go_enter Tryz.func98, Tryz.ntmps98
    go_wp2
    go_ret
    exact ⟨ret_int (by rw [H.out]; rfl), rfl⟩
  have H : Hid (unitS s = 0) := by
    unfold unitS unitL
    simp only [eq_str] at h0 h1 h2 h3 h4 h5 h6 h7 h8 h9 h10
    simp [Hid, h0, h1, h2, h3, h4, h5, h6, h7, h8, h9, h10]
  have e0 := ne_empty h0
  have e1 := ne_beq h1
  have e2 := ne_beq h2
  have e3 := ne_beq h3
  have e4 := ne_beq h4
  have e5 := ne_beq h5
  have e6 := ne_beq h6
  have e7 := ne_beq h7
  have e8 := ne_beq h8
  have e9 := ne_beq h9
  have e10 := ne_beq h10
  clear h0 h1 h2 h3 h4 h5 h6 h7 h8 h9 h10
  go_enter Tryz.func98, Tryz.ntmps98
  go_wp2
  go_ret
  exact ⟨ret_int (by rw [H.out]; rfl), rfl⟩
set_option maxHeartbeats 1000000 in
theorem runit_any (s : ByteArray) (w : World) :
    Calls Tryz.prog 58 #[.string s] w fun e w' => e = .returned (.int .i64 (unitS s)) ∧ w = w' := by
  by_cases h0 : s = str []
  · have H := Lib.hid (show unitS s = 1 by rw [h0]; decide)
    have e0 := is_empty h0
    clear h0
    go_enter Tryz.func58, Tryz.ntmps58
    go_wp2
    go_ret
    exact ⟨ret_int (by rw [H.out]; rfl), rfl⟩
  by_cases h1 : s = str [115]
  · have H := Lib.hid (show unitS s = 1 by rw [h1]; decide)
    have e0 := ne_empty h0
    have e1 := is_beq h1
    clear h0 h1
    go_enter Tryz.func58, Tryz.ntmps58
    go_wp2
    go_ret
    exact ⟨ret_int (by rw [H.out]; rfl), rfl⟩
  by_cases h2 : s = str [115, 101, 99]
  · have H := Lib.hid (show unitS s = 1 by rw [h2]; decide)
    have e0 := ne_empty h0
    have e1 := ne_beq h1
    have e2 := is_beq h2
    clear h0 h1 h2
    go_enter Tryz.func58, Tryz.ntmps58
    go_wp2
    go_ret
    exact ⟨ret_int (by rw [H.out]; rfl), rfl⟩
  by_cases h3 : s = str [109]
  · have H := Lib.hid (show unitS s = 60 by rw [h3]; decide)
    have e0 := ne_empty h0
    have e1 := ne_beq h1
    have e2 := ne_beq h2
    have e3 := is_beq h3
    clear h0 h1 h2 h3
    go_enter Tryz.func58, Tryz.ntmps58
    go_wp2
    go_ret
    exact ⟨ret_int (by rw [H.out]; rfl), rfl⟩
  by_cases h4 : s = str [109, 105, 110]
  · have H := Lib.hid (show unitS s = 60 by rw [h4]; decide)
    have e0 := ne_empty h0
    have e1 := ne_beq h1
    have e2 := ne_beq h2
    have e3 := ne_beq h3
    have e4 := is_beq h4
    clear h0 h1 h2 h3 h4
    go_enter Tryz.func58, Tryz.ntmps58
    go_wp2
    go_ret
    exact ⟨ret_int (by rw [H.out]; rfl), rfl⟩
  by_cases h5 : s = str [104]
  · have H := Lib.hid (show unitS s = 3600 by rw [h5]; decide)
    have e0 := ne_empty h0
    have e1 := ne_beq h1
    have e2 := ne_beq h2
    have e3 := ne_beq h3
    have e4 := ne_beq h4
    have e5 := is_beq h5
    clear h0 h1 h2 h3 h4 h5
    go_enter Tryz.func58, Tryz.ntmps58
    go_wp2
    go_ret
    exact ⟨ret_int (by rw [H.out]; rfl), rfl⟩
  by_cases h6 : s = str [104, 114]
  · have H := Lib.hid (show unitS s = 3600 by rw [h6]; decide)
    have e0 := ne_empty h0
    have e1 := ne_beq h1
    have e2 := ne_beq h2
    have e3 := ne_beq h3
    have e4 := ne_beq h4
    have e5 := ne_beq h5
    have e6 := is_beq h6
    clear h0 h1 h2 h3 h4 h5 h6
    go_enter Tryz.func58, Tryz.ntmps58
    go_wp2
    go_ret
    exact ⟨ret_int (by rw [H.out]; rfl), rfl⟩
  by_cases h7 : s = str [100]
  · have H := Lib.hid (show unitS s = 86400 by rw [h7]; decide)
    have e0 := ne_empty h0
    have e1 := ne_beq h1
    have e2 := ne_beq h2
    have e3 := ne_beq h3
    have e4 := ne_beq h4
    have e5 := ne_beq h5
    have e6 := ne_beq h6
    have e7 := is_beq h7
    clear h0 h1 h2 h3 h4 h5 h6 h7
    go_enter Tryz.func58, Tryz.ntmps58
    go_wp2
    go_ret
    exact ⟨ret_int (by rw [H.out]; rfl), rfl⟩
  by_cases h8 : s = str [100, 97, 121]
  · have H := Lib.hid (show unitS s = 86400 by rw [h8]; decide)
    have e0 := ne_empty h0
    have e1 := ne_beq h1
    have e2 := ne_beq h2
    have e3 := ne_beq h3
    have e4 := ne_beq h4
    have e5 := ne_beq h5
    have e6 := ne_beq h6
    have e7 := ne_beq h7
    have e8 := is_beq h8
    clear h0 h1 h2 h3 h4 h5 h6 h7 h8
    go_enter Tryz.func58, Tryz.ntmps58
    go_wp2
    go_ret
    exact ⟨ret_int (by rw [H.out]; rfl), rfl⟩
  by_cases h9 : s = str [119]
  · have H := Lib.hid (show unitS s = 604800 by rw [h9]; decide)
    have e0 := ne_empty h0
    have e1 := ne_beq h1
    have e2 := ne_beq h2
    have e3 := ne_beq h3
    have e4 := ne_beq h4
    have e5 := ne_beq h5
    have e6 := ne_beq h6
    have e7 := ne_beq h7
    have e8 := ne_beq h8
    have e9 := is_beq h9
    clear h0 h1 h2 h3 h4 h5 h6 h7 h8 h9
    go_enter Tryz.func58, Tryz.ntmps58
    go_wp2
    go_ret
    exact ⟨ret_int (by rw [H.out]; rfl), rfl⟩
  by_cases h10 : s = str [119, 101, 101, 107]
  · have H := Lib.hid (show unitS s = 604800 by rw [h10]; decide)
    have e0 := ne_empty h0
    have e1 := ne_beq h1
    have e2 := ne_beq h2
    have e3 := ne_beq h3
    have e4 := ne_beq h4
    have e5 := ne_beq h5
    have e6 := ne_beq h6
    have e7 := ne_beq h7
    have e8 := ne_beq h8
    have e9 := ne_beq h9
    have e10 := is_beq h10
    clear h0 h1 h2 h3 h4 h5 h6 h7 h8 h9 h10
    go_enter Tryz.func58, Tryz.ntmps58
    go_wp2
    go_ret
    exact ⟨ret_int (by rw [H.out]; rfl), rfl⟩
  have H : Hid (unitS s = 0) := by
    unfold unitS unitL
    simp only [eq_str] at h0 h1 h2 h3 h4 h5 h6 h7 h8 h9 h10
    simp [Hid, h0, h1, h2, h3, h4, h5, h6, h7, h8, h9, h10]
  have e0 := ne_empty h0
  have e1 := ne_beq h1
  have e2 := ne_beq h2
  have e3 := ne_beq h3
  have e4 := ne_beq h4
  have e5 := ne_beq h5
  have e6 := ne_beq h6
  have e7 := ne_beq h7
  have e8 := ne_beq h8
  have e9 := ne_beq h9
  have e10 := ne_beq h10
  clear h0 h1 h2 h3 h4 h5 h6 h7 h8 h9 h10
  go_enter Tryz.func58, Tryz.ntmps58
  go_wp2
  go_ret
  exact ⟨ret_int (by rw [H.out]; rfl), rfl⟩
end Go.Proofs.YtadifolonbkamaaGreatDoor.Sn
namespace Go.Proofs.YtadifolonbkamaaGreatDoor.Sn
open Go.RowKit
def wordN (s : ByteArray) : Nat := (wordV s.data.toList).getD 0
def wordOk (s : ByteArray) : Bool := (wordV s.data.toList).isSome
def valS (s : ByteArray) (k : Nat) : Nat := valL (s.data.toList.take k)
def digS (s : ByteArray) (k : Nat) : Prop := ∀ c ∈ s.data.toList.take k, isDig c = true
theorem digS_zero (s : ByteArray) : digS s 0 := by intro c hc; simp at hc
theorem digS_succ {s : ByteArray} {k : Nat} (h : digS s k) (hk : k < s.size) (hd : isDig s[k] = true) : digS s (k + 1) := by
  intro c hc
  rw [take_at s k hk] at hc
  rcases List.mem_append.1 hc with hc | hc
  · exact h c hc
  · rw [List.mem_singleton.1 hc]; exact hd
theorem valS_succ {s : ByteArray} {k : Nat} (hk : k < s.size) : valS s (k + 1) = 10 * valS s k + (s[k].toNat - 48) := by
  unfold valS valL
  rw [take_at s k hk, List.foldl_append, List.foldl_cons, List.foldl_nil]
theorem dig_bounds {c : UInt8} (h : isDig c = true) : 48 ≤ c.toNat ∧ c.toNat ≤ 57 := by
  simpa [isDig, Bool.and_eq_true] using h
theorem valL_go (l : List UInt8) (h : ∀ c ∈ l, isDig c = true) (acc : Nat) : l.foldl (fun n c => 10 * n + (c.toNat - 48)) acc < (acc + 1) * 10 ^ l.length := by
  induction l generalizing acc with
  | nil => simp
  | cons c l ih =>
    have h2 := dig_bounds (h c (by simp))
    have h1 := ih (fun x hx => h x (by simp [hx])) (10 * acc + (c.toNat - 48))
    rw [List.foldl_cons, List.length_cons, Nat.pow_succ]
    have h3 : (10 * acc + (c.toNat - 48) + 1) * 10 ^ l.length ≤ (10 * (acc + 1)) * 10 ^ l.length := Nat.mul_le_mul_right _ (by omega)
    have h4 : (10 * (acc + 1)) * 10 ^ l.length = (acc + 1) * (10 ^ l.length * 10) := by rw [Nat.mul_comm 10, Nat.mul_assoc, Nat.mul_comm 10]
    omega
theorem valL_lt (l : List UInt8) (h : ∀ c ∈ l, isDig c = true) : valL l < 10 ^ l.length := by
  have := valL_go l h 0
  unfold valL; omega
theorem valS_le {s : ByteArray} {k : Nat} (h : digS s k) (hk : k ≤ 10) : valS s k ≤ 9999999999 := by
  have h1 := valL_lt _ h
  have h2 : (s.data.toList.take k).length ≤ 10 := by rw [List.length_take]; omega
  have h3 : 10 ^ (s.data.toList.take k).length ≤ 10 ^ 10 := Nat.pow_le_pow_right (by omega) h2
  unfold valS
  omega
theorem valS_le9 {s : ByteArray} {k : Nat} (h : digS s k) (hk : k ≤ 9) : valS s k ≤ 999999999 := by
  have h1 := valL_lt _ h
  have h2 : (s.data.toList.take k).length ≤ 9 := by rw [List.length_take]; omega
  have h3 : 10 ^ (s.data.toList.take k).length ≤ 10 ^ 9 := Nat.pow_le_pow_right (by omega) h2
  unfold valS
  omega
theorem unitL_le (l : List UInt8) : unitL l ≤ 604800 := by
  unfold unitL
  repeat' split
  all_goals omega
theorem unitS_le (s : ByteArray) : unitS s ≤ 604800 := unitL_le _
theorem unit_big (v u : Nat) (hv : v ≤ 9999999999) (hu : u ≤ 604800) : v * u ≤ 6047999999395200 :=
  Nat.le_trans (Nat.mul_le_mul hv hu) (by omega)
theorem word_at {s : ByteArray} {k : Nat} (h : digS s k) (hk : k ≤ s.size) (he : ∀ hlt : k < s.size, isDig s[k] = false) (h10 : k ≤ 10) :
    wordV s.data.toList = if k = 0 ∨ unitS (s.extract k s.size) = 0 then none else some (valS s k * unitS (s.extract k s.size)) := by
  have hr : ∀ c, (s.data.toList.drop k).head? = some c → isDig c = false := by
    intro c hc
    by_cases hlt : k < s.size
    · rw [drop_at s k hlt] at hc
      simp at hc
      rw [← hc]; exact he hlt
    · rw [List.drop_of_length_le (by simp; omega)] at hc; simp at hc
  obtain ⟨e1, e2⟩ := take_all (s.data.toList.take k) (s.data.toList.drop k) h hr
  rw [List.take_append_drop] at e1 e2
  unfold wordV unitS valS
  rw [e1, e2, tail_list]
  have hl : (s.data.toList.take k).length = k := by rw [List.length_take]; simp; omega
  have h0 : s.data.toList.take k = [] ↔ k = 0 := by
    rw [← List.length_eq_zero_iff, hl]
  have : ¬ 10 < k := by omega
  simp only [hl, h0, this, false_or]
theorem word_long {s : ByteArray} (h : digS s 10) (hk : 10 < s.size) (hd : isDig s[10] = true) : wordV s.data.toList = none := by
  have h1 := digS_succ h hk hd
  have h2 : 10 < (s.data.toList.takeWhile isDig).length := by
    have e : s.data.toList.takeWhile isDig = s.data.toList.take 11 ++ (s.data.toList.drop 11).takeWhile isDig := by
      conv => lhs; rw [← List.take_append_drop 11 s.data.toList]
      rw [List.takeWhile_append_of_pos h1]
    rw [e, List.length_append, List.length_take]
    simp
    omega
  unfold wordV
  rw [if_pos (.inr (.inl h2))]
theorem word_ret {s : ByteArray} {o : Option Nat} (h : wordV s.data.toList = o) : wordN s = o.getD 0 ∧ wordOk s = o.isSome := by
  unfold wordN wordOk; rw [h]; exact ⟨rfl, rfl⟩
set_option maxHeartbeats 2000000 in
theorem parseWord_any (s : ByteArray) (hs : s.size ≤ maxLen) (w : World) :
    Calls Tryz.prog 76 #[.string s] w fun e w' => e = .returned (.tuple #[.int .i64 (wordN s), .bool (wordOk s)]) ∧ w = w' := by
  unfold maxLen at hs
  go_enter Tryz.func76, Tryz.ntmps76
  go_wp2
  go_loop [4, 5] (fun d n => ∃ k : Nat, k ≤ s.size ∧ k ≤ 10 ∧ d = .int .i64 k ∧ n = .int .i64 (valS s k) ∧ Hid (digS s k)) (fun d _ => s.size - (intOf d).toNat)
  case atStart => exact ⟨0, Nat.zero_le _, by omega, rfl, rfl, digS_zero s⟩
  case round =>
    obtain ⟨k, hk, h10, rfl, rfl, hd⟩ := hrel
    have hv0 := valS_le hd.out h10
    by_cases hlt : k < s.size
    · have hr := s[k].toNat_lt
      rcases hg : isDig s[k] with _ | _
      · obtain ⟨hN, hO⟩ := word_ret (word_at hd.out hk (fun _ => hg) h10)
        have hs1 : ((0 : Int) ≤ (k : Int)) := by omega
        have hs2 : ((k : Int) ≤ (s.size : Int)) := by omega
        have hu := unitS_le (s.extract k s.size)
        have hb := unit_big _ _ hv0 hu
        by_cases hz : k = 0 ∨ unitS (s.extract k s.size) = 0
        · rw [if_pos hz] at hN hO
          have HN := Lib.hid hN
          have HO := Lib.hid hO
          clear hN hO
          unfold isDig at hg
          simp only [Bool.and_eq_false_iff, decide_eq_false_iff_not] at hg
          rcases hz with hz | hz
          · have z1 : ((k : Int) == 0) = true := by simp; omega
            clear hz
            rcases hg with hg | hg
            · have g1 : (s[k].toNat : Int) < 48 := by omega
              clear hg
              go_wp2_with (go_at_call 98; refine (seconds_any _ _).mono ?_; rintro e w' ⟨rfl, rfl⟩)
              go_ret2
              exact ⟨ret_ib (by rw [HN.out]; rfl) (by rw [HO.out]; rfl), rfl⟩
            · have g1 : (57 : Int) < (s[k].toNat : Int) := by omega
              have g0 : (48 : Int) ≤ (s[k].toNat : Int) := by omega
              clear hg
              go_wp2_with (go_at_call 98; refine (seconds_any _ _).mono ?_; rintro e w' ⟨rfl, rfl⟩)
              go_ret2
              exact ⟨ret_ib (by rw [HN.out]; rfl) (by rw [HO.out]; rfl), rfl⟩
          · have HZ := Lib.hid hz
            clear hz
            rcases hg with hg | hg
            · have g1 : (s[k].toNat : Int) < 48 := by omega
              clear hg
              go_wp2_with (go_at_call 98; refine (seconds_any _ _).mono ?_; rintro e w' ⟨rfl, rfl⟩; rw [HZ.out])
              all_goals (go_ret2; exact ⟨ret_ib (by rw [HN.out]; rfl) (by rw [HO.out]; rfl), rfl⟩)
            · have g1 : (57 : Int) < (s[k].toNat : Int) := by omega
              have g0 : (48 : Int) ≤ (s[k].toNat : Int) := by omega
              clear hg
              go_wp2_with (go_at_call 98; refine (seconds_any _ _).mono ?_; rintro e w' ⟨rfl, rfl⟩; rw [HZ.out])
              all_goals (go_ret2; exact ⟨ret_ib (by rw [HN.out]; rfl) (by rw [HO.out]; rfl), rfl⟩)
        · rw [if_neg hz] at hN hO
          have HN := Lib.hid hN
          have HO := Lib.hid hO
          clear hN hO
          have hk0 : 0 < k := by omega
          have hu0 : 0 < unitS (s.extract k s.size) := by omega
          have z1 : ((k : Int) == 0) = false := by simp; omega
          have z2 : ((unitS (s.extract k s.size) : Int) == 0) = false := by simp; omega
          have b0 : (0 : Int) ≤ (valS s k : Int) * (unitS (s.extract k s.size) : Int) := by rw [← Int.natCast_mul]; omega
          have b1 : (valS s k : Int) * (unitS (s.extract k s.size) : Int) ≤ 6047999999395200 := by rw [← Int.natCast_mul]; omega
          clear hz
          unfold isDig at hg
          simp only [Bool.and_eq_false_iff, decide_eq_false_iff_not] at hg
          rcases hg with hg | hg
          · have g1 : (s[k].toNat : Int) < 48 := by omega
            clear hg
            go_wp2_with (go_at_call 98; refine (seconds_any _ _).mono ?_; rintro e w' ⟨rfl, rfl⟩)
            go_ret2
            exact ⟨ret_ib (by rw [HN.out]; simp) (by rw [HO.out]; rfl), rfl⟩
          · have g1 : (57 : Int) < (s[k].toNat : Int) := by omega
            have g0 : (48 : Int) ≤ (s[k].toNat : Int) := by omega
            clear hg
            go_wp2_with (go_at_call 98; refine (seconds_any _ _).mono ?_; rintro e w' ⟨rfl, rfl⟩)
            go_ret2
            exact ⟨ret_ib (by rw [HN.out]; simp) (by rw [HO.out]; rfl), rfl⟩
      · obtain ⟨g1, g2⟩ := dig_bounds hg
        by_cases hten : k = 10
        · subst hten
          obtain ⟨hN, hO⟩ := word_ret (word_long hd.out hlt hg)
          have HN := Lib.hid hN
          have HO := Lib.hid hO
          clear hN hO hg
          go_wp2
          go_ret2
          exact ⟨ret_ib (by rw [HN.out]; rfl) (by rw [HO.out]; rfl), rfl⟩
        · have hd1 := Lib.hid (digS_succ hd.out hlt hg)
          have hv1 := valS_le9 hd.out (by omega)
          have HV := Lib.hid (valS_succ (s := s) hlt)
          have ht : ((k : Int) == 10) = false := by simp; omega
          clear hg
          go_wp2
          go_round
          case rel => exact ⟨k + 1, by omega, by omega, by go_num, by rw [HV.out]; go_num, hd1⟩
          case measure => simp [intOf]; omega
    · obtain ⟨hN, hO⟩ := word_ret (word_at hd.out hk (fun h => absurd h hlt) h10)
      have hs1 : ((0 : Int) ≤ (k : Int)) := by omega
      have hs2 : ((k : Int) ≤ (s.size : Int)) := by omega
      have hu := unitS_le (s.extract k s.size)
      have hb := unit_big _ _ hv0 hu
      by_cases hz : k = 0 ∨ unitS (s.extract k s.size) = 0
      · rw [if_pos hz] at hN hO
        have HN := Lib.hid hN
        have HO := Lib.hid hO
        clear hN hO
        rcases hz with hz | hz
        · have z1 : ((k : Int) == 0) = true := by simp; omega
          clear hz
          go_wp2_with (go_at_call 98; refine (seconds_any _ _).mono ?_; rintro e w' ⟨rfl, rfl⟩)
          go_ret2
          exact ⟨ret_ib (by rw [HN.out]; rfl) (by rw [HO.out]; rfl), rfl⟩
        · have HZ := Lib.hid hz
          clear hz
          go_wp2_with (go_at_call 98; refine (seconds_any _ _).mono ?_; rintro e w' ⟨rfl, rfl⟩; rw [HZ.out])
          all_goals (go_ret2; exact ⟨ret_ib (by rw [HN.out]; rfl) (by rw [HO.out]; rfl), rfl⟩)
      · rw [if_neg hz] at hN hO
        have HN := Lib.hid hN
        have HO := Lib.hid hO
        clear hN hO
        have hk0 : 0 < k := by omega
        have hu0 : 0 < unitS (s.extract k s.size) := by omega
        have z1 : ((k : Int) == 0) = false := by simp; omega
        have z2 : ((unitS (s.extract k s.size) : Int) == 0) = false := by simp; omega
        have b0 : (0 : Int) ≤ (valS s k : Int) * (unitS (s.extract k s.size) : Int) := by rw [← Int.natCast_mul]; omega
        have b1 : (valS s k : Int) * (unitS (s.extract k s.size) : Int) ≤ 6047999999395200 := by rw [← Int.natCast_mul]; omega
        clear hz
        go_wp2_with (go_at_call 98; refine (seconds_any _ _).mono ?_; rintro e w' ⟨rfl, rfl⟩)
        go_ret2
        exact ⟨ret_ib (by rw [HN.out]; simp) (by rw [HO.out]; rfl), rfl⟩
end Go.Proofs.YtadifolonbkamaaGreatDoor.Sn
namespace Go.Proofs.YtadifolonbkamaaGreatDoor.Sn
open Go.RowKit
attribute [local go_sem] Oper.semAt_some
def splitL : List UInt8 → List UInt8 → List (List UInt8)
  | w, [] => [w]
  | w, c :: r => if c = 32 then w :: splitL [] r else splitL (w ++ [c]) r
theorem splitL_none (l w : List UInt8) (h : ∀ c ∈ l, c ≠ 32) : splitL w l = [w ++ l] := by
  induction l generalizing w with
  | nil => simp [splitL]
  | cons c l ih =>
    rw [splitL, if_neg (h c (by simp)), ih _ (fun x hx => h x (by simp [hx]))]
    simp
theorem splitL_some (a b w : List UInt8) (h : ∀ c ∈ a, c ≠ 32) : splitL w (a ++ 32 :: b) = (w ++ a) :: splitL [] b := by
  induction a generalizing w with
  | nil => simp [splitL]
  | cons c a ih =>
    rw [List.cons_append, splitL, if_neg (h c (by simp)), ih _ (fun x hx => h x (by simp [hx]))]
    simp
theorem bgo_splitL (l w : List UInt8) : bgo [32] w l = (splitL w l).filter (fun p => !p.isEmpty) := by
  induction l generalizing w with
  | nil =>
    rw [bgo, splitL]
    cases w <;> simp
  | cons c l ih =>
    rw [bgo, splitL]
    by_cases hc : c = 32
    · subst hc
      rw [if_pos (by decide), if_pos rfl, ih]
      cases w <;> simp
    · have h2 : ([32] : List UInt8).contains c = false := by simp [hc]
      rw [if_neg (by rw [h2]; simp), if_neg hc, ih]
def piecesS (s : ByteArray) : List ByteArray := (splitL [] s.data.toList).map str
theorem pieces_none {s : ByteArray} (h : Lib.indexByte s.data.toList 32 = -1) : piecesS s = [s] := by
  have h1 := Lib.indexByte_none h
  unfold piecesS
  rw [splitL_none _ _ (fun c hc e => by
    obtain ⟨k, hk, rfl⟩ := List.getElem_of_mem hc
    exact h1 k (by rw [List.getElem?_eq_getElem hk, e]))]
  simp [str_data]
theorem pieces_some {s : ByteArray} {i : Nat} (h : Lib.indexByte s.data.toList 32 = i) : i < s.size ∧ piecesS s = s.extract 0 i :: piecesS (s.extract (i + 1) s.size) := by
  obtain ⟨h1, h2⟩ := Lib.indexByte_some h
  obtain ⟨hi, h3⟩ := List.getElem?_eq_some_iff.1 h1
  have hi' : i < s.size := by simpa using hi
  refine ⟨hi', ?_⟩
  unfold piecesS
  have e : s.data.toList = s.data.toList.take i ++ 32 :: s.data.toList.drop (i + 1) := by
    conv => lhs; rw [← List.take_append_drop i s.data.toList, List.drop_eq_getElem_cons hi, h3]
  rw [tail_list]
  conv => lhs; rw [e]
  rw [splitL_some _ _ _ (fun c hc e => by
    obtain ⟨k, hk, rfl⟩ := List.getElem_of_mem hc
    have hk' : k < i := by rw [List.length_take] at hk; omega
    refine h2 k hk' ?_
    rw [List.getElem_take] at e
    rw [List.getElem?_eq_getElem (by omega), e])]
  rw [List.map_cons, List.nil_append]
  congr 1
  refine (eq_str.2 ?_).symm
  rw [Lib.extract_data]
  simp
theorem pieces_size (l w : List UInt8) : ∀ p ∈ splitL w l, p.length ≤ w.length + l.length := by
  induction l generalizing w with
  | nil => intro p hp; rw [splitL, List.mem_singleton] at hp; rw [hp]; simp
  | cons c l ih =>
    intro p hp
    rw [splitL] at hp
    split at hp
    · rcases List.mem_cons.1 hp with hp | hp
      · rw [hp]; simp
      · have := ih [] p hp; simp at this ⊢; omega
    · have := ih _ p hp; simp at this ⊢; omega
theorem piece_size {s x : ByteArray} (h : x ∈ piecesS s) : x.size ≤ s.size := by
  unfold piecesS at h
  obtain ⟨p, hp, rfl⟩ := List.mem_map.1 h
  have := pieces_size _ _ p hp
  rw [str_size]
  simpa using this
def leftOf (C : Nat) (W : World) : Nat := match W.cell? ⟨C, 0, none⟩ with | some (.string t) => t.size | _ => 0
theorem leftOf_eq {C : Nat} {W : World} {t : ByteArray} (h : W.cell? ⟨C, 0, none⟩ = some (.string t)) : leftOf C W = t.size := by unfold leftOf; rw [h]
structure SplitAt (C : Nat) (t : ByteArray) (W : World) : Prop where
  b0 : W.heap[C]? = some (.cells #[.string t] 9 (0, 0))
  b1 : W.heap[C + 1]? = some (.cells #[.string ⟨#[32]⟩] 9 (0, 0))
  b2 : W.heap[C + 2]? = some (.cells #[.int .i64 0] 3 (0, 0))
theorem SplitAt.cells {C : Nat} {t : ByteArray} {W : World} (h : SplitAt C t W) : W.cell? ⟨C, 0, none⟩ = some (.string t) ∧ W.frozen? ⟨C, 0, none⟩ = false ∧ W.cell? ⟨C + 1, 0, none⟩ = some (.string ⟨#[32]⟩) ∧ W.cell? ⟨C + 2, 0, none⟩ = some (.int .i64 0) := by
  obtain ⟨b0, b1, b2⟩ := h
  exact ⟨Boxed.cell b0, Boxed.frozen b0, Boxed.cell b1, Boxed.cell b2⟩
theorem SplitAt.kept {C : Nat} {t : ByteArray} {W W' : World} (h : SplitAt C t W) (k : Kept C (C + 3) W W') : SplitAt C t W' :=
  ⟨(k C (by omega) (by omega)).trans h.b0, (k (C + 1) (by omega) (by omega)).trans h.b1, (k (C + 2) (by omega) (by omega)).trans h.b2⟩
theorem SplitAt.below {C B : Nat} {t : ByteArray} {W W' : World} (h : SplitAt C t W) (k : Below B W W') (hB : C + 3 ≤ B) : SplitAt C t W' :=
  ⟨(k.block C (by omega)).trans h.b0, (k.block (C + 1) (by omega)).trans h.b1, (k.block (C + 2) (by omega)).trans h.b2⟩
theorem SplitAt.set_ {C : Nat} {t : ByteArray} {W : World} (h : SplitAt C t W) (u : ByteArray) : SplitAt C u (W.setCell ⟨C, 0, none⟩ (.string u)) :=
  ⟨Boxed.set _ h.b0, (Below.heap_setCell W ⟨C, 0, none⟩ _ (C + 1) (by simp)).trans h.b1, (Below.heap_setCell W ⟨C, 0, none⟩ _ (C + 2) (by simp)).trans h.b2⟩
set_option maxRecDepth 100000 in
set_option maxHeartbeats 4000000 in
theorem split_seq (n : Nat) (hn : 1 ≤ n) (C : Nat) (s : ByteArray) (hs : s.size ≤ maxLen) (w : World) (hC : C + 3 ≤ w.heap.size) (h : SplitAt C s w) :
    SeqC Fence.wide n Tryz.prog 124 #[.pointer (some ⟨C + 1, 0, none⟩), .pointer (some ⟨C, 0, none⟩), .pointer (some ⟨C + 2, 0, none⟩)] (fun x => .string x) C (C + 3) (piecesS s) w := by
  unfold maxLen at hs
  intro l J Jx W hW hJ hJx hY h0
  have h1 := h.below hW hC
  refine callsIn_of_wp Tryz.func124 rfl trivial ?_ rfl
  simp only [Tryz.ntmps124, List.size_toArray, List.length_cons, List.length_nil, Nat.reduceAdd, Nat.reduceSub, Array.replicate_succ, Array.replicate_zero, List.push_toArray, List.append_toArray, List.nil_append, List.cons_append]
  obtain ⟨c0, f0, c1, c2⟩ := h1.cells
  have H1 := Lib.hid h1
  clear h1
  gi_wp2
  gi_loopw [7] (fun v wr => ∃ (pre : List ByteArray) (rest : ByteArray), rest.size ≤ s.size ∧ Hid (piecesS s = pre ++ piecesS rest) ∧ Hid (SplitAt C rest wr) ∧ Hid (J pre wr)) (fun v wr => leftOf C wr)
  case atStart => exact ⟨[], s, Nat.le_refl _, rfl, H1, h0⟩
  case round =>
    obtain ⟨pre, rest, hle, hp, hat, hj⟩ := hrel
    obtain ⟨d0, g0, d1, d2⟩ := hat.out.cells
    have hidx := Lib.indexByte_ge rest.data.toList 32
    by_cases hix : Lib.indexByte rest.data.toList 32 = -1
    · have hps := pieces_none hix
      obtain ⟨fn, tmps, assign, body, hy, hR⟩ := hY pre rest [] wr (by rw [hp.out, hps]) hj.out
      have HX := Lib.hid hix
      have HP := Lib.hid (hp.out.trans (by rw [hps]))
      clear hix hps hidx
      gi_wp2_with (refine ⟨trivial, ?_⟩; gi_at_call 126; refine (callsIn_wide.2 (Tryz.strings_Index_one _ _ _)).mono ?_; rintro e w' ⟨rfl, rfl⟩; rw [HX.out])
      refine hR.mono ?_
      rintro e W' (⟨rfl, hJ', hk⟩ | ⟨rfl, hJx'⟩)
      · gi_wp2
        go_end0
        exact ⟨⟨_, rfl⟩, .inl (by rw [HP.out]; exact hJ')⟩
      · gi_wp2
        go_end0
        exact ⟨⟨_, rfl⟩, .inr ⟨_, ⟨[], by rw [HP.out]; simp⟩, hJx'⟩⟩
    · obtain ⟨i, hi⟩ : ∃ i : Nat, Lib.indexByte rest.data.toList 32 = i := ⟨(Lib.indexByte rest.data.toList 32).toNat, by omega⟩
      obtain ⟨hlt, hps⟩ := pieces_some hi
      obtain ⟨fn, tmps, assign, body, hy, hR⟩ := hY pre (rest.extract 0 i) (piecesS (rest.extract (i + 1) rest.size)) wr (by rw [hp.out, hps]) hj.out
      have HX := Lib.hid hi
      have HP := Lib.hid (hp.out.trans (by rw [hps]))
      clear hix hps hidx hi
      have k0 : (0 : Int) ≤ (i : Int) := by omega
      have k1 : (i : Int) ≤ (rest.size : Int) := by omega
      have k2 : (0 : Int) ≤ (i : Int) + 1 := by omega
      have k3 : (i : Int) + 1 ≤ (rest.size : Int) := by omega
      gi_wp2_with (refine ⟨trivial, ?_⟩; gi_at_call 126; refine (callsIn_wide.2 (Tryz.strings_Index_one _ _ _)).mono ?_; rintro e w' ⟨rfl, rfl⟩; rw [HX.out])
      refine hR.mono ?_
      rintro e W' (⟨rfl, hJ', hk⟩ | ⟨rfl, hJx'⟩)
      · have hat' := hat.out.kept hk
        obtain ⟨m0, m1, m2, m3⟩ := hat'.cells
        have Hset := Lib.hid (hat'.set_ (rest.extract (i + 1) rest.size))
        have HJ2 := Lib.hid (hJ _ _ _ hJ' (grownBy_setCell' W' C (.string (rest.extract (i + 1) rest.size))))
        have hsz : (rest.extract (i + 1) rest.size).size = rest.size - (i + 1) := by rw [ByteArray.size_extract]; omega
        have hl0 := leftOf_eq d0
        have hl1 := leftOf_eq Hset.out.cells.1
        rw [hsz] at hl1
        have hle2 : (rest.extract (i + 1) rest.size).size ≤ s.size := by omega
        have HL0 := Lib.hid hl0
        have HL1 := Lib.hid hl1
        clear hat' hl0 hl1 hsz hJ' hk
        gi_wp2
        go_roundw
        case rel => exact ⟨pre ++ [rest.extract 0 i], rest.extract (i + 1) rest.size, hle2, Lib.hid (by rw [HP.out]; simp), Hset, HJ2⟩
        case measure => rw [HL0.out, HL1.out]; omega
      · gi_wp2
        refine bodyPost_ret (results_none rfl _ _ _) rfl ?_
        exact ⟨⟨_, rfl⟩, .inr ⟨_, ⟨piecesS (rest.extract (i + 1) rest.size), by rw [HP.out]; simp⟩, hJx'⟩⟩
end Go.Proofs.YtadifolonbkamaaGreatDoor.Sn
