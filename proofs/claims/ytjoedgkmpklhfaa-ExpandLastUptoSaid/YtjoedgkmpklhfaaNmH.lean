/- The walks of package name's hexByte and Unescape. -/
import Derived.Test.YtjoedgkmpklhfaaNmG
import Derived.Laws.BitsAllLaws
import Derived.Laws.BitsLemmas
namespace Go.Proofs.Ytjoedgkmpklhfaa
open Go.RowKit

/-- Which digit a byte is, or -1. -/
def hexI (c : UInt8) : Int := Lib.indexByte [48, 49, 50, 51, 52, 53, 54, 55, 56, 57, 97, 98, 99, 100, 101, 102] c

theorem hexI_cases (c : UInt8) : hexI c = -1 ∨ ∃ n : Nat, n < 16 ∧ hexI c = n := by
  have H : ∀ m : Fin 256, hexI m.1.toUInt8 = -1 ∨ ∃ n : Fin 16, hexI m.1.toUInt8 = (n.1 : Int) := by decide +kernel
  have e : c.toNat.toUInt8 = c := by simp
  rcases H ⟨c.toNat, c.toNat_lt⟩ with h | ⟨n, h⟩
  · exact .inl (by rw [← e]; exact h)
  · exact .inr ⟨n.1, n.2, by rw [← e]; exact h⟩

theorem hexIx_any (c : UInt8) (w : World) :
    Calls Try.prog 63 #[.string ⟨#[48, 49, 50, 51, 52, 53, 54, 55, 56, 57, 97, 98, 99, 100, 101, 102]⟩, .int .u8 c.toNat] w fun e w' => e = .returned (.int .i64 (hexI c)) ∧ w = w' := by
  refine (Try.strings_IndexByte _ _ _).mono ?_
  rintro e w' ⟨rfl, rfl⟩
  refine ⟨?_, rfl⟩
  unfold hexI
  rw [show (((c.toNat : Nat) : Int)).toNat.toUInt8 = c by simp]

theorem or_hex (a b : Nat) (ha : a < 16) (hb : b < 16) : bits .or .i64 ((a : Int) * 16) (b : Int) % 256 = 16 * (a : Int) + (b : Int) := by
  have H : ∀ a b : Fin 16, bits .or .i64 ((a.1 : Int) * 16) (b.1 : Int) % 256 = 16 * (a.1 : Int) + (b.1 : Int) := by decide +kernel
  exact H ⟨a, ha⟩ ⟨b, hb⟩

/-- The byte that x and two digits at the beginning stand for. -/
def hexL : List UInt8 → Int × Bool
  | x :: a :: b :: _ => if x = 120 ∧ 0 ≤ hexI a ∧ 0 ≤ hexI b then (16 * hexI a + hexI b, true) else (0, false)
  | _ => (0, false)
def hexS (s : ByteArray) : Int × Bool := hexL s.data.toList
theorem hexS_short (s : ByteArray) (h : s.size < 3) : hexS s = (0, false) := by
  obtain ⟨⟨l⟩⟩ := s
  match l, h with
  | [], _ => rfl
  | [_], _ => rfl
  | [_, _], _ => rfl
  | _ :: _ :: _ :: _, h => simp [ByteArray.size] at h; omega
theorem hexS_three (s : ByteArray) (h : 3 ≤ s.size) : hexS s = if s[0] = 120 ∧ 0 ≤ hexI s[1] ∧ 0 ≤ hexI s[2] then (16 * hexI s[1] + hexI s[2], true) else (0, false) := by
  obtain ⟨⟨l⟩⟩ := s
  match l, h with
  | [], h => simp [ByteArray.size] at h
  | [_], h => simp [ByteArray.size] at h
  | [_, _], h => simp [ByteArray.size] at h
  | _ :: _ :: _ :: _, _ => rfl

theorem ret_hex {a c : Int} {b d : Bool} (h : a = c) (k : b = d) : Ending.returned (.tuple #[.int .u8 a, .bool b]) = .returned (.tuple #[.int .u8 c, .bool d]) := by rw [h, k]

set_option maxHeartbeats 1000000 in
theorem hexByte_short (s : ByteArray) (hm : s.size ≤ maxLen) (h3 : s.size < 3) (w : World) :
    Calls Try.prog 53 #[.string s] w fun e w' => e = .returned (.tuple #[.int .u8 (hexS s).1, .bool (hexS s).2]) ∧ w = w' := by
  unfold maxLen at hm
  rw [hexS_short s h3]
  go_enter Try.func53, Try.ntmps53
  go_wp2_with fail
  go_ret2
  exact ⟨rfl, rfl⟩

set_option maxHeartbeats 1000000 in
theorem hexByte_x (s : ByteArray) (hm : s.size ≤ maxLen) (h3 : 3 ≤ s.size) (hx : ¬ s[0] = 120) (w : World) :
    Calls Try.prog 53 #[.string s] w fun e w' => e = .returned (.tuple #[.int .u8 (hexS s).1, .bool (hexS s).2]) ∧ w = w' := by
  unfold maxLen at hm
  have hx' : ((s[0].toNat : Int) != 120) = true := by
    simp
    intro e
    exact hx (UInt8.toNat_inj.1 (by show _ = 120; omega))
  rw [hexS_three s h3, if_neg (by simp [hx])]
  clear hx
  go_enter Try.func53, Try.ntmps53
  go_wp2_with fail
  go_ret2
  exact ⟨rfl, rfl⟩

set_option maxHeartbeats 1000000 in
theorem hexByte_1 (s : ByteArray) (hm : s.size ≤ maxLen) (h3 : 3 ≤ s.size) (hx : s[0] = 120) (h1 : hexI s[1] = -1) (w : World) :
    Calls Try.prog 53 #[.string s] w fun e w' => e = .returned (.tuple #[.int .u8 (hexS s).1, .bool (hexS s).2]) ∧ w = w' := by
  unfold maxLen at hm
  have hx' : ((s[0].toNat : Int) != 120) = false := by rw [hx]; rfl
  have h3' : (3 : Int) ≤ s.size := by omega
  have h3t : decide ((s.size : Int) < 3) = false := by simp; omega
  rw [hexS_three s h3, if_neg (by rw [h1]; simp)]
  have H1 := Lib.hid h1
  clear h1 hx
  go_enter Try.func53, Try.ntmps53
  go_wp2_with fail
  refine (hexIx_any _ _).mono ?_
  rintro e w' ⟨rfl, rfl⟩
  rw [H1.out]
  go_wp2_with fail
  refine (hexIx_any _ _).mono ?_
  rintro e w' ⟨rfl, rfl⟩
  go_wp2_with fail
  go_ret2
  exact ⟨rfl, rfl⟩

set_option maxHeartbeats 1000000 in
theorem hexByte_2 (s : ByteArray) (hm : s.size ≤ maxLen) (h3 : 3 ≤ s.size) (hx : s[0] = 120) (a : Nat) (h1 : hexI s[1] = a) (h2 : hexI s[2] = -1) (w : World) :
    Calls Try.prog 53 #[.string s] w fun e w' => e = .returned (.tuple #[.int .u8 (hexS s).1, .bool (hexS s).2]) ∧ w = w' := by
  unfold maxLen at hm
  have hx' : ((s[0].toNat : Int) != 120) = false := by rw [hx]; rfl
  have h3' : (3 : Int) ≤ s.size := by omega
  have h3t : decide ((s.size : Int) < 3) = false := by simp; omega
  rw [hexS_three s h3, if_neg (by rw [h2]; simp)]
  have H1 := Lib.hid h1
  have H2 := Lib.hid h2
  clear h1 h2 hx
  go_enter Try.func53, Try.ntmps53
  go_wp2_with fail
  refine (hexIx_any _ _).mono ?_
  rintro e w' ⟨rfl, rfl⟩
  rw [H1.out]
  go_wp2_with fail
  refine (hexIx_any _ _).mono ?_
  rintro e w' ⟨rfl, rfl⟩
  rw [H2.out]
  go_wp2_with fail
  go_ret2
  exact ⟨rfl, rfl⟩

set_option maxHeartbeats 1000000 in
theorem hexByte_3 (s : ByteArray) (hm : s.size ≤ maxLen) (h3 : 3 ≤ s.size) (hx : s[0] = 120) (a b : Nat) (ha : a < 16) (hb : b < 16) (h1 : hexI s[1] = a) (h2 : hexI s[2] = b) (w : World) :
    Calls Try.prog 53 #[.string s] w fun e w' => e = .returned (.tuple #[.int .u8 (hexS s).1, .bool (hexS s).2]) ∧ w = w' := by
  unfold maxLen at hm
  have hx' : ((s[0].toNat : Int) != 120) = false := by rw [hx]; rfl
  have h3' : (3 : Int) ≤ s.size := by omega
  have h3t : decide ((s.size : Int) < 3) = false := by simp; omega
  rw [hexS_three s h3, if_pos ⟨hx, by omega, by omega⟩]
  have H1 := Lib.hid h1
  have H2 := Lib.hid h2
  clear h1 h2 hx
  go_enter Try.func53, Try.ntmps53
  go_wp2_with fail
  refine (hexIx_any _ _).mono ?_
  rintro e w' ⟨rfl, rfl⟩
  rw [H1.out]
  go_wp2_with fail
  refine (hexIx_any _ _).mono ?_
  rintro e w' ⟨rfl, rfl⟩
  rw [H2.out]
  go_wp2_with fail
  go_ret2
  exact ⟨ret_hex (by rw [H1.out, H2.out]; exact or_hex a b ha hb) rfl, rfl⟩

theorem hexByte_any (s : ByteArray) (hm : s.size ≤ maxLen) (w : World) :
    Calls Try.prog 53 #[.string s] w fun e w' => e = .returned (.tuple #[.int .u8 (hexS s).1, .bool (hexS s).2]) ∧ w = w' := by
  by_cases h3 : 3 ≤ s.size
  · by_cases hx : s[0] = 120
    · rcases hexI_cases s[1] with h1 | ⟨a, ha, h1⟩
      · exact hexByte_1 s hm h3 hx h1 w
      · rcases hexI_cases s[2] with h2 | ⟨b, hb, h2⟩
        · exact hexByte_2 s hm h3 hx a h1 h2 w
        · exact hexByte_3 s hm h3 hx a b ha hb h1 h2 w
    · exact hexByte_x s hm h3 hx w
  · exact hexByte_short s hm (by omega) w
end Go.Proofs.Ytjoedgkmpklhfaa
