/- The walks of package name's hexByte and Unescape. -/
import Derived.Test.YtadifolonbkamaaGreatDoorNoG
import Derived.Laws.BitsAllLaws
import Derived.Laws.BitsLemmas
namespace Go.Proofs.YtadifolonbkamaaGreatDoor.Nm
open Go.RowKit

/-- Which digit a byte is, or -1. -/
def hexI (c : UInt8) : Int := Lib.indexByte [48, 49, 50, 51, 52, 53, 54, 55, 56, 57, 97, 98, 99, 100, 101, 102] c

theorem hexI_cases (c : UInt8) : hexI c = -1 ∨ ∃ n : Nat, n < 16 ∧ hexI c = n := by
  have H : ∀ m : Fin 256, hexI m.1.toUInt8 = -1 ∨ ∃ n : Fin 16, hexI m.1.toUInt8 = (n.1 : Int) := by decide +kernel
  have e : c.toNat.toUInt8 = c := by simp
  rcases H ⟨c.toNat, c.toNat_lt⟩ with h | ⟨n, h⟩
  · exact .inl (by rw [← e]; exact h)
  · exact .inr ⟨n.1, n.2, by rw [← e]; exact h⟩

theorem hexIx_any (c : UInt8) (w : World) :
    Calls Tryz.prog 176 #[.string ⟨#[48, 49, 50, 51, 52, 53, 54, 55, 56, 57, 97, 98, 99, 100, 101, 102]⟩, .int .u8 c.toNat] w fun e w' => e = .returned (.int .i64 (hexI c)) ∧ w = w' := by
  refine (Tryz.strings_IndexByte _ _ _).mono ?_
  rintro e w' ⟨rfl, rfl⟩
  refine ⟨?_, rfl⟩
  unfold hexI
  rw [show (((c.toNat : Nat) : Int)).toNat.toUInt8 = c by simp]

theorem or_hex (a b : Nat) (ha : a < 16) (hb : b < 16) : bits .or .i64 ((a : Int) * 16) (b : Int) % 256 = 16 * (a : Int) + (b : Int) := by
  have H : ∀ a b : Fin 16, bits .or .i64 ((a.1 : Int) * 16) (b.1 : Int) % 256 = 16 * (a.1 : Int) + (b.1 : Int) := by decide +kernel
  exact H ⟨a, ha⟩ ⟨b, hb⟩

/-- The byte that x and two digits at the beginning stand for. -/
def hexL : List UInt8 → Int × Bool
  | x :: a :: b :: _ => if x = 120 ∧ 0 ≤ hexI a ∧ 0 ≤ hexI b then (16 * hexI a + hexI b, true) else (0, false)
  | _ => (0, false)
def hexS (s : ByteArray) : Int × Bool := hexL s.data.toList
theorem hexS_short (s : ByteArray) (h : s.size < 3) : hexS s = (0, false) := by
  obtain ⟨⟨l⟩⟩ := s
  match l, h with
  | [], _ => rfl
  | [_], _ => rfl
  | [_, _], _ => rfl
  | _ :: _ :: _ :: _, h => simp [ByteArray.size] at h; omega
theorem hexS_three (s : ByteArray) (h : 3 ≤ s.size) : hexS s = if s[0] = 120 ∧ 0 ≤ hexI s[1] ∧ 0 ≤ hexI s[2] then (16 * hexI s[1] + hexI s[2], true) else (0, false) := by
  obtain ⟨⟨l⟩⟩ := s
  match l, h with
  | [], h => simp [ByteArray.size] at h
  | [_], h => simp [ByteArray.size] at h
  | [_, _], h => simp [ByteArray.size] at h
  | _ :: _ :: _ :: _, _ => rfl

theorem ret_hex {a c : Int} {b d : Bool} (h : a = c) (k : b = d) : Ending.returned (.tuple #[.int .u8 a, .bool b]) = .returned (.tuple #[.int .u8 c, .bool d]) := by rw [h, k]

end Go.Proofs.YtadifolonbkamaaGreatDoor.Nm
