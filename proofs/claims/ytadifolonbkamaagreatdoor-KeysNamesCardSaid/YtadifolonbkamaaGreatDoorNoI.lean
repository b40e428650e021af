/- The walk of package name's Unescape. -/
import Derived.Test.YtadifolonbkamaaGreatDoorNoH
namespace Go.Proofs.YtadifolonbkamaaGreatDoor.Nm
open Go.RowKit

/-- The text that an escaped one stands for. -/
def unescL : List UInt8 → Option (List UInt8)
  | [] => some []
  | c :: r =>
    if c = 45 then (unescL r).map (47 :: ·)
    else if plainB c.toNat = true then (unescL r).map (c :: ·)
    else if c = 92 then
      match r with
      | x :: a :: b :: r' => if x = 120 ∧ 0 ≤ hexI a ∧ 0 ≤ hexI b then (unescL r').map ((16 * hexI a + hexI b).toNat.toUInt8 :: ·) else none
      | _ => none
    else none
def unescS (s : ByteArray) : ByteArray := str ((unescL s.data.toList).getD [])
def unescOk (s : ByteArray) : Bool := (unescL s.data.toList).isSome

theorem unescL_slash (c : UInt8) (r : List UInt8) (h : c = 45) : unescL (c :: r) = (unescL r).map (47 :: ·) := by
  rw [unescL.eq_def]; simp [h]
theorem unescL_plain (c : UInt8) (r : List UInt8) (h : plainB c.toNat = true) : unescL (c :: r) = (unescL r).map (c :: ·) := by
  have h1 : c ≠ 45 := by rintro rfl; exact absurd h (by decide)
  rw [unescL.eq_def]; simp [h1, h]
theorem unescL_hex (c : UInt8) (r : List UInt8) (h : c = 92) : unescL (c :: r) = if (hexL r).2 = true then (unescL (r.drop 3)).map ((hexL r).1.toNat.toUInt8 :: ·) else none := by
  subst h
  rw [unescL.eq_def]
  simp only []
  rw [if_neg (by decide), if_neg (by decide), if_pos trivial]
  match r with
  | [] => rfl
  | [_] => rfl
  | [_, _] => rfl
  | x :: a :: b :: r' =>
    by_cases hc : x = 120 ∧ 0 ≤ hexI a ∧ 0 ≤ hexI b
    · rw [show hexL (x :: a :: b :: r') = (16 * hexI a + hexI b, true) from if_pos hc]
      show (if _ then _ else _) = _
      rw [if_pos hc]
      rfl
    · rw [show hexL (x :: a :: b :: r') = (0, false) from if_neg hc]
      show (if _ then _ else _) = _
      rw [if_neg hc]
      rfl
theorem unescL_other (c : UInt8) (r : List UInt8) (h1 : c ≠ 45) (h2 : plainB c.toNat = false) (h3 : c ≠ 92) : unescL (c :: r) = none := by
  rw [unescL.eq_def]; simp [h1, h2, h3]
theorem hexL_range (r : List UInt8) : 0 ≤ (hexL r).1 ∧ (hexL r).1 < 256 ∧ ((hexL r).2 = true → 3 ≤ r.length) := by
  match r with
  | [] => simp [hexL]
  | [_] => simp [hexL]
  | [_, _] => simp [hexL]
  | x :: a :: b :: r' =>
    by_cases hc : x = 120 ∧ 0 ≤ hexI a ∧ 0 ≤ hexI b
    · rw [show hexL (x :: a :: b :: r') = (16 * hexI a + hexI b, true) from if_pos hc]
      obtain ⟨_, ha, hb⟩ := hc
      rcases hexI_cases a with h | ⟨n, hn, h⟩
      · omega
      · rcases hexI_cases b with h' | ⟨n', hn', h'⟩
        · omega
        · rw [h, h']; simp; omega
    · rw [show hexL (x :: a :: b :: r') = (0, false) from if_neg hc]
      simp

/-- What the loop knows at place k: 'acc' is written, and the rest decides. -/
def unescAt (s : ByteArray) (k : Nat) (acc : List UInt8) : Prop := unescL s.data.toList = (unescL (s.data.toList.drop k)).map (acc ++ ·)
theorem drop_at (s : ByteArray) (k : Nat) (h : k < s.size) : s.data.toList.drop k = s[k] :: s.data.toList.drop (k + 1) := by
  rw [List.drop_eq_getElem_cons (by simpa using h)]; rfl
theorem map_snoc (o : Option (List UInt8)) (acc : List UInt8) (v : UInt8) : (o.map (v :: ·)).map (acc ++ ·) = o.map ((acc ++ [v]) ++ ·) := by
  cases o <;> simp
theorem unescAt_zero (s : ByteArray) : unescAt s 0 [] := by
  unfold unescAt
  rw [List.drop_zero]
  cases unescL s.data.toList <;> rfl
theorem unescAt_slash {s : ByteArray} {k : Nat} {acc : List UInt8} (h : unescAt s k acc) (hk : k < s.size) (hc : s[k] = 45) : unescAt s (k + 1) (acc ++ [47]) := by
  unfold unescAt at *; rw [h, drop_at s k hk, unescL_slash _ _ hc, map_snoc]
theorem unescAt_plain {s : ByteArray} {k : Nat} {acc : List UInt8} (h : unescAt s k acc) (hk : k < s.size) (hc : plainB s[k].toNat = true) : unescAt s (k + 1) (acc ++ [s[k]]) := by
  unfold unescAt at *; rw [h, drop_at s k hk, unescL_plain _ _ hc, map_snoc]
theorem tail_list (s : ByteArray) (k : Nat) : (s.extract (k + 1) s.size).data.toList = s.data.toList.drop (k + 1) := by
  rw [Lib.extract_data, List.take_of_length_le]
  rw [List.length_drop, Lib.size_eq]
  exact Nat.le_refl _
theorem unescAt_hex {s : ByteArray} {k : Nat} {acc : List UInt8} (h : unescAt s k acc) (hk : k < s.size) (hc : s[k] = 92) (hx : (hexS (s.extract (k + 1) s.size)).2 = true) :
    k + 4 ≤ s.size ∧ unescAt s (k + 4) (acc ++ [(hexS (s.extract (k + 1) s.size)).1.toNat.toUInt8]) := by
  unfold hexS at *
  rw [tail_list] at *
  have hr := (hexL_range (s.data.toList.drop (k + 1))).2.2 hx
  rw [List.length_drop] at hr
  refine ⟨by have : s.data.toList.length = s.size := by simp
             omega, ?_⟩
  unfold unescAt at *
  rw [h, drop_at s k hk, unescL_hex _ _ hc, if_pos hx, map_snoc, List.drop_drop]
theorem unescAt_nohex {s : ByteArray} {k : Nat} {acc : List UInt8} (h : unescAt s k acc) (hk : k < s.size) (hc : s[k] = 92) (hx : (hexS (s.extract (k + 1) s.size)).2 = false) : unescL s.data.toList = none := by
  unfold hexS at *
  rw [tail_list] at *
  unfold unescAt at *
  rw [h, drop_at s k hk, unescL_hex _ _ hc, if_neg (by rw [hx]; simp)]
  rfl
theorem unescAt_other {s : ByteArray} {k : Nat} {acc : List UInt8} (h : unescAt s k acc) (hk : k < s.size) (h1 : s[k] ≠ 45) (h2 : plainB s[k].toNat = false) (h3 : s[k] ≠ 92) : unescL s.data.toList = none := by
  unfold unescAt at *
  rw [h, drop_at s k hk, unescL_other _ _ h1 h2 h3]
  rfl
theorem unescAt_end {s : ByteArray} {k : Nat} {acc : List UInt8} (h : unescAt s k acc) (hk : s.size ≤ k) : unescL s.data.toList = some acc := by
  unfold unescAt at *
  rw [h, List.drop_of_length_le (by simpa using hk)]
  simp [unescL]
theorem hex_cell (s : ByteArray) : (hexS s).1 = (((hexS s).1.toNat.toUInt8.toNat : Nat) : Int) := by
  have := hexL_range s.data.toList
  unfold hexS
  simp
  omega
theorem unesc_none {s : ByteArray} (h : unescL s.data.toList = none) : unescS s = ⟨#[]⟩ ∧ unescOk s = false := by
  unfold unescS unescOk; rw [h]; exact ⟨rfl, rfl⟩
theorem unesc_some {s : ByteArray} {l : List UInt8} (h : unescL s.data.toList = some l) : unescS s = ⟨l.toArray⟩ ∧ unescOk s = true := by
  unfold unescS unescOk; rw [h]; exact ⟨rfl, rfl⟩
theorem ret_strb {a c : ByteArray} {b d : Bool} (h : a = c ∧ b = d) : Ending.returned (.tuple #[.string c, .bool d]) = .returned (.tuple #[.string a, .bool b]) := by rw [h.1, h.2]

end Go.Proofs.YtadifolonbkamaaGreatDoor.Nm
