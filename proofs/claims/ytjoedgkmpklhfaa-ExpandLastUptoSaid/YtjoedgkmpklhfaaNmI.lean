/- The walk of package name's Unescape. -/
import Derived.Test.YtjoedgkmpklhfaaNmH
namespace Go.Proofs.Ytjoedgkmpklhfaa
open Go.RowKit

/-- The text that an escaped one stands for. -/
def unescL : List UInt8 → Option (List UInt8)
  | [] => some []
  | c :: r =>
    if c = 45 then (unescL r).map (47 :: ·)
    else if plainB c.toNat = true then (unescL r).map (c :: ·)
    else if c = 92 then
      match r with
      | x :: a :: b :: r' => if x = 120 ∧ 0 ≤ hexI a ∧ 0 ≤ hexI b then (unescL r').map ((16 * hexI a + hexI b).toNat.toUInt8 :: ·) else none
      | _ => none
    else none
def unescS (s : ByteArray) : ByteArray := str ((unescL s.data.toList).getD [])
def unescOk (s : ByteArray) : Bool := (unescL s.data.toList).isSome

theorem unescL_slash (c : UInt8) (r : List UInt8) (h : c = 45) : unescL (c :: r) = (unescL r).map (47 :: ·) := by
  rw [unescL.eq_def]; simp [h]
theorem unescL_plain (c : UInt8) (r : List UInt8) (h : plainB c.toNat = true) : unescL (c :: r) = (unescL r).map (c :: ·) := by
  have h1 : c ≠ 45 := by rintro rfl; exact absurd h (by decide)
  rw [unescL.eq_def]; simp [h1, h]
theorem unescL_hex (c : UInt8) (r : List UInt8) (h : c = 92) : unescL (c :: r) = if (hexL r).2 = true then (unescL (r.drop 3)).map ((hexL r).1.toNat.toUInt8 :: ·) else none := by
  subst h
  rw [unescL.eq_def]
  simp only []
  rw [if_neg (by decide), if_neg (by decide), if_pos trivial]
  match r with
  | [] => rfl
  | [_] => rfl
  | [_, _] => rfl
  | x :: a :: b :: r' =>
    by_cases hc : x = 120 ∧ 0 ≤ hexI a ∧ 0 ≤ hexI b
    · rw [show hexL (x :: a :: b :: r') = (16 * hexI a + hexI b, true) from if_pos hc]
      show (if _ then _ else _) = _
      rw [if_pos hc]
      rfl
    · rw [show hexL (x :: a :: b :: r') = (0, false) from if_neg hc]
      show (if _ then _ else _) = _
      rw [if_neg hc]
      rfl
theorem unescL_other (c : UInt8) (r : List UInt8) (h1 : c ≠ 45) (h2 : plainB c.toNat = false) (h3 : c ≠ 92) : unescL (c :: r) = none := by
  rw [unescL.eq_def]; simp [h1, h2, h3]
theorem hexL_range (r : List UInt8) : 0 ≤ (hexL r).1 ∧ (hexL r).1 < 256 ∧ ((hexL r).2 = true → 3 ≤ r.length) := by
  match r with
  | [] => simp [hexL]
  | [_] => simp [hexL]
  | [_, _] => simp [hexL]
  | x :: a :: b :: r' =>
    by_cases hc : x = 120 ∧ 0 ≤ hexI a ∧ 0 ≤ hexI b
    · rw [show hexL (x :: a :: b :: r') = (16 * hexI a + hexI b, true) from if_pos hc]
      obtain ⟨_, ha, hb⟩ := hc
      rcases hexI_cases a with h | ⟨n, hn, h⟩
      · omega
      · rcases hexI_cases b with h' | ⟨n', hn', h'⟩
        · omega
        · rw [h, h']; simp; omega
    · rw [show hexL (x :: a :: b :: r') = (0, false) from if_neg hc]
      simp

/-- What the loop knows at place k: 'acc' is written, and the rest decides. -/
def unescAt (s : ByteArray) (k : Nat) (acc : List UInt8) : Prop := unescL s.data.toList = (unescL (s.data.toList.drop k)).map (acc ++ ·)
theorem drop_at (s : ByteArray) (k : Nat) (h : k < s.size) : s.data.toList.drop k = s[k] :: s.data.toList.drop (k + 1) := by
  rw [List.drop_eq_getElem_cons (by simpa using h)]; rfl
theorem map_snoc (o : Option (List UInt8)) (acc : List UInt8) (v : UInt8) : (o.map (v :: ·)).map (acc ++ ·) = o.map ((acc ++ [v]) ++ ·) := by
  cases o <;> simp
theorem unescAt_zero (s : ByteArray) : unescAt s 0 [] := by
  unfold unescAt
  rw [List.drop_zero]
  cases unescL s.data.toList <;> rfl
theorem unescAt_slash {s : ByteArray} {k : Nat} {acc : List UInt8} (h : unescAt s k acc) (hk : k < s.size) (hc : s[k] = 45) : unescAt s (k + 1) (acc ++ [47]) := by
  unfold unescAt at *; rw [h, drop_at s k hk, unescL_slash _ _ hc, map_snoc]
theorem unescAt_plain {s : ByteArray} {k : Nat} {acc : List UInt8} (h : unescAt s k acc) (hk : k < s.size) (hc : plainB s[k].toNat = true) : unescAt s (k + 1) (acc ++ [s[k]]) := by
  unfold unescAt at *; rw [h, drop_at s k hk, unescL_plain _ _ hc, map_snoc]
theorem tail_list (s : ByteArray) (k : Nat) : (s.extract (k + 1) s.size).data.toList = s.data.toList.drop (k + 1) := by
  rw [Lib.extract_data, List.take_of_length_le]
  rw [List.length_drop, Lib.size_eq]
  exact Nat.le_refl _
theorem unescAt_hex {s : ByteArray} {k : Nat} {acc : List UInt8} (h : unescAt s k acc) (hk : k < s.size) (hc : s[k] = 92) (hx : (hexS (s.extract (k + 1) s.size)).2 = true) :
    k + 4 ≤ s.size ∧ unescAt s (k + 4) (acc ++ [(hexS (s.extract (k + 1) s.size)).1.toNat.toUInt8]) := by
  unfold hexS at *
  rw [tail_list] at *
  have hr := (hexL_range (s.data.toList.drop (k + 1))).2.2 hx
  rw [List.length_drop] at hr
  refine ⟨by have : s.data.toList.length = s.size := by simp
             omega, ?_⟩
  unfold unescAt at *
  rw [h, drop_at s k hk, unescL_hex _ _ hc, if_pos hx, map_snoc, List.drop_drop]
theorem unescAt_nohex {s : ByteArray} {k : Nat} {acc : List UInt8} (h : unescAt s k acc) (hk : k < s.size) (hc : s[k] = 92) (hx : (hexS (s.extract (k + 1) s.size)).2 = false) : unescL s.data.toList = none := by
  unfold hexS at *
  rw [tail_list] at *
  unfold unescAt at *
  rw [h, drop_at s k hk, unescL_hex _ _ hc, if_neg (by rw [hx]; simp)]
  rfl
theorem unescAt_other {s : ByteArray} {k : Nat} {acc : List UInt8} (h : unescAt s k acc) (hk : k < s.size) (h1 : s[k] ≠ 45) (h2 : plainB s[k].toNat = false) (h3 : s[k] ≠ 92) : unescL s.data.toList = none := by
  unfold unescAt at *
  rw [h, drop_at s k hk, unescL_other _ _ h1 h2 h3]
  rfl
theorem unescAt_end {s : ByteArray} {k : Nat} {acc : List UInt8} (h : unescAt s k acc) (hk : s.size ≤ k) : unescL s.data.toList = some acc := by
  unfold unescAt at *
  rw [h, List.drop_of_length_le (by simpa using hk)]
  simp [unescL]
theorem hex_cell (s : ByteArray) : (hexS s).1 = (((hexS s).1.toNat.toUInt8.toNat : Nat) : Int) := by
  have := hexL_range s.data.toList
  unfold hexS
  simp
  omega
theorem unesc_none {s : ByteArray} (h : unescL s.data.toList = none) : unescS s = ⟨#[]⟩ ∧ unescOk s = false := by
  unfold unescS unescOk; rw [h]; exact ⟨rfl, rfl⟩
theorem unesc_some {s : ByteArray} {l : List UInt8} (h : unescL s.data.toList = some l) : unescS s = ⟨l.toArray⟩ ∧ unescOk s = true := by
  unfold unescS unescOk; rw [h]; exact ⟨rfl, rfl⟩
theorem ret_strb {a c : ByteArray} {b d : Bool} (h : a = c ∧ b = d) : Ending.returned (.tuple #[.string c, .bool d]) = .returned (.tuple #[.string a, .bool b]) := by rw [h.1, h.2]

set_option maxHeartbeats 2000000 in
theorem Unescape_any (s : ByteArray) (hs : s.size ≤ 140737488351232) (w : World) :
    Calls Try.prog 38 #[.string s] w fun e w' => e = .returned (.tuple #[.string (unescS s), .bool (unescOk s)]) ∧ Below w.heap.size w w' := by
  have hfresh := Lib.hid (Lib.IsBuilderF.of (Lib.fresh_isBuilder 42 5 w))
  have hat0 := Lib.hid (unescAt_zero s)
  go_enter Try.func38, Try.ntmps38
  go_wp2_with fail
  go_loopw [5] (fun i wr => ∃ (k : Nat) (acc : List UInt8), k ≤ s.size ∧ acc.length ≤ k ∧ i = .int .i64 k ∧ Hid (unescAt s k acc) ∧ Hid (Lib.IsBuilderF 42 5 w.heap.size w.heap.size (Lib.byteCells acc) wr) ∧ Hid (Below w.heap.size w wr)) (fun i wr => s.size - (intOf i).toNat)
  case atStart => exact ⟨0, [], Nat.zero_le _, Nat.le_refl _, rfl, hat0, hfresh, (Below.refl _ _).alloc (Nat.le_refl _) _⟩
  case round =>
    obtain ⟨k, acc, hk, hacc, rfl, hat, hB, hb⟩ := hrel
    have hbs : w.heap.size ≤ wr.heap.size := hb.out.size
    have hlen : (Lib.byteCells acc).length ≤ k := by rw [Lib.byteCells_length]; omega
    by_cases hlt : k < s.size
    · have hr := s[k].toNat_lt
      by_cases h45 : s[k] = 45
      · have h45' : ((s[k].toNat : Int) == 45) = true := by rw [h45]; rfl
        have hat1 := Lib.hid (unescAt_slash hat.out hlt h45)
        clear h45
        go_wp2_with fail
        refine (writeByte_any _ _ _ _ _ hB.out (by omega) hbs).mono ?_
        rintro e w1 ⟨rfl, hB1, hb1⟩
        have HB1 : Hid (Lib.IsBuilderF 42 5 w.heap.size w.heap.size (Lib.byteCells (acc ++ [47])) w1) := by rw [Lib.byteCells_append]; exact hB1
        have Hb1 := Lib.hid (hb.out.trans hb1)
        clear hB1 hb1
        go_wp2_with fail
        go_roundw
        case rel => exact ⟨k + 1, acc ++ [47], by omega, by simp; omega, by go_num, hat1, HB1, Hb1⟩
        case measure => simp [intOf]; omega
      · have h45' : ((s[k].toNat : Int) == 45) = false := by
          simp
          intro e
          exact h45 (UInt8.toNat_inj.1 (by show _ = 45; omega))
        rcases hp : plainB s[k].toNat with _ | _
        · by_cases h92 : s[k] = 92
          · have h92' : ((s[k].toNat : Int) == 92) = true := by rw [h92]; rfl
            rcases hx : (hexS (s.extract (k + 1) s.size)).2 with _ | _
            · have hN := Lib.hid (unesc_none (unescAt_nohex hat.out hlt h92 hx))
              clear h45 h92
              go_wp2_with fail
              refine (isPlain_any _ (by omega) _).mono ?_
              rintro e w' ⟨rfl, rfl⟩
              go_wp2_with fail
              refine (hexByte_any _ (by rw [ByteArray.size_extract]; unfold maxLen; omega) _).mono ?_
              rintro e w' ⟨rfl, rfl⟩
              go_wp2_with fail
              go_ret2
              exact ⟨ret_strb hN.out, hb⟩
            · obtain ⟨hk4, hat1⟩ := unescAt_hex hat.out hlt h92 hx
              have hat1' := Lib.hid hat1
              clear h45 h92 hat1
              go_wp2_with fail
              refine (isPlain_any _ (by omega) _).mono ?_
              rintro e w' ⟨rfl, rfl⟩
              go_wp2_with fail
              refine (hexByte_any _ (by rw [ByteArray.size_extract]; unfold maxLen; omega) _).mono ?_
              rintro e w' ⟨rfl, rfl⟩
              go_wp2_with fail
              refine (writeByte_any _ _ _ _ _ hB.out (by omega) hbs).mono ?_
              rintro e w1 ⟨rfl, hB1, hb1⟩
              have HB1 : Hid (Lib.IsBuilderF 42 5 w.heap.size w.heap.size (Lib.byteCells (acc ++ [(hexS (s.extract (k + 1) s.size)).1.toNat.toUInt8])) w1) := by
                rw [Lib.byteCells_append]
                rw [hex_cell] at hB1
                exact hB1
              have Hb1 := Lib.hid (hb.out.trans hb1)
              clear hB1 hb1
              go_wp2_with fail
              go_roundw
              case rel => exact ⟨k + 4, _, by omega, by simp; omega, by go_num, hat1', HB1, Hb1⟩
              case measure => simp [intOf]; omega
          · have h92' : ((s[k].toNat : Int) == 92) = false := by
              simp
              intro e
              exact h92 (UInt8.toNat_inj.1 (by show _ = 92; omega))
            have hN := Lib.hid (unesc_none (unescAt_other hat.out hlt h45 hp h92))
            clear h45 h92
            go_wp2_with fail
            refine (isPlain_any _ (by omega) _).mono ?_
            rintro e w' ⟨rfl, rfl⟩
            go_wp2_with fail
            go_ret2
            exact ⟨ret_strb hN.out, hb⟩
        · have hat1 := Lib.hid (unescAt_plain hat.out hlt hp)
          clear h45
          go_wp2_with fail
          refine (isPlain_any _ (by omega) _).mono ?_
          rintro e w' ⟨rfl, rfl⟩
          go_wp2_with fail
          refine (writeByte_any _ _ _ _ _ hB.out (by omega) hbs).mono ?_
          rintro e w1 ⟨rfl, hB1, hb1⟩
          have HB1 : Hid (Lib.IsBuilderF 42 5 w.heap.size w.heap.size (Lib.byteCells (acc ++ [s[k]])) w1) := by rw [Lib.byteCells_append]; exact hB1
          have Hb1 := Lib.hid (hb.out.trans hb1)
          clear hB1 hb1
          go_wp2_with fail
          go_roundw
          case rel => exact ⟨k + 1, acc ++ [s[k]], by omega, by simp; omega, by go_num, hat1, HB1, Hb1⟩
          case measure => simp [intOf]; omega
    · have hN := Lib.hid (unesc_some (unescAt_end hat.out (by omega)))
      go_wp2_with fail
      refine (Try.Builder_String_any_k _ _ _ _ hB.out hbs).mono ?_
      rintro e w1 ⟨rfl, hB1, hb1, _⟩
      go_wp2_with fail
      go_ret2
      exact ⟨ret_strb hN.out, hb.out.trans hb1⟩
end Go.Proofs.Ytjoedgkmpklhfaa
