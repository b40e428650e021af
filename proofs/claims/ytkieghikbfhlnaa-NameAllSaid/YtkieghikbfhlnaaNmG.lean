/- The walk of package name's Escape. -/
import Derived.Test.YtkieghikbfhlnaaNmF
namespace Go.Proofs.Ytkieghikbfhlnaa
open Go.RowKit

/-- The digits of a byte. -/
def hexDig (n : Nat) : UInt8 := if n < 10 then (48 + n).toUInt8 else (87 + n).toUInt8
/-- A byte escaped; 'f': it is the first. -/
def escB (f : Bool) (c : UInt8) : List UInt8 :=
  if c = 47 then [45] else if plainB c.toNat = true ∧ (c ≠ 46 ∨ f = false) then [c] else [92, 120, hexDig (c.toNat / 16), hexDig (c.toNat % 16)]
def escL : Bool → List UInt8 → List UInt8
  | _, [] => []
  | f, c :: r => escB f c ++ escL false r
def escS (s : ByteArray) : ByteArray := str (escL true s.data.toList)

theorem escB_length (f : Bool) (c : UInt8) : (escB f c).length ≤ 4 := by unfold escB; split; simp; split <;> simp
theorem escL_length (f : Bool) (l : List UInt8) : (escL f l).length ≤ 4 * l.length := by
  induction l generalizing f with
  | nil => simp [escL]
  | cons c r ih => have := ih false; have := escB_length f c; simp [escL]; omega
theorem escL_snoc (f : Bool) (l : List UInt8) (c : UInt8) : escL f (l ++ [c]) = escL f l ++ escB (f && l.isEmpty) c := by
  induction l generalizing f with
  | nil => simp [escL]
  | cons d r ih => simp [escL, ih]

def escAt (s : ByteArray) (k : Nat) : List UInt8 := escL true (s.data.toList.take k)
theorem escAt_succ (s : ByteArray) (k : Nat) (h : k < s.size) : escAt s (k + 1) = escAt s k ++ escB (decide (k = 0)) s[k] := by
  unfold escAt
  rw [List.take_succ_eq_append_getElem (by simpa using h), escL_snoc]
  congr 2
  cases k with
  | zero => simp
  | succ k =>
    have : s.data.toList.take (k + 1) ≠ [] := by
      have hl : (s.data.toList.take (k + 1)).length = k + 1 := by
        rw [List.length_take]
        have : s.data.toList.length = s.size := by simp
        omega
      intro e
      rw [e] at hl
      simp at hl
    simpa using this
theorem escAt_length (s : ByteArray) (k : Nat) : (escAt s k).length ≤ 4 * k := by
  have := escL_length true (s.data.toList.take k)
  have h : (s.data.toList.take k).length ≤ k := List.length_take_le _ _
  unfold escAt; omega

theorem hex_get (n : Nat) (h : n < 16) : ((⟨#[48, 49, 50, 51, 52, 53, 54, 55, 56, 57, 97, 98, 99, 100, 101, 102]⟩ : ByteArray)[n]'h) = hexDig n := by
  have H : ∀ m : Fin 16, ((⟨#[48, 49, 50, 51, 52, 53, 54, 55, 56, 57, 97, 98, 99, 100, 101, 102]⟩ : ByteArray)[m.1]'m.2) = hexDig m.1 := by decide
  exact H ⟨n, h⟩

/-- One step of the loop, as the builder has it. -/
theorem escAt_cells (s : ByteArray) (k : Nat) (h : k < s.size) {l : List UInt8} (he : escB (decide (k = 0)) s[k] = l) : Lib.byteCells (escAt s (k + 1)) = Lib.byteCells (escAt s k) ++ Lib.byteCells l := by
  rw [escAt_succ s k h, he, Lib.byteCells_append]
theorem escAt_hex (s : ByteArray) (k : Nat) (h : k < s.size) (hr : s[k].toNat < 256) (he : escB (decide (k = 0)) s[k] = [92, 120, hexDig (s[k].toNat / 16), hexDig (s[k].toNat % 16)]) :
    Lib.byteCells (escAt s (k + 1)) = ((Lib.byteCells (escAt s k) ++ Lib.strCells (⟨#[92, 120]⟩ : ByteArray)) ++ [.int .u8 ((⟨#[48, 49, 50, 51, 52, 53, 54, 55, 56, 57, 97, 98, 99, 100, 101, 102]⟩ : ByteArray)[s[k].toNat / 16]'(by show _ < 16; omega)).toNat]) ++ [.int .u8 ((⟨#[48, 49, 50, 51, 52, 53, 54, 55, 56, 57, 97, 98, 99, 100, 101, 102]⟩ : ByteArray)[s[k].toNat % 16]'(by show _ < 16; omega)).toNat] := by
  rw [escAt_cells s k h he, hex_get _ (by omega), hex_get _ (by omega), List.append_assoc, List.append_assoc]
  rfl
theorem escAt_all (s : ByteArray) (k : Nat) (h : s.size ≤ k) : escS s = ⟨(escAt s k).toArray⟩ := by
  unfold escS escAt
  rw [List.take_of_length_le (by simpa using h)]
  rfl

set_option maxHeartbeats 2000000 in
theorem Escape_any (s : ByteArray) (hs : s.size ≤ 35184372088832) (w : World) :
    Calls Try.prog 22 #[.string s] w fun e w' => e = .returned (.string (escS s)) ∧ Below w.heap.size w w' := by
  have hfresh := Lib.hid (Lib.IsBuilderF.of (Lib.fresh_isBuilder 49 5 w))
  go_enter Try.func22, Try.ntmps22
  go_wp2_with fail
  go_loopw [8] (fun i wr => ∃ k : Nat, k ≤ s.size ∧ i = .int .i64 k ∧ Hid (Lib.IsBuilderF 49 5 w.heap.size w.heap.size (Lib.byteCells (escAt s k)) wr) ∧ Hid (Below w.heap.size w wr)) (fun i wr => s.size - (intOf i).toNat)
  case atStart => exact ⟨0, Nat.zero_le _, rfl, hfresh, (Below.refl _ _).alloc (Nat.le_refl _) _⟩
  case round =>
    obtain ⟨k, hk, rfl, hB, hb⟩ := hrel
    have hbs : w.heap.size ≤ wr.heap.size := hb.out.size
    have hlen := escAt_length s k
    have hlen2 : (Lib.byteCells (escAt s k)).length ≤ 4 * k := by rw [Lib.byteCells_length]; omega
    by_cases hlt : k < s.size
    · have hr := s[k].toNat_lt
      by_cases h47 : s[k].toNat = 47
      · have h47' : ((s[k].toNat : Int) == 47) = true := by simp [h47]
        have HE : Hid (Lib.byteCells (escAt s (k + 1)) = Lib.byteCells (escAt s k) ++ [.int .u8 45]) := escAt_cells s k hlt (l := [45]) (by unfold escB; rw [if_pos (UInt8.toNat_inj.1 (by rw [h47]; rfl))])
        clear h47
        go_wp2_with fail
        refine (writeByte_any _ _ _ _ _ hB.out (by omega) hbs).mono ?_
        rintro e w1 ⟨rfl, hB1, hb1⟩
        have HB1 := Lib.hid hB1
        have Hb1 := Lib.hid (hb.out.trans hb1)
        clear hB1 hb1
        go_wp2_with fail
        go_roundw
        case rel => exact ⟨k + 1, by omega, by go_num, by rw [HE.out]; exact HB1, Hb1⟩
        case measure => simp [intOf]; omega
      · have h47' : ((s[k].toNat : Int) == 47) = false := by simp; omega
        by_cases hpl : plainB s[k].toNat = true ∧ (s[k] ≠ 46 ∨ k ≠ 0)
        · have HE : Hid (Lib.byteCells (escAt s (k + 1)) = Lib.byteCells (escAt s k) ++ [.int .u8 s[k].toNat]) := escAt_cells s k hlt (l := [s[k]]) (by unfold escB; rw [if_neg (by intro e; exact h47 (by rw [e]; rfl)), if_pos (by simpa using hpl)])
          obtain ⟨hp1, hp2⟩ := hpl
          by_cases h46 : s[k].toNat = 46
          · have h46' : ((s[k].toNat : Int) != 46) = false := by simp [h46]
            have hk0 : 0 < k := by
              rcases hp2 with hp2 | hp2
              · exact absurd (UInt8.toNat_inj.1 (by rw [h46]; rfl)) hp2
              · omega
            clear h46 hp2 h47
            go_wp2_with fail
            refine (isPlain_any _ (by omega) _).mono ?_
            rintro e w' ⟨rfl, rfl⟩
            go_wp2_with fail
            refine (writeByte_any _ _ _ _ _ hB.out (by omega) hbs).mono ?_
            rintro e w1 ⟨rfl, hB1, hb1⟩
            have HB1 := Lib.hid hB1
            have Hb1 := Lib.hid (hb.out.trans hb1)
            clear hB1 hb1
            go_wp2_with fail
            go_roundw
            case rel => exact ⟨k + 1, by omega, by go_num, by rw [HE.out]; exact HB1, Hb1⟩
            case measure => simp [intOf]; omega
          · have h46' : ((s[k].toNat : Int) != 46) = true := by simp; omega
            clear h46 hp2 h47
            go_wp2_with fail
            refine (isPlain_any _ (by omega) _).mono ?_
            rintro e w' ⟨rfl, rfl⟩
            go_wp2_with fail
            refine (writeByte_any _ _ _ _ _ hB.out (by omega) hbs).mono ?_
            rintro e w1 ⟨rfl, hB1, hb1⟩
            have HB1 := Lib.hid hB1
            have Hb1 := Lib.hid (hb.out.trans hb1)
            clear hB1 hb1
            go_wp2_with fail
            go_roundw
            case rel => exact ⟨k + 1, by omega, by go_num, by rw [HE.out]; exact HB1, Hb1⟩
            case measure => simp [intOf]; omega
        · rcases hp1 : plainB s[k].toNat with _ | _
          · have HE := Lib.hid (escAt_hex s k hlt hr (by unfold escB; rw [if_neg (by intro e; exact h47 (by rw [e]; rfl)), if_neg (by simp [hp1])]))
            clear hpl h47
            go_wp2_with fail
            refine (isPlain_any _ (by omega) _).mono ?_
            rintro e w' ⟨rfl, rfl⟩
            go_wp2_with fail
            refine (writeString_any _ _ _ _ _ hB.out (by have e2 : (⟨#[92, 120]⟩ : ByteArray).size = 2 := rfl; omega) hbs).mono ?_
            rintro e w1 ⟨rfl, hB1, hb1⟩
            have HB1 := Lib.hid hB1
            have Hb1 := Lib.hid (hb.out.trans hb1)
            have hl1 : (Lib.byteCells (escAt s k) ++ Lib.strCells (⟨#[92, 120]⟩ : ByteArray)).length ≤ 4 * k + 2 := by rw [List.length_append, Lib.strCells_length]; have e2 : (⟨#[92, 120]⟩ : ByteArray).size = 2 := rfl; omega
            have hbs1 : w.heap.size ≤ w1.heap.size := Hb1.out.size
            clear hB1 hb1
            go_wp2_with fail
            refine (writeByte_any _ _ _ _ _ HB1.out (by omega) hbs1).mono ?_
            rintro e w2 ⟨rfl, hB2, hb2⟩
            have HB2 := Lib.hid hB2
            have Hb2 := Lib.hid (Hb1.out.trans hb2)
            have hbs2 : w.heap.size ≤ w2.heap.size := Hb2.out.size
            clear hB2 hb2
            go_wp2_with fail
            refine (writeByte_any _ _ _ _ _ HB2.out (by rw [List.length_append]; show _ + 1 + 1 ≤ _; omega) hbs2).mono ?_
            rintro e w3 ⟨rfl, hB3, hb3⟩
            have HB3 := Lib.hid hB3
            have Hb3 := Lib.hid (Hb2.out.trans hb3)
            clear hB3 hb3
            go_wp2_with fail
            go_roundw
            case rel => exact ⟨k + 1, by omega, by go_num, by rw [HE.out]; exact HB3, Hb3⟩
            case measure => simp [intOf]; omega
          · have h46 : s[k] = 46 ∧ k = 0 := by
              rw [hp1] at hpl
              by_cases h1 : s[k] = 46
              · exact ⟨h1, by
                  rcases Nat.eq_zero_or_pos k with h2 | h2
                  · exact h2
                  · exact absurd ⟨rfl, .inr (by omega)⟩ hpl⟩
              · exact absurd ⟨rfl, .inl h1⟩ hpl
            have HE := Lib.hid (escAt_hex s k hlt hr (by unfold escB; rw [if_neg (by intro e; exact h47 (by rw [e]; rfl)), if_neg (by intro e; rcases e.2 with e2 | e2; exact e2 h46.1; simp [h46.2] at e2)]))
            have h46' : ((s[k].toNat : Int) != 46) = false := by rw [h46.1]; rfl
            have hk0 : k ≤ 0 := by omega
            clear hpl h47 h46
            go_wp2_with fail
            refine (isPlain_any _ (by omega) _).mono ?_
            rintro e w' ⟨rfl, rfl⟩
            go_wp2_with fail
            refine (writeString_any _ _ _ _ _ hB.out (by have e2 : (⟨#[92, 120]⟩ : ByteArray).size = 2 := rfl; omega) hbs).mono ?_
            rintro e w1 ⟨rfl, hB1, hb1⟩
            have HB1 := Lib.hid hB1
            have Hb1 := Lib.hid (hb.out.trans hb1)
            have hl1 : (Lib.byteCells (escAt s k) ++ Lib.strCells (⟨#[92, 120]⟩ : ByteArray)).length ≤ 4 * k + 2 := by rw [List.length_append, Lib.strCells_length]; have e2 : (⟨#[92, 120]⟩ : ByteArray).size = 2 := rfl; omega
            have hbs1 : w.heap.size ≤ w1.heap.size := Hb1.out.size
            clear hB1 hb1
            go_wp2_with fail
            refine (writeByte_any _ _ _ _ _ HB1.out (by omega) hbs1).mono ?_
            rintro e w2 ⟨rfl, hB2, hb2⟩
            have HB2 := Lib.hid hB2
            have Hb2 := Lib.hid (Hb1.out.trans hb2)
            have hbs2 : w.heap.size ≤ w2.heap.size := Hb2.out.size
            clear hB2 hb2
            go_wp2_with fail
            refine (writeByte_any _ _ _ _ _ HB2.out (by rw [List.length_append]; show _ + 1 + 1 ≤ _; omega) hbs2).mono ?_
            rintro e w3 ⟨rfl, hB3, hb3⟩
            have HB3 := Lib.hid hB3
            have Hb3 := Lib.hid (Hb2.out.trans hb3)
            clear hB3 hb3
            go_wp2_with fail
            go_roundw
            case rel => exact ⟨k + 1, by omega, by go_num, by rw [HE.out]; exact HB3, Hb3⟩
            case measure => simp [intOf]; omega
    · go_wp2_with fail
      refine (Try.Builder_String_any_k _ _ _ _ hB.out hbs).mono ?_
      rintro e w1 ⟨rfl, hB1, hb1, _⟩
      go_wp2_with fail
      go_ret
      exact ⟨ret_str (escAt_all s k (by omega)).symm, hb.out.trans hb1⟩
end Go.Proofs.Ytkieghikbfhlnaa
