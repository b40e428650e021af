/- The walks of the developers' writeHeader, format, May, Print. -/
import Derived.Test.YthgpocbmkmmecaaDoorLnU
import Derived.Test.YthgpocbmkmmecaaDoorLnO
namespace Go.Proofs.YthgpocbmkmmecaaDoor
open Go.RowKit

/-- What writeHeader writes behind some bytes. -/
def headW (acc s : List UInt8) : List UInt8 := (if acc = [] then [] else [10]) ++ (91 :: (s ++ [93, 10]))
theorem headW_len (acc s : List UInt8) : (headW acc s).length ≤ s.length + 4 := by
  unfold headW
  split <;> simp <;> omega
set_option maxHeartbeats 4000000 in
theorem writeHeader_any (B b : Nat) (acc : List UInt8) (s : ByteArray) (hs : s.size ≤ 4194304) (w : World) (h : Lib.IsBuilderF 68 5 B b (Lib.byteCells acc) w) (hl : acc.length ≤ 4194304) (hB : B ≤ w.heap.size) :
    Calls Tryd.prog 43 #[.pointer (some ⟨b, 0, none⟩), .string s] w fun e w' => e = .returned (.tuple #[]) ∧ Lib.IsBuilderF 68 5 B b (Lib.byteCells (acc ++ headW acc s.data.toList)) w' ∧ Below B w w' ∧ KeepB b w w' := by
  have hbl : (Lib.byteCells acc).length = acc.length := Lib.byteCells_length _
  have hz : ((⟨#[91]⟩ : ByteArray) ++ s ++ (⟨#[93, 10]⟩ : ByteArray)).size ≤ 4194400 := by
    rw [← size_list, app_list, app_list, List.length_append, List.length_append, size_list]
    show 1 + s.size + 2 ≤ _
    omega
  have HZ := Lib.hid hz
  have HT : Hid (((⟨#[91]⟩ : ByteArray) ++ s ++ (⟨#[93, 10]⟩ : ByteArray)).data.toList = 91 :: (s.data.toList ++ [93, 10])) := by
    show _ = _
    rw [app_list, app_list]
    rfl
  have h63 : s.size ≤ 9223372036854775000 := by omega
  have HBL := Lib.hid hbl
  clear hz hbl
  by_cases h0 : acc = []
  · have i0 : decide (0 < (Lib.byteCells acc).length) = false := by rw [HBL.out, h0]; rfl
    have HW : Hid (headW acc s.data.toList = 91 :: (s.data.toList ++ [93, 10])) := by show _ = _; unfold headW; rw [if_pos h0]; rfl
    clear h0
    go_enter Tryd.func43, Tryd.ntmps43
    go_wp2_with (go_at_call 45; refine (Tryd.Builder_Len_f B b _ _ h).mono ?_; rintro e w1 ⟨rfl, rfl⟩)
    refine (writeString_k B b _ _ _ h (by have := HZ.out; rw [HBL.out]; omega) hB).mono ?_
    rintro e w2 ⟨rfl, hB2, hb2, hk2⟩
    have HB2 : Hid (Lib.IsBuilderF 68 5 B b (Lib.byteCells (acc ++ headW acc s.data.toList)) w2) := by rw [HW.out, ← HT.out, Lib.byteCells_append]; exact hB2
    clear hB2
    go_wp2_with fail
    go_end0
    exact ⟨rfl, HB2.out, hb2, hk2⟩
  · have i0 : decide (0 < (Lib.byteCells acc).length) = true := by
      have : 0 < acc.length := List.length_pos_iff.2 h0
      rw [HBL.out, decide_eq_true_eq]; omega
    have HW : Hid (headW acc s.data.toList = 10 :: 91 :: (s.data.toList ++ [93, 10])) := by show _ = _; unfold headW; rw [if_neg h0]; rfl
    clear h0
    go_enter Tryd.func43, Tryd.ntmps43
    go_wp2_with (go_at_call 45; refine (Tryd.Builder_Len_f B b _ _ h).mono ?_; rintro e w1 ⟨rfl, rfl⟩)
    refine (writeByte_k B b _ 10 _ h (by rw [HBL.out]; omega) hB).mono ?_
    rintro e w2 ⟨rfl, hB2, hb2, hk2⟩
    have HB2 : Hid (Lib.IsBuilderF 68 5 B b (Lib.byteCells (acc ++ [10])) w2) := by rw [Lib.byteCells_append]; exact hB2
    have hB3 : B ≤ w2.heap.size := Nat.le_trans hB hb2.size
    have Hb2 := Lib.hid hb2
    have Hk2 := Lib.hid hk2
    clear hB2 hb2 hk2
    go_wp2_with fail
    refine (writeString_k B b _ _ _ HB2.out (by have := HZ.out; rw [Lib.byteCells_length, List.length_append]; show acc.length + 1 + _ ≤ _; omega) hB3).mono ?_
    rintro e w3 ⟨rfl, hB3, hb3, hk3⟩
    have HB3 : Hid (Lib.IsBuilderF 68 5 B b (Lib.byteCells (acc ++ headW acc s.data.toList)) w3) := by
      rw [HW.out, show acc ++ 10 :: 91 :: (s.data.toList ++ [93, 10]) = (acc ++ [10]) ++ (91 :: (s.data.toList ++ [93, 10])) by simp, ← HT.out, Lib.byteCells_append]
      exact hB3
    clear hB3
    go_wp2_with fail
    go_end0
    exact ⟨rfl, HB3.out, Hb2.out.trans hb3, fun k t cs h1 h2 h3 => hk3 k t cs h1 h2 (Hk2.out k t cs h1 h2 h3)⟩

theorem secOf_snoc (l : List Ln) (x : Ln) : secOf [] (l ++ [x]) = x.s := secOf_app [] l x
/-- What one more line writes. -/
def moreT (acc sec : List UInt8) (x : Ln) : List UInt8 := (if x.s = sec then [] else headW acc x.s) ++ (x.k ++ 61 :: (x.v ++ [10]))
theorem write_more (l : List Ln) (x : Ln) (h : writeT l = [] ↔ secOf [] l = []) : writeT (l ++ [x]) = writeT l ++ moreT (writeT l) (secOf [] l) x := by
  rw [write_app]
  congr 1
  unfold moreT
  have e : rowsP (secOf [] l) [x] = headP (secOf [] l) x.s ++ [x.k ++ 61 :: x.v] := by simp [rowsP]
  rw [e, textR_app]
  have e2 : textR [x.k ++ 61 :: x.v] = x.k ++ 61 :: (x.v ++ [10]) := by simp [textR]
  rw [e2]
  congr 1
  unfold headP headW
  by_cases h1 : x.s = secOf [] l
  · rw [if_pos h1, if_pos h1]; rfl
  · rw [if_neg h1, if_neg h1]
    by_cases h2 : secOf [] l = []
    · rw [if_pos h2, if_pos (h.2 h2)]; simp [textR]
    · rw [if_neg h2, if_neg (fun hh => h2 (h.1 hh))]; simp [textR]
theorem write_ne (l : List Ln) (h : ∀ x ∈ l, okLn x = true) : writeT l = [] ↔ secOf [] l = [] := by
  rcases List.eq_nil_or_concat l with rfl | ⟨l', x, hl⟩
  · simp [writeT, rowsP, textR, secOf]
  · have hl : l = l' ++ [x] := by simpa using hl
    subst hl
    constructor
    · intro e
      exfalso
      have h2 := congrArg List.length e
      rw [write_app, List.length_append] at h2
      have e1 : rowsP (secOf [] l') [x] = headP (secOf [] l') x.s ++ [x.k ++ 61 :: x.v] := by simp [rowsP]
      have e2 : textR [x.k ++ 61 :: x.v] = x.k ++ 61 :: (x.v ++ [10]) := by simp [textR]
      rw [e1, textR_app, List.length_append, e2] at h2
      simp at h2
    · intro e
      rw [secOf_snoc] at e
      exact absurd e (okLn_sec (h x (by simp))).2
theorem moreT_len (acc sec : List UInt8) (x : Ln) (h : okLn x = true) : (moreT acc sec x).length ≤ 500 := by
  have h1 := okLn_sec h
  have h2 := (ofL_iff.1 h1.1).2.1
  have h3 : x.k.length + 1 + x.v.length ≤ 400 := by
    unfold okLn at h
    simp only [Bool.and_eq_true, decide_eq_true_eq] at h
    exact h.2
  have h4 := headW_len acc x.s
  unfold moreT
  rw [List.length_append]
  have : (if x.s = sec then [] else headW acc x.s).length ≤ 24 := by
    split
    · exact Nat.zero_le _
    · omega
  simp only [List.length_append, List.length_cons, List.length_nil]
  omega
end Go.Proofs.YthgpocbmkmmecaaDoor
