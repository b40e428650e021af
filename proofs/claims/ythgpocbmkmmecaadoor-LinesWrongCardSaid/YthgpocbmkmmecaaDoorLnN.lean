/- The walks of the developers' next and complete: the physical lines of a text, read one behind the other. -/
import Derived.Test.YthgpocbmkmmecaaDoorLnT
import Derived.Test.YthgpocbmkmmecaaDoorLnW
namespace Go.Proofs.YthgpocbmkmmecaaDoor
open Go.RowKit

theorem cutX_nil {l : List UInt8} (h : (cutX 10 l).2.2 = false) : (cutX 10 l).2.1 = [] := by
  induction l with
  | nil => rfl
  | cons x m ih =>
    rw [cutX] at h ⊢
    split at h
    · cases h
    · rename_i hx; rw [if_neg hx]; exact ih h
theorem cutX_len {l : List UInt8} (h : l ≠ []) : (cutX 10 l).1.length + (cutX 10 l).2.1.length ≤ l.length ∧ (cutX 10 l).2.1.length < l.length := by
  rcases hc : (cutX 10 l).2.2 with _ | _
  · rw [cutX_nil hc, (cutX_no hc).2]
    have : 0 < l.length := List.length_pos_iff.2 h
    simpa using this
  · have := congrArg List.length (cutX_yes hc).2
    simp only [List.length_append, List.length_cons] at this
    omega
/-- The physical lines that are still to be read. -/
def rowsOf (l : List UInt8) : List (List UInt8) := if _h : l = [] then [] else (cutX 10 l).1 :: rowsOf (cutX 10 l).2.1
termination_by l.length
decreasing_by exact (cutX_len _h).2
theorem rowsOf_nil : rowsOf [] = [] := by rw [rowsOf, dif_pos rfl]
theorem rowsOf_cons {l : List UInt8} (h : l ≠ []) : rowsOf l = (cutX 10 l).1 :: rowsOf (cutX 10 l).2.1 := by
  rw [rowsOf, dif_neg h]
/-- The pieces of a text at its bytes 10, but for an empty one at its end. -/
theorem split_rowsOf (l : List UInt8) : splitL 10 l = rowsOf l ∨ splitL 10 l = rowsOf l ++ [[]] := by
  generalize hn : l.length = n
  induction n using Nat.strongRecOn generalizing l with
  | _ n ih =>
    by_cases h0 : l = []
    · subst h0; right; rw [rowsOf_nil]; rfl
    · rw [rowsOf_cons h0]
      have hlen := (cutX_len h0).2
      rcases hc : (cutX 10 l).2.2 with _ | _
      · obtain ⟨h1, h2⟩ := cutX_no hc
        rw [cutX_nil hc, rowsOf_nil, h2]
        left
        exact split_one h1
      · obtain ⟨h1, h2⟩ := cutX_yes hc
        have e : splitL 10 l = (cutX 10 l).1 :: splitL 10 (cutX 10 l).2.1 := by
          conv => lhs; rw [h2]
          exact split_cons h1 _
        rw [e]
        rcases ih _ (by rw [← hn]; exact hlen) (cutX 10 l).2.1 rfl with h | h
        · left; rw [h]
        · right; rw [h]; rfl
theorem mach_last (rs : List (List UInt8)) (i : Nat) (o : Option (List UInt8 × Nat)) : machL i o (rs ++ [[]]) = machL i o rs := by
  induction rs generalizing i o with
  | nil =>
    rcases o with _ | ⟨a, n⟩
    · simp [machL, skip_nil]
    · have e1 : remL [] = false := rfl
      have e2 : lastB [] = false := rfl
      simp [machL, e1, e2]
  | cons r rs ih =>
    rcases o with _ | ⟨a, n⟩
    · rw [List.cons_append, machL, machL]
      simp only [ih]
    · rw [List.cons_append, machL, machL]
      simp only [ih]
theorem mach_rowsOf (l : List UInt8) : machL 1 none (splitL 10 l) = machL 1 none (rowsOf l) := by
  rcases split_rowsOf l with h | h
  · rw [h]
  · rw [h, mach_last]
/-- Remarks are passed by. -/
theorem mach_rem (pre rs : List (List UInt8)) (h : ∀ r ∈ pre, remL r = true) (i : Nat) (o : Option (List UInt8 × Nat)) : machL i o (pre ++ rs) = machL (i + pre.length) o rs := by
  induction pre generalizing i with
  | nil => rfl
  | cons r pre ih =>
    have e : i + (r :: pre).length = i + 1 + pre.length := by rw [List.length_cons]; omega
    have hr := h r (by simp)
    have hs : skipR r = true := by unfold skipR; rw [hr, Bool.or_true]
    rw [e, ← ih (fun x hx => h x (by simp [hx]))]
    rcases o with _ | ⟨a, n⟩
    · rw [List.cons_append, machL, hs, if_pos rfl]
    · rw [List.cons_append, machL, hr, if_pos rfl]

/-- The reader's block: what has not been read yet, the last line's number. -/
def RdAt (w : World) (C : Nat) (t : ByteArray) (n : Nat) : Prop := Blk w C 57 #[.string t, .int .i64 n]
/-- What next gives. -/
def NextP (w : World) (C : Nat) (t : ByteArray) (n : Nat) (e : Ending) (w' : World) : Prop :=
  w.grownBy w' (some C) ∧
  ((∃ (pre : List (List UInt8)) (r t' : ByteArray) (n' : Nat), rowsOf t.data.toList = pre ++ r.data.toList :: rowsOf t'.data.toList ∧ (∀ x ∈ pre, remL x = true) ∧ remS r = false ∧ n' = n + pre.length + 1 ∧ r.size + t'.size ≤ t.size ∧ n' + t'.size ≤ n + t.size ∧ t'.size < t.size ∧
      e = .returned (.tuple #[.string r, .bool true]) ∧ RdAt w' C t' n') ∨
   (∃ n' : Nat, (∀ x ∈ rowsOf t.data.toList, remL x = true) ∧ n' ≤ n + t.size ∧ e = .returned (.tuple #[.string ⟨#[]⟩, .bool false]) ∧ RdAt w' C ⟨#[]⟩ n'))
def rdLeft (C : Nat) (W : World) : Nat := match W.cell? ⟨C, 0, none⟩ with | some (.string t) => t.size | _ => 0
theorem rdLeft_eq {C : Nat} {W : World} {t : ByteArray} (h : W.cell? ⟨C, 0, none⟩ = some (.string t)) : rdLeft C W = t.size := by unfold rdLeft; rw [h]
theorem list_of_pos {s : ByteArray} (h : 0 < s.size) : s.data.toList ≠ [] := by
  intro e
  have := size_list s
  rw [e] at this
  simp at this
  omega
theorem str_nil' {s : ByteArray} (h : s.size = 0) : s = ⟨#[]⟩ := by
  rw [← str_data s, nil_of_size h]; rfl
theorem RdAt.next {W : World} {C n : Nat} {t : ByteArray} (h : RdAt W C t n) (u : ByteArray) : RdAt ((W.setCell ⟨C, 0, none⟩ (.string u)).setCell ⟨C, 1, none⟩ (.int .i64 ((n : Int) + 1))) C u (n + 1) := by
  have := (Blk.setCell h 0 (.string u)).setCell 1 (.int .i64 ((n : Int) + 1))
  unfold RdAt
  rw [show (((n + 1 : Nat) : Nat) : Int) = (n : Int) + 1 by omega]
  exact this
set_option maxHeartbeats 4000000 in
theorem next_any (C : Nat) (t : ByteArray) (n : Nat) (hb : n + t.size ≤ 9007199254740992) (w : World) (h : RdAt w C t n) :
    Calls Tryd.prog 30 #[.pointer (some ⟨C, 0, none⟩)] w (NextP w C t n) := by
  have H := Lib.hid h
  have hC := h.lt
  clear h
  go_enter Tryd.func30, Tryd.ntmps30
  go_wp2_with fail
  go_loopw [] (fun wr => ∃ (pre : List (List UInt8)) (t1 : ByteArray) (n1 : Nat), n1 = n + pre.length ∧ t1.size ≤ t.size ∧ n1 + t1.size ≤ n + t.size ∧ Hid (rowsOf t.data.toList = pre ++ rowsOf t1.data.toList) ∧ Hid (∀ x ∈ pre, remL x = true) ∧ Hid (RdAt wr C t1 n1) ∧ Hid (w.grownBy wr (some C))) (fun wr => rdLeft C wr)
  case atStart => exact ⟨[], t, n, by simp, Nat.le_refl _, Nat.le_refl _, rfl, Lib.hid (fun x hx => by cases hx), H, World.grownBy.refl w _⟩
  case round =>
    obtain ⟨pre, t1, n1, hn1, hts, hns, hrows, hrem, HR, HG⟩ := hrel
    have c0 : wr.cell? ⟨C, 0, none⟩ = some (.string t1) := HR.out.cell 0
    have c1 : wr.cell? ⟨C, 1, none⟩ = some (.int .i64 n1) := HR.out.cell 1
    have f0 : wr.frozen? ⟨C, 0, none⟩ = false := HR.out.frozen 0
    have f1 : wr.frozen? ⟨C, 1, none⟩ = false := HR.out.frozen 1
    by_cases h0 : 0 < t1.size
    · have em := emp_f h0
      have hm : t1.size ≤ maxLen := by unfold maxLen; omega
      have hlen := cutX_len (list_of_pos h0)
      have hA : (cutA 10 t1).size + (cutB 10 t1).size ≤ t1.size := by have := hlen.1; rw [size_list] at this; exact this
      have hB : (cutB 10 t1).size < t1.size := by have := hlen.2; rw [size_list] at this; exact this
      have HX := Lib.hid (rowsOf_cons (list_of_pos h0))
      have hn0 : (0 : Int) ≤ (n1 : Int) := by omega
      have hn9 : (n1 : Int) + 1 ≤ 9007199254740993 := by omega
      clear hlen
      have HN := Lib.hid hn1
      clear hn1
      rcases hr : remS (cutA 10 t1) with _ | _
      · go_wp2_with (first
          | (go_at_call 47; refine (cut_c 10 _ hm _).mono ?_; rintro e w1 ⟨rfl, nd, rfl⟩)
          | (go_at_call 48; refine (isComment_any _ _).mono ?_; rintro e w1 ⟨rfl, hb1⟩))
        have HR2 := Lib.hid (show RdAt w1 C (cutB 10 t1) (n1 + 1) from Blk.below (RdAt.next (W := wr.drewN nd) (HR.out.drewN nd) (cutB 10 t1)) hb1 (by simpa [World.setCell] using HR.out.lt))
        have HG2 := Lib.hid (only_below (only_setCell (p := ⟨C, 1, none⟩) (only_setCell (p := ⟨C, 0, none⟩) (only_drewN HG.out nd) (.inl rfl) (.string (cutB 10 t1))) (.inl rfl) (.int .i64 ((n1 : Int) + 1))) hb1 (by simpa [World.setCell] using HG.out.size))
        go_ret2
        refine ⟨HG2.out, .inl ⟨pre, cutA 10 t1, cutB 10 t1, n1 + 1, ?_, hrem.out, hr, by rw [HN.out], by omega, by omega, by omega, rfl, HR2.out⟩⟩
        rw [hrows.out, HX.out]
        rfl
      · go_wp2_with (first
          | (go_at_call 47; refine (cut_c 10 _ hm _).mono ?_; rintro e w1 ⟨rfl, nd, rfl⟩)
          | (go_at_call 48; refine (isComment_any _ _).mono ?_; rintro e w1 ⟨rfl, hb1⟩))
        have HR2 := Lib.hid (show RdAt w1 C (cutB 10 t1) (n1 + 1) from Blk.below (RdAt.next (W := wr.drewN nd) (HR.out.drewN nd) (cutB 10 t1)) hb1 (by simpa [World.setCell] using HR.out.lt))
        have HG2 := Lib.hid (only_below (only_setCell (p := ⟨C, 1, none⟩) (only_setCell (p := ⟨C, 0, none⟩) (only_drewN HG.out nd) (.inl rfl) (.string (cutB 10 t1))) (.inl rfl) (.int .i64 ((n1 : Int) + 1))) hb1 (by simpa [World.setCell] using HG.out.size))
        have hl0 := Lib.hid (rdLeft_eq c0)
        have hl1 := Lib.hid (rdLeft_eq (HR2.out.cell 0))
        have HY : Hid (rowsOf t.data.toList = (pre ++ [(cutA 10 t1).data.toList]) ++ rowsOf (cutB 10 t1).data.toList) := by
          show _ = _
          rw [hrows.out, HX.out, List.append_assoc]
          rfl
        have HZ : Hid (∀ x ∈ pre ++ [(cutA 10 t1).data.toList], remL x = true) := by
          show ∀ _, _
          intro x hx
          rcases List.mem_append.1 hx with hx | hx
          · exact hrem.out x hx
          · simp only [List.mem_singleton] at hx; subst hx; exact hr
        go_roundw
        case rel => exact ⟨pre ++ [(cutA 10 t1).data.toList], cutB 10 t1, n1 + 1, by rw [HN.out, List.length_append]; rfl, by omega, by omega, HY, HZ, HR2, HG2⟩
        case measure => rw [hl0.out, hl1.out]; exact hB
    · have em := emp_t (s := t1) (by omega)
      have HE := Lib.hid (str_nil' (s := t1) (by omega))
      go_wp2
      go_ret2
      refine ⟨HG.out, .inr ⟨n1, ?_, by omega, rfl, by rw [← HE.out]; exact HR.out⟩⟩
      rw [hrows.out, nil_of_size (s := t1) (by omega), rowsOf_nil, List.append_nil]
      exact hrem.out
end Go.Proofs.YthgpocbmkmmecaaDoor
