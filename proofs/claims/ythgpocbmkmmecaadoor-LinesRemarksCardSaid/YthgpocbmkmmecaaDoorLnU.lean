/- The walks of the developers' isValue, isSound, writeHeader. -/
import Derived.Test.YthgpocbmkmmecaaDoorLnV
import Derived.Test.YthgpocbmkmmecaaDoorLnT
import Derived.Test.YthgpocbmkmmecaaDoorLnF
namespace Go.Proofs.YthgpocbmkmmecaaDoor
open Go.RowKit

theorem trim_beq (s : ByteArray) : ((trimS s).toList == s.toList) = decide (trimL s.data.toList = s.data.toList) := by
  rw [beq_str, Bool.eq_iff_iff, decide_eq_true_eq, decide_eq_true_eq]
  constructor
  · intro h; have := congrArg (fun t => t.data.toList) h; exact this
  · intro h; exact ext_list h
/-- May a text be a value? -/
def valS (s : ByteArray) : Bool := cleanL s.data.toList && ((trimS s).toList == s.toList) && !lastIs 92 s
theorem isValue_any (s : ByteArray) (hs : s.size ≤ maxLen) (w : World) :
    Calls Tryd.prog 61 #[.string s] w fun e w' => e = .returned (.bool (valS s)) ∧ Below w.heap.size w w' := by
  rcases h1 : cleanL s.data.toList with _ | _
  · have HV : Hid (valS s = false) := by show _ = _; unfold valS; rw [h1]; rfl
    go_enter Tryd.func61, Tryd.ntmps61
    go_wp2_with (go_at_call 33; refine (isText_any _ hs _).mono ?_; rintro e w1 ⟨rfl, rfl⟩)
    go_ret
    exact ⟨ret_bool HV.out.symm, Below.refl _ _⟩
  rcases h2 : ((trimS s).toList == s.toList) with _ | _
  · have HV : Hid (valS s = false) := by show _ = _; unfold valS; rw [h1, h2]; rfl
    go_enter Tryd.func61, Tryd.ntmps61
    go_wp2_with (first
      | (go_at_call 33; refine (isText_any _ hs _).mono ?_; rintro e w1 ⟨rfl, rfl⟩)
      | (go_at_call 31; refine (trim_any _ hs _).mono ?_; rintro e w2 ⟨rfl, hb2⟩))
    go_ret
    exact ⟨ret_bool HV.out.symm, hb2⟩
  have HV : Hid (valS s = !lastIs 92 s) := by show _ = _; unfold valS; rw [h1, h2]; rfl
  rcases h3 : lastIs 92 s with _ | _
  all_goals
    go_enter Tryd.func61, Tryd.ntmps61
    go_wp2_with (first
      | (go_at_call 33; refine (isText_any _ hs _).mono ?_; rintro e w1 ⟨rfl, rfl⟩)
      | (go_at_call 31; refine (trim_any _ hs _).mono ?_; rintro e w2 ⟨rfl, hb2⟩)
      | (go_at_call 73; refine (suf_any _ _ hs _).mono ?_; rintro e w3 ⟨rfl, rfl⟩))
    go_ret
    exact ⟨ret_bool (by rw [HV.out, h3]; first | rfl | simp), hb2⟩
theorem okLn_eq (x : Ln) : okLn x = (secS (str x.s) && keyS (str x.k) && valS (str x.v) && decide (x.k.length + 1 + x.v.length ≤ 400)) := by
  have h2 := trim_beq (str x.v)
  rw [str_list] at h2
  unfold okLn valS
  rw [h2, str_list]
  have e1 : secS (str x.s) = secL x.s := rfl
  have e2 : keyS (str x.k) = keyL x.k := rfl
  have e3 : lastIs 92 (str x.v) = lastB x.v := rfl
  rw [e1, e2, e3]
  simp only [Bool.and_assoc]
/-- A line as a value. -/
def lnVal (x : Ln) : Value := .agg #[.string (str x.s), .string (str x.k), .string (str x.v), .int .i64 x.n]
/-- How long the texts of a line may be. -/
def SizeLn (x : Ln) : Prop := x.s.length ≤ 140737488355328 ∧ x.k.length ≤ 140737488355328 ∧ x.v.length ≤ 140737488355328
set_option maxHeartbeats 4000000 in
theorem isSound_any (x : Ln) (hx : SizeLn x) (w : World) :
    Calls Tryd.prog 42 #[.agg #[.string (str x.s), .string (str x.k), .string (str x.v), .int .i64 x.n]] w fun e w' => e = .returned (.bool (okLn x)) ∧ Below w.heap.size w w' := by
  have HO := Lib.hid (okLn_eq x)
  obtain ⟨z1, z2, z3⟩ := hx
  have m1 : (str x.s).size ≤ maxLen := by rw [str_size]; unfold maxLen; omega
  have m2 : (str x.k).size ≤ maxLen := by rw [str_size]; unfold maxLen; omega
  have m3 : (str x.v).size ≤ maxLen := by rw [str_size]; unfold maxLen; omega
  have y2 : (str x.k).size ≤ 140737488355328 := z2
  have y3 : (str x.v).size ≤ 140737488355328 := z3
  rcases h1 : secS (str x.s) with _ | _
  · have HV : Hid (okLn x = false) := by show _ = _; rw [HO.out, h1]; rfl
    go_enter Tryd.func42, Tryd.ntmps42
    go_wp2_with (go_at_call 59; refine (isSection_any _ m1 _).mono ?_; rintro e w1 ⟨rfl, rfl⟩)
    go_ret
    exact ⟨ret_bool HV.out.symm, (Below.refl _ _).alloc (Nat.le_refl _) _⟩
  rcases h2 : keyS (str x.k) with _ | _
  · have HV : Hid (okLn x = false) := by show _ = _; rw [HO.out, h1, h2]; rfl
    go_enter Tryd.func42, Tryd.ntmps42
    go_wp2_with (first
      | (go_at_call 59; refine (isSection_any _ m1 _).mono ?_; rintro e w1 ⟨rfl, rfl⟩)
      | (go_at_call 60; refine (isKey_any _ m2 _).mono ?_; rintro e w1 ⟨rfl, rfl⟩))
    go_ret
    exact ⟨ret_bool HV.out.symm, (Below.refl _ _).alloc (Nat.le_refl _) _⟩
  rcases h3 : valS (str x.v) with _ | _
  · have HV : Hid (okLn x = false) := by show _ = _; rw [HO.out, h1, h2, h3]; rfl
    go_enter Tryd.func42, Tryd.ntmps42
    go_wp2_with (first
      | (go_at_call 59; refine (isSection_any _ m1 _).mono ?_; rintro e w1 ⟨rfl, rfl⟩)
      | (go_at_call 60; refine (isKey_any _ m2 _).mono ?_; rintro e w1 ⟨rfl, rfl⟩)
      | (go_at_call 61; refine (isValue_any _ m3 _).mono ?_; rintro e w1 ⟨rfl, hb1⟩))
    go_ret
    exact ⟨ret_bool HV.out.symm, ((Below.refl _ _).alloc (Nat.le_refl _) _).trans (hb1.mono (by simp))⟩
  have HV : Hid (okLn x = decide (x.k.length + 1 + x.v.length ≤ 400)) := by show _ = _; rw [HO.out, h1, h2, h3]; rfl
  have hle : (decide (((str x.k).size : Int) + 1 + ((str x.v).size : Int) ≤ 400)) = decide (x.k.length + 1 + x.v.length ≤ 400) := by
    rw [Bool.eq_iff_iff, decide_eq_true_eq, decide_eq_true_eq, str_size, str_size]
    omega
  rcases h4 : decide (x.k.length + 1 + x.v.length ≤ 400) with _ | _
  all_goals
    have h5 := hle.trans h4
    have H4 := Lib.hid h4
    clear h4 hle
    go_enter Tryd.func42, Tryd.ntmps42
    go_wp2_with (first
      | (go_at_call 59; refine (isSection_any _ m1 _).mono ?_; rintro e w1 ⟨rfl, rfl⟩)
      | (go_at_call 60; refine (isKey_any _ m2 _).mono ?_; rintro e w1 ⟨rfl, rfl⟩)
      | (go_at_call 61; refine (isValue_any _ m3 _).mono ?_; rintro e w1 ⟨rfl, hb1⟩; obtain ⟨hc, hf⟩ := bcell hb1))
    go_ret
    exact ⟨ret_bool (by rw [HV.out, H4.out]), ((Below.refl _ _).alloc (Nat.le_refl _) _).trans (hb1.mono (by simp))⟩
end Go.Proofs.YthgpocbmkmmecaaDoor
