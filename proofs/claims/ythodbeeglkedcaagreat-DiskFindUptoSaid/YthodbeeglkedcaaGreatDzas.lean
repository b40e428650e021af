/- The walks of the document's own May, IsTemplate, IsInstance, Make, Template, Instance, Change. -/
import Derived.Test.YthodbeeglkedcaaGreatDzar
import Derived.Test.YthodbeeglkedcaaGreatDzaq
import Derived.Deep.QuietTactic
import Derived.BigQuiet
namespace Go.Proofs.YthodbeeglkedcaaGreat.Nm
open Go.RowKit
theorem good_kind (s : ByteArray) : decide (0 < kindP s) = goodP s := by
  unfold kindP
  rcases h : goodP s with _ | _
  · rw [if_neg (by simp)]; rfl
  · rw [if_pos rfl]
    have hk : kindS (tailP s) ≠ 0 := by
      unfold goodP at h
      simp only [Bool.and_eq_true, decide_eq_true_eq] at h
      exact h.2.2.1
    have : 0 < kindS (tailP s) := by
      unfold kindS at *
      rcases kindL_cases (tailP s).data.toList with h1 | h1
      · exact absurd h1 hk
      · omega
    simpa using this
theorem fld0 (k : Int) (p i : ByteArray) (a : Bool) (w : World) : (Instr.field 49 (.agg #[.int .i64 k, .string p, .string i, .bool a]) 0).run Tryz.prog w = .ok (.int .i64 k) w := by kernel_rfl
theorem fld2 (k : Int) (p i : ByteArray) (a : Bool) (w : World) : (Instr.field 49 (.agg #[.int .i64 k, .string p, .string i, .bool a]) 2).run Tryz.prog w = .ok (.string i) w := by kernel_rfl
theorem fld3 (k : Int) (p i : ByteArray) (a : Bool) (w : World) : (Instr.field 49 (.agg #[.int .i64 k, .string p, .string i, .bool a]) 3).run Tryz.prog w = .ok (.bool a) w := by kernel_rfl
set_option maxHeartbeats 1000000 in
theorem rMay_any (s : ByteArray) (hs : s.size ≤ maxLen) (w : World) :
    Calls Tryz.prog 18 #[.string s] w fun e w' => e = .returned (.bool (goodP s)) ∧ Below w.heap.size w w' := by
  have hg := Lib.hid (good_kind s)
  have q0 := fun w => fld0 (kindP s) (preP s) (instP s) (atP s) w
  go_enter Tryz.func18, Tryz.ntmps18
  go_wp2_with fail
  refine (Of_any _ hs _).mono ?_
  rintro e w1 ⟨rfl, hb⟩
  go_wp2_with fail
  go_ret
  exact ⟨ret_bool hg.out, hb⟩
set_option maxHeartbeats 1000000 in
theorem rIsTemplate_any (s : ByteArray) (hs : s.size ≤ maxLen) (w : World) :
    Calls Tryz.prog 44 #[.string s] w fun e w' => e = .returned (.bool (atP s && (instP s).toList.isEmpty)) ∧ Below w.heap.size w w' := by
  have q2 := fun w => fld2 (kindP s) (preP s) (instP s) (atP s) w
  have q3 := fun w => fld3 (kindP s) (preP s) (instP s) (atP s) w
  rcases ha : atP s with _ | _ <;> rw [ha] at q2 q3
  · go_enter Tryz.func44, Tryz.ntmps44
    go_wp2_with fail
    refine (Of_any _ hs _).mono ?_
    rintro e w1 ⟨rfl, hb⟩
    go_wp2_with fail
    go_ret
    exact ⟨rfl, hb⟩
  · go_enter Tryz.func44, Tryz.ntmps44
    go_wp2_with fail
    refine (Of_any _ hs _).mono ?_
    rintro e w1 ⟨rfl, hb⟩
    go_wp2_with fail
    refine (Of_any _ hs _).mono ?_
    rintro e w2 ⟨rfl, hb2⟩
    go_wp2_with fail
    go_ret
    exact ⟨rfl, below_more hb hb.size hb2⟩
set_option maxHeartbeats 1000000 in
theorem rIsInstance_any (s : ByteArray) (hs : s.size ≤ maxLen) (w : World) :
    Calls Tryz.prog 20 #[.string s] w fun e w' => e = .returned (.bool (atP s && !(instP s).toList.isEmpty)) ∧ Below w.heap.size w w' := by
  have q2 := fun w => fld2 (kindP s) (preP s) (instP s) (atP s) w
  have q3 := fun w => fld3 (kindP s) (preP s) (instP s) (atP s) w
  rcases ha : atP s with _ | _ <;> rw [ha] at q2 q3
  · go_enter Tryz.func20, Tryz.ntmps20
    go_wp2_with fail
    refine (Of_any _ hs _).mono ?_
    rintro e w1 ⟨rfl, hb⟩
    go_wp2_with fail
    go_ret
    exact ⟨rfl, hb⟩
  · go_enter Tryz.func20, Tryz.ntmps20
    go_wp2_with fail
    refine (Of_any _ hs _).mono ?_
    rintro e w1 ⟨rfl, hb⟩
    go_wp2_with fail
    refine (Of_any _ hs _).mono ?_
    rintro e w2 ⟨rfl, hb2⟩
    go_wp2_with fail
    go_ret
    exact ⟨rfl, below_more hb hb.size hb2⟩
theorem rSuffix_quiet (k : Int) (w : World) :
    Calls Tryz.prog 45 #[.int .i64 k] w fun e w' => e = .returned (.string (str (sfx k))) ∧ w' = w :=
  (rSuffix_any k w).mono fun _ _ h => ⟨h.1, h.2.symm⟩
theorem make_join (p i : ByteArray) (k : Int) : p ++ (⟨#[64]⟩ : ByteArray) ++ i ++ (⟨#[46]⟩ : ByteArray) ++ str (sfx k) = joinS p i true k := by
  apply ext_list
  rw [joinS_list, app_list, app_list, app_list, app_list]
  simp [str]
set_option maxHeartbeats 1000000 in
theorem rMake_any (p i : ByteArray) (a : Bool) (k : Int) (hsz : p.size + i.size ≤ 4611686018427387904) (w : World) :
    Calls Tryz.prog 41 #[.agg #[.int .i64 k, .string p, .string i, .bool a]] w fun e w' => e = .returned (.string (joinS p i a k)) ∧ Below w.heap.size w w' := by
  have hk := sfx_length k
  have hk2 : (str (sfx k)).size ≤ 7 := hk
  have z1 : (⟨#[64]⟩ : ByteArray).size ≤ 1 := Nat.le_refl _
  have z2 : (⟨#[46]⟩ : ByteArray).size ≤ 1 := Nat.le_refl _
  cases a
  · go_enter Tryz.func41, Tryz.ntmps41
    go_wp2_with fail
    go_quiet ((go_at_call 45; exact Calls.quiet_of_same (rSuffix_quiet _ _)))
    go_wp2_with fail
    go_ret
    exact ⟨rfl, below_drewN ((Below.refl _ _).alloc (Nat.le_refl _) _) _⟩
  · go_enter Tryz.func41, Tryz.ntmps41
    go_wp2_with fail
    go_quiet ((go_at_call 45; exact Calls.quiet_of_same (rSuffix_quiet _ _)))
    go_wp2_with fail
    go_ret
    exact ⟨ret_str (make_join p i k), below_drewN ((Below.refl _ _).alloc (Nat.le_refl _) _) _⟩
theorem tmpl_inst (s : ByteArray) : (atP s && !(instP s).toList.isEmpty) = !(instP s).toList.isEmpty := by
  rcases hi : (instP s).toList.isEmpty with _ | _
  · rw [(inst_good s hi).2]; rfl
  · cases atP s <;> rfl
set_option maxHeartbeats 1000000 in
theorem rTemplate_any (s : ByteArray) (hs : s.size ≤ maxLen) (w : World) :
    Calls Tryz.prog 21 #[.string s] w fun e w' => e = .returned (.string (tmplS s)) ∧ Below w.heap.size w w' := by
  have hp := preP_size s
  have z0 : (⟨#[]⟩ : ByteArray).size ≤ 0 := Nat.le_refl _
  rcases hi : (instP s).toList.isEmpty with _ | _
  · have HT : Hid (tmplS s = joinS (preP s) ⟨#[]⟩ (atP s) (kindP s)) := by unfold tmplS; rw [if_neg (by rw [hi]; simp)]; rfl
    have HI : Hid ((atP s && !(instP s).toList.isEmpty) = true) := by rw [tmpl_inst, hi]; rfl
    go_enter Tryz.func21, Tryz.ntmps21
    go_wp2_with fail
    refine (rIsInstance_any _ hs _).mono ?_
    rintro e w1 ⟨rfl, hb⟩
    rw [HI.out]
    go_wp2_with fail
    refine (Of_any _ hs _).mono ?_
    rintro e w2 ⟨rfl, hb2⟩
    have hb' := below_more hb hb.size hb2
    clear hb hb2
    go_wp2_with fail
    refine (rMake_any _ _ _ _ (by omega) _).mono ?_
    rintro e w3 ⟨rfl, hb3⟩
    go_wp2_with fail
    go_ret
    exact ⟨ret_str HT.out.symm, below_more (hb'.alloc hb'.size _) (by have := hb'.size; simp; omega) hb3⟩
  · have HT : Hid (tmplS s = ⟨#[]⟩) := by unfold tmplS; rw [if_pos hi]; rfl
    have HI : Hid ((atP s && !(instP s).toList.isEmpty) = false) := by rw [tmpl_inst, hi]; rfl
    go_enter Tryz.func21, Tryz.ntmps21
    go_wp2_with fail
    refine (rIsInstance_any _ hs _).mono ?_
    rintro e w1 ⟨rfl, hb⟩
    rw [HI.out]
    go_wp2_with fail
    go_ret
    exact ⟨ret_str HT.out.symm, hb⟩
end Go.Proofs.YthodbeeglkedcaaGreat.Nm
