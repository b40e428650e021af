/- The walks of the document's own May, IsTemplate, IsInstance, Make, Template, Instance, Change. -/
import Derived.Test.YtcoepioahabbdaaGreatGyan
import Derived.Test.YtcoepioahabbdaaGreatGyal
import Derived.Deep.QuietTactic
import Derived.BigQuiet
namespace Go.Proofs.YtcoepioahabbdaaGreat.Nm
open Go.RowKit
theorem good_kind (s : ByteArray) : decide (0 < kindP s) = goodP s := by
  unfold kindP
  rcases h : goodP s with _ | _
  · rw [if_neg (by simp)]; rfl
  · rw [if_pos rfl]
    have hk : kindS (tailP s) ≠ 0 := by
      unfold goodP at h
      simp only [Bool.and_eq_true, decide_eq_true_eq] at h
      exact h.2.2.1
    have : 0 < kindS (tailP s) := by
      unfold kindS at *
      rcases kindL_cases (tailP s).data.toList with h1 | h1
      · exact absurd h1 hk
      · omega
    simpa using this
theorem fld0 (k : Int) (p i : ByteArray) (a : Bool) (w : World) : (Instr.field 60 (.agg #[.int .i64 k, .string p, .string i, .bool a]) 0).run Tryz.prog w = .ok (.int .i64 k) w := by kernel_rfl
set_option maxHeartbeats 1000000 in
theorem rMay_any (s : ByteArray) (hs : s.size ≤ maxLen) (w : World) :
    Calls Tryz.prog 24 #[.string s] w fun e w' => e = .returned (.bool (goodP s)) ∧ Below w.heap.size w w' := by
  have hg := Lib.hid (good_kind s)
  have q0 := fun w => fld0 (kindP s) (preP s) (instP s) (atP s) w
  go_enter Tryz.func24, Tryz.ntmps24
  go_wp2_with fail
  refine (Of_any _ hs _).mono ?_
  rintro e w1 ⟨rfl, hb⟩
  go_wp2_with fail
  go_ret
  exact ⟨ret_bool hg.out, hb⟩
theorem rSuffix_quiet (k : Int) (w : World) :
    Calls Tryz.prog 40 #[.int .i64 k] w fun e w' => e = .returned (.string (str (sfx k))) ∧ w' = w :=
  (rSuffix_any k w).mono fun _ _ h => ⟨h.1, h.2.symm⟩
theorem make_join (p i : ByteArray) (k : Int) : p ++ (⟨#[64]⟩ : ByteArray) ++ i ++ (⟨#[46]⟩ : ByteArray) ++ str (sfx k) = joinS p i true k := by
  apply ext_list
  rw [joinS_list, app_list, app_list, app_list, app_list]
  simp [str]
set_option maxHeartbeats 1000000 in
theorem rMake_any (p i : ByteArray) (a : Bool) (k : Int) (hsz : p.size + i.size ≤ 4611686018427387904) (w : World) :
    Calls Tryz.prog 103 #[.agg #[.int .i64 k, .string p, .string i, .bool a]] w fun e w' => e = .returned (.string (joinS p i a k)) ∧ Below w.heap.size w w' := by
  have hk := sfx_length k
  have hk2 : (str (sfx k)).size ≤ 7 := hk
  have z1 : (⟨#[64]⟩ : ByteArray).size ≤ 1 := Nat.le_refl _
  have z2 : (⟨#[46]⟩ : ByteArray).size ≤ 1 := Nat.le_refl _
  cases a
  · go_enter Tryz.func103, Tryz.ntmps103
    go_wp2_with fail
    go_quiet ((go_at_call 40; exact Calls.quiet_of_same (rSuffix_quiet _ _)))
    go_wp2_with fail
    go_ret
    exact ⟨rfl, below_drewN ((Below.refl _ _).alloc (Nat.le_refl _) _) _⟩
  · go_enter Tryz.func103, Tryz.ntmps103
    go_wp2_with fail
    go_quiet ((go_at_call 40; exact Calls.quiet_of_same (rSuffix_quiet _ _)))
    go_wp2_with fail
    go_ret
    exact ⟨ret_str (make_join p i k), below_drewN ((Below.refl _ _).alloc (Nat.le_refl _) _) _⟩
theorem kind_bad (s : ByteArray) : ((kindP s : Int) == 0) = !goodP s := by
  rw [← good_kind]
  have h : 0 ≤ kindP s := by
    unfold kindP
    split
    · unfold kindS; rcases kindL_cases (tailP s).data.toList with h1 | h1 <;> omega
    · omega
  rw [Bool.eq_iff_iff]
  simp
  omega
set_option maxHeartbeats 1000000 in
theorem rChange_any (s : ByteArray) (k : Int) (hs : s.size ≤ maxLen) (w : World) :
    Calls Tryz.prog 87 #[.string s, .int .i64 k] w fun e w' => e = .returned (.string (chgS s k)) ∧ Below w.heap.size w w' := by
  have hp := preP_size s
  have hi := instP_size s
  have hkb := kind_bad s
  rcases hg : goodP s with _ | _
  · have H : Hid (chgS s k = ⟨#[]⟩) := by unfold chgS; rw [if_neg (by simp [hg])]; rfl
    have hk0 : ((kindP s : Int) == 0) = true := by rw [hkb, hg]; rfl
    clear hkb hg
    go_enter Tryz.func87, Tryz.ntmps87
    go_wp2_with fail
    refine (Of_any _ hs _).mono ?_
    rintro e w1 ⟨rfl, hb⟩
    go_wp2_with fail
    go_ret
    exact ⟨ret_str H.out.symm, hb.alloc hb.size _⟩
  · have hk0 : ((kindP s : Int) == 0) = false := by rw [hkb, hg]; rfl
    rcases hk : (str (sfx k)).toList.isEmpty with _ | _
    · have hj := joinS_size (preP s) (instP s) (atP s) k
      rcases hm : goodP (joinS (preP s) (instP s) (atP s) k) with _ | _
      · have H : Hid (chgS s k = ⟨#[]⟩) := by unfold chgS; rw [if_neg (by simp [hm])]; rfl
        clear hkb hg
        go_enter Tryz.func87, Tryz.ntmps87
        go_wp2_with fail
        refine (Of_any _ hs _).mono ?_
        rintro e w1 ⟨rfl, hb⟩
        go_wp2_with fail
        refine (rSuffix_any _ _).mono ?_
        rintro e w2 ⟨rfl, rfl⟩
        go_wp2_with fail
        refine (rMake_any _ _ _ _ (by omega) _).mono ?_
        rintro e w2 ⟨rfl, hb2⟩
        have hb2' := below_more (hb.alloc hb.size _) (by have := hb.size; simp; omega) hb2
        go_wp2_with fail
        refine (rMay_any _ (by unfold maxLen; omega) _).mono ?_
        rintro e w3 ⟨rfl, hb3⟩
        go_wp2_with fail
        go_ret
        exact ⟨ret_str H.out.symm, below_more hb2' hb2'.size hb3⟩
      · have H : Hid (chgS s k = joinS (preP s) (instP s) (atP s) k) := by unfold chgS; rw [if_pos ⟨hg, hk, hm⟩]; rfl
        clear hkb hg
        go_enter Tryz.func87, Tryz.ntmps87
        go_wp2_with fail
        refine (Of_any _ hs _).mono ?_
        rintro e w1 ⟨rfl, hb⟩
        go_wp2_with fail
        refine (rSuffix_any _ _).mono ?_
        rintro e w2 ⟨rfl, rfl⟩
        go_wp2_with fail
        refine (rMake_any _ _ _ _ (by omega) _).mono ?_
        rintro e w2 ⟨rfl, hb2⟩
        have B2 : Hid (Blk w2 w1.heap.size 60 #[.int .i64 k, .string (preP s), .string (instP s), .bool (atP s)]) := (Blk.new _ _ _).below hb2
        have hb2' := below_more (hb.alloc hb.size _) (by have := hb.size; simp; omega) hb2
        clear hb2
        go_wp2_with fail
        refine (rMay_any _ (by unfold maxLen; omega) _).mono ?_
        rintro e w3 ⟨rfl, hb3⟩
        have B3 := Lib.hid (B2.out.below hb3)
        obtain ⟨c0, c1, c2, c3, f0, f1, f2, f3⟩ := B3.out.four
        have hb3' := below_more hb2' hb2'.size hb3
        clear hb3
        go_wp2_with fail
        refine (rMake_any _ _ _ _ (by omega) _).mono ?_
        rintro e w4 ⟨rfl, hb4⟩
        go_wp2_with fail
        go_ret
        exact ⟨ret_str H.out.symm, below_more hb3' hb3'.size hb4⟩
    · have H : Hid (chgS s k = ⟨#[]⟩) := by unfold chgS; rw [if_neg (by simp [hk])]; rfl
      clear hkb hg
      go_enter Tryz.func87, Tryz.ntmps87
      go_wp2_with fail
      refine (Of_any _ hs _).mono ?_
      rintro e w1 ⟨rfl, hb⟩
      go_wp2_with fail
      refine (rSuffix_any _ _).mono ?_
      rintro e w2 ⟨rfl, rfl⟩
      go_wp2_with fail
      go_ret
      exact ⟨ret_str H.out.symm, hb.alloc hb.size _⟩
end Go.Proofs.YtcoepioahabbdaaGreat.Nm
