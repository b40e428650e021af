/- In the graph of any loaded units one with default dependencies stands as the document says to sysinit.target and shutdown.target, and one without them does not by itself: for all arguments that together hold at most 1048576 values and letters. Conditions: the arguments hold together at most 1048576 values and letters. -/
import Derived.Test.YtcoepioahabbdaaGreatRows
import Derived.ProofKit
import Derived.OpenShut
import Derived.JoinedCond
import Derived.Test.YtcoepioahabbdaaGreatGwae
import Derived.Test.YtcoepioahabbdaaGreatGwad
import Derived.Test.YtcoepioahabbdaaGreatGwac
import Derived.Test.YtcoepioahabbdaaGreatGybu
import Derived.Test.YtcoepioahabbdaaGreatGybq
import Derived.Test.YtcoepioahabbdaaGreatGybp
import Derived.Test.YtcoepioahabbdaaGreatGyay
import Derived.Test.YtcoepioahabbdaaGreatGyax
import Derived.Test.YtcoepioahabbdaaGreatGyaw
import Derived.Test.YtcoepioahabbdaaGreatGyav
import Derived.Test.YtcoepioahabbdaaGreatGyas
import Derived.Test.YtcoepioahabbdaaGreatGyar
import Derived.Test.YtcoepioahabbdaaGreatGyam
import Derived.Test.YtcoepioahabbdaaGreatGyae
import Derived.Test.YtcoepioahabbdaaGreatGyaa
import Derived.Test.YtcoepioahabbdaaGreatGyab
import Derived.Test.YtcoepioahabbdaaGreatGyad
import Derived.Test.YtcoepioahabbdaaGreatGyac
import Derived.Test.YtcoepioahabbdaaGreatGyaf
import Derived.Test.YtcoepioahabbdaaGreatGyag
import Derived.Test.YtcoepioahabbdaaGreatGyal
import Derived.Test.YtcoepioahabbdaaGreatGyak
import Derived.Test.YtcoepioahabbdaaGreatGyah
import Derived.Test.YtcoepioahabbdaaGreatGyai
import Derived.Test.YtcoepioahabbdaaGreatGyao
import Derived.Test.YtcoepioahabbdaaGreatGyan
import Derived.Test.YtcoepioahabbdaaGreatGyaq
import Derived.Test.YtcoepioahabbdaaGreatGyap
import Derived.Test.YtcoepioahabbdaaGreatGyau
import Derived.Test.YtcoepioahabbdaaGreatGybo
import Derived.Test.YtcoepioahabbdaaGreatGybi
import Derived.Test.YtcoepioahabbdaaGreatGybh
import Derived.Test.YtcoepioahabbdaaGreatGybg
import Derived.Test.YtcoepioahabbdaaGreatGybc
import Derived.Test.YtcoepioahabbdaaGreatGybb
import Derived.Test.YtcoepioahabbdaaGreatGyaz
import Derived.Test.YtcoepioahabbdaaGreatGyba
import Derived.Test.YtcoepioahabbdaaGreatGyat
import Derived.Test.YtcoepioahabbdaaGreatGybf
import Derived.Test.YtcoepioahabbdaaGreatGybe
import Derived.Test.YtcoepioahabbdaaGreatGybd
import Derived.Test.YtcoepioahabbdaaGreatGybm
import Derived.Test.YtcoepioahabbdaaGreatGybl
import Derived.Test.YtcoepioahabbdaaGreatGybj
import Derived.Test.YtcoepioahabbdaaGreatGybn
import Derived.Test.YtcoepioahabbdaaGreatGybk
import Derived.Test.YtcoepioahabbdaaGreatGybt
import Derived.Test.YtcoepioahabbdaaGreatGybs
import Derived.Test.YtcoepioahabbdaaGreatGybr
namespace Go.Proofs.YtcoepioahabbdaaGreat
open Go.RowKit Go.ChangeShapes Go.WideShapes Go.ChangeAt
open Go.ChangeMaps (open_string shut_string)
namespace graphDefaultUpto
set_option maxRecDepth 100000 in
theorem own : ownKnob Tryz.prog.godebug = none := by kernel_rfl
set_option maxRecDepth 100000 in
theorem contract (H : Type) (enc : TypeId × Value → H) (W : World) (base : Nat) (args : Array Value) (ds gs : List (DataW H)) (before : List MemPlace)
    (hval : ∀ (j : Nat) t v, Tryz.f7.params[j]? = some t → args[j]? = some v → Value.okWide Tryz.prog W .any base t v)
    (hW : DataW.Whole enc Tryz.prog Tryz.f7.params.toList Rows.graphDefaultSpec.vars false W args.toList ds gs before) (hk : Rows.uptoSmall H (ds ++ gs) = true) :
    Calls Tryz.prog 7 args W fun e W' => ∃ v, e = .returned v ∧ Rows.graphDefaultSpec.post enc Tryz.prog Tryz.f7 false true false false W args v W' := by
  have hW' := hW
  obtain ⟨p, q, hA0, hV, rfl, hfz, hnd⟩ := hW
  have hA : DataW.TrodAll enc Tryz.prog W 0 (fun _ => true) true Tryz.f7.params.toList args.toList ds p := hA0
  rw [Tryz.params7] at hA hval
  obtain ⟨v0, vs0, d0, ds0, p0, q0, hargs, rfl, rfl, h0, r0⟩ := trodAll_cons hA
  obtain ⟨v1, vs1, d1, ds1, p1, q1, rfl, rfl, rfl, h1, r1⟩ := trodAll_cons r0
  obtain ⟨rfl, rfl, rfl⟩ := trodAll_nil r1
  obtain rfl : args = #[v0, v1] := by cases args; simp_all
  obtain ⟨rfl, rfl⟩ := trodVars_none hV
  obtain ⟨A0, n0, c0, l0, rfl, m0, t0, e0, k0, z0⟩ := open_loads_upto (hval 0 22 v0 rfl rfl) h0
  obtain ⟨a1, rfl, rfl, rfl, w1⟩ := open_int Tryz.underlying3 (hval 1 3 v1 rfl rfl) h1
  clear hA0
  simp only [List.append_nil] at hW' hk
  have hbulk : Rows.uptoBulkAll [d0, DataW.lit (.int .i64 a1)] ≤ 1048576 := of_decide_eq_true hk
  simp only [Rows.uptoBulkAll, Rows.uptoBulk] at hbulk
  refine (GraphDefault_any A0 n0 c0 W.heap.size a1 l0 W t0 (Nat.le_refl _) (z0 (by omega))).mono fun e W' ⟨he, hg⟩ => ?_
  subst he
  exact ⟨_, rfl, post_below (pa := (p0 ++ ([] ++ []))) (pv := []) hW' (fun _ _ _ => trodAll_cons_mk (shut_bool Tryz.underlying4 _) trodAll_mk0) (fun sp hsp => (trodAll_cons_mk (shut_loads h0 hg (fun q hq => hW'.lt q (by simp [hq])) (fun q hq => hsp q (by simp [hq]))) (trodAll_cons_mk (shut_int Tryz.underlying3 w1) trodAll_mk0))) (fun _ _ => rfl) (by simp)
    hg (ok_one (by kernel_rfl) rfl (okWide_bool_mk Tryz.underlying4 _))⟩
set_option maxRecDepth 100000 in
set_option maxRecDepth 100000 in
theorem lifted (os : Go.Os) (started : os.Started) (H : Type) (enc : TypeId × Value → H) (F : Stop.Interp) :
    ReturnsInHanded {} Tryz.checked os 7 .any ((Rows.OpenSpec.upto Rows.graphDefaultSpec).pre6 enc Tryz.prog Tryz.f7 Rows.graphDefaultUptoRow.domain false) (((Rows.OpenSpec.upto Rows.graphDefaultSpec).at F).post enc Tryz.prog Tryz.f7 false true false false) := by
  refine returnsInHanded_of_cond (C := Tryz.checked) (s := Rows.OpenSpec.upto Rows.graphDefaultSpec) (k := Rows.uptoSmall) rfl own started (by kernel_rfl) Tryz.func7
    (OpenSpec.witness (enc := enc) (C := Tryz.checked) (s := Rows.OpenSpec.upto Rows.graphDefaultSpec) (k := Rows.uptoSmall) rfl false ⟨#[], #[.slice none 0 0, .int .i64 0], []⟩ 8 (by kernel_rfl) (by kernel_rfl) (by kernel_rfl)
      (x := ([.nil, .lit (.int .i64 0)], [], [])) (by kernel_rfl) rfl (by kernel_rfl)) ?_
  intro W base args ds gs before hval hW _ hk _
  exact contract H enc W base args ds gs before hval hW hk
set_option maxRecDepth 100000 in
theorem proved : Rows.GraphDefaultUptoSaid :=
  OpenClaim.holds_of_cond 7 Tryz.f7 rfl rfl rfl rfl rfl rfl rfl ⟨rfl, rfl, rfl, rfl, rfl⟩ rfl rfl rfl rfl rfl (by kernel_rfl) Tryz.func7 (by kernel_rfl)
    (of_decide_eq_true (by kernel_rfl)) (by unfold Func.isWrapper; first | (rw [if_pos (by decide +kernel)]; kernel_rfl) | (rw [if_neg (by decide +kernel)]; exact ⟨rfl, rfl⟩))
    (fun os started H enc _ F => lifted os started H enc F)
end graphDefaultUpto
end Go.Proofs.YtcoepioahabbdaaGreat
