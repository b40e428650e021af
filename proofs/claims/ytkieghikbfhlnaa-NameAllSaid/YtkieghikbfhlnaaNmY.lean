/- NameAll: of every text whether it may be a name, of which kind, its pieces and its template are what the document says. For every string. -/
import Derived.Test.YtkieghikbfhlnaaRows
import Derived.Test.YtkieghikbfhlnaaNmJ
import Derived.Test.YtkieghikbfhlnaaNmL
import Derived.Test.YtkieghikbfhlnaaNmV
import Derived.ProofKit
import Derived.OpenShut
import Derived.Deep.RegionHeld3
namespace Go.Proofs.Ytkieghikbfhlnaa
open Go.RowKit Go.ChangeShapes Go.WideShapes Go.ChangeAt
open Go.ChangeMaps (open_string shut_string)

set_option maxHeartbeats 4000000 in
theorem NameAll_walk (s : ByteArray) (hs : s.size ≤ maxLen) (w : World) :
    Calls Try.prog 3 #[.string s] w fun e w' => e = .returned (.bool true) ∧ Below w.heap.size w w' := by
  have hgk := good_kind s
  go_enter Try.func3, Try.ntmps3
  go_wp2_with fail
  refine (shown_any _).mono ?_
  rintro e w1 ⟨rfl, hb1⟩
  go_wp2_with fail
  refine (Of_any _ hs _).mono ?_
  rintro e w2 ⟨rfl, hb2⟩
  have hb2' := more hb1 hb2
  clear hb1 hb2
  go_wp2_with fail
  refine (Parts_any _ hs _).mono ?_
  rintro e w3 ⟨rfl, hb3⟩
  have B3 := Lib.hid ((Blk.new _ _ _).below hb3)
  have hb3' := below_more (hb2'.alloc hb2'.size _) (by have := hb2'.size; simp; omega) hb3
  clear hb3
  obtain ⟨c0, c1, c2, c3, _, _, _, _⟩ := B3.out.four
  go_wp2_with fail
  go_region_with (first | (go_at_call 12; refine (May_any _ hs _).mono ?_; rintro e w4 ⟨rfl, hb4⟩; have hb4' := below_more hb3'.drew hb3'.size hb4; have B4 := Lib.hid (Blk.below (w := w3.drew) B3.out hb4); obtain ⟨d0, d1, d2, d3, _, _, _, _⟩ := B4.out.four) | (go_at_call 13; refine (Kind_any _ hs _).mono ?_; rintro e w5 ⟨rfl, hb5⟩; have hb5' := below_more hb4' hb4'.size hb5; have B5 := Lib.hid (B4.out.below hb5); obtain ⟨e0, e1, e2, e3, _, _, _, _⟩ := B5.out.four) | (go_at_call 14; refine (Template_any _ hs _).mono ?_; rintro e w6 ⟨rfl, hb6⟩; have hb6' := below_more hb5' hb5'.size hb6) | (go_at_call 15; refine (rTemplate_any _ hs _).mono ?_; rintro e w7 ⟨rfl, hb7⟩; have hb7' := below_more hb6' hb6'.size hb7))
  all_goals
    go_wp2_with fail
    go_ret
    exact ⟨rfl, hb7'⟩

namespace nameAll
theorem own : ownKnob Try.prog.godebug = none := by kernel_rfl

theorem contract (H : Type) (enc : TypeId × Value → H) (W : World) (base : Nat) (args : Array Value) (ds gs : List (DataW H)) (before : List MemPlace)
    (hval : ∀ (j : Nat) t v, Try.f3.params[j]? = some t → args[j]? = some v → Value.okWide Try.prog W .any base t v)
    (hW : DataW.Whole enc Try.prog Try.f3.params.toList Rows.nameAllSpec.vars false W args.toList ds gs before) :
    Calls Try.prog 3 args W fun e W' => ∃ v, e = .returned v ∧ Rows.nameAllSpec.post enc Try.prog Try.f3 false true false false W args v W' := by
  have hW' := hW
  obtain ⟨p, q, hA0, hV, rfl, hfz, hnd⟩ := hW
  have hA : DataW.TrodAll enc Try.prog W 0 (fun _ => true) true Try.f3.params.toList args.toList ds p := hA0
  rw [Try.params3] at hA hval
  obtain ⟨v0, vs0, d0, ds0, p0, q0, hargs, rfl, rfl, h0, r0⟩ := trodAll_cons hA
  obtain ⟨rfl, rfl, rfl⟩ := trodAll_nil r0
  obtain rfl : args = #[v0] := by cases args; simp_all
  obtain ⟨rfl, rfl⟩ := trodVars_none hV
  obtain ⟨a0, rfl, rfl, rfl, w0⟩ := open_string Try.underlying9 (hval 0 9 v0 rfl rfl) h0
  clear hA0
  simp only [List.append_nil] at hW'
  refine (NameAll_walk a0 w0 W).mono fun e W' ⟨he, hg⟩ => ?_
  subst he
  exact ⟨_, rfl, post_below (pa := []) (pv := []) hW' (fun _ _ _ => trodAll_cons_mk (shut_bool Try.underlying4 _) trodAll_mk0) (fun _ _ => (trodAll_cons_mk (shut_string Try.underlying9 w0) trodAll_mk0)) (fun _ _ => rfl) rfl
    hg (ok_one (by kernel_rfl) rfl (okWide_bool_mk Try.underlying4 _))⟩

set_option maxRecDepth 100000 in
theorem lifted (os : Os) (started : os.Started) (H : Type) (enc : TypeId × Value → H) :
    ReturnsInHanded {} Try.checked os 3 .any (Rows.nameAllSpec.pre6 enc Try.prog Try.f3 Rows.nameAllRow.domain false) (Rows.nameAllSpec.post enc Try.prog Try.f3 false true false false) := by
  refine returnsInHanded_of_change (C := Try.checked) own started (by kernel_rfl) Try.func3
    (ChangeSpec.witness6 (enc := enc) (C := Try.checked) false ⟨#[], #[.string .empty], []⟩ 8 (by kernel_rfl) (by kernel_rfl) (by kernel_rfl) (by kernel_rfl)) ?_
  intro W base args ds gs before hval hW _ _
  exact contract H enc W base args ds gs before hval hW

theorem proved : Rows.NameAllSaid :=
  OpenClaim.holds_of_wide 3 Try.f3 rfl rfl rfl rfl rfl rfl rfl ⟨rfl, rfl, rfl, rfl, rfl⟩ rfl rfl rfl rfl rfl (by kernel_rfl) Try.func3 (by kernel_rfl)
    (of_decide_eq_true (by kernel_rfl)) (by unfold Func.isWrapper; first | (rw [if_pos (by decide +kernel)]; kernel_rfl) | (rw [if_neg (by decide +kernel)]; exact ⟨rfl, rfl⟩))
    (fun os started H enc _ => lifted os started H enc)
end nameAll
end Go.Proofs.Ytkieghikbfhlnaa
