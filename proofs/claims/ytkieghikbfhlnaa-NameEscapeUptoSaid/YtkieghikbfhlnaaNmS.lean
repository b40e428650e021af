/- NameEscape, where what comes in holds at most 1048576 letters and values: an escaped text is what the document says, is read as the text, and may be an instance string; what is read is read as the document reads it. -/
import Derived.Test.YtkieghikbfhlnaaRows
import Derived.Test.YtkieghikbfhlnaaNmJ
import Derived.Test.YtkieghikbfhlnaaNmL
import Derived.Test.YtkieghikbfhlnaaNmM
import Derived.Test.YtkieghikbfhlnaaNmO
import Derived.Test.YtkieghikbfhlnaaNmR
import Derived.ProofKit
import Derived.OpenShut
import Derived.JoinedCond
namespace Go.Proofs.Ytkieghikbfhlnaa
open Go.RowKit Go.ChangeShapes Go.WideShapes Go.ChangeAt
open Go.ChangeMaps (open_string shut_string)

theorem hexI_dig (n : Nat) (h : n < 16) : hexI (hexDig n) = n := (hexI_iff (hexDig n) n h).2 rfl
theorem unesc_escB (f : Bool) (c : UInt8) (r : List UInt8) : unescL (escB f c ++ r) = (unescL r).map (c :: ·) := by
  have hr := c.toNat_lt
  unfold escB
  by_cases h1 : c = 47
  · rw [if_pos h1, h1]
    exact unescL_slash 45 r rfl
  · rw [if_neg h1]
    by_cases h2 : plainB c.toNat = true ∧ (c ≠ 46 ∨ f = false)
    · rw [if_pos h2]
      exact unescL_plain c r h2.1
    · rw [if_neg h2]
      have e1 := hexI_dig (c.toNat / 16) (by omega)
      have e2 := hexI_dig (c.toNat % 16) (by omega)
      show unescL (92 :: (120 :: hexDig (c.toNat / 16) :: hexDig (c.toNat % 16) :: r)) = _
      rw [unescL_hex 92 _ rfl]
      have eh : hexL (120 :: hexDig (c.toNat / 16) :: hexDig (c.toNat % 16) :: r) = (16 * hexI (hexDig (c.toNat / 16)) + hexI (hexDig (c.toNat % 16)), true) := if_pos ⟨rfl, by omega, by omega⟩
      rw [eh, if_pos rfl, e1, e2]
      have e3 : (16 * ((c.toNat / 16 : Nat) : Int) + ((c.toNat % 16 : Nat) : Int)).toNat.toUInt8 = c := by
        have : (16 * ((c.toNat / 16 : Nat) : Int) + ((c.toNat % 16 : Nat) : Int)).toNat = c.toNat := by omega
        rw [this]; simp
      rw [e3]
      rfl
theorem unesc_escL (f : Bool) (l : List UInt8) : unescL (escL f l) = some l := by
  induction l generalizing f with
  | nil => simp [escL, unescL]
  | cons c r ih => rw [escL, unesc_escB, ih]; rfl
theorem unesc_esc (t : ByteArray) : unescS (escS t) = t ∧ unescOk (escS t) = true := by
  have h : unescL (escS t).data.toList = some t.data.toList := unesc_escL true _
  obtain ⟨h1, h2⟩ := unesc_some h
  exact ⟨h1.trans (str_data t), h2⟩
theorem body_hexDig (n : Nat) (h : n < 16) : bodyByte (hexDig n).toNat = true := by
  have H : ∀ m : Fin 16, bodyByte (hexDig m.1).toNat = true := by decide
  exact H ⟨n, h⟩
theorem body_escB (f : Bool) (c : UInt8) : bodyL (escB f c) = true := by
  have hr := c.toNat_lt
  unfold escB
  by_cases h1 : c = 47
  · rw [if_pos h1]; decide
  · rw [if_neg h1]
    by_cases h2 : plainB c.toNat = true ∧ (c ≠ 46 ∨ f = false)
    · rw [if_pos h2]; simp [bodyL, bodyByte, h2.1]
    · rw [if_neg h2]
      have e1 := body_hexDig (c.toNat / 16) (by omega)
      have e2 := body_hexDig (c.toNat % 16) (by omega)
      simp only [bodyL, List.all_cons, List.all_nil, e1, e2]
      decide
theorem body_escL (f : Bool) (l : List UInt8) : bodyL (escL f l) = true := by
  induction l generalizing f with
  | nil => rfl
  | cons c r ih =>
    rw [escL]
    have h1 := body_escB f c
    have h2 := ih false
    unfold bodyL at *
    rw [List.all_append, h1, h2]
    rfl
/-- The name that the law makes of an escaped text. -/
def xName (e : ByteArray) : ByteArray := (⟨#[120, 64]⟩ : ByteArray) ++ e ++ (⟨#[46, 116, 105, 109, 101, 114]⟩ : ByteArray)
theorem xName_join (e : ByteArray) : xName e = joinS ⟨#[120]⟩ e true 3 := by
  apply ext_list
  rw [joinS_list]
  unfold xName
  rw [app_list, app_list]
  simp [sfx]
theorem xName_size (e : ByteArray) : (xName e).size = e.size + 8 := by
  unfold xName
  rw [ByteArray.size_append, ByteArray.size_append]
  have e1 : (⟨#[120, 64]⟩ : ByteArray).size = 2 := rfl
  have e2 : (⟨#[46, 116, 105, 109, 101, 114]⟩ : ByteArray).size = 6 := rfl
  omega
theorem xName_good (t : ByteArray) (h : (xName (escS t)).size ≤ 60) : goodP (xName (escS t)) = true := by
  rw [xName_join] at h ⊢
  exact (parse_join ⟨#[120]⟩ (escS t) true 3 (by decide) (by decide) (body_escL true _) (fun h => by cases h) (by decide) h).1

set_option maxHeartbeats 2000000 in
theorem NameEscape_walk (t s : ByteArray) (ht : t.size ≤ 1048576) (hs : s.size ≤ 1048576) (w : World) :
    Calls Try.prog 7 #[.string t, .string s] w fun e w' => e = .returned (.bool true) ∧ Below w.heap.size w w' := by
  obtain ⟨u1, u2⟩ := unesc_esc t
  have hes := escS_size t
  have ht45 : t.size ≤ 35184372088832 := by omega
  have he47 : (escS t).size ≤ 140737488351232 := by omega
  have hs47 : s.size ≤ 140737488351232 := by omega
  have hxm : (xName (escS t)).size ≤ maxLen := by rw [xName_size]; unfold maxLen; omega
  have z1 : (⟨#[120, 64]⟩ : ByteArray).size = 2 := rfl
  have z2 : (⟨#[46, 116, 105, 109, 101, 114]⟩ : ByteArray).size = 6 := rfl
  have Z1 := Lib.hid z1
  have Z2 := Lib.hid z2
  have z1' : (⟨#[120, 64]⟩ : ByteArray).size ≤ 2 := Nat.le_refl _
  have z2' : (⟨#[46, 116, 105, 109, 101, 114]⟩ : ByteArray).size ≤ 6 := Nat.le_refl _
  have U1 := Lib.hid u1
  have U2 := Lib.hid u2
  clear u1 u2 z1 z2
  go_enter Try.func7, Try.ntmps7
  go_wp2_with fail
  refine (shown_any _).mono ?_
  rintro e w1 ⟨rfl, hb1⟩
  go_wp2_with fail
  refine (Escape_any _ ht45 _).mono ?_
  rintro e wA ⟨rfl, hbA⟩
  go_wp2_with fail
  refine (Unescape_any _ he47 _).mono ?_
  rintro e wB ⟨rfl, hbB⟩
  rw [U1.out, U2.out]
  go_wp2_with fail
  refine (rEscape_any _ ht45 _).mono ?_
  rintro e wC ⟨rfl, nC, rfl⟩
  go_wp2_with fail
  · have hx60 : (xName (escS t)).size ≤ 60 := by
      have q1 := Z1.out
      have q2 := Z2.out
      rw [xName_size]
      omega
    refine (May_any (xName (escS t)) hxm _).mono ?_
    rintro e wM ⟨rfl, hbM⟩
    rw [xName_good t hx60]
    go_wp2_with fail
    refine (Unescape_any _ hs47 _).mono ?_
    rintro e wD ⟨rfl, hbD⟩
    go_wp2_with fail
    refine (rUnescape_any _ hs47 _).mono ?_
    rintro e wE ⟨rfl, hbE⟩
    go_wp2_with fail
    go_ret
    exact ⟨rfl, more (more (more (below_drewN (more (more hb1 hbA) hbB) nC) hbM) hbD) hbE⟩
  · refine (Unescape_any _ hs47 _).mono ?_
    rintro e wD ⟨rfl, hbD⟩
    go_wp2_with fail
    refine (rUnescape_any _ hs47 _).mono ?_
    rintro e wE ⟨rfl, hbE⟩
    go_wp2_with fail
    go_ret
    exact ⟨rfl, more (more (below_drewN (more (more hb1 hbA) hbB) nC) hbD) hbE⟩

namespace nameEscapeUpto
theorem own : ownKnob Try.prog.godebug = none := by kernel_rfl

theorem contract (H : Type) (enc : TypeId × Value → H) (W : World) (base : Nat) (args : Array Value) (ds gs : List (DataW H)) (before : List MemPlace)
    (hval : ∀ (j : Nat) t v, Try.f7.params[j]? = some t → args[j]? = some v → Value.okWide Try.prog W .any base t v)
    (hW : DataW.Whole enc Try.prog Try.f7.params.toList Rows.nameEscapeSpec.vars false W args.toList ds gs before) (hk : Rows.uptoSmall H (ds ++ gs) = true) :
    Calls Try.prog 7 args W fun e W' => ∃ v, e = .returned v ∧ Rows.nameEscapeSpec.post enc Try.prog Try.f7 false true false false W args v W' := by
  have hW' := hW
  obtain ⟨p, q, hA0, hV, rfl, hfz, hnd⟩ := hW
  have hA : DataW.TrodAll enc Try.prog W 0 (fun _ => true) true Try.f7.params.toList args.toList ds p := hA0
  rw [Try.params7] at hA hval
  obtain ⟨v0, vs0, d0, ds0, p0, q0, hargs, rfl, rfl, h0, r0⟩ := trodAll_cons hA
  obtain ⟨v1, vs1, d1, ds1, p1, q1, rfl, rfl, rfl, h1, r1⟩ := trodAll_cons r0
  obtain ⟨rfl, rfl, rfl⟩ := trodAll_nil r1
  obtain rfl : args = #[v0, v1] := by cases args; simp_all
  obtain ⟨rfl, rfl⟩ := trodVars_none hV
  obtain ⟨a0, rfl, rfl, rfl, w0⟩ := open_string Try.underlying9 (hval 0 9 v0 rfl rfl) h0
  obtain ⟨a1, rfl, rfl, rfl, w1⟩ := open_string Try.underlying9 (hval 1 9 v1 rfl rfl) h1
  clear hA0
  simp only [List.append_nil] at hW' hk
  have hbulk : Rows.uptoBulkAll [DataW.lit (H := H) (.string a0.data.toList), DataW.lit (H := H) (.string a1.data.toList)] ≤ 1048576 := of_decide_eq_true hk
  simp only [Rows.uptoBulkAll, Rows.uptoBulk] at hbulk
  have z0 : a0.data.toList.length = a0.size := by rw [Array.length_toList]; rfl
  have z1 : a1.data.toList.length = a1.size := by rw [Array.length_toList]; rfl
  refine (NameEscape_walk a0 a1 (by omega) (by omega) W).mono fun e W' ⟨he, hg⟩ => ?_
  subst he
  exact ⟨_, rfl, post_below (pa := []) (pv := []) hW' (fun _ _ _ => trodAll_cons_mk (shut_bool Try.underlying4 _) trodAll_mk0) (fun _ _ => (trodAll_cons_mk (shut_string Try.underlying9 w0) (trodAll_cons_mk (shut_string Try.underlying9 w1) trodAll_mk0))) (fun _ _ => rfl) rfl
    hg (ok_one (by kernel_rfl) rfl (okWide_bool_mk Try.underlying4 _))⟩

set_option maxRecDepth 100000 in
theorem lifted (os : Os) (started : os.Started) (H : Type) (enc : TypeId × Value → H) (F : Stop.Interp) :
    ReturnsInHanded {} Try.checked os 7 .any ((Rows.OpenSpec.upto Rows.nameEscapeSpec).pre6 enc Try.prog Try.f7 Rows.nameEscapeUptoRow.domain false) (((Rows.OpenSpec.upto Rows.nameEscapeSpec).at F).post enc Try.prog Try.f7 false true false false) := by
  refine returnsInHanded_of_cond (C := Try.checked) (s := Rows.OpenSpec.upto Rows.nameEscapeSpec) (k := Rows.uptoSmall) rfl own started (by kernel_rfl) Try.func7
    (OpenSpec.witness (enc := enc) (C := Try.checked) (s := Rows.OpenSpec.upto Rows.nameEscapeSpec) (k := Rows.uptoSmall) rfl false ⟨#[], #[.string .empty, .string .empty], []⟩ 8 (by kernel_rfl) (by kernel_rfl) (by kernel_rfl)
      (x := ([.lit (.string []), .lit (.string [])], [], [])) (by kernel_rfl) rfl (by kernel_rfl)) ?_
  intro W base args ds gs before hval hW _ hk _
  exact contract H enc W base args ds gs before hval hW hk

theorem proved : Rows.NameEscapeUptoSaid :=
  OpenClaim.holds_of_cond 7 Try.f7 rfl rfl rfl rfl rfl rfl rfl ⟨rfl, rfl, rfl, rfl, rfl⟩ rfl rfl rfl rfl rfl (by kernel_rfl) Try.func7 (by kernel_rfl)
    (of_decide_eq_true (by kernel_rfl)) (by unfold Func.isWrapper; first | (rw [if_pos (by decide +kernel)]; kernel_rfl) | (rw [if_neg (by decide +kernel)]; exact ⟨rfl, rfl⟩))
    (fun os started H enc _ F => lifted os started H enc F)
end nameEscapeUpto
end Go.Proofs.Ytkieghikbfhlnaa
