/- Value of any key, by the developers and by the document; the walks of the document's wrong and Check. The walks of the l -/
import Derived.Test.YtadifolonbkamaaGreatDoorKvbu
import Derived.Test.YtadifolonbkamaaGreatDoorKvbn
import Derived.Deep.RegionHeld3
namespace Go.Proofs.YtadifolonbkamaaGreatDoor
open Go.RowKit
def rvalT (x : Ky) (v : ByteArray) : Int := if x.f < 1 ∨ 11 < x.f then 3 else valueT x v
theorem rvalT_in {x : Ky} {v : ByteArray} (h1 : 1 ≤ x.f) (h2 : x.f ≤ 11) : rvalT x v = valueT x v := by unfold rvalT; rw [if_neg (by omega)]
set_option maxHeartbeats 4000000 in
theorem rval_no (r : Kr) (h : r.f < 1 ∨ 11 < r.f) (v : ByteArray) (w : World) :
    Calls Tryz.prog 16 #[.agg #[.string (str r.s), .string (str r.n), .int .i64 r.f, .bool r.l, .int .i64 r.k, .slice r.A r.m r.c], .string v] w fun e w' => e = .returned (.int .i64 3) ∧ Below w.heap.size w w' := by
  by_cases h1 : r.f < 1
  · clear h
    go_enter Tryz.func16, Tryz.ntmps16
    go_wp2_with fail
    go_ret
    exact ⟨rfl, (Below.refl _ w).alloc (Nat.le_refl _) _⟩
  · have h2 : 11 < r.f := by omega
    have h3 : 1 ≤ r.f := by omega
    have u1 : (0 : Nat) ≤ 1 := Nat.zero_le _
    clear h h1
    go_enter Tryz.func16, Tryz.ntmps16
    go_wp2_with fail
    go_ret
    exact ⟨rfl, (Below.refl _ w).alloc (Nat.le_refl _) _⟩
theorem rv_key (rs rn : List UInt8) (f : Int) (l : Bool) (k : Int) (A : Option Addr) (m c : Nat) (ws : List (List UInt8)) (v : ByteArray) (hv : v.size ≤ 1048576) (B : Nat) (w : World) (hw : RowAt w B A m ws) (hB : B ≤ w.heap.size) :
    Calls Tryz.prog 16 #[.agg #[.string (str rs), .string (str rn), .int .i64 f, .bool l, .int .i64 k, .slice A m c], .string v] w fun e w' => e = .returned (.int .i64 (rvalT ⟨rs, rn, f, l, k, ws⟩ v)) ∧ Below w.heap.size w w' := by
  by_cases hr : f < 1 ∨ 11 < f
  · unfold rvalT
    rw [if_pos hr]
    exact rval_no ⟨rs, rn, f, l, k, A, m, c⟩ hr v w
  rw [rvalT_in (show 1 ≤ f by omega) (show f ≤ 11 by omega)]
  have hval : ∀ b : Bool, (if v.toList.isEmpty = true then l else b) = takesT ⟨rs, rn, f, l, k, ws⟩ v → (if (if v.toList.isEmpty = true then l else b) = true then (0 : Int) else 12) = valueT ⟨rs, rn, f, l, k, ws⟩ v := fun b h => by unfold valueT; rw [h]
  have hcs : f = 1 ∨ f = 2 ∨ f = 3 ∨ f = 4 ∨ f = 5 ∨ f = 6 ∨ f = 7 ∨ f = 8 ∨ f = 9 ∨ f = 10 ∨ f = 11 := by omega
  rcases hcs with rfl | rfl | rfl | rfl | rfl | rfl | rfl | rfl | rfl | rfl | rfl
  · refine (rval_text ⟨rs, rn, 1, l, k, A, m, c⟩ v hv w).mono ?_
    rintro e w1 ⟨he, hb⟩
    refine ⟨he.trans ?_, hb⟩
    have ht' : takesT ⟨rs, rn, 1, l, k, ws⟩ v = true := by unfold takesT; rw [if_pos rfl]
    unfold valueT
    rw [ht']
    cases v.toList.isEmpty <;> rfl
  · refine (rval_bool ⟨rs, rn, 2, l, k, A, m, c⟩ v hv w).mono ?_
    rintro e w1 ⟨he, hb⟩
    refine ⟨he.trans ?_, hb⟩
    have ht' : takesT ⟨rs, rn, 2, l, k, ws⟩ v = if v.toList.isEmpty = true then l else (boolS v) := by unfold takesT; exact (if_neg (show ¬ (2 : Int) = 1 by decide)).trans rfl
    rw [hval _ ht'.symm]
  · refine (rval_num ⟨rs, rn, 3, l, k, A, m, c⟩ v hv w).mono ?_
    rintro e w1 ⟨he, hb⟩
    refine ⟨he.trans ?_, hb⟩
    have ht' : takesT ⟨rs, rn, 3, l, k, ws⟩ v = if v.toList.isEmpty = true then l else (numS v) := by unfold takesT; exact (if_neg (show ¬ (3 : Int) = 1 by decide)).trans rfl
    rw [hval _ ht'.symm]
  · refine (rval_span ⟨rs, rn, 4, l, k, A, m, c⟩ v hv w).mono ?_
    rintro e w1 ⟨he, hb⟩
    refine ⟨he.trans ?_, hb⟩
    have ht' : takesT ⟨rs, rn, 4, l, k, ws⟩ v = if v.toList.isEmpty = true then l else (Sn.parseOk v) := by unfold takesT; exact (if_neg (show ¬ (4 : Int) = 1 by decide)).trans rfl
    rw [hval _ ht'.symm]
  · refine (rval_unit ⟨rs, rn, 5, l, k, A, m, c⟩ v hv w).mono ?_
    rintro e w1 ⟨he, hb⟩
    refine ⟨he.trans ?_, hb⟩
    have ht' : takesT ⟨rs, rn, 5, l, k, ws⟩ v = if v.toList.isEmpty = true then l else (unitS v) := by unfold takesT; exact (if_neg (show ¬ (5 : Int) = 1 by decide)).trans rfl
    rw [hval _ ht'.symm]
  · refine (rval_names ⟨rs, rn, 6, l, k, A, m, c⟩ v hv w).mono ?_
    rintro e w1 ⟨he, hb⟩
    refine ⟨he.trans ?_, hb⟩
    have ht' : takesT ⟨rs, rn, 6, l, k, ws⟩ v = if v.toList.isEmpty = true then l else (listS unitS v) := by unfold takesT; exact (if_neg (show ¬ (6 : Int) = 1 by decide)).trans rfl
    rw [hval _ ht'.symm]
  · refine (rval_cmd ⟨rs, rn, 7, l, k, A, m, c⟩ v hv w).mono ?_
    rintro e w1 ⟨he, hb⟩
    refine ⟨he.trans ?_, hb⟩
    have ht' : takesT ⟨rs, rn, 7, l, k, ws⟩ v = if v.toList.isEmpty = true then l else (cmdS v) := by unfold takesT; exact (if_neg (show ¬ (7 : Int) = 1 by decide)).trans rfl
    rw [hval _ ht'.symm]
  · refine (rval_env ⟨rs, rn, 8, l, k, A, m, c⟩ v hv w).mono ?_
    rintro e w1 ⟨he, hb⟩
    refine ⟨he.trans ?_, hb⟩
    have ht' : takesT ⟨rs, rn, 8, l, k, ws⟩ v = if v.toList.isEmpty = true then l else (envS v) := by unfold takesT; exact (if_neg (show ¬ (8 : Int) = 1 by decide)).trans rfl
    rw [hval _ ht'.symm]
  · refine (rval_cal ⟨rs, rn, 9, l, k, A, m, c⟩ v hv w).mono ?_
    rintro e w1 ⟨he, hb⟩
    refine ⟨he.trans ?_, hb⟩
    have ht' : takesT ⟨rs, rn, 9, l, k, ws⟩ v = if v.toList.isEmpty = true then l else (calS v) := by unfold takesT; exact (if_neg (show ¬ (9 : Int) = 1 by decide)).trans rfl
    rw [hval _ ht'.symm]
  · refine (rval_word ⟨rs, rn, 10, l, k, A, m, c⟩ v hv B ws w hw hB).mono ?_
    rintro e w1 ⟨he, hb⟩
    refine ⟨he.trans ?_, hb⟩
    have ht' : takesT ⟨rs, rn, 10, l, k, ws⟩ v = if v.toList.isEmpty = true then l else (ws.any (fun y => decide (y = v.data.toList))) := by unfold takesT; exact (if_neg (show ¬ (10 : Int) = 1 by decide)).trans rfl
    rw [hval _ ht'.symm]
  · refine (rval_nums ⟨rs, rn, 11, l, k, A, m, c⟩ v hv w).mono ?_
    rintro e w1 ⟨he, hb⟩
    refine ⟨he.trans ?_, hb⟩
    have ht' : takesT ⟨rs, rn, 11, l, k, ws⟩ v = if v.toList.isEmpty = true then l else (listS numS v) := by unfold takesT; exact (if_neg (show ¬ (11 : Int) = 1 by decide)).trans rfl
    rw [hval _ ht'.symm]
theorem rvalT_is {r : Kr} {w : World} {B : Nat} {x : Ky} (h : r.is w B x) (v : ByteArray) : rvalT ⟨r.s, r.n, r.f, r.l, r.k, x.w⟩ v = rvalT x v := by
  obtain ⟨h1, h2, h3, h4, h5, _⟩ := h
  rw [h1, h2, h3, h4, h5]
end Go.Proofs.YtadifolonbkamaaGreatDoor
