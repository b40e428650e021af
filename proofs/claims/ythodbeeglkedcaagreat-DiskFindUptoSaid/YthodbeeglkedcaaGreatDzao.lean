/- The walks of package name over parse: join, isTemplate, May, Kind, Parts. -/
import Derived.Test.YthodbeeglkedcaaGreatDzan
import Derived.Deep.QuietTactic
namespace Go.Proofs.YthodbeeglkedcaaGreat.Nm
open Go.RowKit
set_option maxHeartbeats 1000000 in
theorem May_any (s : ByteArray) (hs : s.size ≤ maxLen) (w : World) :
    Calls Tryz.prog 13 #[.string s] w fun e w' => e = .returned (.bool (goodP s)) ∧ Below w.heap.size w w' := by
  go_enter Tryz.func13, Tryz.ntmps13
  go_wp2_with fail
  refine (parse_any _ hs _).mono ?_
  rintro e w1 ⟨rfl, hb⟩
  go_wp2_with fail
  go_ret
  exact ⟨rfl, hb.alloc hb.size _⟩
set_option maxHeartbeats 1000000 in
theorem Kind_any (s : ByteArray) (hs : s.size ≤ maxLen) (w : World) :
    Calls Tryz.prog 71 #[.string s] w fun e w' => e = .returned (.int .i64 (kindP s)) ∧ Below w.heap.size w w' := by
  go_enter Tryz.func71, Tryz.ntmps71
  go_wp2_with fail
  refine (parse_any _ hs _).mono ?_
  rintro e w1 ⟨rfl, hb⟩
  go_wp2_with fail
  go_ret
  exact ⟨rfl, hb.alloc hb.size _⟩
set_option maxHeartbeats 1000000 in
theorem Parts_any (s : ByteArray) (hs : s.size ≤ maxLen) (w : World) :
    Calls Tryz.prog 33 #[.string s] w fun e w' => e = .returned (.tuple #[.string (preP s), .string (instP s), .bool (atP s)]) ∧ Below w.heap.size w w' := by
  go_enter Tryz.func33, Tryz.ntmps33
  go_wp2_with fail
  refine (parse_any _ hs _).mono ?_
  rintro e w1 ⟨rfl, hb⟩
  go_wp2_with fail
  go_region
  go_wp2_with fail
  go_ret3
  exact ⟨rfl, (hb.alloc hb.size _).drew⟩
def joinS (p i : ByteArray) (a : Bool) (k : Int) : ByteArray := (if a = true then p ++ ((⟨#[64]⟩ : ByteArray) ++ i) else p) ++ (⟨#[46]⟩ : ByteArray) ++ str (sfx k)
theorem sfx_length (k : Int) : (sfx k).length ≤ 7 := by
  unfold sfx
  split
  · simp
  · split
    · simp
    · split
      · simp
      · split <;> simp
set_option maxHeartbeats 1000000 in
theorem join_any (p i : ByteArray) (a : Bool) (k : Int) (hsz : p.size + i.size ≤ 4611686018427387904) (w : World) :
    Calls Tryz.prog 58 #[.agg #[.string p, .string i, .bool a, .int .i64 k]] w fun e w' => e = .returned (.string (joinS p i a k)) ∧ Below w.heap.size w w' := by
  have hk := sfx_length k
  have hk2 : (str (sfx k)).size ≤ 7 := hk
  cases a
  · have HJ : Hid (joinS p i false k = p ++ (⟨#[46]⟩ : ByteArray) ++ str (sfx k)) := rfl
    go_enter Tryz.func58, Tryz.ntmps58
    go_wp2_with (go_at_call 78; refine (Suffix_any _ _).mono ?_; rintro e w' ⟨rfl, rfl⟩)
    go_ret
    exact ⟨ret_str HJ.out.symm, (Below.refl _ _).alloc (Nat.le_refl _) _⟩
  · have HJ : Hid (joinS p i true k = p ++ ((⟨#[64]⟩ : ByteArray) ++ i) ++ (⟨#[46]⟩ : ByteArray) ++ str (sfx k)) := rfl
    go_enter Tryz.func58, Tryz.ntmps58
    go_wp2_with (go_at_call 78; refine (Suffix_any _ _).mono ?_; rintro e w' ⟨rfl, rfl⟩)
    go_ret
    exact ⟨ret_str HJ.out.symm, (Below.refl _ _).alloc (Nat.le_refl _) _⟩
set_option maxHeartbeats 1000000 in
theorem isTemplate_any (p i : ByteArray) (a : Bool) (k : Int) (w : World) :
    Calls Tryz.prog 60 #[.agg #[.string p, .string i, .bool a, .int .i64 k]] w fun e w' => e = .returned (.bool (a && i.toList.isEmpty)) ∧ Below w.heap.size w w' := by
  cases a
  · go_enter Tryz.func60, Tryz.ntmps60
    go_wp2
    go_ret
    exact ⟨rfl, (Below.refl _ _).alloc (Nat.le_refl _) _⟩
  · go_enter Tryz.func60, Tryz.ntmps60
    go_wp2
    go_ret
    exact ⟨rfl, (Below.refl _ _).alloc (Nat.le_refl _) _⟩
end Go.Proofs.YthodbeeglkedcaaGreat.Nm
