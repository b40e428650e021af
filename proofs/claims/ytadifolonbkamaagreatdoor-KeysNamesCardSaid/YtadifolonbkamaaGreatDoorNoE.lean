/- The walks of package name over parse: join, isTemplate, May, Kind, Parts. -/
import Derived.Test.YtadifolonbkamaaGreatDoorNoD
import Derived.Deep.QuietTactic
namespace Go.Proofs.YtadifolonbkamaaGreatDoor.Nm
open Go.RowKit

set_option maxHeartbeats 1000000 in
theorem May_any (s : ByteArray) (hs : s.size ≤ maxLen) (w : World) :
    Calls Tryz.prog 81 #[.string s] w fun e w' => e = .returned (.bool (goodP s)) ∧ Below w.heap.size w w' := by
  go_enter Tryz.func81, Tryz.ntmps81
  go_wp2_with fail
  refine (parse_any _ hs _).mono ?_
  rintro e w1 ⟨rfl, hb⟩
  go_wp2_with fail
  go_ret
  exact ⟨rfl, hb.alloc hb.size _⟩

set_option maxHeartbeats 1000000 in
theorem Parts_any (s : ByteArray) (hs : s.size ≤ maxLen) (w : World) :
    Calls Tryz.prog 80 #[.string s] w fun e w' => e = .returned (.tuple #[.string (preP s), .string (instP s), .bool (atP s)]) ∧ Below w.heap.size w w' := by
  go_enter Tryz.func80, Tryz.ntmps80
  go_wp2_with fail
  refine (parse_any _ hs _).mono ?_
  rintro e w1 ⟨rfl, hb⟩
  go_wp2_with fail
  go_region
  go_wp2_with fail
  go_ret3
  exact ⟨rfl, (hb.alloc hb.size _).drew⟩

/-- A name's pieces put together. -/
def joinS (p i : ByteArray) (a : Bool) (k : Int) : ByteArray := (if a = true then p ++ ((⟨#[64]⟩ : ByteArray) ++ i) else p) ++ (⟨#[46]⟩ : ByteArray) ++ str (sfx k)

theorem sfx_length (k : Int) : (sfx k).length ≤ 7 := by
  unfold sfx
  split
  · simp
  · split
    · simp
    · split
      · simp
      · split <;> simp

end Go.Proofs.YtadifolonbkamaaGreatDoor.Nm
