/- The Builder's checks and writes, and strings.Cut at one byte, as this program has them. -/
import Derived.Test.YtadifolonbkamaaGreatDoorShelf
import Derived.Test.YtadifolonbkamaaGreatDoorNoB
import Derived.WalkKit
import Derived.BigQuiet
import Derived.Handy
import Derived.Lib.CutLaws
namespace Go.Proofs.YtadifolonbkamaaGreatDoor.Nm
open Go.RowKit

theorem byteInfo : (Tryz.prog.info? 5).map (fun i => (i.zero, i.size, i.bytes)) = some (some (.int .u8 0), 1, 1) := by kernel_rfl

/-- What strings.Cut at an @ gives: before, behind, whether. -/
def cutAt (s : ByteArray) : List UInt8 × List UInt8 × Bool := Lib.cut s.data.toList [64]

set_option maxHeartbeats 2000000 in
set_option maxRecDepth 100000 in
theorem liteCut_at (s : ByteArray) (hs : s.size ≤ maxLen) (w : World) :
    Calls Tryz.prog 138 #[.string s, .string ⟨#[64]⟩] w fun e w' => e = .returned (.tuple #[.string (str (cutAt s).1), .string (str (cutAt s).2.1), .bool (cutAt s).2.2]) ∧ ∃ n, w' = w.drewN n := by
  unfold maxLen at hs
  have hi1 : Lib.indexByte s.data.toList 64 = Lib.indexB s ⟨#[64]⟩ := (Lib.index_one s.data.toList 64).symm
  rcases Lib.indexB_cases s ⟨#[64]⟩ with hix | ⟨i, hix, hroom⟩
  · obtain ⟨e1, e2, e3⟩ := Lib.cutB_miss s ⟨#[64]⟩ hix
    have E1 : str (cutAt s).1 = _ := e1
    have E2 : str (cutAt s).2.1 = _ := e2
    have E3 : (cutAt s).2.2 = _ := e3
    rw [E1, E2, E3]
    rw [hix] at hi1
    clear e1 e2 e3 E1 E2 E3 hix
    have H := Lib.hid hi1
    clear hi1
    go_enter Tryz.func138, Tryz.ntmps138
    go_wp2_with (go_at_call 145; refine (Tryz.stringslite_Index_one _ _ _).mono ?_; rintro e w' ⟨rfl, rfl⟩; rw [H.out])
    go_ret3
    exact ⟨rfl, 0, rfl⟩
  · obtain ⟨e1, e2, e3⟩ := Lib.cutB_hit s ⟨#[64]⟩ i hix
    have E1 : str (cutAt s).1 = _ := e1
    have E2 : str (cutAt s).2.1 = _ := e2
    have E3 : (cutAt s).2.2 = _ := e3
    rw [E1, E2, E3]
    rw [hix] at hi1
    clear e1 e2 e3 E1 E2 E3 hix
    have hsz : (⟨#[64]⟩ : ByteArray).size = 1 := rfl
    rw [hsz] at hroom ⊢
    clear hsz
    have H := Lib.hid hi1
    clear hi1
    have c1 : (0 : Int) ≤ ↑i := by omega
    have c2 : (↑i : Int) ≤ ↑s.size := by omega
    have c3 : (0 : Int) ≤ ↑i + 1 := by omega
    have c4 : (↑i + 1 : Int) ≤ ↑s.size := by omega
    go_enter Tryz.func138, Tryz.ntmps138
    go_wp2_with (go_at_call 145; refine (Tryz.stringslite_Index_one _ _ _).mono ?_; rintro e w' ⟨rfl, rfl⟩; rw [H.out])
    go_region
    go_wp2
    go_ret3
    exact ⟨rfl, 1, rfl⟩

set_option maxHeartbeats 1000000 in
theorem cut_at (s : ByteArray) (hs : s.size ≤ maxLen) (w : World) :
    Calls Tryz.prog 112 #[.string s, .string ⟨#[64]⟩] w fun e w' => e = .returned (.tuple #[.string (str (cutAt s).1), .string (str (cutAt s).2.1), .bool (cutAt s).2.2]) ∧ ∃ n, w' = w.drewN n := by
  go_enter Tryz.func112, Tryz.ntmps112
  go_wp2_with (go_at_call 138; refine (liteCut_at _ hs _).mono ?_; rintro e w' ⟨rfl, n, rfl⟩)
  go_ret3
  exact ⟨rfl, n, rfl⟩
end Go.Proofs.YtadifolonbkamaaGreatDoor.Nm
