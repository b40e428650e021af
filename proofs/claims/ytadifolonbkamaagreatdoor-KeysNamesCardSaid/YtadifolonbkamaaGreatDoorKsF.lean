/- The walks of the developers' isUnit, and of isListOf at it. -/
import Derived.Test.YtadifolonbkamaaGreatDoorKsS
import Derived.Test.YtadifolonbkamaaGreatDoorCpR
import Derived.Test.YtadifolonbkamaaGreatDoorKsW
import Derived.Test.YtadifolonbkamaaGreatDoorNoE
import Derived.TacticsInMore
namespace Go.Proofs.YtadifolonbkamaaGreatDoor
open Go.RowKit
attribute [local go_sem] Oper.semAt_some

/-- Is a text a unit's name, and no template? -/
def unitS (s : ByteArray) : Bool := Nm.goodP s && (!Nm.atP s || !(Nm.instP s).toList.isEmpty)
set_option maxHeartbeats 2000000 in
theorem isUnit_any (s : ByteArray) (hs : s.size ≤ maxLen) (w : World) :
    Calls Tryz.prog 53 #[.string s] w fun e w' => e = .returned (.bool (unitS s)) ∧ Below w.heap.size w w' := by
  have HM := fun w => Nm.May_any s hs w
  have HP := fun w => Nm.Parts_any s hs w
  unfold unitS
  rcases hg : Nm.goodP s with _ | _ <;> rcases ha : Nm.atP s with _ | _ <;> rcases he : (Nm.instP s).toList.isEmpty with _ | _
  all_goals rw [hg] at HM
  all_goals rw [ha] at HP
  all_goals
    have H1 := Lib.hid HM
    have H2 := Lib.hid HP
    clear HM HP hg ha
    go_enter Tryz.func53, Tryz.ntmps53
    go_wp2_with fail
    refine (H2.out _).mono ?_
    rintro e w1 ⟨rfl, hb⟩
    go_wp2_with fail
    refine (H1.out _).mono ?_
    rintro e w2 ⟨rfl, hb2⟩
    go_wp2_with fail
    go_ret
    exact ⟨rfl, more hb hb2⟩
end Go.Proofs.YtadifolonbkamaaGreatDoor
