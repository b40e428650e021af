/- The walks of the laws' own shown; of CivilYear. -/
import Derived.Test.YtnbdcjohibfjaaaGreatDoorCvB
import Derived.Test.YtnbdcjohibfjaaaGreatDoorCvE
namespace Go.Proofs.YtnbdcjohibfjaaaGreatDoor
open Go.RowKit

theorem first_date : IsDate 0 2000 1 1 0 0 0 6 := by
  have n0 : num 2000 1 1 = 0 := by unfold num; rw [yst_2000, mst_1]; rfl
  refine ⟨⟨by omega, by omega, by omega, by omega, by omega, by simp [dim]⟩, by omega, by omega, by omega, by omega, by omega, by omega, by rw [n0]; rfl, by rw [n0]; rfl⟩
theorem leap_date : IsDate 5101200 2000 2 29 1 0 0 2 := by
  have l0 : leapB 2000 = true := by decide
  have n0 : num 2000 2 29 = 59 := by unfold num; rw [yst_2000]; simp [mst]
  refine ⟨⟨by omega, by omega, by omega, by omega, by omega, by simp [dim, lp, l0]⟩, by omega, by omega, by omega, by omega, by omega, by omega, by rw [n0]; rfl, by rw [n0]; rfl⟩

end Go.Proofs.YtnbdcjohibfjaaaGreatDoor
