/- CalPart on plain lists: one field with one part; what the law reckons. It speaks of no code. -/
import Derived.Test.YteflddgcddcejaaGreatDoorCwbs
namespace Go.Proofs.YteflddgcddcejaaGreatDoor

/-- All but the hours are any, the hours are one part. -/
def hourC (p : Pt) : Cl := ⟨[], anyP, anyP, anyP, [p], anyP, anyP⟩
theorem mayF_any (f : Nat) : mayF f anyP = true := by
  rw [mayF_iff]
  refine ⟨by simp [anyP], fun p hp => ?_⟩
  simp [anyP] at hp
  subst hp
  rw [mayP_iff]
  simp
theorem mayF_one (f : Nat) (p : Pt) : mayF f [p] = mayP f p := by
  unfold mayF
  simp
theorem part_may (p : Pt) : mayC (hourC p) = mayP 3 p := by
  unfold mayC hourC
  simp only [mayF_any, mayF_one, Bool.true_and, Bool.and_true]
  rfl
theorem part_match (p : Pt) (h : Int) (h0 : 0 ≤ h) (h1 : h ≤ 23) : matchB (hourC p) (3600 * h + 5) = (mayP 3 p && inP 3 p h) := by
  have ht : isT (3600 * h + 5) = true := (isT_iff _).2 ⟨by omega, by omega⟩
  have hd := date_of ht
  obtain ⟨y0, y1, m0, m1, d0, d1⟩ := hd.day

  have e3 : fH (3600 * h + 5) = h := by unfold fH; rw [if_pos ht]; omega
  have hn : numsB (hourC p) (3600 * h + 5) = inP 3 p h := by
    unfold numsB
    show (inF 0 anyP _ && (inF 1 anyP _ && (inF 2 anyP _ && (inF 3 [p] _ && (inF 4 anyP _ && inF 5 anyP _))))) = _
    rw [e3, inP_any (f := 0) y0 y1, inP_any (f := 1) m0 m1, inP_any (f := 2) d0 (Int.le_trans d1 (dim_bd _ _ m0 m1).2), inP_any (f := 4) hd.m0 hd.m1, inP_any (f := 5) hd.s0 hd.s1]
    simp [inF]
  unfold matchB
  rw [part_may, ht, hn]
  rfl
/-- What the law reckons. -/
def fromL (p : Pt) : Int := if p.a = -1 then 0 else p.a
def toL1 (p : Pt) : Int := if p.a = -1 then 23 else p.b
def toL (p : Pt) : Int := if toL1 p = -1 then (if 0 < p.s then 23 else fromL p) else toL1 p
def stepL (p : Pt) : Int := if p.s < 1 then 1 else p.s
theorem part_want (p : Pt) (h : Int) (hm : mayP 3 p = true) : inP 3 p h = (decide (fromL p ≤ h) && (decide (h ≤ toL p) && decide ((h - fromL p).tmod (stepL p) = 0))) := by
  rw [mayP_iff] at hm
  obtain ⟨s0, s1, hab⟩ := hm
  have e1 : ptA 3 p = fromL p := rfl
  have e3 : ptS p = stepL p := by unfold ptS stepL; split <;> omega
  have e2 : ptB 3 p = toL p := by
    unfold ptB toL toL1
    by_cases ha : p.a = -1
    · simp [ha, hi]
    · simp only [if_neg ha]
      by_cases hb : p.b = -1
      · simp only [if_pos hb]
        by_cases hs : p.s = 0
        · rw [if_pos hs, if_neg (by omega)]
          unfold fromL
          rw [if_neg ha]
        · rw [if_neg hs, if_pos (by omega)]
          rfl
      · simp only [if_neg hb]
  rw [Bool.eq_iff_iff, inP_iff, e1, e2, e3]
  simp only [Bool.and_eq_true, decide_eq_true_eq]
  constructor
  · rintro ⟨h1, h2, h3⟩
    refine ⟨h1, h2, ?_⟩
    rw [Int.tmod_eq_emod_of_nonneg (by omega)]
    exact h3
  · rintro ⟨h1, h2, h3⟩
    refine ⟨h1, h2, ?_⟩
    rw [Int.tmod_eq_emod_of_nonneg (by omega)] at h3
    exact h3
end Go.Proofs.YteflddgcddcejaaGreatDoor
