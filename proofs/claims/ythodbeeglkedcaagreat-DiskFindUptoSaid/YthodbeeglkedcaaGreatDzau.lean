/- What names answer, as the laws of files ask it. What the laws show first, on plain lists. -/
import Derived.Test.YthodbeeglkedcaaGreatDzaj
import Derived.Test.YthodbeeglkedcaaGreatDzat
import Derived.Test.YthodbeeglkedcaaGreatDzac
namespace Go.Proofs.YthodbeeglkedcaaGreat
open Go.RowKit
def nmsP : Nms where
  good u := Nm.goodP (str u)
  kind u := Nm.kindP (str u)
  isT u := Nm.atP (str u) && (Nm.instP (str u)).toList.isEmpty
  isI u := Nm.atP (str u) && !(Nm.instP (str u)).toList.isEmpty
  tmpl u := (Nm.tmplS (str u)).data.toList
  inst u := (Nm.instP (str u)).data.toList
  ins t i := if Nm.insOk (str t) (str i) = true then some (Nm.insS (str t) (str i)).data.toList else none
theorem isT_eq (u : List UInt8) : nmsP.isT u = (Nm.atP (str u) && (Nm.instP (str u)).toList.isEmpty) := rfl
theorem isI_eq (u : List UInt8) : nmsP.isI u = (Nm.atP (str u) && !(Nm.instP (str u)).toList.isEmpty) := rfl
theorem body_noslash {l : List UInt8} (h : Nm.bodyL l = true) : (47 : UInt8) ∉ l := fun h47 => by
  unfold Nm.bodyL at h
  rw [List.all_eq_true] at h
  exact absurd (h 47 h47) (by decide)
theorem good_list {u : List UInt8} (h : nmsP.good u = true) : u = (if Nm.atP (str u) = true then (Nm.preP (str u)).data.toList ++ 64 :: (Nm.instP (str u)).data.toList else (Nm.preP (str u)).data.toList) ++ 46 :: Nm.sfx (Nm.kindP (str u)) := by
  have := congrArg (fun s => s.data.toList) (Nm.join_parts (str u) h)
  simp only [Nm.joinS_list, str_list] at this
  exact this.symm
theorem nmsOk : NmsOk nmsP where
  slash u h := by
    obtain ⟨hp, hbp, hbi, _, hk, h60⟩ := Nm.parts_of (str u) h
    rw [good_list h]
    intro h47
    rcases List.mem_append.1 h47 with h47 | h47
    · split at h47
      · rcases List.mem_append.1 h47 with h47 | h47
        · exact body_noslash hbp h47
        · rcases List.mem_cons.1 h47 with h47 | h47
          · revert h47; decide
          · exact body_noslash hbi h47
      · exact body_noslash hbp h47
    · rcases List.mem_cons.1 h47 with h47 | h47
      · revert h47; decide
      · rcases Nm.sfx_cases (Nm.kindP (str u)) with e | e | e | e | e
        all_goals
          rw [e] at h47
          revert h47
          first | decide | simp
  ne u h := by
    rw [good_list h]
    simp
  short u h := (Nm.parts_of (str u) h).2.2.2.2.2
  null := by
    rcases h : Nm.goodP (str nulL) with _ | _
    · exact h
    · exfalso
      have hj := good_list (u := nulL) h
      have : (46 : UInt8) ∈ nulL := by rw [hj]; simp
      revert this; decide
  kind u := by
    have := Nm.good_kind (str u)
    show 0 < Nm.kindP (str u) ↔ Nm.goodP (str u) = true
    rw [← this, decide_eq_true_eq]
  tmpl u h hg := by
    have hi : (Nm.instP (str u)).toList.isEmpty = false := by
      have h' : (Nm.atP (str u) && !(Nm.instP (str u)).toList.isEmpty) = true := h
      rw [Bool.and_eq_true] at h'
      simpa using h'.2
    obtain ⟨h1, h2, h3, h4, h5⟩ := Nm.turn_tmpl (str u) hi
    show Nm.goodP (str (Nm.tmplS (str u)).data.toList) = true
    rw [str_data]
    have := Nm.good_kind (Nm.tmplS (str u))
    rw [← this, h5, Nm.good_kind]
    exact hg
  ins t i s h := by
    have h' : (if Nm.insOk (str t) (str i) = true then some (Nm.insS (str t) (str i)).data.toList else none) = some s := h
    split at h'
    · rename_i hok
      injection h' with hs
      have hS : Nm.insS (str t) (str i) = Nm.insJ (str t) (str i) := by unfold Nm.insS; rw [if_pos hok]
      have he : str s = Nm.insJ (str t) (str i) := by rw [← hs, str_data, hS]
      have hok' := hok
      unfold Nm.insOk at hok
      simp only [Bool.and_eq_true, beq_iff_eq, Bool.not_eq_true'] at hok
      obtain ⟨⟨⟨⟨⟨⟨⟨a1, a2⟩, a3⟩, a4⟩, a5⟩, a6⟩, a7⟩, a8⟩ := hok
      rw [← he] at a4 a5 a6 a7 a8
      have hgt : Nm.goodP (str t) = true := Nm.at_good (str t) a1
      have e5 : Nm.preP (str s) = Nm.preP (str t) := Nm.ext_list (by simpa [Lib.toList_data] using a5)
      have e6 : Nm.instP (str s) = str i := Nm.ext_list (by simpa [Lib.toList_data] using a6)
      have hin : (Nm.instP (str s)).toList.isEmpty = false := by rw [e6]; exact a3
      obtain ⟨t1, t2, t3, t4, t5⟩ := Nm.turn_tmpl (str s) hin
      refine ⟨a4, ?_, ?_, ?_, hgt, ?_⟩
      · show (Nm.atP (str s) && !(Nm.instP (str s)).toList.isEmpty) = true
        rw [a7, hin]; rfl
      · show (Nm.tmplS (str s)).data.toList = t
        rw [t1, e5, a8]
        have hj := Nm.join_parts (str t) hgt
        have hi0 : Nm.instP (str t) = ⟨#[]⟩ := by
          rw [Nm.empty_str] at a2
          exact Nm.ext_list a2
        rw [a1, hi0] at hj
        rw [hj]
        rfl
      · show (Nm.atP (str s) && (Nm.instP (str s)).toList.isEmpty) = false
        rw [hin]; simp
      · show (Nm.atP (str t) && !(Nm.instP (str t)).toList.isEmpty) = false
        rw [a2]; simp
    · cases h'
end Go.Proofs.YthodbeeglkedcaaGreat
namespace Go.Proofs.YthodbeeglkedcaaGreat
open Go.RowKit
def files0 : List Fi := [⟨[108, 105, 98, 47, 97, 64, 46, 115, 101, 114, 118, 105, 99, 101], [120], []⟩, ⟨[101, 116, 99, 47, 97, 64, 49, 46, 115, 101, 114, 118, 105, 99, 101, 46, 100, 47, 98, 46, 99, 111, 110, 102], [121], []⟩, ⟨[108, 105, 98, 47, 97, 64, 46, 115, 101, 114, 118, 105, 99, 101, 46, 100, 47, 98, 46, 99, 111, 110, 102], [], []⟩, ⟨[114, 117, 110, 47, 99, 46, 116, 97, 114, 103, 101, 116, 46, 119, 97, 110, 116, 115, 47, 100, 46, 115, 101, 114, 118, 105, 99, 101], [], [100, 46, 115, 101, 114, 118, 105, 99, 101]⟩, ⟨[101, 116, 99, 47, 101, 46, 116, 105, 109, 101, 114], [], [110, 117, 108, 108]⟩]
def sA1 : List UInt8 := [97, 64, 49, 46, 115, 101, 114, 118, 105, 99, 101]
def sE : List UInt8 := [101, 46, 116, 105, 109, 101, 114]
def sZ : List UInt8 := [122, 46, 116, 105, 109, 101, 114]
def sC : List UInt8 := [99, 46, 116, 97, 114, 103, 101, 116]
def sLa : List UInt8 := [108, 105, 98, 47, 97, 64, 46, 115, 101, 114, 118, 105, 99, 101]
def sDr : List UInt8 := [101, 116, 99, 47, 97, 64, 49, 46, 115, 101, 114, 118, 105, 99, 101, 46, 100, 47, 98, 46, 99, 111, 110, 102]
def sEe : List UInt8 := [101, 116, 99, 47, 101, 46, 116, 105, 109, 101, 114]
def sD : List UInt8 := [100, 46, 115, 101, 114, 118, 105, 99, 101]
theorem shown_may : mayL nmsP files0 = true := by decide +kernel
theorem shown_x : findL nmsP files0 sA1 = (⟨sA1, sLa, false, [sDr]⟩, 0) := by decide +kernel
theorem shown_y : findL nmsP files0 sE = (⟨sE, sEe, true, []⟩, 0) := by decide +kernel
theorem shown_z : findL nmsP files0 sZ = (noFd, 6) := by decide +kernel
theorem shown_w : linksL nmsP 3 files0 sC = [sD] := by decide +kernel
theorem shown_r : linksL nmsP 4 files0 sC = [] := by decide +kernel
end Go.Proofs.YthodbeeglkedcaaGreat
