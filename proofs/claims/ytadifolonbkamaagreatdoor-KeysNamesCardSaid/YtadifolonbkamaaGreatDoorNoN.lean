/- NameTurn: an instance's template, with its instance string, is that instance; a name changed to another kind and back is what it was, and it cannot be changed only if it is no name, the kind is none, or it is longer than 53 bytes. For every string and every int. -/
import Derived.Test.YtadifolonbkamaaGreatDoorRows
import Derived.Test.YtadifolonbkamaaGreatDoorNoJ
import Derived.Test.YtadifolonbkamaaGreatDoorNoL
import Derived.Test.YtadifolonbkamaaGreatDoorNoM
import Derived.ProofKit
import Derived.OpenShut
namespace Go.Proofs.YtadifolonbkamaaGreatDoor.Nm
open Go.RowKit Go.ChangeShapes Go.WideShapes Go.ChangeAt
open Go.ChangeMaps (open_string shut_string)

theorem empty_str (s : ByteArray) : s.toList.isEmpty = true ↔ s.data.toList = [] := by rw [Lib.toList_data]; simp
theorem empty_str' (s : ByteArray) : s.toList.isEmpty = false ↔ s.data.toList ≠ [] := by
  rw [← Bool.not_eq_true, empty_str]
theorem size_list (s : ByteArray) : s.size = s.data.toList.length := Lib.size_eq s

theorem nil_empty : (⟨#[]⟩ : ByteArray).toList.isEmpty = true := by rw [empty_str]
theorem inst_good (s : ByteArray) (h : (instP s).toList.isEmpty = false) : goodP s = true ∧ atP s = true := by
  rcases hg : goodP s with _ | _
  · rw [(not_good s hg).2.1] at h
    rw [nil_empty] at h
    exact absurd h (by decide)
  · refine ⟨rfl, ?_⟩
    rcases ha : atP s with _ | _
    · have := (parts_of s hg).2.2.2.1 ha
      rw [empty_str'] at h
      exact absurd this h
    · rfl
/-- An instance's template has it as its instance. -/
theorem turn_tmpl (s : ByteArray) (h : (instP s).toList.isEmpty = false) :
    tmplS s = joinS (preP s) ⟨#[]⟩ true (kindP s) ∧ insOk (tmplS s) (instP s) = true ∧ insS (tmplS s) (instP s) = s ∧ tmplS (tmplS s) = ⟨#[]⟩ ∧ kindP (tmplS s) = kindP s := by
  obtain ⟨hg, ha⟩ := inst_good s h
  obtain ⟨hp, hbp, hbi, _, hk, h60⟩ := parts_of s hg
  have hj := join_parts s hg
  have ht : tmplS s = joinS (preP s) ⟨#[]⟩ true (kindP s) := by unfold tmplS; rw [if_neg (by rw [h]; simp), ha]
  have hsz : (joinS (preP s) ⟨#[]⟩ true (kindP s)).size ≤ 60 := by
    have e1 : s.size = (joinS (preP s) (instP s) (atP s) (kindP s)).size := by rw [hj]
    rw [size_list (joinS _ _ _ _), joinS_list, ha] at e1
    rw [size_list, joinS_list]
    simp at e1 ⊢
    omega
  obtain ⟨g1, g2, g3, g4, g5⟩ := parse_join (preP s) ⟨#[]⟩ true (kindP s) hp hbp rfl (fun _ => rfl) hk hsz
  have hins : insJ (joinS (preP s) ⟨#[]⟩ true (kindP s)) (instP s) = s := by unfold insJ; rw [g2, g4, g5]; rw [ha] at hj; exact hj
  have hok : insOk (joinS (preP s) ⟨#[]⟩ true (kindP s)) (instP s) = true := by
    unfold insOk
    rw [hins, g2, g3, g4, g5, hg, ha, h]
    simp
  rw [ht]
  refine ⟨rfl, hok, ?_, ?_, g5⟩
  · unfold insS; rw [if_pos hok, hins]
  · unfold tmplS; rw [if_pos (by rw [g3]; exact nil_empty)]

/-- Changed to a kind and back. -/
theorem chg_back (s : ByteArray) (k : Int) (h : (chgS s k).toList.isEmpty = false) : kindP (chgS s k) = k ∧ chgS (chgS s k) (kindP s) = s := by
  by_cases hc : goodP s = true ∧ (str (sfx k)).toList.isEmpty = false ∧ goodP (joinS (preP s) (instP s) (atP s) k) = true
  · obtain ⟨hg, hk, hm⟩ := hc
    have e : chgS s k = joinS (preP s) (instP s) (atP s) k := by unfold chgS; rw [if_pos ⟨hg, hk, hm⟩]
    obtain ⟨hp, hbp, hbi, hai, hks, h60⟩ := parts_of s hg
    have hk' : sfx k ≠ [] := (empty_str' _).1 hk
    obtain ⟨g1, g2, g3, g4, g5⟩ := parse_join (preP s) (instP s) (atP s) k hp hbp hbi hai hk' (parts_of _ hm).2.2.2.2.2
    rw [e]
    refine ⟨g5, ?_⟩
    have hj := join_parts s hg
    unfold chgS
    rw [g2, g3, g4, if_pos ⟨g1, (empty_str' _).2 hks, by rw [hj]; exact hg⟩, hj]
  · unfold chgS at h
    rw [if_neg hc] at h
    rw [nil_empty] at h
    exact absurd h (by decide)
theorem chg_none (s : ByteArray) (k : Int) (h : (chgS s k).toList.isEmpty = true) : goodP s = false ∨ (str (sfx k)).toList.isEmpty = true ∨ 53 < s.size := by
  rcases hg : goodP s with _ | _
  · exact .inl rfl
  · rcases hk : (str (sfx k)).toList.isEmpty with _ | _
    · refine .inr (.inr ?_)
      obtain ⟨hp, hbp, hbi, hai, hks, h60⟩ := parts_of s hg
      have hk' : sfx k ≠ [] := (empty_str' _).1 hk
      have hj := join_parts s hg
      have e1 : s.size = (joinS (preP s) (instP s) (atP s) (kindP s)).size := by rw [hj]
      have e2 := joinS_list (preP s) (instP s) (atP s) k
      have h5 := sfx_least (kindP s) hks
      have h7 := sfx_length k
      have h7' := sfx_length (kindP s)
      by_cases hsz : (joinS (preP s) (instP s) (atP s) k).size ≤ 60
      · obtain ⟨g1, _⟩ := parse_join (preP s) (instP s) (atP s) k hp hbp hbi hai hk' hsz
        exfalso
        unfold chgS at h
        rw [if_pos ⟨hg, hk, g1⟩, empty_str] at h
        rw [h] at e2
        simp at e2
      · rw [size_list (joinS _ _ _ _), joinS_list] at e1 hsz
        rw [List.length_append, List.length_cons] at e1 hsz
        omega
    · exact .inr (.inl rfl)

namespace nameTurn
theorem own : ownKnob Tryz.prog.godebug = none := by kernel_rfl

end nameTurn
end Go.Proofs.YtadifolonbkamaaGreatDoor.Nm
