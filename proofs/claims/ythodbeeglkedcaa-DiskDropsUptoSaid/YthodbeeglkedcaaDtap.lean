/- The walk of package name's Escape. The walks of package name's hexByte and Unescape. The walks of the document's own sma -/
import Derived.Test.YthodbeeglkedcaaDtao
import Derived.Laws.BitsAllLaws
import Derived.Laws.BitsLemmas
namespace Go.Proofs.Ythodbeeglkedcaa.Nm
open Go.RowKit
end Go.Proofs.Ythodbeeglkedcaa.Nm
namespace Go.Proofs.Ythodbeeglkedcaa.Nm
open Go.RowKit
end Go.Proofs.Ythodbeeglkedcaa.Nm
namespace Go.Proofs.Ythodbeeglkedcaa.Nm
open Go.RowKit
set_option maxHeartbeats 2000000 in
theorem rnameByte_any (c : Nat) (hc : c ≤ 255) (w : World) :
    Calls Try.prog 60 #[.int .u8 c] w fun e w' => e = .returned (.bool (bodyByte c)) ∧ w = w' := by
  have H : c ≤ 44 ∨ c = 45 ∨ c = 46 ∨ c = 47 ∨ (48 ≤ c ∧ c ≤ 57) ∨ c = 58 ∨ (59 ≤ c ∧ c ≤ 64) ∨ (65 ≤ c ∧ c ≤ 90) ∨ c = 91 ∨ c = 92 ∨ (93 ≤ c ∧ c ≤ 94) ∨ c = 95 ∨ c = 96 ∨ (97 ≤ c ∧ c ≤ 122) ∨ 123 ≤ c := by omega
  rcases H with h | rfl | rfl | rfl | ⟨h1, h2⟩ | rfl | ⟨h1, h2⟩ | ⟨h1, h2⟩ | rfl | rfl | ⟨h1, h2⟩ | rfl | rfl | ⟨h1, h2⟩ | h
  all_goals
    go_enter Try.func60, Try.ntmps60
    go_wp2
  all_goals try (exfalso; omega)
  all_goals go_ret
  all_goals (refine ⟨congrArg (fun b => Ending.returned (.bool b)) ?_, rfl⟩)
  all_goals first | rfl | (simp [bodyByte, plainB]; done) | (simp [bodyByte, plainB]; omega; done) | (rw [Bool.eq_iff_iff]; simp [bodyByte, plainB]; omega)
theorem rSuffix_any (k : Int) (w : World) :
    Calls Try.prog 59 #[.int .i64 k] w fun e w' => e = .returned (.string (str (sfx k))) ∧ w = w' := by
  have H : k = 1 ∨ k = 2 ∨ k = 3 ∨ k = 4 ∨ ((k == 1) = false ∧ (k == 2) = false ∧ (k == 3) = false ∧ (k == 4) = false) := by simp; omega
  rcases H with rfl | rfl | rfl | rfl | ⟨h1, h2, h3, h4⟩
  all_goals
    go_enter Try.func59, Try.ntmps59
    go_wp2
  all_goals go_ret
  all_goals (refine ⟨congrArg (fun b => Ending.returned (.string b)) ?_, rfl⟩)
  all_goals first | rfl | (simp at h1 h2 h3 h4; simp [sfx, h1, h2, h3, h4]; rfl)
end Go.Proofs.Ythodbeeglkedcaa.Nm
namespace Go.Proofs.Ythodbeeglkedcaa.Nm
open Go.RowKit
theorem drop_at (s : ByteArray) (k : Nat) (h : k < s.size) : s.data.toList.drop k = s[k] :: s.data.toList.drop (k + 1) := by
  rw [List.drop_eq_getElem_cons (by simpa using h)]; rfl
theorem tail_list (s : ByteArray) (k : Nat) : (s.extract (k + 1) s.size).data.toList = s.data.toList.drop (k + 1) := by
  rw [Lib.extract_data, List.take_of_length_le]
  rw [List.length_drop, Lib.size_eq]
  exact Nat.le_refl _
end Go.Proofs.Ythodbeeglkedcaa.Nm
namespace Go.Proofs.Ythodbeeglkedcaa.Nm
open Go.RowKit
theorem app_list (a b : ByteArray) : (a ++ b).data.toList = a.data.toList ++ b.data.toList := by rw [ByteArray.data_append, Array.toList_append]
theorem ext_list {a b : ByteArray} (h : a.data.toList = b.data.toList) : a = b := by rw [← str_data a, ← str_data b, h]
theorem joinS_list (p i : ByteArray) (a : Bool) (k : Int) : (joinS p i a k).data.toList = (if a = true then p.data.toList ++ 64 :: i.data.toList else p.data.toList) ++ 46 :: sfx k := by
  unfold joinS
  rw [app_list, app_list]
  cases a
  · simp [str]
  · simp [str]
theorem cut_nil : Lib.cut [] [64] = ([], [], false) := by decide
theorem cut_cons (c : UInt8) (r : List UInt8) : Lib.cut (c :: r) [64] = if c = 64 then ([], r, true) else (c :: (Lib.cut r [64]).1, (Lib.cut r [64]).2.1, (Lib.cut r [64]).2.2) := by
  have hg := Lib.index_ge r [64]
  by_cases h : c = 64
  · subst h
    simp [Lib.cut, Lib.index]
  · have h' : ([64].isPrefixOf (c :: r)) = false := by
      show ((64 : UInt8) == c && _) = false
      rw [beq_eq_false_iff_ne.2 (fun e => h e.symm)]; rfl
    rw [if_neg h]
    unfold Lib.cut
    rw [Lib.index, h']
    rw [if_neg Bool.false_ne_true]
    by_cases hi : Lib.index r [64] = -1
    · rw [hi]; rfl
    · have hi' : (Lib.index r [64] == -1) = false := by simpa using hi
      have h0 : 0 ≤ Lib.index r [64] := by omega
      rw [hi', if_neg Bool.false_ne_true]
      rw [if_pos (by omega), if_pos h0]
      have e1 : (Lib.index r [64] + 1).toNat = (Lib.index r [64]).toNat + 1 := by omega
      rw [e1]
      rfl
theorem cut_join (l : List UInt8) : (if (Lib.cut l [64]).2.2 = true then (Lib.cut l [64]).1 ++ 64 :: (Lib.cut l [64]).2.1 else (Lib.cut l [64]).1) = l := by
  induction l with
  | nil => rfl
  | cons c r ih =>
    rw [cut_cons]
    by_cases h : c = 64
    · simp [h]
    · simp only [if_neg h]
      cases ha : (Lib.cut r [64]).2.2
      · rw [ha] at ih; simpa using ih
      · rw [ha] at ih; simpa using ih
theorem cut_none (l : List UInt8) (h : (Lib.cut l [64]).2.2 = false) : (Lib.cut l [64]).2.1 = [] := by
  induction l with
  | nil => rfl
  | cons c r ih =>
    rw [cut_cons] at h ⊢
    by_cases hc : c = 64
    · simp [hc] at h
    · simp only [if_neg hc] at h ⊢
      exact ih h
theorem pt_split (s : ByteArray) (i : Nat) (hi : i < s.size) (h : pt s = i) : s.data.toList = (headP s).data.toList ++ 46 :: (tailP s).data.toList := by
  have hs : s.data.toList.length = s.size := by simp
  rcases Lib.lastIndexByte_spec s 46 with ⟨h', _⟩ | ⟨j, hj, h', hc, _⟩
  · unfold pt at h; omega
  · have e : j = i := by unfold pt at h; omega
    subst e
    have h1 : (headP s).data.toList = s.data.toList.take j := by
      unfold headP; rw [h, Lib.extract_data]; simp
    have h2 : (tailP s).data.toList = s.data.toList.drop (j + 1) := by
      unfold tailP
      rw [h, Lib.extract_data]
      rw [List.take_of_length_le (by rw [List.length_drop]; simp)]
      simp
    rw [h1, h2]
    have h3 : s.data.toList[j]'(by omega) = 46 := by
      apply UInt8.toNat_inj.1
      rw [Array.getElem_toList, ← getElem!_pos s.data j (by simpa using hj)]
      show _ = 46
      omega
    rw [← h3, ← List.drop_eq_getElem_cons, List.take_append_drop]
theorem kindL_sfx (l : List UInt8) (h : kindL l ≠ 0) : sfx (kindL l) = l := by
  unfold kindL at *
  split at h
  · rename_i h'; rw [if_pos h']; exact h'.symm
  · rename_i h1
    rw [if_neg h1] at *
    split at h
    · rename_i h'; rw [if_pos h']; exact h'.symm
    · rename_i h2
      rw [if_neg h2] at *
      split at h
      · rename_i h'; rw [if_pos h']; exact h'.symm
      · rename_i h3
        rw [if_neg h3] at *
        split at h
        · rename_i h'; rw [if_pos h']; exact h'.symm
        · exact absurd rfl h
theorem join_parts (s : ByteArray) (h : goodP s = true) : joinS (preP s) (instP s) (atP s) (kindP s) = s := by
  apply ext_list
  rw [joinS_list]
  unfold preP instP atP kindP
  rw [if_pos h, if_pos h, if_pos h, if_pos h]
  unfold goodP at h
  simp only [Bool.and_eq_true, decide_eq_true_eq] at h
  obtain ⟨_, hpt, hk, _⟩ := h
  rcases pt_cases s with h1 | ⟨i, hi, h1⟩
  · omega
  · rw [pt_split s i hi h1]
    have e1 : sfx (kindS (tailP s)) = (tailP s).data.toList := kindL_sfx _ hk
    have e2 := cut_join (headP s).data.toList
    rw [e1]
    congr 1
theorem preP_ne (s : ByteArray) (h : goodP s = true) : (preP s).data.toList ≠ [] := by
  unfold preP
  rw [if_pos h]
  unfold goodP at h
  simp only [Bool.and_eq_true, decide_eq_true_eq] at h
  exact h.2.2.2.1
end Go.Proofs.Ythodbeeglkedcaa.Nm
namespace Go.Proofs.Ythodbeeglkedcaa.Nm
open Go.RowKit
theorem more {a w w2 : World} (h : Below a.heap.size a w) (h2 : Below w.heap.size w w2) : Below a.heap.size a w2 := h.trans (h2.mono h.size)
end Go.Proofs.Ythodbeeglkedcaa.Nm
