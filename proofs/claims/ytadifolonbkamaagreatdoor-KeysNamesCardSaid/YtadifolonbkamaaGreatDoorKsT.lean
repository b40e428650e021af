/- Lists of names, put together: what their pieces are. -/
import Derived.Test.YtadifolonbkamaaGreatDoorKsG
namespace Go.Proofs.YtadifolonbkamaaGreatDoor
open Go.RowKit

theorem sgo_last (b : UInt8) (l w : List UInt8) : ∃ ps v, sgo b w l = ps ++ [v] := by
  induction l generalizing w with
  | nil => exact ⟨[], w, rfl⟩
  | cons c l ih =>
    rw [sgo]
    by_cases hc : c = b
    · rw [if_pos hc]
      obtain ⟨ps, v, h⟩ := ih []
      exact ⟨w :: ps, v, by rw [h]; rfl⟩
    · rw [if_neg hc]
      exact ih _
theorem sgo_cont (b : UInt8) (l r w : List UInt8) (ps : List (List UInt8)) (v : List UInt8) (h : sgo b w l = ps ++ [v]) : sgo b w (l ++ r) = ps ++ sgo b v r := by
  induction l generalizing w ps with
  | nil =>
    rw [sgo] at h
    have hp : ps = [] := by
      cases ps with
      | nil => rfl
      | cons p ps => simp at h
    subst hp
    simp at h
    subst h
    rfl
  | cons c l ih =>
    rw [List.cons_append, sgo]
    rw [sgo] at h
    by_cases hc : c = b
    · rw [if_pos hc] at h ⊢
      cases ps with
      | nil =>
        simp at h
        obtain ⟨ps, v', hh⟩ := sgo_last b l []
        rw [hh] at h
        simp at h
      | cons p ps =>
        rw [List.cons_append, List.cons.injEq] at h
        rw [List.cons_append, h.1, ih [] ps h.2]
    · rw [if_neg hc] at h ⊢
      exact ih _ ps h
/-- A list of names as it is built: its last piece is empty. -/
def Shutd (T : List UInt8) : Prop := ∃ ps, sgo 32 [] T = ps ++ [[]]
def goodT (p : ByteArray → Bool) (T : List UInt8) : Bool := goodU p (piecesS (str T))
def foundT (T : List UInt8) : Bool := foundU (piecesS (str T))
theorem goodT_of {p : ByteArray → Bool} {T : List UInt8} {ps : List (List UInt8)} (h : sgo 32 [] T = ps) : goodT p T = goodU p (ps.map str) ∧ foundT T = foundU (ps.map str) := by
  unfold goodT foundT piecesS
  rw [str_list, h]
  exact ⟨rfl, rfl⟩
theorem emp_str (w : List UInt8) : (str w).toList.isEmpty = decide (w = []) := by rw [isEmpty_iff]; rfl
theorem shutd_nil : Shutd [] := ⟨[], rfl⟩
theorem good_nil (p : ByteArray → Bool) : goodT p [] = true ∧ foundT [] = false := by
  obtain ⟨h1, h2⟩ := goodT_of (p := p) (T := []) (ps := [[]]) rfl
  rw [h1, h2]
  exact ⟨by simp [goodU, pieceOk, emp_str], by simp [foundU, emp_str]⟩
theorem add_word {p : ByteArray → Bool} {T w : List UInt8} (h : Shutd T) (hw : (32 : UInt8) ∉ w) (h0 : w ≠ []) : goodT p (T ++ w) = (goodT p T && p (str w)) ∧ foundT (T ++ w) = true := by
  obtain ⟨ps, hp⟩ := h
  have hc := sgo_cont 32 T w [] ps [] hp
  have hs : sgo 32 [] w = [w] := split_one hw
  rw [hs] at hc
  obtain ⟨a1, a2⟩ := goodT_of (p := p) hc
  obtain ⟨b1, b2⟩ := goodT_of (p := p) hp
  rw [a1, a2, b1, List.map_append, List.map_append]
  have he : (str w).toList.isEmpty = false := by rw [emp_str, decide_eq_false_iff_not]; exact h0
  have he0 : (str ([] : List UInt8)).toList.isEmpty = true := by rw [emp_str]; rfl
  simp [goodU, foundU, pieceOk, he, he0]
theorem add_blank {p : ByteArray → Bool} (T : List UInt8) : goodT p (T ++ [32]) = goodT p T ∧ foundT (T ++ [32]) = foundT T ∧ Shutd (T ++ [32]) := by
  obtain ⟨ps, v, hp⟩ := sgo_last 32 T []
  have hc := sgo_cont 32 T [32] [] ps v hp
  have hs : sgo 32 v [32] = [v, []] := by rw [sgo, if_pos rfl, sgo]
  rw [hs] at hc
  obtain ⟨a1, a2⟩ := goodT_of (p := p) hc
  obtain ⟨b1, b2⟩ := goodT_of (p := p) hp
  have he0 : (str ([] : List UInt8)).toList.isEmpty = true := by rw [emp_str]; rfl
  refine ⟨?_, ?_, ps ++ [v], by rw [hc]; simp⟩
  · rw [a1, b1]; simp [goodU, pieceOk, he0]
  · rw [a2, b2]; simp [foundU, he0]
theorem list_val (p : ByteArray → Bool) (T : List UInt8) : listS p (str T) = (goodT p T && foundT T) := rfl
end Go.Proofs.YtadifolonbkamaaGreatDoor
