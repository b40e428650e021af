/- A text parted at each of one byte, on plain lists. It speaks of no code. -/
import Derived.Below
namespace Go.Proofs.Ytfjfhbmbngogpaa

def sgo (by_ : UInt8) : List UInt8 → List UInt8 → List (List UInt8)
  | w, [] => [w]
  | w, c :: r => if c = by_ then w :: sgo by_ [] r else sgo by_ (w ++ [c]) r
/-- A text in pieces, at each of one byte. -/
def splitL (by_ : UInt8) (l : List UInt8) : List (List UInt8) := sgo by_ [] l
theorem sgo_plain (by_ : UInt8) (l w : List UInt8) (h : by_ ∉ l) (r : List UInt8) : sgo by_ w (l ++ r) = sgo by_ (w ++ l) r := by
  induction l generalizing w with
  | nil => simp
  | cons c l ih =>
    rw [List.cons_append, sgo, if_neg (by rintro rfl; exact h (by simp)), ih _ (fun hc => h (by simp [hc]))]
    simp
theorem split_one {by_ : UInt8} {l : List UInt8} (h : by_ ∉ l) : splitL by_ l = [l] := by
  have := sgo_plain by_ l [] h []
  rw [List.append_nil] at this
  unfold splitL
  rw [this]; rfl
theorem split_cons {by_ : UInt8} {l : List UInt8} (h : by_ ∉ l) (r : List UInt8) : splitL by_ (l ++ by_ :: r) = l :: splitL by_ r := by
  unfold splitL
  rw [sgo_plain by_ l [] h, List.nil_append, sgo, if_pos rfl]
theorem sgo_mem (by_ : UInt8) (l w : List UInt8) {c : UInt8} (hc : c ≠ by_) (h : c ∈ w ++ l) : ∃ v ∈ sgo by_ w l, c ∈ v := by
  induction l generalizing w with
  | nil => exact ⟨w, by simp [sgo], by simpa using h⟩
  | cons x l ih =>
    rw [sgo]
    by_cases hx : x = by_
    · rw [if_pos hx]
      rcases List.mem_append.1 h with h | h
      · exact ⟨w, by simp, h⟩
      · rcases List.mem_cons.1 h with h | h
        · exact absurd (h.trans hx) hc
        · obtain ⟨v, hv, hcv⟩ := ih [] (by simpa using h)
          exact ⟨v, by simp [hv], hcv⟩
    · rw [if_neg hx]
      exact ih (w ++ [x]) (by simpa using h)
theorem split_mem {by_ : UInt8} {l : List UInt8} {c : UInt8} (hc : c ≠ by_) (h : c ∈ l) : ∃ v ∈ splitL by_ l, c ∈ v := sgo_mem by_ l [] hc (by simpa using h)
end Go.Proofs.Ytfjfhbmbngogpaa
