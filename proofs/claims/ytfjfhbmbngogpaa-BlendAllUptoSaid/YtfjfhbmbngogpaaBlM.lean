/- Stage 9 on plain lists: the lines gone through from the last one back, with the keys that are replaced so far. It speaks of no code. -/
import Derived.Test.YtfjfhbmbngogpaaBlL
namespace Go.Proofs.Ytfjfhbmbngogpaa

section
variable {α κ : Type} [DecidableEq κ] (key : α → κ) (cls : κ → Option Bool) (emp : α → Bool)

/-- Does x replace what stands ahead of it? -/
def repB (x : α) : Bool := decide (cls (key x) = some false) || (decide (cls (key x) = some true) && emp x)
/-- Is the key k replaced by one of the lines? -/
def repdB (r : List α) (k : κ) : Bool := r.any (fun y => decide (key y = k) && repB key cls emp y)

theorem overB_rep (x y : α) : overB key cls emp x y = (decide (key y = key x) && repB key cls emp y) := by
  unfold overB repB
  by_cases h : key y = key x
  · rw [h]
    cases hc : cls (key x) with
    | none => simp
    | some b => cases b <;> simp
  · simp [h]
theorem any_over (x : α) (r : List α) : r.any (overB key cls emp x) = repdB key cls emp r (key x) := by
  unfold repdB
  congr 1
  funext y
  exact overB_rep key cls emp x y
theorem blendR_back (x : α) (r : List α) : blendR key cls emp (x :: r) = if repdB key cls emp r (key x) then blendR key cls emp r else if staysB key cls emp x then x :: blendR key cls emp r else blendR key cls emp r := by
  rw [blendR, any_over]
  cases repdB key cls emp r (key x) <;> cases staysB key cls emp x <;> rfl
theorem repdB_cons (x : α) (r : List α) (k : κ) : repdB key cls emp (x :: r) k = (decide (key x = k) && repB key cls emp x || repdB key cls emp r k) := rfl
theorem repdB_of (x : α) (r : List α) (k : κ) (h : repdB key cls emp r (key x) = true) : repdB key cls emp (x :: r) k = repdB key cls emp r k := by
  rw [repdB_cons]
  by_cases e : key x = k
  · rw [← e, h]; simp
  · simp [e]
theorem repdB_not (x : α) (r : List α) (k : κ) (h : repB key cls emp x = false) : repdB key cls emp (x :: r) k = repdB key cls emp r k := by
  rw [repdB_cons, h]; simp
theorem repdB_put (x : α) (r : List α) (k : κ) (h : repB key cls emp x = true) : repdB key cls emp (x :: r) k = (decide (key x = k) || repdB key cls emp r k) := by
  rw [repdB_cons, h, Bool.and_true]
end
end Go.Proofs.Ytfjfhbmbngogpaa
