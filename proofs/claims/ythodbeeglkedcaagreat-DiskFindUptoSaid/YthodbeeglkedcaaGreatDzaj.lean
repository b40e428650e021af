/- Files in places, on plain lists: what the laws say of them. It speaks of no code. Files in places, on plain lists: rows  -/
import Derived.Test.YthodbeeglkedcaaGreatDzad
namespace Go.Proofs.YthodbeeglkedcaaGreat
section
variable {N : Nms}
theorem may_parts {fs : List Fi} : mayL N fs = true ↔ fs.length ≤ 120 ∧ (∀ f ∈ fs, mayF N f = true) ∧ (fs.map (·.p)).Nodup := by
  unfold mayL
  rw [Bool.and_eq_true, Bool.and_eq_true, decide_eq_true_eq, decide_eq_true_eq, List.all_eq_true, and_assoc]
theorem at_mem {fs : List Fi} {p : List UInt8} {f : Fi} (h : atL fs p = some f) : f ∈ fs ∧ f.p = p := by
  unfold atL at h
  exact ⟨List.mem_of_find?_eq_some h, by simpa using List.find?_some h⟩
theorem at_none {fs : List Fi} {p : List UInt8} : atL fs p = none ↔ ∀ f ∈ fs, f.p ≠ p := by
  unfold atL
  rw [List.find?_eq_none]
  simp
theorem slash_inj {a b n m : List UInt8} (ha : a ∈ plc) (hb : b ∈ plc) (h : a ++ 47 :: n = b ++ 47 :: m) : a = b ∧ n = m := by
  have hl : a.length = b.length := by
    simp [plc] at ha hb
    rcases ha with rfl | rfl | rfl <;> rcases hb with rfl | rfl | rfl <;> rfl
  obtain ⟨h1, h2⟩ := List.append_inj h hl
  injection h2 with _ h2
  exact ⟨h1, h2⟩
def ownP (a u : List UInt8) : List UInt8 := a ++ 47 :: u
theorem at_snoc (fs : List Fi) (f : Fi) (p : List UInt8) : atL (fs ++ [f]) p = (atL fs p).or (if f.p = p then some f else none) := by
  unfold atL
  rw [List.find?_append]
  congr 1
  by_cases h : f.p = p <;> simp [h]
variable (O : NmsOk N)
end
end Go.Proofs.YthodbeeglkedcaaGreat
namespace Go.Proofs.YthodbeeglkedcaaGreat
section
variable {N : Nms}
def dgA (k : Nat) : UInt8 := if k < 10 then (48 + k).toUInt8 else (87 + k).toUInt8
def nmA (k : Nat) : List UInt8 := [117, dgA k, 46, 115, 101, 114, 118, 105, 99, 101]
def NmaOk (N : Nms) : Prop := ∀ k, k ≤ 12 → N.good (nmA k) = true ∧ N.kind (nmA k) = 1 ∧ N.isT (nmA k) = false
variable (O : NmsOk N) (H : NmaOk N)
end
end Go.Proofs.YthodbeeglkedcaaGreat
namespace Go.Proofs.YthodbeeglkedcaaGreat
section
variable {N : Nms} (O : NmsOk N)
def xsL (N : Nms) (fs : List Fi) (n : List UInt8) : List (List UInt8) := takeL (fun w => decide (w.k = 2) && decide (w.u ∈ foldsL N n)) N [] fs
theorem drops_xs (fs : List Fi) (n : List UInt8) : dropsL N fs n = (xsL N fs n).map (whereL N fs n) := rfl
theorem xs_mem {fs : List Fi} {n x : List UInt8} : x ∈ xsL N fs n ↔ ∃ f ∈ fs, (pathW N f.p).k = 2 ∧ (pathW N f.p).u ∈ foldsL N n ∧ (pathW N f.p).o = x := by
  unfold xsL
  rw [take_mem]
  simp [and_assoc]
theorem xs_rises (fs : List Fi) (n : List UInt8) : rises (xsL N fs n) := take_rises _ N fs [] List.Pairwise.nil
theorem path_two {p : List UInt8} (h : (pathW N p).k = 2) : (pathW N p).pl ∈ plc ∧ N.good (pathW N p).u = true ∧ dropN (pathW N p).o = true ∧ p = dropP (pathW N p).pl (pathW N p).u (pathW N p).o := by
  have hp := path_is N p
  generalize pathW N p = w at *
  cases hp with
  | none => cases h
  | own a u h1 h2 h3 => cases h
  | drop a u x h1 h2 h3 h4 => exact ⟨h1, h2, h3, h4⟩
  | want a u v h1 h2 h3 h4 h5 => cases h
  | need a u v h1 h2 h3 h4 h5 => cases h
theorem first_mem {fs : List Fi} {u : List UInt8} {f : Fi} (h : firstL fs u = some f) : ∃ a ∈ plc, f ∈ fs ∧ f.p = ownP a u := by
  unfold firstL at h
  obtain ⟨a, ha, h⟩ := List.exists_of_findSome?_eq_some h
  obtain ⟨h1, h2⟩ := at_mem h
  exact ⟨a, ha, h1, h2⟩
end
end Go.Proofs.YthodbeeglkedcaaGreat
