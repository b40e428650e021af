/- Files in places, on plain lists: the program's road to what a name has. It speaks of no code. -/
import Derived.Test.YthodbeeglkedcaaGreatDzbc
namespace Go.Proofs.YthodbeeglkedcaaGreat
structure NmsMore (N : Nms) : Prop where
  tmplNo : ∀ u, N.isI u = false → N.tmpl u = []
  tmplNe : ∀ u, N.isI u = true → N.tmpl u ≠ u
  empI : N.isI [] = false
section
variable (N : Nms)
def fileP (fs : List Fi) (n : List UInt8) : Option Fi := match firstL fs n with
  | some f => some f
  | none => firstL fs (N.tmpl n)
def leads (f : Fi) : Bool := decide (f.l ≠ []) && decide (f.l ≠ nulL)
def targetP (f : Fi) (n : List UInt8) : List UInt8 := if (cutD 47 f.p).2.1 = n then f.l else (N.ins f.l (N.inst n)).getD []
def endP (fs : List Fi) (f : Fi) (n : List UInt8) : Fd × Int := if f.l = [] then (⟨n, f.p, false, dropsL N fs n⟩, 0) else (⟨n, f.p, true, []⟩, 0)
def goP (fs : List Fi) : Nat → Fi → List UInt8 → Fd × Int
  | 0, _, _ => (noFd, 17)
  | k + 1, f, n => if leads f = false then endP N fs f n else match fileP N fs (targetP N f n) with
    | none => (noFd, 17)
    | some f' => if k = 0 then (noFd, 17) else goP fs k f' (targetP N f n)
def findP (fs : List Fi) (u : List UInt8) : Fd × Int :=
  if mayL N fs = false then (noFd, 1) else if N.good u = false then (noFd, 5) else match fileP N fs u with
    | none => (noFd, 6)
    | some f => goP N fs 9 f u
variable {N} (O : NmsOk N) (M : NmsMore N)
theorem first_empty (O : NmsOk N) {fs : List Fi} (hm : mayL N fs = true) : firstL fs [] = none := by
  rcases h : firstL fs [] with _ | f
  · rfl
  · exfalso
    obtain ⟨a, ha, hf, hp⟩ := first_mem h
    have hk := may_path ((may_parts.1 hm).2.1 f hf)
    have hw : pathW N f.p = noWy := by
      unfold pathW
      rw [hp, ownP, split_cons (plc_clean ha), split_one (by simp)]
      simp only
      rw [if_neg]
      rintro ⟨_, h2⟩
      exact O.ne _ h2 rfl
    rw [hw] at hk
    exact hk rfl
theorem file_step (O : NmsOk N) (M : NmsMore N) {fs : List Fi} (hm : mayL N fs = true) (n : List UInt8) : fileP N fs n = (stepF N fs n).map (·.1) := by
  unfold fileP stepF
  rcases firstL fs n with _ | f
  · simp only
    rcases hi : N.isI n with _ | _
    · rw [M.tmplNo n hi, first_empty O hm]; rfl
    · rw [if_pos rfl]
      cases firstL fs (N.tmpl n) <;> rfl
  · rfl
theorem step_target (M : NmsMore N) {fs : List Fi} {n : List UInt8} {f : Fi} {own : Bool} (h : stepF N fs n = some (f, own)) : targetP N f n = ((if own = true then some f.l else N.ins f.l (N.inst n)) : Option (List UInt8)).getD [] := by
  unfold stepF at h
  split at h
  · rename_i g hg
    obtain ⟨a, ha, h1, h2⟩ := first_mem hg
    simp at h
    obtain ⟨rfl, rfl⟩ := h
    unfold targetP
    rw [h2, ownP, cutD_yes (plc_clean ha), if_pos rfl]
    rfl
  · split at h
    · rename_i hi
      rcases hg : firstL fs (N.tmpl n) with _ | g
      · rw [hg] at h; cases h
      · rw [hg] at h
        obtain ⟨a, ha, h1, h2⟩ := first_mem hg
        simp at h
        obtain ⟨rfl, rfl⟩ := h
        unfold targetP
        rw [h2, ownP, cutD_yes (plc_clean ha), if_neg (M.tmplNe n hi)]
        rfl
    · cases h
theorem ring_go {fs : List Fi} {S : List (List UInt8)} (hS : ∀ y ∈ S, ∃ f, fileP N fs y = some f ∧ leads f = true ∧ targetP N f y ∈ S) (k : Nat) (n : List UInt8) (f : Fi) (hn : n ∈ S) (hf : fileP N fs n = some f) : goP N fs k f n = (noFd, 17) := by
  induction k generalizing n f with
  | zero => rfl
  | succ k ih =>
    obtain ⟨g, h1, h2, h3⟩ := hS n hn
    rw [hf] at h1
    injection h1 with h1
    subst h1
    obtain ⟨g', h4, _, _⟩ := hS _ h3
    rw [goP, h2, if_neg (by simp), h4]
    simp only
    split
    · rfl
    · exact ih _ _ h3 h4
def Chain (N : Nms) (fs : List Fi) (asked : List (List UInt8)) (n : List UInt8) : Prop :=
  n ∈ asked ∧ ∀ y ∈ asked, y = n ∨ ∃ f, fileP N fs y = some f ∧ leads f = true ∧ targetP N f y ∈ asked
theorem go_eq (O : NmsOk N) (M : NmsMore N) {fs : List Fi} (hm : mayL N fs = true) (k : Nat) (asked : List (List UInt8)) (n : List UInt8) (hl : asked.length + k = 10) (hc : Chain N fs asked n) :
    (fileP N fs n = none → 0 < k → findGo N fs k asked n = (noFd, if asked.length = 1 then 6 else 17)) ∧ ∀ f, fileP N fs n = some f → findGo N fs k asked n = goP N fs k f n := by
  induction k generalizing asked n with
  | zero => exact ⟨fun _ h => absurd h (by omega), fun f _ => rfl⟩
  | succ k ih =>
    have hst := file_step O M hm n
    constructor
    · intro h _
      rw [h] at hst
      have : stepF N fs n = none := by
        rcases h' : stepF N fs n with _ | x
        · rfl
        · rw [h'] at hst; cases hst
      rw [findGo, this]
      rfl
    · intro f h
      rw [h] at hst
      obtain ⟨own, hs⟩ : ∃ own, stepF N fs n = some (f, own) := by
        rcases h' : stepF N fs n with _ | ⟨g, own⟩
        · rw [h'] at hst; cases hst
        · rw [h'] at hst
          injection hst with hst
          exact ⟨own, by rw [show f = g from hst]⟩
      have ht := step_target M hs
      rw [findGo, hs, goP]
      simp only [roundF]
      by_cases hl0 : f.l = []
      · rw [if_pos hl0]
        simp only
        rw [if_pos (by unfold leads; simp [hl0]), endP, if_pos hl0]
      · rw [if_neg hl0]
        by_cases hln : f.l = nulL
        · rw [if_pos hln]
          simp only
          rw [if_pos (by unfold leads; simp [hln]), endP, if_neg hl0]
        · rw [if_neg hln]
          have hle : leads f = true := by unfold leads; simp [hl0, hln]
          rw [if_neg (c := leads f = false) (by simp [hle])]
          generalize (if own = true then some f.l else N.ins f.l (N.inst n) : Option (List UInt8)) = o at ht ⊢
          rcases o with _ | x
          · simp only
            have hn0 : fileP N fs (targetP N f n) = none := by
              rw [ht]
              show fileP N fs [] = none
              rw [file_step O M hm]
              unfold stepF
              rw [first_empty O hm]
              simp only
              rw [if_neg (by rw [M.empI]; simp)]
              rfl
            rw [hn0]
          · have ht : targetP N f n = x := ht
            simp only
            rw [ht]
            by_cases hin : x ∈ asked
            · rw [if_pos (.inl hin)]
              simp only
              have hS : ∀ y ∈ asked, ∃ f, fileP N fs y = some f ∧ leads f = true ∧ targetP N f y ∈ asked := by
                intro y hy
                rcases hc.2 y hy with rfl | h'
                · exact ⟨f, h, hle, by rw [ht]; exact hin⟩
                · exact h'
              obtain ⟨g, hg, _, _⟩ := hS x hin
              rw [hg]
              simp only
              split
              · rfl
              · exact (ring_go hS k x g hin hg).symm
            · by_cases h8 : 8 < asked.length
              · rw [if_pos (.inr h8)]
                have hk : k = 0 := by omega
                simp only
                split
                · rfl
                · rw [if_pos hk]
              · rw [if_neg (by rintro (h' | h'); exact hin h'; exact h8 h')]
                simp only
                have hk : k ≠ 0 := by omega
                have hc' : Chain N fs (asked ++ [x]) x := ⟨by simp, fun y hy => by
                  rcases List.mem_append.1 hy with hy | hy
                  · rcases hc.2 y hy with rfl | ⟨g, h1, h2, h3⟩
                    · exact .inr ⟨f, h, hle, by rw [ht]; simp⟩
                    · exact .inr ⟨g, h1, h2, by simp [h3]⟩
                  · exact .inl (List.mem_singleton.1 hy)⟩
                obtain ⟨i1, i2⟩ := ih (asked ++ [x]) x (by rw [List.length_append]; simp; omega) hc'
                rcases hfx : fileP N fs x with _ | g
                · rw [i1 hfx (by omega), if_neg (by
                    rw [List.length_append, List.length_singleton]
                    have := List.length_pos_of_mem hc.1
                    omega)]
                · rw [i2 g hfx]
                  simp only
                  rw [if_neg hk]
theorem find_eq (O : NmsOk N) (M : NmsMore N) (fs : List Fi) (u : List UInt8) : findP N fs u = findL N fs u := by
  unfold findP findL
  by_cases hm : mayL N fs = false
  · rw [if_pos hm, if_pos hm]
  · rw [if_neg hm, if_neg hm]
    by_cases hg : N.good u = false
    · rw [if_pos hg, if_pos hg]
    · rw [if_neg hg, if_neg hg]
      obtain ⟨h1, h2⟩ := go_eq O M (by simpa using hm) 9 [u] u rfl ⟨by simp, fun y hy => .inl (List.mem_singleton.1 hy)⟩
      rcases hf : fileP N fs u with _ | f
      · rw [h1 hf (by omega)]; rfl
      · rw [h2 f hf]
end
end Go.Proofs.YthodbeeglkedcaaGreat
