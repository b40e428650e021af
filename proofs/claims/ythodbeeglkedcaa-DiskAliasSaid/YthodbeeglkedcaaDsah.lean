/- Files in places, on plain lists: rows of links, what is laid over, templates. It speaks of no code. Files in places, on  -/
import Derived.Test.YthodbeeglkedcaaDsag
namespace Go.Proofs.Ythodbeeglkedcaa
section
variable {N : Nms}
def dgA (k : Nat) : UInt8 := if k < 10 then (48 + k).toUInt8 else (87 + k).toUInt8
def nmA (k : Nat) : List UInt8 := [117, dgA k, 46, 115, 101, 114, 118, 105, 99, 101]
def libL : List UInt8 := [108, 105, 98]
def runL : List UInt8 := [114, 117, 110]
theorem lib_mem : libL ∈ plc := by simp [libL, plc]
theorem run_mem : runL ∈ plc := by simp [runL, plc]
def linkA (k : Nat) : Fi := ⟨ownP libL (nmA k), [], nmA (k + 1)⟩
def lastA (n : Nat) (ring : Bool) (t : List UInt8) : Fi := if ring = true then ⟨ownP runL (nmA n), [], nmA 0⟩ else ⟨ownP runL (nmA n), t, []⟩
def rowA (n : Nat) (ring : Bool) (t : List UInt8) : List Fi := (List.range n).map linkA ++ [lastA n ring t]
def NmaOk (N : Nms) : Prop := ∀ k, k ≤ 12 → N.good (nmA k) = true ∧ N.kind (nmA k) = 1 ∧ N.isT (nmA k) = false
theorem nmA_inj {i j : Nat} (hi : i ≤ 12) (hj : j ≤ 12) (h : nmA i = nmA j) : i = j := by
  have h1 : dgA i = dgA j := by
    unfold nmA at h
    injection h with _ h
    injection h
  have key : ∀ i, i ≤ 12 → ∀ j, j ≤ 12 → dgA i = dgA j → i = j := by decide
  exact key i hi j hj h1
theorem own_inj {a b u v : List UInt8} (ha : a ∈ plc) (hb : b ∈ plc) (h : ownP a u = ownP b v) : a = b ∧ u = v := slash_inj ha hb h
variable (O : NmsOk N) (H : NmaOk N)
theorem lastA_p (n : Nat) (ring : Bool) (t : List UInt8) : (lastA n ring t).p = ownP runL (nmA n) := by unfold lastA; split <;> rfl
theorem nodup_links {n : Nat} (hn : n ≤ 12) : ((List.range n).map (fun k => ownP libL (nmA k))).Nodup := by
  rw [List.Nodup, List.pairwise_map]
  refine List.Pairwise.imp_of_mem ?_ (List.nodup_range (n := n))
  intro a b ha hb hab e
  have h1 := List.mem_range.1 ha
  have h2 := List.mem_range.1 hb
  exact hab (nmA_inj (by omega) (by omega) (own_inj lib_mem lib_mem e).2)
theorem may_link (O : NmsOk N) (H : NmaOk N) {k : Nat} (hk : k ≤ 12) {a : List UInt8} (ha : a ∈ plc) {j : Nat} (hj : j ≤ 12) : mayF N ⟨ownP a (nmA k), [], nmA j⟩ = true := by
  obtain ⟨g1, g2, g3⟩ := H k hk
  obtain ⟨_, q2, q3⟩ := H j hj
  unfold mayF ownP
  rw [path_own O ha g1]
  simp [g2, g3, q2, q3]
theorem may_rowA (O : NmsOk N) (H : NmaOk N) {n : Nat} (hn : n ≤ 12) (ring : Bool) {t : List UInt8} (ht : t.length ≤ 20000) : mayL N (rowA n ring t) = true := by
  rw [may_parts]
  unfold rowA
  refine ⟨by simp; omega, fun f hf => ?_, ?_⟩
  · rcases List.mem_append.1 hf with hf | hf
    · obtain ⟨k, hk, rfl⟩ := List.mem_map.1 hf
      have := List.mem_range.1 hk
      exact may_link O H (by omega) lib_mem (by omega)
    · rw [List.mem_singleton.1 hf]
      unfold lastA
      split
      · exact may_link O H hn run_mem (by omega)
      · exact may_text O run_mem (H n hn).1 ht
  · rw [List.map_append, List.map_map]
    refine List.nodup_append.2 ⟨nodup_links hn, by simp, ?_⟩
    intro a ha b hb e
    obtain ⟨k, _, rfl⟩ := List.mem_map.1 ha
    simp at hb
    rw [hb, lastA_p] at e
    have := (own_inj lib_mem run_mem e).1
    revert this; decide
theorem at_rowA {n : Nat} (hn : n ≤ 12) (ring : Bool) (t : List UInt8) {a : List UInt8} (ha : a ∈ plc) {k : Nat} (hk : k ≤ n) :
    atL (rowA n ring t) (ownP a (nmA k)) = if a = libL ∧ k < n then some (linkA k) else if a = runL ∧ k = n then some (lastA n ring t) else none := by
  have hnd : ((rowA n ring t).map (·.p)).Nodup := by
    unfold rowA
    rw [List.map_append, List.map_map]
    refine List.nodup_append.2 ⟨nodup_links hn, by simp, ?_⟩
    intro a ha b hb e
    obtain ⟨k, _, rfl⟩ := List.mem_map.1 ha
    simp at hb
    rw [hb, lastA_p] at e
    have := (own_inj lib_mem run_mem e).1
    revert this; decide
  by_cases h1 : a = libL ∧ k < n
  · rw [if_pos h1]
    have := at_some hnd (f := linkA k) (List.mem_append_left _ (List.mem_map.2 ⟨k, List.mem_range.2 h1.2, rfl⟩))
    rw [h1.1]; exact this
  · rw [if_neg h1]
    by_cases h2 : a = runL ∧ k = n
    · rw [if_pos h2]
      have := at_some hnd (f := lastA n ring t) (List.mem_append_right _ (by simp))
      rw [lastA_p] at this
      rw [h2.1, h2.2]; exact this
    · rw [if_neg h2, at_none]
      intro f hf e
      rcases List.mem_append.1 hf with hf | hf
      · obtain ⟨j, hj, rfl⟩ := List.mem_map.1 hf
        have := List.mem_range.1 hj
        obtain ⟨e1, e2⟩ := own_inj lib_mem ha e
        have := nmA_inj (by omega) (by omega) e2
        exact h1 ⟨e1.symm, by omega⟩
      · rw [List.mem_singleton.1 hf, lastA_p] at e
        obtain ⟨e1, e2⟩ := own_inj run_mem ha e
        exact h2 ⟨e1.symm, (nmA_inj (by omega) (by omega) e2).symm⟩
theorem first_rowA {n : Nat} (hn : n ≤ 12) (ring : Bool) (t : List UInt8) {k : Nat} (hk : k ≤ n) : firstL (rowA n ring t) (nmA k) = some (if k < n then linkA k else lastA n ring t) := by
  have h1 := at_rowA hn ring t (a := etcL) etc_mem hk
  have h2 := at_rowA hn ring t run_mem hk
  have h3 := at_rowA hn ring t lib_mem hk
  rw [if_neg (by rintro ⟨h, _⟩; revert h; decide), if_neg (by rintro ⟨h, _⟩; revert h; decide)] at h1
  rw [if_neg (by rintro ⟨h, _⟩; revert h; decide)] at h2
  unfold firstL plc
  simp only [List.findSome?]
  rw [show ([101, 116, 99] : List UInt8) ++ 47 :: nmA k = ownP etcL (nmA k) from rfl, show ([114, 117, 110] : List UInt8) ++ 47 :: nmA k = ownP runL (nmA k) from rfl, show ([108, 105, 98] : List UInt8) ++ 47 :: nmA k = ownP libL (nmA k) from rfl, h1, h2, h3]
  by_cases hkn : k < n
  · rw [if_neg (by omega), if_pos ⟨rfl, hkn⟩, if_pos hkn]
  · rw [if_pos ⟨rfl, by omega⟩, if_neg hkn]
def askA (k : Nat) : List (List UInt8) := (List.range (k + 1)).map nmA
theorem askA_succ (k : Nat) : askA (k + 1) = askA k ++ [nmA (k + 1)] := by unfold askA; rw [List.range_succ, List.map_append]; rfl
theorem askA_mem {k j : Nat} (hk : k ≤ 12) (hj : j ≤ 12) : nmA j ∈ askA k ↔ j ≤ k := by
  unfold askA
  rw [List.mem_map]
  constructor
  · rintro ⟨i, hi, e⟩
    have := List.mem_range.1 hi
    have := nmA_inj (by omega) hj e
    omega
  · exact fun h => ⟨j, List.mem_range.2 (by omega), rfl⟩
theorem nmA_ne (k : Nat) : nmA k ≠ [] ∧ nmA k ≠ nulL := by
  unfold nmA nulL
  exact ⟨by simp, by simp⟩
theorem go_rowA {n : Nat} (hn : n ≤ 12) (ring : Bool) (t : List UInt8) (j k : Nat) (hk : k ≤ n) (hj : j + k = 9) :
    findGo N (rowA n ring t) j (askA k) (nmA k) = if ring = true ∨ 8 < n then (noFd, 17) else (⟨nmA n, ownP runL (nmA n), false, dropsL N (rowA n ring t) (nmA n)⟩, 0) := by
  induction j generalizing k with
  | zero =>
    rw [if_pos (.inr (by omega))]
    rfl
  | succ j ih =>
    have hs : stepF N (rowA n ring t) (nmA k) = some (if k < n then linkA k else lastA n ring t, true) := by unfold stepF; rw [first_rowA hn ring t hk]
    have hlen : (askA k).length = k + 1 := by unfold askA; simp
    unfold findGo
    rw [hs]
    by_cases hkn : k < n
    · rw [if_pos hkn]
      have q := nmA_ne (k + 1)
      simp only [roundF, linkA]
      rw [if_neg q.1, if_neg q.2]
      simp only [if_true]
      by_cases h8 : 8 < k + 1
      · rw [if_pos (.inr (by omega)), if_pos (.inr (by omega))]
      · rw [if_neg (by rw [askA_mem (by omega) (by omega), hlen]; omega)]
        simp only
        rw [← askA_succ]
        exact ih (k + 1) (by omega) (by omega)
    · have hk2 : k = n := by omega
      subst hk2
      rw [if_neg hkn]
      cases ring with
      | true =>
        have q := nmA_ne 0
        simp only [roundF, lastA, if_true, true_or]
        rw [if_neg q.1, if_neg q.2, if_pos (.inl ((askA_mem (by omega) (by omega)).2 (by omega)))]
      | false =>
        simp only [roundF, lastA, Bool.false_eq_true, if_false, if_true, false_or]
        rw [if_neg (by omega)]
theorem find_rowA (O : NmsOk N) (H : NmaOk N) {n : Nat} (hn : n ≤ 12) (ring : Bool) {t : List UInt8} (ht : t.length ≤ 20000) :
    findL N (rowA n ring t) (nmA 0) = if ring = true ∨ 8 < n then (noFd, 17) else (⟨nmA n, ownP runL (nmA n), false, dropsL N (rowA n ring t) (nmA n)⟩, 0) := by
  unfold findL
  rw [if_neg (by simp [may_rowA O H hn ring ht]), if_neg (by simp [(H 0 (by omega)).1])]
  exact go_rowA hn ring t 9 0 (by omega) rfl
theorem find_tmpl (O : NmsOk N) {fs : List Fi} {t i s x : List UInt8} (hm : mayL N fs = true) (hl : fs.length < 120) (hs : N.ins t i = some s) (hx : x.length ≤ 20000)
    (hp : ∀ f ∈ fs, (pathW N f.p).k ≠ 1 ∨ ((pathW N f.p).u ≠ s ∧ (pathW N f.p).u ≠ t)) :
    (findL N fs s).2 = 6 ∧ findL N (fs ++ [⟨ownP libL t, x, []⟩]) s = (⟨s, ownP libL t, false, dropsL N (fs ++ [⟨ownP libL t, x, []⟩]) s⟩, 0) := by
  obtain ⟨o1, o2, o3, o4, o5, o6⟩ := O.ins t i s hs
  have hno : ∀ u, N.good u = true → (u = s ∨ u = t) → ∀ a ∈ plc, ∀ f ∈ fs, f.p ≠ ownP a u := fun u hu hut a ha f hf e => by
    have h1 := hp f hf
    rw [e, ownP, path_own O ha hu] at h1
    rcases h1 with h1 | ⟨h1, h2⟩
    · exact h1 rfl
    · rcases hut with rfl | rfl
      · exact h1 rfl
      · exact h2 rfl
  have hfn : ∀ u, N.good u = true → (u = s ∨ u = t) → firstL fs u = none := fun u hu hut => by
    unfold firstL plc
    simp only [List.findSome?]
    have q := fun a ha => at_none.2 (hno u hu hut a ha)
    rw [show ([101, 116, 99] : List UInt8) ++ 47 :: u = ownP etcL u from rfl, show ([114, 117, 110] : List UInt8) ++ 47 :: u = ownP runL u from rfl, show ([108, 105, 98] : List UInt8) ++ 47 :: u = ownP libL u from rfl, q _ etc_mem, q _ run_mem, q _ lib_mem]
  have hst : s ≠ t := by rintro rfl; rw [o6] at o2; cases o2
  have h1 := may_snoc hm hl (may_text O lib_mem o5 hx) (hno t o5 (.inr rfl) libL lib_mem)
  constructor
  · unfold findL
    rw [if_neg (by simp [hm]), if_neg (by simp [o1])]
    unfold findGo stepF
    rw [hfn s o1 (.inl rfl)]
    simp only
    rw [if_pos o2, o3, hfn t o5 (.inr rfl)]
    rfl
  · unfold findL
    rw [if_neg (by simp [h1]), if_neg (by simp [o1])]
    unfold findGo stepF
    rw [first_other lib_mem (u := t) rfl hst, hfn s o1 (.inl rfl)]
    simp only
    rw [if_pos o2, o3]
    have hft : firstL (fs ++ [⟨ownP libL t, x, []⟩]) t = some ⟨ownP libL t, x, []⟩ := by
      unfold firstL plc
      simp only [List.findSome?]
      have q := fun a (ha : a ∈ plc) (hne : libL ≠ a) => (at_snoc_other (fs := fs) (f := ⟨ownP libL t, x, []⟩) (p := ownP a t) (fun e => hne (own_inj lib_mem ha e).1)).trans (at_none.2 (hno t o5 (.inr rfl) a ha))
      rw [show ([101, 116, 99] : List UInt8) ++ 47 :: t = ownP etcL t from rfl, show ([114, 117, 110] : List UInt8) ++ 47 :: t = ownP runL t from rfl, show ([108, 105, 98] : List UInt8) ++ 47 :: t = ownP libL t from rfl, q _ etc_mem (by decide), q _ run_mem (by decide), at_snoc_self (f := ⟨ownP libL t, x, []⟩) (hno t o5 (.inr rfl) libL lib_mem)]
    rw [hft]
    simp [roundF]
end
end Go.Proofs.Ythodbeeglkedcaa
namespace Go.Proofs.Ythodbeeglkedcaa
section
variable {N : Nms} (O : NmsOk N)
def xsL (N : Nms) (fs : List Fi) (n : List UInt8) : List (List UInt8) := takeL (fun w => decide (w.k = 2) && decide (w.u ∈ foldsL N n)) N [] fs
theorem drops_xs (fs : List Fi) (n : List UInt8) : dropsL N fs n = (xsL N fs n).map (whereL N fs n) := rfl
theorem xs_mem {fs : List Fi} {n x : List UInt8} : x ∈ xsL N fs n ↔ ∃ f ∈ fs, (pathW N f.p).k = 2 ∧ (pathW N f.p).u ∈ foldsL N n ∧ (pathW N f.p).o = x := by
  unfold xsL
  rw [take_mem]
  simp [and_assoc]
theorem xs_rises (fs : List Fi) (n : List UInt8) : rises (xsL N fs n) := take_rises _ N fs [] List.Pairwise.nil
theorem path_two {p : List UInt8} (h : (pathW N p).k = 2) : (pathW N p).pl ∈ plc ∧ N.good (pathW N p).u = true ∧ dropN (pathW N p).o = true ∧ p = dropP (pathW N p).pl (pathW N p).u (pathW N p).o := by
  have hp := path_is N p
  generalize pathW N p = w at *
  cases hp with
  | none => cases h
  | own a u h1 h2 h3 => cases h
  | drop a u x h1 h2 h3 h4 => exact ⟨h1, h2, h3, h4⟩
  | want a u v h1 h2 h3 h4 h5 => cases h
  | need a u v h1 h2 h3 h4 h5 => cases h
theorem path_one {p : List UInt8} {a u : List UInt8} (h : N.good u = true) (ha : a ∈ plc) (e : p = ownP a u) (O : NmsOk N) : pathW N p = ⟨1, a, u, []⟩ := by
  rw [e]; exact path_own O ha h
theorem first_mem {fs : List Fi} {u : List UInt8} {f : Fi} (h : firstL fs u = some f) : ∃ a ∈ plc, f ∈ fs ∧ f.p = ownP a u := by
  unfold firstL at h
  obtain ⟨a, ha, h⟩ := List.exists_of_findSome?_eq_some h
  obtain ⟨h1, h2⟩ := at_mem h
  exact ⟨a, ha, h1, h2⟩
theorem go_found (O : NmsOk N) {fs : List Fi} (hm : mayL N fs = true) (k : Nat) (asked : List (List UInt8)) (n : List UInt8) (hn : N.good n = true) (h : (findGo N fs k asked n).2 = 0) :
    N.good (findGo N fs k asked n).1.n = true ∧ (((findGo N fs k asked n).1.m = true ∧ (findGo N fs k asked n).1.d = []) ∨ ((findGo N fs k asked n).1.m = false ∧ (findGo N fs k asked n).1.d = dropsL N fs (findGo N fs k asked n).1.n)) := by
  induction k generalizing asked n with
  | zero => cases h
  | succ k ih =>
    unfold findGo at h ⊢
    have hmay := (may_parts.1 hm).2.1
    have hst : ∀ f own, stepF N fs n = some (f, own) → f ∈ fs ∧ (own = true → ∃ a ∈ plc, f.p = ownP a n) := by
      intro f own hs
      unfold stepF at hs
      split at hs
      · rename_i g hg
        obtain ⟨a, ha, h1, h2⟩ := first_mem hg
        simp at hs
        obtain ⟨rfl, rfl⟩ := hs
        exact ⟨h1, fun _ => ⟨a, ha, h2⟩⟩
      · split at hs
        · rcases hg : firstL fs (N.tmpl n) with _ | g
          · rw [hg] at hs; cases hs
          · rw [hg] at hs
            obtain ⟨a, ha, h1, h2⟩ := first_mem hg
            simp at hs
            obtain ⟨rfl, rfl⟩ := hs
            exact ⟨h1, by simp⟩
        · cases hs
    rcases hs : stepF N fs n with _ | ⟨f, own⟩
    · rw [hs] at h
      simp only [roundF] at h
      split at h <;> cases h
    · obtain ⟨hf, hown⟩ := hst f own hs
      rw [hs] at h
      rcases hr : roundF N (dropsL N fs n) asked n (some (f, own)) with r | x
      · rw [hr] at h
        simp only at h ⊢
        simp only [roundF] at hr
        split at hr
        · injection hr with hr
          subst hr
          exact ⟨hn, .inr ⟨rfl, rfl⟩⟩
        · split at hr
          · injection hr with hr
            subst hr
            exact ⟨hn, .inl ⟨rfl, rfl⟩⟩
          · split at hr
            · injection hr with hr
              subst hr
              cases h
            · split at hr
              · injection hr with hr
                subst hr
                cases h
              · cases hr
      · rw [hr] at h
        simp only at h ⊢
        refine ih _ _ ?_ h
        simp only [roundF] at hr
        split at hr
        · cases hr
        · rename_i hl
          split at hr
          · cases hr
          · rename_i hnul
            split at hr
            · cases hr
            · rename_i y hy
              split at hr
              · cases hr
              · injection hr with hr
                subst hr
                cases own with
                | true =>
                  simp at hy
                  subst hy
                  obtain ⟨a, ha, e⟩ := hown rfl
                  have := hmay f hf
                  unfold mayF at this
                  rw [path_one hn ha e O] at this
                  simp [hl, hnul] at this
                  rw [← O.kind, this.2.1, O.kind]
                  exact hn
                | false =>
                  simp at hy
                  exact (O.ins _ _ _ hy).1
theorem find_found (O : NmsOk N) {fs : List Fi} {u : List UInt8} (h : (findL N fs u).2 = 0) :
    mayL N fs = true ∧ N.good (findL N fs u).1.n = true ∧ (((findL N fs u).1.m = true ∧ (findL N fs u).1.d = []) ∨ ((findL N fs u).1.m = false ∧ (findL N fs u).1.d = dropsL N fs (findL N fs u).1.n)) := by
  unfold findL at h ⊢
  by_cases hm : mayL N fs = false
  · rw [if_pos hm] at h; cases h
  · rw [if_neg hm] at h
    rw [if_neg hm]
    by_cases hg : N.good u = false
    · rw [if_pos hg] at h; cases h
    · rw [if_neg hg] at h
      rw [if_neg hg]
      exact ⟨by simpa using hm, go_found O (by simpa using hm) 9 _ _ (by simpa using hg) h⟩
end
end Go.Proofs.Ythodbeeglkedcaa
