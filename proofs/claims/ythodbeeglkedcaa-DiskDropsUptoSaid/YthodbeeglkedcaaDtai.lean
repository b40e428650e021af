/- Files in places, on plain lists: what the laws say of them. It speaks of no code. Files in places, on plain lists: rows  -/
import Derived.Test.YthodbeeglkedcaaDtad
namespace Go.Proofs.Ythodbeeglkedcaa
section
variable {N : Nms}
theorem may_parts {fs : List Fi} : mayL N fs = true ↔ fs.length ≤ 120 ∧ (∀ f ∈ fs, mayF N f = true) ∧ (fs.map (·.p)).Nodup := by
  unfold mayL
  rw [Bool.and_eq_true, Bool.and_eq_true, decide_eq_true_eq, decide_eq_true_eq, List.all_eq_true, and_assoc]
theorem at_mem {fs : List Fi} {p : List UInt8} {f : Fi} (h : atL fs p = some f) : f ∈ fs ∧ f.p = p := by
  unfold atL at h
  exact ⟨List.mem_of_find?_eq_some h, by simpa using List.find?_some h⟩
theorem at_none {fs : List Fi} {p : List UInt8} : atL fs p = none ↔ ∀ f ∈ fs, f.p ≠ p := by
  unfold atL
  rw [List.find?_eq_none]
  simp
theorem slash_inj {a b n m : List UInt8} (ha : a ∈ plc) (hb : b ∈ plc) (h : a ++ 47 :: n = b ++ 47 :: m) : a = b ∧ n = m := by
  have hl : a.length = b.length := by
    simp [plc] at ha hb
    rcases ha with rfl | rfl | rfl <;> rcases hb with rfl | rfl | rfl <;> rfl
  obtain ⟨h1, h2⟩ := List.append_inj h hl
  injection h2 with _ h2
  exact ⟨h1, h2⟩
def ownP (a u : List UInt8) : List UInt8 := a ++ 47 :: u
theorem at_snoc (fs : List Fi) (f : Fi) (p : List UInt8) : atL (fs ++ [f]) p = (atL fs p).or (if f.p = p then some f else none) := by
  unfold atL
  rw [List.find?_append]
  congr 1
  by_cases h : f.p = p <;> simp [h]
variable (O : NmsOk N)
def etcL : List UInt8 := [101, 116, 99]
theorem etc_mem : etcL ∈ plc := by simp [etcL, plc]
end
end Go.Proofs.Ythodbeeglkedcaa
namespace Go.Proofs.Ythodbeeglkedcaa
section
variable {N : Nms}
def dgA (k : Nat) : UInt8 := if k < 10 then (48 + k).toUInt8 else (87 + k).toUInt8
def nmA (k : Nat) : List UInt8 := [117, dgA k, 46, 115, 101, 114, 118, 105, 99, 101]
def libL : List UInt8 := [108, 105, 98]
def runL : List UInt8 := [114, 117, 110]
theorem lib_mem : libL ∈ plc := by simp [libL, plc]
theorem run_mem : runL ∈ plc := by simp [runL, plc]
def NmaOk (N : Nms) : Prop := ∀ k, k ≤ 12 → N.good (nmA k) = true ∧ N.kind (nmA k) = 1 ∧ N.isT (nmA k) = false
variable (O : NmsOk N) (H : NmaOk N)
end
end Go.Proofs.Ythodbeeglkedcaa
namespace Go.Proofs.Ythodbeeglkedcaa
section
variable {N : Nms} (O : NmsOk N)
def rankL (a : List UInt8) : Nat := if a = etcL then 0 else if a = runL then 1 else if a = libL then 2 else 9
def DropOk (N : Nms) (fs : List Fi) (n x p : List UInt8) : Prop :=
  ∃ a v, pathW N p = ⟨2, a, v, x⟩ ∧ (v = n ∨ v = N.tmpl n) ∧ ∀ g ∈ fs, (pathW N g.p).k = 2 → (pathW N g.p).o = x →
    ¬((pathW N g.p).u = n ∧ v ≠ n) ∧ ¬((pathW N g.p).u = v ∧ rankL (pathW N g.p).pl < rankL a)
def xsL (N : Nms) (fs : List Fi) (n : List UInt8) : List (List UInt8) := takeL (fun w => decide (w.k = 2) && decide (w.u ∈ foldsL N n)) N [] fs
theorem drops_xs (fs : List Fi) (n : List UInt8) : dropsL N fs n = (xsL N fs n).map (whereL N fs n) := rfl
theorem xs_mem {fs : List Fi} {n x : List UInt8} : x ∈ xsL N fs n ↔ ∃ f ∈ fs, (pathW N f.p).k = 2 ∧ (pathW N f.p).u ∈ foldsL N n ∧ (pathW N f.p).o = x := by
  unfold xsL
  rw [take_mem]
  simp [and_assoc]
theorem xs_rises (fs : List Fi) (n : List UInt8) : rises (xsL N fs n) := take_rises _ N fs [] List.Pairwise.nil
theorem path_two {p : List UInt8} (h : (pathW N p).k = 2) : (pathW N p).pl ∈ plc ∧ N.good (pathW N p).u = true ∧ dropN (pathW N p).o = true ∧ p = dropP (pathW N p).pl (pathW N p).u (pathW N p).o := by
  have hp := path_is N p
  generalize pathW N p = w at *
  cases hp with
  | none => cases h
  | own a u h1 h2 h3 => cases h
  | drop a u x h1 h2 h3 h4 => exact ⟨h1, h2, h3, h4⟩
  | want a u v h1 h2 h3 h4 h5 => cases h
  | need a u v h1 h2 h3 h4 h5 => cases h
def isAt (fs : List Fi) (x a v : List UInt8) : Bool := (atL fs (dropP a v x)).isSome
theorem isAt_of {fs : List Fi} {g : Fi} (hg : g ∈ fs) (h : (pathW N g.p).k = 2) : isAt fs (pathW N g.p).o (pathW N g.p).pl (pathW N g.p).u = true := by
  obtain ⟨_, _, _, h4⟩ := path_two h
  unfold isAt
  rcases he : atL fs (dropP (pathW N g.p).pl (pathW N g.p).u (pathW N g.p).o) with _ | f
  · exact absurd h4 (at_none.1 he g hg)
  · rfl
theorem find_of {α : Type} {q : α → Bool} {l r : List α} {y : α} (h : ∀ z ∈ l, q z = false) (hy : q y = true) : (l ++ y :: r).find? q = some y := by
  rw [List.find?_append, List.find?_eq_none.2 (fun z hz => by simp [h z hz])]
  simp [hy]
theorem plc_cases {a : List UInt8} (h : a ∈ plc) : a = etcL ∨ a = runL ∨ a = libL := by
  simpa [plc, etcL, runL, libL] using h
theorem drop_ok (O : NmsOk N) {fs : List Fi} {n x : List UInt8} (hn : N.good n = true) (hx : x ∈ xsL N fs n) : DropOk N fs n x (whereL N fs n x) := by
  obtain ⟨f, hf, h1, h2, h3⟩ := xs_mem.1 hx
  obtain ⟨p1, p2, p3, p4⟩ := path_two h1
  rw [h3] at p3
  have hat : ∀ g ∈ fs, (pathW N g.p).k = 2 → (pathW N g.p).o = x → isAt fs x (pathW N g.p).pl (pathW N g.p).u = true := fun g hg k2 ko => by
    have := isAt_of (N := N) hg k2
    rwa [ko] at this
  have hpl : ∀ g : Fi, (pathW N g.p).k = 2 → (pathW N g.p).pl ∈ plc := fun g k2 => (path_two k2).1
  -- the first place that has it
  have key : ∃ a v, a ∈ plc ∧ N.good v = true ∧ v ∈ foldsL N n ∧ whereL N fs n x = dropP a v x ∧ (v ≠ n → ∀ b ∈ plc, isAt fs x b n = false) ∧ (∀ b ∈ plc, rankL b < rankL a → isAt fs x b v = false) := by
    have one : ∀ v, (isAt fs x etcL v = true ∨ isAt fs x runL v = true ∨ isAt fs x libL v = true) → ∃ a l r, a ∈ plc ∧ plc.map (fun a => dropP a v x) = l ++ dropP a v x :: r ∧ (∀ z ∈ l, (atL fs z).isSome = false) ∧ (atL fs (dropP a v x)).isSome = true ∧ (∀ b ∈ plc, rankL b < rankL a → isAt fs x b v = false) := by
      intro v hv
      cases e1 : isAt fs x etcL v with
      | true =>
        refine ⟨etcL, [], _, etc_mem, rfl, by simp, e1, fun b hb hr => ?_⟩
        rcases plc_cases hb with rfl | rfl | rfl <;> exact absurd hr (by decide)
      | false =>
        cases e2 : isAt fs x runL v with
        | true =>
          refine ⟨runL, [dropP etcL v x], _, run_mem, rfl, ?_, e2, fun b hb hr => ?_⟩
          · intro z hz; rw [List.mem_singleton.1 hz]; exact e1
          · rcases plc_cases hb with rfl | rfl | rfl <;> first | exact e1 | exact absurd hr (by decide)
        | false =>
          cases e3 : isAt fs x libL v with
          | true =>
            refine ⟨libL, [dropP etcL v x, dropP runL v x], _, lib_mem, rfl, ?_, e3, fun b hb hr => ?_⟩
            · intro z hz
              rcases List.mem_cons.1 hz with rfl | hz
              · exact e1
              · rw [List.mem_singleton.1 hz]; exact e2
            · rcases plc_cases hb with rfl | rfl | rfl <;> first | exact e1 | exact e2 | exact absurd hr (by decide)
          | false => rw [e1, e2, e3] at hv; simp at hv
    have hany : ∀ v, (∃ b ∈ plc, isAt fs x b v = true) → (isAt fs x etcL v = true ∨ isAt fs x runL v = true ∨ isAt fs x libL v = true) := by
      rintro v ⟨b, hb, h⟩
      rcases plc_cases hb with rfl | rfl | rfl
      · exact .inl h
      · exact .inr (.inl h)
      · exact .inr (.inr h)
    by_cases hown : ∃ b ∈ plc, isAt fs x b n = true
    · obtain ⟨a, l, r, ha, hl, hno, hyes, hr⟩ := one n (hany n hown)
      refine ⟨a, n, ha, hn, by unfold foldsL; split <;> simp, ?_, fun h => absurd rfl h, hr⟩
      unfold whereL
      have hcat : ∃ r', (foldsL N n).flatMap (fun v => plc.map fun a => dropP a v x) = l ++ dropP a n x :: r' := by
        unfold foldsL
        split
        · exact ⟨r ++ plc.map (fun a => dropP a (N.tmpl n) x), by
            rw [List.flatMap_cons, hl]
            simp⟩
        · exact ⟨r, by rw [List.flatMap_cons, hl]; simp⟩
      obtain ⟨r', hcat⟩ := hcat
      rw [hcat, find_of (q := fun p => (atL fs p).isSome) hno hyes]
      rfl
    · have hnone : ∀ b ∈ plc, isAt fs x b n = false := fun b hb => by simpa using fun h => hown ⟨b, hb, h⟩
      have hu : (pathW N f.p).u ≠ n := fun e => by
        have := hat f hf h1 h3
        rw [e] at this
        exact hown ⟨_, p1, this⟩
      have hi : N.isI n = true := by
        unfold foldsL at h2
        split at h2
        · assumption
        · exact absurd (List.mem_singleton.1 h2) hu
      have hut : (pathW N f.p).u = N.tmpl n := by
        unfold foldsL at h2
        rw [if_pos hi] at h2
        rcases List.mem_cons.1 h2 with h2 | h2
        · exact absurd h2 hu
        · exact List.mem_singleton.1 h2
      have hy := hat f hf h1 h3
      rw [hut] at hy
      obtain ⟨a, l, r, ha, hl, hno, hyes, hr⟩ := one (N.tmpl n) (hany _ ⟨_, p1, hy⟩)
      refine ⟨a, N.tmpl n, ha, O.tmpl n hi hn, by unfold foldsL; rw [if_pos hi]; simp, ?_, fun _ => hnone, hr⟩
      unfold whereL
      have hcat : (foldsL N n).flatMap (fun v => plc.map fun a => dropP a v x) = (plc.map (fun a => dropP a n x) ++ l) ++ dropP a (N.tmpl n) x :: r := by
        unfold foldsL
        rw [if_pos hi, List.flatMap_cons, List.flatMap_cons, hl]
        simp
      rw [hcat, find_of (q := fun p => (atL fs p).isSome) ?_ hyes]
      · rfl
      · intro z hz
        rcases List.mem_append.1 hz with hz | hz
        · obtain ⟨b, hb, rfl⟩ := List.mem_map.1 hz
          exact hnone b hb
        · exact hno z hz
  obtain ⟨a, v, ha, hv, hvf, hw, k1, k2⟩ := key
  refine ⟨a, v, by rw [hw]; exact path_drop O ha hv p3, ?_, fun g hg e1 e2 => ⟨?_, ?_⟩⟩
  · unfold foldsL at hvf
    split at hvf
    · simpa using hvf
    · exact .inl (List.mem_singleton.1 hvf)
  · rintro ⟨e3, e4⟩
    have := hat g hg e1 e2
    rw [e3, k1 e4 _ (hpl g e1)] at this
    cases this
  · rintro ⟨e3, e4⟩
    have := hat g hg e1 e2
    rw [e3, k2 _ (hpl g e1) e4] at this
    cases this
theorem path_one {p : List UInt8} {a u : List UInt8} (h : N.good u = true) (ha : a ∈ plc) (e : p = ownP a u) (O : NmsOk N) : pathW N p = ⟨1, a, u, []⟩ := by
  rw [e]; exact path_own O ha h
theorem first_mem {fs : List Fi} {u : List UInt8} {f : Fi} (h : firstL fs u = some f) : ∃ a ∈ plc, f ∈ fs ∧ f.p = ownP a u := by
  unfold firstL at h
  obtain ⟨a, ha, h⟩ := List.exists_of_findSome?_eq_some h
  obtain ⟨h1, h2⟩ := at_mem h
  exact ⟨a, ha, h1, h2⟩
theorem go_found (O : NmsOk N) {fs : List Fi} (hm : mayL N fs = true) (k : Nat) (asked : List (List UInt8)) (n : List UInt8) (hn : N.good n = true) (h : (findGo N fs k asked n).2 = 0) :
    N.good (findGo N fs k asked n).1.n = true ∧ (((findGo N fs k asked n).1.m = true ∧ (findGo N fs k asked n).1.d = []) ∨ ((findGo N fs k asked n).1.m = false ∧ (findGo N fs k asked n).1.d = dropsL N fs (findGo N fs k asked n).1.n)) := by
  induction k generalizing asked n with
  | zero => cases h
  | succ k ih =>
    unfold findGo at h ⊢
    have hmay := (may_parts.1 hm).2.1
    have hst : ∀ f own, stepF N fs n = some (f, own) → f ∈ fs ∧ (own = true → ∃ a ∈ plc, f.p = ownP a n) := by
      intro f own hs
      unfold stepF at hs
      split at hs
      · rename_i g hg
        obtain ⟨a, ha, h1, h2⟩ := first_mem hg
        simp at hs
        obtain ⟨rfl, rfl⟩ := hs
        exact ⟨h1, fun _ => ⟨a, ha, h2⟩⟩
      · split at hs
        · rcases hg : firstL fs (N.tmpl n) with _ | g
          · rw [hg] at hs; cases hs
          · rw [hg] at hs
            obtain ⟨a, ha, h1, h2⟩ := first_mem hg
            simp at hs
            obtain ⟨rfl, rfl⟩ := hs
            exact ⟨h1, by simp⟩
        · cases hs
    rcases hs : stepF N fs n with _ | ⟨f, own⟩
    · rw [hs] at h
      simp only [roundF] at h
      split at h <;> cases h
    · obtain ⟨hf, hown⟩ := hst f own hs
      rw [hs] at h
      rcases hr : roundF N (dropsL N fs n) asked n (some (f, own)) with r | x
      · rw [hr] at h
        simp only at h ⊢
        simp only [roundF] at hr
        split at hr
        · injection hr with hr
          subst hr
          exact ⟨hn, .inr ⟨rfl, rfl⟩⟩
        · split at hr
          · injection hr with hr
            subst hr
            exact ⟨hn, .inl ⟨rfl, rfl⟩⟩
          · split at hr
            · injection hr with hr
              subst hr
              cases h
            · split at hr
              · injection hr with hr
                subst hr
                cases h
              · cases hr
      · rw [hr] at h
        simp only at h ⊢
        refine ih _ _ ?_ h
        simp only [roundF] at hr
        split at hr
        · cases hr
        · rename_i hl
          split at hr
          · cases hr
          · rename_i hnul
            split at hr
            · cases hr
            · rename_i y hy
              split at hr
              · cases hr
              · injection hr with hr
                subst hr
                cases own with
                | true =>
                  simp at hy
                  subst hy
                  obtain ⟨a, ha, e⟩ := hown rfl
                  have := hmay f hf
                  unfold mayF at this
                  rw [path_one hn ha e O] at this
                  simp [hl, hnul] at this
                  rw [← O.kind, this.2.1, O.kind]
                  exact hn
                | false =>
                  simp at hy
                  exact (O.ins _ _ _ hy).1
theorem find_found (O : NmsOk N) {fs : List Fi} {u : List UInt8} (h : (findL N fs u).2 = 0) :
    mayL N fs = true ∧ N.good (findL N fs u).1.n = true ∧ (((findL N fs u).1.m = true ∧ (findL N fs u).1.d = []) ∨ ((findL N fs u).1.m = false ∧ (findL N fs u).1.d = dropsL N fs (findL N fs u).1.n)) := by
  unfold findL at h ⊢
  by_cases hm : mayL N fs = false
  · rw [if_pos hm] at h; cases h
  · rw [if_neg hm] at h
    rw [if_neg hm]
    by_cases hg : N.good u = false
    · rw [if_pos hg] at h; cases h
    · rw [if_neg hg] at h
      rw [if_neg hg]
      exact ⟨by simpa using hm, go_found O (by simpa using hm) 9 _ _ (by simpa using hg) h⟩
theorem xs_has {fs : List Fi} {n : List UInt8} {f : Fi} (hf : f ∈ fs) (h : (pathW N f.p).k = 2) (hu : (pathW N f.p).u = n) : (pathW N f.p).o ∈ xsL N fs n :=
  xs_mem.2 ⟨f, hf, h, by rw [hu]; unfold foldsL; split <;> simp, rfl⟩
end
end Go.Proofs.Ythodbeeglkedcaa
