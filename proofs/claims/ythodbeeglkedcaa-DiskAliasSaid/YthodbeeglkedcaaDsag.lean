/- Files in places, on plain lists: what the laws say of them. It speaks of no code. -/
import Derived.Test.YthodbeeglkedcaaDsaa
namespace Go.Proofs.Ythodbeeglkedcaa
section
variable {N : Nms}
theorem may_parts {fs : List Fi} : mayL N fs = true ↔ fs.length ≤ 120 ∧ (∀ f ∈ fs, mayF N f = true) ∧ (fs.map (·.p)).Nodup := by
  unfold mayL
  rw [Bool.and_eq_true, Bool.and_eq_true, decide_eq_true_eq, decide_eq_true_eq, List.all_eq_true, and_assoc]
theorem may_perm {fs gs : List Fi} (h : fs.Perm gs) : mayL N fs = mayL N gs := by
  rw [Bool.eq_iff_iff, may_parts, may_parts, h.length_eq, (h.map _).nodup_iff]
  constructor
  · rintro ⟨a, b, c⟩
    exact ⟨a, fun f hf => b f (h.mem_iff.2 hf), c⟩
  · rintro ⟨a, b, c⟩
    exact ⟨a, fun f hf => b f (h.mem_iff.1 hf), c⟩
theorem nodup_same {fs : List Fi} (h : (fs.map (·.p)).Nodup) {f g : Fi} (hf : f ∈ fs) (hg : g ∈ fs) (e : f.p = g.p) : f = g := by
  induction fs with
  | nil => cases hf
  | cons x fs ih =>
    rw [List.map_cons, List.nodup_cons] at h
    rcases List.mem_cons.1 hf with hf' | hf' <;> rcases List.mem_cons.1 hg with hg' | hg'
    · rw [hf', hg']
    · exact absurd (List.mem_map.2 ⟨g, hg', by rw [← e, hf']⟩) h.1
    · exact absurd (List.mem_map.2 ⟨f, hf', by rw [e, hg']⟩) h.1
    · exact ih h.2 hf' hg'
theorem at_mem {fs : List Fi} {p : List UInt8} {f : Fi} (h : atL fs p = some f) : f ∈ fs ∧ f.p = p := by
  unfold atL at h
  exact ⟨List.mem_of_find?_eq_some h, by simpa using List.find?_some h⟩
theorem at_some {fs : List Fi} (h : (fs.map (·.p)).Nodup) {f : Fi} (hf : f ∈ fs) : atL fs f.p = some f := by
  rcases he : atL fs f.p with _ | g
  · unfold atL at he
    have := List.find?_eq_none.1 he f hf
    simp at this
  · obtain ⟨h1, h2⟩ := at_mem he
    rw [nodup_same h h1 hf h2]
theorem at_none {fs : List Fi} {p : List UInt8} : atL fs p = none ↔ ∀ f ∈ fs, f.p ≠ p := by
  unfold atL
  rw [List.find?_eq_none]
  simp
theorem at_perm {fs gs : List Fi} (h : fs.Perm gs) (hn : (fs.map (·.p)).Nodup) (p : List UInt8) : atL fs p = atL gs p := by
  rcases he : atL gs p with _ | f
  · rw [at_none] at he ⊢
    exact fun f hf => he f (h.mem_iff.1 hf)
  · obtain ⟨h1, h2⟩ := at_mem he
    rw [← h2]
    exact at_some hn (h.mem_iff.2 h1)
theorem first_same {fs gs : List Fi} {u : List UInt8} (h : ∀ a ∈ plc, atL fs (a ++ 47 :: u) = atL gs (a ++ 47 :: u)) : firstL fs u = firstL gs u := by
  unfold firstL plc
  simp only [List.findSome?]
  rw [h _ (by simp [plc]), h _ (by simp [plc]), h _ (by simp [plc])]
theorem find_congr {α : Type} {p q : α → Bool} {l : List α} (h : ∀ x ∈ l, p x = q x) : l.find? p = l.find? q := by
  induction l with
  | nil => rfl
  | cons y l ih =>
    rw [List.find?_cons, List.find?_cons, h y (by simp), ih fun x hx => h x (by simp [hx])]
theorem where_same {fs gs : List Fi} {u x : List UInt8} (h : ∀ a ∈ plc, ∀ v, atL fs (dropP a v x) = atL gs (dropP a v x)) : whereL N fs u x = whereL N gs u x := by
  unfold whereL
  rw [find_congr fun p hp => ?_]
  obtain ⟨v, _, hp⟩ := List.mem_flatMap.1 hp
  obtain ⟨a, ha, rfl⟩ := List.mem_map.1 hp
  rw [h a ha v]
theorem take_perm {fs gs : List Fi} (h : fs.Perm gs) (q : Wy → Bool) : takeL q N [] fs = takeL q N [] gs :=
  rise_ext (take_rises q N fs [] List.Pairwise.nil) (take_rises q N gs [] List.Pairwise.nil) fun x => by
    rw [take_mem, take_mem]
    constructor
    · rintro (hx | ⟨f, hf, r⟩)
      · exact .inl hx
      · exact .inr ⟨f, h.mem_iff.1 hf, r⟩
    · rintro (hx | ⟨f, hf, r⟩)
      · exact .inl hx
      · exact .inr ⟨f, h.mem_iff.2 hf, r⟩
theorem drops_same {fs gs : List Fi} {u : List UInt8} (h1 : ∀ q, takeL q N [] fs = takeL q N [] gs) (h2 : ∀ x, whereL N fs u x = whereL N gs u x) : dropsL N fs u = dropsL N gs u := by
  unfold dropsL
  rw [h1]
  exact List.map_congr_left fun x _ => h2 x
theorem step_same {fs gs : List Fi} {n : List UInt8} (h : firstL fs n = firstL gs n) (h2 : firstL fs (N.tmpl n) = firstL gs (N.tmpl n)) : stepF N fs n = stepF N gs n := by
  unfold stepF
  rw [h, h2]
theorem go_same {fs gs : List Fi} (h : ∀ n, firstL fs n = firstL gs n) (h2 : ∀ n, dropsL N fs n = dropsL N gs n) (k : Nat) (asked : List (List UInt8)) (n : List UInt8) : findGo N fs k asked n = findGo N gs k asked n := by
  induction k generalizing asked n with
  | zero => rfl
  | succ k ih =>
    unfold findGo
    rw [step_same (h n) (h _), h2]
    rcases roundF N (dropsL N gs n) asked n (stepF N gs n) with r | x
    · rfl
    · exact ih _ _
theorem find_perm {fs gs : List Fi} (h : fs.Perm gs) (u : List UInt8) : findL N fs u = findL N gs u := by
  unfold findL
  rw [may_perm (N := N) h]
  by_cases hm : mayL N gs = false
  · rw [if_pos hm, if_pos hm]
  · have hm : mayL N gs = true := by simpa using hm
    have hn : (fs.map (·.p)).Nodup := (may_parts.1 ((may_perm h).trans hm)).2.2
    rw [go_same (fun n => first_same fun a _ => at_perm h hn _) (fun n => drops_same (take_perm h) fun x => where_same fun a _ v => at_perm h hn _)]
theorem links_perm {fs gs : List Fi} (h : fs.Perm gs) (k : Int) (u : List UInt8) : linksL N k fs u = linksL N k gs u := by
  unfold linksL
  rw [may_perm (N := N) h, take_perm h]
theorem turn_perm (fs : List Fi) (k : Nat) : fs.Perm (fs.drop k ++ fs.take k) := by
  conv => lhs; rw [← List.take_append_drop k fs]
  exact List.perm_append_comm
theorem slash_inj {a b n m : List UInt8} (ha : a ∈ plc) (hb : b ∈ plc) (h : a ++ 47 :: n = b ++ 47 :: m) : a = b ∧ n = m := by
  have hl : a.length = b.length := by
    simp [plc] at ha hb
    rcases ha with rfl | rfl | rfl <;> rcases hb with rfl | rfl | rfl <;> rfl
  obtain ⟨h1, h2⟩ := List.append_inj h hl
  injection h2 with _ h2
  exact ⟨h1, h2⟩
def ownP (a u : List UInt8) : List UInt8 := a ++ 47 :: u
theorem may_snoc {fs : List Fi} {f : Fi} (h : mayL N fs = true) (hl : fs.length < 120) (hf : mayF N f = true) (hp : ∀ g ∈ fs, g.p ≠ f.p) : mayL N (fs ++ [f]) = true := by
  rw [may_parts] at h ⊢
  obtain ⟨h1, h2, h3⟩ := h
  refine ⟨by rw [List.length_append]; simp; omega, fun g hg => ?_, ?_⟩
  · rcases List.mem_append.1 hg with hg | hg
    · exact h2 g hg
    · rw [List.mem_singleton.1 hg]; exact hf
  · rw [List.map_append, List.nodup_append]
    refine ⟨h3, by simp, ?_⟩
    intro a ha b hb
    obtain ⟨g, hg, rfl⟩ := List.mem_map.1 ha
    simp at hb
    subst hb
    exact hp g hg
theorem at_snoc (fs : List Fi) (f : Fi) (p : List UInt8) : atL (fs ++ [f]) p = (atL fs p).or (if f.p = p then some f else none) := by
  unfold atL
  rw [List.find?_append]
  congr 1
  by_cases h : f.p = p <;> simp [h]
theorem at_snoc_other {fs : List Fi} {f : Fi} {p : List UInt8} (h : f.p ≠ p) : atL (fs ++ [f]) p = atL fs p := by
  rw [at_snoc, if_neg h]
  cases atL fs p <;> rfl
theorem at_snoc_self {fs : List Fi} {f : Fi} (h : ∀ g ∈ fs, g.p ≠ f.p) : atL (fs ++ [f]) f.p = some f := by
  rw [at_snoc, at_none.2 h, if_pos rfl]; rfl
variable (O : NmsOk N)
theorem first_other {fs : List Fi} {f : Fi} {a u n : List UInt8} (ha : a ∈ plc) (hf : f.p = ownP a u) (hn : n ≠ u) : firstL (fs ++ [f]) n = firstL fs n :=
  first_same fun b hb => at_snoc_other (by rw [hf]; intro e; exact hn (slash_inj ha hb e).2.symm)
theorem take_own (O : NmsOk N) {fs : List Fi} {f : Fi} {a u : List UInt8} (ha : a ∈ plc) (hu : N.good u = true) (hf : f.p = ownP a u) (q : Wy → Bool) (hq : ∀ w : Wy, w.k = 1 → q w = false) : takeL q N [] (fs ++ [f]) = takeL q N [] fs := by
  unfold takeL
  rw [List.foldl_append]
  simp only [List.foldl]
  rw [hf, ownP, path_own O ha hu, hq _ rfl]
  rfl
theorem drops_other (O : NmsOk N) {fs : List Fi} {f : Fi} {a u : List UInt8} (ha : a ∈ plc) (hu : N.good u = true) (hf : f.p = ownP a u) (n : List UInt8) : dropsL N (fs ++ [f]) n = dropsL N fs n := by
  unfold dropsL
  rw [take_own O ha hu hf _ (by intro w hw; simp [hw])]
  refine List.map_congr_left fun x _ => ?_
  have hw : ∀ b ∈ plc, ∀ v, atL (fs ++ [f]) (dropP b v x) = atL fs (dropP b v x) := fun b hb v => at_snoc_other (by
    rw [hf]
    intro e
    have h2 := (slash_inj ha hb e).2
    exact O.slash u hu (by rw [h2]; simp))
  exact where_same hw
theorem first_etc {fs : List Fi} {p : List UInt8} {f : Fi} (h : atL fs (ownP [101, 116, 99] p) = some f) : firstL fs p = some f := by
  unfold firstL plc
  simp only [List.findSome?]
  unfold ownP at h
  rw [h]
theorem find_own {fs : List Fi} {u : List UInt8} {f : Fi} (hm : mayL N fs = true) (hu : N.good u = true) (h : firstL fs u = some f) (hl : f.l = []) : findL N fs u = (⟨u, f.p, false, dropsL N fs u⟩, 0) := by
  unfold findL
  rw [if_neg (by simp [hm]), if_neg (by simp [hu])]
  unfold findGo stepF
  rw [h]
  simp only [roundF]
  rw [if_pos hl]
theorem find_null {fs : List Fi} {u : List UInt8} {f : Fi} (hm : mayL N fs = true) (hu : N.good u = true) (h : firstL fs u = some f) (hl : f.l = nulL) : findL N fs u = (⟨u, f.p, true, []⟩, 0) := by
  unfold findL
  rw [if_neg (by simp [hm]), if_neg (by simp [hu])]
  unfold findGo stepF
  rw [h]
  simp only [roundF]
  rw [if_neg (by rw [hl]; decide), if_pos hl]
theorem may_text (O : NmsOk N) {a u t : List UInt8} (ha : a ∈ plc) (hu : N.good u = true) (ht : t.length ≤ 20000) : mayF N ⟨ownP a u, t, []⟩ = true := by
  unfold mayF ownP
  rw [path_own O ha hu]
  simp [ht]
theorem may_null (O : NmsOk N) {a u : List UInt8} (ha : a ∈ plc) (hu : N.good u = true) : mayF N ⟨ownP a u, [], nulL⟩ = true := by
  unfold mayF ownP
  rw [path_own O ha hu]
  simp
def etcL : List UInt8 := [101, 116, 99]
theorem etc_mem : etcL ∈ plc := by simp [etcL, plc]
theorem first_own (O : NmsOk N) {fs : List Fi} {u t : List UInt8} (hm : mayL N fs = true) (hl : fs.length < 120) (hu : N.good u = true) (ht : t.length ≤ 20000) (hp : ∀ g ∈ fs, g.p ≠ ownP etcL u) :
    mayL N (fs ++ [⟨ownP etcL u, t, []⟩]) = true ∧ findL N (fs ++ [⟨ownP etcL u, t, []⟩]) u = (⟨u, ownP etcL u, false, dropsL N (fs ++ [⟨ownP etcL u, t, []⟩]) u⟩, 0) := by
  have h1 := may_snoc hm hl (may_text O etc_mem hu ht) hp
  exact ⟨h1, find_own h1 hu (first_etc (at_snoc_self (f := ⟨ownP etcL u, t, []⟩) hp)) rfl⟩
theorem first_mask (O : NmsOk N) {fs : List Fi} {u : List UInt8} (hm : mayL N fs = true) (hl : fs.length < 120) (hu : N.good u = true) (hp : ∀ g ∈ fs, g.p ≠ ownP etcL u) :
    findL N (fs ++ [⟨ownP etcL u, [], nulL⟩]) u = (⟨u, ownP etcL u, true, []⟩, 0) := by
  have h1 := may_snoc hm hl (may_null O etc_mem hu) hp
  exact find_null h1 hu (first_etc (at_snoc_self (f := ⟨ownP etcL u, [], nulL⟩) hp)) rfl
theorem go_other (O : NmsOk N) {fs : List Fi} {u t : List UInt8} (hu : N.good u = true) (hp : ∀ g ∈ fs, g.p ≠ ownP etcL u) (k : Nat) (asked : List (List UInt8)) (n : List UInt8) (h : (findGo N fs k asked n).2 = 0) :
    (findGo N (fs ++ [⟨ownP etcL u, t, []⟩]) k asked n).1.n = u ∨ (findGo N (fs ++ [⟨ownP etcL u, t, []⟩]) k asked n).1.p = ownP etcL u ∨ findGo N (fs ++ [⟨ownP etcL u, t, []⟩]) k asked n = findGo N fs k asked n := by
  have hd := drops_other O (fs := fs) (f := ⟨ownP etcL u, t, []⟩) etc_mem hu rfl
  have hfu : firstL (fs ++ [⟨ownP etcL u, t, []⟩]) u = some ⟨ownP etcL u, t, []⟩ := first_etc (at_snoc_self (f := ⟨ownP etcL u, t, []⟩) hp)
  have ho : ∀ m, m ≠ u → firstL (fs ++ [⟨ownP etcL u, t, []⟩]) m = firstL fs m := fun m hm => first_other etc_mem rfl hm
  generalize fs ++ [⟨ownP etcL u, t, []⟩] = gs at *
  induction k generalizing asked n with
  | zero => exact .inr (.inr rfl)
  | succ k ih =>
    by_cases hn : n = u
    · left
      subst hn
      unfold findGo stepF
      rw [hfu]
      simp [roundF]
    · have hs : stepF N gs n = stepF N fs n ∨ stepF N gs n = some (⟨ownP etcL u, t, []⟩, false) := by
        unfold stepF
        rw [ho n hn]
        rcases firstL fs n with _ | f
        · simp only
          by_cases hi : N.isI n = true
          · rw [if_pos hi, if_pos hi]
            by_cases ht : N.tmpl n = u
            · right; rw [ht, hfu]; rfl
            · left; rw [ho _ ht]
          · left; rw [if_neg hi, if_neg hi]
        · left; rfl
      rcases hs with hs | hs
      · unfold findGo at h ⊢
        rw [hs, hd]
        rcases hr : roundF N (dropsL N fs n) asked n (stepF N fs n) with r | x
        · exact .inr (.inr rfl)
        · rw [hr] at h
          exact ih _ _ h
      · right; left
        unfold findGo
        rw [hs]
        simp [roundF]
theorem first_rest (O : NmsOk N) {fs : List Fi} {u t other : List UInt8} (hm : mayL N fs = true) (hl : fs.length < 120) (hu : N.good u = true) (ht : t.length ≤ 20000) (hp : ∀ g ∈ fs, g.p ≠ ownP etcL u) (h : (findL N fs other).2 = 0) :
    (findL N (fs ++ [⟨ownP etcL u, t, []⟩]) other).1.n = u ∨ (findL N (fs ++ [⟨ownP etcL u, t, []⟩]) other).1.p = ownP etcL u ∨ findL N (fs ++ [⟨ownP etcL u, t, []⟩]) other = findL N fs other := by
  have h1 := (first_own O hm hl hu ht hp).1
  have e1 : ∀ gs : List Fi, mayL N gs = true → findL N gs other = if N.good other = false then (noFd, 5) else findGo N gs 9 [other] other := fun gs hg => by
    unfold findL
    rw [if_neg (by simp [hg])]
  rw [e1 _ hm] at h ⊢
  rw [e1 _ h1]
  by_cases hg : N.good other = false
  · rw [if_pos hg] at h; cases h
  · rw [if_neg hg] at h ⊢
    rw [if_neg hg]
    exact go_other O hu hp 9 _ _ h
end
end Go.Proofs.Ythodbeeglkedcaa
