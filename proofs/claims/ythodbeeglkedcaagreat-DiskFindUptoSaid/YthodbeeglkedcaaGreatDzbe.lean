/- Files in places, on plain lists: the program's road to what is laid over a unit. It speaks of no code. -/
import Derived.Test.YthodbeeglkedcaaGreatDzbd
namespace Go.Proofs.YthodbeeglkedcaaGreat
section
def foldD (v a : List UInt8) : List UInt8 := a ++ 47 :: (v ++ dotD ++ [47])
theorem foldD_drop (a v x : List UInt8) : foldD v a ++ (x ++ dotC) = dropP a v x := by simp [foldD, dropP]
theorem dropP_no (a v x : List UInt8) : dropP a v x ≠ [] := by simp [dropP]
theorem dropP_inj {a v x y : List UInt8} (h : dropP a v x = dropP a v y) : x = y := by
  rw [← foldD_drop, ← foldD_drop] at h
  exact List.append_cancel_right (List.append_cancel_left h)
def trimC (c : List UInt8) : List UInt8 := if dotC <:+ c then c.take (c.length - 5) else c
theorem trim_conf (x : List UInt8) : trimC (x ++ dotC) = x := by
  unfold trimC
  rw [if_pos ⟨x, rfl⟩, List.length_append, show dotC.length = 5 from rfl, Nat.add_sub_cancel, List.take_left' rfl]
variable {N : Nms} (O : NmsOk N)
theorem in_drops (O : NmsOk N) {f : Fi} (h : mayF N f = true) {a v : List UInt8} (ha : a ∈ plc) (hp : foldD v a <+: f.p) : ∃ x, f.p = dropP a v x ∧ pathW N f.p = ⟨2, a, v, x⟩ ∧ trimC (f.p.drop (foldD v a).length) = x := by
  obtain ⟨c, hc⟩ := hp
  have hp' : f.p = a ++ 47 :: ((v ++ dotD) ++ 47 :: c) := by rw [← hc]; simp [foldD]
  have hw := in_folder O h ha hp'
  have hd : f.p.drop (foldD v a).length = c := by rw [← hc, List.drop_left' rfl]
  rw [hd]
  generalize hW : pathW N f.p = w at *
  cases hw with
  | drop u x e1 e2 g1 g2 =>
    have := List.append_cancel_right e1
    subst this e2
    exact ⟨x, by rw [← hc, foldD_drop], rfl, trim_conf x⟩
  | want u e1 g1 g2 g3 => exact (app_other e1 (by decide) (by decide) (by decide)).elim
  | need u e1 g1 g2 g3 => exact (app_other e1 (by decide) (by decide) (by decide)).elim
theorem not_in {f : Fi} {a v x : List UInt8} (h : ¬ foldD v a <+: f.p) : f.p ≠ dropP a v x := fun e => h ⟨x ++ dotC, by rw [foldD_drop, e]⟩
def whrL (fs : List Fi) (F : List (List UInt8 × List UInt8)) (x : List UInt8) : List UInt8 := ((F.map (fun z => dropP z.2 z.1 x)).find? (fun p => (atL fs p).isSome)).getD []
def gK (fs : List Fi) (F : List (List UInt8 × List UInt8)) (v a : List UInt8) (k : Nat) (x : List UInt8) : List UInt8 :=
  if whrL fs F x ≠ [] then whrL fs F x else if (atL (fs.take k) (dropP a v x)).isSome = true then dropP a v x else []
theorem gK_zero (fs : List Fi) (F : List (List UInt8 × List UInt8)) (v a x : List UInt8) : gK fs F v a 0 x = whrL fs F x := by
  unfold gK
  rw [List.take_zero]
  by_cases h : whrL fs F x = [] <;> simp [h, atL]
theorem whr_none {fs : List Fi} {F : List (List UInt8 × List UInt8)} {x : List UInt8} (h : whrL fs F x = []) : (F.map (fun z => dropP z.2 z.1 x)).find? (fun p => (atL fs p).isSome) = none := by
  unfold whrL at h
  rcases hf : (F.map (fun z => dropP z.2 z.1 x)).find? (fun p => (atL fs p).isSome) with _ | p
  · exact hf
  · rw [hf] at h
    obtain ⟨z, _, hz⟩ := List.mem_map.1 (List.mem_of_find?_eq_some hf)
    exact absurd (hz.trans h) (dropP_no _ _ _)
theorem whr_snoc (fs : List Fi) (F : List (List UInt8 × List UInt8)) (v a x : List UInt8) : gK fs F v a fs.length x = whrL fs (F ++ [(v, a)]) x := by
  unfold gK
  rw [List.take_length]
  by_cases h : whrL fs F x = []
  · rw [if_neg (by simp [h])]
    have h2 := whr_none h
    conv => rhs; unfold whrL
    rw [List.map_append, List.find?_append, h2]
    by_cases h3 : (atL fs (dropP a v x)).isSome = true
    · rw [if_pos h3]
      simp [h3]
    · rw [if_neg h3]
      simp [h3]
  · rw [if_pos h]
    unfold whrL at h ⊢
    rw [List.map_append, List.find?_append]
    rcases hf : (F.map (fun z => dropP z.2 z.1 x)).find? (fun p => (atL fs p).isSome) with _ | p
    · rw [hf] at h; exact absurd rfl h
    · rw [hf]; rfl
theorem at_take_snoc {fs : List Fi} {k : Nat} {f : Fi} (hf : fs[k]? = some f) (p : List UInt8) : (atL (fs.take (k + 1)) p).isSome = ((atL (fs.take k) p).isSome || decide (f.p = p)) := by
  obtain ⟨hk, he⟩ := List.getElem?_eq_some_iff.1 hf
  rw [List.take_succ_eq_append_getElem hk, he, at_snoc]
  by_cases h : f.p = p
  · cases atL (fs.take k) p <;> simp [h]
  · cases atL (fs.take k) p <;> simp [h]
theorem gK_skip {fs : List Fi} {F : List (List UInt8 × List UInt8)} {v a : List UInt8} {k : Nat} {f : Fi} (hf : fs[k]? = some f) (h : ¬ foldD v a <+: f.p) (x : List UInt8) : gK fs F v a k x = gK fs F v a (k + 1) x := by
  unfold gK
  rw [at_take_snoc hf, decide_eq_false (not_in h), Bool.or_false]
theorem gK_had {fs : List Fi} {F : List (List UInt8 × List UInt8)} {v a y : List UInt8} {k : Nat} {f : Fi} (hf : fs[k]? = some f) (hp : f.p = dropP a v y) (hy : gK fs F v a k y ≠ []) (x : List UInt8) : gK fs F v a k x = gK fs F v a (k + 1) x := by
  unfold gK at hy ⊢
  rw [at_take_snoc hf]
  by_cases hxy : y = x
  · subst hxy
    by_cases hw : whrL fs F y = []
    · rw [if_neg (by simp [hw])] at hy
      have : (atL (fs.take k) (dropP a v y)).isSome = true := by
        rcases h : (atL (fs.take k) (dropP a v y)).isSome with _ | _
        · rw [h] at hy; exact absurd rfl hy
        · rfl
      rw [this]
      rfl
    · rw [if_pos hw, if_pos hw]
  · rw [decide_eq_false (by rw [hp]; exact fun e => hxy (dropP_inj e)), Bool.or_false]
theorem gK_put {fs : List Fi} {F : List (List UInt8 × List UInt8)} {v a y : List UInt8} {k : Nat} {f : Fi} (hf : fs[k]? = some f) (hp : f.p = dropP a v y) (hy : gK fs F v a k y = []) (x : List UInt8) : (if y = x then f.p else gK fs F v a k x) = gK fs F v a (k + 1) x := by
  unfold gK at hy ⊢
  rw [at_take_snoc hf]
  by_cases hxy : y = x
  · subst hxy
    rw [if_pos rfl]
    by_cases hw : whrL fs F y = []
    · rw [if_neg (by simp [hw]), hp]
      simp
    · rw [if_pos hw] at hy
      exact absurd hy hw
  · rw [if_neg hxy, decide_eq_false (by rw [hp]; exact fun e => hxy (dropP_inj e)), Bool.or_false]
variable (N) in
def sixF (n : List UInt8) : List (List UInt8 × List UInt8) := plc.map (fun a => (n, a)) ++ plc.map (fun a => (N.tmpl n, a))
variable (M : NmsMore N)
theorem whr_six (O : NmsOk N) (M : NmsMore N) {fs : List Fi} (hm : mayL N fs = true) (n x : List UInt8) : whrL fs (sixF N n) x = whereL N fs n x := by
  unfold whrL whereL sixF foldsL
  rcases hi : N.isI n with _ | _
  · rw [if_neg (by simp), M.tmplNo n hi, List.map_append, List.map_map, List.map_map, List.find?_append]
    have h2 : (plc.map ((fun z : List UInt8 × List UInt8 => dropP z.2 z.1 x) ∘ fun a => (([] : List UInt8), a))).find? (fun p => (atL fs p).isSome) = none := by
      rw [List.find?_eq_none]
      intro p hp
      obtain ⟨a, ha, rfl⟩ := List.mem_map.1 hp
      rcases he : atL fs (dropP a [] x) with _ | f
      · show ¬ (atL fs (dropP a [] x)).isSome = true
        rw [he]; simp
      · exfalso
        obtain ⟨h1, h2⟩ := at_mem he
        obtain ⟨y, _, hw, _⟩ := in_drops O ((may_parts.1 hm).2.1 f h1) (a := a) (v := []) ha ⟨x ++ dotC, by rw [foldD_drop, h2]⟩
        have hg := (path_two (N := N) (p := f.p) (by rw [hw])).2.1
        rw [hw] at hg
        exact O.ne _ hg rfl
    rw [h2, Option.or_none]
    simp [Function.comp_def]
  · rw [if_pos rfl, List.map_append, List.map_map, List.map_map]
    simp [Function.comp_def]
theorem six_has (O : NmsOk N) (M : NmsMore N) {fs : List Fi} (hm : mayL N fs = true) (n x : List UInt8) : whrL fs (sixF N n) x ≠ [] ↔ x ∈ xsL N fs n := by
  have hmay := (may_parts.1 hm).2.1
  constructor
  · intro h
    unfold whrL at h
    rcases hf : ((sixF N n).map (fun z => dropP z.2 z.1 x)).find? (fun p => (atL fs p).isSome) with _ | p
    · rw [hf] at h; exact absurd rfl h
    · have h1 := List.find?_some hf
      obtain ⟨z, hz, hzp⟩ := List.mem_map.1 (List.mem_of_find?_eq_some hf)
      rcases he : atL fs p with _ | f
      · rw [he] at h1; cases h1
      · obtain ⟨g1, g2⟩ := at_mem he
        have ha : z.2 ∈ plc ∧ (z.1 = n ∨ z.1 = N.tmpl n) := by
          rcases List.mem_append.1 hz with hz | hz
          · obtain ⟨a, ha, rfl⟩ := List.mem_map.1 hz; exact ⟨ha, .inl rfl⟩
          · obtain ⟨a, ha, rfl⟩ := List.mem_map.1 hz; exact ⟨ha, .inr rfl⟩
        obtain ⟨y, hy, hw, _⟩ := in_drops O (hmay f g1) ha.1 (v := z.1) ⟨x ++ dotC, by rw [foldD_drop, g2, ← hzp]⟩
        have hxy : x = y := by
          rw [g2, ← hzp] at hy
          exact dropP_inj hy
        subst hxy
        have hg := (path_two (N := N) (p := f.p) (by rw [hw])).2.1
        rw [hw] at hg
        refine xs_mem.2 ⟨f, g1, by rw [hw], ?_, by rw [hw]⟩
        rw [hw]
        unfold foldsL
        rcases ha.2 with e | e
        · show z.1 ∈ _
          rw [e]
          split <;> simp
        · show z.1 ∈ _
          rcases hi : N.isI n with _ | _
          · rw [M.tmplNo n hi] at e
            exact absurd e (O.ne _ hg)
          · rw [if_pos rfl, e]; simp
  · intro h e
    obtain ⟨f, hf, h1, h2, h3⟩ := xs_mem.1 h
    obtain ⟨p1, p2, p3, p4⟩ := path_two h1
    have hn := whr_none e
    rw [List.find?_eq_none] at hn
    rw [h3] at p4
    have hin : f.p ∈ (sixF N n).map (fun z => dropP z.2 z.1 x) := by
      refine List.mem_map.2 ⟨((pathW N f.p).u, (pathW N f.p).pl), ?_, p4.symm⟩
      unfold sixF
      unfold foldsL at h2
      split at h2
      · rcases List.mem_cons.1 h2 with h2 | h2
        · rw [h2]; exact List.mem_append.2 (.inl (List.mem_map.2 ⟨_, p1, rfl⟩))
        · rw [List.mem_singleton.1 h2]; exact List.mem_append.2 (.inr (List.mem_map.2 ⟨_, p1, rfl⟩))
      · rw [List.mem_singleton.1 h2]; exact List.mem_append.2 (.inl (List.mem_map.2 ⟨_, p1, rfl⟩))
    refine hn f.p hin ?_
    rcases he : atL fs f.p with _ | g
    · exact absurd rfl (at_none.1 he f hf)
    · rfl
theorem drops_eq (O : NmsOk N) (M : NmsMore N) {fs : List Fi} (hm : mayL N fs = true) (n : List UInt8) {l : List (List UInt8)} (hl : rises l) (hx : ∀ x, x ∈ l ↔ whrL fs (sixF N n) x ≠ []) : l.map (whrL fs (sixF N n)) = dropsL N fs n := by
  have : l = xsL N fs n := rise_ext hl (xs_rises fs n) fun x => by rw [hx, six_has O M hm]
  rw [drops_xs, ← this]
  exact List.map_congr_left fun x _ => whr_six O M hm n x
end
end Go.Proofs.YthodbeeglkedcaaGreat
