/- Files in places, on plain lists: paths, which files may be, what a name has, links. It speaks of no code. -/
import Derived.Test.YthodbeeglkedcaaGreatDzaa
namespace Go.Proofs.YthodbeeglkedcaaGreat
structure Fi where
  p : List UInt8
  t : List UInt8
  l : List UInt8
deriving DecidableEq
structure Nms where
  good : List UInt8 → Bool
  kind : List UInt8 → Int
  isT : List UInt8 → Bool
  isI : List UInt8 → Bool
  tmpl : List UInt8 → List UInt8
  inst : List UInt8 → List UInt8
  ins : List UInt8 → List UInt8 → Option (List UInt8)
structure Wy where
  k : Int
  pl : List UInt8
  u : List UInt8
  o : List UInt8
deriving DecidableEq
def noWy : Wy := ⟨0, [], [], []⟩
def plc : List (List UInt8) := [[101, 116, 99], [114, 117, 110], [108, 105, 98]]
def dotD : List UInt8 := [46, 100]
def dotW : List UInt8 := [46, 119, 97, 110, 116, 115]
def dotR : List UInt8 := [46, 114, 101, 113, 117, 105, 114, 101, 115]
def dotC : List UInt8 := [46, 99, 111, 110, 102]
def nulL : List UInt8 := [110, 117, 108, 108]
def endsL (w s : List UInt8) : Option (List UInt8) := if w.length < s.length ∧ s.drop (s.length - w.length) = w then some (s.take (s.length - w.length)) else none
def dropB (c : UInt8) : Bool := decide (97 ≤ c.toNat ∧ c.toNat ≤ 122 ∨ 65 ≤ c.toNat ∧ c.toNat ≤ 90 ∨ 48 ≤ c.toNat ∧ c.toNat ≤ 57 ∨ c.toNat = 45 ∨ c.toNat = 95)
def dropN (s : List UInt8) : Bool := decide (1 ≤ s.length ∧ s.length ≤ 20) && s.all dropB
theorem ends_app {w s : List UInt8} (h : s ≠ []) : endsL w (s ++ w) = some s := by
  have hp := List.length_pos_iff.2 h
  unfold endsL
  rw [if_pos ⟨by rw [List.length_append]; omega, by rw [List.length_append, Nat.add_sub_cancel, List.drop_left']; rfl⟩, List.length_append, Nat.add_sub_cancel, List.take_left' rfl]
theorem ends_inv {w s u : List UInt8} (h : endsL w s = some u) : s = u ++ w ∧ u ≠ [] := by
  unfold endsL at h
  split at h
  · rename_i hc
    obtain ⟨h1, h2⟩ := hc
    injection h with h
    refine ⟨?_, ?_⟩
    · rw [← h]
      conv => lhs; rw [← List.take_append_drop (s.length - w.length) s]
      rw [h2]
    · intro e
      rw [e] at h
      have := congrArg List.length h
      rw [List.length_take] at this
      simp at this
      omega
  · cases h
def glue (b : UInt8) : List (List UInt8) → List UInt8
  | [] => []
  | [x] => x
  | x :: y :: r => x ++ b :: glue b (y :: r)
theorem sgo_glue (b : UInt8) (l w : List UInt8) : glue b (sgo b w l) = w ++ l ∧ sgo b w l ≠ [] := by
  induction l generalizing w with
  | nil => simp [sgo, glue]
  | cons c l ih =>
    rw [sgo]
    split
    · rename_i h
      obtain ⟨h1, h2⟩ := ih []
      refine ⟨?_, by simp⟩
      match hs : sgo b [] l, h2 with
      | y :: r, _ =>
        rw [glue, ← hs, h1, h]
        simp
    · obtain ⟨h1, h2⟩ := ih (w ++ [c])
      exact ⟨by rw [h1]; simp, h2⟩
theorem split_glue (b : UInt8) (l : List UInt8) : glue b (splitL b l) = l := by
  have := (sgo_glue b l []).1
  simpa [splitL] using this
section
variable (N : Nms)
def conf (a u c : List UInt8) : Wy := match endsL dotC c with
  | some x => if dropN x = true then ⟨2, a, u, x⟩ else ⟨0, a, u, []⟩
  | none => ⟨0, a, u, []⟩
def wishW (k : Int) (w : Wy) (u c : List UInt8) : Wy := if N.good c = true ∧ N.isT c = false then ⟨k, w.pl, u, c⟩ else ⟨w.k, w.pl, u, w.o⟩
def wy0 (a : List UInt8) : Wy := ⟨0, a, [], []⟩
def wy1 (a b c : List UInt8) : Wy := match endsL dotD b with
  | some u => if N.good u = true then conf a u c else wy0 a
  | none => wy0 a
def wy2 (a b c : List UInt8) : Wy := match endsL dotW b with
  | some u => if N.good u = true then wishW N 3 (wy1 N a b c) u c else wy1 N a b c
  | none => wy1 N a b c
def wy3 (a b c : List UInt8) : Wy := match endsL dotR b with
  | some u => if N.good u = true then wishW N 4 (wy2 N a b c) u c else wy2 N a b c
  | none => wy2 N a b c
def pathW (s : List UInt8) : Wy := match splitL 47 s with
  | [a, b] => if a ∈ plc ∧ N.good b = true then ⟨1, a, b, []⟩ else noWy
  | [a, b, c] => if a ∈ plc then (if (wy3 N a b c).k = 0 then noWy else wy3 N a b c) else noWy
  | _ => noWy
theorem ends_other {v w s u : List UInt8} (h : endsL v s = some u) (hl : v ≠ []) (hn : v.getLast? ≠ w.getLast?) (hw : w ≠ []) : endsL w s = none := by
  obtain ⟨h1, _⟩ := ends_inv h
  rcases he : endsL w s with _ | x
  · rfl
  · obtain ⟨h2, _⟩ := ends_inv he
    rw [h1] at h2
    have := congrArg List.getLast? h2
    have q : ∀ (x l : List UInt8), l ≠ [] → (x ++ l).getLast? = l.getLast? := fun x l h => by
      rw [List.getLast?_append]
      cases hl : l.getLast? with
      | none => exact absurd (List.getLast?_eq_none_iff.1 hl) h
      | some z => rfl
    rw [q _ _ hl, q _ _ hw] at this
    exact absurd this hn
theorem ends_longer {u s : List UInt8} (h : endsL dotR s = some u) : endsL dotW s = none := by
  obtain ⟨h1, _⟩ := ends_inv h
  rcases he : endsL dotW s with _ | x
  · rfl
  · obtain ⟨h2, _⟩ := ends_inv he
    rw [h1] at h2
    have := congrArg (fun l => l.reverse.take 6) h2
    simp [dotR, dotW] at this
theorem wy_D {a b c u : List UInt8} (h : endsL dotD b = some u) (hg : N.good u = true) : wy3 N a b c = conf a u c := by
  have h1 : endsL dotW b = none := ends_other h (by decide) (by decide) (by decide)
  have h2 : endsL dotR b = none := ends_other h (by decide) (by decide) (by decide)
  simp [wy1, wy2, wy3, h, h1, h2, hg]
theorem wy_W {a b c u : List UInt8} (h : endsL dotW b = some u) (hg : N.good u = true) : wy3 N a b c = wishW N 3 ⟨0, a, [], []⟩ u c := by
  have h1 : endsL dotD b = none := ends_other h (by decide) (by decide) (by decide)
  have h2 : endsL dotR b = none := by
    rcases he : endsL dotR b with _ | x
    · rfl
    · rw [ends_longer he] at h; cases h
  simp [wy1, wy2, wy3, wy0, h, h1, h2, hg]
theorem wy_R {a b c u : List UInt8} (h : endsL dotR b = some u) (hg : N.good u = true) : wy3 N a b c = wishW N 4 ⟨0, a, [], []⟩ u c := by
  have h1 : endsL dotD b = none := ends_other h (by decide) (by decide) (by decide)
  have h2 : endsL dotW b = none := ends_longer h
  simp [wy1, wy2, wy3, wy0, h, h1, h2, hg]
theorem wy_no {a b c : List UInt8} (h1 : ∀ u, endsL dotD b = some u → N.good u = false) (h2 : ∀ u, endsL dotW b = some u → N.good u = false) (h3 : ∀ u, endsL dotR b = some u → N.good u = false) : wy3 N a b c = ⟨0, a, [], []⟩ := by
  have e1 : wy1 N a b c = ⟨0, a, [], []⟩ := by
    unfold wy1
    split
    · rename_i u hu; rw [h1 u hu]; rfl
    · rfl
  have e2 : wy2 N a b c = ⟨0, a, [], []⟩ := by
    unfold wy2
    split
    · rename_i u hu; rw [h2 u hu]; exact e1
    · exact e1
  unfold wy3
  split
  · rename_i u hu; rw [h3 u hu]; exact e2
  · exact e2
inductive Wish (a b c : List UInt8) : Wy → Prop
  | drop (u x : List UInt8) : b = u ++ dotD → c = x ++ dotC → N.good u = true → dropN x = true → Wish a b c ⟨2, a, u, x⟩
  | want (u : List UInt8) : b = u ++ dotW → N.good u = true → N.good c = true → N.isT c = false → Wish a b c ⟨3, a, u, c⟩
  | need (u : List UInt8) : b = u ++ dotR → N.good u = true → N.good c = true → N.isT c = false → Wish a b c ⟨4, a, u, c⟩
theorem wish_of {a b c : List UInt8} (h : (wy3 N a b c).k ≠ 0) : Wish N a b c (wy3 N a b c) := by
  by_cases h1 : ∃ u, endsL dotD b = some u ∧ N.good u = true
  · obtain ⟨u, hu, hg⟩ := h1
    rw [wy_D N hu hg] at h ⊢
    unfold conf at h ⊢
    split at h
    · rename_i x hx
      split at h
      · rename_i hd
        rw [if_pos hd]
        exact .drop u x (ends_inv hu).1 (ends_inv hx).1 hg hd
      · simp at h
    · simp at h
  · by_cases h2 : ∃ u, endsL dotW b = some u ∧ N.good u = true
    · obtain ⟨u, hu, hg⟩ := h2
      rw [wy_W N hu hg] at h ⊢
      unfold wishW at h ⊢
      split at h
      · rename_i hc
        rw [if_pos hc]
        exact .want u (ends_inv hu).1 hg hc.1 hc.2
      · simp at h
    · by_cases h3 : ∃ u, endsL dotR b = some u ∧ N.good u = true
      · obtain ⟨u, hu, hg⟩ := h3
        rw [wy_R N hu hg] at h ⊢
        unfold wishW at h ⊢
        split at h
        · rename_i hc
          rw [if_pos hc]
          exact .need u (ends_inv hu).1 hg hc.1 hc.2
        · simp at h
      · rw [wy_no N (fun u hu => by simpa using fun hg => h1 ⟨u, hu, hg⟩) (fun u hu => by simpa using fun hg => h2 ⟨u, hu, hg⟩) (fun u hu => by simpa using fun hg => h3 ⟨u, hu, hg⟩)] at h
        simp at h
end
structure NmsOk (N : Nms) : Prop where
  slash : ∀ u, N.good u = true → (47 : UInt8) ∉ u
  ne : ∀ u, N.good u = true → u ≠ []
  short : ∀ u, N.good u = true → u.length ≤ 60
  null : N.good nulL = false
  kind : ∀ u, (0 < N.kind u ↔ N.good u = true)
  tmpl : ∀ u, N.isI u = true → N.good u = true → N.good (N.tmpl u) = true
  ins : ∀ t i s, N.ins t i = some s → N.good s = true ∧ N.isI s = true ∧ N.tmpl s = t ∧ N.isT s = false ∧ N.good t = true ∧ N.isI t = false
section
variable {N : Nms} (O : NmsOk N)
theorem plc_clean {a : List UInt8} (h : a ∈ plc) : (47 : UInt8) ∉ a := by
  simp [plc] at h
  rcases h with rfl | rfl | rfl <;> decide
theorem drop_clean {x : List UInt8} (h : dropN x = true) : (47 : UInt8) ∉ x := by
  intro h47
  unfold dropN at h
  rw [Bool.and_eq_true] at h
  have := List.all_eq_true.1 h.2 47 h47
  simp [dropB] at this
inductive PathIs (N : Nms) (p : List UInt8) : Wy → Prop
  | none : PathIs N p noWy
  | own (a u : List UInt8) : a ∈ plc → N.good u = true → p = a ++ 47 :: u → PathIs N p ⟨1, a, u, []⟩
  | drop (a u x : List UInt8) : a ∈ plc → N.good u = true → dropN x = true → p = a ++ 47 :: (u ++ dotD ++ 47 :: (x ++ dotC)) → PathIs N p ⟨2, a, u, x⟩
  | want (a u v : List UInt8) : a ∈ plc → N.good u = true → N.good v = true → N.isT v = false → p = a ++ 47 :: (u ++ dotW ++ 47 :: v) → PathIs N p ⟨3, a, u, v⟩
  | need (a u v : List UInt8) : a ∈ plc → N.good u = true → N.good v = true → N.isT v = false → p = a ++ 47 :: (u ++ dotR ++ 47 :: v) → PathIs N p ⟨4, a, u, v⟩
theorem path_is (N : Nms) (p : List UInt8) : PathIs N p (pathW N p) := by
  have hg := split_glue 47 p
  unfold pathW
  split
  · rename_i a b hs
    rw [hs] at hg
    split
    · rename_i h
      exact .own a b h.1 h.2 hg.symm
    · exact .none
  · rename_i a b c hs
    rw [hs] at hg
    split
    · rename_i ha
      split
      · exact .none
      · rename_i hk
        have hg' : p = a ++ 47 :: (b ++ 47 :: c) := hg.symm
        generalize hw : wy3 N a b c = w at hk
        have := wish_of N (a := a) (b := b) (c := c) (by rw [hw]; exact hk)
        rw [hw] at this
        cases this with
        | drop u x e1 e2 g1 g2 => exact .drop a u x ha g1 g2 (by rw [hg', e1, e2])
        | want u e1 g1 g2 g3 => exact .want a u c ha g1 g2 g3 (by rw [hg', e1])
        | need u e1 g1 g2 g3 => exact .need a u c ha g1 g2 g3 (by rw [hg', e1])
    · exact .none
  · exact .none
end
section
variable (N : Nms)
def mayF (f : Fi) : Bool :=
  decide (f.t.length ≤ 20000) && !(decide (f.t ≠ []) && decide (f.l ≠ [])) &&
  (let w := pathW N f.p
   if w.k = 1 then decide (f.l = []) || decide (f.l = nulL) || (decide (N.kind f.l = N.kind w.u) && decide (N.isT w.u = N.isT f.l))
   else if w.k = 2 then decide (f.l = [])
   else if w.k = 3 ∨ w.k = 4 then decide (0 < N.kind f.l)
   else false)
def mayL (fs : List Fi) : Bool := decide (fs.length ≤ 120) && fs.all (mayF N) && decide ((fs.map (·.p)).Nodup)
def atL (fs : List Fi) (p : List UInt8) : Option Fi := fs.find? (fun f => decide (f.p = p))
def firstL (fs : List Fi) (u : List UInt8) : Option Fi := plc.findSome? (fun a => atL fs (a ++ 47 :: u))
end
def addGo (s : List UInt8) : Bool → List (List UInt8) → List (List UInt8)
  | put, [] => if put = true then [] else [s]
  | put, x :: l => (if put = false ∧ (s < x ∨ s = x) then [s] else []) ++ (if x = s then [] else [x]) ++ addGo s (put || decide (s < x ∨ s = x)) l
def addL (l : List (List UInt8)) (s : List UInt8) : List (List UInt8) := addGo s false l
def rises (l : List (List UInt8)) : Prop := l.Pairwise (· < ·)
theorem addGo_mem (s : List UInt8) (put : Bool) (l : List (List UInt8)) (x : List UInt8) : x ∈ addGo s put l ↔ (x = s ∧ (put = false)) ∨ (x ≠ s ∧ x ∈ l) := by
  induction l generalizing put with
  | nil => cases put <;> simp [addGo]
  | cons y l ih =>
    rw [addGo, List.mem_append, List.mem_append, ih]
    cases put
    · by_cases h : s < y ∨ s = y
      · by_cases hy : y = s
        · subst hy; simp; by_cases hx : x = y <;> simp [hx]
        · simp [h, hy]
          by_cases hx : x = s
          · simp [hx]
          · simp [hx]
      · have hy : y ≠ s := fun e => h (.inr e.symm)
        simp [h, hy]
        by_cases hx : x = s
        · subst hx; simp
        · simp [hx]
    · by_cases hy : y = s
      · subst hy; simp; by_cases hx : x = y <;> simp [hx]
      · simp [hy]
        by_cases hx : x = s
        · subst hx; simp; exact fun e => hy e.symm
        · simp [hx]
theorem add_mem {l : List (List UInt8)} {s x : List UInt8} : x ∈ addL l s ↔ x = s ∨ x ∈ l := by
  unfold addL
  rw [addGo_mem]
  by_cases h : x = s <;> simp [h]
theorem ltL_irrefl (a : List UInt8) : ¬ a < a := List.lt_irrefl a
theorem ltL_trans {a b c : List UInt8} (h : a < b) (k : b < c) : a < c := List.lt_trans h k
theorem ltL_tri (a b : List UInt8) : a < b ∨ a = b ∨ b < a := by
  rcases List.le_total a b with h | h
  · by_cases e : b < a
    · exact .inr (.inr e)
    · by_cases h2 : a < b
      · exact .inl h2
      · exact .inr (.inl (List.le_antisymm e h2))
  · by_cases e : a < b
    · exact .inl e
    · by_cases h2 : b < a
      · exact .inr (.inr h2)
      · exact .inr (.inl (List.le_antisymm h2 e))
theorem addGo_rises (s : List UInt8) (put : Bool) (l : List (List UInt8)) (h : rises l) (hp : put = true → ∀ x ∈ l, s < x ∨ s = x) : rises (addGo s put l) := by
  induction l generalizing put with
  | nil => cases put <;> simp [addGo, rises]
  | cons y l ih =>
    obtain ⟨h1, h2⟩ := List.pairwise_cons.1 h
    by_cases hs : s < y ∨ s = y
    · have hl : ∀ x ∈ l, s < x := fun x hx => by
        rcases hs with hs | rfl
        · exact ltL_trans hs (h1 x hx)
        · exact h1 x hx
      have hk : addGo s true l = l := by
        clear ih h h1 h2 hp
        induction l with
        | nil => rfl
        | cons z l ih2 =>
          have hz : z ≠ s := by rintro rfl; exact ltL_irrefl _ (hl z (by simp))
          rw [addGo]
          simp [hz]
          exact ih2 (fun x hx => hl x (by simp [hx]))
      rw [addGo]
      have e : (put || decide (s < y ∨ s = y)) = true := by simp [hs]
      rw [e, hk]
      have hle : rises ((if y = s then [] else [y]) ++ l) := by
        by_cases hy : y = s
        · rw [if_pos hy]; exact h2
        · rw [if_neg hy]; exact h
      by_cases hput : put = false ∧ (s < y ∨ s = y)
      · rw [if_pos hput, List.append_assoc]
        refine List.pairwise_cons.2 ⟨fun x hx => ?_, hle⟩
        rcases List.mem_append.1 (show x ∈ (if y = s then [] else [y]) ++ l from hx) with hx | hx
        · by_cases hy : y = s
          · rw [if_pos hy] at hx; cases hx
          · rw [if_neg hy] at hx
            simp at hx
            subst hx
            rcases hs with hs | hs
            · exact hs
            · exact absurd hs.symm hy
        · exact hl x hx
      · rw [if_neg hput]
        exact hle
    · have hput : put = false := by
        cases put with
        | false => rfl
        | true => exact absurd (hp rfl y (by simp)) hs
      have hy : y ≠ s := fun e => hs (.inr e.symm)
      subst hput
      rw [addGo]
      simp [hs, hy]
      refine List.pairwise_cons.2 ⟨fun x hx => ?_, ih false h2 (by simp)⟩
      rcases (addGo_mem s false l x).1 hx with ⟨rfl, _⟩ | ⟨_, hx⟩
      · rcases ltL_tri x y with h' | h' | h'
        · exact absurd (.inl h') hs
        · exact absurd (.inr h') hs
        · exact h'
      · exact h1 x hx
theorem add_rises {l : List (List UInt8)} {s : List UInt8} (h : rises l) : rises (addL l s) := addGo_rises s false l h (by simp)
theorem rise_ext {a b : List (List UInt8)} (ha : rises a) (hb : rises b) (h : ∀ x, x ∈ a ↔ x ∈ b) : a = b := by
  induction a generalizing b with
  | nil =>
    cases b with
    | nil => rfl
    | cons y b => exact absurd ((h y).2 (by simp)) (by simp)
  | cons x a ih =>
    cases b with
    | nil => exact absurd ((h x).1 (by simp)) (by simp)
    | cons y b =>
      obtain ⟨a1, a2⟩ := List.pairwise_cons.1 ha
      obtain ⟨b1, b2⟩ := List.pairwise_cons.1 hb
      have e : x = y := by
        rcases List.mem_cons.1 ((h x).1 (by simp)) with e | e
        · exact e
        · rcases List.mem_cons.1 ((h y).2 (by simp)) with e2 | e2
          · exact e2.symm
          · exact absurd (ltL_trans (b1 x e) (a1 y e2)) (ltL_irrefl _)
      subst e
      rw [ih a2 b2 (fun z => ?_)]
      constructor
      · intro hz
        rcases List.mem_cons.1 ((h z).1 (by simp [hz])) with e | e
        · exact absurd (a1 z hz) (by rw [e]; exact ltL_irrefl _)
        · exact e
      · intro hz
        rcases List.mem_cons.1 ((h z).2 (by simp [hz])) with e | e
        · exact absurd (b1 z hz) (by rw [e]; exact ltL_irrefl _)
        · exact e
def takeL (q : Wy → Bool) (N : Nms) (l : List (List UInt8)) (fs : List Fi) : List (List UInt8) := fs.foldl (fun l f => if q (pathW N f.p) = true then addL l (pathW N f.p).o else l) l
theorem take_mem (q : Wy → Bool) (N : Nms) (fs : List Fi) (l : List (List UInt8)) (x : List UInt8) : x ∈ takeL q N l fs ↔ x ∈ l ∨ ∃ f ∈ fs, q (pathW N f.p) = true ∧ (pathW N f.p).o = x := by
  induction fs generalizing l with
  | nil => simp [takeL]
  | cons f fs ih =>
    have e : takeL q N l (f :: fs) = takeL q N (if q (pathW N f.p) = true then addL l (pathW N f.p).o else l) fs := rfl
    rw [e, ih]
    by_cases h : q (pathW N f.p) = true
    · rw [if_pos h, add_mem]
      constructor
      · rintro ((rfl | hx) | ⟨g, hg, h1, h2⟩)
        · exact .inr ⟨f, by simp, h, rfl⟩
        · exact .inl hx
        · exact .inr ⟨g, by simp [hg], h1, h2⟩
      · rintro (hx | ⟨g, hg, h1, h2⟩)
        · exact .inl (.inr hx)
        · rcases List.mem_cons.1 hg with rfl | hg
          · exact .inl (.inl h2.symm)
          · exact .inr ⟨g, hg, h1, h2⟩
    · rw [if_neg h]
      constructor
      · rintro (hx | ⟨g, hg, h1, h2⟩)
        · exact .inl hx
        · exact .inr ⟨g, by simp [hg], h1, h2⟩
      · rintro (hx | ⟨g, hg, h1, h2⟩)
        · exact .inl hx
        · rcases List.mem_cons.1 hg with rfl | hg
          · exact absurd h1 h
          · exact .inr ⟨g, hg, h1, h2⟩
theorem take_rises (q : Wy → Bool) (N : Nms) (fs : List Fi) (l : List (List UInt8)) (h : rises l) : rises (takeL q N l fs) := by
  induction fs generalizing l with
  | nil => exact h
  | cons f fs ih =>
    have e : takeL q N l (f :: fs) = takeL q N (if q (pathW N f.p) = true then addL l (pathW N f.p).o else l) fs := rfl
    rw [e]
    refine ih _ ?_
    split
    · exact add_rises h
    · exact h
section
variable (N : Nms)
def foldsL (u : List UInt8) : List (List UInt8) := if N.isI u = true then [u, N.tmpl u] else [u]
def dropP (a u x : List UInt8) : List UInt8 := a ++ 47 :: (u ++ dotD ++ 47 :: (x ++ dotC))
def whereL (fs : List Fi) (u x : List UInt8) : List UInt8 := ((foldsL N u).flatMap fun v => plc.map fun a => dropP a v x).find? (fun p => (atL fs p).isSome) |>.getD []
def dropsL (fs : List Fi) (u : List UInt8) : List (List UInt8) := (takeL (fun w => decide (w.k = 2) && decide (w.u ∈ foldsL N u)) N [] fs).map (whereL N fs u)
def linksL (k : Int) (fs : List Fi) (u : List UInt8) : List (List UInt8) := if mayL N fs = true then takeL (fun w => decide (w.k = k) && decide (w.u = u)) N [] fs else []
structure Fd where
  n : List UInt8
  p : List UInt8
  m : Bool
  d : List (List UInt8)
deriving DecidableEq
def noFd : Fd := ⟨[], [], false, []⟩
def stepF (fs : List Fi) (n : List UInt8) : Option (Fi × Bool) := match firstL fs n with
  | some f => some (f, true)
  | none => if N.isI n = true then (firstL fs (N.tmpl n)).map (·, false) else none
def roundF (d : List (List UInt8)) (asked : List (List UInt8)) (n : List UInt8) : Option (Fi × Bool) → (Fd × Int) ⊕ List UInt8
  | none => .inl (noFd, if asked.length = 1 then 6 else 17)
  | some (f, own) =>
    if f.l = [] then .inl (⟨n, f.p, false, d⟩, 0) else if f.l = nulL then .inl (⟨n, f.p, true, []⟩, 0) else
    match (if own = true then some f.l else N.ins f.l (N.inst n)) with
    | none => .inl (noFd, 17)
    | some x => if x ∈ asked ∨ 8 < asked.length then .inl (noFd, 17) else .inr x
def findGo (fs : List Fi) : Nat → List (List UInt8) → List UInt8 → Fd × Int
  | 0, _, _ => (noFd, 17)
  | k + 1, asked, n => match roundF N (dropsL N fs n) asked n (stepF N fs n) with
    | .inl r => r
    | .inr x => findGo fs k (asked ++ [x]) x
def findL (fs : List Fi) (u : List UInt8) : Fd × Int :=
  if mayL N fs = false then (noFd, 1) else if N.good u = false then (noFd, 5) else findGo N fs 9 [u] u
end
end Go.Proofs.YthodbeeglkedcaaGreat
