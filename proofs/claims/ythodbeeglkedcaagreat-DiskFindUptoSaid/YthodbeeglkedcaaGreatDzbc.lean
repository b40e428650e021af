/- Files in places, on plain lists: the program's road to which files may be, and to links. It speaks of no code. -/
import Derived.Test.YthodbeeglkedcaaGreatDzaj
namespace Go.Proofs.YthodbeeglkedcaaGreat
def cutD (c : UInt8) : List UInt8 → List UInt8 × List UInt8 × Bool
  | [] => ([], [], false)
  | x :: r => if x = c then ([], r, true) else (x :: (cutD c r).1, (cutD c r).2.1, (cutD c r).2.2)
theorem cutD_no {c : UInt8} {l : List UInt8} (h : c ∉ l) : cutD c l = (l, [], false) := by
  induction l with
  | nil => rfl
  | cons x l ih =>
    rw [List.mem_cons, not_or] at h
    rw [cutD, if_neg (fun e => h.1 e.symm), ih h.2]
theorem cutD_yes {c : UInt8} {l : List UInt8} (h : c ∉ l) (r : List UInt8) : cutD c (l ++ c :: r) = (l, r, true) := by
  induction l with
  | nil => simp [cutD]
  | cons x l ih =>
    rw [List.mem_cons, not_or] at h
    rw [List.cons_append, cutD, if_neg (fun e => h.1 e.symm), ih h.2]
theorem at_first {c : UInt8} {l : List UInt8} (h : c ∈ l) : ∃ a r, c ∉ a ∧ l = a ++ c :: r := by
  induction l with
  | nil => cases h
  | cons x l ih =>
    by_cases e : x = c
    · exact ⟨[], l, by simp, by rw [e]; rfl⟩
    · rcases List.mem_cons.1 h with h | h
      · exact absurd h.symm e
      · obtain ⟨a, r, h1, h2⟩ := ih h
        exact ⟨x :: a, r, by simp; exact ⟨fun e' => e e'.symm, h1⟩, by rw [h2]; rfl⟩
theorem one_slash {x y b c : List UInt8} (hx : (47 : UInt8) ∉ x) (hy : (47 : UInt8) ∉ y) (h : x ++ 47 :: y = b ++ 47 :: c) : b = x ∧ c = y := by
  rcases List.append_eq_append_iff.1 h with ⟨k, h1, h2⟩ | ⟨k, h1, h2⟩
  · cases k with
    | nil =>
      rw [List.append_nil] at h1
      injection h2 with _ h2
      exact ⟨h1, h2.symm⟩
    | cons z k =>
      injection h2 with h2 h3
      exact absurd (by rw [h3]; simp) hy
  · cases k with
    | nil =>
      rw [List.append_nil] at h1
      injection h2 with _ h2
      exact ⟨h1.symm, h2⟩
    | cons z k =>
      injection h2 with h2 h3
      exact absurd (by rw [h1, ← h2]; simp) hx
theorem dot_clean {w u : List UInt8} (hu : (47 : UInt8) ∉ u) (hw : (47 : UInt8) ∉ w) : (47 : UInt8) ∉ u ++ w := by
  rw [List.mem_append, not_or]; exact ⟨hu, hw⟩
theorem dotD_clean : (47 : UInt8) ∉ dotD := by decide
theorem dotW_clean : (47 : UInt8) ∉ dotW := by decide
theorem dotR_clean : (47 : UInt8) ∉ dotR := by decide
theorem dotC_clean : (47 : UInt8) ∉ dotC := by decide
def IsPt (b : List UInt8) (k : Nat) : Prop := (46 ∉ b ∧ k = 0) ∨ ∃ u v, b = u ++ 46 :: v ∧ 46 ∉ v ∧ k = u.length
section
variable (N : Nms)
def unitF (f : Fi) (u : List UInt8) : Bool :=
  if N.good u = false then false else if f.l = [] then true else if f.t ≠ [] then false else if f.l = nulL then true else decide (N.kind f.l = N.kind u) && decide (N.isT f.l = N.isT u)
def dropIn (c : List UInt8) : Bool := decide (dotC <:+ c) && dropN (c.take (c.length - 5))
def deepF (f : Fi) (b c : List UInt8) (k : Nat) : Bool :=
  if N.good (b.take k) = false then false
  else if b.drop k = dotD then dropIn c && decide (f.l = [])
  else if b.drop k = dotW ∨ b.drop k = dotR then N.good c && !N.isT c && decide (f.t = []) && N.good f.l
  else false
def soundF (f : Fi) (pt : List UInt8 → Nat) : Bool :=
  if 20000 < f.t.length ∨ (cutD 47 f.p).1 ∉ plc then false
  else if (cutD 47 (cutD 47 f.p).2.1).2.2 = false then unitF N f (cutD 47 f.p).2.1
  else deepF N f (cutD 47 (cutD 47 f.p).2.1).1 (cutD 47 (cutD 47 f.p).2.1).2.1 (pt (cutD 47 (cutD 47 f.p).2.1).1)
theorem dropIn_conf {c : List UInt8} : (∃ x, endsL dotC c = some x ∧ dropN x = true) ↔ dropIn c = true := by
  unfold dropIn
  rw [Bool.and_eq_true, decide_eq_true_eq]
  constructor
  · rintro ⟨x, h1, h2⟩
    obtain ⟨h3, h4⟩ := ends_inv h1
    subst h3
    refine ⟨⟨x, rfl⟩, ?_⟩
    rw [List.length_append, show dotC.length = 5 from rfl, Nat.add_sub_cancel, List.take_left' rfl]
    exact h2
  · rintro ⟨⟨x, h1⟩, h2⟩
    subst h1
    rw [List.length_append, show dotC.length = 5 from rfl, Nat.add_sub_cancel, List.take_left' rfl] at h2
    refine ⟨x, ends_app ?_, h2⟩
    rintro rfl
    simp [dropN] at h2
theorem pt_app {u v : List UInt8} {k : Nat} (h : IsPt (u ++ 46 :: v) k) (hv : (46 : UInt8) ∉ v) : k = u.length := by
  rcases h with ⟨h, _⟩ | ⟨x, y, h1, h2, h3⟩
  · exact absurd (by simp) h
  · have : ∀ {x y b c : List UInt8}, (46 : UInt8) ∉ y → (46 : UInt8) ∉ c → x ++ 46 :: y = b ++ 46 :: c → x = b := by
      intro x y b c hy hc h
      rcases List.append_eq_append_iff.1 h with ⟨k, h1, h2⟩ | ⟨k, h1, h2⟩
      · cases k with
        | nil => rw [List.append_nil] at h1; exact h1.symm
        | cons z k =>
          injection h2 with h2 h3
          exact absurd (by rw [h3]; simp) hy
      · cases k with
        | nil => rw [List.append_nil] at h1; exact h1
        | cons z k =>
          injection h2 with h2 h3
          exact absurd (by rw [h3]; simp) hc
    rw [h3, this hv h2 h1]
theorem pt_ends {b u w : List UInt8} {v : List UInt8} {k : Nat} (hw : w = 46 :: v) (hv : (46 : UInt8) ∉ v) (h : IsPt b k) (hb : b = u ++ w) : b.take k = u ∧ b.drop k = w := by
  subst hw hb
  rw [pt_app h hv]
  exact ⟨List.take_left' rfl, List.drop_left' rfl⟩
variable {N} (O : NmsOk N)
theorem ends_pt (O : NmsOk N) {b w v : List UInt8} {k : Nat} (hw : w = 46 :: v) (hv : (46 : UInt8) ∉ v) (h : IsPt b k) : (∃ u, endsL w b = some u ∧ N.good u = true) ↔ b.drop k = w ∧ N.good (b.take k) = true := by
  constructor
  · rintro ⟨u, h1, h2⟩
    obtain ⟨h3, _⟩ := ends_inv h1
    obtain ⟨h4, h5⟩ := pt_ends hw hv h h3
    exact ⟨h5, by rw [h4]; exact h2⟩
  · rintro ⟨h1, h2⟩
    refine ⟨b.take k, ?_, h2⟩
    have : b = b.take k ++ w := by rw [← h1, List.take_append_drop]
    conv => lhs; rw [this]
    exact ends_app (O.ne _ h2)
theorem may_tail (f : Fi) : mayF N f = (decide (f.t.length ≤ 20000) && !(decide (f.t ≠ []) && decide (f.l ≠ [])) &&
  (if (pathW N f.p).k = 1 then decide (f.l = []) || decide (f.l = nulL) || (decide (N.kind f.l = N.kind (pathW N f.p).u) && decide (N.isT (pathW N f.p).u = N.isT f.l))
   else if (pathW N f.p).k = 2 then decide (f.l = [])
   else if (pathW N f.p).k = 3 ∨ (pathW N f.p).k = 4 then decide (0 < N.kind f.l)
   else false)) := rfl
theorem may_none {f : Fi} (h : pathW N f.p = noWy) : mayF N f = false := by
  unfold mayF
  rw [h]
  simp [noWy]
theorem deep_no {f : Fi} {b c : List UInt8} {k : Nat} (h1 : ¬ (b.drop k = dotD ∧ N.good (b.take k) = true)) (h2 : ¬ (b.drop k = dotW ∧ N.good (b.take k) = true)) (h3 : ¬ (b.drop k = dotR ∧ N.good (b.take k) = true)) : deepF N f b c k = false := by
  unfold deepF
  by_cases hg : N.good (b.take k) = false
  · rw [if_pos hg]
  · have hg : N.good (b.take k) = true := by simpa using hg
    rw [if_neg (by simp [hg]), if_neg (fun e => h1 ⟨e, hg⟩), if_neg]
    rintro (e | e)
    · exact h2 ⟨e, hg⟩
    · exact h3 ⟨e, hg⟩
theorem kind_good (O : NmsOk N) (u : List UInt8) : decide (0 < N.kind u) = N.good u := by
  rw [Bool.eq_iff_iff, decide_eq_true_eq]
  exact O.kind u
theorem sound_eq (O : NmsOk N) (f : Fi) (pt : List UInt8 → Nat) (hpt : ∀ b, IsPt b (pt b)) : soundF N f pt = mayF N f := by
  unfold soundF
  by_cases hs : (47 : UInt8) ∈ f.p
  · obtain ⟨a, r, ha, hp⟩ := at_first hs
    rw [hp, cutD_yes ha]
    simp only
    by_cases ht : 20000 < f.t.length
    · rw [if_pos (.inl ht)]
      unfold mayF
      rw [decide_eq_false (by omega)]
      rfl
    have ht' : decide (f.t.length ≤ 20000) = true := by simp; omega
    by_cases hpl : a ∈ plc
    · rw [if_neg (by rintro (h | h); exact ht h; exact h hpl)]
      by_cases hr : (47 : UInt8) ∈ r
      · obtain ⟨b, c, hb, hr'⟩ := at_first hr
        rw [hr', cutD_yes hb]
        simp only
        rw [if_neg (by simp)]
        have hk := hpt b
        generalize pt b = k at hk
        by_cases hc : (47 : UInt8) ∈ c
        · -- more than three pieces
          have hw : pathW N f.p = noWy := by
            obtain ⟨c1, c2, hc1, hc2⟩ := at_first hc
            unfold pathW
            rw [hp, split_cons ha, hr', split_cons hb, hc2, split_cons hc1]
            split
            · rename_i e; injection e with _ e; injection e with _ e; cases e
            · rename_i e
              injection e with _ e; injection e with _ e; injection e with _ e
              exact absurd e (sgo_glue 47 c2 []).2
            · rfl
          rw [may_none hw]
          have h1 : N.good c = false := by
            rcases h : N.good c with _ | _
            · rfl
            · exact absurd hc (O.slash c h)
          have h2 : dropIn c = false := by
            rcases h : dropIn c with _ | _
            · rfl
            · obtain ⟨x, hx, hd⟩ := dropIn_conf.2 h
              rw [(ends_inv hx).1] at hc
              exact absurd hc (dot_clean (drop_clean hd) dotC_clean)
          unfold deepF
          rw [h1, h2]
          simp
        · have hw : pathW N f.p = if a ∈ plc then (if (wy3 N a b c).k = 0 then noWy else wy3 N a b c) else noWy := by
            unfold pathW
            rw [hp, split_cons ha, hr', split_cons hb, split_one hc]
          rw [if_pos hpl] at hw
          have eD := ends_pt O (b := b) (w := dotD) (v := [100]) rfl (by decide) hk
          have eW := ends_pt O (b := b) (w := dotW) (v := [119, 97, 110, 116, 115]) rfl (by decide) hk
          have eR := ends_pt O (b := b) (w := dotR) (v := [114, 101, 113, 117, 105, 114, 101, 115]) rfl (by decide) hk
          by_cases h1 : b.drop k = dotD ∧ N.good (b.take k) = true
          · obtain ⟨u, hu, hg⟩ := eD.2 h1
            rw [wy_D N hu hg] at hw
            unfold deepF
            rw [if_neg (by simp [h1.2]), if_pos h1.1]
            rcases hd : dropIn c with _ | _
            · have : conf a u c = ⟨0, a, u, []⟩ := by
                unfold conf
                split
                · rename_i x hx
                  split
                  · rename_i hdn
                    rw [dropIn_conf.1 ⟨x, hx, hdn⟩] at hd; cases hd
                  · rfl
                · rfl
              rw [this] at hw
              rw [may_none (by rw [hw]; rfl)]
              rfl
            · obtain ⟨x, hx, hdn⟩ := dropIn_conf.2 hd
              have : conf a u c = ⟨2, a, u, x⟩ := by
                unfold conf
                rw [hx]
                simp [hdn]
              rw [this] at hw
              rw [may_tail f, hw, ht']
              by_cases hl : f.l = [] <;> simp [hl]
          · by_cases h2 : b.drop k = dotW ∧ N.good (b.take k) = true
            · obtain ⟨u, hu, hg⟩ := eW.2 h2
              rw [wy_W N hu hg] at hw
              unfold deepF
              rw [if_neg (by simp [h2.2]), if_neg (by rw [h2.1]; decide), if_pos (.inl h2.1)]
              unfold wishW at hw
              by_cases hc1 : N.good c = true ∧ N.isT c = false
              · rw [if_pos hc1] at hw
                rw [may_tail f, hw, ht']
                simp only [hc1.1, hc1.2]
                rw [kind_good O]
                by_cases hl : f.t = []
                · simp [hl]
                · rcases hgl : N.good f.l with _ | _
                  · simp [hl]
                  · simp [hl]
                    have := O.ne _ hgl
                    simpa using this
              · rw [if_neg hc1] at hw
                rw [may_none (by rw [hw]; rfl)]
                rcases hgc : N.good c with _ | _
                · rfl
                · have : N.isT c = true := by
                    rcases hT : N.isT c with _ | _
                    · exact absurd ⟨hgc, hT⟩ hc1
                    · rfl
                  rw [this]; rfl
            · by_cases h3 : b.drop k = dotR ∧ N.good (b.take k) = true
              · obtain ⟨u, hu, hg⟩ := eR.2 h3
                rw [wy_R N hu hg] at hw
                unfold deepF
                rw [if_neg (by simp [h3.2]), if_neg (by rw [h3.1]; decide), if_pos (.inr h3.1)]
                unfold wishW at hw
                by_cases hc1 : N.good c = true ∧ N.isT c = false
                · rw [if_pos hc1] at hw
                  rw [may_tail f, hw, ht']
                  simp only [hc1.1, hc1.2]
                  rw [kind_good O]
                  by_cases hl : f.t = []
                  · simp [hl]
                  · rcases hgl : N.good f.l with _ | _
                    · simp [hl]
                    · simp [hl]
                      have := O.ne _ hgl
                      simpa using this
                · rw [if_neg hc1] at hw
                  rw [may_none (by rw [hw]; rfl)]
                  rcases hgc : N.good c with _ | _
                  · rfl
                  · have : N.isT c = true := by
                      rcases hT : N.isT c with _ | _
                      · exact absurd ⟨hgc, hT⟩ hc1
                      · rfl
                    rw [this]; rfl
              · rw [deep_no h1 h2 h3]
                have q : ∀ {w : List UInt8} (h : ¬ (b.drop k = w ∧ N.good (b.take k) = true)) (e : (∃ u, endsL w b = some u ∧ N.good u = true) ↔ b.drop k = w ∧ N.good (b.take k) = true), ∀ u, endsL w b = some u → N.good u = false := by
                  intro w h e u hu
                  rcases hg : N.good u with _ | _
                  · rfl
                  · exact absurd (e.1 ⟨u, hu, hg⟩) h
                rw [wy_no N (q h1 eD) (q h2 eW) (q h3 eR)] at hw
                exact (may_none (by rw [hw]; rfl)).symm
      · rw [cutD_no hr]
        simp only
        rw [if_pos trivial]
        have hw : pathW N f.p = if a ∈ plc ∧ N.good r = true then ⟨1, a, r, []⟩ else noWy := by
          unfold pathW
          rw [hp, split_cons ha, split_one hr]
        unfold unitF
        rcases hg : N.good r with _ | _
        · rw [if_pos rfl]
          rw [hg] at hw
          exact (may_none (by rw [hw]; simp)).symm
        · rw [if_pos ⟨hpl, hg⟩] at hw
          rw [if_neg (by simp), may_tail f, hw, ht']
          by_cases hl : f.l = []
          · simp [hl]
          · rw [if_neg hl]
            by_cases htx : f.t = []
            · rw [if_neg (by simp [htx])]
              by_cases hn : f.l = nulL
              · rw [if_pos hn]; simp [hn, htx]
              · rw [if_neg hn]
                simp [hl, hn, htx, eq_comm]
            · rw [if_pos htx]
              simp [hl, htx]
    · rw [if_pos (.inr hpl)]
      have hw : pathW N f.p = noWy := by
        unfold pathW
        rw [hp, split_cons ha]
        split
        · rename_i e
          injection e with e1 e2
          rw [if_neg (by rw [← e1]; exact fun h => hpl h.1)]
        · rename_i e
          injection e with e1 e2
          rw [if_neg (by rw [← e1]; exact hpl)]
        · rfl
      rw [may_none hw]
  · rw [cutD_no hs]
    simp only
    have hw : pathW N f.p = noWy := by
      unfold pathW
      rw [split_one hs]
    rw [may_none hw]
    split
    · rfl
    · rw [show cutD 47 ([] : List UInt8) = ([], [], false) from rfl]
      simp only
      rw [if_pos trivial]
      unfold unitF
      rw [if_pos]
      rcases h : N.good [] with _ | _
      · rfl
      · exact absurd rfl (O.ne _ h)
theorem may_path {f : Fi} (h : mayF N f = true) : (pathW N f.p).k ≠ 0 := fun e => by
  unfold mayF at h
  simp [e] at h
theorem in_folder (O : NmsOk N) {f : Fi} (h : mayF N f = true) {a b c : List UInt8} (ha : a ∈ plc) (hp : f.p = a ++ 47 :: (b ++ 47 :: c)) : Wish N a b c (pathW N f.p) := by
  have hk := may_path h
  have hi := path_is N f.p
  generalize pathW N f.p = w at *
  cases hi with
  | none => exact absurd rfl hk
  | own a' u h1 h2 h3 =>
    rw [hp] at h3
    obtain ⟨rfl, e⟩ := slash_inj ha h1 h3
    exact absurd (by rw [← e]; simp) (O.slash u h2)
  | drop a' u x h1 h2 h3 h4 =>
    rw [hp] at h4
    obtain ⟨rfl, e⟩ := slash_inj ha h1 h4
    obtain ⟨e1, e2⟩ := one_slash (dot_clean (O.slash u h2) dotD_clean) (dot_clean (drop_clean h3) dotC_clean) e.symm
    exact .drop u x e1 e2 h2 h3
  | want a' u v h1 h2 h3 h4 h5 =>
    rw [hp] at h5
    obtain ⟨rfl, e⟩ := slash_inj ha h1 h5
    obtain ⟨e1, e2⟩ := one_slash (dot_clean (O.slash u h2) dotW_clean) (O.slash v h3) e.symm
    subst e2
    exact .want u e1 h2 h3 h4
  | need a' u v h1 h2 h3 h4 h5 =>
    rw [hp] at h5
    obtain ⟨rfl, e⟩ := slash_inj ha h1 h5
    obtain ⟨e1, e2⟩ := one_slash (dot_clean (O.slash u h2) dotR_clean) (O.slash v h3) e.symm
    subst e2
    exact .need u e1 h2 h3 h4
theorem app_other {u v w z : List UInt8} (h : u ++ w = v ++ z) (hn : w.getLast? ≠ z.getLast?) (hw : w ≠ []) (hz : z ≠ []) : False := by
  have := congrArg List.getLast? h
  have q : ∀ (x l : List UInt8), l ≠ [] → (x ++ l).getLast? = l.getLast? := fun x l h => by
    rw [List.getLast?_append]
    cases hl : l.getLast? with
    | none => exact absurd (List.getLast?_eq_none_iff.1 hl) h
    | some z => rfl
  rw [q _ _ hw, q _ _ hz] at this
  exact hn this
theorem app_longer {u v : List UInt8} (h : u ++ dotW = v ++ dotR) : False := by
  have := congrArg (fun l => l.reverse.take 6) h
  simp [dotR, dotW] at this
def folder (e : List UInt8) (u a : List UInt8) : List UInt8 := a ++ 47 :: (u ++ e ++ [47])
theorem in_links (O : NmsOk N) {f : Fi} (h : mayF N f = true) {a u : List UInt8} (ha : a ∈ plc) (e : List UInt8) (k : Int) (hk : (k = 3 ∧ e = dotW) ∨ (k = 4 ∧ e = dotR)) (c : List UInt8) :
    f.p = folder e u a ++ c ↔ pathW N f.p = ⟨k, a, u, c⟩ := by
  constructor
  · intro hp
    have hp' : f.p = a ++ 47 :: ((u ++ e) ++ 47 :: c) := by rw [hp]; simp [folder]
    have hw := in_folder O h ha hp'
    generalize pathW N f.p = w at *
    rcases hk with ⟨rfl, rfl⟩ | ⟨rfl, rfl⟩
    · cases hw with
      | drop u' x e1 e2 g1 g2 => exact (app_other e1 (by decide) (by decide) (by decide)).elim
      | want u' e1 g1 g2 g3 => rw [List.append_cancel_right e1]
      | need u' e1 g1 g2 g3 => exact (app_longer e1).elim
    · cases hw with
      | drop u' x e1 e2 g1 g2 => exact (app_other e1 (by decide) (by decide) (by decide)).elim
      | want u' e1 g1 g2 g3 => exact (app_longer e1.symm).elim
      | need u' e1 g1 g2 g3 => rw [List.append_cancel_right e1]
  · intro hp
    have hi := path_is N f.p
    rw [hp] at hi
    rcases hk with ⟨rfl, rfl⟩ | ⟨rfl, rfl⟩
    · cases hi with
      | want a' u v h1 h2 h3 h4 h5 => rw [h5]; simp [folder]
    · cases hi with
      | need a' u v h1 h2 h3 h4 h5 => rw [h5]; simp [folder]
def gatherA (fd : List UInt8 → List UInt8) (fs : List Fi) (a : List UInt8) : List (List UInt8) := fs.filterMap (fun f => if fd a <+: f.p then some (f.p.drop (fd a).length) else none)
def gatherL (fd : List UInt8 → List UInt8) (fs : List Fi) : List (List UInt8) := plc.flatMap (gatherA fd fs)
theorem gather_mem {fd : List UInt8 → List UInt8} {fs : List Fi} {x : List UInt8} : x ∈ gatherL fd fs ↔ ∃ a ∈ plc, ∃ f ∈ fs, f.p = fd a ++ x := by
  unfold gatherL gatherA
  rw [List.mem_flatMap]
  constructor
  · rintro ⟨a, ha, h⟩
    obtain ⟨f, hf, h⟩ := List.mem_filterMap.1 h
    split at h
    · rename_i hp
      obtain ⟨r, hr⟩ := hp
      injection h with h
      rw [← hr, List.drop_left' rfl] at h
      exact ⟨a, ha, f, hf, by rw [← hr, h]⟩
    · cases h
  · rintro ⟨a, ha, f, hf, h⟩
    refine ⟨a, ha, List.mem_filterMap.2 ⟨f, hf, ?_⟩⟩
    rw [h, if_pos ⟨x, rfl⟩, List.drop_left' rfl]
theorem links_gather (O : NmsOk N) {fs : List Fi} (hm : mayL N fs = true) (u e : List UInt8) (k : Int) (hk : (k = 3 ∧ e = dotW) ∨ (k = 4 ∧ e = dotR)) {l : List (List UInt8)} (hl : rises l) (hx : ∀ x, x ∈ l ↔ x ∈ gatherL (folder e u) fs) : l = linksL N k fs u := by
  unfold linksL
  rw [if_pos hm]
  refine rise_ext hl (take_rises _ N fs [] List.Pairwise.nil) fun x => ?_
  rw [hx, gather_mem, take_mem]
  have hmay := (may_parts.1 hm).2.1
  constructor
  · rintro ⟨a, ha, f, hf, hp⟩
    have := (in_links O (hmay f hf) ha e k hk x).1 hp
    exact .inr ⟨f, hf, by rw [this]; simp, by rw [this]⟩
  · rintro (h | ⟨f, hf, h1, h2⟩)
    · cases h
    · rw [Bool.and_eq_true, decide_eq_true_eq, decide_eq_true_eq] at h1
      have hi := path_is N f.p
      have hw : pathW N f.p = ⟨k, (pathW N f.p).pl, u, x⟩ := by rw [← h1.1, ← h1.2, ← h2]
      have hpl : (pathW N f.p).pl ∈ plc := by
        generalize pathW N f.p = w at *
        cases hi with
        | none => rcases hk with ⟨e, _⟩ | ⟨e, _⟩ <;> (rw [e] at h1; cases h1.1)
        | own a u g1 g2 g3 => exact g1
        | drop a u x g1 g2 g3 g4 => exact g1
        | want a u v g1 g2 g3 g4 g5 => exact g1
        | need a u v g1 g2 g3 g4 g5 => exact g1
      exact ⟨_, hpl, f, hf, (in_links O (hmay f hf) hpl e k hk x).2 hw⟩
end
end Go.Proofs.YthodbeeglkedcaaGreat
