/- A region that draws its order and whose last operation, which waits for all others, may write what the others read: the  -/
import Derived.Deep.RegionHeld
namespace Go.Proofs.YtcoepioahabbdaaGreat
section
variable {P : Program} {ops : Array Oper} {Q : Exit → Act → World → Prop} {md : Region.Mode} {S : World → Prop} {z : Nat}
def wpAnyZ (P : Program) (md : Region.Mode) (ops : Array Oper) (Q : Exit → Act → World → Prop) (S : World → Prop) (z : Nat) : Nat → Array Bool → Act → World → Prop
  | 0, listed, a, w => Region.ready md ops listed = [] ∧ Q .normal a w
  | fuel + 1, listed, a, w =>
    (Region.ready md ops listed = [] → Q .normal a w) ∧
    ∀ i ∈ Region.ready md ops listed, wpOp P ops Q i (fun a' w' => (i = z ∨ S w') ∧ wpAnyZ P md ops Q S z fuel (listed.setIfInBounds i true) a' w') a w
theorem wpAny_of_Z : ∀ (fuel : Nat) (listed : Array Bool) (a : Act) (w : World), wpAnyZ P md ops Q S z fuel listed a w → wpAny P md ops Q fuel listed a w
  | 0, _, _, _, h => h
  | fuel + 1, _, _, _, h => ⟨h.1, fun i hi => wpOp_mono (fun a' w' h' => wpAny_of_Z fuel _ a' w' h'.2) (h.2 i hi)⟩
def waitsZ (md : Region.Mode) (ops : Array Oper) (listed : Array Bool) (i z : Nat) : Bool :=
  match ops[z]? with
  | some oz => oz.after.any (fun e => Region.binds md e && (e.on == i || (listed.getD e.on true == false && (match ops[e.on]? with
    | some om => om.after.any (fun d => Region.binds md d && d.on == i)
    | none => false))))
  | none => false
def WaitsZ (md : Region.Mode) (ops : Array Oper) (listed : Array Bool) (i z : Nat) : Prop :=
  ∃ oz, ops[z]? = some oz ∧ ∃ e ∈ oz.after, Region.binds md e = true ∧ (e.on = i ∨ (listed.getD e.on true = false ∧ ∃ om, ops[e.on]? = some om ∧ ∃ d ∈ om.after, Region.binds md d = true ∧ d.on = i))
theorem waitsZ_spec {listed : Array Bool} {i : Nat} (h : waitsZ md ops listed i z = true) : WaitsZ md ops listed i z := by
  unfold waitsZ at h
  split at h
  · rename_i oz hoz
    obtain ⟨e, he, hb⟩ := Array.any_eq_true'.1 h
    simp only [Bool.and_eq_true, Bool.or_eq_true, beq_iff_eq] at hb
    refine ⟨oz, hoz, e, he, hb.1, hb.2.imp id fun h2 => ⟨h2.1, ?_⟩⟩
    have h3 := h2.2
    split at h3
    · rename_i om hom
      obtain ⟨d, hd, hc⟩ := Array.any_eq_true'.1 h3
      simp only [Bool.and_eq_true, beq_iff_eq] at hc
      exact ⟨om, hom, d, hd, hc⟩
    · cases h3
  · cases h
theorem listed_not {listed : Array Bool} {i : Nat} (h : listed.getD i true = false) : ¬ listed.getD i false = true := fun k => by
  rcases Nat.lt_or_ge i listed.size with h' | h'
  · simp [h'] at h k
    rw [h] at k
    cases k
  · simp [Array.getElem?_eq_none h'] at k
theorem WaitsZ.not_ready {listed : Array Bool} {i : Nat} (h : WaitsZ md ops listed i z) (hi : listed.getD i true = false) : z ∉ Region.ready md ops listed := fun hz => by
  obtain ⟨oz, hoz, e, he, hb, h2⟩ := h
  obtain ⟨_, oz', hoz', hall⟩ := mem_ready.1 hz
  rw [hoz] at hoz'
  cases hoz'
  have h1 := hall e he hb
  rcases h2 with h2 | ⟨h2, _⟩
  · rw [h2] at h1; exact listed_not hi h1
  · exact listed_not h2 h1
theorem WaitsZ.keep {listed : Array Bool} {i j : Nat} (h : WaitsZ md ops listed i z) (hi : listed.getD i true = false) (hj : j ∈ Region.ready md ops listed) : WaitsZ md ops (listed.setIfInBounds j true) i z := by
  obtain ⟨oz, hoz, e, he, hb, h2⟩ := h
  refine ⟨oz, hoz, e, he, hb, h2.imp id fun ⟨h3, om, hom, d, hd, hc, hdi⟩ => ⟨?_, om, hom, d, hd, hc, hdi⟩⟩
  have hne : j ≠ e.on := fun hje => by
    subst hje
    obtain ⟨_, om', hom', hall⟩ := mem_ready.1 hj
    rw [hom] at hom'
    cases hom'
    have h1 := hall d hd hc
    rw [hdi] at h1
    exact listed_not hi h1
  rw [getD_set_ne true hne]
  exact h3
theorem wpAnyZ_first {i : Nat} {oi : Oper} {v : Value} (hi : ops[i]? = some oi) (hsel : ∀ (j : Nat) (o : Oper) cs b, ops[j]? = some o → o.op ≠ .select cs b)
    (hQ : ∀ c a w, Q (.panic c) (a.put oi.dst v) w → Q (.panic c) a w) :
    ∀ (fuel : Nat) (listed : Array Bool) (a : Act) (w : World), WaitsZ md ops listed i z →
      (∀ j oj, ops[j]? = some oj → j ≠ i → listed.getD j true = false → (∀ e ∈ oj.after, Region.binds md e = true → e.on ≠ i) → oi.apart ops oj = true) →
      i ∈ Region.ready md ops listed → YieldsIf P ops S oi v a → S w →
      wpAnyZ P md ops Q S z fuel (listed.setIfInBounds i true) (a.put oi.dst v) w → wpAnyZ P md ops Q S z (fuel + 1) listed a w := by
  intro fuel
  induction fuel with
  | zero =>
    intro listed a w _ _ hr hy hS H
    refine ⟨fun h => (by rw [h] at hr; cases hr), fun j hj => ?_⟩
    by_cases hji : j = i
    · subst hji; exact hy.wpOp hi hS ⟨.inr hS, H⟩
    · have := ready_mono hj hji
      rw [H.1] at this
      cases this
  | succ fuel ih =>
    intro listed a w hz hfree hr hy hS H
    refine ⟨fun h => (by rw [h] at hr; cases hr), fun j hj => ?_⟩
    by_cases hji : j = i
    · subst hji; exact hy.wpOp hi hS ⟨.inr hS, H⟩
    · have hjz : j ≠ z := fun e => by
        subst e
        exact hz.not_ready (mem_ready.1 hr).1 hj
      have h1 := H.2 j (ready_mono hj hji)
      obtain ⟨hjun, oj, hoj, hall⟩ := mem_ready.1 hj
      have hnot : ∀ e ∈ oj.after, Region.binds md e = true → e.on ≠ i := fun e he hb heq => by
        have h1 := hall e he hb
        have h0 := (mem_ready.1 hr).1
        rw [heq] at h1
        rcases Nat.lt_or_ge i listed.size with h' | h'
        · simp [h'] at h0 h1; rw [h0] at h1; cases h1
        · simp [Array.getElem?_eq_none h'] at h1
      have h2 := wpOp_putIf hoj (hfree j oj hoj hji hjun hnot) (fun cs b => hsel i oi cs b hi) (fun cs b => hsel j oj cs b hoj) hQ hy h1
      have hfree' : ∀ k ok, ops[k]? = some ok → k ≠ i → (listed.setIfInBounds j true).getD k true = false →
          (∀ e ∈ ok.after, Region.binds md e = true → e.on ≠ i) → oi.apart ops ok = true := fun k ok hk hki hun hno => by
        refine hfree k ok hk hki ?_ hno
        by_cases hjk : j = k
        · subst hjk; exact hjun
        · rw [getD_set_ne true hjk] at hun; exact hun
      refine wpOp_mono (fun a' w' h3 => ?_) h2
      have hS' : S w' := h3.2.1.resolve_left hjz
      refine ⟨.inr hS', ih (listed.setIfInBounds j true) a' w' (hz.keep (mem_ready.1 hr).1 hj) hfree' (ready_mono hr (Ne.symm hji)) h3.1 hS' ?_⟩
      rw [Array.setIfInBounds_comm _ _ hji]
      exact h3.2.2
theorem wpAnyZ_take {i : Nat} {oi : Oper} {v : Value} {fuel : Nat} {listed : Array Bool} {a : Act} {w : World} (hz : waitsZ md ops listed i z = true) (hi : ops[i]? = some oi)
    (hs : Region.noSelect ops = true) (hf : Region.free md ops listed i = true) (hr : (Region.ready md ops listed).contains i = true)
    (hQ : ∀ c a w, Q (.panic c) (a.put oi.dst v) w → Q (.panic c) a w) (hy : YieldsIf P ops S oi v a) (hS : S w)
    (h : wpAnyZ P md ops Q S z fuel (listed.setIfInBounds i true) (a.put oi.dst v) w) : wpAnyZ P md ops Q S z (fuel + 1) listed a w :=
  wpAnyZ_first hi (Region.noSelect_spec hs) hQ fuel listed a w (waitsZ_spec hz) (Region.free_spec hi hf) (by simpa using hr) hy hS h
theorem wpAnyZ_one {i : Nat} {o : Oper} {fuel : Nat} {listed : Array Bool} {a : Act} {w : World} (hr : Region.ready md ops listed = [i]) (ho : ops[i]? = some o)
    (h : ∀ K' : Act → World → Prop, Shut (∀ a w, (i = z ∨ S w) → ((i = z ∨ S w) → wpAnyZ P md ops Q S z fuel (listed.setIfInBounds i true) a w) → K' a w) → if Region.wanted o (yielded ops a.tmps) = true then Oper.wp P o a w K' Q else K' (a.put o.dst undef) w) : wpAnyZ P md ops Q S z (fuel + 1) listed a w :=
  ⟨fun h0 => (by rw [hr] at h0; cases h0), fun j hj => by
    rw [hr] at hj
    obtain rfl := List.mem_singleton.1 hj
    exact wpOp_step ho (fun K' hK => h K' (fun a w hS hW => hK a w ⟨hS, hW hS⟩))⟩
theorem wpAnyZ_done {listed : Array Bool} {a : Act} {w : World} (hr : Region.ready md ops listed = []) (h : Q .normal a w) :
    ∀ fuel, wpAnyZ P md ops Q S z fuel listed a w
  | 0 => ⟨hr, h⟩
  | _ + 1 => ⟨fun _ => h, by rw [hr]; simp⟩
theorem wp_region_Z {id : Nat} {a : Act} {w : World} (hm : P.follows .mixedOrders = true) (hS : S w.drew)
    (h : S w.drew → wpAnyZ P .any ops Q S z ops.size (Array.replicate ops.size false) a w.drew) : (Code.region id ops true).wp P Q a w :=
  wp_region_any hm (wpAny_of_Z _ _ _ _ (h hS))
end
end Go.Proofs.YtcoepioahabbdaaGreat
namespace Go.Proofs.YtcoepioahabbdaaGreat
section
variable {P : Program} {ops : Array Oper} {Q : Exit → Act → World → Prop} {md : Region.Mode} {S : World → Prop} {z : Nat}
inductive WaitsF (md : Region.Mode) (ops : Array Oper) (listed : Array Bool) (i : Nat) : Nat → Prop
  | here {z : Nat} {oz : Oper} {e : Edge} : ops[z]? = some oz → e ∈ oz.after → Region.binds md e = true → e.on = i → WaitsF md ops listed i z
  | step {z : Nat} {oz : Oper} {e : Edge} : ops[z]? = some oz → e ∈ oz.after → Region.binds md e = true → listed.getD e.on true = false → WaitsF md ops listed i e.on → WaitsF md ops listed i z
def waitsF (md : Region.Mode) (ops : Array Oper) (listed : Array Bool) (i : Nat) : Nat → Nat → Bool
  | 0, _ => false
  | n + 1, z => match ops[z]? with
    | some oz => oz.after.any (fun e => Region.binds md e && (e.on == i || (listed.getD e.on true == false && waitsF md ops listed i n e.on)))
    | none => false
theorem waitsF_spec {listed : Array Bool} {i : Nat} : ∀ (n z : Nat), waitsF md ops listed i n z = true → WaitsF md ops listed i z
  | 0, _, h => by cases h
  | n + 1, z, h => by
    rw [waitsF] at h
    split at h
    · rename_i oz hoz
      obtain ⟨e, he, hb⟩ := Array.any_eq_true'.1 h
      simp only [Bool.and_eq_true, Bool.or_eq_true, beq_iff_eq] at hb
      rcases hb.2 with h2 | h2
      · exact .here hoz he hb.1 h2
      · exact .step hoz he hb.1 h2.1 (waitsF_spec n _ h2.2)
    · cases h
theorem WaitsF.not_ready {listed : Array Bool} {i z : Nat} (h : WaitsF md ops listed i z) (hi : listed.getD i true = false) : z ∉ Region.ready md ops listed := fun hz => by
  cases h with
  | here hoz he hb e1 =>
    obtain ⟨_, oz', hoz', hall⟩ := mem_ready.1 hz
    rw [hoz] at hoz'
    cases hoz'
    have h1 := hall _ he hb
    rw [e1] at h1
    exact listed_not hi h1
  | step hoz he hb e1 _ =>
    obtain ⟨_, oz', hoz', hall⟩ := mem_ready.1 hz
    rw [hoz] at hoz'
    cases hoz'
    exact listed_not e1 (hall _ he hb)
theorem WaitsF.keep {listed : Array Bool} {i z j : Nat} (h : WaitsF md ops listed i z) (hi : listed.getD i true = false) (hj : j ∈ Region.ready md ops listed) : WaitsF md ops (listed.setIfInBounds j true) i z := by
  induction h with
  | here hoz he hb e1 => exact .here hoz he hb e1
  | step hoz he hb e1 h ih =>
    refine .step hoz he hb ?_ ih
    rw [getD_set_ne true (fun e => h.not_ready hi (by rw [← e]; exact hj))]
    exact e1
theorem wpAnyZ_firstF {i : Nat} {oi : Oper} {v : Value} (hi : ops[i]? = some oi) (hsel : ∀ (j : Nat) (o : Oper) cs b, ops[j]? = some o → o.op ≠ .select cs b)
    (hQ : ∀ c a w, Q (.panic c) (a.put oi.dst v) w → Q (.panic c) a w) :
    ∀ (fuel : Nat) (listed : Array Bool) (a : Act) (w : World), WaitsF md ops listed i z →
      (∀ j oj, ops[j]? = some oj → j ≠ i → listed.getD j true = false → (∀ e ∈ oj.after, Region.binds md e = true → e.on ≠ i) → oi.apart ops oj = true) →
      i ∈ Region.ready md ops listed → YieldsIf P ops S oi v a → S w →
      wpAnyZ P md ops Q S z fuel (listed.setIfInBounds i true) (a.put oi.dst v) w → wpAnyZ P md ops Q S z (fuel + 1) listed a w := by
  intro fuel
  induction fuel with
  | zero =>
    intro listed a w _ _ hr hy hS H
    refine ⟨fun h => (by rw [h] at hr; cases hr), fun j hj => ?_⟩
    by_cases hji : j = i
    · subst hji; exact hy.wpOp hi hS ⟨.inr hS, H⟩
    · have := ready_mono hj hji
      rw [H.1] at this
      cases this
  | succ fuel ih =>
    intro listed a w hz hfree hr hy hS H
    refine ⟨fun h => (by rw [h] at hr; cases hr), fun j hj => ?_⟩
    by_cases hji : j = i
    · subst hji; exact hy.wpOp hi hS ⟨.inr hS, H⟩
    · have hjz : j ≠ z := fun e => by
        subst e
        exact hz.not_ready (mem_ready.1 hr).1 hj
      have h1 := H.2 j (ready_mono hj hji)
      obtain ⟨hjun, oj, hoj, hall⟩ := mem_ready.1 hj
      have hnot : ∀ e ∈ oj.after, Region.binds md e = true → e.on ≠ i := fun e he hb heq => by
        have h1 := hall e he hb
        have h0 := (mem_ready.1 hr).1
        rw [heq] at h1
        rcases Nat.lt_or_ge i listed.size with h' | h'
        · simp [h'] at h0 h1; rw [h0] at h1; cases h1
        · simp [Array.getElem?_eq_none h'] at h1
      have h2 := wpOp_putIf hoj (hfree j oj hoj hji hjun hnot) (fun cs b => hsel i oi cs b hi) (fun cs b => hsel j oj cs b hoj) hQ hy h1
      have hfree' : ∀ k ok, ops[k]? = some ok → k ≠ i → (listed.setIfInBounds j true).getD k true = false →
          (∀ e ∈ ok.after, Region.binds md e = true → e.on ≠ i) → oi.apart ops ok = true := fun k ok hk hki hun hno => by
        refine hfree k ok hk hki ?_ hno
        by_cases hjk : j = k
        · subst hjk; exact hjun
        · rw [getD_set_ne true hjk] at hun; exact hun
      refine wpOp_mono (fun a' w' h3 => ?_) h2
      have hS' : S w' := h3.2.1.resolve_left hjz
      refine ⟨.inr hS', ih (listed.setIfInBounds j true) a' w' (hz.keep (mem_ready.1 hr).1 hj) hfree' (ready_mono hr (Ne.symm hji)) h3.1 hS' ?_⟩
      rw [Array.setIfInBounds_comm _ _ hji]
      exact h3.2.2
theorem wpAnyZ_takeF {i : Nat} {oi : Oper} {v : Value} {fuel : Nat} {listed : Array Bool} {a : Act} {w : World} (hz : waitsF md ops listed i 6 z = true) (hi : ops[i]? = some oi)
    (hs : Region.noSelect ops = true) (hf : Region.free md ops listed i = true) (hr : (Region.ready md ops listed).contains i = true)
    (hQ : ∀ c a w, Q (.panic c) (a.put oi.dst v) w → Q (.panic c) a w) (hy : YieldsIf P ops S oi v a) (hS : S w)
    (h : wpAnyZ P md ops Q S z fuel (listed.setIfInBounds i true) (a.put oi.dst v) w) : wpAnyZ P md ops Q S z (fuel + 1) listed a w :=
  wpAnyZ_firstF hi (Region.noSelect_spec hs) hQ fuel listed a w (waitsF_spec _ _ hz) (Region.free_spec hi hf) (by simpa using hr) hy hS h
end
end Go.Proofs.YtcoepioahabbdaaGreat
