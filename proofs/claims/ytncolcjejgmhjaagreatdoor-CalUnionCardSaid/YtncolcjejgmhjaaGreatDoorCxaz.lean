/- A range over a function whose iterator keeps its own state in cells of its own (a captured variable that it writes): the -/
import Derived.RangeFuncNested
import Derived.RangeFuncCalls
import Derived.RangeFuncLeaves
import Derived.WalkKit
import Derived.Below
namespace Go.Proofs.YtncolcjejgmhjaaGreatDoor
open Go.RowKit
variable {F : Fence} {n : Nat} {P : Program}
def Kept (C D : Nat) (W W' : World) : Prop := ∀ i, C ≤ i → i < D → W'.heap[i]? = W.heap[i]?
theorem Kept.refl (C D : Nat) (W : World) : Kept C D W W := fun _ _ _ => rfl
theorem Kept.trans {C D : Nat} {X Y Z : World} (h : Kept C D X Y) (k : Kept C D Y Z) : Kept C D X Z := fun i a b => (k i a b).trans (h i a b)
theorem Kept.mono {C D D' : Nat} {X Y : World} (h : Kept C D X Y) (hD : D' ≤ D) : Kept C D' X Y := fun i a b => h i a (by omega)
theorem Kept.put {C D : Nat} (W : World) {l : Nat} (o : Obj) (h : D ≤ l) : Kept C D W (W.putObj l o) := fun i _ b => World.putObj_heap_other (by omega)
theorem Kept.setCell {C D : Nat} (W : World) {a : Addr} (u : Value) (h : a.block < C) : Kept C D W (W.setCell a u) := fun i c _ => Below.heap_setCell W a u i (by omega)
theorem below_put {C : Nat} (W : World) (l : Nat) (o : Obj) (h : C ≤ l) : Below C W (W.putObj l o) :=
  ⟨rfl, rfl, rfl, by simp, fun k hk => World.putObj_heap_other (by omega)⟩
def SeqC {α : Type} (F : Fence) (n : Nat) (P : Program) (g : Nat) (lb : Array Value) (enc : α → Value) (C D : Nat) (xs0 : List α) (w : World) : Prop :=
  ∀ (l : Nat) (J Jx : List α → World → Prop) (W : World), Below w.heap.size w W →
    (∀ s X Y, J s X → X.grownBy Y (some C) → J s Y) → (∀ s X Y, Jx s X → X.grownBy Y (some C) → Jx s Y) →
    (∀ pre x post W1, xs0 = pre ++ x :: post → J pre W1 → YieldAt F (n - 1) P l #[enc x] W1 fun e W' =>
      (e = .returned (.bool true) ∧ J (pre ++ [x]) W' ∧ Kept C D W1 W') ∨ (e = .returned (.bool false) ∧ Jx (pre ++ [x]) W')) →
    J [] W →
    CallsIn F n P g (#[.func (.yield l) #[] #[]] ++ lb) W fun e W' => (∃ v, e = .returned v) ∧ (J xs0 W' ∨ ∃ pre, pre <+: xs0 ∧ Jx pre W')
end Go.Proofs.YtncolcjejgmhjaaGreatDoor
namespace Go.Proofs.YtncolcjejgmhjaaGreatDoor
open Go.RowKit
variable {F : Fence} {n : Nat} {P : Program}
def Stand (C D l : Nat) (W W' : World) : Prop := Kept C D W W' ∧ Kept (l - 1) (l + 1) W W'
def Turn (C : Nat) (X Y : World) : Prop := ∃ k, (k = C ∨ C ≤ k ∧ ∃ y, X.heap[k]? = some (.loop y)) ∧ X.grownBy Y (some k)
theorem turn_put {C : Nat} {X : World} {l : Nat} {y : Loop} (hl : C ≤ l) (h : X.heap[l]? = some (.loop y)) (o : Obj) : Turn C X (X.putObj l o) :=
  ⟨l, .inr ⟨hl, y, h⟩, ⟨rfl, rfl, rfl, by simp, fun k _ hne => World.putObj_heap_other (fun e => hne (by rw [e]))⟩⟩
def bodyD {α : Type} (C D l : Nat) (I : List α → World → Prop) (Ix : Code → List α → World → Prop) (xs : List α) (W : World) : Exit → Act → World → Prop
  | .normal, _, W' => Stand C D l W W' ∧ I xs W'
  | .ret, _, W' => Stand C D l W W' ∧ Ix .ret xs W'
  | .exit id, _, W' => Stand C D l W W' ∧ Ix (.exit id) xs W'
  | .goto t, _, W' => Stand C D l W W' ∧ Ix (.goto t) xs W'
  | .panic _, _, _ => False
  | .outgrown, _, _ => False
theorem range_boxD {α : Type} {g : Operand} {p : Tmp} {assign body : Code} {Q : Exit → Act → World → Prop} {a : Act} {w : World}
    (hro : F.round = none) (h1 : 1 ≤ n) {gf : Nat} {lb : Array Value} (hg : a.eval g = .func (.func gf) #[] lb) (hFg : F.fn gf) (eg : ∀ args w, (callFunc gf args).run P w = .ok (.enter gf args) w)
    {enc : α → Value} {C D : Nat} {xs0 : List α} (hC : C < D) (hD : D ≤ w.heap.size) (hseq : SeqC F (n - 1) P gf lb enc C D xs0 w)
    (I : List α → World → Prop) (Ix : Code → List α → World → Prop) (hI0 : ∀ s X Y, I s X → Below X.heap.size X Y → I s Y) (hI : ∀ s X Y, Turn C X Y → I s X → I s Y) (hIx : ∀ c s X Y, Turn C X Y → Ix c s X → Ix c s Y) (h0 : I [] w) (a₁ : α → Act)
    (hassign : ∀ (l : Nat) (x : α) (W : World) (K : Act → World → Prop), K (a₁ x) W →
      assign.wpIn (F.inRound l) (n - 1 - 1) P (Exit.then K (fun _ _ _ => False)) { tmps := a.tmps.setIfInBounds p (enc x), defers := [] } W)
    (hbody : ∀ (l : Nat) (pre : List α) (x : α) (post : List α) (W : World), xs0 = pre ++ x :: post → I pre W → D ≤ W.heap.size → D + 1 ≤ l → (∃ y, W.heap[l]? = some (.loop y)) → W.heap[l - 1]? = some (.deferred (some [])) → body.wpIn (F.inRound l) (n - 1 - 1) P (bodyD C D l I Ix (pre ++ [x]) W) (a₁ x) W)
    (hdone : ∀ (M : Nat) (W : World), D ≤ M → I xs0 W → W.heap[M]? = some (.deferred (some [])) → Q .normal { a with defers := { target := .collected M, args := #[] } :: a.defers } W)
    (hstop : ∀ (M : Nat) (c : Code) (pre : List α) (W : World), D ≤ M → pre <+: xs0 → Ix c pre W → W.heap[M]? = some (.deferred (some [])) → c.wpIn F n P Q { a with defers := { target := .collected M, args := #[] } :: a.defers } W) :
    (Code.rangeFunc g #[p] assign body).wpIn F n P Q a w := by
  refine wpIn_rangeFunc fun fn hfn => ?_
  rw [hro]
  let M := w.heap.size
  let rec_ : LoopState → Option Code → Loop := fun st pe => { state := st, pending := pe, fn, tmps := a.tmps, params := #[p], assign, body, defers := M }
  let W1 := (w.alloc (.deferred (some []))).alloc (.loop (rec_ .ready none))
  have q0 : W1.heap.size = M + 1 + 1 := by simp [W1, M]
  have qM : W1.heap[M]? = some (.deferred (some [])) := (Below.heap_alloc _ _ _ (by simp [M])).trans (World.alloc_heap_new w _)
  have qL : W1.heap[M + 1]? = some (.loop (rec_ .ready none)) := by
    have := World.alloc_heap_new (w.alloc (.deferred (some []))) (.loop (rec_ .ready none))
    rwa [World.size_alloc] at this
  have qb : Below w.heap.size w W1 := ((Below.refl _ w).alloc (Nat.le_refl _) _).alloc (by simp) _
  refine ⟨M + 1, [{ target := .collected M, args := #[] }], W1, { target := .fn (.func gf) lb, args := #[.func (.yield (M + 1)) #[] #[]] }, W1, gf,
    #[.func (.yield (M + 1)) #[] #[]] ++ lb, W1, run_enterLoop_outer _ _ _ _ _, ?_, ?_, ?_, fun _ => h1, ?_⟩
  · simp only [resolve, hg]; simp [go_sem]
  · intro f' hf'; simp [Target.leads] at hf'; subst hf'; exact hFg
  · simp [invoke, go_sem, eg]
  have far : ∀ (X Y : World) (i : Nat) (o : Obj), X.heap[i]? = some o → X.grownBy Y (some C) → C < i → Y.heap[i]? = some o := fun X Y i o hx hy hi =>
    (hy.block i (Array.getElem?_eq_some_iff.1 hx).1 (fun e => by injection e with e; omega)).trans hx
  refine (hseq (M + 1)
    (fun pre W => I pre W ∧ W.heap[M + 1]? = some (.loop (rec_ .ready none)) ∧ W.heap[M]? = some (.deferred (some [])))
    (fun pre W => ∃ c, Ix c pre W ∧ W.heap[M + 1]? = some (.loop (rec_ .done (some c))) ∧ W.heap[M]? = some (.deferred (some [])))
    W1 qb
    (by rintro s X Y ⟨a1, a2, a3⟩ hy; exact ⟨hI s X Y ⟨C, .inl rfl, hy⟩ a1, far X Y _ _ a2 hy (by omega), far X Y _ _ a3 hy (by omega)⟩)
    (by rintro s X Y ⟨c, a1, a2, a3⟩ hy; exact ⟨c, hIx c s X Y ⟨C, .inl rfl, hy⟩ a1, far X Y _ _ a2 hy (by omega), far X Y _ _ a3 hy (by omega)⟩)
    ?_ ⟨hI0 _ _ _ h0 qb, qL, qM⟩).mono ?_
  · rintro pre x post W hxs ⟨hi, hl, hk⟩
    have hlt : M + 1 < W.heap.size := (Array.getElem?_eq_some_iff.1 hl).1
    let W2 := W.putObj (M + 1) (.loop { rec_ .ready none with state := .busy })
    have hl2 : W2.heap[M + 1]? = some (.loop { rec_ .ready none with state := .busy }) := World.putObj_heap_same hlt
    have hk2 : W2.heap[M]? = some (.deferred (some [])) := (World.putObj_heap_other (by omega)).trans hk
    have hz2 : W2.heap.size = W.heap.size := by simp [W2]
    have hy := run_yield (P := P) (args := #[enc x]) hl rfl
    refine ⟨fn, a.tmps.setIfInBounds p (enc x), assign, body, hy.trans (by simp [rec_]), roundIn_of_wpIn hfn ?_⟩
    refine hassign _ x W _ ?_
    refine ⟨W2, run_beginRound hl rfl, ?_⟩
    refine wpIn_mono (hbody _ pre x post W2 hxs (hI _ _ _ (turn_put (by omega) hl _) hi) (by omega) (by omega) ⟨_, hl2⟩ (by rw [Nat.add_sub_cancel]; exact hk2)) ?_
    have fin : ∀ (jump : Option Code) (W3 : World), Stand C D (M + 1) W2 W3 →
        (Instr.endRound (M + 1) jump).run P W3 = .ok (.bool jump.isNone) (W3.putObj (M + 1) (.loop (rec_ (if jump.isNone then .ready else .done) jump))) ∧
        (W3.putObj (M + 1) (.loop (rec_ (if jump.isNone then .ready else .done) jump))).heap[M + 1]? = some (.loop (rec_ (if jump.isNone then .ready else .done) jump)) ∧
        (W3.putObj (M + 1) (.loop (rec_ (if jump.isNone then .ready else .done) jump))).heap[M]? = some (.deferred (some [])) ∧
        Turn C W3 (W3.putObj (M + 1) (.loop (rec_ (if jump.isNone then .ready else .done) jump))) ∧
        Kept C D W (W3.putObj (M + 1) (.loop (rec_ (if jump.isNone then .ready else .done) jump))) := fun jump W3 hk3 => by
      have a1 := (hk3.2 (M + 1) (by omega) (by omega)).trans hl2
      have a2 := (hk3.2 M (by omega) (by omega)).trans hk2
      exact ⟨run_endRound (P := P) jump a1, World.putObj_heap_same (Array.getElem?_eq_some_iff.1 a1).1, (World.putObj_heap_other (by omega)).trans a2, turn_put (by omega) a1 _,
        ((Kept.put W _ (by omega)).trans hk3.1).trans (Kept.put W3 _ (by omega))⟩
    rintro e a3 W3 hp
    cases e with
    | normal =>
      obtain ⟨hk3, hi3⟩ := hp
      obtain ⟨b1, b2, b3, b4, b5⟩ := fin none W3 hk3
      exact ⟨_, _, b1, .inl ⟨rfl, ⟨hI _ _ _ b4 hi3, b2, b3⟩, b5⟩⟩
    | ret =>
      obtain ⟨hk3, hi3⟩ := hp
      obtain ⟨b1, b2, b3, b4, _⟩ := fin (some .ret) W3 hk3
      exact ⟨_, _, b1, .inr ⟨rfl, .ret, hIx _ _ _ _ b4 hi3, b2, b3⟩⟩
    | exit id =>
      obtain ⟨hk3, hi3⟩ := hp
      obtain ⟨b1, b2, b3, b4, _⟩ := fin (some (.exit id)) W3 hk3
      exact ⟨_, _, b1, .inr ⟨rfl, .exit id, hIx _ _ _ _ b4 hi3, b2, b3⟩⟩
    | goto t =>
      obtain ⟨hk3, hi3⟩ := hp
      obtain ⟨b1, b2, b3, b4, _⟩ := fin (some (.goto t)) W3 hk3
      exact ⟨_, _, b1, .inr ⟨rfl, .goto t, hIx _ _ _ _ b4 hi3, b2, b3⟩⟩
    | panic ch => exact hp.elim
    | outgrown => exact hp.elim
  · rintro e W2 ⟨⟨v, rfl⟩, (⟨hi, hl, hk⟩ | ⟨pre, hpre, c, hi, hl, hk⟩)⟩
    · exact ⟨none, _, run_endLoop (P := P) hl (by simp [rec_]), hdone M _ hD (hI _ _ _ (turn_put (by omega) hl _) hi) ((World.putObj_heap_other (by omega)).trans hk)⟩
    · exact ⟨some c, _, run_endLoop (P := P) hl (by simp [rec_]), hstop M c pre _ hD hpre (hIx _ _ _ _ (turn_put (by omega) hl _) hi) ((World.putObj_heap_other (by omega)).trans hk)⟩
end Go.Proofs.YtncolcjejgmhjaaGreatDoor
