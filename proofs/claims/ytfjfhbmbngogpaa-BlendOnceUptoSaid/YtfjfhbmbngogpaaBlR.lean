/- A range over a function with two values, whose iterator only reads; within no round, and within another range's round; the body never leaves it. It speaks of no code. -/
import Derived.Test.YtfjfhbmbngogpaaSpK
import Derived.RangeFuncNested
import Derived.RangeFuncCalls
import Derived.RangeFuncLeaves
namespace Go.Proofs.Ytfjfhbmbngogpaa
open Go.RowKit

section
variable {F : Fence} {n : Nat} {P : Program}

/-- Between two worlds the blocks from C on, as far as D, stand as they stood. -/
def Kept (C D : Nat) (W W' : World) : Prop := ∀ i, C ≤ i → i < D → W'.heap[i]? = W.heap[i]?
theorem Kept.refl (C D : Nat) (W : World) : Kept C D W W := fun _ _ _ => rfl
theorem Kept.trans {C D : Nat} {X Y Z : World} (h : Kept C D X Y) (k : Kept C D Y Z) : Kept C D X Z := fun i a b => (k i a b).trans (h i a b)
theorem Kept.grown {C D : Nat} {X Y Z : World} {row : Option Nat} (h : Kept C D X Y) (hD : D ≤ Y.heap.size) (hg : Y.grownBy Z row) (hr : ∀ k, row = some k → k < C ∨ D ≤ k) : Kept C D X Z := fun i a b =>
  (hg.block i (by omega) (fun e => by rcases hr i e.symm with h | h <;> omega)).trans (h i a b)
theorem grown_none (X : World) (o : Obj) : X.grownBy (X.alloc o) none := World.grownBy_alloc X o none

/-- The iterator: of the list xs0 each one comes, in its order; all that it wants is that R holds whenever it goes on. -/
def SeqR {α : Type} (F : Fence) (n : Nat) (P : Program) (g : Nat) (lb : Array Value) (e1 e2 : α → Value) (xs0 : List α) (R : World → Prop) : Prop :=
  ∀ (l : Nat) (J : List α → World → Prop) (W : World), (∀ s X, J s X → R X) →
    (∀ pre x post W1, xs0 = pre ++ x :: post → J pre W1 → YieldAt F (n - 1) P l #[e1 x, e2 x] W1 fun e W' => e = .returned (.bool true) ∧ J (pre ++ [x]) W') →
    J [] W → CallsIn F n P g (#[.func (.yield l) #[] #[]] ++ lb) W fun e W' => (∃ v, e = .returned v) ∧ J xs0 W'
theorem SeqR.inRound {α : Type} {g : Nat} {lb : Array Value} {e1 e2 : α → Value} {xs0 : List α} {R : World → Prop} (l : Nat) (h : SeqR F n P g lb e1 e2 xs0 R) : SeqR (F.inRound l) n P g lb e1 e2 xs0 R := h

/-- How a round's body may be left. -/
def bodyR {α : Type} (M D : Nat) (I : List α → World → Prop) (xs : List α) (W : World) : Exit → Act → World → Prop
  | .normal, _, W' => Kept M D W W' ∧ I xs W'
  | .ret, _, _ => False
  | .exit _, _, _ => False
  | .goto _, _, _ => False
  | .panic _, _, _ => False
  | .outgrown, _, _ => False
/-- One round: the loop's variables are laid, then the body is gone through. -/
def RoundR {α : Type} (F : Fence) (n : Nat) (P : Program) (M D l : Nat) (a : Act) (p q : Tmp) (assign body : Code) (e1 e2 : α → Value) (I : List α → World → Prop) (pre : List α) (x : α) (W : World) : Prop :=
  assign.wpIn (F.inRound l) (n - 1 - 1) P (Exit.then (fun a' W' => Kept M D W W' ∧ W.heap.size ≤ W'.heap.size ∧
    ∀ W2, W'.grownBy W2 (some l) → (∃ r, W'.heap[l]? = some (.loop r)) → (∃ r, W2.heap[l]? = some (.loop r)) → body.wpIn (F.inRound l) (n - 1 - 1) P (bodyR M D I (pre ++ [x]) W2) a' W2) (fun _ _ _ => False))
    { tmps := (a.tmps.setIfInBounds p (e1 x)).setIfInBounds q (e2 x), defers := [] } W

theorem range_out {α : Type} {g : Operand} {p q : Tmp} {assign body : Code} {Q : Exit → Act → World → Prop} {a : Act} {w : World}
    (hro : F.round = none) (h1 : 1 ≤ n) {gf : Nat} {lb : Array Value} (hg : a.eval g = .func (.func gf) #[] lb) (hFg : F.fn gf) (eg : ∀ args w, (callFunc gf args).run P w = .ok (.enter gf args) w)
    {e1 e2 : α → Value} {xs0 : List α} {R : World → Prop} (hseq : SeqR F (n - 1) P gf lb e1 e2 xs0 R)
    (I : List α → World → Prop) (hR : ∀ s X, I s X → R X) (hI : OwnFrom w.heap.size I) (h0 : I [] w)
    (hround : ∀ (l : Nat) (pre : List α) (x : α) (post : List α) (W : World), xs0 = pre ++ x :: post → I pre W → w.heap.size ≤ l → l < w.heap.size + 2 → w.heap.size + 2 ≤ W.heap.size →
      RoundR F n P w.heap.size (w.heap.size + 2) l a p q assign body e1 e2 I pre x W)
    (hdone : ∀ (M : Nat) (W : World), w.heap.size ≤ M → M < w.heap.size + 2 → I xs0 W → W.heap[M]? = some (.deferred (some [])) → Q .normal { a with defers := { target := .collected M, args := #[] } :: a.defers } W) :
    (Code.rangeFunc g #[p, q] assign body).wpIn F n P Q a w := by
  refine wpIn_rangeFunc fun fn hfn => ?_
  rw [hro]
  let M := w.heap.size
  let rec_ : LoopState → Option Code → Loop := fun st pe => { state := st, pending := pe, fn, tmps := a.tmps, params := #[p, q], assign, body, defers := M }
  let W1 := (w.alloc (.deferred (some []))).alloc (.loop (rec_ .ready none))
  have q0 : W1.heap.size = M + 1 + 1 := by simp [W1, M]
  have qM : W1.heap[M]? = some (.deferred (some [])) := (Below.heap_alloc _ _ _ (by simp [M])).trans (World.alloc_heap_new w _)
  have qL : W1.heap[M + 1]? = some (.loop (rec_ .ready none)) := by
    have := World.alloc_heap_new (w.alloc (.deferred (some []))) (.loop (rec_ .ready none))
    rwa [World.size_alloc] at this
  refine ⟨M + 1, [{ target := .collected M, args := #[] }], W1, { target := .fn (.func gf) lb, args := #[.func (.yield (M + 1)) #[] #[]] }, W1, gf,
    #[.func (.yield (M + 1)) #[] #[]] ++ lb, W1, run_enterLoop_outer _ _ _ _ _, ?_, ?_, ?_, fun _ => h1, ?_⟩
  · simp only [resolve, hg]; simp [go_sem]
  · intro f' hf'; simp [Target.leads] at hf'; subst hf'; exact hFg
  · simp [invoke, go_sem, eg]
  refine (hseq (M + 1)
    (fun pre W => I pre W ∧ W.heap[M + 1]? = some (.loop (rec_ .ready none)) ∧ W.heap[M]? = some (.deferred (some [])))
    W1 (fun s X h => hR s X h.1) ?_ ⟨hI.alloc _ (hI.alloc _ h0), qL, qM⟩).mono ?_
  · rintro pre x post W hxs ⟨hi, hl, hk⟩
    have hlt : M + 1 < W.heap.size := (Array.getElem?_eq_some_iff.1 hl).1
    have hy := run_yield (P := P) (args := #[e1 x, e2 x]) hl rfl
    refine ⟨fn, (a.tmps.setIfInBounds p (e1 x)).setIfInBounds q (e2 x), assign, body, hy.trans (by simp [rec_]), roundIn_of_wpIn hfn ?_⟩
    refine wpIn_mono (hround (M + 1) pre x post W hxs hi (by omega) (by omega) (by omega)) ?_
    rintro e a' Wa hp
    cases e with
    | normal =>
      obtain ⟨hka, hsa, hbd⟩ := hp
      have hla := (hka (M + 1) (by omega) (by omega)).trans hl
      have hma := (hka M (by omega) (by omega)).trans hk
      have hlta : M + 1 < Wa.heap.size := (Array.getElem?_eq_some_iff.1 hla).1
      let W2 := Wa.putObj (M + 1) (.loop { rec_ .ready none with state := .busy })
      have hl2 : W2.heap[M + 1]? = some (.loop { rec_ .ready none with state := .busy }) := World.putObj_heap_same hlta
      have hk2 : W2.heap[M]? = some (.deferred (some [])) := (World.putObj_heap_other (by omega)).trans hma
      refine ⟨W2, run_beginRound hla rfl, ?_⟩
      refine wpIn_mono (hbd W2 (grownBy_putObj' Wa _ _) ⟨_, hla⟩ ⟨_, hl2⟩) ?_
      rintro e a3 W3 hp
      cases e with
      | normal =>
        obtain ⟨hk3, hi3⟩ := hp
        have a1 := (hk3 (M + 1) (by omega) (by omega)).trans hl2
        have a2 := (hk3 M (by omega) (by omega)).trans hk2
        exact ⟨_, _, run_endRound (P := P) none a1, rfl, hI.putObj _ hi3 (by omega) a1 rfl, World.putObj_heap_same (Array.getElem?_eq_some_iff.1 a1).1, (World.putObj_heap_other (by omega)).trans a2⟩
      | ret => exact hp.elim
      | exit id => exact hp.elim
      | goto t => exact hp.elim
      | panic ch => exact hp.elim
      | outgrown => exact hp.elim
    | ret => exact hp.elim
    | exit id => exact hp.elim
    | goto t => exact hp.elim
    | panic ch => exact hp.elim
    | outgrown => exact hp.elim
  · rintro e W2 ⟨⟨v, rfl⟩, hi, hl, hk⟩
    exact ⟨none, _, run_endLoop (P := P) hl (by simp [rec_]), hdone M _ (Nat.le_refl _) (by omega) (hI.putObj _ hi (by omega) hl rfl) ((World.putObj_heap_other (by omega)).trans hk)⟩

theorem range_in {α : Type} {g : Operand} {p q : Tmp} {assign body : Code} {Q : Exit → Act → World → Prop} {a : Act} {w : World} {l₀ : Nat} {r₀ : Loop}
    (hro : F.round = some l₀) (hl₀ : w.heap[l₀]? = some (.loop r₀)) (h1 : 1 ≤ n) {gf : Nat} {lb : Array Value} (hg : a.eval g = .func (.func gf) #[] lb) (hFg : F.fn gf) (eg : ∀ args w, (callFunc gf args).run P w = .ok (.enter gf args) w)
    {e1 e2 : α → Value} {xs0 : List α} {R : World → Prop} (hseq : SeqR F (n - 1) P gf lb e1 e2 xs0 R)
    (I : List α → World → Prop) (hR : ∀ s X, I s X → R X) (hI : OwnFrom w.heap.size I) (h0 : I [] w)
    (hround : ∀ (l : Nat) (pre : List α) (x : α) (post : List α) (W : World), xs0 = pre ++ x :: post → I pre W → w.heap.size ≤ l → l < w.heap.size + 1 → w.heap.size + 1 ≤ W.heap.size →
      RoundR F n P w.heap.size (w.heap.size + 1) l a p q assign body e1 e2 I pre x W)
    (hdone : ∀ W : World, I xs0 W → Q .normal a W) :
    (Code.rangeFunc g #[p, q] assign body).wpIn F n P Q a w := by
  refine wpIn_rangeFunc fun fn hfn => ?_
  rw [hro]
  let M := w.heap.size
  let rec_ : LoopState → Option Code → Loop := fun st pe => { state := st, pending := pe, fn, tmps := a.tmps, params := #[p, q], assign, body, defers := r₀.defers }
  let W1 := w.alloc (.loop (rec_ .ready none))
  have q0 : W1.heap.size = M + 1 := by simp [W1, M]
  have qL : W1.heap[M]? = some (.loop (rec_ .ready none)) := World.alloc_heap_new w _
  refine ⟨M, [], W1, { target := .fn (.func gf) lb, args := #[.func (.yield M) #[] #[]] }, W1, gf,
    #[.func (.yield M) #[] #[]] ++ lb, W1, run_enterLoop_inner hl₀ _ _ _ _ _, ?_, ?_, ?_, fun _ => h1, ?_⟩
  · simp only [resolve, hg]; simp [go_sem]
  · intro f' hf'; simp [Target.leads] at hf'; subst hf'; exact hFg
  · simp [invoke, go_sem, eg]
  refine (hseq M (fun pre W => I pre W ∧ W.heap[M]? = some (.loop (rec_ .ready none))) W1 (fun s X h => hR s X h.1) ?_ ⟨hI.alloc _ h0, qL⟩).mono ?_
  · rintro pre x post W hxs ⟨hi, hl⟩
    have hlt : M < W.heap.size := (Array.getElem?_eq_some_iff.1 hl).1
    have hy := run_yield (P := P) (args := #[e1 x, e2 x]) hl rfl
    refine ⟨fn, (a.tmps.setIfInBounds p (e1 x)).setIfInBounds q (e2 x), assign, body, hy.trans (by simp [rec_]), roundIn_of_wpIn hfn ?_⟩
    refine wpIn_mono (hround M pre x post W hxs hi (by omega) (by omega) (by omega)) ?_
    rintro e a' Wa hp
    cases e with
    | normal =>
      obtain ⟨hka, hsa, hbd⟩ := hp
      have hla := (hka M (by omega) (by omega)).trans hl
      have hlta : M < Wa.heap.size := (Array.getElem?_eq_some_iff.1 hla).1
      let W2 := Wa.putObj M (.loop { rec_ .ready none with state := .busy })
      have hl2 : W2.heap[M]? = some (.loop { rec_ .ready none with state := .busy }) := World.putObj_heap_same hlta
      refine ⟨W2, run_beginRound hla rfl, ?_⟩
      refine wpIn_mono (hbd W2 (grownBy_putObj' Wa _ _) ⟨_, hla⟩ ⟨_, hl2⟩) ?_
      rintro e a3 W3 hp
      cases e with
      | normal =>
        obtain ⟨hk3, hi3⟩ := hp
        have a1 := (hk3 M (by omega) (by omega)).trans hl2
        exact ⟨_, _, run_endRound (P := P) none a1, rfl, hI.putObj _ hi3 (by omega) a1 rfl, World.putObj_heap_same (Array.getElem?_eq_some_iff.1 a1).1⟩
      | ret => exact hp.elim
      | exit id => exact hp.elim
      | goto t => exact hp.elim
      | panic ch => exact hp.elim
      | outgrown => exact hp.elim
    | ret => exact hp.elim
    | exit id => exact hp.elim
    | goto t => exact hp.elim
    | panic ch => exact hp.elim
    | outgrown => exact hp.elim
  · rintro e W2 ⟨⟨v, rfl⟩, hi, hl⟩
    exact ⟨none, _, run_endLoop (P := P) hl (by simp [rec_]), hdone _ (hI.putObj _ hi (by omega) hl rfl)⟩
end
end Go.Proofs.Ytfjfhbmbngogpaa
