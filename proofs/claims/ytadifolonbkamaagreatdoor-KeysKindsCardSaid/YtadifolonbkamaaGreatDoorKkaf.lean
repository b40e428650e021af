/- The walks of the developers' tables of keys: unitKeys, serviceKeys, socketKeys, timerKeys, installKeys; within, keysOf. A law for a range over an iterator whose body builds a slice of its own, in blocks made behind the iterator's. -/
import Derived.Test.YtadifolonbkamaaGreatDoorKkad
import Derived.Test.YtadifolonbkamaaGreatDoorKkae
namespace Go.Proofs.YtadifolonbkamaaGreatDoor
open Go.RowKit
/-- A key without words, as cells. -/
def Ky.raw (x : Ky) : Kr := ⟨x.s, x.n, x.f, x.l, x.k, none, 0, 0⟩
theorem raw_is {w : World} {B : Nat} {x : Ky} (h : x.w = []) : x.raw.is w B x := ⟨rfl, rfl, rfl, rfl, rfl, by rw [h]; exact RowS.none_⟩
theorem raws_are {w : World} {B : Nat} {l : List Ky} (h : ∀ x ∈ l, x.w = []) : KrsAre w B (l.map Ky.raw) l := by
  induction l with
  | nil => exact KrsAre.nil
  | cons x l ih => exact KrsAre.cons (raw_is (h x (by simp))) (ih fun y hy => h y (by simp [hy]))
/-- A table of keys in a block of its own. -/
def TabP (l : List Ky) (w : World) (e : Ending) (w' : World) : Prop :=
  ∃ (g : Nat) (rs : List Kr), e = .returned (.slice (some ⟨g, 0, none⟩) l.length l.length) ∧ w.heap.size ≤ g ∧ Blk w' g 28 (krs rs).toArray ∧ KrsAre w' g rs l ∧ Below w.heap.size w w'
theorem TabP.plain {l : List Ky} {w : World} {cs : Array Value} (h : ∀ x ∈ l, x.w = []) (n : Nat) (hn : n = l.length) (hcs : cs = (krs (l.map Ky.raw)).toArray) : TabP l w (.returned (.slice (some ⟨w.heap.size, 0, none⟩) n n)) (w.alloc (.cells cs 28)) := by
  subst hcs
  exact ⟨w.heap.size, l.map Ky.raw, by rw [hn], Nat.le_refl _, Blk.new w _ _, raws_are h, (Below.refl _ w).alloc (Nat.le_refl _) _⟩
set_option maxRecDepth 100000 in
theorem timerKeys_any (w : World) : Calls Tryz.prog 45 #[] w (TabP tTime w) := by
  go_enter Tryz.func45, Tryz.ntmps45
  go_wp2
  go_ret
  exact TabP.plain (l := tTime) (by decide) 6 rfl (by kernel_rfl)
set_option maxRecDepth 100000 in
set_option maxHeartbeats 1000000 in
theorem unitKeys_any (w : World) : Calls Tryz.prog 42 #[] w (TabP tUnit w) := by
  go_enter Tryz.func42, Tryz.ntmps42
  go_wp2
  go_ret
  exact TabP.plain (l := tUnit) (by decide) 13 rfl (by kernel_rfl)
set_option maxRecDepth 100000 in
theorem socketKeys_any (w : World) : Calls Tryz.prog 44 #[] w (TabP tSock w) := by
  go_enter Tryz.func44, Tryz.ntmps44
  go_wp2
  go_ret
  exact TabP.plain (l := tSock) (by decide) 4 rfl (by kernel_rfl)
set_option maxRecDepth 100000 in
theorem installKeys_any (w : World) : Calls Tryz.prog 46 #[] w (TabP tInst w) := by
  go_enter Tryz.func46, Tryz.ntmps46
  go_wp2
  go_ret
  exact TabP.plain (l := tInst) (by decide) 5 rfl (by kernel_rfl)
/-- A row of texts in a block. -/
theorem rowS_blk {w : World} {g n : Nat} {l : List (List UInt8)} {B : Nat} (h : Blk w g 9 (wcells l).toArray) (hl : l.length = n) (hn : n ≤ maxLen) (hB : g < B) : RowS w B (some ⟨g, 0, none⟩) n l := by
  refine ⟨?_, fun ad e => by cases e; exact ⟨hB, _, _, h⟩⟩
  refine ⟨hl, hn, fun _ => ⟨⟨g, 0, none⟩, rfl, hB, fun j x hj => ?_⟩⟩
  have : (⟨g, 0, none⟩ : Addr).add j = ⟨g, j, none⟩ := by unfold Addr.add; split <;> simp_all
  rw [this, h.cell j]
  unfold wcells
  simp [hj]
def wType : List (List UInt8) := [[115, 105, 109, 112, 108, 101], [111, 110, 101, 115, 104, 111, 116], [110, 111, 116, 105, 102, 121]]
def wRest : List (List UInt8) := [[110, 111], [111, 110, 45, 115, 117, 99, 99, 101, 115, 115], [111, 110, 45, 102, 97, 105, 108, 117, 114, 101], [111, 110, 45, 97, 98, 110, 111, 114, 109, 97, 108], [97, 108, 119, 97, 121, 115]]
/-- The service's keys as cells: two of them with words. -/
def servRs (g : Nat) : List Kr := [⟨[], [84, 121, 112, 101], 10, false, 0, some ⟨g, 0, none⟩, 3, 3⟩,
  ⟨[], [69, 120, 101, 99, 83, 116, 97, 114, 116, 80, 114, 101], 7, true, 0, none, 0, 0⟩,
  ⟨[], [69, 120, 101, 99, 83, 116, 97, 114, 116], 7, true, 0, none, 0, 0⟩,
  ⟨[], [69, 120, 101, 99, 83, 116, 97, 114, 116, 80, 111, 115, 116], 7, true, 0, none, 0, 0⟩,
  ⟨[], [69, 120, 101, 99, 83, 116, 111, 112], 7, true, 0, none, 0, 0⟩,
  ⟨[], [69, 120, 101, 99, 82, 101, 108, 111, 97, 100], 7, true, 0, none, 0, 0⟩,
  ⟨[], [82, 101, 109, 97, 105, 110, 65, 102, 116, 101, 114, 69, 120, 105, 116], 2, false, 0, none, 0, 0⟩,
  ⟨[], [82, 101, 115, 116, 97, 114, 116], 10, false, 0, some ⟨g + 1, 0, none⟩, 5, 5⟩,
  ⟨[], [82, 101, 115, 116, 97, 114, 116, 83, 101, 99], 4, false, 0, none, 0, 0⟩,
  ⟨[], [84, 105, 109, 101, 111, 117, 116, 83, 116, 97, 114, 116, 83, 101, 99], 4, false, 0, none, 0, 0⟩,
  ⟨[], [84, 105, 109, 101, 111, 117, 116, 83, 116, 111, 112, 83, 101, 99], 4, false, 0, none, 0, 0⟩,
  ⟨[], [83, 117, 99, 99, 101, 115, 115, 69, 120, 105, 116, 83, 116, 97, 116, 117, 115], 11, true, 0, none, 0, 0⟩,
  ⟨[], [69, 110, 118, 105, 114, 111, 110, 109, 101, 110, 116], 8, true, 0, none, 0, 0⟩,
  ⟨[], [83, 111, 99, 107, 101, 116, 115], 6, true, 0, none, 0, 0⟩]
set_option maxRecDepth 100000 in
theorem serv_are (w : World) (g : Nat) (h1 : Blk w g 9 (wcells wType).toArray) (h2 : Blk w (g + 1) 9 (wcells wRest).toArray) (B : Nat) (hB : g + 2 ≤ B) : KrsAre w B (servRs g) tServ := by
  have r1 : RowS w B (some ⟨g, 0, none⟩) 3 wType := rowS_blk h1 rfl (by decide) (by omega)
  have r2 : RowS w B (some ⟨g + 1, 0, none⟩) 5 wRest := rowS_blk h2 rfl (by decide) (by omega)
  have r0 : RowS w B none 0 [] := RowS.none_
  refine KrsAre.cons ⟨rfl, rfl, rfl, rfl, rfl, r1⟩ ?_
  refine KrsAre.cons ⟨rfl, rfl, rfl, rfl, rfl, r0⟩ ?_
  refine KrsAre.cons ⟨rfl, rfl, rfl, rfl, rfl, r0⟩ ?_
  refine KrsAre.cons ⟨rfl, rfl, rfl, rfl, rfl, r0⟩ ?_
  refine KrsAre.cons ⟨rfl, rfl, rfl, rfl, rfl, r0⟩ ?_
  refine KrsAre.cons ⟨rfl, rfl, rfl, rfl, rfl, r0⟩ ?_
  refine KrsAre.cons ⟨rfl, rfl, rfl, rfl, rfl, r0⟩ ?_
  refine KrsAre.cons ⟨rfl, rfl, rfl, rfl, rfl, r2⟩ ?_
  refine KrsAre.cons ⟨rfl, rfl, rfl, rfl, rfl, r0⟩ ?_
  refine KrsAre.cons ⟨rfl, rfl, rfl, rfl, rfl, r0⟩ ?_
  refine KrsAre.cons ⟨rfl, rfl, rfl, rfl, rfl, r0⟩ ?_
  refine KrsAre.cons ⟨rfl, rfl, rfl, rfl, rfl, r0⟩ ?_
  refine KrsAre.cons ⟨rfl, rfl, rfl, rfl, rfl, r0⟩ ?_
  refine KrsAre.cons ⟨rfl, rfl, rfl, rfl, rfl, r0⟩ ?_
  exact KrsAre.nil
theorem TabP.serv {w : World} {c1 c2 c3 : Array Value} (h1 : c1 = (wcells wType).toArray) (h2 : c2 = (wcells wRest).toArray) (h3 : c3 = (krs (servRs w.heap.size)).toArray) :
    TabP tServ w (.returned (.slice (some ⟨w.heap.size + 1 + 1, 0, none⟩) 14 14)) (((w.alloc (.cells c1 9)).alloc (.cells c2 9)).alloc (.cells c3 28)) := by
  subst h1 h2 h3
  have b1 : Blk ((w.alloc (.cells (wcells wType).toArray 9)).alloc (.cells (wcells wRest).toArray 9)) w.heap.size 9 (wcells wType).toArray := (Blk.new w _ _).alloc _
  have b2 : Blk ((w.alloc (.cells (wcells wType).toArray 9)).alloc (.cells (wcells wRest).toArray 9)) (w.heap.size + 1) 9 (wcells wRest).toArray := by
    have := Blk.new (w.alloc (.cells (wcells wType).toArray 9)) 9 (wcells wRest).toArray
    rwa [World.size_alloc] at this
  refine ⟨w.heap.size + 1 + 1, servRs w.heap.size, rfl, by omega, ?_, serv_are _ _ (b1.alloc _) (b2.alloc _) _ (by omega), ?_⟩
  · have := Blk.new ((w.alloc (.cells (wcells wType).toArray 9)).alloc (.cells (wcells wRest).toArray 9)) 28 (krs (servRs w.heap.size)).toArray
    rw [World.size_alloc, World.size_alloc] at this
    exact this
  · exact (((Below.refl _ w).alloc (Nat.le_refl _) _).alloc (by simp) _).alloc (by simp; omega) _
set_option maxRecDepth 100000 in
set_option maxHeartbeats 1000000 in
theorem serviceKeys_any (w : World) : Calls Tryz.prog 43 #[] w (TabP tServ w) := by
  go_enter Tryz.func43, Tryz.ntmps43
  go_wp2
  go_ret
  exact TabP.serv (by kernel_rfl) (by kernel_rfl) (by kernel_rfl)
/-- Cells with a section and kinds filled in. -/
def Kr.into (s : List UInt8) (k : Int) (r : Kr) : Kr := { r with s := s, k := k }
theorem krs_set0 (a b : List Kr) (r : Kr) (s : List UInt8) : (krs (a ++ r :: b)).toArray.setIfInBounds (a.length * 6) (.string (str s)) = (krs (a ++ { r with s := s } :: b)).toArray := by
  apply Array.toList_inj.1
  rw [Array.toList_setIfInBounds, krs_append, krs_append, List.toList_toArray, List.toList_toArray]
  rw [List.set_append, if_neg (by rw [krs_length]; omega), krs_length, Nat.sub_self]
  rfl
theorem krs_set4 (a b : List Kr) (r : Kr) (k : Int) : (krs (a ++ r :: b)).toArray.setIfInBounds (a.length * 6 + 4) (.int .i64 k) = (krs (a ++ { r with k := k } :: b)).toArray := by
  apply Array.toList_inj.1
  rw [Array.toList_setIfInBounds, krs_append, krs_append, List.toList_toArray, List.toList_toArray]
  rw [List.set_append, if_neg (by rw [krs_length]; omega), krs_length, show a.length * 6 + 4 - a.length * 6 = 4 by omega]
  rfl
end Go.Proofs.YtadifolonbkamaaGreatDoor
namespace Go.Proofs.YtadifolonbkamaaGreatDoor
open Go.RowKit
variable {F : Fence} {n : Nat} {P : Program}
/-- The iterator's blocks stand, and the loop's own two. -/
def Stand (C D l : Nat) (W W' : World) : Prop := Kept C D W W' ∧ Kept (l - 1) (l + 1) W W'
/-- One block alone has turned: the iterator's first, or the loop's own record. -/
def Turn (C : Nat) (X Y : World) : Prop := ∃ k, (k = C ∨ C ≤ k ∧ ∃ y, X.heap[k]? = some (.loop y)) ∧ X.grownBy Y (some k)
theorem turn_put {C : Nat} {X : World} {l : Nat} {y : Loop} (hl : C ≤ l) (h : X.heap[l]? = some (.loop y)) (o : Obj) : Turn C X (X.putObj l o) :=
  ⟨l, .inr ⟨hl, y, h⟩, ⟨rfl, rfl, rfl, by simp, fun k _ hne => World.putObj_heap_other (fun e => hne (by rw [e]))⟩⟩
/-- How a round's body may be left. -/
def bodyD {α : Type} (C D l : Nat) (I : List α → World → Prop) (Ix : Code → List α → World → Prop) (xs : List α) (W : World) : Exit → Act → World → Prop
  | .normal, _, W' => Stand C D l W W' ∧ I xs W'
  | .ret, _, W' => Stand C D l W W' ∧ Ix .ret xs W'
  | .exit id, _, W' => Stand C D l W W' ∧ Ix (.exit id) xs W'
  | .goto t, _, W' => Stand C D l W W' ∧ Ix (.goto t) xs W'
  | .panic _, _, _ => False
  | .outgrown, _, _ => False
theorem range_boxD {α : Type} {g : Operand} {p : Tmp} {assign body : Code} {Q : Exit → Act → World → Prop} {a : Act} {w : World}
    (hro : F.round = none) (h1 : 1 ≤ n) {gf : Nat} {lb : Array Value} (hg : a.eval g = .func (.func gf) #[] lb) (hFg : F.fn gf) (eg : ∀ args w, (callFunc gf args).run P w = .ok (.enter gf args) w)
    {enc : α → Value} {C D : Nat} {xs0 : List α} (hC : C < D) (hD : D ≤ w.heap.size) (hseq : SeqC F (n - 1) P gf lb enc C D xs0 w)
    (I : List α → World → Prop) (Ix : Code → List α → World → Prop) (hI0 : ∀ s X Y, I s X → Below X.heap.size X Y → I s Y) (hI : ∀ s X Y, Turn C X Y → I s X → I s Y) (hIx : ∀ c s X Y, Turn C X Y → Ix c s X → Ix c s Y) (h0 : I [] w) (a₁ : α → Act)
    (hassign : ∀ (l : Nat) (x : α) (W : World) (K : Act → World → Prop), K (a₁ x) W →
      assign.wpIn (F.inRound l) (n - 1 - 1) P (Exit.then K (fun _ _ _ => False)) { tmps := a.tmps.setIfInBounds p (enc x), defers := [] } W)
    (hbody : ∀ (l : Nat) (pre : List α) (x : α) (post : List α) (W : World), xs0 = pre ++ x :: post → I pre W → D ≤ W.heap.size → D + 1 ≤ l → (∃ y, W.heap[l]? = some (.loop y)) → W.heap[l - 1]? = some (.deferred (some [])) → body.wpIn (F.inRound l) (n - 1 - 1) P (bodyD C D l I Ix (pre ++ [x]) W) (a₁ x) W)
    (hdone : ∀ (M : Nat) (W : World), D ≤ M → I xs0 W → W.heap[M]? = some (.deferred (some [])) → Q .normal { a with defers := { target := .collected M, args := #[] } :: a.defers } W)
    (hstop : ∀ (M : Nat) (c : Code) (pre : List α) (W : World), D ≤ M → pre <+: xs0 → Ix c pre W → W.heap[M]? = some (.deferred (some [])) → c.wpIn F n P Q { a with defers := { target := .collected M, args := #[] } :: a.defers } W) :
    (Code.rangeFunc g #[p] assign body).wpIn F n P Q a w := by
  refine wpIn_rangeFunc fun fn hfn => ?_
  rw [hro]
  let M := w.heap.size
  let rec_ : LoopState → Option Code → Loop := fun st pe => { state := st, pending := pe, fn, tmps := a.tmps, params := #[p], assign, body, defers := M }
  let W1 := (w.alloc (.deferred (some []))).alloc (.loop (rec_ .ready none))
  have q0 : W1.heap.size = M + 1 + 1 := by simp [W1, M]
  have qM : W1.heap[M]? = some (.deferred (some [])) := (Below.heap_alloc _ _ _ (by simp [M])).trans (World.alloc_heap_new w _)
  have qL : W1.heap[M + 1]? = some (.loop (rec_ .ready none)) := by
    have := World.alloc_heap_new (w.alloc (.deferred (some []))) (.loop (rec_ .ready none))
    rwa [World.size_alloc] at this
  have qb : Below w.heap.size w W1 := ((Below.refl _ w).alloc (Nat.le_refl _) _).alloc (by simp) _
  refine ⟨M + 1, [{ target := .collected M, args := #[] }], W1, { target := .fn (.func gf) lb, args := #[.func (.yield (M + 1)) #[] #[]] }, W1, gf,
    #[.func (.yield (M + 1)) #[] #[]] ++ lb, W1, run_enterLoop_outer _ _ _ _ _, ?_, ?_, ?_, fun _ => h1, ?_⟩
  · simp only [resolve, hg]; simp [go_sem]
  · intro f' hf'; simp [Target.leads] at hf'; subst hf'; exact hFg
  · simp [invoke, go_sem, eg]
  have far : ∀ (X Y : World) (i : Nat) (o : Obj), X.heap[i]? = some o → X.grownBy Y (some C) → C < i → Y.heap[i]? = some o := fun X Y i o hx hy hi =>
    (hy.block i (Array.getElem?_eq_some_iff.1 hx).1 (fun e => by injection e with e; omega)).trans hx
  refine (hseq (M + 1)
    (fun pre W => I pre W ∧ W.heap[M + 1]? = some (.loop (rec_ .ready none)) ∧ W.heap[M]? = some (.deferred (some [])))
    (fun pre W => ∃ c, Ix c pre W ∧ W.heap[M + 1]? = some (.loop (rec_ .done (some c))) ∧ W.heap[M]? = some (.deferred (some [])))
    W1 qb
    (by rintro s X Y ⟨a1, a2, a3⟩ hy; exact ⟨hI s X Y ⟨C, .inl rfl, hy⟩ a1, far X Y _ _ a2 hy (by omega), far X Y _ _ a3 hy (by omega)⟩)
    (by rintro s X Y ⟨c, a1, a2, a3⟩ hy; exact ⟨c, hIx c s X Y ⟨C, .inl rfl, hy⟩ a1, far X Y _ _ a2 hy (by omega), far X Y _ _ a3 hy (by omega)⟩)
    ?_ ⟨hI0 _ _ _ h0 qb, qL, qM⟩).mono ?_
  · rintro pre x post W hxs ⟨hi, hl, hk⟩
    have hlt : M + 1 < W.heap.size := (Array.getElem?_eq_some_iff.1 hl).1
    let W2 := W.putObj (M + 1) (.loop { rec_ .ready none with state := .busy })
    have hl2 : W2.heap[M + 1]? = some (.loop { rec_ .ready none with state := .busy }) := World.putObj_heap_same hlt
    have hk2 : W2.heap[M]? = some (.deferred (some [])) := (World.putObj_heap_other (by omega)).trans hk
    have hz2 : W2.heap.size = W.heap.size := by simp [W2]
    have hy := run_yield (P := P) (args := #[enc x]) hl rfl
    refine ⟨fn, a.tmps.setIfInBounds p (enc x), assign, body, hy.trans (by simp [rec_]), roundIn_of_wpIn hfn ?_⟩
    refine hassign _ x W _ ?_
    refine ⟨W2, run_beginRound hl rfl, ?_⟩
    refine wpIn_mono (hbody _ pre x post W2 hxs (hI _ _ _ (turn_put (by omega) hl _) hi) (by omega) (by omega) ⟨_, hl2⟩ (by rw [Nat.add_sub_cancel]; exact hk2)) ?_
    have fin : ∀ (jump : Option Code) (W3 : World), Stand C D (M + 1) W2 W3 →
        (Instr.endRound (M + 1) jump).run P W3 = .ok (.bool jump.isNone) (W3.putObj (M + 1) (.loop (rec_ (if jump.isNone then .ready else .done) jump))) ∧
        (W3.putObj (M + 1) (.loop (rec_ (if jump.isNone then .ready else .done) jump))).heap[M + 1]? = some (.loop (rec_ (if jump.isNone then .ready else .done) jump)) ∧
        (W3.putObj (M + 1) (.loop (rec_ (if jump.isNone then .ready else .done) jump))).heap[M]? = some (.deferred (some [])) ∧
        Turn C W3 (W3.putObj (M + 1) (.loop (rec_ (if jump.isNone then .ready else .done) jump))) ∧
        Kept C D W (W3.putObj (M + 1) (.loop (rec_ (if jump.isNone then .ready else .done) jump))) := fun jump W3 hk3 => by
      have a1 := (hk3.2 (M + 1) (by omega) (by omega)).trans hl2
      have a2 := (hk3.2 M (by omega) (by omega)).trans hk2
      exact ⟨run_endRound (P := P) jump a1, World.putObj_heap_same (Array.getElem?_eq_some_iff.1 a1).1, (World.putObj_heap_other (by omega)).trans a2, turn_put (by omega) a1 _,
        ((Kept.put W _ (by omega)).trans hk3.1).trans (Kept.put W3 _ (by omega))⟩
    rintro e a3 W3 hp
    cases e with
    | normal =>
      obtain ⟨hk3, hi3⟩ := hp
      obtain ⟨b1, b2, b3, b4, b5⟩ := fin none W3 hk3
      exact ⟨_, _, b1, .inl ⟨rfl, ⟨hI _ _ _ b4 hi3, b2, b3⟩, b5⟩⟩
    | ret =>
      obtain ⟨hk3, hi3⟩ := hp
      obtain ⟨b1, b2, b3, b4, _⟩ := fin (some .ret) W3 hk3
      exact ⟨_, _, b1, .inr ⟨rfl, .ret, hIx _ _ _ _ b4 hi3, b2, b3⟩⟩
    | exit id =>
      obtain ⟨hk3, hi3⟩ := hp
      obtain ⟨b1, b2, b3, b4, _⟩ := fin (some (.exit id)) W3 hk3
      exact ⟨_, _, b1, .inr ⟨rfl, .exit id, hIx _ _ _ _ b4 hi3, b2, b3⟩⟩
    | goto t =>
      obtain ⟨hk3, hi3⟩ := hp
      obtain ⟨b1, b2, b3, b4, _⟩ := fin (some (.goto t)) W3 hk3
      exact ⟨_, _, b1, .inr ⟨rfl, .goto t, hIx _ _ _ _ b4 hi3, b2, b3⟩⟩
    | panic ch => exact hp.elim
    | outgrown => exact hp.elim
  · rintro e W2 ⟨⟨v, rfl⟩, (⟨hi, hl, hk⟩ | ⟨pre, hpre, c, hi, hl, hk⟩)⟩
    · exact ⟨none, _, run_endLoop (P := P) hl (by simp [rec_]), hdone M _ hD (hI _ _ _ (turn_put (by omega) hl _) hi) ((World.putObj_heap_other (by omega)).trans hk)⟩
    · exact ⟨some c, _, run_endLoop (P := P) hl (by simp [rec_]), hstop M c pre _ hD hpre (hIx _ _ _ _ (turn_put (by omega) hl _) hi) ((World.putObj_heap_other (by omega)).trans hk)⟩
end Go.Proofs.YtadifolonbkamaaGreatDoor
