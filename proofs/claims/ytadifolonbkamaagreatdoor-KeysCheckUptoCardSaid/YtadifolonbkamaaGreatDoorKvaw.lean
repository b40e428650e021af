/- The walk of the developers' isListOf at matins/keys.isUnit. -/
import Derived.Test.YtadifolonbkamaaGreatDoorKvam
namespace Go.Proofs.YtadifolonbkamaaGreatDoor
open Go.RowKit
attribute [local go_sem] Oper.semAt_some
theorem turn_blk {C g : Nat} {X Y : World} {t : TypeId} {cs : Array Value} (ht : Turn C X Y) (h : Blk X g t cs) (hg : g ≠ C) : Blk Y g t cs := by
  obtain ⟨k, hk, hy⟩ := ht
  refine (hy.block g h.lt ?_).trans h
  intro e
  have e : k = g := by injection e with e; exact e.symm
  rcases hk with hk | ⟨_, y, hk⟩
  · exact hg (by omega)
  · rw [e] at hk
    unfold Blk at h
    rw [h] at hk; cases hk
theorem turn_below {C B : Nat} {w X Y : World} (ht : Turn C X Y) (h : Below B w X) (hB : B ≤ C) (hs : C < X.heap.size) : Below B w Y := by
  obtain ⟨k, hk, hy⟩ := ht
  refine h.trans ⟨hy.os, hy.tape, hy.output, hy.size, fun i hi => hy.block i (by omega) ?_⟩
  intro e
  have e : k = i := by injection e with e; exact e.symm
  rcases hk with hk | ⟨hk, _⟩ <;> omega
theorem blankSeq_any (s : ByteArray) (w : World) :
    Calls Tryz.prog 75 #[.string s, .string ⟨#[32]⟩] w fun e w' => e = .returned (.func (.func 124) #[] #[.pointer (some ⟨w.heap.size + 1, 0, none⟩), .pointer (some ⟨w.heap.size, 0, none⟩), .pointer (some ⟨w.heap.size + 2, 0, none⟩)]) ∧
      w' = ((w.alloc (.cells #[.string s] 9)).alloc (.cells #[.string ⟨#[32]⟩] 9)).alloc (.cells #[.int .i64 0] 3) := by
  go_enter Tryz.func75, Tryz.ntmps75
  go_wp2
  go_ret
  exact ⟨rfl, rfl⟩
theorem boxes6 (w : World) (t0 t1 t2 : TypeId) (c0 c1 c2 : Value) (s : ByteArray) (W0 : World)
    (hW : W0 = (((((w.alloc (.cells #[c0] t0)).alloc (.cells #[c1] t1)).alloc (.cells #[c2] t2)).alloc (.cells #[.string s] 9)).alloc (.cells #[.string ⟨#[32]⟩] 9)).alloc (.cells #[.int .i64 0] 3)) :
    Below w.heap.size w W0 ∧ Blk W0 w.heap.size t0 #[c0] ∧ Blk W0 (w.heap.size + 1) t1 #[c1] ∧ Blk W0 (w.heap.size + 1 + 1) t2 #[c2] ∧ SplitAt (w.heap.size + 1 + 1 + 1) s W0 ∧ W0.heap.size = w.heap.size + 1 + 1 + 1 + 3 := by
  subst hW
  have a0 := Blk.new w t0 #[c0]
  have z0 := World.size_alloc w (.cells #[c0] t0)
  have b0 : Below w.heap.size w _ := (Below.refl _ w).alloc (Nat.le_refl _) (.cells #[c0] t0)
  generalize w.alloc (.cells #[c0] t0) = w0 at *
  have a1 := Blk.new w0 t1 #[c1]
  have z1 := World.size_alloc w0 (.cells #[c1] t1)
  have b1 := b0.alloc (by omega) (.cells #[c1] t1)
  replace a0 := a0.alloc (.cells #[c1] t1)
  generalize w0.alloc (.cells #[c1] t1) = w1 at *
  have a2 := Blk.new w1 t2 #[c2]
  have z2 := World.size_alloc w1 (.cells #[c2] t2)
  have b2 := b1.alloc (by omega) (.cells #[c2] t2)
  replace a0 := a0.alloc (.cells #[c2] t2)
  replace a1 := a1.alloc (.cells #[c2] t2)
  generalize w1.alloc (.cells #[c2] t2) = w2 at *
  have a3 := Blk.new w2 9 #[.string s]
  have z3 := World.size_alloc w2 (.cells #[.string s] 9)
  have b3 := b2.alloc (by omega) (.cells #[.string s] 9)
  replace a0 := a0.alloc (.cells #[.string s] 9)
  replace a1 := a1.alloc (.cells #[.string s] 9)
  replace a2 := a2.alloc (.cells #[.string s] 9)
  generalize w2.alloc (.cells #[.string s] 9) = w3 at *
  have a4 := Blk.new w3 9 #[.string ⟨#[32]⟩]
  have z4 := World.size_alloc w3 (.cells #[.string ⟨#[32]⟩] 9)
  have b4 := b3.alloc (by omega) (.cells #[.string ⟨#[32]⟩] 9)
  replace a0 := a0.alloc (.cells #[.string ⟨#[32]⟩] 9)
  replace a1 := a1.alloc (.cells #[.string ⟨#[32]⟩] 9)
  replace a2 := a2.alloc (.cells #[.string ⟨#[32]⟩] 9)
  replace a3 := a3.alloc (.cells #[.string ⟨#[32]⟩] 9)
  generalize w3.alloc (.cells #[.string ⟨#[32]⟩] 9) = w4 at *
  have a5 := Blk.new w4 3 #[.int .i64 0]
  have z5 := World.size_alloc w4 (.cells #[.int .i64 0] 3)
  have b5 := b4.alloc (by omega) (.cells #[.int .i64 0] 3)
  replace a0 := a0.alloc (.cells #[.int .i64 0] 3)
  replace a1 := a1.alloc (.cells #[.int .i64 0] 3)
  replace a2 := a2.alloc (.cells #[.int .i64 0] 3)
  replace a3 := a3.alloc (.cells #[.int .i64 0] 3)
  replace a4 := a4.alloc (.cells #[.int .i64 0] 3)
  rw [z0] at a1 z1
  rw [z1] at a2 z2
  rw [z2] at a3 z3
  rw [z3] at a4 z4
  rw [z4] at a5 z5
  exact ⟨b5, a0, a1, a2, ⟨a3, a4, a5⟩, z5⟩
def pieceOk (p : ByteArray → Bool) (x : ByteArray) : Bool := x.toList.isEmpty || p x
def goodU (p : ByteArray → Bool) (l : List ByteArray) : Bool := l.all (pieceOk p)
def foundU (l : List ByteArray) : Bool := l.any fun x => !x.toList.isEmpty
def listS (p : ByteArray → Bool) (s : ByteArray) : Bool := goodU p (piecesS s) && foundU (piecesS s)
theorem goodU_snoc (p : ByteArray → Bool) (l : List ByteArray) (x : ByteArray) : goodU p (l ++ [x]) = (goodU p l && pieceOk p x) := by simp [goodU]
theorem foundU_snoc (l : List ByteArray) (x : ByteArray) : foundU (l ++ [x]) = (foundU l || !x.toList.isEmpty) := by simp [foundU]
def UI (F : TypeId) (f : FuncId) (p : ByteArray → Bool) (w : World) (pre : List ByteArray) (W : World) : Prop :=
  goodU p pre = true ∧ Blk W w.heap.size F #[.func (.func f) #[] #[]] ∧ Blk W (w.heap.size + 1) 4 #[.bool false] ∧ Blk W (w.heap.size + 1 + 1) 4 #[.bool (foundU pre)] ∧ Below w.heap.size w W ∧ w.heap.size + 1 + 1 + 1 + 3 ≤ W.heap.size
def UX (p : ByteArray → Bool) (w : World) (c : Code) (pre : List ByteArray) (W : World) : Prop :=
  c = .ret ∧ goodU p pre = false ∧ Blk W (w.heap.size + 1) 4 #[.bool false] ∧ Below w.heap.size w W ∧ w.heap.size + 1 + 1 + 1 + 3 ≤ W.heap.size
theorem UI.turn {F : TypeId} {f : FuncId} {p : ByteArray → Bool} {w X Y : World} {pre : List ByteArray} (ht : Turn (w.heap.size + 1 + 1 + 1) X Y) (h : UI F f p w pre X) : UI F f p w pre Y := by
  obtain ⟨h0, h1, h2, h3, h5, h6⟩ := h
  have hs : X.heap.size ≤ Y.heap.size := by obtain ⟨k, _, hy⟩ := ht; exact hy.size
  exact ⟨h0, turn_blk ht h1 (by omega), turn_blk ht h2 (by omega), turn_blk ht h3 (by omega), turn_below ht h5 (by omega) (by omega), by omega⟩
theorem UX.turn {p : ByteArray → Bool} {w X Y : World} {c : Code} {pre : List ByteArray} (ht : Turn (w.heap.size + 1 + 1 + 1) X Y) (h : UX p w c pre X) : UX p w c pre Y := by
  obtain ⟨hc, h0, h2, h5, h6⟩ := h
  have hs : X.heap.size ≤ Y.heap.size := by obtain ⟨k, _, hy⟩ := ht; exact hy.size
  exact ⟨hc, h0, turn_blk ht h2 (by omega), turn_below ht h5 (by omega) (by omega), by omega⟩
theorem UI.below {F : TypeId} {f : FuncId} {p : ByteArray → Bool} {w X Y : World} {pre : List ByteArray} (h : UI F f p w pre X) (hb : Below X.heap.size X Y) : UI F f p w pre Y := by
  obtain ⟨h0, h1, h2, h3, h5, h6⟩ := h
  have hs := hb.size
  exact ⟨h0, h1.below hb h1.lt, h2.below hb h2.lt, h3.below hb h3.lt, more3 h5 h5.size hb, by omega⟩
theorem stand_below {C D l : Nat} {W Y : World} (hb : Below W.heap.size W Y) (hD : D ≤ W.heap.size) (hlo : ∃ y, W.heap[l]? = some (.loop y)) : Stand C D l W Y := by
  obtain ⟨y, hy⟩ := hlo
  have hlt : l < W.heap.size := (Array.getElem?_eq_some_iff.1 hy).1
  exact ⟨fun i _ h2 => hb.block i (by omega), fun i _ h2 => hb.block i (by omega)⟩
theorem stand_set {C D l : Nat} {W Y : World} (h : Stand C D l W Y) {a : Addr} (u : Value) (ha : a.block < C) (hl : D + 1 ≤ l) (hCD : C ≤ D) : Stand C D l W (Y.setCell a u) :=
  ⟨h.1.trans (Kept.setCell Y u ha), h.2.trans fun i h1 _ => Below.heap_setCell Y a u i (by omega)⟩
set_option maxRecDepth 100000 in
set_option maxHeartbeats 8000000 in
theorem listG_any (s : ByteArray) (hs : s.size ≤ maxLen) (w : World) :
    Calls Tryz.prog 50 #[.string s, .func (.func 53) #[] #[]] w fun e w' => e = .returned (.bool (listS unitS s)) ∧ Below w.heap.size w w' := by
  refine (callsIn_wide (n := 9)).1 ?_
  refine callsIn_of_wp_marks Tryz.func50 rfl trivial ?_ rfl
  simp only [Tryz.ntmps50, List.size_toArray, List.length_cons, List.length_nil, Nat.reduceAdd, Nat.reduceSub, Array.replicate_succ, Array.replicate_zero, List.push_toArray, List.append_toArray, List.nil_append, List.cons_append]
  gi_wp2_with (refine ⟨trivial, ?_⟩; gi_at_call 75; refine (callsIn_wide.2 (blankSeq_any _ _)).mono ?_; rintro e w' ⟨rfl, rfl⟩)
  obtain ⟨hB0, hR0, hR1, hP0, hS0, hZ0⟩ := boxes6 w 41 4 4 (.func (.func 53) #[] #[]) (.bool false) (.bool false) s _ rfl
  have hI0 : UI 41 53 unitS w [] ((((((w.alloc (.cells #[.func (.func 53) #[] #[]] 41)).alloc (.cells #[.bool false] 4)).alloc (.cells #[.bool false] 4)).alloc (.cells #[.string s] 9)).alloc (.cells #[.string ⟨#[32]⟩] 9)).alloc (.cells #[.int .i64 0] 3)) := ⟨rfl, hR0, hR1, hP0, hB0, by omega⟩
  generalize (((((w.alloc (.cells #[.func (.func 53) #[] #[]] 41)).alloc (.cells #[.bool false] 4)).alloc (.cells #[.bool false] 4)).alloc (.cells #[.string s] 9)).alloc (.cells #[.string ⟨#[32]⟩] 9)).alloc (.cells #[.int .i64 0] 3) = W0 at *
  refine range_boxD (C := w.heap.size + 1 + 1 + 1) (D := w.heap.size + 1 + 1 + 1 + 3) rfl (by omega) rfl trivial (enters_of Tryz.func124 (by kernel_rfl) rfl) (by omega) (by omega)
    (split_seq _ (by omega) _ s hs W0 (by omega) hS0) (UI 41 53 unitS w) (UX unitS w) (fun _ _ _ h hb => h.below hb) (fun _ _ _ ht h => h.turn ht) (fun _ _ _ _ ht h => h.turn ht) hI0
    (fun x => { tmps := #[.string s, .func (.func 53) #[] #[], undef, .pointer (some ⟨w.heap.size, 0, none⟩), .pointer (some ⟨w.heap.size + 1, 0, none⟩), .pointer (some ⟨w.heap.size + 1 + 1, 0, none⟩), .string x, .string s, .func (.func 124) #[] #[.pointer (some ⟨w.heap.size + 1 + 1 + 1 + 1, 0, none⟩), .pointer (some ⟨w.heap.size + 1 + 1 + 1, 0, none⟩), .pointer (some ⟨w.heap.size + 1 + 1 + 1 + 2, 0, none⟩)], .string x, undef, undef, undef, undef, undef, undef, undef], defers := [] }) ?assign ?body ?done ?stop
  case assign =>
    intro l x W K hK
    gi_wp2
    exact hK
  case body =>
    rintro l pre x post W hxs hI hD hl hlo hde
    have hx : x.size ≤ maxLen := by
      have := piece_size (s := s) (x := x) (by rw [hxs]; simp)
      omega
    obtain ⟨hg, h0, h1, h2, hb, hsz⟩ := hI
    have HS0 := Lib.hid (stand_below (C := w.heap.size + 1 + 1 + 1) (Y := W) (Below.refl _ W) hD hlo)
    have HLO := Lib.hid hlo
    have HG := Lib.hid hg
    have H0 := Lib.hid h0
    have H1 := Lib.hid h1
    have H2 := Lib.hid h2
    have HB := Lib.hid hb
    have c0 : W.cell? ⟨w.heap.size, 0, none⟩ = some (.func (.func 53) #[] #[]) := h0.cell 0
    clear hxs hlo hde hg h0 h1 h2 hb
    rcases he : x.toList.isEmpty with _ | _
    · rcases hp : unitS x with _ | _
      · have HX : Hid (goodU unitS (pre ++ [x]) = false) := by show _ = _; rw [goodU_snoc]; unfold pieceOk; rw [he, hp]; simp
        have HC := Lib.hid (isUnit_any x hx W)
        rw [hp] at HC
        clear hp
        gi_wp2_with (refine ⟨trivial, ?_⟩; gi_at_call 53; refine (CallsIn.inRound l (callsIn_wide.2 HC.out)).mono ?_; rintro e w1 ⟨rfl, hb1⟩; have HB1 := Lib.hid (more3 HB.out HB.out.size hb1); have H1a := Lib.hid (H1.out.below hb1 H1.out.lt); have HS1 := Lib.hid (stand_below (C := w.heap.size + 1 + 1 + 1) hb1 hD HLO.out); have hs1 := hb1.size; have c1 : w1.cell? ⟨w.heap.size + 1, 0, none⟩ = some (.bool false) := H1a.out.cell 0; have f1 : w1.frozen? ⟨w.heap.size + 1, 0, none⟩ = false := H1a.out.frozen 0; clear hb1)
        refine ⟨stand_set HS1.out _ (by show w.heap.size + 1 < _; omega) hl (by omega), rfl, HX.out, H1a.out.setCell 0 (.bool false), HB1.out.setCell (p := ⟨w.heap.size + 1, 0, none⟩) (by show w.heap.size ≤ w.heap.size + 1; omega) _, by simp [World.setCell]; omega⟩
      · have HX : Hid (goodU unitS (pre ++ [x]) = true) := by show _ = _; rw [goodU_snoc, HG.out]; unfold pieceOk; rw [he, hp]; simp
        have HF : Hid (foundU (pre ++ [x]) = true) := by show _ = _; rw [foundU_snoc, he]; simp
        have HC := Lib.hid (isUnit_any x hx W)
        rw [hp] at HC
        clear hp
        gi_wp2_with (refine ⟨trivial, ?_⟩; gi_at_call 53; refine (CallsIn.inRound l (callsIn_wide.2 HC.out)).mono ?_; rintro e w1 ⟨rfl, hb1⟩; have HB1 := Lib.hid (more3 HB.out HB.out.size hb1); have H0a := Lib.hid (H0.out.below hb1 H0.out.lt); have H1a := Lib.hid (H1.out.below hb1 H1.out.lt); have H2a := Lib.hid (H2.out.below hb1 H2.out.lt); have HS1 := Lib.hid (stand_below (C := w.heap.size + 1 + 1 + 1) hb1 hD HLO.out); have hs1 := hb1.size; have c1 : w1.cell? ⟨w.heap.size + 1 + 1, 0, none⟩ = some (.bool (foundU pre)) := H2a.out.cell 0; have f1 : w1.frozen? ⟨w.heap.size + 1 + 1, 0, none⟩ = false := H2a.out.frozen 0; clear hb1)
        refine ⟨stand_set HS1.out _ (by show w.heap.size + 1 + 1 < _; omega) hl (by omega), HX.out, H0a.out.setOther (a := ⟨w.heap.size + 1 + 1, 0, none⟩) (by simp; omega) _, H1a.out.setOther (a := ⟨w.heap.size + 1 + 1, 0, none⟩) (by simp) _, ?_, HB1.out.setCell (p := ⟨w.heap.size + 1 + 1, 0, none⟩) (by show w.heap.size ≤ w.heap.size + 1 + 1; omega) _, by simp [World.setCell]; omega⟩
        rw [HF.out]
        exact H2a.out.setCell 0 (.bool true)
    · have HX : Hid (goodU unitS (pre ++ [x]) = true) := by show _ = _; rw [goodU_snoc, HG.out]; unfold pieceOk; rw [he]; simp
      have HF : Hid (foundU (pre ++ [x]) = foundU pre) := by show _ = _; rw [foundU_snoc, he]; simp
      gi_wp2
      exact ⟨HS0.out, HX.out, H0.out, H1.out, by rw [HF.out]; exact H2.out, HB.out, hsz⟩
  case done =>
    rintro M W hM ⟨hg, h0, h1, h2, hb, hsz⟩ hK
    have HV : Hid (listS unitS s = foundU (piecesS s)) := by show _ = _; unfold listS; rw [hg, Bool.true_and]
    have c2 : W.cell? ⟨w.heap.size + 1 + 1, 0, none⟩ = some (.bool (foundU (piecesS s))) := h2.cell 0
    have c1 : W.cell? ⟨w.heap.size + 1, 0, none⟩ = some (.bool false) := h1.cell 0
    have f1 : W.frozen? ⟨w.heap.size + 1, 0, none⟩ = false := h1.frozen 0
    have hMlt : M < W.heap.size := (Array.getElem?_eq_some_iff.1 hK).1
    have H1 : Hid (Blk (W.setCell ⟨w.heap.size + 1, 0, none⟩ (.bool (foundU (piecesS s)))) (w.heap.size + 1) 4 #[.bool (foundU (piecesS s))]) := h1.setCell 0 _
    have HK : Hid ((W.setCell ⟨w.heap.size + 1, 0, none⟩ (.bool (foundU (piecesS s)))).heap[M]? = some (.deferred (some []))) := (Below.heap_setCell W ⟨w.heap.size + 1, 0, none⟩ _ M (by show M ≠ w.heap.size + 1; omega)).trans hK
    have HB : Hid (Below w.heap.size w (W.setCell ⟨w.heap.size + 1, 0, none⟩ (.bool (foundU (piecesS s))))) := hb.setCell (p := ⟨w.heap.size + 1, 0, none⟩) (by show w.heap.size ≤ w.heap.size + 1; omega) _
    clear hg h0 h1 h2 hb hK
    gi_wp2
    generalize W.setCell ⟨w.heap.size + 1, 0, none⟩ (.bool (foundU (piecesS s))) = Wz at *
    refine ⟨by simp, .inl ⟨_, _, rfl, run_takeDeferred (w := Wz) HK.out, ?_⟩⟩
    have e1 : (Wz.putObj M (.deferred none)).cell? ⟨w.heap.size + 1, 0, none⟩ = some (.bool (foundU (piecesS s))) := (World.cell?_of_block ((below_put Wz M (.deferred none) (Nat.le_refl M)).block _ (by show w.heap.size + 1 < M; omega))).trans (H1.out.cell 0)
    refine ⟨.bool (foundU (piecesS s)), ?_, ret_bool HV.out.symm, HB.out.trans (below_put _ _ _ (by omega))⟩
    simp [results, Tryz.f50, go_sem, e1]
  case stop =>
    rintro M c pre W hM hpre ⟨rfl, hg, h1, hb, hsz⟩ hK
    gi_wp2
    refine ⟨by simp, .inl ⟨_, _, rfl, run_takeDeferred hK, ?_⟩⟩
    have e1 : (W.putObj M (.deferred none)).cell? ⟨w.heap.size + 1, 0, none⟩ = some (.bool false) := (World.cell?_of_block ((below_put W M (.deferred none) (Nat.le_refl M)).block _ (by show w.heap.size + 1 < M; omega))).trans (h1.cell 0)
    have hno : listS unitS s = false := by
      obtain ⟨post, hp⟩ := hpre
      unfold listS goodU at *
      rw [← hp, List.all_append, hg]
      rfl
    refine ⟨.bool false, ?_, ret_bool hno.symm, hb.trans (below_put _ _ _ (by omega))⟩
    simp [results, Tryz.f50, go_sem, e1]
end Go.Proofs.YtadifolonbkamaaGreatDoor
