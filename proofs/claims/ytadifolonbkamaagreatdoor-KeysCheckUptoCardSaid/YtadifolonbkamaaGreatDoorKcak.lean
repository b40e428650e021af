/- Lines of unit files on plain lists of bytes: how a text is parted in logical lines, what one of them says, how lines are -/
import Derived.Test.YtadifolonbkamaaGreatDoorKcaa
import Derived.Test.YtadifolonbkamaaGreatDoorKcad
import Derived.Test.YtadifolonbkamaaGreatDoorKcag
import Derived.Test.YtadifolonbkamaaGreatDoorKcac
import Derived.Test.YtadifolonbkamaaGreatDoorKcai
import Derived.TacticsInMore
import Derived.Test.YtadifolonbkamaaGreatDoorKcaj
import Derived.Test.YtadifolonbkamaaGreatDoorKcaf
namespace Go.Proofs.YtadifolonbkamaaGreatDoor
def blkL (c : UInt8) : Bool := c == 32 || c == 9
def ltrim (l : List UInt8) : List UInt8 := l.dropWhile blkL
def rtrim (l : List UInt8) : List UInt8 := (l.reverse.dropWhile blkL).reverse
def trimL (l : List UInt8) : List UInt8 := rtrim (ltrim l)
def remL (l : List UInt8) : Bool := match ltrim l with | [] => false | c :: _ => c == 35 || c == 59
def skipR (r : List UInt8) : Bool := decide (trimL r = []) || remL r
structure Ln where
  s : List UInt8
  k : List UInt8
  v : List UInt8
  n : Int
deriving DecidableEq
def headP (sec s : List UInt8) : List (List UInt8) := if s = sec then [] else (if sec = [] then [] else [[]]) ++ [91 :: (s ++ [93])]
def numL : Nat → List (List UInt8) → List (List UInt8 × Nat)
  | _, [] => []
  | i, r :: rs => if skipR r = true then numL (i + 1) rs else (r, i) :: numL (i + 1) rs
end Go.Proofs.YtadifolonbkamaaGreatDoor
namespace Go.Proofs.YtadifolonbkamaaGreatDoor
open Go.RowKit
attribute [local go_sem] Oper.semAt_some
def unitS (s : ByteArray) : Bool := Nm.goodP s && (!Nm.atP s || !(Nm.instP s).toList.isEmpty)
set_option maxHeartbeats 2000000 in
theorem isUnit_any (s : ByteArray) (hs : s.size ≤ maxLen) (w : World) :
    Calls Tryz.prog 53 #[.string s] w fun e w' => e = .returned (.bool (unitS s)) ∧ Below w.heap.size w w' := by
  have HM := fun w => Nm.May_any s hs w
  have HP := fun w => Nm.Parts_any s hs w
  unfold unitS
  rcases hg : Nm.goodP s with _ | _ <;> rcases ha : Nm.atP s with _ | _ <;> rcases he : (Nm.instP s).toList.isEmpty with _ | _
  all_goals rw [hg] at HM
  all_goals rw [ha] at HP
  all_goals
    have H1 := Lib.hid HM
    have H2 := Lib.hid HP
    clear HM HP hg ha
    go_enter Tryz.func53, Tryz.ntmps53
    go_wp2_with fail
    refine (H2.out _).mono ?_
    rintro e w1 ⟨rfl, hb⟩
    go_wp2_with fail
    refine (H1.out _).mono ?_
    rintro e w2 ⟨rfl, hb2⟩
    go_wp2_with fail
    go_ret
    exact ⟨rfl, more hb hb2⟩
end Go.Proofs.YtadifolonbkamaaGreatDoor
namespace Go.Proofs.YtadifolonbkamaaGreatDoor
open Go.RowKit
attribute [local go_sem] Oper.semAt_some
theorem turn_blk {C g : Nat} {X Y : World} {t : TypeId} {cs : Array Value} (ht : Turn C X Y) (h : Blk X g t cs) (hg : g ≠ C) : Blk Y g t cs := by
  obtain ⟨k, hk, hy⟩ := ht
  refine (hy.block g h.lt ?_).trans h
  intro e
  have e : k = g := by injection e with e; exact e.symm
  rcases hk with hk | ⟨_, y, hk⟩
  · exact hg (by omega)
  · rw [e] at hk
    unfold Blk at h
    rw [h] at hk; cases hk
theorem turn_below {C B : Nat} {w X Y : World} (ht : Turn C X Y) (h : Below B w X) (hB : B ≤ C) (hs : C < X.heap.size) : Below B w Y := by
  obtain ⟨k, hk, hy⟩ := ht
  refine h.trans ⟨hy.os, hy.tape, hy.output, hy.size, fun i hi => hy.block i (by omega) ?_⟩
  intro e
  have e : k = i := by injection e with e; exact e.symm
  rcases hk with hk | ⟨hk, _⟩ <;> omega
theorem blankSeq_any (s : ByteArray) (w : World) :
    Calls Tryz.prog 75 #[.string s, .string ⟨#[32]⟩] w fun e w' => e = .returned (.func (.func 124) #[] #[.pointer (some ⟨w.heap.size + 1, 0, none⟩), .pointer (some ⟨w.heap.size, 0, none⟩), .pointer (some ⟨w.heap.size + 2, 0, none⟩)]) ∧
      w' = ((w.alloc (.cells #[.string s] 9)).alloc (.cells #[.string ⟨#[32]⟩] 9)).alloc (.cells #[.int .i64 0] 3) := by
  go_enter Tryz.func75, Tryz.ntmps75
  go_wp2
  go_ret
  exact ⟨rfl, rfl⟩
theorem boxes6 (w : World) (t0 t1 t2 : TypeId) (c0 c1 c2 : Value) (s : ByteArray) (W0 : World)
    (hW : W0 = (((((w.alloc (.cells #[c0] t0)).alloc (.cells #[c1] t1)).alloc (.cells #[c2] t2)).alloc (.cells #[.string s] 9)).alloc (.cells #[.string ⟨#[32]⟩] 9)).alloc (.cells #[.int .i64 0] 3)) :
    Below w.heap.size w W0 ∧ Blk W0 w.heap.size t0 #[c0] ∧ Blk W0 (w.heap.size + 1) t1 #[c1] ∧ Blk W0 (w.heap.size + 1 + 1) t2 #[c2] ∧ SplitAt (w.heap.size + 1 + 1 + 1) s W0 ∧ W0.heap.size = w.heap.size + 1 + 1 + 1 + 3 := by
  subst hW
  have a0 := Blk.new w t0 #[c0]
  have z0 := World.size_alloc w (.cells #[c0] t0)
  have b0 : Below w.heap.size w _ := (Below.refl _ w).alloc (Nat.le_refl _) (.cells #[c0] t0)
  generalize w.alloc (.cells #[c0] t0) = w0 at *
  have a1 := Blk.new w0 t1 #[c1]
  have z1 := World.size_alloc w0 (.cells #[c1] t1)
  have b1 := b0.alloc (by omega) (.cells #[c1] t1)
  replace a0 := a0.alloc (.cells #[c1] t1)
  generalize w0.alloc (.cells #[c1] t1) = w1 at *
  have a2 := Blk.new w1 t2 #[c2]
  have z2 := World.size_alloc w1 (.cells #[c2] t2)
  have b2 := b1.alloc (by omega) (.cells #[c2] t2)
  replace a0 := a0.alloc (.cells #[c2] t2)
  replace a1 := a1.alloc (.cells #[c2] t2)
  generalize w1.alloc (.cells #[c2] t2) = w2 at *
  have a3 := Blk.new w2 9 #[.string s]
  have z3 := World.size_alloc w2 (.cells #[.string s] 9)
  have b3 := b2.alloc (by omega) (.cells #[.string s] 9)
  replace a0 := a0.alloc (.cells #[.string s] 9)
  replace a1 := a1.alloc (.cells #[.string s] 9)
  replace a2 := a2.alloc (.cells #[.string s] 9)
  generalize w2.alloc (.cells #[.string s] 9) = w3 at *
  have a4 := Blk.new w3 9 #[.string ⟨#[32]⟩]
  have z4 := World.size_alloc w3 (.cells #[.string ⟨#[32]⟩] 9)
  have b4 := b3.alloc (by omega) (.cells #[.string ⟨#[32]⟩] 9)
  replace a0 := a0.alloc (.cells #[.string ⟨#[32]⟩] 9)
  replace a1 := a1.alloc (.cells #[.string ⟨#[32]⟩] 9)
  replace a2 := a2.alloc (.cells #[.string ⟨#[32]⟩] 9)
  replace a3 := a3.alloc (.cells #[.string ⟨#[32]⟩] 9)
  generalize w3.alloc (.cells #[.string ⟨#[32]⟩] 9) = w4 at *
  have a5 := Blk.new w4 3 #[.int .i64 0]
  have z5 := World.size_alloc w4 (.cells #[.int .i64 0] 3)
  have b5 := b4.alloc (by omega) (.cells #[.int .i64 0] 3)
  replace a0 := a0.alloc (.cells #[.int .i64 0] 3)
  replace a1 := a1.alloc (.cells #[.int .i64 0] 3)
  replace a2 := a2.alloc (.cells #[.int .i64 0] 3)
  replace a3 := a3.alloc (.cells #[.int .i64 0] 3)
  replace a4 := a4.alloc (.cells #[.int .i64 0] 3)
  rw [z0] at a1 z1
  rw [z1] at a2 z2
  rw [z2] at a3 z3
  rw [z3] at a4 z4
  rw [z4] at a5 z5
  exact ⟨b5, a0, a1, a2, ⟨a3, a4, a5⟩, z5⟩
def pieceOk (p : ByteArray → Bool) (x : ByteArray) : Bool := x.toList.isEmpty || p x
def goodU (p : ByteArray → Bool) (l : List ByteArray) : Bool := l.all (pieceOk p)
def foundU (l : List ByteArray) : Bool := l.any fun x => !x.toList.isEmpty
def listS (p : ByteArray → Bool) (s : ByteArray) : Bool := goodU p (piecesS s) && foundU (piecesS s)
theorem goodU_snoc (p : ByteArray → Bool) (l : List ByteArray) (x : ByteArray) : goodU p (l ++ [x]) = (goodU p l && pieceOk p x) := by simp [goodU]
theorem foundU_snoc (l : List ByteArray) (x : ByteArray) : foundU (l ++ [x]) = (foundU l || !x.toList.isEmpty) := by simp [foundU]
def UI (F : TypeId) (f : FuncId) (p : ByteArray → Bool) (w : World) (pre : List ByteArray) (W : World) : Prop :=
  goodU p pre = true ∧ Blk W w.heap.size F #[.func (.func f) #[] #[]] ∧ Blk W (w.heap.size + 1) 4 #[.bool false] ∧ Blk W (w.heap.size + 1 + 1) 4 #[.bool (foundU pre)] ∧ Below w.heap.size w W ∧ w.heap.size + 1 + 1 + 1 + 3 ≤ W.heap.size
def UX (p : ByteArray → Bool) (w : World) (c : Code) (pre : List ByteArray) (W : World) : Prop :=
  c = .ret ∧ goodU p pre = false ∧ Blk W (w.heap.size + 1) 4 #[.bool false] ∧ Below w.heap.size w W ∧ w.heap.size + 1 + 1 + 1 + 3 ≤ W.heap.size
theorem UI.turn {F : TypeId} {f : FuncId} {p : ByteArray → Bool} {w X Y : World} {pre : List ByteArray} (ht : Turn (w.heap.size + 1 + 1 + 1) X Y) (h : UI F f p w pre X) : UI F f p w pre Y := by
  obtain ⟨h0, h1, h2, h3, h5, h6⟩ := h
  have hs : X.heap.size ≤ Y.heap.size := by obtain ⟨k, _, hy⟩ := ht; exact hy.size
  exact ⟨h0, turn_blk ht h1 (by omega), turn_blk ht h2 (by omega), turn_blk ht h3 (by omega), turn_below ht h5 (by omega) (by omega), by omega⟩
theorem UX.turn {p : ByteArray → Bool} {w X Y : World} {c : Code} {pre : List ByteArray} (ht : Turn (w.heap.size + 1 + 1 + 1) X Y) (h : UX p w c pre X) : UX p w c pre Y := by
  obtain ⟨hc, h0, h2, h5, h6⟩ := h
  have hs : X.heap.size ≤ Y.heap.size := by obtain ⟨k, _, hy⟩ := ht; exact hy.size
  exact ⟨hc, h0, turn_blk ht h2 (by omega), turn_below ht h5 (by omega) (by omega), by omega⟩
theorem UI.below {F : TypeId} {f : FuncId} {p : ByteArray → Bool} {w X Y : World} {pre : List ByteArray} (h : UI F f p w pre X) (hb : Below X.heap.size X Y) : UI F f p w pre Y := by
  obtain ⟨h0, h1, h2, h3, h5, h6⟩ := h
  have hs := hb.size
  exact ⟨h0, h1.below hb h1.lt, h2.below hb h2.lt, h3.below hb h3.lt, more3 h5 h5.size hb, by omega⟩
theorem stand_below {C D l : Nat} {W Y : World} (hb : Below W.heap.size W Y) (hD : D ≤ W.heap.size) (hlo : ∃ y, W.heap[l]? = some (.loop y)) : Stand C D l W Y := by
  obtain ⟨y, hy⟩ := hlo
  have hlt : l < W.heap.size := (Array.getElem?_eq_some_iff.1 hy).1
  exact ⟨fun i _ h2 => hb.block i (by omega), fun i _ h2 => hb.block i (by omega)⟩
theorem stand_set {C D l : Nat} {W Y : World} (h : Stand C D l W Y) {a : Addr} (u : Value) (ha : a.block < C) (hl : D + 1 ≤ l) (hCD : C ≤ D) : Stand C D l W (Y.setCell a u) :=
  ⟨h.1.trans (Kept.setCell Y u ha), h.2.trans fun i h1 _ => Below.heap_setCell Y a u i (by omega)⟩
set_option maxRecDepth 100000 in
set_option maxHeartbeats 8000000 in
theorem listG_any (s : ByteArray) (hs : s.size ≤ maxLen) (w : World) :
    Calls Tryz.prog 50 #[.string s, .func (.func 53) #[] #[]] w fun e w' => e = .returned (.bool (listS unitS s)) ∧ Below w.heap.size w w' := by
  refine (callsIn_wide (n := 9)).1 ?_
  refine callsIn_of_wp_marks Tryz.func50 rfl trivial ?_ rfl
  simp only [Tryz.ntmps50, List.size_toArray, List.length_cons, List.length_nil, Nat.reduceAdd, Nat.reduceSub, Array.replicate_succ, Array.replicate_zero, List.push_toArray, List.append_toArray, List.nil_append, List.cons_append]
  gi_wp2_with (refine ⟨trivial, ?_⟩; gi_at_call 75; refine (callsIn_wide.2 (blankSeq_any _ _)).mono ?_; rintro e w' ⟨rfl, rfl⟩)
  obtain ⟨hB0, hR0, hR1, hP0, hS0, hZ0⟩ := boxes6 w 41 4 4 (.func (.func 53) #[] #[]) (.bool false) (.bool false) s _ rfl
  have hI0 : UI 41 53 unitS w [] ((((((w.alloc (.cells #[.func (.func 53) #[] #[]] 41)).alloc (.cells #[.bool false] 4)).alloc (.cells #[.bool false] 4)).alloc (.cells #[.string s] 9)).alloc (.cells #[.string ⟨#[32]⟩] 9)).alloc (.cells #[.int .i64 0] 3)) := ⟨rfl, hR0, hR1, hP0, hB0, by omega⟩
  generalize (((((w.alloc (.cells #[.func (.func 53) #[] #[]] 41)).alloc (.cells #[.bool false] 4)).alloc (.cells #[.bool false] 4)).alloc (.cells #[.string s] 9)).alloc (.cells #[.string ⟨#[32]⟩] 9)).alloc (.cells #[.int .i64 0] 3) = W0 at *
  refine range_boxD (C := w.heap.size + 1 + 1 + 1) (D := w.heap.size + 1 + 1 + 1 + 3) rfl (by omega) rfl trivial (enters_of Tryz.func124 (by kernel_rfl) rfl) (by omega) (by omega)
    (split_seq _ (by omega) _ s hs W0 (by omega) hS0) (UI 41 53 unitS w) (UX unitS w) (fun _ _ _ h hb => h.below hb) (fun _ _ _ ht h => h.turn ht) (fun _ _ _ _ ht h => h.turn ht) hI0
    (fun x => { tmps := #[.string s, .func (.func 53) #[] #[], undef, .pointer (some ⟨w.heap.size, 0, none⟩), .pointer (some ⟨w.heap.size + 1, 0, none⟩), .pointer (some ⟨w.heap.size + 1 + 1, 0, none⟩), .string x, .string s, .func (.func 124) #[] #[.pointer (some ⟨w.heap.size + 1 + 1 + 1 + 1, 0, none⟩), .pointer (some ⟨w.heap.size + 1 + 1 + 1, 0, none⟩), .pointer (some ⟨w.heap.size + 1 + 1 + 1 + 2, 0, none⟩)], .string x, undef, undef, undef, undef, undef, undef, undef], defers := [] }) ?assign ?body ?done ?stop
  case assign =>
    intro l x W K hK
    gi_wp2
    exact hK
  case body =>
    rintro l pre x post W hxs hI hD hl hlo hde
    have hx : x.size ≤ maxLen := by
      have := piece_size (s := s) (x := x) (by rw [hxs]; simp)
      omega
    obtain ⟨hg, h0, h1, h2, hb, hsz⟩ := hI
    have HS0 := Lib.hid (stand_below (C := w.heap.size + 1 + 1 + 1) (Y := W) (Below.refl _ W) hD hlo)
    have HLO := Lib.hid hlo
    have HG := Lib.hid hg
    have H0 := Lib.hid h0
    have H1 := Lib.hid h1
    have H2 := Lib.hid h2
    have HB := Lib.hid hb
    have c0 : W.cell? ⟨w.heap.size, 0, none⟩ = some (.func (.func 53) #[] #[]) := h0.cell 0
    clear hxs hlo hde hg h0 h1 h2 hb
    rcases he : x.toList.isEmpty with _ | _
    · rcases hp : unitS x with _ | _
      · have HX : Hid (goodU unitS (pre ++ [x]) = false) := by show _ = _; rw [goodU_snoc]; unfold pieceOk; rw [he, hp]; simp
        have HC := Lib.hid (isUnit_any x hx W)
        rw [hp] at HC
        clear hp
        gi_wp2_with (refine ⟨trivial, ?_⟩; gi_at_call 53; refine (CallsIn.inRound l (callsIn_wide.2 HC.out)).mono ?_; rintro e w1 ⟨rfl, hb1⟩; have HB1 := Lib.hid (more3 HB.out HB.out.size hb1); have H1a := Lib.hid (H1.out.below hb1 H1.out.lt); have HS1 := Lib.hid (stand_below (C := w.heap.size + 1 + 1 + 1) hb1 hD HLO.out); have hs1 := hb1.size; have c1 : w1.cell? ⟨w.heap.size + 1, 0, none⟩ = some (.bool false) := H1a.out.cell 0; have f1 : w1.frozen? ⟨w.heap.size + 1, 0, none⟩ = false := H1a.out.frozen 0; clear hb1)
        refine ⟨stand_set HS1.out _ (by show w.heap.size + 1 < _; omega) hl (by omega), rfl, HX.out, H1a.out.setCell 0 (.bool false), HB1.out.setCell (p := ⟨w.heap.size + 1, 0, none⟩) (by show w.heap.size ≤ w.heap.size + 1; omega) _, by simp [World.setCell]; omega⟩
      · have HX : Hid (goodU unitS (pre ++ [x]) = true) := by show _ = _; rw [goodU_snoc, HG.out]; unfold pieceOk; rw [he, hp]; simp
        have HF : Hid (foundU (pre ++ [x]) = true) := by show _ = _; rw [foundU_snoc, he]; simp
        have HC := Lib.hid (isUnit_any x hx W)
        rw [hp] at HC
        clear hp
        gi_wp2_with (refine ⟨trivial, ?_⟩; gi_at_call 53; refine (CallsIn.inRound l (callsIn_wide.2 HC.out)).mono ?_; rintro e w1 ⟨rfl, hb1⟩; have HB1 := Lib.hid (more3 HB.out HB.out.size hb1); have H0a := Lib.hid (H0.out.below hb1 H0.out.lt); have H1a := Lib.hid (H1.out.below hb1 H1.out.lt); have H2a := Lib.hid (H2.out.below hb1 H2.out.lt); have HS1 := Lib.hid (stand_below (C := w.heap.size + 1 + 1 + 1) hb1 hD HLO.out); have hs1 := hb1.size; have c1 : w1.cell? ⟨w.heap.size + 1 + 1, 0, none⟩ = some (.bool (foundU pre)) := H2a.out.cell 0; have f1 : w1.frozen? ⟨w.heap.size + 1 + 1, 0, none⟩ = false := H2a.out.frozen 0; clear hb1)
        refine ⟨stand_set HS1.out _ (by show w.heap.size + 1 + 1 < _; omega) hl (by omega), HX.out, H0a.out.setOther (a := ⟨w.heap.size + 1 + 1, 0, none⟩) (by simp; omega) _, H1a.out.setOther (a := ⟨w.heap.size + 1 + 1, 0, none⟩) (by simp) _, ?_, HB1.out.setCell (p := ⟨w.heap.size + 1 + 1, 0, none⟩) (by show w.heap.size ≤ w.heap.size + 1 + 1; omega) _, by simp [World.setCell]; omega⟩
        rw [HF.out]
        exact H2a.out.setCell 0 (.bool true)
    · have HX : Hid (goodU unitS (pre ++ [x]) = true) := by show _ = _; rw [goodU_snoc, HG.out]; unfold pieceOk; rw [he]; simp
      have HF : Hid (foundU (pre ++ [x]) = foundU pre) := by show _ = _; rw [foundU_snoc, he]; simp
      gi_wp2
      exact ⟨HS0.out, HX.out, H0.out, H1.out, by rw [HF.out]; exact H2.out, HB.out, hsz⟩
  case done =>
    rintro M W hM ⟨hg, h0, h1, h2, hb, hsz⟩ hK
    have HV : Hid (listS unitS s = foundU (piecesS s)) := by show _ = _; unfold listS; rw [hg, Bool.true_and]
    have c2 : W.cell? ⟨w.heap.size + 1 + 1, 0, none⟩ = some (.bool (foundU (piecesS s))) := h2.cell 0
    have c1 : W.cell? ⟨w.heap.size + 1, 0, none⟩ = some (.bool false) := h1.cell 0
    have f1 : W.frozen? ⟨w.heap.size + 1, 0, none⟩ = false := h1.frozen 0
    have hMlt : M < W.heap.size := (Array.getElem?_eq_some_iff.1 hK).1
    have H1 : Hid (Blk (W.setCell ⟨w.heap.size + 1, 0, none⟩ (.bool (foundU (piecesS s)))) (w.heap.size + 1) 4 #[.bool (foundU (piecesS s))]) := h1.setCell 0 _
    have HK : Hid ((W.setCell ⟨w.heap.size + 1, 0, none⟩ (.bool (foundU (piecesS s)))).heap[M]? = some (.deferred (some []))) := (Below.heap_setCell W ⟨w.heap.size + 1, 0, none⟩ _ M (by show M ≠ w.heap.size + 1; omega)).trans hK
    have HB : Hid (Below w.heap.size w (W.setCell ⟨w.heap.size + 1, 0, none⟩ (.bool (foundU (piecesS s))))) := hb.setCell (p := ⟨w.heap.size + 1, 0, none⟩) (by show w.heap.size ≤ w.heap.size + 1; omega) _
    clear hg h0 h1 h2 hb hK
    gi_wp2
    generalize W.setCell ⟨w.heap.size + 1, 0, none⟩ (.bool (foundU (piecesS s))) = Wz at *
    refine ⟨by simp, .inl ⟨_, _, rfl, run_takeDeferred (w := Wz) HK.out, ?_⟩⟩
    have e1 : (Wz.putObj M (.deferred none)).cell? ⟨w.heap.size + 1, 0, none⟩ = some (.bool (foundU (piecesS s))) := (World.cell?_of_block ((below_put Wz M (.deferred none) (Nat.le_refl M)).block _ (by show w.heap.size + 1 < M; omega))).trans (H1.out.cell 0)
    refine ⟨.bool (foundU (piecesS s)), ?_, ret_bool HV.out.symm, HB.out.trans (below_put _ _ _ (by omega))⟩
    simp [results, Tryz.f50, go_sem, e1]
  case stop =>
    rintro M c pre W hM hpre ⟨rfl, hg, h1, hb, hsz⟩ hK
    gi_wp2
    refine ⟨by simp, .inl ⟨_, _, rfl, run_takeDeferred hK, ?_⟩⟩
    have e1 : (W.putObj M (.deferred none)).cell? ⟨w.heap.size + 1, 0, none⟩ = some (.bool false) := (World.cell?_of_block ((below_put W M (.deferred none) (Nat.le_refl M)).block _ (by show w.heap.size + 1 < M; omega))).trans (h1.cell 0)
    have hno : listS unitS s = false := by
      obtain ⟨post, hp⟩ := hpre
      unfold listS goodU at *
      rw [← hp, List.all_append, hg]
      rfl
    refine ⟨.bool false, ?_, ret_bool hno.symm, hb.trans (below_put _ _ _ (by omega))⟩
    simp [results, Tryz.f50, go_sem, e1]
end Go.Proofs.YtadifolonbkamaaGreatDoor
namespace Go.Proofs.YtadifolonbkamaaGreatDoor
open Go.RowKit
def kindsT (s : List UInt8) : Int := if s = nServ then 2 else if s = nSock then 4 else if s = nTime then 8 else 30
theorem kinds_any (s : ByteArray) (w : World) : Calls Tryz.prog 47 #[.string s] w fun e w' => e = .returned (.int .i64 (kindsT s.data.toList)) ∧ w = w' := by
  have q1 : (s.toList == ([83, 101, 114, 118, 105, 99, 101] : List UInt8)) = decide (s.data.toList = nServ) := eq_lit s nServ
  have q2 : (s.toList == ([83, 111, 99, 107, 101, 116] : List UInt8)) = decide (s.data.toList = nSock) := eq_lit s nSock
  have q3 : (s.toList == ([84, 105, 109, 101, 114] : List UInt8)) = decide (s.data.toList = nTime) := eq_lit s nTime
  unfold kindsT
  by_cases h1 : s.data.toList = nServ
  · rw [if_pos h1]
    rw [decide_eq_true h1] at q1
    clear h1 q2 q3
    go_enter Tryz.func47, Tryz.ntmps47
    go_wp2_with fail
    go_ret
    exact ⟨rfl, rfl⟩
  rw [if_neg h1]
  rw [decide_eq_false h1] at q1
  by_cases h2 : s.data.toList = nSock
  · rw [if_pos h2]
    rw [decide_eq_true h2] at q2
    clear h1 h2 q3
    go_enter Tryz.func47, Tryz.ntmps47
    go_wp2_with fail
    go_ret
    exact ⟨rfl, rfl⟩
  rw [if_neg h2]
  rw [decide_eq_false h2] at q2
  by_cases h3 : s.data.toList = nTime
  · rw [if_pos h3]
    rw [decide_eq_true h3] at q3
    clear h1 h2 h3
    go_enter Tryz.func47, Tryz.ntmps47
    go_wp2_with fail
    go_ret
    exact ⟨rfl, rfl⟩
  rw [if_neg h3]
  rw [decide_eq_false h3] at q3
  clear h1 h2 h3
  go_enter Tryz.func47, Tryz.ntmps47
  go_wp2_with fail
  go_ret
  exact ⟨rfl, rfl⟩
theorem KLst.from_ {w w1 W : World} {v : Value} {ks : List Ky} (h : KLst w1 W v ks) (hb : Below w.heap.size w w1) : KLst w W v ks := by
  obtain ⟨rs, h1, h2, h3⟩ := h
  exact ⟨rs, own_base h1 hb.size, h2, more3 hb hb.size h3⟩
def rowT (sec : List UInt8) (f : Int) (l : Bool) (ns : List (List UInt8)) : List Ky := ns.map fun n => ⟨sec, n, f, l, kindsT sec, []⟩
theorem rowT_take {sec : List UInt8} {f : Int} {l : Bool} {ns : List (List UInt8)} {k : Nat} {x : List UInt8} (h : ns[k]? = some x) : rowT sec f l (ns.take (k + 1)) = rowT sec f l (ns.take k) ++ [⟨sec, x, f, l, kindsT sec, []⟩] := by
  have hk : k < ns.length := by
    rcases Nat.lt_or_ge k ns.length with h' | h'
    · exact h'
    · rw [List.getElem?_eq_none h'] at h; cases h
  have he : ns[k] = x := by rw [List.getElem?_eq_getElem hk] at h; exact Option.some.inj h
  rw [List.take_succ_eq_append_getElem hk, he]
  simp [rowT]
theorem blanks_row (names : List UInt8) (ns : List (List UInt8)) (hns : blanksL [32] names = ns) (hn : names.length ≤ 100000) (w : World) :
    Calls Tryz.prog 29 #[.string (str names), .string ⟨#[32]⟩] w fun e w' => ∃ v, e = .returned v ∧ w'.ownsRow w.heap.size 9 1 v ns.length (wcells ns) ∧ Below w.heap.size w w' := by
  subst hns
  exact Blanks_any (str names) ⟨#[32]⟩ (by rw [str_size]; omega) (by decide) w
set_option maxRecDepth 100000 in
set_option maxHeartbeats 8000000 in
theorem row_any (sec names : List UInt8) (ns : List (List UInt8)) (hns : blanksL [32] names = ns) (f : Int) (l : Bool) (hn : names.length ≤ 100000) (hlen : ns.length ≤ 1000) (w : World) :
    Calls Tryz.prog 23 #[.string (str sec), .string (str names), .int .i64 f, .bool l] w fun e w' => ∃ v, e = .returned v ∧ KLst w w' v (rowT sec f l ns) := by
  have HB := Lib.hid fun w => blanks_row names ns hns hn w
  clear hns hn
  have HKI : Hid (∀ w, Calls Tryz.prog 47 #[.string (str sec)] w fun e w' => e = .returned (.int .i64 (kindsT sec)) ∧ w = w') := fun w => kinds_any (str sec) w
  go_enter Tryz.func23, Tryz.ntmps23
  go_wp2_with fail
  refine (HB.out _).mono ?_
  rintro e1 w1 ⟨v1, rfl, ho, hb1⟩
  obtain ⟨A1, n1, c1, rfl⟩ : ∃ ao n' cap, v1 = .slice ao n' cap := by
    rcases ho.2 with ⟨hv, _⟩ | ⟨g, cap, cur, hv, _⟩
    · exact ⟨_, _, _, hv⟩
    · exact ⟨_, _, _, hv⟩
  obtain ⟨rfl, _, hr⟩ := rowAt_of_own ho (by unfold maxLen; omega)
  have HR1 := Lib.hid hr
  have HK1 : Hid (KLst w1 w1 (.slice none 0 0) (rowT sec f l (ns.take 0))) := KLst.nil w1
  have HB1 := Lib.hid hb1
  clear ho hr hb1 HB
  go_wp2_with fail
  go_loopw [9, 15] (fun v i wr => ∃ k : Nat, k ≤ ns.length ∧ i = .int .i64 k ∧ Hid (KLst w1 wr v (rowT sec f l (ns.take k)))) (fun v i wr => ns.length - (intOf i).toNat)
  case atStart => exact ⟨0, Nat.zero_le _, rfl, HK1⟩
  case round =>
    obtain ⟨k, hk, rfl, HK⟩ := hrel
    by_cases hlt : k < ns.length
    · have b0 : (0 : Int) ≤ (k : Int) := by omega
      have b1 : (k : Int) < (ns.length : Int) := by omega
      obtain ⟨ad, x, rfl, hab, hx, q0⟩ := (HR1.out.below HK.out.below).at_ hlt
      have HT := Lib.hid (rowT_take (sec := sec) (f := f) (l := l) hx)
      have hkl : (rowT sec f l (ns.take k)).length ≤ 1000 := by unfold rowT; rw [List.length_map, List.length_take]; omega
      have HK2 := Lib.hid (HK.out.next ((Below.refl wr.heap.size wr).alloc (Nat.le_refl _) (.cells #[.string (str sec), .string (str x), .int .i64 f, .bool l, .int .i64 (kindsT sec), .slice none 0 0] 28)))
      have HA2 : Hid (KrsAre (wr.alloc (.cells #[.string (str sec), .string (str x), .int .i64 f, .bool l, .int .i64 (kindsT sec), .slice none 0 0] 28)) (wr.alloc (.cells #[.string (str sec), .string (str x), .int .i64 f, .bool l, .int .i64 (kindsT sec), .slice none 0 0] 28)).heap.size [⟨sec, x, f, l, kindsT sec, none, 0, 0⟩] [⟨sec, x, f, l, kindsT sec, []⟩]) := KrsAre.cons ⟨rfl, rfl, rfl, rfl, rfl, RowS.none_⟩ KrsAre.nil
      have HC2 : Hid (∀ j u, (krs [⟨sec, x, f, l, kindsT sec, none, 0, 0⟩])[j]? = some u → (wr.alloc (.cells #[.string (str sec), .string (str x), .int .i64 f, .bool l, .int .i64 (kindsT sec), .slice none 0 0] 28)).cell? ((⟨wr.heap.size, 0, none⟩ : Addr).add j) = some u) := by
        intro j u hj
        have e : (⟨wr.heap.size, 0, none⟩ : Addr).add j = ⟨wr.heap.size, j, none⟩ := by unfold Addr.add; split <;> simp_all
        have HN := Blk.new wr 28 #[.string (str sec), .string (str x), .int .i64 f, .bool l, .int .i64 (kindsT sec), .slice none 0 0]
        rw [e, HN.cell j]
        rw [krs_one] at hj
        simpa [krCells] using hj
      clear hx
      go_wp2_with (first
        | (go_at_call 47; refine (HKI.out _).mono ?_; rintro e3 w3 ⟨rfl, rfl⟩)
        | (at_builtin; refine wpList_append_keys rfl _ _ rfl _ (rowT sec f l (ns.take k)) [⟨sec, x, f, l, kindsT sec, []⟩] [⟨sec, x, f, l, kindsT sec, none, 0, 0⟩] rfl HK2.out ⟨wr.heap.size, 0, none⟩ 1 1 rfl rfl HA2.out HC2.out (by simp; omega) ?_; intro v' w' hk' _; rw [← HT.out] at hk'; have HK' := Lib.hid hk'; clear hk'))
      go_roundw
      case rel => exact ⟨k + 1, by omega, by go_num, HK'⟩
      case measure => simp [intOf]; omega
    · obtain rfl : k = ns.length := by omega
      have HE := HK.out
      rw [List.take_of_length_le (Nat.le_refl _)] at HE
      have HE := Lib.hid HE
      go_wp2_with fail
      go_ret
      exact ⟨_, rfl, HE.out.from_ HB1.out⟩
end Go.Proofs.YtadifolonbkamaaGreatDoor
namespace Go.Proofs.YtadifolonbkamaaGreatDoor
open Go.RowKit
theorem cutA_size (c : UInt8) (s : ByteArray) : (cutA c s).size ≤ s.size := by
  rcases h : cutF c s with _ | _
  · rw [(cutC_no h).2]; exact Nat.le_refl _
  · have := (cutC_yes h).2.2; omega
def noAsg (s : ByteArray) : Bool := !cutF 61 s || !isVarS (cutA 61 s)
set_option maxHeartbeats 2000000 in
theorem noAsg_any (s : ByteArray) (hs : s.size ≤ maxLen) (w : World) :
    Calls Tryz.prog 85 #[.string s] w fun e w' => e = .returned (.bool (noAsg s)) ∧ Below w.heap.size w w' := by
  have hA := cutA_size 61 s
  have HC := Lib.hid fun w => cut_c 61 s hs w
  have HV := Lib.hid fun w => isVariable_any (cutA 61 s) (by omega) w
  unfold noAsg
  rcases hf : cutF 61 s with _ | _
  · rw [hf] at HC
    clear hf
    go_enter Tryz.func85, Tryz.ntmps85
    go_wp2_with (go_at_call 112; refine (HC.out _).mono ?_; rintro e w1 ⟨rfl, nd, rfl⟩)
    go_ret
    exact ⟨rfl, below_drewN (Below.refl _ _) _⟩
  · rw [hf] at HC
    clear hf
    rcases hv : isVarS (cutA 61 s) with _ | _
    all_goals
      rw [hv] at HV
      clear hv
      go_enter Tryz.func85, Tryz.ntmps85
      go_wp2_with (first
        | (go_at_call 112; refine (HC.out _).mono ?_; rintro e w1 ⟨rfl, nd, rfl⟩)
        | (go_at_call 113; refine (HV.out _).mono ?_; rintro e w2 ⟨rfl, hb⟩))
      go_ret
      exact ⟨rfl, more (below_drewN (Below.refl _ _) _) hb⟩
theorem any_takeV {α : Type} {l : List α} {p : α → Bool} {k : Nat} {x : α} (h : (l.take k).any p = false) (hx : l[k]? = some x) : (p x = true → l.any p = true) ∧ (p x = false → (l.take (k + 1)).any p = false) := by
  have hk : k < l.length := by
    rcases Nat.lt_or_ge k l.length with h' | h'
    · exact h'
    · rw [List.getElem?_eq_none h'] at hx; cases hx
  have he : l[k] = x := by rw [List.getElem?_eq_getElem hk] at hx; exact Option.some.inj hx
  constructor
  · intro e
    exact List.any_eq_true.2 ⟨x, by rw [← he]; exact List.getElem_mem hk, e⟩
  · intro e
    rw [List.take_succ_eq_append_getElem hk, he, List.any_append, h]
    simp [e]
def noAsgL (x : List UInt8) : Bool := noAsg (str x)
set_option maxHeartbeats 4000000 in
theorem asgIndex_any (A : Option Addr) (n c B : Nat) (l : List (List UInt8)) (w : World) (h : RowAt w B A n l) (hB : B ≤ w.heap.size) (hs : ∀ x ∈ l, x.length ≤ maxLen) :
    Calls Tryz.prog 111 #[.slice A n c, .func (.func 85) #[] #[]] w fun e w' => ∃ i : Int, e = .returned (.int .i64 i) ∧ decide (0 ≤ i) = l.any noAsgL ∧ Below w.heap.size w w' := by
  have hm := h.2.1
  unfold maxLen at hm
  have hl := h.1
  have HL := Lib.hid h
  have HS := Lib.hid hs
  have HN0 : Hid ((l.take 0).any noAsgL = false) := rfl
  clear h hs
  go_enter Tryz.func111, Tryz.ntmps111
  go_wp2_with fail
  go_loopw [8] (fun i wr => ∃ k : Nat, k ≤ n ∧ i = .int .i64 k ∧ Hid (Below w.heap.size w wr) ∧ Hid ((l.take k).any noAsgL = false)) (fun i wr => n - (intOf i).toNat)
  case atStart => exact ⟨0, Nat.zero_le _, rfl, Below.refl _ _, HN0⟩
  case round =>
    obtain ⟨k, hk, rfl, hb, hN⟩ := hrel
    by_cases hlt : k < n
    · have b0 : (0 : Int) ≤ (k : Int) := by omega
      have b1 : (k : Int) < (n : Int) := by omega
      obtain ⟨ad, x, rfl, hab, hx, q0⟩ := (HL.out.below (hb.out.mono hB)).at_ hlt
      obtain ⟨n1, n2⟩ := any_takeV hN.out hx
      have HC := Lib.hid fun w => noAsg_any (str x) (by rw [str_size]; exact HS.out x (List.mem_of_getElem? hx)) w
      clear hx
      rcases hf : noAsg (str x) with _ | _
      · have HF := Lib.hid (n2 hf)
        rw [hf] at HC
        clear hf n1 n2
        go_wp2_with (go_at_call 85; refine (HC.out _).mono ?_; rintro e w1 ⟨rfl, hb1⟩)
        go_roundw
        case rel => exact ⟨k + 1, by omega, by go_num, more hb.out hb1, HF⟩
        case measure => simp [intOf]; omega
      · have HF := Lib.hid (n1 hf)
        rw [hf] at HC
        clear hf n1 n2
        go_wp2_with (go_at_call 85; refine (HC.out _).mono ?_; rintro e w1 ⟨rfl, hb1⟩)
        go_ret
        exact ⟨_, rfl, by rw [HF.out]; simp, more hb.out hb1⟩
    · obtain rfl : k = n := by omega
      have HF : Hid (l.any noAsgL = false) := by
        have := hN.out
        rwa [List.take_of_length_le (by omega)] at this
      go_wp2_with fail
      go_ret
      exact ⟨_, rfl, by rw [HF.out]; simp, hb.out⟩
theorem asgHas_any (A : Option Addr) (n c B : Nat) (l : List (List UInt8)) (w : World) (h : RowAt w B A n l) (hB : B ≤ w.heap.size) (hs : ∀ x ∈ l, x.length ≤ maxLen) :
    Calls Tryz.prog 84 #[.slice A n c, .func (.func 85) #[] #[]] w fun e w' => e = .returned (.bool (l.any noAsgL)) ∧ Below w.heap.size w w' := by
  have HC := Lib.hid (asgIndex_any A n c B l w h hB hs)
  clear h hs
  go_enter Tryz.func84, Tryz.ntmps84
  go_wp2_with fail
  refine HC.out.mono ?_
  rintro e w1 ⟨i, rfl, hi, hb⟩
  have HI := Lib.hid hi
  clear hi
  go_wp2_with fail
  go_ret
  exact ⟨ret_bool HI.out, hb⟩
end Go.Proofs.YtadifolonbkamaaGreatDoor
