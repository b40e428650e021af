/- The walk of the developers' parseField. -/
import Derived.Test.YtncolcjejgmhjaaGreatDoorCxay
import Derived.Test.YtncolcjejgmhjaaGreatDoorCxaz
import Derived.Test.YtncolcjejgmhjaaGreatDoorCxba
import Derived.Test.YtncolcjejgmhjaaGreatDoorCxau
namespace Go.Proofs.YtncolcjejgmhjaaGreatDoor
open Go.RowKit
attribute [local go_sem] Oper.semAt_some
theorem turn_blk {C g : Nat} {X Y : World} {t : TypeId} {cs : Array Value} (ht : Turn C X Y) (h : Blk X g t cs) (hg : g ≠ C) : Blk Y g t cs := by
  obtain ⟨k, hk, hy⟩ := ht
  refine (hy.block g h.lt ?_).trans h
  intro e
  have e : k = g := by injection e with e; exact e.symm
  rcases hk with hk | ⟨_, y, hk⟩
  · exact hg (by omega)
  · rw [e] at hk
    unfold Blk at h
    rw [h] at hk; cases hk
theorem turn_own {C base size n : Nat} {e : TypeId} {X Y : World} {v : Value} {xs : List Value} (ht : Turn C X Y) (h : X.ownsRow base e size v n xs) (hC : C < base) : Y.ownsRow base e size v n xs := by
  obtain ⟨h1, h2⟩ := h
  refine ⟨h1, ?_⟩
  rcases h2 with h2 | ⟨g, cap, cur, hv, hg, hb, hr⟩
  · exact .inl h2
  · exact .inr ⟨g, cap, cur, hv, hg, turn_blk (t := e) (cs := cur) ht hb (by omega), hr⟩
theorem turn_below {C B : Nat} {w X Y : World} (ht : Turn C X Y) (h : Below B w X) (hB : B ≤ C) (hs : C < X.heap.size) : Below B w Y := by
  obtain ⟨k, hk, hy⟩ := ht
  refine h.trans ⟨hy.os, hy.tape, hy.output, hy.size, fun i hi => hy.block i (by omega) ?_⟩
  intro e
  have e : k = i := by injection e with e; exact e.symm
  rcases hk with hk | ⟨hk, _⟩ <;> omega
theorem commaSeq_any (s : ByteArray) (w : World) :
    Calls Tryz.prog 60 #[.string s, .string ⟨#[44]⟩] w fun e w' => e = .returned (.func (.func 84) #[] #[.pointer (some ⟨w.heap.size + 1, 0, none⟩), .pointer (some ⟨w.heap.size, 0, none⟩), .pointer (some ⟨w.heap.size + 2, 0, none⟩)]) ∧
      w' = ((w.alloc (.cells #[.string s] 9)).alloc (.cells #[.string ⟨#[44]⟩] 9)).alloc (.cells #[.int .i64 0] 3) := by
  go_enter Tryz.func60, Tryz.ntmps60
  go_wp2
  go_ret
  exact ⟨rfl, rfl⟩
theorem boxes6 (w : World) (t0 t1 t2 : TypeId) (c0 c1 c2 : Value) (s : ByteArray) (W0 : World)
    (hW : W0 = (((((w.alloc (.cells #[c0] t0)).alloc (.cells #[c1] t1)).alloc (.cells #[c2] t2)).alloc (.cells #[.string s] 9)).alloc (.cells #[.string ⟨#[44]⟩] 9)).alloc (.cells #[.int .i64 0] 3)) :
    Below w.heap.size w W0 ∧ Blk W0 w.heap.size t0 #[c0] ∧ Blk W0 (w.heap.size + 1) t1 #[c1] ∧ Blk W0 (w.heap.size + 1 + 1) t2 #[c2] ∧ SplitAt (w.heap.size + 1 + 1 + 1) s W0 ∧ W0.heap.size = w.heap.size + 1 + 1 + 1 + 3 := by
  subst hW
  have a0 := Blk.new w t0 #[c0]
  have z0 := World.size_alloc w (.cells #[c0] t0)
  have b0 : Below w.heap.size w _ := (Below.refl _ w).alloc (Nat.le_refl _) (.cells #[c0] t0)
  generalize w.alloc (.cells #[c0] t0) = w0 at *
  have a1 := Blk.new w0 t1 #[c1]
  have z1 := World.size_alloc w0 (.cells #[c1] t1)
  have b1 := b0.alloc (by omega) (.cells #[c1] t1)
  replace a0 := a0.alloc (.cells #[c1] t1)
  generalize w0.alloc (.cells #[c1] t1) = w1 at *
  have a2 := Blk.new w1 t2 #[c2]
  have z2 := World.size_alloc w1 (.cells #[c2] t2)
  have b2 := b1.alloc (by omega) (.cells #[c2] t2)
  replace a0 := a0.alloc (.cells #[c2] t2)
  replace a1 := a1.alloc (.cells #[c2] t2)
  generalize w1.alloc (.cells #[c2] t2) = w2 at *
  have a3 := Blk.new w2 9 #[.string s]
  have z3 := World.size_alloc w2 (.cells #[.string s] 9)
  have b3 := b2.alloc (by omega) (.cells #[.string s] 9)
  replace a0 := a0.alloc (.cells #[.string s] 9)
  replace a1 := a1.alloc (.cells #[.string s] 9)
  replace a2 := a2.alloc (.cells #[.string s] 9)
  generalize w2.alloc (.cells #[.string s] 9) = w3 at *
  have a4 := Blk.new w3 9 #[.string ⟨#[44]⟩]
  have z4 := World.size_alloc w3 (.cells #[.string ⟨#[44]⟩] 9)
  have b4 := b3.alloc (by omega) (.cells #[.string ⟨#[44]⟩] 9)
  replace a0 := a0.alloc (.cells #[.string ⟨#[44]⟩] 9)
  replace a1 := a1.alloc (.cells #[.string ⟨#[44]⟩] 9)
  replace a2 := a2.alloc (.cells #[.string ⟨#[44]⟩] 9)
  replace a3 := a3.alloc (.cells #[.string ⟨#[44]⟩] 9)
  generalize w3.alloc (.cells #[.string ⟨#[44]⟩] 9) = w4 at *
  have a5 := Blk.new w4 3 #[.int .i64 0]
  have z5 := World.size_alloc w4 (.cells #[.int .i64 0] 3)
  have b5 := b4.alloc (by omega) (.cells #[.int .i64 0] 3)
  replace a0 := a0.alloc (.cells #[.int .i64 0] 3)
  replace a1 := a1.alloc (.cells #[.int .i64 0] 3)
  replace a2 := a2.alloc (.cells #[.int .i64 0] 3)
  replace a3 := a3.alloc (.cells #[.int .i64 0] 3)
  replace a4 := a4.alloc (.cells #[.int .i64 0] 3)
  rw [z0] at a1 z1
  rw [z1] at a2 z2
  rw [z2] at a3 z3
  rw [z3] at a4 z4
  rw [z4] at a5 z5
  exact ⟨b5, a0, a1, a2, ⟨a3, a4, a5⟩, z5⟩
theorem partInfo : (Tryz.prog.info? 58).map (fun i => (i.zero, i.size, i.bytes)) = some (some (.agg #[.int .i64 0, .int .i64 0, .int .i64 0]), 3, 24) := by kernel_rfl
theorem PtsAt.of_own {w : World} {base n : Nat} {v : Value} {ps : List Pt} (h : w.ownsRow base 58 3 v n (pts ps)) (hn : ps.length = n) (hm : n ≤ maxLen) : ∃ A c, v = .slice A n c ∧ PtsAt w w.heap.size A n ps := by
  obtain ⟨h1, h2⟩ := h
  rcases h2 with ⟨hv, h0⟩ | ⟨g, cap, cur, hv, hg, hb, hr1, hr2, hr3, hr4⟩
  · subst h0
    refine ⟨none, 0, hv, hn, hm, ?_⟩
    have : ps = [] := List.length_eq_zero_iff.1 hn
    rw [this]; exact Reads.none_
  · refine ⟨some ⟨g, 0, none⟩, cap, hv, hn, hm, h1, fun _ => ⟨⟨g, 0, none⟩, rfl, (Array.getElem?_eq_some_iff.1 hb).1, ?_⟩⟩
    intro j u hj
    have hjl : j < n * 3 := by
      rw [← h1]
      rcases Nat.lt_or_ge j (pts ps).length with h' | h'
      · exact h'
      · rw [List.getElem?_eq_none h'] at hj; cases hj
    rw [← hr4, List.getElem?_take_of_lt hjl] at hj
    have : (⟨g, 0, none⟩ : Addr).add j = ⟨g, j, none⟩ := by unfold Addr.add; split <;> simp_all
    rw [this]
    have hc : w.cell? ⟨g, j, none⟩ = cur[j]? := cell_of_row w g j cur _ (0, 0) hb
    rw [hc, ← Array.getElem?_toList]; exact hj
theorem pts_snoc (ps : List Pt) (p : Pt) : pts (ps ++ [p]) = pts ps ++ [.int .i64 p.a, .int .i64 p.b, .int .i64 p.s] := by simp [pts, ptCells]
theorem mapO_snoc_yes {α β : Type} {g : α → Option β} {l : List α} {x : α} {r : List β} {y : β} (h : mapO g l = some r) (hx : g x = some y) : mapO g (l ++ [x]) = some (r ++ [y]) := by
  rw [mapO_app, h]; simp [mapO, hx]
theorem mapO_snoc_no {α β : Type} {g : α → Option β} {l : List α} {x : α} (hx : g x = none) : mapO g (l ++ [x]) = none := mapO_none (x := x) (by simp) hx
def bytesOf (l : List ByteArray) : List (List UInt8) := l.map fun x => x.data.toList
theorem bytes_pieces (s : ByteArray) : bytesOf (piecesS s) = splitL 44 s.data.toList := by
  unfold bytesOf piecesS splitL
  rw [List.map_map]
  have : ((fun x : ByteArray => x.data.toList) ∘ str) = id := by funext l; rfl
  rw [this, List.map_id]
def FI (w : World) (pre : List ByteArray) (W : World) : Prop :=
  ∃ (v : Value) (ps : List Pt), mapO partD (bytesOf pre) = some ps ∧ Blk W w.heap.size 23 #[.slice none 0 0] ∧ Blk W (w.heap.size + 1) 4 #[.bool false] ∧ Blk W (w.heap.size + 1 + 1) 23 #[v] ∧
    W.ownsRow (w.heap.size + 1 + 1 + 1 + 3) 58 3 v ps.length (pts ps) ∧ Below w.heap.size w W ∧ w.heap.size + 1 + 1 + 1 + 3 ≤ W.heap.size
def FX (w : World) (c : Code) (pre : List ByteArray) (W : World) : Prop :=
  c = .ret ∧ mapO partD (bytesOf pre) = none ∧ Blk W w.heap.size 23 #[.slice none 0 0] ∧ Blk W (w.heap.size + 1) 4 #[.bool false] ∧ Below w.heap.size w W ∧ w.heap.size + 1 + 1 + 1 + 3 ≤ W.heap.size
theorem FI.turn {w X Y : World} {pre : List ByteArray} (ht : Turn (w.heap.size + 1 + 1 + 1) X Y) (h : FI w pre X) : FI w pre Y := by
  obtain ⟨v, ps, h0, h1, h2, h3, h4, h5, h6⟩ := h
  have hs : X.heap.size ≤ Y.heap.size := by obtain ⟨k, _, hy⟩ := ht; exact hy.size
  exact ⟨v, ps, h0, turn_blk ht h1 (by omega), turn_blk ht h2 (by omega), turn_blk ht h3 (by omega), turn_own ht h4 (by omega), turn_below ht h5 (by omega) (by omega), by omega⟩
theorem FX.turn {w X Y : World} {c : Code} {pre : List ByteArray} (ht : Turn (w.heap.size + 1 + 1 + 1) X Y) (h : FX w c pre X) : FX w c pre Y := by
  obtain ⟨hc, h0, h1, h2, h5, h6⟩ := h
  have hs : X.heap.size ≤ Y.heap.size := by obtain ⟨k, _, hy⟩ := ht; exact hy.size
  exact ⟨hc, h0, turn_blk ht h1 (by omega), turn_blk ht h2 (by omega), turn_below ht h5 (by omega) (by omega), by omega⟩
theorem FI.below {w X Y : World} {pre : List ByteArray} (h : FI w pre X) (hb : Below X.heap.size X Y) : FI w pre Y := by
  obtain ⟨v, ps, h0, h1, h2, h3, h4, h5, h6⟩ := h
  have hs := hb.size
  refine ⟨v, ps, h0, h1.below hb h1.lt, h2.below hb h2.lt, h3.below hb h3.lt, ?_, more3 h5 h5.size hb, by omega⟩
  obtain ⟨q1, q2⟩ := h4
  refine ⟨q1, ?_⟩
  rcases q2 with q2 | ⟨g, cap, cur, hv, hg, hbk, hr⟩
  · exact .inl q2
  · exact .inr ⟨g, cap, cur, hv, hg, Blk.below (t := 58) (cs := cur) hbk hb (Array.getElem?_eq_some_iff.1 hbk).1, hr⟩
def KeepT (C D : Nat) (W Y : World) : Prop := W.heap.size ≤ Y.heap.size ∧ ∀ i, C ≤ i → i < W.heap.size → (i < D ∨ ¬ ∃ cs fz, W.heap[i]? = some (.cells cs 58 fz)) → Y.heap[i]? = W.heap[i]?
theorem KeepT.trans {C D : Nat} {W X Y : World} (h : KeepT C D W X) (k : KeepT C D X Y) : KeepT C D W Y :=
  ⟨Nat.le_trans h.1 k.1, fun i hC hi ho => (k.2 i hC (Nat.lt_of_lt_of_le hi h.1) (by rw [h.2 i hC hi ho]; exact ho)).trans (h.2 i hC hi ho)⟩
theorem KeepT.below {C D : Nat} {W Y : World} (hb : Below W.heap.size W Y) : KeepT C D W Y := ⟨hb.size, fun i _ hi _ => hb.block i hi⟩
theorem KeepT.alloc (C D : Nat) (W : World) (o : Obj) : KeepT C D W (W.alloc o) := KeepT.below ((Below.refl _ _).alloc (Nat.le_refl _) _)
theorem KeepT.set {C D : Nat} {W : World} {a : Addr} (u : Value) (h : a.block < C) : KeepT C D W (W.setCell a u) := ⟨by simp [World.setCell], fun i hC _ _ => Below.heap_setCell W a u i (by omega)⟩
theorem KeepT.grown {C D n : Nat} {W Y : World} {v : Value} {xs : List Value} (hown : W.ownsRow D 58 3 v n xs) (hg : W.grownBy Y v.ownBlock) : KeepT C D W Y := by
  refine ⟨hg.size, fun i _ hi ho => hg.block i hi ?_⟩
  intro e
  rcases hown.2 with ⟨rfl, _⟩ | ⟨g, cap, cur, rfl, hD, hb, _⟩
  · cases e
  · have e2 : i = g := by simpa [Value.ownBlock] using e
    subst e2
    rcases ho with ho | ho
    · omega
    · exact ho ⟨_, _, hb⟩
theorem own_below {base size n : Nat} {e : TypeId} {X Y : World} {v : Value} {xs : List Value} (h : X.ownsRow base e size v n xs) (hb : Below X.heap.size X Y) : Y.ownsRow base e size v n xs := by
  obtain ⟨q1, q2⟩ := h
  refine ⟨q1, ?_⟩
  rcases q2 with q2 | ⟨g, cap, cur, hv, hg, hbk, hr⟩
  · exact .inl q2
  · exact .inr ⟨g, cap, cur, hv, hg, Blk.below (t := e) (cs := cur) hbk hb (Array.getElem?_eq_some_iff.1 hbk).1, hr⟩
theorem own_set {base size n : Nat} {e : TypeId} {X : World} {v u : Value} {xs : List Value} {a : Addr} (h : X.ownsRow base e size v n xs) (ha : a.block < base) : (X.setCell a u).ownsRow base e size v n xs := by
  obtain ⟨q1, q2⟩ := h
  refine ⟨q1, ?_⟩
  rcases q2 with q2 | ⟨g, cap, cur, hv, hg, hbk, hr⟩
  · exact .inl q2
  · exact .inr ⟨g, cap, cur, hv, hg, (Blk.setOther (t := e) (cs := cur) hbk (by omega) u), hr⟩
theorem KeepT.stand {C D l : Nat} {W Y : World} (h : KeepT C D W Y) (hCD : C ≤ D) (_hD : D ≤ W.heap.size) (hl : D + 1 ≤ l) (hlo : ∃ y, W.heap[l]? = some (.loop y)) (hde : W.heap[l - 1]? = some (.deferred (some []))) : Stand C D l W Y := by
  obtain ⟨y, hy⟩ := hlo
  have hlt : l < W.heap.size := (Array.getElem?_eq_some_iff.1 hy).1
  refine ⟨fun i h1 h2 => h.2 i h1 (by omega) (.inl h2), fun i h1 h2 => h.2 i (by omega) (by omega) (.inr ?_)⟩
  rintro ⟨cs, fz, hc⟩
  have : i = l ∨ i = l - 1 := by omega
  rcases this with rfl | rfl
  · rw [hy] at hc; cases hc
  · rw [hde] at hc; cases hc
theorem mapO_len {α β : Type} {g : α → Option β} {l : List α} {r : List β} (h : mapO g l = some r) : r.length = l.length := by
  induction l generalizing r with
  | nil => cases h; rfl
  | cons x l ih =>
    rw [mapO] at h
    cases hx : g x with
    | none => rw [hx] at h; cases h
    | some y =>
      rw [hx] at h
      cases hr : mapO g l with
      | none => rw [hr] at h; cases h
      | some ys =>
        rw [hr] at h
        have e := Option.some.inj h
        rw [← e, List.length_cons, List.length_cons, ih hr]
theorem sgo_le (b : UInt8) (l w : List UInt8) : (sgo b w l).length ≤ l.length + 1 := by
  induction l generalizing w with
  | nil => simp [sgo]
  | cons c l ih =>
    rw [sgo]
    split
    · rw [List.length_cons, List.length_cons]; have := ih []; omega
    · have := ih (w ++ [c]); rw [List.length_cons]; omega
theorem pieces_len (s : ByteArray) : (piecesS s).length ≤ s.size + 1 := by
  unfold piecesS
  rw [List.length_map]
  have := sgo_le 44 s.data.toList []
  rw [size_list] at this; exact this
def FieldP (l : List UInt8) (w : World) (e : Ending) (w' : World) : Prop :=
  ∃ (A : Option Addr) (n c : Nat), e = .returned (.tuple #[.slice A n c, .bool (mapO partD (splitL 44 l)).isSome]) ∧ (∀ ps, mapO partD (splitL 44 l) = some ps → PtsAt w' w'.heap.size A n ps) ∧ Below w.heap.size w w'
set_option maxRecDepth 100000 in
set_option maxHeartbeats 8000000 in
theorem parseField_any (s : ByteArray) (hs : s.size ≤ 4000) (w : World) (ht : TabM w) :
    Calls Tryz.prog 66 #[.string s] w (FieldP s.data.toList w) := by
  have HT := Lib.hid ht
  clear ht
  refine (callsIn_wide (n := 9)).1 ?_
  refine callsIn_of_wp_marks Tryz.func66 rfl trivial ?_ rfl
  simp only [Tryz.ntmps66, List.size_toArray, List.length_cons, List.length_nil, Nat.reduceAdd, Nat.reduceSub, Array.replicate_succ, Array.replicate_zero, List.push_toArray, List.append_toArray, List.nil_append, List.cons_append]
  gi_wp2_with (refine ⟨trivial, ?_⟩; gi_at_call 60; refine (callsIn_wide.2 (commaSeq_any _ _)).mono ?_; rintro e w' ⟨rfl, rfl⟩)
  obtain ⟨hB0, hR0, hR1, hP0, hS0, hZ0⟩ := boxes6 w 23 4 23 (.slice none 0 0) (.bool false) (.slice none 0 0) s _ rfl
  have hI0 : FI w [] ((((((w.alloc (.cells #[.slice none 0 0] 23)).alloc (.cells #[.bool false] 4)).alloc (.cells #[.slice none 0 0] 23)).alloc (.cells #[.string s] 9)).alloc (.cells #[.string ⟨#[44]⟩] 9)).alloc (.cells #[.int .i64 0] 3)) := ⟨.slice none 0 0, [], rfl, hR0, hR1, hP0, World.ownsRow_nil _ _ _ _, hB0, by omega⟩
  generalize (((((w.alloc (.cells #[.slice none 0 0] 23)).alloc (.cells #[.bool false] 4)).alloc (.cells #[.slice none 0 0] 23)).alloc (.cells #[.string s] 9)).alloc (.cells #[.string ⟨#[44]⟩] 9)).alloc (.cells #[.int .i64 0] 3) = W0 at *
  refine range_boxD (C := w.heap.size + 1 + 1 + 1) (D := w.heap.size + 1 + 1 + 1 + 3) rfl (by omega) rfl trivial (enters_of Tryz.func84 (by kernel_rfl) rfl) (by omega) (by omega)
    (split_seq _ (by omega) _ s (by unfold maxLen; omega) W0 (by omega) hS0) (FI w) (FX w) (fun _ _ _ h hb => h.below hb) (fun _ _ _ ht h => h.turn ht) (fun _ _ _ _ ht h => h.turn ht) hI0
    (fun x => { tmps := #[.string s, undef, .pointer (some ⟨w.heap.size, 0, none⟩), .pointer (some ⟨w.heap.size + 1, 0, none⟩), .pointer (some ⟨w.heap.size + 1 + 1, 0, none⟩), .string x, undef, undef, .string s, .func (.func 84) #[] #[.pointer (some ⟨w.heap.size + 1 + 1 + 1 + 1, 0, none⟩), .pointer (some ⟨w.heap.size + 1 + 1 + 1, 0, none⟩), .pointer (some ⟨w.heap.size + 1 + 1 + 1 + 2, 0, none⟩)], .string x, undef, undef, undef, undef, undef, undef, undef, undef, undef, undef, undef, undef], defers := [] }) ?assign ?body ?done ?stop
  case assign =>
    intro l x W K hK
    gi_wp2
    exact hK
  case body =>
    rintro l pre x post W hxs hI hD hl hlo hde
    have hx : x.size ≤ 4194304 := by
      have := piece_size (s := s) (x := x) (by rw [hxs]; simp)
      omega
    obtain ⟨v, ps, hm, h0, h1, h2, hown, hb, hsz⟩ := hI
    --BODY
    have hlen : ps.length ≤ 4001 := by
      have e1 := mapO_len hm
      have e2 := pieces_len s
      have e3 := congrArg List.length hxs
      rw [List.length_append] at e3
      unfold bytesOf at e1
      rw [List.length_map] at e1
      omega
    obtain ⟨i0, hi, hz0, hz1, hz2⟩ := info_parts partInfo
    have HTW := Lib.hid (HT.out.below hb)
    have HXS := Lib.hid hxs
    have HM := Lib.hid hm
    have H0 := Lib.hid h0
    have H1 := Lib.hid h1
    have H2 := Lib.hid h2
    have HB := Lib.hid hb
    have HO := Lib.hid hown
    have HLO := Lib.hid hlo
    have HDE := Lib.hid hde
    clear hxs hm h0 h1 h2 hb hown hlo hde
    cases hq : partD x.data.toList with
    | none =>
      have HX : Hid (mapO partD (bytesOf (pre ++ [x])) = none) := by
        show _ = _
        unfold bytesOf
        rw [List.map_append, List.map_cons, List.map_nil]
        exact mapO_snoc_no hq
      have HQ : Hid ((partD x.data.toList).isSome = false) := by show _ = _; rw [hq]; rfl
      clear hq
      gi_wp2_with (refine ⟨trivial, ?_⟩; gi_at_call 78; refine (CallsIn.inRound l (callsIn_wide.2 (parsePart_any x hx _ HTW.out))).mono ?_; rintro e w1 ⟨p, rfl, hp, hb1⟩; rw [HQ.out]; have HP := Lib.hid hp; have hs1 := hb1.size; have K1a := Lib.hid ((KeepT.below (C := w.heap.size + 1 + 1 + 1) (D := w.heap.size + 1 + 1 + 1 + 3) hb1).trans (KeepT.alloc _ _ w1 (.cells #[.int .i64 p.a, .int .i64 p.b, .int .i64 p.s] 58))); have H0a := Lib.hid ((H0.out.below hb1 H0.out.lt).alloc (.cells #[.int .i64 p.a, .int .i64 p.b, .int .i64 p.s] 58)); have H1a := Lib.hid ((H1.out.below hb1 H1.out.lt).alloc (.cells #[.int .i64 p.a, .int .i64 p.b, .int .i64 p.s] 58)); have H2a := Lib.hid ((H2.out.below hb1 H2.out.lt).alloc (.cells #[.int .i64 p.a, .int .i64 p.b, .int .i64 p.s] 58)); have HOa := Lib.hid (own_below HO.out hb1); have HBa := Lib.hid ((more3 HB.out HB.out.size hb1).alloc (by omega) (.cells #[.int .i64 p.a, .int .i64 p.b, .int .i64 p.s] 58)); have c0 : (w1.alloc (.cells #[.int .i64 p.a, .int .i64 p.b, .int .i64 p.s] 58)).cell? ⟨w.heap.size, 0, none⟩ = some (.slice none 0 0) := H0a.out.cell 0; have f0 : (w1.alloc (.cells #[.int .i64 p.a, .int .i64 p.b, .int .i64 p.s] 58)).frozen? ⟨w.heap.size, 0, none⟩ = false := H0a.out.frozen 0; have c1 : (w1.alloc (.cells #[.int .i64 p.a, .int .i64 p.b, .int .i64 p.s] 58)).cell? ⟨w.heap.size + 1, 0, none⟩ = some (.bool false) := H1a.out.cell 0; have f1 : (w1.alloc (.cells #[.int .i64 p.a, .int .i64 p.b, .int .i64 p.s] 58)).frozen? ⟨w.heap.size + 1, 0, none⟩ = false := H1a.out.frozen 0; have c2 : (w1.alloc (.cells #[.int .i64 p.a, .int .i64 p.b, .int .i64 p.s] 58)).cell? ⟨w.heap.size + 1 + 1, 0, none⟩ = some v := H2a.out.cell 0; clear hp hb1)
      have H0b := Lib.hid (H0a.out.setCell 0 (.slice none 0 0))
      have H1b : Hid (Blk (((w1.alloc (.cells #[.int .i64 p.a, .int .i64 p.b, .int .i64 p.s] 58)).setCell ⟨w.heap.size, 0, none⟩ (.slice none 0 0)).setCell ⟨w.heap.size + 1, 0, none⟩ (.bool false)) (w.heap.size + 1) 4 #[.bool false]) := (H1a.out.setOther (a := ⟨w.heap.size, 0, none⟩) (by simp) _).setCell 0 (.bool false)
      have H0c : Hid (Blk (((w1.alloc (.cells #[.int .i64 p.a, .int .i64 p.b, .int .i64 p.s] 58)).setCell ⟨w.heap.size, 0, none⟩ (.slice none 0 0)).setCell ⟨w.heap.size + 1, 0, none⟩ (.bool false)) w.heap.size 23 #[.slice none 0 0]) := H0b.out.setOther (a := ⟨w.heap.size + 1, 0, none⟩) (by simp) _
      refine ⟨?_, rfl, HX.out, H0c.out, H1b.out, ?_, ?_⟩
      · exact KeepT.stand ((K1a.out.trans (KeepT.set _ (by show w.heap.size < _; omega))).trans (KeepT.set _ (by show w.heap.size + 1 < _; omega))) (by omega) hD hl HLO.out HDE.out
      · exact (HBa.out.setCell (p := ⟨w.heap.size, 0, none⟩) (Nat.le_refl _) _).setCell (p := ⟨w.heap.size + 1, 0, none⟩) (Nat.le_add_right _ _) _
      · simp [World.setCell]; omega
    | some q =>
      have HX : Hid (mapO partD (bytesOf (pre ++ [x])) = some (ps ++ [q])) := by
        show _ = _
        unfold bytesOf
        rw [List.map_append, List.map_cons, List.map_nil]
        exact mapO_snoc_yes HM.out hq
      have HQ : Hid ((partD x.data.toList).isSome = true) := by show _ = _; rw [hq]; rfl
      have HQ2 := Lib.hid hq
      clear hq
      gi_wp2_with (first
        | (refine ⟨trivial, ?_⟩; gi_at_call 78; refine (CallsIn.inRound l (callsIn_wide.2 (parsePart_any x hx _ HTW.out))).mono ?_; rintro e w1 ⟨p, rfl, hp, hb1⟩; rw [HQ.out]; have HP := Lib.hid hp; have hs1 := hb1.size; have K1a := Lib.hid ((KeepT.below (C := w.heap.size + 1 + 1 + 1) (D := w.heap.size + 1 + 1 + 1 + 3) hb1).trans (KeepT.alloc _ _ w1 (.cells #[.int .i64 p.a, .int .i64 p.b, .int .i64 p.s] 58))); have H0a := Lib.hid ((H0.out.below hb1 H0.out.lt).alloc (.cells #[.int .i64 p.a, .int .i64 p.b, .int .i64 p.s] 58)); have H1a := Lib.hid ((H1.out.below hb1 H1.out.lt).alloc (.cells #[.int .i64 p.a, .int .i64 p.b, .int .i64 p.s] 58)); have H2a := Lib.hid ((H2.out.below hb1 H2.out.lt).alloc (.cells #[.int .i64 p.a, .int .i64 p.b, .int .i64 p.s] 58)); have HOa := Lib.hid (own_below HO.out hb1); have HBa := Lib.hid ((more3 HB.out HB.out.size hb1).alloc (by omega) (.cells #[.int .i64 p.a, .int .i64 p.b, .int .i64 p.s] 58)); have c0 : (w1.alloc (.cells #[.int .i64 p.a, .int .i64 p.b, .int .i64 p.s] 58)).cell? ⟨w.heap.size, 0, none⟩ = some (.slice none 0 0) := H0a.out.cell 0; have f0 : (w1.alloc (.cells #[.int .i64 p.a, .int .i64 p.b, .int .i64 p.s] 58)).frozen? ⟨w.heap.size, 0, none⟩ = false := H0a.out.frozen 0; have c1 : (w1.alloc (.cells #[.int .i64 p.a, .int .i64 p.b, .int .i64 p.s] 58)).cell? ⟨w.heap.size + 1, 0, none⟩ = some (.bool false) := H1a.out.cell 0; have f1 : (w1.alloc (.cells #[.int .i64 p.a, .int .i64 p.b, .int .i64 p.s] 58)).frozen? ⟨w.heap.size + 1, 0, none⟩ = false := H1a.out.frozen 0; have c2 : (w1.alloc (.cells #[.int .i64 p.a, .int .i64 p.b, .int .i64 p.s] 58)).cell? ⟨w.heap.size + 1 + 1, 0, none⟩ = some v := H2a.out.cell 0; clear hp hb1)
        | (gi_at_builtin
           refine wpListIn_append_own _ rfl _ _ 23 rfl (w.heap.size + 1 + 1 + 1 + 3) 58 i0 (.agg #[.int .i64 0, .int .i64 0, .int .i64 0]) 3 24 Tryz.underlying23 hi hz0 hz1 hz2 rfl (by decide) v ps.length (pts ps) (by rfl) ((HOa.out.alloc _).alloc _) ⟨w1.heap.size + 1, 0, none⟩ 1 1 [.int .i64 p.a, .int .i64 p.b, .int .i64 p.s] (by rfl) rfl ?k1 ?k2 ?k3 ?k4 ?k5 ?_))
      case k1 =>
        intro j u hj
        have e : (⟨w1.heap.size + 1, 0, none⟩ : Addr).add j = ⟨w1.heap.size + 1, j, none⟩ := by unfold Addr.add; split <;> simp_all
        have HN : Blk ((w1.alloc (.cells #[.int .i64 p.a, .int .i64 p.b, .int .i64 p.s] 58)).alloc (.cells #[.int .i64 p.a, .int .i64 p.b, .int .i64 p.s] 58)) (w1.heap.size + 1) 58 #[.int .i64 p.a, .int .i64 p.b, .int .i64 p.s] := by
          have := Blk.new (w1.alloc (.cells #[.int .i64 p.a, .int .i64 p.b, .int .i64 p.s] 58)) 58 #[.int .i64 p.a, .int .i64 p.b, .int .i64 p.s]
          rw [show (w1.alloc (.cells #[.int .i64 p.a, .int .i64 p.b, .int .i64 p.s] 58)).heap.size = w1.heap.size + 1 by simp] at this
          exact this
        rw [e, HN.cell j]
        simpa using hj
      case k2 => intro u hu; simp at hu; rcases hu with rfl | rfl | rfl <;> rfl
      case k3 => unfold maxLen; omega
      case k4 => omega
      case k5 => simp; omega
      intro v' w2 hown' hgrow _
      have hne : ∀ k, k < w.heap.size + 1 + 1 + 1 + 3 → some k ≠ v.ownBlock := fun k hk e => by have := (HOa.out.lt k e.symm).1; omega
      have hsz9 : w1.heap.size + 2 ≤ ((w1.alloc (.cells #[.int .i64 p.a, .int .i64 p.b, .int .i64 p.s] 58)).alloc (.cells #[.int .i64 p.a, .int .i64 p.b, .int .i64 p.s] 58)).heap.size := by simp
      have hsz2 : ((w1.alloc (.cells #[.int .i64 p.a, .int .i64 p.b, .int .i64 p.s] 58)).alloc (.cells #[.int .i64 p.a, .int .i64 p.b, .int .i64 p.s] 58)).heap.size ≤ w2.heap.size := hgrow.size
      have H0b : Hid (Blk w2 w.heap.size 23 #[.slice none 0 0]) := (hgrow.block _ (by simp; omega) (hne _ (by omega))).trans (H0a.out.alloc (.cells #[.int .i64 p.a, .int .i64 p.b, .int .i64 p.s] 58))
      have H1b : Hid (Blk w2 (w.heap.size + 1) 4 #[.bool false]) := (hgrow.block _ (by simp; omega) (hne _ (by omega))).trans (H1a.out.alloc (.cells #[.int .i64 p.a, .int .i64 p.b, .int .i64 p.s] 58))
      have H2b : Hid (Blk w2 (w.heap.size + 1 + 1) 23 #[v]) := (hgrow.block _ (by simp; omega) (hne _ (by omega))).trans (H2a.out.alloc (.cells #[.int .i64 p.a, .int .i64 p.b, .int .i64 p.s] 58))
      have HBb : Hid (Below w.heap.size w w2) := (HBa.out.alloc (by simp; omega) (.cells #[.int .i64 p.a, .int .i64 p.b, .int .i64 p.s] 58)).grown hgrow (by simp; omega) (fun k hk => by have := (HOa.out.lt k hk).1; omega)
      have Kb : Hid (KeepT (w.heap.size + 1 + 1 + 1) (w.heap.size + 1 + 1 + 1 + 3) W w2) := (K1a.out.trans (KeepT.alloc _ _ _ (.cells #[.int .i64 p.a, .int .i64 p.b, .int .i64 p.s] 58))).trans (KeepT.grown ((HOa.out.alloc _).alloc _) hgrow)
      obtain ⟨ao, n', cap, rfl⟩ : ∃ ao n' cap, v' = .slice ao n' cap := by
        rcases hown'.2 with ⟨hv, _⟩ | ⟨g, cap, cur, hv, _⟩
        · exact ⟨_, _, _, hv⟩
        · exact ⟨_, _, _, hv⟩
      have HON := Lib.hid hown'
      clear hown' hgrow hne
      have c2b : w2.cell? ⟨w.heap.size + 1 + 1, 0, none⟩ = some v := H2b.out.cell 0
      have f2b : w2.frozen? ⟨w.heap.size + 1 + 1, 0, none⟩ = false := H2b.out.frozen 0
      have H0c := Lib.hid (H0b.out.setOther (a := ⟨w.heap.size + 1 + 1, 0, none⟩) (by simp; omega) (.slice ao n' cap))
      have H1c := Lib.hid (H1b.out.setOther (a := ⟨w.heap.size + 1 + 1, 0, none⟩) (by simp) (.slice ao n' cap))
      have H2c := Lib.hid (H2b.out.setCell 0 (.slice ao n' cap))
      gi_wp2
      refine ⟨?_, .slice ao n' cap, ps ++ [q], HX.out, H0c.out, H1c.out, H2c.out, ?_, ?_, ?_⟩
      · exact KeepT.stand (Kb.out.trans (KeepT.set _ (by show w.heap.size + 1 + 1 < _; omega))) (by omega) hD hl HLO.out HDE.out
      · rw [pts_snoc, ← HP.out q HQ2.out, List.length_append]
        exact own_set HON.out (by show w.heap.size + 1 + 1 < _; omega)
      · exact HBb.out.setCell (p := ⟨w.heap.size + 1 + 1, 0, none⟩) (by show w.heap.size ≤ w.heap.size + 1 + 1; omega) _
      · simp [World.setCell]; omega
  case done =>
    rintro M W hM ⟨v, ps, hm, h0, h1, h2, hown, hb, hsz⟩ hK
    rw [bytes_pieces] at hm
    have hlen : ps.length ≤ 4001 := by
      have e1 := mapO_len hm
      have e2 := sgo_le 44 s.data.toList []
      rw [size_list] at e2
      unfold splitL at e1
      omega
    have HM := Lib.hid hm
    have c0 : W.cell? ⟨w.heap.size, 0, none⟩ = some (.slice none 0 0) := h0.cell 0
    have f0 : W.frozen? ⟨w.heap.size, 0, none⟩ = false := h0.frozen 0
    have c1 : W.cell? ⟨w.heap.size + 1, 0, none⟩ = some (.bool false) := h1.cell 0
    have f1 : W.frozen? ⟨w.heap.size + 1, 0, none⟩ = false := h1.frozen 0
    obtain ⟨ao, n', cap, rfl⟩ : ∃ ao n' cap, v = .slice ao n' cap := by
      rcases hown.2 with ⟨hv, _⟩ | ⟨g, cap, cur, hv, _⟩
      · exact ⟨_, _, _, hv⟩
      · exact ⟨_, _, _, hv⟩
    have c2 : W.cell? ⟨w.heap.size + 1 + 1, 0, none⟩ = some (.slice ao n' cap) := h2.cell 0
    have hMlt : M < W.heap.size := (Array.getElem?_eq_some_iff.1 hK).1
    have H0 : Hid (Blk ((W.setCell ⟨w.heap.size, 0, none⟩ (.slice ao n' cap)).setCell ⟨w.heap.size + 1, 0, none⟩ (.bool true)) w.heap.size 23 #[.slice ao n' cap]) := (h0.setCell 0 (.slice ao n' cap)).setOther (a := ⟨w.heap.size + 1, 0, none⟩) (by simp) (.bool true)
    have H1 : Hid (Blk ((W.setCell ⟨w.heap.size, 0, none⟩ (.slice ao n' cap)).setCell ⟨w.heap.size + 1, 0, none⟩ (.bool true)) (w.heap.size + 1) 4 #[.bool true]) := (h1.setOther (a := ⟨w.heap.size, 0, none⟩) (by simp) (.slice ao n' cap)).setCell 0 (.bool true)
    have HO : Hid (((W.setCell ⟨w.heap.size, 0, none⟩ (.slice ao n' cap)).setCell ⟨w.heap.size + 1, 0, none⟩ (.bool true)).ownsRow (w.heap.size + 1 + 1 + 1 + 3) 58 3 (.slice ao n' cap) ps.length (pts ps)) := own_set (own_set hown (by show w.heap.size < _; omega)) (by show w.heap.size + 1 < _; omega)
    have HK : Hid (((W.setCell ⟨w.heap.size, 0, none⟩ (.slice ao n' cap)).setCell ⟨w.heap.size + 1, 0, none⟩ (.bool true)).heap[M]? = some (.deferred (some []))) := (Below.heap_setCell (W.setCell ⟨w.heap.size, 0, none⟩ (.slice ao n' cap)) ⟨w.heap.size + 1, 0, none⟩ (.bool true) M (by show M ≠ w.heap.size + 1; omega)).trans ((Below.heap_setCell W ⟨w.heap.size, 0, none⟩ (.slice ao n' cap) M (by show M ≠ w.heap.size; omega)).trans hK)
    have HB : Hid (Below w.heap.size w ((W.setCell ⟨w.heap.size, 0, none⟩ (.slice ao n' cap)).setCell ⟨w.heap.size + 1, 0, none⟩ (.bool true))) := (hb.setCell (p := ⟨w.heap.size, 0, none⟩) (Nat.le_refl _) _).setCell (p := ⟨w.heap.size + 1, 0, none⟩) (by show w.heap.size ≤ w.heap.size + 1; omega) _
    clear hm h0 h1 h2 hown hb hK
    gi_wp2
    generalize (W.setCell ⟨w.heap.size, 0, none⟩ (.slice ao n' cap)).setCell ⟨w.heap.size + 1, 0, none⟩ (.bool true) = Wz at *
    refine ⟨by simp, .inl ⟨_, _, rfl, run_takeDeferred (w := Wz) HK.out, ?_⟩⟩
    have e0 : (Wz.putObj M (.deferred none)).cell? ⟨w.heap.size, 0, none⟩ = some (.slice ao n' cap) := (World.cell?_of_block ((below_put Wz M (.deferred none) (Nat.le_refl M)).block _ (by show w.heap.size < M; omega))).trans (H0.out.cell 0)
    have e1 : (Wz.putObj M (.deferred none)).cell? ⟨w.heap.size + 1, 0, none⟩ = some (.bool true) := (World.cell?_of_block ((below_put Wz M (.deferred none) (Nat.le_refl M)).block _ (by show w.heap.size + 1 < M; omega))).trans (H1.out.cell 0)
    have HO2 : (Wz.putObj M (.deferred none)).ownsRow (w.heap.size + 1 + 1 + 1 + 3) 58 3 (.slice ao n' cap) ps.length (pts ps) := by
      obtain ⟨q1, q2⟩ := HO.out
      refine ⟨q1, ?_⟩
      rcases q2 with q2 | ⟨g, cap', cur, hv, hg, hbk, hr⟩
      · exact .inl q2
      · refine .inr ⟨g, cap', cur, hv, hg, ?_, hr⟩
        have hne : g ≠ M := by
          intro e
          have := HK.out
          rw [← e, hbk] at this
          cases this
        exact ((below_put (C := M) Wz M (.deferred none) (Nat.le_refl M)) |> fun _ => by rw [← hbk]; simp [World.putObj, Ne.symm hne])
    obtain ⟨A, c, hv, hP⟩ := PtsAt.of_own HO2 rfl (by unfold maxLen; omega)
    refine ⟨.tuple #[.slice ao n' cap, .bool true], ?_, ⟨A, ps.length, c, ?_, ?_, HB.out.trans (below_put _ _ _ (by omega))⟩⟩
    · simp [results, Tryz.f66, go_sem, e0, e1]
    · rw [HM.out, ← hv]; rfl
    · intro ps' e
      rw [HM.out] at e
      cases e
      exact hP
  case stop =>
    rintro M c pre W hM hpre ⟨rfl, hm, h0, h1, hb, hsz⟩ hK
    gi_wp2
    refine ⟨by simp, .inl ⟨_, _, rfl, run_takeDeferred hK, ?_⟩⟩
    have e0 : (W.putObj M (.deferred none)).cell? ⟨w.heap.size, 0, none⟩ = some (.slice none 0 0) := (World.cell?_of_block ((below_put W M (.deferred none) (Nat.le_refl M)).block _ (by show w.heap.size < M; omega))).trans (h0.cell 0)
    have e1 : (W.putObj M (.deferred none)).cell? ⟨w.heap.size + 1, 0, none⟩ = some (.bool false) := (World.cell?_of_block ((below_put W M (.deferred none) (Nat.le_refl M)).block _ (by show w.heap.size + 1 < M; omega))).trans (h1.cell 0)
    have hnone : mapO partD (splitL 44 s.data.toList) = none := by
      rw [← bytes_pieces]
      obtain ⟨post, hp⟩ := hpre
      rw [← hp]
      unfold bytesOf
      rw [List.map_append, mapO_app]
      unfold bytesOf at hm
      rw [hm]
      rfl
    refine ⟨.tuple #[.slice none 0 0, .bool false], ?_, ⟨none, 0, 0, ?_, ?_, hb.trans (below_put _ _ _ (by omega))⟩⟩
    · simp [results, Tryz.f66, go_sem, e0, e1]
    · rw [hnone]; rfl
    · intro ps' e
      rw [hnone] at e
      cases e
end Go.Proofs.YtncolcjejgmhjaaGreatDoor
