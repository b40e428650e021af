/- Words on memory: a block that is known whole, what turns one block alone; strings.Cut at one byte. -/
import Derived.Test.YthgpocbmkmmecaaDoorShelf
import Derived.Test.YthgpocbmkmmecaaDoorSpM
import Derived.Laws.AppendOwn
import Derived.RangeFuncBox
import Derived.Lib.CutLaws
namespace Go.Proofs.YthgpocbmkmmecaaDoor
open Go.RowKit

theorem bcell {W w1 : World} (hb : Below W.heap.size W w1) : (∀ b o, b < W.heap.size → w1.cell? ⟨b, o, none⟩ = W.cell? ⟨b, o, none⟩) ∧ (∀ b o, b < W.heap.size → w1.frozen? ⟨b, o, none⟩ = W.frozen? ⟨b, o, none⟩) :=
  ⟨fun b o h => hb.cell (p := ⟨b, o, none⟩) h, fun b o h => hb.frozen (p := ⟨b, o, none⟩) h⟩

def Blk (w : World) (g : Nat) (t : TypeId) (cs : Array Value) : Prop := w.heap[g]? = some (.cells cs t (0, 0))
section
variable {w w' : World} {g : Nat} {t : TypeId} {cs : Array Value}
theorem Blk.lt (h : Blk w g t cs) : g < w.heap.size := by
  rcases Nat.lt_or_ge g w.heap.size with hlt | hge
  · exact hlt
  · unfold Blk at h; rw [Array.getElem?_eq_none hge] at h; cases h
theorem Blk.cell (h : Blk w g t cs) (i : Nat) : w.cell? ⟨g, i, none⟩ = cs[i]? := cell_of_row w g i cs t (0, 0) h
theorem Blk.frozen (h : Blk w g t cs) (i : Nat) : w.frozen? ⟨g, i, none⟩ = false := by
  unfold Blk at h
  simp [World.frozen?, h]
theorem Blk.new (w : World) (t : TypeId) (cs : Array Value) : Blk (w.alloc (.cells cs t)) w.heap.size t cs := heap_alloc_new w _
theorem Blk.drewN (h : Blk w g t cs) (n : Nat) : Blk (w.drewN n) g t cs := h
theorem Blk.drew (h : Blk w g t cs) : Blk w.drew g t cs := h
theorem Blk.alloc (h : Blk w g t cs) (o : Obj) : Blk (w.alloc o) g t cs := (Below.heap_alloc w o g h.lt).trans h
theorem Blk.below {B : Nat} (h : Blk w g t cs) (hb : Below B w w') (hg : g < B) : Blk w' g t cs := (hb.block g hg).trans h
theorem Blk.setCell (h : Blk w g t cs) (i : Nat) (u : Value) : Blk (w.setCell ⟨g, i, none⟩ u) g t (cs.setIfInBounds i u) := by
  unfold Blk at h ⊢
  simp [World.setCell, Array.getElem?_modify, h]
theorem Blk.setOther (h : Blk w g t cs) {a : Addr} (ha : g ≠ a.block) (u : Value) : Blk (w.setCell a u) g t cs := (Below.heap_setCell w a u g ha).trans h
theorem Blk.grown {row : Option Nat} (h : Blk w g t cs) (hb : w.grownBy w' row) (hg : some g ≠ row) : Blk w' g t cs := (hb.block g h.lt hg).trans h
theorem Blk.same (h : Blk w g t cs) (e : w'.heap[g]? = w.heap[g]?) : Blk w' g t cs := e.trans h
theorem Blk.ne_ {g' : Nat} {t' : TypeId} {cs' : Array Value} (h : Blk w g t cs) (h' : Blk w g' t' cs') (hne : t ≠ t') : g ≠ g' := by
  rintro rfl
  unfold Blk at h h'
  rw [h] at h'
  injection h' with h'
  injection h' with _ ht
  exact hne ht
end
theorem more3 {B : Nat} {a b c : World} (h : Below B a b) (hB : B ≤ b.heap.size) (h2 : Below b.heap.size b c) : Below B a c := h.trans (h2.mono hB)
theorem isB_below {T e : TypeId} {B b : Nat} {bs : List Value} {w w' : World} (h : Lib.IsBuilderF T e B b bs w) (hb : Below w.heap.size w w') : Lib.IsBuilderF T e B b bs w' := by
  have hg : w.grownBy w' none := ⟨hb.os, hb.tape, hb.output, hb.size, fun k hk _ => hb.block k hk⟩
  rcases h with ⟨h1, v, hbk, hown, hne⟩ | ⟨h1, v, hbk, hown, hne⟩
  · exact .inl ⟨h1, v, (hb.block b (Array.getElem?_eq_some_iff.1 hbk).1).trans hbk, hown.kept hg (Classical.em _), hne⟩
  · exact .inr ⟨h1, v, (hb.block b (Array.getElem?_eq_some_iff.1 hbk).1).trans hbk, hown.kept hg (Classical.em _), hne⟩


section
variable {a w w' : World} {row : Option Nat}
theorem only_drewN (h : a.grownBy w row) (n : Nat) : a.grownBy (w.drewN n) row := ⟨h.os, h.tape, h.output, h.size, h.block⟩
theorem only_alloc (h : a.grownBy w row) (o : Obj) : a.grownBy (w.alloc o) row :=
  ⟨h.os, h.tape, h.output, Nat.le_trans h.size (by simp), fun i hi hne => (Below.heap_alloc w o i (Nat.lt_of_lt_of_le hi h.size)).trans (h.block i hi hne)⟩
theorem only_setCell {g : Nat} (h : a.grownBy w (some g)) {p : Addr} (hp : p.block = g ∨ a.heap.size ≤ p.block) (u : Value) : a.grownBy (w.setCell p u) (some g) :=
  ⟨h.os, h.tape, h.output, by simpa [World.setCell] using h.size, fun i hi hne => (Below.heap_setCell w p u i (by
    rintro rfl
    rcases hp with hp | hp
    · exact hne (by rw [hp])
    · omega)).trans (h.block i hi hne)⟩
theorem only_below {B : Nat} (h : a.grownBy w row) (hb : Below B w w') (hB : a.heap.size ≤ B) : a.grownBy w' row :=
  ⟨hb.os.trans h.os, hb.tape.trans h.tape, hb.output.trans h.output, Nat.le_trans h.size hb.size, fun i hi hne => (hb.block i (by omega)).trans (h.block i hi hne)⟩
theorem only_of_below (h : Below a.heap.size a w) (row : Option Nat) : a.grownBy w row := ⟨h.os, h.tape, h.output, h.size, fun i hi _ => h.block i hi⟩
theorem only_trans {b : World} (h : a.grownBy w row) (k : w.grownBy b row) : a.grownBy b row :=
  ⟨k.os.trans h.os, k.tape.trans h.tape, k.output.trans h.output, Nat.le_trans h.size k.size, fun i hi hne => (k.block i (Nat.lt_of_lt_of_le hi h.size) hne).trans (h.block i hi hne)⟩
theorem only_far {b : World} {g : Nat} (h : a.grownBy w (some g)) (hb : Below g b a) (hg : g ≤ a.heap.size) : Below g b w :=
  ⟨h.os.trans hb.os, h.tape.trans hb.tape, h.output.trans hb.output, Nat.le_trans hb.size h.size, fun i hi => (h.block i (by omega) (by intro e; injection e with e; omega)).trans (hb.block i hi)⟩
end
theorem own_below {base size n : Nat} {e : TypeId} {X Y : World} {v : Value} {xs : List Value} (h : X.ownsRow base e size v n xs) (hb : Below X.heap.size X Y) : Y.ownsRow base e size v n xs := by
  obtain ⟨q1, q2⟩ := h
  refine ⟨q1, ?_⟩
  rcases q2 with q2 | ⟨g, cap, cur, hv, hg, hbk, hr⟩
  · exact .inl q2
  · exact .inr ⟨g, cap, cur, hv, hg, Blk.below (t := e) (cs := cur) hbk hb (Array.getElem?_eq_some_iff.1 hbk).1, hr⟩
theorem own_grown {base size n : Nat} {e : TypeId} {X Y : World} {v : Value} {xs : List Value} {k : Nat} (h : X.ownsRow base e size v n xs) (hb : X.grownBy Y (some k)) (hk : k < base) : Y.ownsRow base e size v n xs := by
  obtain ⟨q1, q2⟩ := h
  refine ⟨q1, ?_⟩
  rcases q2 with q2 | ⟨g, cap, cur, hv, hg, hbk, hr⟩
  · exact .inl q2
  · exact .inr ⟨g, cap, cur, hv, hg, Blk.grown (t := e) (cs := cur) hbk hb (by intro e; injection e with e; omega), hr⟩
theorem own_set {base size n : Nat} {e : TypeId} {X : World} {v u : Value} {xs : List Value} {a : Addr} (h : X.ownsRow base e size v n xs) (ha : a.block < base) : (X.setCell a u).ownsRow base e size v n xs := by
  obtain ⟨q1, q2⟩ := h
  refine ⟨q1, ?_⟩
  rcases q2 with q2 | ⟨g, cap, cur, hv, hg, hbk, hr⟩
  · exact .inl q2
  · exact .inr ⟨g, cap, cur, hv, hg, (Blk.setOther (t := e) (cs := cur) hbk (by omega) u), hr⟩

/-- A text at the first of one byte: before, behind, whether. -/
def cutX (c : UInt8) : List UInt8 → List UInt8 × List UInt8 × Bool
  | [] => ([], [], false)
  | x :: r => if x = c then ([], r, true) else (x :: (cutX c r).1, (cutX c r).2.1, (cutX c r).2.2)
theorem cutX_no {c : UInt8} {l : List UInt8} (h : (cutX c l).2.2 = false) : c ∉ l ∧ (cutX c l).1 = l := by
  induction l with
  | nil => exact ⟨by simp, rfl⟩
  | cons x l ih =>
    rw [cutX] at h ⊢
    by_cases hx : x = c
    · rw [if_pos hx] at h; cases h
    · rw [if_neg hx] at h ⊢
      obtain ⟨h1, h2⟩ := ih h
      refine ⟨?_, by rw [h2]⟩
      rw [List.mem_cons]
      rintro (e | e)
      · exact hx e.symm
      · exact h1 e
theorem cutX_yes {c : UInt8} {l : List UInt8} (h : (cutX c l).2.2 = true) : c ∉ (cutX c l).1 ∧ l = (cutX c l).1 ++ c :: (cutX c l).2.1 := by
  induction l with
  | nil => cases h
  | cons x l ih =>
    rw [cutX] at h ⊢
    by_cases hx : x = c
    · rw [if_pos hx]; exact ⟨by simp, by rw [hx]; rfl⟩
    · rw [if_neg hx] at h ⊢
      obtain ⟨h1, h2⟩ := ih h
      refine ⟨?_, by simpa using h2⟩
      rw [List.mem_cons]
      rintro (e | e)
      · exact hx e.symm
      · exact h1 e
theorem cutX_app {c : UInt8} (a r : List UInt8) (h : c ∉ a) : cutX c (a ++ c :: r) = (a, r, true) := by
  induction a with
  | nil => rw [List.nil_append, cutX, if_pos rfl]
  | cons x a ih =>
    have hx : x ≠ c := fun e => h (by rw [e]; simp)
    rw [List.cons_append, cutX, if_neg hx, ih (fun e => h (by simp [e]))]
theorem cutX_none {c : UInt8} (a : List UInt8) (h : c ∉ a) : cutX c a = (a, [], false) := by
  induction a with
  | nil => rfl
  | cons x a ih =>
    have hx : x ≠ c := fun e => h (by rw [e]; simp)
    rw [cutX, if_neg hx, ih (fun e => h (by simp [e]))]
theorem cut_cutX (c : UInt8) (l : List UInt8) : Lib.cut l [c] = cutX c l := by
  induction l with
  | nil => rfl
  | cons x l ih =>
    have hge := Lib.index_ge l [c]
    have hp : ([c].isPrefixOf (x :: l)) = decide (x = c) := by
      rw [Bool.eq_iff_iff]; simp [List.isPrefixOf]; exact eq_comm
    rw [cutX]
    unfold Lib.cut at ih ⊢
    have e : Lib.index (x :: l) [c] = if x = c then 0 else if Lib.index l [c] = -1 then -1 else Lib.index l [c] + 1 := by
      rw [Lib.index, hp]
      by_cases h : x = c <;> simp [h]
    by_cases hx : x = c
    · rw [e, if_pos hx, if_pos hx]; rfl
    · rw [e, if_neg hx, if_neg hx, ← ih]
      by_cases h1 : Lib.index l [c] = -1
      · rw [if_pos h1, if_neg (by omega), if_neg (by omega)]
      · rw [if_neg h1, if_pos (by omega), if_pos (by omega)]
        have e2 : (Lib.index l [c] + 1).toNat = (Lib.index l [c]).toNat + 1 := by omega
        rw [e2]; rfl

/-! ### a text's signs -/

/-- What strings.Cut at one byte gives: before, behind, whether. -/
def cutA (c : UInt8) (s : ByteArray) : ByteArray := str (cutX c s.data.toList).1
def cutB (c : UInt8) (s : ByteArray) : ByteArray := str (cutX c s.data.toList).2.1
def cutF (c : UInt8) (s : ByteArray) : Bool := (cutX c s.data.toList).2.2
theorem cutC_no {c : UInt8} {s : ByteArray} (h : cutF c s = false) : c ∉ s.data.toList ∧ cutA c s = s := by
  obtain ⟨h1, h2⟩ := cutX_no h
  exact ⟨h1, by unfold cutA; rw [h2, str_data]⟩
theorem cutC_yes {c : UInt8} {s : ByteArray} (h : cutF c s = true) : c ∉ (cutA c s).data.toList ∧ s.data.toList = (cutA c s).data.toList ++ c :: (cutB c s).data.toList ∧ (cutA c s).size + (cutB c s).size + 1 = s.size := by
  obtain ⟨h1, h2⟩ := cutX_yes h
  refine ⟨h1, h2, ?_⟩
  have := congrArg List.length h2
  rw [size_list] at this
  rw [this, List.length_append, List.length_cons]
  rfl

set_option maxHeartbeats 2000000 in
set_option maxRecDepth 100000 in
theorem liteCut_c (c : UInt8) (s : ByteArray) (hs : s.size ≤ maxLen) (w : World) :
    Calls Tryd.prog 63 #[.string s, .string ⟨#[c]⟩] w fun e w' => e = .returned (.tuple #[.string (cutA c s), .string (cutB c s), .bool (cutF c s)]) ∧ ∃ n, w' = w.drewN n := by
  unfold maxLen at hs
  have hi1 : Lib.indexByte s.data.toList c = Lib.indexB s ⟨#[c]⟩ := (Lib.index_one s.data.toList c).symm
  have hcut : Lib.cut s.data.toList (⟨#[c]⟩ : ByteArray).data.toList = cutX c s.data.toList := cut_cutX c s.data.toList
  rcases Lib.indexB_cases s ⟨#[c]⟩ with hix | ⟨i, hix, hroom⟩
  · obtain ⟨e1, e2, e3⟩ := Lib.cutB_miss s ⟨#[c]⟩ hix
    rw [hcut] at e1 e2 e3
    have E1 : cutA c s = _ := e1
    have E2 : cutB c s = _ := e2
    have E3 : cutF c s = _ := e3
    rw [E1, E2, E3]
    rw [hix] at hi1
    clear e1 e2 e3 E1 E2 E3 hix hcut
    have H := Lib.hid hi1
    clear hi1
    go_enter Tryd.func63, Tryd.ntmps63
    go_wp2_with (go_at_call 75; refine (Tryd.stringslite_Index_one _ _ _).mono ?_; rintro e w' ⟨rfl, rfl⟩; rw [H.out])
    go_ret3
    exact ⟨rfl, 0, rfl⟩
  · obtain ⟨e1, e2, e3⟩ := Lib.cutB_hit s ⟨#[c]⟩ i hix
    rw [hcut] at e1 e2 e3
    have E1 : cutA c s = _ := e1
    have E2 : cutB c s = _ := e2
    have E3 : cutF c s = _ := e3
    rw [E1, E2, E3]
    rw [hix] at hi1
    clear e1 e2 e3 E1 E2 E3 hix hcut
    have hsz : (⟨#[c]⟩ : ByteArray).size = 1 := rfl
    rw [hsz] at hroom ⊢
    clear hsz
    have H := Lib.hid hi1
    clear hi1
    have c1 : (0 : Int) ≤ ↑i := by omega
    have c2 : (↑i : Int) ≤ ↑s.size := by omega
    have c3 : (0 : Int) ≤ ↑i + 1 := by omega
    have c4 : (↑i + 1 : Int) ≤ ↑s.size := by omega
    go_enter Tryd.func63, Tryd.ntmps63
    go_wp2_with (go_at_call 75; refine (Tryd.stringslite_Index_one _ _ _).mono ?_; rintro e w' ⟨rfl, rfl⟩; rw [H.out])
    go_region
    go_wp2
    go_ret3
    exact ⟨rfl, 1, rfl⟩

set_option maxHeartbeats 1000000 in
theorem cut_c (c : UInt8) (s : ByteArray) (hs : s.size ≤ maxLen) (w : World) :
    Calls Tryd.prog 47 #[.string s, .string ⟨#[c]⟩] w fun e w' => e = .returned (.tuple #[.string (cutA c s), .string (cutB c s), .bool (cutF c s)]) ∧ ∃ n, w' = w.drewN n := by
  go_enter Tryd.func47, Tryd.ntmps47
  go_wp2_with (go_at_call 63; refine (liteCut_c _ _ hs _).mono ?_; rintro e w' ⟨rfl, n, rfl⟩)
  go_ret3
  exact ⟨rfl, n, rfl⟩

end Go.Proofs.YthgpocbmkmmecaaDoor
