/- The walk of the developers' All. -/
import Derived.Test.YtfjfhbmbngogpaaBlE
import Derived.Test.YtfjfhbmbngogpaaBlV
import Derived.Maps.AppendAt
namespace Go.Proofs.Ytfjfhbmbngogpaa
open Go.RowKit Go.Maps
attribute [local go_sem] Oper.semAt_some

theorem own_book {base size n : Nat} {e : TypeId} {X Y : World} {v : Value} {xs : List Value} {row : Option Nat} (h : X.ownsRow base e size v n xs) (hb : X.grownBy Y row) (hr : ∀ r, row = some r → ∃ o : Obj, X.heap[r]? = some o ∧ o.isCells = false) : Y.ownsRow base e size v n xs := by
  obtain ⟨q1, q2⟩ := h
  refine ⟨q1, ?_⟩
  rcases q2 with q2 | ⟨g, cap, cur, hv, hg, hbk, hr'⟩
  · exact .inl q2
  · refine .inr ⟨g, cap, cur, hv, hg, Blk.grown (t := e) (cs := cur) hbk hb (fun e' => ?_), hr'⟩
    obtain ⟨o, ho, hc⟩ := hr g e'.symm
    rw [hbk] at ho
    cases ho
    cases hc
theorem own_nil {base size n c : Nat} {A : Option Addr} {e : TypeId} {X : World} {xs : List Value} (h : X.ownsRow base e size (.slice A n c) n xs) : A = none → c = 0 := by
  intro hA
  rcases h.2 with ⟨h1, _⟩ | ⟨g, cap, cur, h1, _⟩
  · injection h1
  · injection h1 with h1
    rw [hA] at h1
    cases h1
theorem own_cap {base size n c : Nat} {A : Option Addr} {e : TypeId} {X : World} {xs : List Value} (h : X.ownsRow base e size (.slice A n c) n xs) : n ≤ c := by
  rcases h.2 with ⟨h1, h2⟩ | ⟨g, cap, cur, h1, _, _, h4, _⟩
  · omega
  · injection h1 with h1 h11 h12
    rw [h12]
    exact h4
theorem blk_book {X Y : World} {g : Nat} {t : TypeId} {cs : Array Value} {row : Option Nat} (h : Blk X g t cs) (hb : X.grownBy Y row) (hr : ∀ r, row = some r → ∃ o : Obj, X.heap[r]? = some o ∧ o.isCells = false) : Blk Y g t cs := by
  refine h.grown hb (fun e' => ?_)
  obtain ⟨o, ho, hc⟩ := hr g e'.symm
  rw [show X.heap[g]? = _ from h] at ho
  cases ho
  cases hc

theorem own_blk {base size n : Nat} {e : TypeId} {X : World} {v : Value} {xs : List Value} (h : X.ownsRow base e size v n xs) : ∀ g, v.ownBlock = some g → base ≤ g ∧ ∃ cs, Blk X g e cs := by
  intro g hg
  rcases h.2 with ⟨rfl, _⟩ | ⟨g', cap, cur, rfl, hb, hbk, _⟩
  · simp [Value.ownBlock] at hg
  · simp [Value.ownBlock] at hg
    subst hg
    exact ⟨hb, _, hbk⟩
/-- How far All has come: the lines that stay of those that it has seen (r), and the keys that are replaced (by q). -/
structure St (w : World) (r q : List Ln) (A : Option Addr) (n c : Nat) (W : World) : Prop where
  box : Blk W w.heap.size 22 #[.slice A n c]
  len : (blendT r).length = n
  row : W.ownsRow (w.heap.size + 6) 30 4 (.slice A n c) n (lns (blendT r).reverse)
  map : MapAt W (w.heap.size + 1) q.length (repdT q)
  mbox : Blk W (w.heap.size + 2) 39 #[.map (some (w.heap.size + 1))]
  below : Below w.heap.size w W
theorem St.book {w X Y : World} {r q : List Ln} {A : Option Addr} {n c : Nat} {row : Option Nat} (h : St w r q A n c X) (hb : X.grownBy Y row) (hr : ∀ k, row = some k → w.heap.size + 4 ≤ k ∧ ∃ o : Obj, X.heap[k]? = some o ∧ o.isCells = false) : St w r q A n c Y where
  box := blk_book h.box hb fun k e => (hr k e).2
  len := h.len
  row := own_book h.row hb fun k e => (hr k e).2
  map := h.map.kept hb (fun e => by have := (hr _ e.symm).1; omega)
  mbox := blk_book h.mbox hb fun k e => (hr k e).2
  below := h.below.grown hb h.below.size (fun k e => by have := (hr k e).1; omega)
theorem St.next {w X Y : World} {r q : List Ln} {A : Option Addr} {n c : Nat} (h : St w r q A n c X) (hb : Below X.heap.size X Y) : St w r q A n c Y := h.book (only_of_below hb none) (fun _ e => by cases e)
theorem St.alloc {w X : World} {r q : List Ln} {A : Option Addr} {n c : Nat} (h : St w r q A n c X) (o : Obj) : St w r q A n c (X.alloc o) := h.next ((Below.refl _ X).alloc (Nat.le_refl _) o)
theorem St.hit {w X : World} {r : List Ln} {A : Option Addr} {n c : Nat} {x : Ln} (h : St w r r A n c X) (hx : repdT r (keyB x) = true) : St w (x :: r) (x :: r) A n c X := by
  have e : blendT (x :: r) = blendT r := by
    show blendR keyB clsB empB (x :: r) = _
    rw [blendR_back, if_pos (by exact hx)]
    rfl
  exact ⟨h.box, by rw [e]; exact h.len, by rw [e]; exact h.row, (h.map.same (fun p => (repdB_of keyB clsB empB x r p hx).symm)).mono (by simp), h.mbox, h.below⟩
theorem St.pass {w X : World} {r q : List Ln} {A : Option Addr} {n c : Nat} {x : Ln} (h : St w r q A n c X) (hx : repdT r (keyB x) = false) (hs : stayT x = false) : St w (x :: r) q A n c X := by
  have e : blendT (x :: r) = blendT r := by
    show blendR keyB clsB empB (x :: r) = _
    rw [blendR_back, if_neg (by show ¬ repdT r (keyB x) = true; rw [hx]; simp), if_neg (by show ¬ stayT x = true; rw [hs]; simp)]
    rfl
  exact ⟨h.box, by rw [e]; exact h.len, by rw [e]; exact h.row, h.map, h.mbox, h.below⟩
theorem St.push {w X Y : World} {r q : List Ln} {A A' : Option Addr} {n c c' : Nat} {x : Ln} (h : St w r q A n c X) (hx : repdT r (keyB x) = false) (hs : stayT x = true) (hg : X.grownBy Y (Value.slice A n c).ownBlock)
    (ho : Y.ownsRow (w.heap.size + 6) 30 4 (.slice A' (n + 1) c') (n + 1) (lns (blendT r).reverse ++ lnCells x)) : St w (x :: r) q A' (n + 1) c' (Y.setCell ⟨w.heap.size, 0, none⟩ (.slice A' (n + 1) c')) := by
  have e : blendT (x :: r) = x :: blendT r := by
    show blendR keyB clsB empB (x :: r) = _
    rw [blendR_back, if_neg (by show ¬ repdT r (keyB x) = true; rw [hx]; simp), if_pos (by exact hs)]
    rfl
  have hb := own_blk h.row
  have far : ∀ k, k < w.heap.size + 6 → some k ≠ (Value.slice A n c).ownBlock := fun k hk e' => by have := (hb k e'.symm).1; omega
  refine ⟨(h.box.grown hg (far _ (by omega))).setCell 0 _, by rw [e, List.length_cons, h.len], ?_, ?_, (h.mbox.grown hg (far _ (by omega))).setOther (by simp) _, (h.below.grown hg h.below.size (fun k e' => by have := (hb k e').1; omega)).setCell (p := ⟨w.heap.size, 0, none⟩) (Nat.le_refl _) _⟩
  · rw [e, List.reverse_cons, lns_snoc]
    exact own_set ho (by show w.heap.size < _; omega)
  · exact (h.map.kept hg (far _ (by omega))).setCell (by simp) _
theorem St.mark {w X Y : World} {r q : List Ln} {A : Option Addr} {n c : Nat} {x : Ln} (h : St w r q A n c X) (hm : MapAt Y (w.heap.size + 1) (q.length + 1) (fun p => decide ((x.s, x.k) = p) || repdT q p)) (hg : X.grownBy Y (some (w.heap.size + 1))) (hr : repT x = true) : St w r (x :: q) A n c Y where
  box := h.box.grown hg (by simp)
  len := h.len
  row := own_grown h.row hg (by omega)
  map := hm.same (fun p => (repdB_put keyB clsB empB x q p hr).symm)
  mbox := h.mbox.grown hg (by simp)
  below := h.below.grown hg h.below.size (fun k e => by cases e; omega)
theorem St.unmarked {w X : World} {r q : List Ln} {A : Option Addr} {n c : Nat} {x : Ln} (h : St w r q A n c X) (hr : repT x = false) : St w r (x :: q) A n c X where
  box := h.box
  len := h.len
  row := h.row
  map := (h.map.same (fun p => (repdB_not keyB clsB empB x q p hr).symm)).mono (by simp)
  mbox := h.mbox
  below := h.below

theorem blk_far {base size n g : Nat} {e t : TypeId} {X : World} {v : Value} {xs : List Value} {cs : Array Value} (h : X.ownsRow base e size v n xs) (hb : Blk X g t cs) (ht : t ≠ e) : some g ≠ v.ownBlock := fun e' => by
  obtain ⟨_, cs', h'⟩ := own_blk h g e'.symm
  exact Blk.ne_ hb h' ht rfl
theorem loop_far {base size n k : Nat} {e : TypeId} {X : World} {v : Value} {xs : List Value} {r : Loop} (h : X.ownsRow base e size v n xs) (hl : X.heap[k]? = some (.loop r)) : some k ≠ v.ownBlock := fun e' => by
  obtain ⟨_, cs', h'⟩ := own_blk h k e'.symm
  rw [show X.heap[k]? = _ from h'] at hl
  cases hl
theorem Kept.set {C D : Nat} {X Y : World} {a : Addr} {u : Value} (h : Kept C D X Y) (ha : a.block < C ∨ D ≤ a.block) : Kept C D X (Y.setCell a u) := fun i h1 h2 => (Below.heap_setCell Y a u i (by omega)).trans (h i h1 h2)
/-- What one line turns: the walk's other blocks stand. -/
structure Bx (w W1 W2 : World) (M C1 bx l : Nat) (r1 : Loop) (AA : Option Addr) (N C : Nat) (B : Option Addr) (m c : Nat) (W : World) : Prop where
  x : Blk W (w.heap.size + 3) 27 #[.slice AA N C]
  b : Blk W bx 22 #[.slice B m c]
  k : Kept (w.heap.size + 4) (w.heap.size + 6) W1 W
  m : Kept M (M + 1) W2 W
  l : W.heap[l]? = some (.loop r1)
  s : C1 ≤ W.heap.size
theorem Bx.grown {w W1 W2 X Y : World} {M C1 bx l : Nat} {r1 : Loop} {AA : Option Addr} {N C : Nat} {B : Option Addr} {m c : Nat} {row : Option Nat} (h : Bx w W1 W2 M C1 bx l r1 AA N C B m c X) (hg : X.grownBy Y row)
    (hC : w.heap.size + 6 ≤ C1) (hM : M + 1 ≤ C1) (hlM : M ≤ l ∧ l < M + 1) (h1 : some (w.heap.size + 3) ≠ row) (h2 : some bx ≠ row) (h3 : some l ≠ row) (h4 : ∀ k, row = some k → k < w.heap.size + 4 ∨ w.heap.size + 6 ≤ k) : Bx w W1 W2 M C1 bx l r1 AA N C B m c Y where
  x := h.x.grown hg h1
  b := h.b.grown hg h2
  k := h.k.grown (by have := h.s; omega) hg h4
  m := h.m.grown (by have := h.s; omega) hg fun k e => by
    have : k ≠ l := fun e' => h3 (by rw [e, e'])
    omega
  l := (hg.block l (Array.getElem?_eq_some_iff.1 h.l).1 h3).trans h.l
  s := Nat.le_trans h.s hg.size
theorem Bx.set {w W1 W2 X : World} {M C1 bx l : Nat} {r1 : Loop} {AA : Option Addr} {N C : Nat} {B : Option Addr} {m c : Nat} (h : Bx w W1 W2 M C1 bx l r1 AA N C B m c X) (hb : w.heap.size < bx) (hM : w.heap.size < M) (hl : w.heap.size < l) (u : Value) : Bx w W1 W2 M C1 bx l r1 AA N C B m c (X.setCell ⟨w.heap.size, 0, none⟩ u) where
  x := h.x.setOther (by simp) u
  b := h.b.setOther (by show bx ≠ w.heap.size; omega) u
  k := h.k.set (.inl (by show w.heap.size < _; omega))
  m := h.m.set (.inl hM)
  l := (Below.heap_setCell X _ u l (by show l ≠ w.heap.size; omega)).trans h.l
  s := by have := h.s; simpa [World.setCell] using this

theorem Bx.far {w W1 W2 X Y : World} {M C1 bx l : Nat} {r1 : Loop} {AA : Option Addr} {N C : Nat} {B : Option Addr} {m c : Nat} {v : Value} {n : Nat} {xs : List Value} (h : Bx w W1 W2 M C1 bx l r1 AA N C B m c X) (ho : X.ownsRow (w.heap.size + 6) 30 4 v n xs) (hg : X.grownBy Y v.ownBlock)
    (hC : w.heap.size + 6 ≤ C1) (hM : M + 1 ≤ C1) (hlM : M ≤ l ∧ l < M + 1) : Bx w W1 W2 M C1 bx l r1 AA N C B m c Y :=
  h.grown hg hC hM hlM (fun e => by have := (own_blk ho _ e.symm).1; omega) (blk_far ho h.b (by decide)) (loop_far ho h.l) (fun k e => .inr (own_blk ho k e).1)
theorem St.far {w X Y : World} {r q : List Ln} {A : Option Addr} {n c : Nat} (h : St w r q A n c X) (hg : X.grownBy Y (Value.slice A n c).ownBlock) : Blk Y w.heap.size 22 #[.slice A n c] :=
  h.box.grown hg (fun e => by have := (own_blk h.row _ e.symm).1; omega)
theorem St.farM {w X Y : World} {r q : List Ln} {A : Option Addr} {n c : Nat} (h : St w r q A n c X) (hg : X.grownBy Y (Value.slice A n c).ownBlock) : Blk Y (w.heap.size + 2) 39 #[.map (some (w.heap.size + 1))] :=
  h.mbox.grown hg (fun e => by have := (own_blk h.row _ e.symm).1; omega)
theorem AppK.cells {W : World} {g : Nat} {x : Ln} (h : Blk W g 30 #[.string (str x.s), .string (str x.k), .string (str x.v), .int .i64 x.n]) : ∀ j u, (lnCells x)[j]? = some u → W.cell? ((⟨g, 0, none⟩ : Addr).add j) = some u := by
  intro j u hj
  rw [add_cellO', h.cell j, ← hj]
  simp [lnCells]

/-- The lines of the rows. -/
structure RowsOf (w : World) (rows : List Sl) (ls : List (List Ln)) : Prop where
  len : rows.length = ls.length
  at_ : ∀ (j : Nat) (r : Sl) (l : List Ln), rows[j]? = some r → ls[j]? = some l → LnsAt w w.heap.size r.1 r.2.1 l
  small : ∀ x ∈ ls.flatten, smallK (keyB x)
  nil_ : ∀ (j : Nat) (r : Sl), rows[j]? = some r → r.1 = none → r.2.2 = 0
theorem zip_row {α : Type} {l : List α} {pre : List (α × Nat)} {x : α × Nat} {post : List (α × Nat)} (h : l.zipIdx.reverse = pre ++ x :: post) : ∃ j, pre.length + j + 1 = l.length ∧ l[j]? = some x.1 := by
  have h1 : l.zipIdx.reverse[pre.length]? = some x := by rw [h]; simp
  have hlen : pre.length < l.length := by
    have := congrArg List.length h
    simp at this
    omega
  rw [List.getElem?_reverse (by simpa using hlen)] at h1
  rw [List.length_zipIdx, List.getElem?_zipIdx] at h1
  refine ⟨l.length - 1 - pre.length, by omega, ?_⟩
  cases hx : l[l.length - 1 - pre.length]? with
  | none => rw [hx] at h1; simp at h1
  | some y => rw [hx] at h1; simp at h1; rw [← h1]

theorem LnsAt.other {W W' : World} {B n M : Nat} {A : Option Addr} {l : List Ln} (h : LnsAt W B A n l) (hk : ∀ i, i ≠ M → W'.heap[i]? = W.heap[i]?) (hA : ∀ ad, A = some ad → ad.block ≠ M) : LnsAt W' B A n l :=
  ⟨h.1, h.2.1, fun hn => by
    obtain ⟨ad, e, hB, hc⟩ := h.2.2 hn
    exact ⟨ad, e, hB, fun j x hj => (World.cell?_of_block (hk _ (by rw [block_addW]; exact hA ad e))).trans (hc j x hj)⟩⟩
theorem rev_of {base n c : Nat} {A : Option Addr} {W : World} {l : List Ln} (h : W.ownsRow base 30 4 (.slice A n c) n (lns l)) (hl : l.length = n) (hn : n ≤ maxLen) :
    Calls Try.prog 17 #[.slice A n c] W (RevP W A n l) ∧ ∀ ad, A = some ad → base ≤ ad.block := by
  rcases h.2 with ⟨h1, h2⟩ | ⟨g, cap, cur, h1, h2, h3, h4⟩
  · injection h1 with h1 h11 h12
    subst h1 h11 h12
    obtain rfl : l = [] := List.length_eq_zero_iff.1 hl
    exact ⟨reverse_none _ _, fun ad e => by cases e⟩
  · have hc : ∀ j u, (lns l)[j]? = some u → W.cell? ⟨g, j, none⟩ = some u := by
      intro j u hj
      have := (lnsAt_of_own h hl hn).2.2.2
      injection h1 with h1 h11 h12
      subst h1
      have hpos : 0 < n := by
        rcases Nat.eq_zero_or_pos n with h0 | h0
        · rw [h0] at hl
          rw [List.length_eq_zero_iff.1 hl] at hj
          simp [lns] at hj
        · exact h0
      obtain ⟨ad, e, _, hc⟩ := this hpos
      cases e
      have := hc j u hj
      rwa [add_cellO'] at this
    injection h1 with h1 h11 h12
    subst h1
    exact ⟨reverse_some g n c l W hl hn (Array.getElem?_eq_some_iff.1 h3).1 (holds_lines (t := 30) (cs := cur) h3 hc), fun ad e => by cases e; exact h2⟩

def IO (w : World) (rows : List Sl) (ls : List (List Ln)) (AA : Option Addr) (C : Nat) (pre : List (Sl × Nat)) (W : World) : Prop :=
  (∃ A n c, St w ((ls.drop (ls.length - pre.length)).flatten) ((ls.drop (ls.length - pre.length)).flatten) A n c W) ∧ Blk W (w.heap.size + 3) 27 #[.slice AA rows.length C]
def II (w W1 : World) (l r : List Ln) (AA : Option Addr) (N C bx : Nat) (B : Option Addr) (m c : Nat) (pre : List (Ln × Nat)) (W : World) : Prop :=
  (∃ A n k, St w (l.drop (l.length - pre.length) ++ r) (l.drop (l.length - pre.length) ++ r) A n k W) ∧ Blk W (w.heap.size + 3) 27 #[.slice AA N C] ∧ Blk W bx 22 #[.slice B m c] ∧ Kept (w.heap.size + 4) (w.heap.size + 6) W1 W ∧ w.heap.size + 6 ≤ W.heap.size

/-- What All lays first. -/
theorem boxesA (w : World) (AA : Option Addr) (N C : Nat) (W0 : World)
    (hW : W0 = (((w.alloc (.cells #[.slice none 0 0] 22)).alloc (.map #[] 0)).alloc (.cells #[.map (some (w.heap.size + 1))] 39)).alloc (.cells #[.slice AA N C] 27)) :
    St w [] [] none 0 0 W0 ∧ Blk W0 (w.heap.size + 3) 27 #[.slice AA N C] ∧ W0.heap.size = w.heap.size + 4 := by
  subst hW
  have a0 := Blk.new w 22 #[.slice none 0 0]
  have z0 := World.size_alloc w (.cells #[.slice none 0 0] 22)
  have b0 : Below w.heap.size w _ := (Below.refl _ w).alloc (Nat.le_refl _) (.cells #[.slice none 0 0] 22)
  generalize w.alloc (.cells #[.slice none 0 0] 22) = w0 at *
  have m1 := mapAt_made w0
  have z1 := World.size_alloc w0 (.map #[] 0)
  have b1 := b0.alloc (by omega) (.map #[] 0)
  replace a0 := a0.alloc (.map #[] 0)
  rw [z0] at m1 z1
  generalize w0.alloc (.map #[] 0) = w1 at *
  have a2 := Blk.new w1 39 #[.map (some (w.heap.size + 1))]
  have z2 := World.size_alloc w1 (.cells #[.map (some (w.heap.size + 1))] 39)
  have b2 := b1.alloc (by omega) (.cells #[.map (some (w.heap.size + 1))] 39)
  replace a0 := a0.alloc (.cells #[.map (some (w.heap.size + 1))] 39)
  replace m1 := m1.below ((Below.refl _ w1).alloc (Nat.le_refl _) (.cells #[.map (some (w.heap.size + 1))] 39))
  rw [z1] at a2 z2
  generalize w1.alloc (.cells #[.map (some (w.heap.size + 1))] 39) = w2 at *
  have a3 := Blk.new w2 27 #[.slice AA N C]
  have z3 := World.size_alloc w2 (.cells #[.slice AA N C] 27)
  have b3 := b2.alloc (by omega) (.cells #[.slice AA N C] 27)
  replace a0 := a0.alloc (.cells #[.slice AA N C] 27)
  replace a2 := a2.alloc (.cells #[.slice AA N C] 27)
  replace m1 := m1.below ((Below.refl _ w2).alloc (Nat.le_refl _) (.cells #[.slice AA N C] 27))
  rw [z2] at a3 z3
  exact ⟨⟨a0, rfl, World.ownsRow_nil _ _ _ _, m1, a2, b3⟩, a3, by rw [z3]⟩
theorem IO_own {w : World} {rows : List Sl} {ls : List (List Ln)} {AA : Option Addr} {C B : Nat} (hB : w.heap.size + 4 ≤ B) : OwnFrom B (IO w rows ls AA C) := by
  intro s X Y row h hg hr
  obtain ⟨⟨A, n, c, h1⟩, h2⟩ := h
  exact ⟨⟨A, n, c, h1.book hg fun k e => ⟨Nat.le_trans hB (hr k e).1, (hr k e).2⟩⟩, blk_book h2 hg fun k e => (hr k e).2⟩
theorem II_own {w W1 : World} {l r : List Ln} {AA : Option Addr} {N C bx : Nat} {Bo : Option Addr} {m c B : Nat} (hB : w.heap.size + 6 ≤ B) : OwnFrom B (II w W1 l r AA N C bx Bo m c) := by
  intro s X Y row h hg hr
  obtain ⟨⟨A, n, k, h1⟩, h2, h3, h4, h5⟩ := h
  have hg' := hg.size
  exact ⟨⟨A, n, k, h1.book hg fun k e => ⟨by have := (hr k e).1; omega, (hr k e).2⟩⟩, blk_book h2 hg fun k e => (hr k e).2, blk_book h3 hg fun k e => (hr k e).2,
    h4.grown h5 hg (fun k e => .inr (by have := (hr k e).1; omega)), by omega⟩

set_option maxRecDepth 100000 in
set_option maxHeartbeats 8000000 in
theorem bAll_any (AA : Option Addr) (N C : Nat) (rows : List Sl) (ls : List (List Ln)) (w : World) (hA : SlsAt w w.heap.size AA N rows) (hR : RowsOf w rows ls) (hsz : ls.flatten.length ≤ 2513169434916) :
    Calls Try.prog 10 #[.slice AA N C] w fun e w' => ∃ A n c, e = .returned (.slice A n c) ∧ LnsAt w' w'.heap.size A n (blendT ls.flatten) ∧ Below w.heap.size w w' ∧ (A = none → c = 0) ∧ n ≤ c := by
  have hmm := @run_makeMap Try.prog
  obtain rfl : rows.length = N := hA.1
  refine (callsIn_wide (n := 9)).1 ?_
  refine callsIn_of_wp_marks Try.func10 rfl trivial ?_ rfl
  simp only [Try.ntmps10, List.size_toArray, List.length_cons, List.length_nil, Nat.reduceAdd, Nat.reduceSub, Array.replicate_succ, Array.replicate_zero, List.push_toArray, List.append_toArray, List.nil_append, List.cons_append]
  gi_wp2_with (refine ⟨trivial, ?_⟩; gi_at_call 14; refine (callsIn_wide.2 (backR_any _ _ _ _)).mono ?_; rintro e w' ⟨rfl, rfl⟩)
  obtain ⟨hS0, hX0, hZ0⟩ := boxesA w AA rows.length C _ rfl
  generalize (((w.alloc (.cells #[.slice none 0 0] 22)).alloc (.map #[] 0)).alloc (.cells #[.map (some (w.heap.size + 1))] 39)).alloc (.cells #[.slice AA rows.length C] 27) = W0 at *
  have HA := Lib.hid hA
  have HR := Lib.hid hR
  have hI0 : IO w rows ls AA C [] W0 := ⟨⟨none, 0, 0, by rw [List.length_nil, Nat.sub_zero, List.drop_length]; exact hS0⟩, hX0⟩
  clear hS0 hX0 hmm
  refine range_out rfl (by omega) rfl trivial (enters_of Try.func22 (by kernel_rfl) rfl)
    (backR_seq _ (by omega) (w.heap.size + 3) w.heap.size AA rows.length C rows) (IO w rows ls AA C) (fun s X h => ⟨h.2, HA.out.below (by obtain ⟨_, _, _, h1⟩ := h.1; exact h1.below)⟩) (IO_own (by omega)) hI0 ?round ?done
  case round =>
    intro l pre x post W hxs hI hl1 hl2 hsW
    obtain ⟨⟨a, m, c⟩, i0⟩ := x
    obtain ⟨j, hj, hx⟩ := zip_row hxs
    dsimp only at hx
    have hjl : j < ls.length := by have := hR.len; omega
    obtain ⟨lj, hlj⟩ : ∃ lj, ls[j]? = some lj := ⟨_, List.getElem?_eq_getElem hjl⟩
    have hLA := hR.at_ j _ lj hx hlj
    dsimp only at hLA
    have hdr : ls.drop (ls.length - pre.length) = ls.drop (j + 1) := by congr 1; have := hR.len; omega
    have hdj : ls.drop (ls.length - (pre ++ [((a, m, c), i0)]).length) = lj :: ls.drop (j + 1) := by
      have e : ls.length - (pre ++ [((a, m, c), i0)]).length = j := by have := hR.len; simp; omega
      rw [e, List.drop_eq_getElem_cons hjl]
      congr 1
      rw [List.getElem?_eq_getElem hjl] at hlj
      exact Option.some.inj hlj
    have HLA := Lib.hid hLA
    have HDJ := Lib.hid hdj
    have HTot : Hid (∀ k, (lj.drop k ++ (ls.drop (j + 1)).flatten).length ≤ 2513169434916 ∧ ∀ y ∈ lj.drop k ++ (ls.drop (j + 1)).flatten, y ∈ ls.flatten) := by
      intro k
      have e : ls.flatten = (ls.take j).flatten ++ (lj ++ (ls.drop (j + 1)).flatten) := by
        conv => lhs; rw [← List.take_append_drop j ls]
        rw [List.drop_eq_getElem_cons hjl, List.flatten_append, List.flatten_cons]
        rw [List.getElem?_eq_getElem hjl] at hlj
        rw [Option.some.inj hlj]
      rw [e] at hsz ⊢
      simp only [List.length_append] at hsz
      refine ⟨by simp only [List.length_append, List.length_drop]; omega, fun y hy => ?_⟩
      rcases List.mem_append.1 hy with hy | hy
      · exact List.mem_append_right _ (List.mem_append_left _ (List.mem_of_mem_drop hy))
      · exact List.mem_append_right _ (List.mem_append_right _ hy)
    unfold IO at hI
    rw [hdr] at hI
    obtain ⟨⟨A, n, k, hS⟩, hX⟩ := hI
    have HS := Lib.hid hS
    have HX := Lib.hid hX
    have hlen : (lj.length : Nat) = m := hLA.1
    clear hxs hx hlj hLA hdr hdj hS hX hA hI0
    unfold RoundR
    dsimp only [slV]
    gi_wp2
    refine ⟨Kept.refl _ _ _, Nat.le_refl _, fun W2 hg ⟨_, hla⟩ ⟨r0, hr0⟩ => ?_⟩
    have hrow : ∀ k, some l = some k → w.heap.size + 4 ≤ k ∧ ∃ o : Obj, W.heap[k]? = some o ∧ o.isCells = false := fun k e => by
      injection e with e; subst e; exact ⟨by omega, _, hla, rfl⟩
    have HS2 := Lib.hid (HS.out.book hg hrow)
    have HX2 := Lib.hid (blk_book HX.out hg fun k e => (hrow k e).2)
    have hs2 : w.heap.size + 6 ≤ W2.heap.size := by have := hg.size; omega
    clear HS HX hrow hla hg
    generalize hrr : (ls.drop (j + 1)).flatten = r at *
    gi_wp2_with (refine ⟨trivial, ?_⟩; gi_at_call 15; refine (CallsIn.inRound l (callsIn_wide.2 (backL_any _ _ _ _))).mono ?_; rintro e w' ⟨rfl, rfl⟩)
    have hr3 : (W2.alloc (.cells #[.slice a m c] 22)).heap[l]? = some (.loop r0) := (Below.heap_alloc W2 _ l (Array.getElem?_eq_some_iff.1 hr0).1).trans hr0
    have hI3 : II w W2 lj r AA rows.length C W2.heap.size a m c [] (W2.alloc (.cells #[.slice a m c] 22)) :=
      ⟨⟨A, n, k, by rw [List.length_nil, Nat.sub_zero, List.drop_length]; exact HS2.out.alloc _⟩, HX2.out.alloc _, Blk.new _ _ _, fun i _ hi => Below.heap_alloc W2 _ i (by omega), by simp; omega⟩
    have hz3 : (W2.alloc (.cells #[.slice a m c] 22)).heap.size = W2.heap.size + 1 := by simp
    generalize W2.alloc (.cells #[.slice a m c] 22) = W3 at *
    refine range_in (l₀ := l) (r₀ := r0) rfl hr3 (by omega) rfl trivial (enters_of Try.func23 (by kernel_rfl) rfl)
      ((backL_seq _ (by omega) W2.heap.size w.heap.size a m c lj).inRound l) (II w W2 lj r AA rows.length C W2.heap.size a m c) (fun s X h => ⟨h.2.2.1, HLA.out.below (by obtain ⟨_, _, _, h1⟩ := h.1; exact h1.below)⟩) (II_own (by omega)) hI3 ?round2 ?done2
    case round2 =>
      intro l2 pre2 x2 post2 W4 hxs2 hI4 hl3 hl4 hs4
      obtain ⟨x, i2⟩ := x2
      obtain ⟨j2, hj2, hx2⟩ := zip_row hxs2
      dsimp only at hx2
      have hdr2 : lj.drop (lj.length - pre2.length) = lj.drop (j2 + 1) := by congr 1; omega
      have hj2l : j2 < lj.length := by omega
      have hd2 : lj.drop j2 = x :: lj.drop (j2 + 1) := by
        rw [List.drop_eq_getElem_cons hj2l]
        congr 1
        rw [List.getElem?_eq_getElem hj2l] at hx2
        exact Option.some.inj hx2
      have hdj2 : lj.drop (lj.length - (pre2 ++ [(x, i2)]).length) = x :: lj.drop (j2 + 1) := by
        have e : lj.length - (pre2 ++ [(x, i2)]).length = j2 := by simp; omega
        rw [e, hd2]
      obtain ⟨htl, htm⟩ := HTot.out j2
      rw [hd2] at htl htm
      unfold II at hI4
      rw [hdr2] at hI4
      obtain ⟨⟨A, n, k, hS⟩, hX, hB, hK, hz⟩ := hI4
      have HDJ2 : Hid (lj.drop (lj.length - (pre2 ++ [(x, i2)]).length) ++ r = x :: (lj.drop (j2 + 1) ++ r)) := by show _ = _; rw [hdj2]; rfl
      rw [List.cons_append] at htl htm
      generalize lj.drop (j2 + 1) ++ r = r' at *
      have hsm : smallK (keyB x) := HR.out.small x (htm x (by simp))
      have hrl : r'.length + 1 ≤ 2513169434916 := by simpa using htl
      have hkk := hide hS.len
      have hnr : n ≤ r'.length := by rw [← hS.len]; exact blendR_len keyB clsB empB r'
      have HS := Lib.hid hS
      have HX := Lib.hid hX
      have HB := Lib.hid hB
      have HK := Lib.hid hK
      have HSM := Lib.hid hsm
      clear hxs2 hx2 hdr2 hd2 hdj2 htl htm hS hX hB hK hj2l hsm
      unfold RoundR
      dsimp only [lnV, slV]
      gi_wp2
      refine ⟨fun i _ _ => Below.heap_alloc W4 _ i (by omega), by simp, fun W5 hg ⟨_, hla⟩ ⟨r1, hr1⟩ => ?_⟩
      have hrow : ∀ k, some l2 = some k → w.heap.size + 6 ≤ k ∧ ∃ o : Obj, (W4.alloc (.cells #[.string (str x.s), .string (str x.k), .string (str x.v), .int .i64 x.n] 30)).heap[k]? = some o ∧ o.isCells = false := fun k e => by
        injection e with e; subst e; exact ⟨by omega, _, hla, rfl⟩
      have HS5 := Lib.hid ((HS.out.alloc (.cells #[.string (str x.s), .string (str x.k), .string (str x.v), .int .i64 x.n] 30)).book hg fun k e => ⟨by have := (hrow k e).1; omega, (hrow k e).2⟩)
      have HX5 := Lib.hid (blk_book (HX.out.alloc (.cells #[.string (str x.s), .string (str x.k), .string (str x.v), .int .i64 x.n] 30)) hg fun k e => (hrow k e).2)
      have HB5 := Lib.hid (blk_book (HB.out.alloc (.cells #[.string (str x.s), .string (str x.k), .string (str x.v), .int .i64 x.n] 30)) hg fun k e => (hrow k e).2)
      have HL5 := Lib.hid (blk_book (Blk.new W4 30 #[.string (str x.s), .string (str x.k), .string (str x.v), .int .i64 x.n]) hg fun k e => (hrow k e).2)
      have HK5 := Lib.hid ((HK.out.grown hz (grown_none W4 _)  (fun _ e => by cases e)).grown (by simp; omega) hg (fun k e => .inr (hrow k e).1))
      have hs5 : W4.heap.size + 1 ≤ W5.heap.size := by have := hg.size; simpa using this
      have HG : Hid (∀ g, (Value.slice A n k).ownBlock = some g → g < W4.heap.size) := fun g hg' => by
        obtain ⟨_, cs, hc⟩ := own_blk HS.out.row g hg'
        exact hc.lt
      clear hrow hg hla HS HX HB HK
      have z1 : w.heap.size + 7 ≤ W4.heap.size := by omega
      have HT6 := Lib.hid (Blk.new W5 47 #[.string (str x.s), .string (str x.k)])
      have l0 : W5.cell? ⟨W4.heap.size, 0, none⟩ = some (.string (str x.s)) := HL5.out.cell 0
      have l1 : W5.cell? ⟨W4.heap.size, 1, none⟩ = some (.string (str x.k)) := HL5.out.cell 1
      have m0 : W5.cell? ⟨w.heap.size + 1 + 1, 0, none⟩ = some (.map (some (w.heap.size + 1))) := HS5.out.mbox.cell 0
      have q1 : w.heap.size + 1 + 1 < W5.heap.size := by omega
      have q2 : W4.heap.size < W5.heap.size := by omega
      rcases hh : repdT r' (x.s, x.k) with _ | _
      · have HH := Lib.hid hh
        clear hh
        have l2' : W5.cell? ⟨W4.heap.size, 2, none⟩ = some (.string (str x.v)) := HL5.out.cell 2
        have l3' : W5.cell? ⟨W4.heap.size, 3, none⟩ = some (.int .i64 x.n) := HL5.out.cell 3
        gi_wp2_with (gi_at_lookup; refine wpListIn_look rfl _ _ rfl (w.heap.size + 1) r'.length (repdT r') (by rfl) (HS5.out.map.below ((Below.refl _ W5).alloc (Nat.le_refl _) _)) (x.s, x.k) HSM.out (by rfl) ?_; rw [HH.out])
        have HS6 := Lib.hid (HS5.out.alloc (.cells #[.string (str x.s), .string (str x.k)] 47))
        have HL6 := Lib.hid (HL5.out.alloc (.cells #[.string (str x.s), .string (str x.k)] 47))
        have HY5 : Bx w W2 W5 W3.heap.size W5.heap.size W2.heap.size l2 r1 AA rows.length C a m c W5 := ⟨HX5.out, HB5.out, HK5.out, Kept.refl _ _ _, hr1, Nat.le_refl _⟩
        have HY6 := Lib.hid (HY5.grown (grown_none W5 (.cells #[.string (str x.s), .string (str x.k)] 47)) (by omega) (by omega) ⟨hl3, hl4⟩ (by simp) (by simp) (by simp) (fun _ e => by cases e))
        have hs6 : (W5.alloc (.cells #[.string (str x.s), .string (str x.k)] 47)).heap.size = W5.heap.size + 1 := by simp
        clear l0 l1 l2' l3' m0 HS5 HX5 HB5 HL5 HK5 HY5
        generalize W5.alloc (.cells #[.string (str x.s), .string (str x.k)] 47) = W6 at *
        refine ⟨trivial, ?_⟩
        gi_at_call 16
        refine (CallsIn.inRound l2 (CallsIn.inRound l (callsIn_wide.2 (effect_any x _)))).mono ?_
        rintro e W7 ⟨rfl, hb7⟩
        have HS7 := Lib.hid (HS6.out.next hb7)
        have HL7 := Lib.hid (HL6.out.below hb7 HL6.out.lt)
        have HT7 := Lib.hid (HT6.out.below hb7 HT6.out.lt)
        have HY7 := Lib.hid (HY6.out.grown (only_of_below hb7 none) (by omega) (by omega) ⟨hl3, hl4⟩ (by simp) (by simp) (by simp) (fun _ e => by cases e))
        have hs7 : W6.heap.size ≤ W7.heap.size := hb7.size
        clear HS6 HL6 HT6 HY6 hb7
        have l0 : W7.cell? ⟨W4.heap.size, 0, none⟩ = some (.string (str x.s)) := HL7.out.cell 0
        have l1 : W7.cell? ⟨W4.heap.size, 1, none⟩ = some (.string (str x.k)) := HL7.out.cell 1
        have l2' : W7.cell? ⟨W4.heap.size, 2, none⟩ = some (.string (str x.v)) := HL7.out.cell 2
        have l3' : W7.cell? ⟨W4.heap.size, 3, none⟩ = some (.int .i64 x.n) := HL7.out.cell 3
        have c0 : W7.cell? ⟨w.heap.size, 0, none⟩ = some (.slice A n k) := HS7.out.box.cell 0
        have m0 : W7.cell? ⟨w.heap.size + 1 + 1, 0, none⟩ = some (.map (some (w.heap.size + 1))) := HS7.out.mbox.cell 0
        have t0 : W7.cell? ⟨W5.heap.size, 0, none⟩ = some (.string (str x.s)) := HT7.out.cell 0
        have t1 : W7.cell? ⟨W5.heap.size, 1, none⟩ = some (.string (str x.k)) := HT7.out.cell 1
        have hnk : r'.length < maxLen := by unfold maxLen; omega
        have q3 : w.heap.size < W7.heap.size := by omega
        have q4 : w.heap.size + 1 + 1 < W7.heap.size := by omega
        have q5 : W5.heap.size < W7.heap.size := by omega
        have q6 : w.heap.size < W5.heap.size := by omega
        rcases hst : stayT x with _ | _
        · have HST := Lib.hid hst
          clear hst
          rcases hrp : repT x with _ | _
          · have HRP := Lib.hid hrp
            clear hrp
            gi_wp2_with fail
            refine ⟨HY7.out.m, ⟨A, n, k, ?_⟩, HY7.out.x, HY7.out.b, HY7.out.k, by omega⟩
            rw [HDJ2.out]
            exact (HS7.out.pass HH.out HST.out).unmarked HRP.out
          · have HRP := Lib.hid hrp
            clear hrp
            gi_wp2_with (gi_at_mapUpdate; refine wpListIn_mark rfl _ _ _ rfl (w.heap.size + 1) r'.length (repdT r') (by rfl) HS7.out.map hnk (x.s, x.k) HSM.out (by rfl) (by rfl) ?_; intro w8 hm8 hg8)
            have HY8 := HY7.out.grown hg8 (by omega) (by omega) ⟨hl3, hl4⟩ (by simp) (fun e => by injection e; omega) (fun e => by injection e; omega) (fun k e => by injection e; omega)
            refine ⟨HY8.m, ⟨A, n, k, ?_⟩, HY8.x, HY8.b, HY8.k, by have := HY8.s; omega⟩
            rw [HDJ2.out]
            exact (HS7.out.pass HH.out HST.out).mark hm8 hg8 HRP.out
        · have HST := Lib.hid hst
          clear hst
          have HS8 := Lib.hid (HS7.out.alloc (.cells #[.string (str x.s), .string (str x.k), .string (str x.v), .int .i64 x.n] 30))
          have HT8 := Lib.hid (HT7.out.alloc (.cells #[.string (str x.s), .string (str x.k), .string (str x.v), .int .i64 x.n] 30))
          have HN8 := Lib.hid (Blk.new W7 30 #[.string (str x.s), .string (str x.k), .string (str x.v), .int .i64 x.n])
          have HY8 := Lib.hid (HY7.out.grown (grown_none W7 (.cells #[.string (str x.s), .string (str x.k), .string (str x.v), .int .i64 x.n] 30)) (by omega) (by omega) ⟨hl3, hl4⟩ (by simp) (by simp) (by simp) (fun _ e => by cases e))
          have hs8 : (W7.alloc (.cells #[.string (str x.s), .string (str x.k), .string (str x.v), .int .i64 x.n] 30)).heap.size = W7.heap.size + 1 := by simp
          obtain ⟨ti, hi, hz0, hz1, hz2⟩ := info_parts lineInfo
          rcases hrp : repT x with _ | _
          · have HRP := Lib.hid hrp
            clear hrp
            gi_wp2_with (gi_at_builtin; refine wpListIn_append_own _ rfl _ _ 22 rfl (w.heap.size + 6) 30 ti (.agg #[.string ⟨#[]⟩, .string ⟨#[]⟩, .string ⟨#[]⟩, .int .i64 0]) 4 56 Try.underlying22 hi hz0 hz1 hz2 rfl (by decide) (.slice A n k) n (lns (blendT r').reverse) (by rfl) HS8.out.row ⟨W7.heap.size, 0, none⟩ 1 1 (lnCells x) (by rfl) rfl (AppK.cells HN8.out) (lnCells_one x) (by unfold maxLen; omega) (by omega) (by omega) ?_; intro v' w9 hown' hgrow _; obtain ⟨g', cap', rfl⟩ := ownsRow_succ hown'; have HS9 := Lib.hid (HS8.out.push HH.out HST.out hgrow hown'); have HBK := Lib.hid (HS8.out.far hgrow); have c9 : w9.cell? ⟨w.heap.size, 0, none⟩ = some (.slice A n k) := HBK.out.cell 0; have f9 : w9.frozen? ⟨w.heap.size, 0, none⟩ = false := HBK.out.frozen 0; have HY9 := Lib.hid (((HY8.out.far HS8.out.row hgrow (by omega) (by omega) ⟨hl3, hl4⟩)).set (by omega) (by omega) (by omega) (.slice (some ⟨g', 0, none⟩) (n + 1) cap')); clear hown' hgrow)
            refine ⟨HY9.out.m, ⟨some ⟨g', 0, none⟩, n + 1, cap', ?_⟩, HY9.out.x, HY9.out.b, HY9.out.k, by have := HY9.out.s; omega⟩
            rw [HDJ2.out]
            exact HS9.out.unmarked HRP.out
          · have HRP := Lib.hid hrp
            clear hrp
            gi_wp2_with (first
              | (gi_at_builtin; refine wpListIn_append_own _ rfl _ _ 22 rfl (w.heap.size + 6) 30 ti (.agg #[.string ⟨#[]⟩, .string ⟨#[]⟩, .string ⟨#[]⟩, .int .i64 0]) 4 56 Try.underlying22 hi hz0 hz1 hz2 rfl (by decide) (.slice A n k) n (lns (blendT r').reverse) (by rfl) HS8.out.row ⟨W7.heap.size, 0, none⟩ 1 1 (lnCells x) (by rfl) rfl (AppK.cells HN8.out) (lnCells_one x) (by unfold maxLen; omega) (by omega) (by omega) ?_; intro v' w9 hown' hgrow _; obtain ⟨g', cap', rfl⟩ := ownsRow_succ hown'; have HS9 := Lib.hid (HS8.out.push HH.out HST.out hgrow hown'); have HBK := Lib.hid (HS8.out.far hgrow); have HTK := Lib.hid (HT8.out.grown hgrow (blk_far HS8.out.row HT8.out (by decide))); have HMK := Lib.hid (HS8.out.farM hgrow); have c9 : w9.cell? ⟨w.heap.size, 0, none⟩ = some (.slice A n k) := HBK.out.cell 0; have f9 : w9.frozen? ⟨w.heap.size, 0, none⟩ = false := HBK.out.frozen 0; have m9 : w9.cell? ⟨w.heap.size + 1 + 1, 0, none⟩ = some (.map (some (w.heap.size + 1))) := HMK.out.cell 0; have t9 : w9.cell? ⟨W5.heap.size, 0, none⟩ = some (.string (str x.s)) := HTK.out.cell 0; have t9' : w9.cell? ⟨W5.heap.size, 1, none⟩ = some (.string (str x.k)) := HTK.out.cell 1; have HY9 := Lib.hid (((HY8.out.far HS8.out.row hgrow (by omega) (by omega) ⟨hl3, hl4⟩)).set (by omega) (by omega) (by omega) (.slice (some ⟨g', 0, none⟩) (n + 1) cap')); clear hown' hgrow)
              | (gi_at_mapUpdate; refine wpListIn_mark rfl _ _ _ rfl (w.heap.size + 1) r'.length (repdT r') (by rfl) HS9.out.map hnk (x.s, x.k) HSM.out (by rfl) (by rfl) ?_; intro w8 hm8 hg8))
            have HYa := HY9.out.grown hg8 (by omega) (by omega) ⟨hl3, hl4⟩ (by simp) (fun e => by injection e; omega) (fun e => by injection e; omega) (fun k e => by injection e; omega)
            refine ⟨HYa.m, ⟨some ⟨g', 0, none⟩, n + 1, cap', ?_⟩, HYa.x, HYa.b, HYa.k, by have := HYa.s; omega⟩
            rw [HDJ2.out]
            exact HS9.out.mark hm8 hg8 HRP.out
      · have HH := Lib.hid hh
        clear hh
        gi_wp2_with (gi_at_lookup; refine wpListIn_look rfl _ _ rfl (w.heap.size + 1) r'.length (repdT r') (by rfl) (HS5.out.map.below ((Below.refl _ W5).alloc (Nat.le_refl _) _)) (x.s, x.k) HSM.out (by rfl) ?_; rw [HH.out])
        refine ⟨fun i h1 h2 => Below.heap_alloc W5 _ i (by omega), ⟨A, n, k, ?_⟩, HX5.out.alloc _, HB5.out.alloc _, HK5.out.grown (by omega) (grown_none W5 _) (fun _ e => by cases e), by simp; omega⟩
        rw [HDJ2.out]
        exact (HS5.out.alloc _).hit HH.out
    case done2 =>
      intro W4 hI4
      gi_wp2
      obtain ⟨hS4, hX4, hB4, hK4, hz4⟩ := hI4
      refine ⟨?_, ?_, hX4⟩
      · rw [hZ0]; exact hK4
      · rw [HDJ.out, List.flatten_cons, hrr]
        rwa [List.length_reverse, List.length_zipIdx, Nat.sub_self, List.drop_zero] at hS4
  case done =>
    intro M W hM1 hM2 hI hK
    obtain ⟨⟨A, n, c, hS⟩, hX⟩ := hI
    rw [List.length_reverse, List.length_zipIdx, hR.len, Nat.sub_self, List.drop_zero] at hS
    have HS := Lib.hid hS
    have c0 : W.cell? ⟨w.heap.size, 0, none⟩ = some (.slice A n c) := HS.out.box.cell 0
    clear hS hX
    obtain ⟨hrv, hab⟩ := rev_of HS.out.row (by rw [List.length_reverse]; exact HS.out.len) (by have := blendR_len keyB clsB empB ls.flatten; have := HS.out.len; unfold blendT at this; unfold maxLen; omega)
    have HAB := Lib.hid hab
    clear hab
    gi_wp2_with fail
    refine ⟨trivial, ?_⟩
    gi_at_call 17
    refine (callsIn_wide.2 hrv).mono ?_
    rintro e W' ⟨rfl, hln, hbl⟩
    have HB' := Lib.hid (hbl (w.heap.size + 6) (fun ad e => (HAB.out ad e)))
    have HLN := Lib.hid hln
    have c1 : W'.cell? ⟨w.heap.size, 0, none⟩ = some (.slice A n c) := (HB'.out.cell (by show w.heap.size < _; omega)).trans c0
    have HK' : Hid (W'.heap[M]? = some (.deferred (some []))) := (HB'.out.block M (by omega)).trans hK
    have HBB : Hid (Below w.heap.size w W') := HS.out.below.trans (HB'.out.mono (by omega))
    have hW' : w.heap.size + 4 ≤ M := by omega
    clear hbl hln hrv hK c0
    gi_wp2
    refine ⟨by simp, .inl ⟨_, _, rfl, run_takeDeferred (w := W') HK'.out, ?_⟩⟩
    refine ⟨_, results_tmp rfl _ _ _, A, n, c, rfl, ?_, ?_, own_nil HS.out.row, own_cap HS.out.row⟩
    · have hp := HLN.out.other (M := M) (W' := W'.putObj M (.deferred none)) (fun i hi => World.putObj_heap_other hi) (fun ad e => by have := HAB.out ad e; omega)
      rw [List.reverse_reverse] at hp
      have hz : (W'.putObj M (.deferred none)).heap.size = W'.heap.size := by simp
      rw [hz]
      exact hp
    · exact HBB.out.grown (grownBy_putObj' W' M _) HBB.out.size (fun k e => by cases e; omega)
end Go.Proofs.Ytfjfhbmbngogpaa
