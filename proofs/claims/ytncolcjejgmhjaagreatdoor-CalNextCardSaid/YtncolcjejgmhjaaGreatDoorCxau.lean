/- The walk of the developers' advance. -/
import Derived.Test.YtncolcjejgmhjaaGreatDoorCxat
import Derived.Lib.SliceRun
namespace Go.Proofs.YtncolcjejgmhjaaGreatDoor
open Go.RowKit
def Six.cells (v : Six) : Array Value := #[.int .i64 v.y, .int .i64 v.m, .int .i64 v.d, .int .i64 v.h, .int .i64 v.i, .int .i64 v.s]
def zero6 : Array Value := #[.int .i64 0, .int .i64 0, .int .i64 0, .int .i64 0, .int .i64 0, .int .i64 0]
theorem zero6_all : zero6.all (·.oneCell') = true := by simp [zero6, Value.oneCell']
theorem cells_all (v : Six) : v.cells.all (·.oneCell') = true := by simp [Six.cells, Value.oneCell']
def readInt (w : World) (a : Addr) : Int := match w.cell? a with
  | some (.int _ n) => n
  | _ => 0
def farIn (g : Nat) (w : World) : Nat := (Six.mk (readInt w ⟨g, 0, none⟩) (readInt w ⟨g, 1, none⟩) (readInt w ⟨g, 2, none⟩) (readInt w ⟨g, 3, none⟩) (readInt w ⟨g, 4, none⟩) (readInt w ⟨g, 5, none⟩)).far
theorem farIn_eq {w : World} {g : Nat} {t : TypeId} {v : Six} (h : Blk w g t v.cells) : farIn g w = v.far := by
  have e : ∀ i n, v.cells[i]? = some (.int .i64 n) → readInt w ⟨g, i, none⟩ = n := by
    intro i n hn
    unfold readInt
    rw [h.cell i, hn]
  unfold farIn
  rw [e 0 v.y rfl, e 1 v.m rfl, e 2 v.d rfl, e 3 v.h rfl, e 4 v.i rfl, e 5 v.s rfl]
theorem Blk.setCell {w : World} {g : Nat} {t : TypeId} {cs : Array Value} (h : Blk w g t cs) (i : Nat) (u : Value) : Blk (w.setCell ⟨g, i, none⟩ u) g t (cs.setIfInBounds i u) := by
  unfold Blk at *
  simp [World.setCell, Array.getElem?_modify, h]
theorem Blk.setOther {w : World} {g : Nat} {t : TypeId} {cs : Array Value} (h : Blk w g t cs) {a : Addr} (ha : g ≠ a.block) (u : Value) : Blk (w.setCell a u) g t cs := by
  unfold Blk at *
  simp [World.setCell, Array.getElem?_modify, Ne.symm ha, h]
theorem blk_clear {w : World} {g : Nat} {t : TypeId} {v : Six} (h : Blk w g t v.cells) (f : Nat) (hf : f < 6) : Blk (w.setCells g f (List.replicate (6 - f) (.int .i64 0))) g t (v.set f 0).cells := by
  rcases six_f hf with rfl | rfl | rfl | rfl | rfl | rfl
  · exact (((((h.setCell 0 (.int .i64 0)).setCell 1 (.int .i64 0)).setCell 2 (.int .i64 0)).setCell 3 (.int .i64 0)).setCell 4 (.int .i64 0)).setCell 5 (.int .i64 0)
  · exact ((((h.setCell 1 (.int .i64 0)).setCell 2 (.int .i64 0)).setCell 3 (.int .i64 0)).setCell 4 (.int .i64 0)).setCell 5 (.int .i64 0)
  · exact (((h.setCell 2 (.int .i64 0)).setCell 3 (.int .i64 0)).setCell 4 (.int .i64 0)).setCell 5 (.int .i64 0)
  · exact ((h.setCell 3 (.int .i64 0)).setCell 4 (.int .i64 0)).setCell 5 (.int .i64 0)
  · exact (h.setCell 4 (.int .i64 0)).setCell 5 (.int .i64 0)
  · exact h.setCell 5 (.int .i64 0)
theorem blk_put {w : World} {g : Nat} {t : TypeId} {v : Six} (f : Nat) (hf : f < 6) (h : Blk w g t (v.set f 0).cells) (x : Int) : Blk (w.setCell ⟨g, f, none⟩ (.int .i64 x)) g t (v.set f x).cells := by
  rcases six_f hf with rfl | rfl | rfl | rfl | rfl | rfl <;> exact h.setCell _ _
theorem blk_up {w : World} {g : Nat} {t : TypeId} {v : Six} (f : Nat) (hf : f < 5) (h : Blk w g t (v.set (f + 1) 0).cells) (x : Int) : Blk (w.setCell ⟨g, f, none⟩ (.int .i64 x)) g t (v.set f x).cells := by
  have : f = 0 ∨ f = 1 ∨ f = 2 ∨ f = 3 ∨ f = 4 := by omega
  rcases this with rfl | rfl | rfl | rfl | rfl <;> exact h.setCell _ _
theorem below_setCells {B g : Nat} {a : World} (hg : B ≤ g) (vs : List Value) : ∀ (o : Nat) (w : World), Below B a w → Below B a (w.setCells g o vs) := by
  induction vs with
  | nil => intro o w h; exact h
  | cons v r ih => intro o w h; exact ih (o + 1) _ (h.setCell (p := ⟨g, o, none⟩) hg v)
theorem blk_setCells {g g' : Nat} {t : TypeId} {cs : Array Value} (hne : g ≠ g') (vs : List Value) : ∀ (o : Nat) (w : World), Blk w g t cs → Blk (w.setCells g' o vs) g t cs := by
  induction vs with
  | nil => intro o w h; exact h
  | cons v r ih => intro o w h; exact ih (o + 1) _ (h.setOther (a := ⟨g', o, none⟩) hne v)
theorem cells_at {v : Six} {f : Nat} (hf : f < 6) : v.cells[f]? = some (.int .i64 (v.at f)) := by
  rcases six_f hf with rfl | rfl | rfl | rfl | rfl | rfl <;> rfl
theorem Tabs.heap {w w' : World} (h : Tabs w) (e : w'.heap = w.heap) : Tabs w' := by
  obtain ⟨h1, h2, h3, h4⟩ := h
  have hv : ∀ nm, w'.var? Tryz.prog nm = w.var? Tryz.prog nm := fun nm => by unfold World.var?; rw [e]
  exact ⟨by rw [hv]; exact h1, by rw [hv]; exact h2, by rw [hv]; exact h3, by unfold P10 Lib.TabIs at *; rw [hv]; exact h4⟩
def AdvPost (l : Cl) (n0 : Six) (w : World) (e : Ending) (w' : World) : Prop :=
  ((∃ v : Six, e = .returned (.tuple #[.agg v.cells, .bool true]) ∧ v.good l ∧ n0.le v ∧ ∀ u : Six, u.good l → n0.le u → v.le u) ∨
    (e = .returned (.tuple #[.agg zero6, .bool false]) ∧ ∀ u : Six, u.good l → ¬ n0.le u)) ∧ Below w.heap.size w w'
theorem int_info : ∀ w, (zeroValue 3).run Tryz.prog w = .ok (.int .i64 0) w := by
  obtain ⟨i, hi, hz⟩ := Option.map_eq_some_iff.1 (show (Tryz.prog.info? 3).map (·.zero) = some (some (.int .i64 0)) by kernel_rfl)
  intro w
  simp [zeroValue, typeInfo, hi, hz]
theorem clear_run {w2 : World} {g : Nat} {v : Six} (f : Nat) (hf : f < 6) (h : Blk w2 g 43 v.cells) :
    ∃ W3 : World, (Builtin.clear_ #[22] 0 #[.slice (some ⟨g, f, none⟩) (6 - f) (6 - f)]).run Tryz.prog w2 = .ok (.tuple #[]) W3 ∧ Blk W3 g 43 (v.set f 0).cells ∧
      (∀ (g' : Nat) (t : TypeId) (cs : Array Value), g' ≠ g → Blk w2 g' t cs → Blk W3 g' t cs) ∧ ∀ (B : Nat) (a : World), B ≤ g → Below B a w2 → Below B a W3 := by
  have hc : ∀ j, j < 6 - f → (w2.cell? ⟨g, f + j, none⟩).isSome = true := by
    intro j hj
    rw [h.cell (f + j), cells_at (show f + j < 6 by omega)]; rfl
  have hz : ∀ j, j < 6 - f → w2.frozen? ⟨g, f + j, none⟩ = false := fun j _ => h.frozen _
  refine ⟨_, Lib.run_clear_slice w2 22 3 0 (.int .i64 0) Tryz.underlying22 int_info rfl rfl g f (6 - f) (6 - f) (by omega) hc hz, blk_clear h f hf, fun g' t cs hne hB => blk_setCells hne _ _ _ hB, fun B a hB hb => below_setCells hB _ _ _ hb⟩
theorem set_cell {w : World} {g : Nat} {t : TypeId} {v : Six} {f : Nat} (hf : f < 6) (h : Blk w g t (v.set f 0).cells) : w.cell? ⟨g, f, none⟩ = some (.int .i64 0) := by
  rw [h.cell f]
  rcases six_f hf with rfl | rfl | rfl | rfl | rfl | rfl <;> rfl
theorem set_cell_up {w : World} {g : Nat} {t : TypeId} {v : Six} {f : Nat} (hf : f < 5) (h : Blk w g t (v.set (f + 1) 0).cells) : w.cell? ⟨g, f, none⟩ = some (.int .i64 (v.at f)) := by
  rw [h.cell f]
  have : f = 0 ∨ f = 1 ∨ f = 2 ∨ f = 3 ∨ f = 4 := by omega
  rcases this with rfl | rfl | rfl | rfl | rfl <;> rfl
theorem set_far {v : Six} {f : Nat} {x : Int} (hf : f < 6) (hv : v.bd) (hu : (v.set f x).bd) (hx : v.at f < x) : (v.set f x).far < v.far := by
  refine Six.far_lt hv hu ?_ ?_
  · unfold Six.le
    rcases six_f hf with rfl | rfl | rfl | rfl | rfl | rfl <;> simp only [Six.at, Six.set, true_and] at * <;> omega
  · unfold Six.le
    rcases six_f hf with rfl | rfl | rfl | rfl | rfl | rfl <;> simp only [Six.at, Six.set, true_and] at * <;> omega
end Go.Proofs.YtncolcjejgmhjaaGreatDoor
