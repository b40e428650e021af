/- The developers' Next: what its loop keeps. -/
import Derived.Test.YtnbdcjohibfjaaaGreatDoorCmB
import Derived.Deep.DeepCutAuto
import Derived.Deep.CutBlock
namespace Go.Proofs.YtnbdcjohibfjaaaGreatDoor
open Go.RowKit

/-- The answer of the search: the least numbers, or none. -/
def AdvIs (l : Cl) (n0 v : Six) (ok : Bool) : Prop := (ok = true → v.good l ∧ n0.le v ∧ ∀ u : Six, u.good l → n0.le u → v.le u) ∧ (ok = false → ∀ u : Six, u.good l → ¬ n0.le u)
def AdvPost2 (l : Cl) (n0 : Six) (w : World) (e : Ending) (w' : World) : Prop :=
  ∃ (v : Six) (ok : Bool), e = .returned (.tuple #[.agg #[.int .i64 v.y, .int .i64 v.m, .int .i64 v.d, .int .i64 v.h, .int .i64 v.i, .int .i64 v.s], .bool ok]) ∧ AdvIs l n0 v ok ∧ Below w.heap.size w w'
theorem advance2_any (c : Ch) (l : Cl) (n0 : Six) (hm : mayC l = true) (hn : n0.bd) (w : World) (ht : Tabs w) (hc : CalAt w w.heap.size c l) :
    Calls Tryz.prog 52 #[.agg c.six, .agg #[.int .i64 n0.y, .int .i64 n0.m, .int .i64 n0.d, .int .i64 n0.h, .int .i64 n0.i, .int .i64 n0.s]] w (AdvPost2 l n0 w) := by
  refine (advance_any c l n0 hm hn w ht hc).mono ?_
  rintro e w' ⟨⟨v, he, h1, h2, h3⟩ | ⟨he, h1⟩, hb⟩
  · exact ⟨v, true, he, ⟨fun _ => ⟨h1, h2, h3⟩, fun h => (by cases h)⟩, hb⟩
  · exact ⟨⟨0, 0, 0, 0, 0, 0⟩, false, he, ⟨fun h => (by cases h), fun _ => h1⟩, hb⟩
/-- The first second behind x that may be one. -/
def fstI (x : Int) : Int := min (max x (-1)) 6311433600 + 1
theorem fst_no {c : Cl} {x : Int} (h : isT (fstI x) = false) : nextN c x = 0 ∧ nextOk c x = false := by
  refine next_none fun s hs => ?_
  rw [← Bool.not_eq_true]
  intro hm
  have hb := match_bd hm
  have : ¬ isT (fstI x) = true := by rw [h]; simp
  rw [isT_iff] at this
  unfold fstI at this
  omega
theorem fst_le {x s : Int} (h : isT (fstI x) = true) (hs : x < s) (h0 : 0 ≤ s) : fstI x ≤ s := by
  have := (isT_iff _).1 h
  unfold fstI at *
  omega
theorem fst_gt {x : Int} (h : isT (fstI x) = true) : x < fstI x := by
  have := (isT_iff _).1 h
  unfold fstI at *
  omega
theorem may_no_next {c : Cl} {x : Int} (h : mayC c = false) : nextN c x = 0 ∧ nextOk c x = false := by
  refine next_none fun s hs => ?_
  unfold matchB
  rw [h]; rfl
/-- What the loop keeps: either numbers that are reached, or nothing more. -/
def NxtIs (l : Cl) (x : Int) (v : Six) (ok : Bool) : Prop := (ok = true → v.good l ∧ Nxt l x v) ∧ (ok = false → ∀ s, x ≤ s → matchB l s = false)
theorem NxtIs.first {l : Cl} {x : Int} {v : Six} {ok : Bool} (hx : isT x = true) (h : AdvIs l (sixOf x) v ok) : NxtIs l x v ok :=
  ⟨fun e => ⟨(h.1 e).1, Nxt.start hx (h.1 e).2.1 (h.1 e).2.2⟩, fun e => Nxt.start_no hx (h.2 e)⟩
theorem NxtIs.next {l : Cl} {x : Int} {v v' : Six} {ok : Bool} (hm : mayC l = true) (h : NxtIs l x v true) (hno : hitB l v = false) (ha : AdvIs l v.tom v' ok) : NxtIs l x v' ok := by
  have hk := Nxt.miss hm (h.1 rfl).2 (h.1 rfl).1 hno
  exact ⟨fun e => ⟨(ha.1 e).1, (h.1 rfl).2.more hk (ha.1 e).2.1 (ha.1 e).2.2⟩, fun e => Nxt.more_no hk (ha.2 e)⟩
theorem NxtIs.far {l : Cl} {x : Int} {v v' : Six} (hm : mayC l = true) (h : NxtIs l x v true) (ha : AdvIs l v.tom v' true) : v'.far < v.far :=
  Six.tom_far hm (h.1 rfl).1 (ha.1 rfl).1 (ha.1 rfl).2.1
theorem NxtIs.hit {l : Cl} {a : Int} {v : Six} (hm : mayC l = true) (hx : isT (fstI a) = true) (h : NxtIs l (fstI a) v true) (ho : toOk v.y v.m v.d v.h v.i v.s = true) (hd : dayB l.ds (fW (toN v.y v.m v.d v.h v.i v.s)) = true) :
    nextN l a = toN v.y v.m v.d v.h v.i v.s ∧ nextOk l a = true := by
  obtain ⟨h1, h2, h3⟩ := Nxt.hit hm hx (h.1 rfl).2 (h.1 rfl).1 ho hd
  have hg := fst_gt hx
  refine next_is (by omega) h2 fun s hs hl => ?_
  rw [← Bool.not_eq_true]
  intro hM
  have hb := match_bd hM
  have := h3 s (fst_le hx hs hb.1) hl
  rw [hM] at this; cases this
theorem NxtIs.none_ {l : Cl} {a : Int} {v : Six} (hx : isT (fstI a) = true) (h : NxtIs l (fstI a) v false) : nextN l a = 0 ∧ nextOk l a = false := by
  refine next_none fun s hs => ?_
  rw [← Bool.not_eq_true]
  intro hM
  have hb := match_bd hM
  have := h.2 rfl s (fst_le hx hs hb.1)
  rw [hM] at this; cases this
theorem hit_no1 {l : Cl} {v : Six} (h : toOk v.y v.m v.d v.h v.i v.s = false) : hitB l v = false := by unfold hitB; rw [h]; rfl
theorem hit_no2 {l : Cl} {v : Six} (h : dayB l.ds (fW (toN v.y v.m v.d v.h v.i v.s)) = false) : hitB l v = false := by unfold hitB; rw [h, Bool.and_false]
def loopFar (g : Nat) (b : Value) (w : World) : Nat := match b with
  | .bool true => farIn g w + 1
  | _ => 0
theorem loopFar_lt {g : Nat} {w w' : World} {t t' : TypeId} {v v' : Six} {ok : Bool} (h : Blk w g t v.cells) (h' : Blk w' g t' v'.cells) (hl : ok = true → v'.far < v.far) : loopFar g (.bool ok) w' < loopFar g (.bool true) w := by
  cases ok with
  | false => exact Nat.succ_pos _
  | true =>
    show farIn g w' + 1 < farIn g w + 1
    rw [farIn_eq h, farIn_eq h']
    have := hl rfl
    omega
theorem cells14 {w : World} {g k : Nat} {t u : TypeId} {a0 a1 a2 a3 a4 a5 a6 b0 b1 b2 b3 b4 b5 b6 : Value} (H : Blk w g t #[a0, a1, a2, a3, a4, a5, a6]) (K : Blk w k u #[b0, b1, b2, b3, b4, b5, b6]) :
    w.cell? ⟨g, 0, none⟩ = some a0 ∧ w.cell? ⟨g, 1, none⟩ = some a1 ∧ w.cell? ⟨g, 2, none⟩ = some a2 ∧ w.cell? ⟨g, 3, none⟩ = some a3 ∧ w.cell? ⟨g, 4, none⟩ = some a4 ∧ w.cell? ⟨g, 5, none⟩ = some a5 ∧ w.cell? ⟨g, 6, none⟩ = some a6 ∧
    w.cell? ⟨k, 0, none⟩ = some b0 ∧ w.cell? ⟨k, 1, none⟩ = some b1 ∧ w.cell? ⟨k, 2, none⟩ = some b2 ∧ w.cell? ⟨k, 3, none⟩ = some b3 ∧ w.cell? ⟨k, 4, none⟩ = some b4 ∧ w.cell? ⟨k, 5, none⟩ = some b5 ∧ w.cell? ⟨k, 6, none⟩ = some b6 :=
  ⟨H.cell 0, H.cell 1, H.cell 2, H.cell 3, H.cell 4, H.cell 5, H.cell 6, K.cell 0, K.cell 1, K.cell 2, K.cell 3, K.cell 4, K.cell 5, K.cell 6⟩
theorem cells13 {w : World} {g k : Nat} {t u : TypeId} {a0 a1 a2 a3 a4 a5 a6 b0 b1 b2 b3 b4 b5 : Value} (H : Blk w g t #[a0, a1, a2, a3, a4, a5, a6]) (K : Blk w k u #[b0, b1, b2, b3, b4, b5]) :
    w.cell? ⟨g, 0, none⟩ = some a0 ∧ w.cell? ⟨g, 1, none⟩ = some a1 ∧ w.cell? ⟨g, 2, none⟩ = some a2 ∧ w.cell? ⟨g, 3, none⟩ = some a3 ∧ w.cell? ⟨g, 4, none⟩ = some a4 ∧ w.cell? ⟨g, 5, none⟩ = some a5 ∧ w.cell? ⟨g, 6, none⟩ = some a6 ∧
    w.cell? ⟨k, 0, none⟩ = some b0 ∧ w.cell? ⟨k, 1, none⟩ = some b1 ∧ w.cell? ⟨k, 2, none⟩ = some b2 ∧ w.cell? ⟨k, 3, none⟩ = some b3 ∧ w.cell? ⟨k, 4, none⟩ = some b4 ∧ w.cell? ⟨k, 5, none⟩ = some b5 :=
  ⟨H.cell 0, H.cell 1, H.cell 2, H.cell 3, H.cell 4, H.cell 5, H.cell 6, K.cell 0, K.cell 1, K.cell 2, K.cell 3, K.cell 4, K.cell 5⟩
end Go.Proofs.YtnbdcjohibfjaaaGreatDoor
