/- The walks of the document's least, most, mayPart, field; how a calendar lies in memory. -/
import Derived.Test.YtncolcjejgmhjaaGreatDoorCxaf
import Derived.Test.YtncolcjejgmhjaaGreatDoorCxad
import Derived.Deep.RegionHeld3
namespace Go.Proofs.YtncolcjejgmhjaaGreatDoor
open Go.RowKit
theorem block_of_add (a : Addr) (n : Nat) : (a.add n).block = a.block := by unfold Addr.add; split <;> rfl
theorem add_of_add (a : Addr) (i j : Nat) : (a.add i).add j = a.add (i + j) := by
  unfold Addr.add
  by_cases hi : i = 0 <;> by_cases hj : j = 0 <;> simp [hi, hj, Nat.add_assoc]
def Reads (w : World) (B size : Nat) (A : Option Addr) (n : Nat) (xs : List Value) : Prop :=
  xs.length = n * size ∧ (0 < n → ∃ ad, A = some ad ∧ ad.block < B ∧ ∀ j u, xs[j]? = some u → w.cell? (ad.add j) = some u)
section
variable {w w' : World} {B B' size n : Nat} {A : Option Addr} {xs : List Value}
theorem Reads.none_ : Reads w B size A 0 [] := ⟨by simp, fun h => absurd h (by omega)⟩
theorem Reads.at_ {k : Nat} (h : Reads w B 1 A n xs) (hk : k < n) : ∃ ad u, A = some ad ∧ ad.block < B ∧ xs[k]? = some u ∧ w.cell? (ad.add k) = some u := by
  obtain ⟨ad, e, hb, hc⟩ := h.2 (by omega)
  have hl : k < xs.length := by have := h.1; omega
  exact ⟨ad, xs[k], e, hb, List.getElem?_eq_getElem hl, hc k _ (List.getElem?_eq_getElem hl)⟩
theorem Reads.keep (h : Reads w B size A n xs) (hk : ∀ p : Addr, p.block < B → w'.cell? p = w.cell? p) : Reads w' B size A n xs :=
  ⟨h.1, fun hn => by
    obtain ⟨ad, e, hb, hc⟩ := h.2 hn
    exact ⟨ad, e, hb, fun j u hu => (hk _ (by rw [block_of_add]; exact hb)).trans (hc j u hu)⟩⟩
theorem Reads.wide (h : Reads w B size A n xs) (hB : B ≤ B') : Reads w B' size A n xs :=
  ⟨h.1, fun hn => by
    obtain ⟨ad, e, hb, hc⟩ := h.2 hn
    exact ⟨ad, e, by omega, hc⟩⟩
theorem Reads.below (h : Reads w B size A n xs) (hb : Below B w w') : Reads w' B size A n xs := h.keep fun _ hp => hb.cell hp
theorem Reads.drewN (h : Reads w B size A n xs) (k : Nat) : Reads (w.drewN k) B size A n xs := h
theorem Reads.alloc (h : Reads w B size A n xs) (hB : B ≤ w.heap.size) (o : Obj) : Reads (w.alloc o) B size A n xs := h.keep fun p hp => World.cell?_alloc_lt w o p (by omega)
end
structure Sl where
  A : Option Addr
  n : Nat
  c : Nat
def Sl.val (s : Sl) : Value := .slice s.A s.n s.c
def ints (l : List Int) : List Value := l.map (Value.int .i64)
def ptCells (p : Pt) : List Value := [.int .i64 p.a, .int .i64 p.b, .int .i64 p.s]
def pts (l : List Pt) : List Value := l.flatMap ptCells
def IntsAt (w : World) (B : Nat) (A : Option Addr) (n : Nat) (l : List Int) : Prop := l.length = n ∧ n ≤ maxLen ∧ Reads w B 1 A n (ints l)
def PtsAt (w : World) (B : Nat) (A : Option Addr) (n : Nat) (l : List Pt) : Prop := l.length = n ∧ n ≤ maxLen ∧ Reads w B 3 A n (pts l)
section
variable {w w' : World} {B B' n : Nat} {A : Option Addr}
theorem IntsAt.below {l : List Int} (h : IntsAt w B A n l) (hb : Below B w w') : IntsAt w' B A n l := ⟨h.1, h.2.1, h.2.2.below hb⟩
theorem PtsAt.below {l : List Pt} (h : PtsAt w B A n l) (hb : Below B w w') : PtsAt w' B A n l := ⟨h.1, h.2.1, h.2.2.below hb⟩
theorem IntsAt.wide {l : List Int} (h : IntsAt w B A n l) (hB : B ≤ B') : IntsAt w B' A n l := ⟨h.1, h.2.1, h.2.2.wide hB⟩
theorem PtsAt.wide {l : List Pt} (h : PtsAt w B A n l) (hB : B ≤ B') : PtsAt w B' A n l := ⟨h.1, h.2.1, h.2.2.wide hB⟩
theorem IntsAt.at_ {l : List Int} (h : IntsAt w B A n l) {k : Nat} (hk : k < n) : ∃ ad, A = some ad ∧ ad.block < B ∧ w.cell? (ad.add k) = some (.int .i64 (l.getD k 0)) := by
  obtain ⟨h1, _, h3⟩ := h
  obtain ⟨ad, u, e, hb, hx, hc⟩ := h3.at_ hk
  refine ⟨ad, e, hb, ?_⟩
  rw [hc]
  have hl : k < l.length := by omega
  have : (ints l)[k]? = some (.int .i64 (l.getD k 0)) := by
    unfold ints
    rw [List.getElem?_map, List.getElem?_eq_getElem hl]
    simp [List.getD, List.getElem?_eq_getElem hl]
  rw [this] at hx
  exact hx.symm
theorem pts_at (l : List Pt) (k : Nat) (hk : k < l.length) (j : Nat) (hj : j < 3) : (pts l)[k * 3 + j]? = (ptCells l[k])[j]? := by
  induction l generalizing k with
  | nil => simp at hk
  | cons p l ih =>
    unfold pts
    rw [List.flatMap_cons]
    have h3 : (ptCells p).length = 3 := rfl
    cases k with
    | zero => rw [List.getElem?_append_left (by rw [h3]; omega)]; simp
    | succ k =>
      rw [List.getElem?_append_right (by rw [h3]; omega), h3, show (k + 1) * 3 + j - 3 = k * 3 + j by omega]
      exact ih k (by simpa using hk)
theorem PtsAt.at_ {l : List Pt} (h : PtsAt w B A n l) {k : Nat} (hk : k < n) : ∃ ad p, A = some ad ∧ ad.block < B ∧ l[k]? = some p ∧ w.cell? (ad.add (k * 3)) = some (.int .i64 p.a) ∧ w.cell? ⟨(ad.add (k * 3)).block, (ad.add (k * 3)).off + 1, none⟩ = some (.int .i64 p.b) ∧ w.cell? ⟨(ad.add (k * 3)).block, (ad.add (k * 3)).off + 2, none⟩ = some (.int .i64 p.s) := by
  obtain ⟨h1, _, h3⟩ := h
  obtain ⟨ad, e, hb, hc⟩ := h3.2 (by omega)
  have hl : k < l.length := by omega
  refine ⟨ad, l[k], e, hb, List.getElem?_eq_getElem hl, ?_, ?_, ?_⟩
  · have := hc (k * 3 + 0) (.int .i64 l[k].a) (by rw [pts_at l k hl 0 (by omega)]; rfl)
    simpa using this
  · have := hc (k * 3 + 1) (.int .i64 l[k].b) (by rw [pts_at l k hl 1 (by omega)]; rfl)
    rw [← add_of_add] at this
    exact this
  · have := hc (k * 3 + 2) (.int .i64 l[k].s) (by rw [pts_at l k hl 2 (by omega)]; rfl)
    rw [← add_of_add] at this
    exact this
end
structure Ch where
  d : Sl
  y : Sl
  m : Sl
  t : Sl
  h : Sl
  i : Sl
  s : Sl
def Ch.cells (c : Ch) : Array Value := #[.slice c.d.A c.d.n c.d.c, .slice c.y.A c.y.n c.y.c, .slice c.m.A c.m.n c.m.c, .slice c.t.A c.t.n c.t.c, .slice c.h.A c.h.n c.h.c, .slice c.i.A c.i.n c.i.c, .slice c.s.A c.s.n c.s.c]
def Ch.fsl (c : Ch) : Nat → Sl
  | 0 => c.y
  | 1 => c.m
  | 2 => c.t
  | 3 => c.h
  | 4 => c.i
  | _ => c.s
def CalAt (w : World) (B : Nat) (c : Ch) (l : Cl) : Prop :=
  IntsAt w B c.d.A c.d.n l.ds ∧ ∀ f, PtsAt w B (c.fsl f).A (c.fsl f).n (l.fld f)
theorem CalAt.below {w w' : World} {B : Nat} {c : Ch} {l : Cl} (h : CalAt w B c l) (hb : Below B w w') : CalAt w' B c l := ⟨h.1.below hb, fun f => (h.2 f).below hb⟩
theorem f_cases {f : Nat} (h : f ≤ 5) : f = 0 ∨ f = 1 ∨ f = 2 ∨ f = 3 ∨ f = 4 ∨ f = 5 := by omega
set_option maxHeartbeats 1000000 in
theorem least_any (f : Nat) (hf : f ≤ 5) (w : World) :
    Calls Tryz.prog 45 #[.int .i64 f] w fun e w' => e = .returned (.int .i64 (lo f)) ∧ Below w.heap.size w w' := by
  rcases f_cases hf with rfl | rfl | rfl | rfl | rfl | rfl
  all_goals
    go_enter Tryz.func45, Tryz.ntmps45
    go_wp2_with fail
    go_ret
    exact ⟨rfl, (Below.refl _ _).alloc (Nat.le_refl _) _⟩
set_option maxHeartbeats 1000000 in
theorem most_any (f : Nat) (hf : f ≤ 5) (w : World) :
    Calls Tryz.prog 46 #[.int .i64 f] w fun e w' => e = .returned (.int .i64 (hi f)) ∧ Below w.heap.size w w' := by
  rcases f_cases hf with rfl | rfl | rfl | rfl | rfl | rfl
  all_goals
    go_enter Tryz.func46, Tryz.ntmps46
    go_wp2_with fail
    go_ret
    exact ⟨rfl, (Below.refl _ _).alloc (Nat.le_refl _) _⟩
set_option maxHeartbeats 2000000 in
theorem field_any (c : Ch) (f : Nat) (hf : f ≤ 5) (w : World) :
    Calls Tryz.prog 25 #[.agg c.cells, .int .i64 f] w fun e w' => e = .returned (.slice (c.fsl f).A (c.fsl f).n (c.fsl f).c) ∧ Below w.heap.size w w' := by
  unfold Ch.cells
  rcases f_cases hf with rfl | rfl | rfl | rfl | rfl | rfl
  all_goals
    go_enter Tryz.func25, Tryz.ntmps25
    go_wp2_with fail
    go_ret
    exact ⟨rfl, ((Below.refl _ _).alloc (Nat.le_refl _) _).alloc (by simp) _⟩
end Go.Proofs.YtncolcjejgmhjaaGreatDoor
