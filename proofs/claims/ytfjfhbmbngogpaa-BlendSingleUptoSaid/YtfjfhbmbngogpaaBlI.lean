/- The walks of slices.Backward over lines and over rows of lines. -/
import Derived.Test.YtfjfhbmbngogpaaBlR
import Derived.Test.YtfjfhbmbngogpaaKsH
import Derived.RangeFuncBound
import Derived.Shelf.Abstract
import Derived.Shelf.RegionOpen
import Derived.OwnWalkIn
import Derived.TacticsInMore
import Derived.LoopNIn
import Derived.LoopIn
namespace Go.Proofs.Ytfjfhbmbngogpaa
open Go.RowKit

theorem hide {p : Prop} (h : p) : Hid p := h
/-! ### from the last one back -/
theorem back_at {α : Type} (L : List α) (k : Nat) (x : α) (h : L[k]? = some x) : L.reverse = (L.drop (k + 1)).reverse ++ x :: (L.take k).reverse := by
  have hk : k < L.length := by
    rcases Nat.lt_or_ge k L.length with h' | h'
    · exact h'
    · rw [List.getElem?_eq_none h'] at h; cases h
  have he : L[k] = x := by rw [List.getElem?_eq_getElem hk] at h; exact Option.some.inj h
  conv => lhs; rw [← List.take_append_drop k L]
  rw [List.drop_eq_getElem_cons hk, he, List.reverse_append, List.reverse_cons]
  simp
theorem back_step {α : Type} (L : List α) (k : Nat) (x : α) (h : L[k]? = some x) : (L.drop (k + 1)).reverse ++ [x] = (L.drop k).reverse := by
  have hk : k < L.length := by
    rcases Nat.lt_or_ge k L.length with h' | h'
    · exact h'
    · rw [List.getElem?_eq_none h'] at h; cases h
  have he : L[k] = x := by rw [List.getElem?_eq_getElem hk] at h; exact Option.some.inj h
  rw [List.drop_eq_getElem_cons hk, he, List.reverse_cons]
theorem zip_at {α : Type} {l : List α} {k : Nat} {x : α} (h : l[k]? = some x) : l.zipIdx[k]? = some (x, k) := by
  rw [List.getElem?_zipIdx, h]; simp

/-- A line as it is handed on. -/
def lnV (x : Ln) : Value := .agg #[.string (str x.s), .string (str x.k), .string (str x.v), .int .i64 x.n]

abbrev Sl := Option Addr × Nat × Nat
def slV (r : Sl) : Value := .slice r.1 r.2.1 r.2.2
/-- A row of slices. -/
def SlsAt (w : World) (B : Nat) (A : Option Addr) (n : Nat) (l : List Sl) : Prop :=
  l.length = n ∧ n ≤ maxLen ∧ (0 < n → ∃ ad, A = some ad ∧ ad.block < B ∧ ∀ j r, l[j]? = some r → w.cell? (ad.add j) = some (slV r))
theorem SlsAt.below {w w' : World} {B n : Nat} {A : Option Addr} {l : List Sl} (h : SlsAt w B A n l) (hb : Below B w w') : SlsAt w' B A n l :=
  ⟨h.1, h.2.1, fun hn => by
    obtain ⟨ad, e, hB, hc⟩ := h.2.2 hn
    exact ⟨ad, e, hB, fun j x hj => (hb.cell (by rw [block_addW]; exact hB)).trans (hc j x hj)⟩⟩
theorem SlsAt.wide {w : World} {B B' n : Nat} {A : Option Addr} {l : List Sl} (h : SlsAt w B A n l) (hB : B ≤ B') : SlsAt w B' A n l :=
  ⟨h.1, h.2.1, fun hn => by
    obtain ⟨ad, e, h2, hc⟩ := h.2.2 hn
    exact ⟨ad, e, by omega, hc⟩⟩
theorem SlsAt.at_ {w : World} {B n : Nat} {A : Option Addr} {l : List Sl} (h : SlsAt w B A n l) {k : Nat} (hk : k < n) :
    ∃ ad a m c, A = some ad ∧ ad.block < B ∧ l[k]? = some (a, m, c) ∧ w.cell? (ad.add k) = some (.slice a m c) := by
  obtain ⟨h1, _, h4⟩ := h
  obtain ⟨ad, e, hb, hc⟩ := h4 (by omega)
  have hl : k < l.length := by omega
  have hx := List.getElem?_eq_getElem hl
  exact ⟨ad, l[k].1, l[k].2.1, l[k].2.2, e, hb, hx, hc k _ hx⟩

attribute [local go_sem] Oper.semAt_some
theorem backL_any (A : Option Addr) (m c : Nat) (w : World) :
    Calls Try.prog 15 #[.slice A m c] w fun e w' => e = .returned (.func (.func 23) #[] #[.pointer (some ⟨w.heap.size, 0, none⟩)]) ∧ w' = w.alloc (.cells #[.slice A m c] 22) := by
  go_enter Try.func15, Try.ntmps15
  go_wp2
  go_ret
  exact ⟨rfl, rfl⟩
theorem backR_any (A : Option Addr) (m c : Nat) (w : World) :
    Calls Try.prog 14 #[.slice A m c] w fun e w' => e = .returned (.func (.func 22) #[] #[.pointer (some ⟨w.heap.size, 0, none⟩)]) ∧ w' = w.alloc (.cells #[.slice A m c] 27) := by
  go_enter Try.func14, Try.ntmps14
  go_wp2
  go_ret
  exact ⟨rfl, rfl⟩
set_option maxRecDepth 100000 in
set_option maxHeartbeats 4000000 in
theorem backR_seq (n : Nat) (hn : 1 ≤ n) (b B : Nat) (A : Option Addr) (m c : Nat) (l : List Sl) :
    SeqR Fence.wide n Try.prog 22 #[.pointer (some ⟨b, 0, none⟩)] (fun x : Sl × Nat => .int .i64 x.2) (fun x => slV x.1) l.zipIdx.reverse
      (fun W => Blk W b 27 #[.slice A m c] ∧ SlsAt W B A m l) := by
  intro z J W hJR hY h0
  have c0 := (hJR _ _ h0).1.cell 0
  have hm := (hJR _ _ h0).2.2.1
  have hl := (hJR _ _ h0).2.1
  unfold maxLen at hm
  refine callsIn_of_wp Try.func22 rfl trivial ?_ rfl
  simp only [Try.ntmps22, List.size_toArray, List.length_cons, List.length_nil, Nat.reduceAdd, Nat.reduceSub, Array.replicate_succ, Array.replicate_zero, List.push_toArray, List.append_toArray, List.nil_append, List.cons_append]
  have HY := hide hY
  have HJ := hide hJR
  clear hY hJR
  gi_wp2
  gi_loopw [3] (fun i wr => ∃ k : Nat, k ≤ m ∧ i = .int .i64 ((k : Int) - 1) ∧ Hid (J (l.zipIdx.drop k).reverse wr)) (fun i wr => (intOf i + 1).toNat)
  case atStart => exact ⟨m, Nat.le_refl _, by go_num, by rw [List.drop_of_length_le (by rw [List.length_zipIdx]; omega)]; exact h0⟩
  case round =>
    obtain ⟨k, hk, rfl, HJr⟩ := hrel
    have d0 := (HJ.out _ _ HJr.out).1.cell 0
    rcases k with _ | k
    · gi_wp2
      go_end0
      exact ⟨⟨_, rfl⟩, HJr.out⟩
    · obtain ⟨ad, a, q, cc, rfl, _, hx, d1⟩ := (HJ.out _ _ HJr.out).2.at_ (k := k) (by omega)
      have b0 : (0 : Int) ≤ (k : Int) := by omega
      have b1 : (k : Int) < (m : Int) := by omega
      obtain ⟨fn, tmps, assign, body, hy, hR⟩ := HY.out (l.zipIdx.drop (k + 1)).reverse ((a, q, cc), k) _ wr (back_at _ _ _ (zip_at hx)) HJr.out
      dsimp only [slV] at hy
      have e1 : ((k + 1 : Nat) : Int) - 1 = (k : Int) := by omega
      rw [e1]
      gi_wp2
      refine hR.mono ?_
      rintro e W' ⟨rfl, hJ'⟩
      have HJ8 : Hid (J (l.zipIdx.drop k).reverse W') := by rw [← back_step _ _ _ (zip_at hx)]; exact hJ'
      clear hJ'
      gi_wp2
      go_roundw
      case rel => exact ⟨k, by omega, by go_num, HJ8⟩
      case measure => simp [intOf]
set_option maxRecDepth 100000 in
set_option maxHeartbeats 4000000 in
theorem backL_seq (n : Nat) (hn : 1 ≤ n) (b B : Nat) (A : Option Addr) (m c : Nat) (l : List Ln) :
    SeqR Fence.wide n Try.prog 23 #[.pointer (some ⟨b, 0, none⟩)] (fun x : Ln × Nat => .int .i64 x.2) (fun x => lnV x.1) l.zipIdx.reverse
      (fun W => Blk W b 22 #[.slice A m c] ∧ LnsAt W B A m l) := by
  intro z J W hJR hY h0
  have c0 := (hJR _ _ h0).1.cell 0
  have hm := (hJR _ _ h0).2.2.1
  have hl := (hJR _ _ h0).2.1
  unfold maxLen at hm
  refine callsIn_of_wp Try.func23 rfl trivial ?_ rfl
  simp only [Try.ntmps23, List.size_toArray, List.length_cons, List.length_nil, Nat.reduceAdd, Nat.reduceSub, Array.replicate_succ, Array.replicate_zero, List.push_toArray, List.append_toArray, List.nil_append, List.cons_append]
  have HY := hide hY
  have HJ := hide hJR
  clear hY hJR
  gi_wp2
  gi_loopw [3] (fun i wr => ∃ k : Nat, k ≤ m ∧ i = .int .i64 ((k : Int) - 1) ∧ Hid (J (l.zipIdx.drop k).reverse wr)) (fun i wr => (intOf i + 1).toNat)
  case atStart => exact ⟨m, Nat.le_refl _, by go_num, by rw [List.drop_of_length_le (by rw [List.length_zipIdx]; omega)]; exact h0⟩
  case round =>
    obtain ⟨k, hk, rfl, HJr⟩ := hrel
    have d0 := (HJ.out _ _ HJr.out).1.cell 0
    rcases k with _ | k
    · gi_wp2
      go_end0
      exact ⟨⟨_, rfl⟩, HJr.out⟩
    · obtain ⟨ad, x, rfl, _, hx, q0, q1, q2, q3⟩ := (HJ.out _ _ HJr.out).2.at_ (k := k) (by omega)
      have b0 : (0 : Int) ≤ (k : Int) := by omega
      have b1 : (k : Int) < (m : Int) := by omega
      obtain ⟨fn, tmps, assign, body, hy, hR⟩ := HY.out (l.zipIdx.drop (k + 1)).reverse (x, k) _ wr (back_at _ _ _ (zip_at hx)) HJr.out
      dsimp only [lnV] at hy
      have e1 : ((k + 1 : Nat) : Int) - 1 = (k : Int) := by omega
      rw [e1]
      gi_wp2
      refine hR.mono ?_
      rintro e W' ⟨rfl, hJ'⟩
      have HJ8 : Hid (J (l.zipIdx.drop k).reverse W') := by rw [← back_step _ _ _ (zip_at hx)]; exact hJ'
      clear hJ'
      gi_wp2
      go_roundw
      case rel => exact ⟨k, by omega, by go_num, HJ8⟩
      case measure => simp [intOf]
end Go.Proofs.Ytfjfhbmbngogpaa
