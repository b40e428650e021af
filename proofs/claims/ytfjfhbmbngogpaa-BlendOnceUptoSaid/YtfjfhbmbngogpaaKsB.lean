/- The walks of the developers' tables of keys: unitKeys, serviceKeys, socketKeys, timerKeys, installKeys; within, keysOf. -/
import Derived.Test.YtfjfhbmbngogpaaKsA
namespace Go.Proofs.Ytfjfhbmbngogpaa
open Go.RowKit

/-- A key without words, as cells. -/
def Ky.raw (x : Ky) : Kr := ⟨x.s, x.n, x.f, x.l, x.k, none, 0, 0⟩
theorem raw_is {w : World} {B : Nat} {x : Ky} (h : x.w = []) : x.raw.is w B x := ⟨rfl, rfl, rfl, rfl, rfl, by rw [h]; exact RowS.none_⟩
theorem raws_are {w : World} {B : Nat} {l : List Ky} (h : ∀ x ∈ l, x.w = []) : KrsAre w B (l.map Ky.raw) l := by
  induction l with
  | nil => exact KrsAre.nil
  | cons x l ih => exact KrsAre.cons (raw_is (h x (by simp))) (ih fun y hy => h y (by simp [hy]))
/-- A table of keys in a block of its own. -/
def TabP (l : List Ky) (w : World) (e : Ending) (w' : World) : Prop :=
  ∃ (g : Nat) (rs : List Kr), e = .returned (.slice (some ⟨g, 0, none⟩) l.length l.length) ∧ w.heap.size ≤ g ∧ Blk w' g 33 (krs rs).toArray ∧ KrsAre w' g rs l ∧ Below w.heap.size w w'
theorem TabP.plain {l : List Ky} {w : World} {cs : Array Value} (h : ∀ x ∈ l, x.w = []) (n : Nat) (hn : n = l.length) (hcs : cs = (krs (l.map Ky.raw)).toArray) : TabP l w (.returned (.slice (some ⟨w.heap.size, 0, none⟩) n n)) (w.alloc (.cells cs 33)) := by
  subst hcs
  exact ⟨w.heap.size, l.map Ky.raw, by rw [hn], Nat.le_refl _, Blk.new w _ _, raws_are h, (Below.refl _ w).alloc (Nat.le_refl _) _⟩
set_option maxRecDepth 100000 in
theorem timerKeys_any (w : World) : Calls Try.prog 29 #[] w (TabP tTime w) := by
  go_enter Try.func29, Try.ntmps29
  go_wp2
  go_ret
  exact TabP.plain (l := tTime) (by decide) 6 rfl (by kernel_rfl)
set_option maxRecDepth 100000 in
set_option maxHeartbeats 1000000 in
theorem unitKeys_any (w : World) : Calls Try.prog 26 #[] w (TabP tUnit w) := by
  go_enter Try.func26, Try.ntmps26
  go_wp2
  go_ret
  exact TabP.plain (l := tUnit) (by decide) 13 rfl (by kernel_rfl)
set_option maxRecDepth 100000 in
theorem socketKeys_any (w : World) : Calls Try.prog 28 #[] w (TabP tSock w) := by
  go_enter Try.func28, Try.ntmps28
  go_wp2
  go_ret
  exact TabP.plain (l := tSock) (by decide) 4 rfl (by kernel_rfl)
set_option maxRecDepth 100000 in
theorem installKeys_any (w : World) : Calls Try.prog 30 #[] w (TabP tInst w) := by
  go_enter Try.func30, Try.ntmps30
  go_wp2
  go_ret
  exact TabP.plain (l := tInst) (by decide) 5 rfl (by kernel_rfl)
/-- A row of texts in a block. -/
theorem rowS_blk {w : World} {g n : Nat} {l : List (List UInt8)} {B : Nat} (h : Blk w g 9 (wcells l).toArray) (hl : l.length = n) (hn : n ≤ maxLen) (hB : g < B) : RowS w B (some ⟨g, 0, none⟩) n l := by
  refine ⟨?_, fun ad e => by cases e; exact ⟨hB, _, _, h⟩⟩
  refine ⟨hl, hn, fun _ => ⟨⟨g, 0, none⟩, rfl, hB, fun j x hj => ?_⟩⟩
  have : (⟨g, 0, none⟩ : Addr).add j = ⟨g, j, none⟩ := by unfold Addr.add; split <;> simp_all
  rw [this, h.cell j]
  unfold wcells
  simp [hj]
def wType : List (List UInt8) := [[115, 105, 109, 112, 108, 101], [111, 110, 101, 115, 104, 111, 116], [110, 111, 116, 105, 102, 121]]
def wRest : List (List UInt8) := [[110, 111], [111, 110, 45, 115, 117, 99, 99, 101, 115, 115], [111, 110, 45, 102, 97, 105, 108, 117, 114, 101], [111, 110, 45, 97, 98, 110, 111, 114, 109, 97, 108], [97, 108, 119, 97, 121, 115]]
/-- The service's keys as cells: two of them with words. -/
def servRs (g : Nat) : List Kr := [⟨[], [84, 121, 112, 101], 10, false, 0, some ⟨g, 0, none⟩, 3, 3⟩,
  ⟨[], [69, 120, 101, 99, 83, 116, 97, 114, 116, 80, 114, 101], 7, true, 0, none, 0, 0⟩,
  ⟨[], [69, 120, 101, 99, 83, 116, 97, 114, 116], 7, true, 0, none, 0, 0⟩,
  ⟨[], [69, 120, 101, 99, 83, 116, 97, 114, 116, 80, 111, 115, 116], 7, true, 0, none, 0, 0⟩,
  ⟨[], [69, 120, 101, 99, 83, 116, 111, 112], 7, true, 0, none, 0, 0⟩,
  ⟨[], [69, 120, 101, 99, 82, 101, 108, 111, 97, 100], 7, true, 0, none, 0, 0⟩,
  ⟨[], [82, 101, 109, 97, 105, 110, 65, 102, 116, 101, 114, 69, 120, 105, 116], 2, false, 0, none, 0, 0⟩,
  ⟨[], [82, 101, 115, 116, 97, 114, 116], 10, false, 0, some ⟨g + 1, 0, none⟩, 5, 5⟩,
  ⟨[], [82, 101, 115, 116, 97, 114, 116, 83, 101, 99], 4, false, 0, none, 0, 0⟩,
  ⟨[], [84, 105, 109, 101, 111, 117, 116, 83, 116, 97, 114, 116, 83, 101, 99], 4, false, 0, none, 0, 0⟩,
  ⟨[], [84, 105, 109, 101, 111, 117, 116, 83, 116, 111, 112, 83, 101, 99], 4, false, 0, none, 0, 0⟩,
  ⟨[], [83, 117, 99, 99, 101, 115, 115, 69, 120, 105, 116, 83, 116, 97, 116, 117, 115], 11, true, 0, none, 0, 0⟩,
  ⟨[], [69, 110, 118, 105, 114, 111, 110, 109, 101, 110, 116], 8, true, 0, none, 0, 0⟩,
  ⟨[], [83, 111, 99, 107, 101, 116, 115], 6, true, 0, none, 0, 0⟩]
set_option maxRecDepth 100000 in
theorem serv_are (w : World) (g : Nat) (h1 : Blk w g 9 (wcells wType).toArray) (h2 : Blk w (g + 1) 9 (wcells wRest).toArray) (B : Nat) (hB : g + 2 ≤ B) : KrsAre w B (servRs g) tServ := by
  have r1 : RowS w B (some ⟨g, 0, none⟩) 3 wType := rowS_blk h1 rfl (by decide) (by omega)
  have r2 : RowS w B (some ⟨g + 1, 0, none⟩) 5 wRest := rowS_blk h2 rfl (by decide) (by omega)
  have r0 : RowS w B none 0 [] := RowS.none_
  refine KrsAre.cons ⟨rfl, rfl, rfl, rfl, rfl, r1⟩ ?_
  refine KrsAre.cons ⟨rfl, rfl, rfl, rfl, rfl, r0⟩ ?_
  refine KrsAre.cons ⟨rfl, rfl, rfl, rfl, rfl, r0⟩ ?_
  refine KrsAre.cons ⟨rfl, rfl, rfl, rfl, rfl, r0⟩ ?_
  refine KrsAre.cons ⟨rfl, rfl, rfl, rfl, rfl, r0⟩ ?_
  refine KrsAre.cons ⟨rfl, rfl, rfl, rfl, rfl, r0⟩ ?_
  refine KrsAre.cons ⟨rfl, rfl, rfl, rfl, rfl, r0⟩ ?_
  refine KrsAre.cons ⟨rfl, rfl, rfl, rfl, rfl, r2⟩ ?_
  refine KrsAre.cons ⟨rfl, rfl, rfl, rfl, rfl, r0⟩ ?_
  refine KrsAre.cons ⟨rfl, rfl, rfl, rfl, rfl, r0⟩ ?_
  refine KrsAre.cons ⟨rfl, rfl, rfl, rfl, rfl, r0⟩ ?_
  refine KrsAre.cons ⟨rfl, rfl, rfl, rfl, rfl, r0⟩ ?_
  refine KrsAre.cons ⟨rfl, rfl, rfl, rfl, rfl, r0⟩ ?_
  refine KrsAre.cons ⟨rfl, rfl, rfl, rfl, rfl, r0⟩ ?_
  exact KrsAre.nil
theorem TabP.serv {w : World} {c1 c2 c3 : Array Value} (h1 : c1 = (wcells wType).toArray) (h2 : c2 = (wcells wRest).toArray) (h3 : c3 = (krs (servRs w.heap.size)).toArray) :
    TabP tServ w (.returned (.slice (some ⟨w.heap.size + 1 + 1, 0, none⟩) 14 14)) (((w.alloc (.cells c1 9)).alloc (.cells c2 9)).alloc (.cells c3 33)) := by
  subst h1 h2 h3
  have b1 : Blk ((w.alloc (.cells (wcells wType).toArray 9)).alloc (.cells (wcells wRest).toArray 9)) w.heap.size 9 (wcells wType).toArray := (Blk.new w _ _).alloc _
  have b2 : Blk ((w.alloc (.cells (wcells wType).toArray 9)).alloc (.cells (wcells wRest).toArray 9)) (w.heap.size + 1) 9 (wcells wRest).toArray := by
    have := Blk.new (w.alloc (.cells (wcells wType).toArray 9)) 9 (wcells wRest).toArray
    rwa [World.size_alloc] at this
  refine ⟨w.heap.size + 1 + 1, servRs w.heap.size, rfl, by omega, ?_, serv_are _ _ (b1.alloc _) (b2.alloc _) _ (by omega), ?_⟩
  · have := Blk.new ((w.alloc (.cells (wcells wType).toArray 9)).alloc (.cells (wcells wRest).toArray 9)) 33 (krs (servRs w.heap.size)).toArray
    rw [World.size_alloc, World.size_alloc] at this
    exact this
  · exact (((Below.refl _ w).alloc (Nat.le_refl _) _).alloc (by simp) _).alloc (by simp; omega) _
set_option maxRecDepth 100000 in
set_option maxHeartbeats 1000000 in
theorem serviceKeys_any (w : World) : Calls Try.prog 27 #[] w (TabP tServ w) := by
  go_enter Try.func27, Try.ntmps27
  go_wp2
  go_ret
  exact TabP.serv (by kernel_rfl) (by kernel_rfl) (by kernel_rfl)
/-- Cells with a section and kinds filled in. -/
def Kr.into (s : List UInt8) (k : Int) (r : Kr) : Kr := { r with s := s, k := k }
theorem krs_set0 (a b : List Kr) (r : Kr) (s : List UInt8) : (krs (a ++ r :: b)).toArray.setIfInBounds (a.length * 6) (.string (str s)) = (krs (a ++ { r with s := s } :: b)).toArray := by
  apply Array.toList_inj.1
  rw [Array.toList_setIfInBounds, krs_append, krs_append, List.toList_toArray, List.toList_toArray]
  rw [List.set_append, if_neg (by rw [krs_length]; omega), krs_length, Nat.sub_self]
  rfl
theorem krs_set4 (a b : List Kr) (r : Kr) (k : Int) : (krs (a ++ r :: b)).toArray.setIfInBounds (a.length * 6 + 4) (.int .i64 k) = (krs (a ++ { r with k := k } :: b)).toArray := by
  apply Array.toList_inj.1
  rw [Array.toList_setIfInBounds, krs_append, krs_append, List.toList_toArray, List.toList_toArray]
  rw [List.set_append, if_neg (by rw [krs_length]; omega), krs_length, show a.length * 6 + 4 - a.length * 6 = 4 by omega]
  rfl
end Go.Proofs.Ytfjfhbmbngogpaa
