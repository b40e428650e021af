/- The walks of the developers' tables of keys: unitKeys, serviceKeys, socketKeys, timerKeys, installKeys; within, keysOf. strings.SplitSeq at a blank: its pieces, one after the other. -/
import Derived.Test.YtadifolonbkamaaGreatDoorKfae
import Derived.Test.YtadifolonbkamaaGreatDoorKfad
import Derived.Test.YtadifolonbkamaaGreatDoorKfaa
import Derived.Test.YtadifolonbkamaaGreatDoorKfac
import Derived.RangeFuncNested
import Derived.RangeFuncBound
import Derived.RangeFuncCalls
import Derived.RangeFuncLeaves
import Derived.Shelf.Abstract
import Derived.Shelf.RegionOpen
import Derived.OwnWalkIn
import Derived.TacticsInMore
import Derived.LoopNIn
import Derived.LoopIn
namespace Go.Proofs.YtadifolonbkamaaGreatDoor
open Go.RowKit
/-- A key without words, as cells. -/
def Ky.raw (x : Ky) : Kr := ⟨x.s, x.n, x.f, x.l, x.k, none, 0, 0⟩
theorem raw_is {w : World} {B : Nat} {x : Ky} (h : x.w = []) : x.raw.is w B x := ⟨rfl, rfl, rfl, rfl, rfl, by rw [h]; exact RowS.none_⟩
theorem raws_are {w : World} {B : Nat} {l : List Ky} (h : ∀ x ∈ l, x.w = []) : KrsAre w B (l.map Ky.raw) l := by
  induction l with
  | nil => exact KrsAre.nil
  | cons x l ih => exact KrsAre.cons (raw_is (h x (by simp))) (ih fun y hy => h y (by simp [hy]))
/-- A table of keys in a block of its own. -/
def TabP (l : List Ky) (w : World) (e : Ending) (w' : World) : Prop :=
  ∃ (g : Nat) (rs : List Kr), e = .returned (.slice (some ⟨g, 0, none⟩) l.length l.length) ∧ w.heap.size ≤ g ∧ Blk w' g 28 (krs rs).toArray ∧ KrsAre w' g rs l ∧ Below w.heap.size w w'
theorem TabP.plain {l : List Ky} {w : World} {cs : Array Value} (h : ∀ x ∈ l, x.w = []) (n : Nat) (hn : n = l.length) (hcs : cs = (krs (l.map Ky.raw)).toArray) : TabP l w (.returned (.slice (some ⟨w.heap.size, 0, none⟩) n n)) (w.alloc (.cells cs 28)) := by
  subst hcs
  exact ⟨w.heap.size, l.map Ky.raw, by rw [hn], Nat.le_refl _, Blk.new w _ _, raws_are h, (Below.refl _ w).alloc (Nat.le_refl _) _⟩
set_option maxRecDepth 100000 in
theorem timerKeys_any (w : World) : Calls Tryz.prog 45 #[] w (TabP tTime w) := by
  go_enter Tryz.func45, Tryz.ntmps45
  go_wp2
  go_ret
  exact TabP.plain (l := tTime) (by decide) 6 rfl (by kernel_rfl)
set_option maxRecDepth 100000 in
set_option maxHeartbeats 1000000 in
theorem unitKeys_any (w : World) : Calls Tryz.prog 42 #[] w (TabP tUnit w) := by
  go_enter Tryz.func42, Tryz.ntmps42
  go_wp2
  go_ret
  exact TabP.plain (l := tUnit) (by decide) 13 rfl (by kernel_rfl)
set_option maxRecDepth 100000 in
theorem socketKeys_any (w : World) : Calls Tryz.prog 44 #[] w (TabP tSock w) := by
  go_enter Tryz.func44, Tryz.ntmps44
  go_wp2
  go_ret
  exact TabP.plain (l := tSock) (by decide) 4 rfl (by kernel_rfl)
set_option maxRecDepth 100000 in
theorem installKeys_any (w : World) : Calls Tryz.prog 46 #[] w (TabP tInst w) := by
  go_enter Tryz.func46, Tryz.ntmps46
  go_wp2
  go_ret
  exact TabP.plain (l := tInst) (by decide) 5 rfl (by kernel_rfl)
/-- A row of texts in a block. -/
theorem rowS_blk {w : World} {g n : Nat} {l : List (List UInt8)} {B : Nat} (h : Blk w g 9 (wcells l).toArray) (hl : l.length = n) (hn : n ≤ maxLen) (hB : g < B) : RowS w B (some ⟨g, 0, none⟩) n l := by
  refine ⟨?_, fun ad e => by cases e; exact ⟨hB, _, _, h⟩⟩
  refine ⟨hl, hn, fun _ => ⟨⟨g, 0, none⟩, rfl, hB, fun j x hj => ?_⟩⟩
  have : (⟨g, 0, none⟩ : Addr).add j = ⟨g, j, none⟩ := by unfold Addr.add; split <;> simp_all
  rw [this, h.cell j]
  unfold wcells
  simp [hj]
def wType : List (List UInt8) := [[115, 105, 109, 112, 108, 101], [111, 110, 101, 115, 104, 111, 116], [110, 111, 116, 105, 102, 121]]
def wRest : List (List UInt8) := [[110, 111], [111, 110, 45, 115, 117, 99, 99, 101, 115, 115], [111, 110, 45, 102, 97, 105, 108, 117, 114, 101], [111, 110, 45, 97, 98, 110, 111, 114, 109, 97, 108], [97, 108, 119, 97, 121, 115]]
/-- The service's keys as cells: two of them with words. -/
def servRs (g : Nat) : List Kr := [⟨[], [84, 121, 112, 101], 10, false, 0, some ⟨g, 0, none⟩, 3, 3⟩,
  ⟨[], [69, 120, 101, 99, 83, 116, 97, 114, 116, 80, 114, 101], 7, true, 0, none, 0, 0⟩,
  ⟨[], [69, 120, 101, 99, 83, 116, 97, 114, 116], 7, true, 0, none, 0, 0⟩,
  ⟨[], [69, 120, 101, 99, 83, 116, 97, 114, 116, 80, 111, 115, 116], 7, true, 0, none, 0, 0⟩,
  ⟨[], [69, 120, 101, 99, 83, 116, 111, 112], 7, true, 0, none, 0, 0⟩,
  ⟨[], [69, 120, 101, 99, 82, 101, 108, 111, 97, 100], 7, true, 0, none, 0, 0⟩,
  ⟨[], [82, 101, 109, 97, 105, 110, 65, 102, 116, 101, 114, 69, 120, 105, 116], 2, false, 0, none, 0, 0⟩,
  ⟨[], [82, 101, 115, 116, 97, 114, 116], 10, false, 0, some ⟨g + 1, 0, none⟩, 5, 5⟩,
  ⟨[], [82, 101, 115, 116, 97, 114, 116, 83, 101, 99], 4, false, 0, none, 0, 0⟩,
  ⟨[], [84, 105, 109, 101, 111, 117, 116, 83, 116, 97, 114, 116, 83, 101, 99], 4, false, 0, none, 0, 0⟩,
  ⟨[], [84, 105, 109, 101, 111, 117, 116, 83, 116, 111, 112, 83, 101, 99], 4, false, 0, none, 0, 0⟩,
  ⟨[], [83, 117, 99, 99, 101, 115, 115, 69, 120, 105, 116, 83, 116, 97, 116, 117, 115], 11, true, 0, none, 0, 0⟩,
  ⟨[], [69, 110, 118, 105, 114, 111, 110, 109, 101, 110, 116], 8, true, 0, none, 0, 0⟩,
  ⟨[], [83, 111, 99, 107, 101, 116, 115], 6, true, 0, none, 0, 0⟩]
set_option maxRecDepth 100000 in
theorem serv_are (w : World) (g : Nat) (h1 : Blk w g 9 (wcells wType).toArray) (h2 : Blk w (g + 1) 9 (wcells wRest).toArray) (B : Nat) (hB : g + 2 ≤ B) : KrsAre w B (servRs g) tServ := by
  have r1 : RowS w B (some ⟨g, 0, none⟩) 3 wType := rowS_blk h1 rfl (by decide) (by omega)
  have r2 : RowS w B (some ⟨g + 1, 0, none⟩) 5 wRest := rowS_blk h2 rfl (by decide) (by omega)
  have r0 : RowS w B none 0 [] := RowS.none_
  refine KrsAre.cons ⟨rfl, rfl, rfl, rfl, rfl, r1⟩ ?_
  refine KrsAre.cons ⟨rfl, rfl, rfl, rfl, rfl, r0⟩ ?_
  refine KrsAre.cons ⟨rfl, rfl, rfl, rfl, rfl, r0⟩ ?_
  refine KrsAre.cons ⟨rfl, rfl, rfl, rfl, rfl, r0⟩ ?_
  refine KrsAre.cons ⟨rfl, rfl, rfl, rfl, rfl, r0⟩ ?_
  refine KrsAre.cons ⟨rfl, rfl, rfl, rfl, rfl, r0⟩ ?_
  refine KrsAre.cons ⟨rfl, rfl, rfl, rfl, rfl, r0⟩ ?_
  refine KrsAre.cons ⟨rfl, rfl, rfl, rfl, rfl, r2⟩ ?_
  refine KrsAre.cons ⟨rfl, rfl, rfl, rfl, rfl, r0⟩ ?_
  refine KrsAre.cons ⟨rfl, rfl, rfl, rfl, rfl, r0⟩ ?_
  refine KrsAre.cons ⟨rfl, rfl, rfl, rfl, rfl, r0⟩ ?_
  refine KrsAre.cons ⟨rfl, rfl, rfl, rfl, rfl, r0⟩ ?_
  refine KrsAre.cons ⟨rfl, rfl, rfl, rfl, rfl, r0⟩ ?_
  refine KrsAre.cons ⟨rfl, rfl, rfl, rfl, rfl, r0⟩ ?_
  exact KrsAre.nil
theorem TabP.serv {w : World} {c1 c2 c3 : Array Value} (h1 : c1 = (wcells wType).toArray) (h2 : c2 = (wcells wRest).toArray) (h3 : c3 = (krs (servRs w.heap.size)).toArray) :
    TabP tServ w (.returned (.slice (some ⟨w.heap.size + 1 + 1, 0, none⟩) 14 14)) (((w.alloc (.cells c1 9)).alloc (.cells c2 9)).alloc (.cells c3 28)) := by
  subst h1 h2 h3
  have b1 : Blk ((w.alloc (.cells (wcells wType).toArray 9)).alloc (.cells (wcells wRest).toArray 9)) w.heap.size 9 (wcells wType).toArray := (Blk.new w _ _).alloc _
  have b2 : Blk ((w.alloc (.cells (wcells wType).toArray 9)).alloc (.cells (wcells wRest).toArray 9)) (w.heap.size + 1) 9 (wcells wRest).toArray := by
    have := Blk.new (w.alloc (.cells (wcells wType).toArray 9)) 9 (wcells wRest).toArray
    rwa [World.size_alloc] at this
  refine ⟨w.heap.size + 1 + 1, servRs w.heap.size, rfl, by omega, ?_, serv_are _ _ (b1.alloc _) (b2.alloc _) _ (by omega), ?_⟩
  · have := Blk.new ((w.alloc (.cells (wcells wType).toArray 9)).alloc (.cells (wcells wRest).toArray 9)) 28 (krs (servRs w.heap.size)).toArray
    rw [World.size_alloc, World.size_alloc] at this
    exact this
  · exact (((Below.refl _ w).alloc (Nat.le_refl _) _).alloc (by simp) _).alloc (by simp; omega) _
set_option maxRecDepth 100000 in
set_option maxHeartbeats 1000000 in
theorem serviceKeys_any (w : World) : Calls Tryz.prog 43 #[] w (TabP tServ w) := by
  go_enter Tryz.func43, Tryz.ntmps43
  go_wp2
  go_ret
  exact TabP.serv (by kernel_rfl) (by kernel_rfl) (by kernel_rfl)
/-- Cells with a section and kinds filled in. -/
def Kr.into (s : List UInt8) (k : Int) (r : Kr) : Kr := { r with s := s, k := k }
theorem krs_set0 (a b : List Kr) (r : Kr) (s : List UInt8) : (krs (a ++ r :: b)).toArray.setIfInBounds (a.length * 6) (.string (str s)) = (krs (a ++ { r with s := s } :: b)).toArray := by
  apply Array.toList_inj.1
  rw [Array.toList_setIfInBounds, krs_append, krs_append, List.toList_toArray, List.toList_toArray]
  rw [List.set_append, if_neg (by rw [krs_length]; omega), krs_length, Nat.sub_self]
  rfl
theorem krs_set4 (a b : List Kr) (r : Kr) (k : Int) : (krs (a ++ r :: b)).toArray.setIfInBounds (a.length * 6 + 4) (.int .i64 k) = (krs (a ++ { r with k := k } :: b)).toArray := by
  apply Array.toList_inj.1
  rw [Array.toList_setIfInBounds, krs_append, krs_append, List.toList_toArray, List.toList_toArray]
  rw [List.set_append, if_neg (by rw [krs_length]; omega), krs_length, show a.length * 6 + 4 - a.length * 6 = 4 by omega]
  rfl
end Go.Proofs.YtadifolonbkamaaGreatDoor
namespace Go.Proofs.YtadifolonbkamaaGreatDoor
open Go.RowKit
attribute [local go_sem] Oper.semAt_some
theorem sgo_none (l w : List UInt8) (h : ∀ c ∈ l, c ≠ 32) : sgo 32 w l = [w ++ l] := by
  induction l generalizing w with
  | nil => simp [sgo]
  | cons c l ih =>
    rw [sgo, if_neg (h c (by simp)), ih _ (fun x hx => h x (by simp [hx]))]
    simp
theorem sgo_some (a b w : List UInt8) (h : ∀ c ∈ a, c ≠ 32) : sgo 32 w (a ++ 32 :: b) = (w ++ a) :: sgo 32 [] b := by
  induction a generalizing w with
  | nil => simp [sgo]
  | cons c a ih =>
    rw [List.cons_append, sgo, if_neg (h c (by simp)), ih _ (fun x hx => h x (by simp [hx]))]
    simp
/-- The pieces of a text. -/
def piecesS (s : ByteArray) : List ByteArray := (sgo 32 [] s.data.toList).map str
theorem pieces_none {s : ByteArray} (h : Lib.indexByte s.data.toList 32 = -1) : piecesS s = [s] := by
  have h1 := Lib.indexByte_none h
  unfold piecesS
  rw [sgo_none _ _ (fun c hc e => by
    obtain ⟨k, hk, rfl⟩ := List.getElem_of_mem hc
    exact h1 k (by rw [List.getElem?_eq_getElem hk, e]))]
  simp [str_data]
theorem pieces_some {s : ByteArray} {i : Nat} (h : Lib.indexByte s.data.toList 32 = i) : i < s.size ∧ piecesS s = s.extract 0 i :: piecesS (s.extract (i + 1) s.size) := by
  obtain ⟨h1, h2⟩ := Lib.indexByte_some h
  obtain ⟨hi, h3⟩ := List.getElem?_eq_some_iff.1 h1
  have hi' : i < s.size := by simpa using hi
  refine ⟨hi', ?_⟩
  unfold piecesS
  have e : s.data.toList = s.data.toList.take i ++ 32 :: s.data.toList.drop (i + 1) := by
    conv => lhs; rw [← List.take_append_drop i s.data.toList, List.drop_eq_getElem_cons hi, h3]
  rw [tail_list]
  conv => lhs; rw [e]
  rw [sgo_some _ _ _ (fun c hc e => by
    obtain ⟨k, hk, rfl⟩ := List.getElem_of_mem hc
    have hk' : k < i := by rw [List.length_take] at hk; omega
    refine h2 k hk' ?_
    rw [List.getElem_take] at e
    rw [List.getElem?_eq_getElem (by omega), e])]
  rw [List.map_cons, List.nil_append]
  congr 1
  refine (eq_str.2 ?_).symm
  rw [Lib.extract_data]
  simp
theorem pieces_size (l w : List UInt8) : ∀ p ∈ sgo 32 w l, p.length ≤ w.length + l.length := by
  induction l generalizing w with
  | nil => intro p hp; rw [sgo, List.mem_singleton] at hp; rw [hp]; simp
  | cons c l ih =>
    intro p hp
    rw [sgo] at hp
    split at hp
    · rcases List.mem_cons.1 hp with hp | hp
      · rw [hp]; simp
      · have := ih [] p hp; simp at this ⊢; omega
    · have := ih _ p hp; simp at this ⊢; omega
theorem piece_size {s x : ByteArray} (h : x ∈ piecesS s) : x.size ≤ s.size := by
  unfold piecesS at h
  obtain ⟨p, hp, rfl⟩ := List.mem_map.1 h
  have := pieces_size _ _ p hp
  rw [str_size]
  simpa using this
/-- How long the text is that is still to be parted. -/
def leftOf (C : Nat) (W : World) : Nat := match W.cell? ⟨C, 0, none⟩ with | some (.string t) => t.size | _ => 0
theorem leftOf_eq {C : Nat} {W : World} {t : ByteArray} (h : W.cell? ⟨C, 0, none⟩ = some (.string t)) : leftOf C W = t.size := by unfold leftOf; rw [h]
structure SplitAt (C : Nat) (t : ByteArray) (W : World) : Prop where
  b0 : W.heap[C]? = some (.cells #[.string t] 9 (0, 0))
  b1 : W.heap[C + 1]? = some (.cells #[.string ⟨#[32]⟩] 9 (0, 0))
  b2 : W.heap[C + 2]? = some (.cells #[.int .i64 0] 3 (0, 0))
theorem SplitAt.cells {C : Nat} {t : ByteArray} {W : World} (h : SplitAt C t W) : W.cell? ⟨C, 0, none⟩ = some (.string t) ∧ W.frozen? ⟨C, 0, none⟩ = false ∧ W.cell? ⟨C + 1, 0, none⟩ = some (.string ⟨#[32]⟩) ∧ W.cell? ⟨C + 2, 0, none⟩ = some (.int .i64 0) := by
  obtain ⟨b0, b1, b2⟩ := h
  exact ⟨Boxed.cell b0, Boxed.frozen b0, Boxed.cell b1, Boxed.cell b2⟩
theorem SplitAt.kept {C : Nat} {t : ByteArray} {W W' : World} (h : SplitAt C t W) (k : Kept C (C + 3) W W') : SplitAt C t W' :=
  ⟨(k C (by omega) (by omega)).trans h.b0, (k (C + 1) (by omega) (by omega)).trans h.b1, (k (C + 2) (by omega) (by omega)).trans h.b2⟩
theorem SplitAt.below {C B : Nat} {t : ByteArray} {W W' : World} (h : SplitAt C t W) (k : Below B W W') (hB : C + 3 ≤ B) : SplitAt C t W' :=
  ⟨(k.block C (by omega)).trans h.b0, (k.block (C + 1) (by omega)).trans h.b1, (k.block (C + 2) (by omega)).trans h.b2⟩
theorem SplitAt.set_ {C : Nat} {t : ByteArray} {W : World} (h : SplitAt C t W) (u : ByteArray) : SplitAt C u (W.setCell ⟨C, 0, none⟩ (.string u)) :=
  ⟨Boxed.set _ h.b0, (Below.heap_setCell W ⟨C, 0, none⟩ _ (C + 1) (by simp)).trans h.b1, (Below.heap_setCell W ⟨C, 0, none⟩ _ (C + 2) (by simp)).trans h.b2⟩
set_option maxRecDepth 100000 in
set_option maxHeartbeats 4000000 in
theorem split_seq (n : Nat) (hn : 1 ≤ n) (C : Nat) (s : ByteArray) (hs : s.size ≤ maxLen) (w : World) (hC : C + 3 ≤ w.heap.size) (h : SplitAt C s w) :
    SeqC Fence.wide n Tryz.prog 124 #[.pointer (some ⟨C + 1, 0, none⟩), .pointer (some ⟨C, 0, none⟩), .pointer (some ⟨C + 2, 0, none⟩)] (fun x => .string x) C (C + 3) (piecesS s) w := by
  unfold maxLen at hs
  intro l J Jx W hW hJ hJx hY h0
  have h1 := h.below hW hC
  refine callsIn_of_wp Tryz.func124 rfl trivial ?_ rfl
  simp only [Tryz.ntmps124, List.size_toArray, List.length_cons, List.length_nil, Nat.reduceAdd, Nat.reduceSub, Array.replicate_succ, Array.replicate_zero, List.push_toArray, List.append_toArray, List.nil_append, List.cons_append]
  obtain ⟨c0, f0, c1, c2⟩ := h1.cells
  have H1 := Lib.hid h1
  clear h1
  gi_wp2
  gi_loopw [7] (fun v wr => ∃ (pre : List ByteArray) (rest : ByteArray), rest.size ≤ s.size ∧ Hid (piecesS s = pre ++ piecesS rest) ∧ Hid (SplitAt C rest wr) ∧ Hid (J pre wr)) (fun v wr => leftOf C wr)
  case atStart => exact ⟨[], s, Nat.le_refl _, rfl, H1, h0⟩
  case round =>
    obtain ⟨pre, rest, hle, hp, hat, hj⟩ := hrel
    obtain ⟨d0, g0, d1, d2⟩ := hat.out.cells
    have hidx := Lib.indexByte_ge rest.data.toList 32
    by_cases hix : Lib.indexByte rest.data.toList 32 = -1
    · have hps := pieces_none hix
      obtain ⟨fn, tmps, assign, body, hy, hR⟩ := hY pre rest [] wr (by rw [hp.out, hps]) hj.out
      have HX := Lib.hid hix
      have HP := Lib.hid (hp.out.trans (by rw [hps]))
      clear hix hps hidx
      gi_wp2_with (refine ⟨trivial, ?_⟩; gi_at_call 126; refine (callsIn_wide.2 (Tryz.strings_Index_one _ _ _)).mono ?_; rintro e w' ⟨rfl, rfl⟩; rw [HX.out])
      refine hR.mono ?_
      rintro e W' (⟨rfl, hJ', hk⟩ | ⟨rfl, hJx'⟩)
      · gi_wp2
        go_end0
        exact ⟨⟨_, rfl⟩, .inl (by rw [HP.out]; exact hJ')⟩
      · gi_wp2
        go_end0
        exact ⟨⟨_, rfl⟩, .inr ⟨_, ⟨[], by rw [HP.out]; simp⟩, hJx'⟩⟩
    · obtain ⟨i, hi⟩ : ∃ i : Nat, Lib.indexByte rest.data.toList 32 = i := ⟨(Lib.indexByte rest.data.toList 32).toNat, by omega⟩
      obtain ⟨hlt, hps⟩ := pieces_some hi
      obtain ⟨fn, tmps, assign, body, hy, hR⟩ := hY pre (rest.extract 0 i) (piecesS (rest.extract (i + 1) rest.size)) wr (by rw [hp.out, hps]) hj.out
      have HX := Lib.hid hi
      have HP := Lib.hid (hp.out.trans (by rw [hps]))
      clear hix hps hidx hi
      have k0 : (0 : Int) ≤ (i : Int) := by omega
      have k1 : (i : Int) ≤ (rest.size : Int) := by omega
      have k2 : (0 : Int) ≤ (i : Int) + 1 := by omega
      have k3 : (i : Int) + 1 ≤ (rest.size : Int) := by omega
      gi_wp2_with (refine ⟨trivial, ?_⟩; gi_at_call 126; refine (callsIn_wide.2 (Tryz.strings_Index_one _ _ _)).mono ?_; rintro e w' ⟨rfl, rfl⟩; rw [HX.out])
      refine hR.mono ?_
      rintro e W' (⟨rfl, hJ', hk⟩ | ⟨rfl, hJx'⟩)
      · have hat' := hat.out.kept hk
        obtain ⟨m0, m1, m2, m3⟩ := hat'.cells
        have Hset := Lib.hid (hat'.set_ (rest.extract (i + 1) rest.size))
        have HJ2 := Lib.hid (hJ _ _ _ hJ' (grownBy_setCell' W' C (.string (rest.extract (i + 1) rest.size))))
        have hsz : (rest.extract (i + 1) rest.size).size = rest.size - (i + 1) := by rw [ByteArray.size_extract]; omega
        have hl0 := leftOf_eq d0
        have hl1 := leftOf_eq Hset.out.cells.1
        rw [hsz] at hl1
        have hle2 : (rest.extract (i + 1) rest.size).size ≤ s.size := by omega
        have HL0 := Lib.hid hl0
        have HL1 := Lib.hid hl1
        clear hat' hl0 hl1 hsz hJ' hk
        gi_wp2
        go_roundw
        case rel => exact ⟨pre ++ [rest.extract 0 i], rest.extract (i + 1) rest.size, hle2, Lib.hid (by rw [HP.out]; simp), Hset, HJ2⟩
        case measure => rw [HL0.out, HL1.out]; omega
      · gi_wp2
        refine bodyPost_ret (results_none rfl _ _ _) rfl ?_
        exact ⟨⟨_, rfl⟩, .inr ⟨_, ⟨piecesS (rest.extract (i + 1) rest.size), by rw [HP.out]; simp⟩, hJx'⟩⟩
end Go.Proofs.YtadifolonbkamaaGreatDoor
