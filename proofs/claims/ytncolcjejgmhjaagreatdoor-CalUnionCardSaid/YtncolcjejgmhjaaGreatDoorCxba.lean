/- strings.SplitSeq at a blank: its pieces, one after the other. -/
import Derived.Test.YtncolcjejgmhjaaGreatDoorCxae
import Derived.Test.YtncolcjejgmhjaaGreatDoorCxaz
import Derived.Test.YtncolcjejgmhjaaGreatDoorCxad
import Derived.Test.YtncolcjejgmhjaaGreatDoorCxax
import Derived.RangeFuncNested
import Derived.RangeFuncBound
import Derived.RangeFuncCalls
import Derived.RangeFuncLeaves
import Derived.Shelf.Abstract
import Derived.Shelf.RegionOpen
import Derived.OwnWalkIn
import Derived.TacticsInMore
import Derived.LoopNIn
import Derived.LoopIn
namespace Go.Proofs.YtncolcjejgmhjaaGreatDoor
open Go.RowKit
attribute [local go_sem] Oper.semAt_some
theorem sgo_none (l w : List UInt8) (h : ∀ c ∈ l, c ≠ 44) : sgo 44 w l = [w ++ l] := by
  induction l generalizing w with
  | nil => simp [sgo]
  | cons c l ih =>
    rw [sgo, if_neg (h c (by simp)), ih _ (fun x hx => h x (by simp [hx]))]
    simp
theorem sgo_some (a b w : List UInt8) (h : ∀ c ∈ a, c ≠ 44) : sgo 44 w (a ++ 44 :: b) = (w ++ a) :: sgo 44 [] b := by
  induction a generalizing w with
  | nil => simp [sgo]
  | cons c a ih =>
    rw [List.cons_append, sgo, if_neg (h c (by simp)), ih _ (fun x hx => h x (by simp [hx]))]
    simp
def piecesS (s : ByteArray) : List ByteArray := (sgo 44 [] s.data.toList).map str
theorem pieces_none {s : ByteArray} (h : Lib.indexByte s.data.toList 44 = -1) : piecesS s = [s] := by
  have h1 := Lib.indexByte_none h
  unfold piecesS
  rw [sgo_none _ _ (fun c hc e => by
    obtain ⟨k, hk, rfl⟩ := List.getElem_of_mem hc
    exact h1 k (by rw [List.getElem?_eq_getElem hk, e]))]
  simp [str_data]
theorem pieces_some {s : ByteArray} {i : Nat} (h : Lib.indexByte s.data.toList 44 = i) : i < s.size ∧ piecesS s = s.extract 0 i :: piecesS (s.extract (i + 1) s.size) := by
  obtain ⟨h1, h2⟩ := Lib.indexByte_some h
  obtain ⟨hi, h3⟩ := List.getElem?_eq_some_iff.1 h1
  have hi' : i < s.size := by simpa using hi
  refine ⟨hi', ?_⟩
  unfold piecesS
  have e : s.data.toList = s.data.toList.take i ++ 44 :: s.data.toList.drop (i + 1) := by
    conv => lhs; rw [← List.take_append_drop i s.data.toList, List.drop_eq_getElem_cons hi, h3]
  rw [tail_list]
  conv => lhs; rw [e]
  rw [sgo_some _ _ _ (fun c hc e => by
    obtain ⟨k, hk, rfl⟩ := List.getElem_of_mem hc
    have hk' : k < i := by rw [List.length_take] at hk; omega
    refine h2 k hk' ?_
    rw [List.getElem_take] at e
    rw [List.getElem?_eq_getElem (by omega), e])]
  rw [List.map_cons, List.nil_append]
  congr 1
  refine (eq_str.2 ?_).symm
  rw [Lib.extract_data]
  simp
theorem pieces_size (l w : List UInt8) : ∀ p ∈ sgo 44 w l, p.length ≤ w.length + l.length := by
  induction l generalizing w with
  | nil => intro p hp; rw [sgo, List.mem_singleton] at hp; rw [hp]; simp
  | cons c l ih =>
    intro p hp
    rw [sgo] at hp
    split at hp
    · rcases List.mem_cons.1 hp with hp | hp
      · rw [hp]; simp
      · have := ih [] p hp; simp at this ⊢; omega
    · have := ih _ p hp; simp at this ⊢; omega
theorem piece_size {s x : ByteArray} (h : x ∈ piecesS s) : x.size ≤ s.size := by
  unfold piecesS at h
  obtain ⟨p, hp, rfl⟩ := List.mem_map.1 h
  have := pieces_size _ _ p hp
  rw [str_size]
  simpa using this
def leftOf (C : Nat) (W : World) : Nat := match W.cell? ⟨C, 0, none⟩ with | some (.string t) => t.size | _ => 0
theorem leftOf_eq {C : Nat} {W : World} {t : ByteArray} (h : W.cell? ⟨C, 0, none⟩ = some (.string t)) : leftOf C W = t.size := by unfold leftOf; rw [h]
structure SplitAt (C : Nat) (t : ByteArray) (W : World) : Prop where
  b0 : W.heap[C]? = some (.cells #[.string t] 9 (0, 0))
  b1 : W.heap[C + 1]? = some (.cells #[.string ⟨#[44]⟩] 9 (0, 0))
  b2 : W.heap[C + 2]? = some (.cells #[.int .i64 0] 3 (0, 0))
theorem SplitAt.cells {C : Nat} {t : ByteArray} {W : World} (h : SplitAt C t W) : W.cell? ⟨C, 0, none⟩ = some (.string t) ∧ W.frozen? ⟨C, 0, none⟩ = false ∧ W.cell? ⟨C + 1, 0, none⟩ = some (.string ⟨#[44]⟩) ∧ W.cell? ⟨C + 2, 0, none⟩ = some (.int .i64 0) := by
  obtain ⟨b0, b1, b2⟩ := h
  exact ⟨Boxed.cell b0, Boxed.frozen b0, Boxed.cell b1, Boxed.cell b2⟩
theorem SplitAt.kept {C : Nat} {t : ByteArray} {W W' : World} (h : SplitAt C t W) (k : Kept C (C + 3) W W') : SplitAt C t W' :=
  ⟨(k C (by omega) (by omega)).trans h.b0, (k (C + 1) (by omega) (by omega)).trans h.b1, (k (C + 2) (by omega) (by omega)).trans h.b2⟩
theorem SplitAt.below {C B : Nat} {t : ByteArray} {W W' : World} (h : SplitAt C t W) (k : Below B W W') (hB : C + 3 ≤ B) : SplitAt C t W' :=
  ⟨(k.block C (by omega)).trans h.b0, (k.block (C + 1) (by omega)).trans h.b1, (k.block (C + 2) (by omega)).trans h.b2⟩
theorem SplitAt.set_ {C : Nat} {t : ByteArray} {W : World} (h : SplitAt C t W) (u : ByteArray) : SplitAt C u (W.setCell ⟨C, 0, none⟩ (.string u)) :=
  ⟨Boxed.set _ h.b0, (Below.heap_setCell W ⟨C, 0, none⟩ _ (C + 1) (by simp)).trans h.b1, (Below.heap_setCell W ⟨C, 0, none⟩ _ (C + 2) (by simp)).trans h.b2⟩
set_option maxRecDepth 100000 in
set_option maxHeartbeats 4000000 in
theorem split_seq (n : Nat) (hn : 1 ≤ n) (C : Nat) (s : ByteArray) (hs : s.size ≤ maxLen) (w : World) (hC : C + 3 ≤ w.heap.size) (h : SplitAt C s w) :
    SeqC Fence.wide n Tryz.prog 84 #[.pointer (some ⟨C + 1, 0, none⟩), .pointer (some ⟨C, 0, none⟩), .pointer (some ⟨C + 2, 0, none⟩)] (fun x => .string x) C (C + 3) (piecesS s) w := by
  unfold maxLen at hs
  intro l J Jx W hW hJ hJx hY h0
  have h1 := h.below hW hC
  refine callsIn_of_wp Tryz.func84 rfl trivial ?_ rfl
  simp only [Tryz.ntmps84, List.size_toArray, List.length_cons, List.length_nil, Nat.reduceAdd, Nat.reduceSub, Array.replicate_succ, Array.replicate_zero, List.push_toArray, List.append_toArray, List.nil_append, List.cons_append]
  obtain ⟨c0, f0, c1, c2⟩ := h1.cells
  have H1 := Lib.hid h1
  clear h1
  gi_wp2
  gi_loopw [7] (fun v wr => ∃ (pre : List ByteArray) (rest : ByteArray), rest.size ≤ s.size ∧ Hid (piecesS s = pre ++ piecesS rest) ∧ Hid (SplitAt C rest wr) ∧ Hid (J pre wr)) (fun v wr => leftOf C wr)
  case atStart => exact ⟨[], s, Nat.le_refl _, rfl, H1, h0⟩
  case round =>
    obtain ⟨pre, rest, hle, hp, hat, hj⟩ := hrel
    obtain ⟨d0, g0, d1, d2⟩ := hat.out.cells
    have hidx := Lib.indexByte_ge rest.data.toList 44
    by_cases hix : Lib.indexByte rest.data.toList 44 = -1
    · have hps := pieces_none hix
      obtain ⟨fn, tmps, assign, body, hy, hR⟩ := hY pre rest [] wr (by rw [hp.out, hps]) hj.out
      have HX := Lib.hid hix
      have HP := Lib.hid (hp.out.trans (by rw [hps]))
      clear hix hps hidx
      gi_wp2_with (refine ⟨trivial, ?_⟩; gi_at_call 73; refine (callsIn_wide.2 (Tryz.strings_Index_one _ _ _)).mono ?_; rintro e w' ⟨rfl, rfl⟩; rw [HX.out])
      refine hR.mono ?_
      rintro e W' (⟨rfl, hJ', hk⟩ | ⟨rfl, hJx'⟩)
      · gi_wp2
        go_end0
        exact ⟨⟨_, rfl⟩, .inl (by rw [HP.out]; exact hJ')⟩
      · gi_wp2
        go_end0
        exact ⟨⟨_, rfl⟩, .inr ⟨_, ⟨[], by rw [HP.out]; simp⟩, hJx'⟩⟩
    · obtain ⟨i, hi⟩ : ∃ i : Nat, Lib.indexByte rest.data.toList 44 = i := ⟨(Lib.indexByte rest.data.toList 44).toNat, by omega⟩
      obtain ⟨hlt, hps⟩ := pieces_some hi
      obtain ⟨fn, tmps, assign, body, hy, hR⟩ := hY pre (rest.extract 0 i) (piecesS (rest.extract (i + 1) rest.size)) wr (by rw [hp.out, hps]) hj.out
      have HX := Lib.hid hi
      have HP := Lib.hid (hp.out.trans (by rw [hps]))
      clear hix hps hidx hi
      have k0 : (0 : Int) ≤ (i : Int) := by omega
      have k1 : (i : Int) ≤ (rest.size : Int) := by omega
      have k2 : (0 : Int) ≤ (i : Int) + 1 := by omega
      have k3 : (i : Int) + 1 ≤ (rest.size : Int) := by omega
      gi_wp2_with (refine ⟨trivial, ?_⟩; gi_at_call 73; refine (callsIn_wide.2 (Tryz.strings_Index_one _ _ _)).mono ?_; rintro e w' ⟨rfl, rfl⟩; rw [HX.out])
      refine hR.mono ?_
      rintro e W' (⟨rfl, hJ', hk⟩ | ⟨rfl, hJx'⟩)
      · have hat' := hat.out.kept hk
        obtain ⟨m0, m1, m2, m3⟩ := hat'.cells
        have Hset := Lib.hid (hat'.set_ (rest.extract (i + 1) rest.size))
        have HJ2 := Lib.hid (hJ _ _ _ hJ' (grownBy_setCell' W' C (.string (rest.extract (i + 1) rest.size))))
        have hsz : (rest.extract (i + 1) rest.size).size = rest.size - (i + 1) := by rw [ByteArray.size_extract]; omega
        have hl0 := leftOf_eq d0
        have hl1 := leftOf_eq Hset.out.cells.1
        rw [hsz] at hl1
        have hle2 : (rest.extract (i + 1) rest.size).size ≤ s.size := by omega
        have HL0 := Lib.hid hl0
        have HL1 := Lib.hid hl1
        clear hat' hl0 hl1 hsz hJ' hk
        gi_wp2
        go_roundw
        case rel => exact ⟨pre ++ [rest.extract 0 i], rest.extract (i + 1) rest.size, hle2, Lib.hid (by rw [HP.out]; simp), Hset, HJ2⟩
        case measure => rw [HL0.out, HL1.out]; omega
      · gi_wp2
        refine bodyPost_ret (results_none rfl _ _ _) rfl ?_
        exact ⟨⟨_, rfl⟩, .inr ⟨_, ⟨piecesS (rest.extract (i + 1) rest.size), by rw [HP.out]; simp⟩, hJx'⟩⟩
end Go.Proofs.YtncolcjejgmhjaaGreatDoor
