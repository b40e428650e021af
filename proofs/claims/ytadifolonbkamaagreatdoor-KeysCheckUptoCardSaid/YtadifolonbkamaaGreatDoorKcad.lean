/- The table of the keys, on plain lists: what a section has, what a name finds, what a kind may have. It speaks of no code -/
import Derived.Below
import Derived.Test.YtadifolonbkamaaGreatDoorKcac
import Derived.Test.YtadifolonbkamaaGreatDoorKcaa
import Derived.Test.YtadifolonbkamaaGreatDoorKcab
import Derived.RangeFuncNested
import Derived.RangeFuncBound
import Derived.RangeFuncCalls
import Derived.RangeFuncLeaves
import Derived.Shelf.Abstract
import Derived.Shelf.RegionOpen
import Derived.OwnWalkIn
import Derived.TacticsInMore
import Derived.LoopNIn
import Derived.LoopIn
namespace Go.Proofs.YtadifolonbkamaaGreatDoor
structure Ky where
  s : List UInt8
  n : List UInt8
  f : Int
  l : Bool
  k : Int
  w : List (List UInt8)
deriving DecidableEq
def Ky.into (s : List UInt8) (k : Int) (x : Ky) : Ky := ⟨s, x.n, x.f, x.l, k, x.w⟩
def noKy : Ky := ⟨[], [], 0, false, 0, []⟩
def nUnit : List UInt8 := [85, 110, 105, 116]
def tUnit : List Ky := [⟨[], [68, 101, 115, 99, 114, 105, 112, 116, 105, 111, 110], 1, false, 0, []⟩,
  ⟨[], [68, 101, 102, 97, 117, 108, 116, 68, 101, 112, 101, 110, 100, 101, 110, 99, 105, 101, 115], 2, false, 0, []⟩,
  ⟨[], [82, 101, 113, 117, 105, 114, 101, 115], 6, true, 0, []⟩,
  ⟨[], [87, 97, 110, 116, 115], 6, true, 0, []⟩,
  ⟨[], [82, 101, 113, 117, 105, 115, 105, 116, 101], 6, true, 0, []⟩,
  ⟨[], [66, 105, 110, 100, 115, 84, 111], 6, true, 0, []⟩,
  ⟨[], [80, 97, 114, 116, 79, 102], 6, true, 0, []⟩,
  ⟨[], [67, 111, 110, 102, 108, 105, 99, 116, 115], 6, true, 0, []⟩,
  ⟨[], [66, 101, 102, 111, 114, 101], 6, true, 0, []⟩,
  ⟨[], [65, 102, 116, 101, 114], 6, true, 0, []⟩,
  ⟨[], [79, 110, 70, 97, 105, 108, 117, 114, 101], 6, true, 0, []⟩,
  ⟨[], [83, 116, 97, 114, 116, 76, 105, 109, 105, 116, 73, 110, 116, 101, 114, 118, 97, 108, 83, 101, 99], 4, false, 0, []⟩,
  ⟨[], [83, 116, 97, 114, 116, 76, 105, 109, 105, 116, 66, 117, 114, 115, 116], 3, false, 0, []⟩]
def uUnit : List Ky := tUnit.map (Ky.into nUnit 30)
def nServ : List UInt8 := [83, 101, 114, 118, 105, 99, 101]
def tServ : List Ky := [⟨[], [84, 121, 112, 101], 10, false, 0, [[115, 105, 109, 112, 108, 101], [111, 110, 101, 115, 104, 111, 116], [110, 111, 116, 105, 102, 121]]⟩,
  ⟨[], [69, 120, 101, 99, 83, 116, 97, 114, 116, 80, 114, 101], 7, true, 0, []⟩,
  ⟨[], [69, 120, 101, 99, 83, 116, 97, 114, 116], 7, true, 0, []⟩,
  ⟨[], [69, 120, 101, 99, 83, 116, 97, 114, 116, 80, 111, 115, 116], 7, true, 0, []⟩,
  ⟨[], [69, 120, 101, 99, 83, 116, 111, 112], 7, true, 0, []⟩,
  ⟨[], [69, 120, 101, 99, 82, 101, 108, 111, 97, 100], 7, true, 0, []⟩,
  ⟨[], [82, 101, 109, 97, 105, 110, 65, 102, 116, 101, 114, 69, 120, 105, 116], 2, false, 0, []⟩,
  ⟨[], [82, 101, 115, 116, 97, 114, 116], 10, false, 0, [[110, 111], [111, 110, 45, 115, 117, 99, 99, 101, 115, 115], [111, 110, 45, 102, 97, 105, 108, 117, 114, 101], [111, 110, 45, 97, 98, 110, 111, 114, 109, 97, 108], [97, 108, 119, 97, 121, 115]]⟩,
  ⟨[], [82, 101, 115, 116, 97, 114, 116, 83, 101, 99], 4, false, 0, []⟩,
  ⟨[], [84, 105, 109, 101, 111, 117, 116, 83, 116, 97, 114, 116, 83, 101, 99], 4, false, 0, []⟩,
  ⟨[], [84, 105, 109, 101, 111, 117, 116, 83, 116, 111, 112, 83, 101, 99], 4, false, 0, []⟩,
  ⟨[], [83, 117, 99, 99, 101, 115, 115, 69, 120, 105, 116, 83, 116, 97, 116, 117, 115], 11, true, 0, []⟩,
  ⟨[], [69, 110, 118, 105, 114, 111, 110, 109, 101, 110, 116], 8, true, 0, []⟩,
  ⟨[], [83, 111, 99, 107, 101, 116, 115], 6, true, 0, []⟩]
def uServ : List Ky := tServ.map (Ky.into nServ 2)
def nSock : List UInt8 := [83, 111, 99, 107, 101, 116]
def tSock : List Ky := [⟨[], [76, 105, 115, 116, 101, 110, 83, 116, 114, 101, 97, 109], 11, true, 0, []⟩,
  ⟨[], [66, 97, 99, 107, 108, 111, 103], 3, false, 0, []⟩,
  ⟨[], [70, 105, 108, 101, 68, 101, 115, 99, 114, 105, 112, 116, 111, 114, 78, 97, 109, 101], 1, false, 0, []⟩,
  ⟨[], [83, 101, 114, 118, 105, 99, 101], 5, false, 0, []⟩]
def uSock : List Ky := tSock.map (Ky.into nSock 4)
def nTime : List UInt8 := [84, 105, 109, 101, 114]
def tTime : List Ky := [⟨[], [79, 110, 66, 111, 111, 116, 83, 101, 99], 4, true, 0, []⟩,
  ⟨[], [79, 110, 65, 99, 116, 105, 118, 101, 83, 101, 99], 4, true, 0, []⟩,
  ⟨[], [79, 110, 85, 110, 105, 116, 73, 110, 97, 99, 116, 105, 118, 101, 83, 101, 99], 4, true, 0, []⟩,
  ⟨[], [79, 110, 67, 97, 108, 101, 110, 100, 97, 114], 9, true, 0, []⟩,
  ⟨[], [80, 101, 114, 115, 105, 115, 116, 101, 110, 116], 2, false, 0, []⟩,
  ⟨[], [85, 110, 105, 116], 5, false, 0, []⟩]
def uTime : List Ky := tTime.map (Ky.into nTime 8)
def nInst : List UInt8 := [73, 110, 115, 116, 97, 108, 108]
def tInst : List Ky := [⟨[], [87, 97, 110, 116, 101, 100, 66, 121], 6, true, 0, []⟩,
  ⟨[], [82, 101, 113, 117, 105, 114, 101, 100, 66, 121], 6, true, 0, []⟩,
  ⟨[], [65, 108, 105, 97, 115], 6, true, 0, []⟩,
  ⟨[], [65, 108, 115, 111], 6, true, 0, []⟩,
  ⟨[], [68, 101, 102, 97, 117, 108, 116, 73, 110, 115, 116, 97, 110, 99, 101], 1, false, 0, []⟩]
def uInst : List Ky := tInst.map (Ky.into nInst 30)
def keysT (s : List UInt8) : List Ky :=
  if s = nUnit then uUnit else if s = nServ then uServ else if s = nSock then uSock else if s = nTime then uTime else if s = nInst then uInst else []
def allT : List Ky := uUnit ++ uServ ++ uSock ++ uTime ++ uInst
def namedT (l : List Ky) (n : List UInt8) : Option Ky := l.find? fun x => decide (x.n = n)
def findT (s n : List UInt8) : Option Ky := namedT (keysT s) n
def findD (s n : List UInt8) : Option Ky := allT.find? fun x => decide (x.s = s) && decide (x.n = n)
theorem find_in (s sec n : List UInt8) (k : Int) (l : List Ky) : ((l.map (Ky.into sec k)).find? fun x => decide (x.s = s) && decide (x.n = n)) = if s = sec then namedT (l.map (Ky.into sec k)) n else none := by
  by_cases h : s = sec
  · rw [if_pos h]
    unfold namedT
    subst h
    induction l with
    | nil => rfl
    | cons x l ih =>
      rw [List.map_cons, List.find?_cons, List.find?_cons, ih]
      have : (Ky.into s k x).s = s := rfl
      simp [this]
  · rw [if_neg h]
    induction l with
    | nil => rfl
    | cons x l ih =>
      rw [List.map_cons, List.find?_cons, ih]
      have : (Ky.into sec k x).s = sec := rfl
      have h2 : ¬ sec = s := fun e => h e.symm
      simp [this, h2]
theorem findD_T (s n : List UInt8) : findD s n = findT s n := by
  have e : allT = tUnit.map (Ky.into nUnit 30) ++ tServ.map (Ky.into nServ 2) ++ tSock.map (Ky.into nSock 4) ++ tTime.map (Ky.into nTime 8) ++ tInst.map (Ky.into nInst 30) := rfl
  unfold findD
  rw [e]
  simp only [List.find?_append, find_in]
  unfold findT keysT
  by_cases h1 : s = nUnit
  · subst h1
    rw [if_pos rfl, if_pos rfl, if_neg (by decide), if_neg (by decide), if_neg (by decide), if_neg (by decide)]
    simp only [Option.or_none]
    rfl
  rw [if_neg h1, if_neg h1]
  by_cases h2 : s = nServ
  · subst h2
    rw [if_pos rfl, if_pos rfl, if_neg (by decide), if_neg (by decide), if_neg (by decide)]
    simp only [Option.or_none, Option.none_or]
    rfl
  rw [if_neg h2, if_neg h2]
  by_cases h3 : s = nSock
  · subst h3
    rw [if_pos rfl, if_pos rfl, if_neg (by decide), if_neg (by decide)]
    simp only [Option.or_none, Option.none_or]
    rfl
  rw [if_neg h3, if_neg h3]
  by_cases h4 : s = nTime
  · subst h4
    rw [if_pos rfl, if_pos rfl, if_neg (by decide)]
    simp only [Option.or_none, Option.none_or]
    rfl
  rw [if_neg h4, if_neg h4]
  by_cases h5 : s = nInst
  · subst h5
    rw [if_pos rfl, if_pos rfl]
    simp only [Option.none_or]
    rfl
  rw [if_neg h5, if_neg h5]
  rfl
def isForK (k kind : Int) : Bool := decide (0 ≤ kind) && k.toNat.testBit (min kind.toNat 64)
def isForT (x : Ky) (kind : Int) : Bool := isForK x.k kind
theorem keysT_k (s : List UInt8) : ∀ x ∈ keysT s, x.k ∈ ([2, 4, 8, 30] : List Int) := by
  unfold keysT
  repeat' split
  all_goals decide
def oftenT (s : List UInt8) (kind : Int) : Bool := (keysT s).any fun x => isForT x kind
theorem allT_len : allT.length = 42 := by decide
end Go.Proofs.YtadifolonbkamaaGreatDoor
namespace Go.Proofs.YtadifolonbkamaaGreatDoor
open Go.RowKit
attribute [local go_sem] Oper.semAt_some
theorem sgo_none (l w : List UInt8) (h : ∀ c ∈ l, c ≠ 32) : sgo 32 w l = [w ++ l] := by
  induction l generalizing w with
  | nil => simp [sgo]
  | cons c l ih =>
    rw [sgo, if_neg (h c (by simp)), ih _ (fun x hx => h x (by simp [hx]))]
    simp
theorem sgo_some (a b w : List UInt8) (h : ∀ c ∈ a, c ≠ 32) : sgo 32 w (a ++ 32 :: b) = (w ++ a) :: sgo 32 [] b := by
  induction a generalizing w with
  | nil => simp [sgo]
  | cons c a ih =>
    rw [List.cons_append, sgo, if_neg (h c (by simp)), ih _ (fun x hx => h x (by simp [hx]))]
    simp
def piecesS (s : ByteArray) : List ByteArray := (sgo 32 [] s.data.toList).map str
theorem pieces_none {s : ByteArray} (h : Lib.indexByte s.data.toList 32 = -1) : piecesS s = [s] := by
  have h1 := Lib.indexByte_none h
  unfold piecesS
  rw [sgo_none _ _ (fun c hc e => by
    obtain ⟨k, hk, rfl⟩ := List.getElem_of_mem hc
    exact h1 k (by rw [List.getElem?_eq_getElem hk, e]))]
  simp [str_data]
theorem pieces_some {s : ByteArray} {i : Nat} (h : Lib.indexByte s.data.toList 32 = i) : i < s.size ∧ piecesS s = s.extract 0 i :: piecesS (s.extract (i + 1) s.size) := by
  obtain ⟨h1, h2⟩ := Lib.indexByte_some h
  obtain ⟨hi, h3⟩ := List.getElem?_eq_some_iff.1 h1
  have hi' : i < s.size := by simpa using hi
  refine ⟨hi', ?_⟩
  unfold piecesS
  have e : s.data.toList = s.data.toList.take i ++ 32 :: s.data.toList.drop (i + 1) := by
    conv => lhs; rw [← List.take_append_drop i s.data.toList, List.drop_eq_getElem_cons hi, h3]
  rw [tail_list]
  conv => lhs; rw [e]
  rw [sgo_some _ _ _ (fun c hc e => by
    obtain ⟨k, hk, rfl⟩ := List.getElem_of_mem hc
    have hk' : k < i := by rw [List.length_take] at hk; omega
    refine h2 k hk' ?_
    rw [List.getElem_take] at e
    rw [List.getElem?_eq_getElem (by omega), e])]
  rw [List.map_cons, List.nil_append]
  congr 1
  refine (eq_str.2 ?_).symm
  rw [Lib.extract_data]
  simp
theorem pieces_size (l w : List UInt8) : ∀ p ∈ sgo 32 w l, p.length ≤ w.length + l.length := by
  induction l generalizing w with
  | nil => intro p hp; rw [sgo, List.mem_singleton] at hp; rw [hp]; simp
  | cons c l ih =>
    intro p hp
    rw [sgo] at hp
    split at hp
    · rcases List.mem_cons.1 hp with hp | hp
      · rw [hp]; simp
      · have := ih [] p hp; simp at this ⊢; omega
    · have := ih _ p hp; simp at this ⊢; omega
theorem piece_size {s x : ByteArray} (h : x ∈ piecesS s) : x.size ≤ s.size := by
  unfold piecesS at h
  obtain ⟨p, hp, rfl⟩ := List.mem_map.1 h
  have := pieces_size _ _ p hp
  rw [str_size]
  simpa using this
def leftOf (C : Nat) (W : World) : Nat := match W.cell? ⟨C, 0, none⟩ with | some (.string t) => t.size | _ => 0
theorem leftOf_eq {C : Nat} {W : World} {t : ByteArray} (h : W.cell? ⟨C, 0, none⟩ = some (.string t)) : leftOf C W = t.size := by unfold leftOf; rw [h]
structure SplitAt (C : Nat) (t : ByteArray) (W : World) : Prop where
  b0 : W.heap[C]? = some (.cells #[.string t] 9 (0, 0))
  b1 : W.heap[C + 1]? = some (.cells #[.string ⟨#[32]⟩] 9 (0, 0))
  b2 : W.heap[C + 2]? = some (.cells #[.int .i64 0] 3 (0, 0))
theorem SplitAt.cells {C : Nat} {t : ByteArray} {W : World} (h : SplitAt C t W) : W.cell? ⟨C, 0, none⟩ = some (.string t) ∧ W.frozen? ⟨C, 0, none⟩ = false ∧ W.cell? ⟨C + 1, 0, none⟩ = some (.string ⟨#[32]⟩) ∧ W.cell? ⟨C + 2, 0, none⟩ = some (.int .i64 0) := by
  obtain ⟨b0, b1, b2⟩ := h
  exact ⟨Boxed.cell b0, Boxed.frozen b0, Boxed.cell b1, Boxed.cell b2⟩
theorem SplitAt.kept {C : Nat} {t : ByteArray} {W W' : World} (h : SplitAt C t W) (k : Kept C (C + 3) W W') : SplitAt C t W' :=
  ⟨(k C (by omega) (by omega)).trans h.b0, (k (C + 1) (by omega) (by omega)).trans h.b1, (k (C + 2) (by omega) (by omega)).trans h.b2⟩
theorem SplitAt.below {C B : Nat} {t : ByteArray} {W W' : World} (h : SplitAt C t W) (k : Below B W W') (hB : C + 3 ≤ B) : SplitAt C t W' :=
  ⟨(k.block C (by omega)).trans h.b0, (k.block (C + 1) (by omega)).trans h.b1, (k.block (C + 2) (by omega)).trans h.b2⟩
theorem SplitAt.set_ {C : Nat} {t : ByteArray} {W : World} (h : SplitAt C t W) (u : ByteArray) : SplitAt C u (W.setCell ⟨C, 0, none⟩ (.string u)) :=
  ⟨Boxed.set _ h.b0, (Below.heap_setCell W ⟨C, 0, none⟩ _ (C + 1) (by simp)).trans h.b1, (Below.heap_setCell W ⟨C, 0, none⟩ _ (C + 2) (by simp)).trans h.b2⟩
set_option maxRecDepth 100000 in
set_option maxHeartbeats 4000000 in
theorem split_seq (n : Nat) (hn : 1 ≤ n) (C : Nat) (s : ByteArray) (hs : s.size ≤ maxLen) (w : World) (hC : C + 3 ≤ w.heap.size) (h : SplitAt C s w) :
    SeqC Fence.wide n Tryz.prog 124 #[.pointer (some ⟨C + 1, 0, none⟩), .pointer (some ⟨C, 0, none⟩), .pointer (some ⟨C + 2, 0, none⟩)] (fun x => .string x) C (C + 3) (piecesS s) w := by
  unfold maxLen at hs
  intro l J Jx W hW hJ hJx hY h0
  have h1 := h.below hW hC
  refine callsIn_of_wp Tryz.func124 rfl trivial ?_ rfl
  simp only [Tryz.ntmps124, List.size_toArray, List.length_cons, List.length_nil, Nat.reduceAdd, Nat.reduceSub, Array.replicate_succ, Array.replicate_zero, List.push_toArray, List.append_toArray, List.nil_append, List.cons_append]
  obtain ⟨c0, f0, c1, c2⟩ := h1.cells
  have H1 := Lib.hid h1
  clear h1
  gi_wp2
  gi_loopw [7] (fun v wr => ∃ (pre : List ByteArray) (rest : ByteArray), rest.size ≤ s.size ∧ Hid (piecesS s = pre ++ piecesS rest) ∧ Hid (SplitAt C rest wr) ∧ Hid (J pre wr)) (fun v wr => leftOf C wr)
  case atStart => exact ⟨[], s, Nat.le_refl _, rfl, H1, h0⟩
  case round =>
    obtain ⟨pre, rest, hle, hp, hat, hj⟩ := hrel
    obtain ⟨d0, g0, d1, d2⟩ := hat.out.cells
    have hidx := Lib.indexByte_ge rest.data.toList 32
    by_cases hix : Lib.indexByte rest.data.toList 32 = -1
    · have hps := pieces_none hix
      obtain ⟨fn, tmps, assign, body, hy, hR⟩ := hY pre rest [] wr (by rw [hp.out, hps]) hj.out
      have HX := Lib.hid hix
      have HP := Lib.hid (hp.out.trans (by rw [hps]))
      clear hix hps hidx
      gi_wp2_with (refine ⟨trivial, ?_⟩; gi_at_call 126; refine (callsIn_wide.2 (Tryz.strings_Index_one _ _ _)).mono ?_; rintro e w' ⟨rfl, rfl⟩; rw [HX.out])
      refine hR.mono ?_
      rintro e W' (⟨rfl, hJ', hk⟩ | ⟨rfl, hJx'⟩)
      · gi_wp2
        go_end0
        exact ⟨⟨_, rfl⟩, .inl (by rw [HP.out]; exact hJ')⟩
      · gi_wp2
        go_end0
        exact ⟨⟨_, rfl⟩, .inr ⟨_, ⟨[], by rw [HP.out]; simp⟩, hJx'⟩⟩
    · obtain ⟨i, hi⟩ : ∃ i : Nat, Lib.indexByte rest.data.toList 32 = i := ⟨(Lib.indexByte rest.data.toList 32).toNat, by omega⟩
      obtain ⟨hlt, hps⟩ := pieces_some hi
      obtain ⟨fn, tmps, assign, body, hy, hR⟩ := hY pre (rest.extract 0 i) (piecesS (rest.extract (i + 1) rest.size)) wr (by rw [hp.out, hps]) hj.out
      have HX := Lib.hid hi
      have HP := Lib.hid (hp.out.trans (by rw [hps]))
      clear hix hps hidx hi
      have k0 : (0 : Int) ≤ (i : Int) := by omega
      have k1 : (i : Int) ≤ (rest.size : Int) := by omega
      have k2 : (0 : Int) ≤ (i : Int) + 1 := by omega
      have k3 : (i : Int) + 1 ≤ (rest.size : Int) := by omega
      gi_wp2_with (refine ⟨trivial, ?_⟩; gi_at_call 126; refine (callsIn_wide.2 (Tryz.strings_Index_one _ _ _)).mono ?_; rintro e w' ⟨rfl, rfl⟩; rw [HX.out])
      refine hR.mono ?_
      rintro e W' (⟨rfl, hJ', hk⟩ | ⟨rfl, hJx'⟩)
      · have hat' := hat.out.kept hk
        obtain ⟨m0, m1, m2, m3⟩ := hat'.cells
        have Hset := Lib.hid (hat'.set_ (rest.extract (i + 1) rest.size))
        have HJ2 := Lib.hid (hJ _ _ _ hJ' (grownBy_setCell' W' C (.string (rest.extract (i + 1) rest.size))))
        have hsz : (rest.extract (i + 1) rest.size).size = rest.size - (i + 1) := by rw [ByteArray.size_extract]; omega
        have hl0 := leftOf_eq d0
        have hl1 := leftOf_eq Hset.out.cells.1
        rw [hsz] at hl1
        have hle2 : (rest.extract (i + 1) rest.size).size ≤ s.size := by omega
        have HL0 := Lib.hid hl0
        have HL1 := Lib.hid hl1
        clear hat' hl0 hl1 hsz hJ' hk
        gi_wp2
        go_roundw
        case rel => exact ⟨pre ++ [rest.extract 0 i], rest.extract (i + 1) rest.size, hle2, Lib.hid (by rw [HP.out]; simp), Hset, HJ2⟩
        case measure => rw [HL0.out, HL1.out]; omega
      · gi_wp2
        refine bodyPost_ret (results_none rfl _ _ _) rfl ?_
        exact ⟨⟨_, rfl⟩, .inr ⟨_, ⟨piecesS (rest.extract (i + 1) rest.size), by rw [HP.out]; simp⟩, hJx'⟩⟩
end Go.Proofs.YtadifolonbkamaaGreatDoor
