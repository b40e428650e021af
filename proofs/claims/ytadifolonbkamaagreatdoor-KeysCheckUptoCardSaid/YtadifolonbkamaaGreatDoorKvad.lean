/- A text parted at each of one byte, on plain lists. It speaks of no code. Lines of unit files on plain lists of bytes: ho -/
import Derived.Below
import Derived.Test.YtadifolonbkamaaGreatDoorKvaa
import Derived.Test.YtadifolonbkamaaGreatDoorKvab
import Derived.Laws.AppendOwn
import Derived.Deep.AppendLies
import Derived.RangeFuncBox
import Derived.Test.YtadifolonbkamaaGreatDoorKvac
import Derived.Lib.CutLaws
import Derived.Deep.QuietTactic
namespace Go.Proofs.YtadifolonbkamaaGreatDoor
def sgo (by_ : UInt8) : List UInt8 → List UInt8 → List (List UInt8)
  | w, [] => [w]
  | w, c :: r => if c = by_ then w :: sgo by_ [] r else sgo by_ (w ++ [c]) r
def splitL (by_ : UInt8) (l : List UInt8) : List (List UInt8) := sgo by_ [] l
theorem sgo_plain (by_ : UInt8) (l w : List UInt8) (h : by_ ∉ l) (r : List UInt8) : sgo by_ w (l ++ r) = sgo by_ (w ++ l) r := by
  induction l generalizing w with
  | nil => simp
  | cons c l ih =>
    rw [List.cons_append, sgo, if_neg (by rintro rfl; exact h (by simp)), ih _ (fun hc => h (by simp [hc]))]
    simp
theorem split_one {by_ : UInt8} {l : List UInt8} (h : by_ ∉ l) : splitL by_ l = [l] := by
  have := sgo_plain by_ l [] h []
  rw [List.append_nil] at this
  unfold splitL
  rw [this]; rfl
theorem split_cons {by_ : UInt8} {l : List UInt8} (h : by_ ∉ l) (r : List UInt8) : splitL by_ (l ++ by_ :: r) = l :: splitL by_ r := by
  unfold splitL
  rw [sgo_plain by_ l [] h, List.nil_append, sgo, if_pos rfl]
theorem sgo_mem (by_ : UInt8) (l w : List UInt8) {c : UInt8} (hc : c ≠ by_) (h : c ∈ w ++ l) : ∃ v ∈ sgo by_ w l, c ∈ v := by
  induction l generalizing w with
  | nil => exact ⟨w, by simp [sgo], by simpa using h⟩
  | cons x l ih =>
    rw [sgo]
    by_cases hx : x = by_
    · rw [if_pos hx]
      rcases List.mem_append.1 h with h | h
      · exact ⟨w, by simp, h⟩
      · rcases List.mem_cons.1 h with h | h
        · exact absurd (h.trans hx) hc
        · obtain ⟨v, hv, hcv⟩ := ih [] (by simpa using h)
          exact ⟨v, by simp [hv], hcv⟩
    · rw [if_neg hx]
      exact ih (w ++ [x]) (by simpa using h)
theorem split_mem {by_ : UInt8} {l : List UInt8} {c : UInt8} (hc : c ≠ by_) (h : c ∈ l) : ∃ v ∈ splitL by_ l, c ∈ v := sgo_mem by_ l [] hc (by simpa using h)
end Go.Proofs.YtadifolonbkamaaGreatDoor
namespace Go.Proofs.YtadifolonbkamaaGreatDoor
def blkL (c : UInt8) : Bool := c == 32 || c == 9
def ltrim (l : List UInt8) : List UInt8 := l.dropWhile blkL
def rtrim (l : List UInt8) : List UInt8 := (l.reverse.dropWhile blkL).reverse
def trimL (l : List UInt8) : List UInt8 := rtrim (ltrim l)
def remL (l : List UInt8) : Bool := match ltrim l with | [] => false | c :: _ => c == 35 || c == 59
def skipR (r : List UInt8) : Bool := decide (trimL r = []) || remL r
structure Ln where
  s : List UInt8
  k : List UInt8
  v : List UInt8
  n : Int
deriving DecidableEq
def headP (sec s : List UInt8) : List (List UInt8) := if s = sec then [] else (if sec = [] then [] else [[]]) ++ [91 :: (s ++ [93])]
def numL : Nat → List (List UInt8) → List (List UInt8 × Nat)
  | _, [] => []
  | i, r :: rs => if skipR r = true then numL (i + 1) rs else (r, i) :: numL (i + 1) rs
end Go.Proofs.YtadifolonbkamaaGreatDoor
namespace Go.Proofs.YtadifolonbkamaaGreatDoor
open Go.RowKit
def Blk (w : World) (g : Nat) (t : TypeId) (cs : Array Value) : Prop := w.heap[g]? = some (.cells cs t (0, 0))
section
variable {w w' : World} {g : Nat} {t : TypeId} {cs : Array Value}
theorem Blk.lt (h : Blk w g t cs) : g < w.heap.size := by
  rcases Nat.lt_or_ge g w.heap.size with hlt | hge
  · exact hlt
  · unfold Blk at h; rw [Array.getElem?_eq_none hge] at h; cases h
theorem Blk.cell (h : Blk w g t cs) (i : Nat) : w.cell? ⟨g, i, none⟩ = cs[i]? := cell_of_row w g i cs t (0, 0) h
theorem Blk.frozen (h : Blk w g t cs) (i : Nat) : w.frozen? ⟨g, i, none⟩ = false := by
  unfold Blk at h
  simp [World.frozen?, h]
theorem Blk.new (w : World) (t : TypeId) (cs : Array Value) : Blk (w.alloc (.cells cs t)) w.heap.size t cs := heap_alloc_new w _
theorem Blk.drewN (h : Blk w g t cs) (n : Nat) : Blk (w.drewN n) g t cs := h
theorem Blk.drew (h : Blk w g t cs) : Blk w.drew g t cs := h
theorem Blk.alloc (h : Blk w g t cs) (o : Obj) : Blk (w.alloc o) g t cs := (Below.heap_alloc w o g h.lt).trans h
theorem Blk.below {B : Nat} (h : Blk w g t cs) (hb : Below B w w') (hg : g < B) : Blk w' g t cs := (hb.block g hg).trans h
theorem Blk.setCell (h : Blk w g t cs) (i : Nat) (u : Value) : Blk (w.setCell ⟨g, i, none⟩ u) g t (cs.setIfInBounds i u) := by
  unfold Blk at h ⊢
  simp [World.setCell, Array.getElem?_modify, h]
theorem Blk.setOther (h : Blk w g t cs) {a : Addr} (ha : g ≠ a.block) (u : Value) : Blk (w.setCell a u) g t cs := (Below.heap_setCell w a u g ha).trans h
theorem Blk.grown {row : Option Nat} (h : Blk w g t cs) (hb : w.grownBy w' row) (hg : some g ≠ row) : Blk w' g t cs := (hb.block g h.lt hg).trans h
end
theorem more3 {B : Nat} {a b c : World} (h : Below B a b) (hB : B ≤ b.heap.size) (h2 : Below b.heap.size b c) : Below B a c := h.trans (h2.mono hB)
section
variable {a w w' : World} {row : Option Nat}
theorem only_setCell {g : Nat} (h : a.grownBy w (some g)) {p : Addr} (hp : p.block = g ∨ a.heap.size ≤ p.block) (u : Value) : a.grownBy (w.setCell p u) (some g) :=
  ⟨h.os, h.tape, h.output, by simpa [World.setCell] using h.size, fun i hi hne => (Below.heap_setCell w p u i (by
    rintro rfl
    rcases hp with hp | hp
    · exact hne (by rw [hp])
    · omega)).trans (h.block i hi hne)⟩
end
theorem own_below {base size n : Nat} {e : TypeId} {X Y : World} {v : Value} {xs : List Value} (h : X.ownsRow base e size v n xs) (hb : Below X.heap.size X Y) : Y.ownsRow base e size v n xs := by
  obtain ⟨q1, q2⟩ := h
  refine ⟨q1, ?_⟩
  rcases q2 with q2 | ⟨g, cap, cur, hv, hg, hbk, hr⟩
  · exact .inl q2
  · exact .inr ⟨g, cap, cur, hv, hg, Blk.below (t := e) (cs := cur) hbk hb (Array.getElem?_eq_some_iff.1 hbk).1, hr⟩
theorem own_set {base size n : Nat} {e : TypeId} {X : World} {v u : Value} {xs : List Value} {a : Addr} (h : X.ownsRow base e size v n xs) (ha : a.block < base) : (X.setCell a u).ownsRow base e size v n xs := by
  obtain ⟨q1, q2⟩ := h
  refine ⟨q1, ?_⟩
  rcases q2 with q2 | ⟨g, cap, cur, hv, hg, hbk, hr⟩
  · exact .inl q2
  · exact .inr ⟨g, cap, cur, hv, hg, (Blk.setOther (t := e) (cs := cur) hbk (by omega) u), hr⟩
def RowAt (w : World) (B : Nat) (A : Option Addr) (n : Nat) (l : List (List UInt8)) : Prop :=
  l.length = n ∧ n ≤ maxLen ∧ (0 < n → ∃ ad, A = some ad ∧ ad.block < B ∧ ∀ j x, l[j]? = some x → w.cell? (ad.add j) = some (.string (str x)))
theorem RowAt.none_ {w : World} {B : Nat} {A : Option Addr} : RowAt w B A 0 [] := ⟨rfl, Nat.zero_le _, fun h => by omega⟩
theorem rowAt_of_own {w : World} {base n nv cv : Nat} {A : Option Addr} {l : List (List UInt8)} (h : w.ownsRow base 9 1 (.slice A nv cv) n (wcells l)) (hn : n ≤ maxLen) : nv = n ∧ n ≤ cv ∧ RowAt w w.heap.size A n l := by
  have hl : l.length = n := by have := h.1; rw [wcells_length] at this; omega
  rcases h.2 with ⟨h1, h2⟩ | ⟨g, cap, cur, h1, h2, h3, h4, h5, h6, h7⟩
  · injection h1 with h1 h11 h12
    subst h2
    exact ⟨h11, Nat.zero_le _, hl, Nat.zero_le _, fun h => by omega⟩
  · injection h1 with h1 h11 h12
    subst h1 h11 h12
    refine ⟨rfl, h4, hl, hn, fun _ => ⟨_, rfl, (Array.getElem?_eq_some_iff.1 h3).1, fun j x hj => ?_⟩⟩
    refine h.cells (g := g) rfl j _ ?_
    unfold wcells
    rw [List.getElem?_map, hj]
    rfl
theorem block_addR (a : Addr) (n : Nat) : (a.add n).block = a.block := by unfold Addr.add; split <;> rfl
theorem RowAt.below {w w' : World} {B n : Nat} {A : Option Addr} {l : List (List UInt8)} (h : RowAt w B A n l) (hb : Below B w w') : RowAt w' B A n l :=
  ⟨h.1, h.2.1, fun hn => by
    obtain ⟨ad, e, hB, hc⟩ := h.2.2 hn
    exact ⟨ad, e, hB, fun j x hj => (hb.cell (by rw [block_addR]; exact hB)).trans (hc j x hj)⟩⟩
theorem RowAt.wide {w : World} {B B' n : Nat} {A : Option Addr} {l : List (List UInt8)} (h : RowAt w B A n l) (hB : B ≤ B') : RowAt w B' A n l :=
  ⟨h.1, h.2.1, fun hn => by
    obtain ⟨ad, e, h2, hc⟩ := h.2.2 hn
    exact ⟨ad, e, by omega, hc⟩⟩
theorem RowAt.at_ {w : World} {B n : Nat} {A : Option Addr} {l : List (List UInt8)} (h : RowAt w B A n l) {k : Nat} (hk : k < n) : ∃ ad x, A = some ad ∧ ad.block < B ∧ l[k]? = some x ∧ w.cell? (ad.add k) = some (.string (str x)) := by
  obtain ⟨ad, e, hB, hc⟩ := h.2.2 (by omega)
  have hl : k < l.length := by have := h.1; omega
  exact ⟨ad, l[k], e, hB, List.getElem?_eq_getElem hl, hc k _ (List.getElem?_eq_getElem hl)⟩
theorem RowAt.drewN {w : World} {B n : Nat} {A : Option Addr} {l : List (List UInt8)} (h : RowAt w B A n l) (j : Nat) : RowAt (w.drewN j) B A n l := h
end Go.Proofs.YtadifolonbkamaaGreatDoor
namespace Go.Proofs.YtadifolonbkamaaGreatDoor
structure Ky where
  s : List UInt8
  n : List UInt8
  f : Int
  l : Bool
  k : Int
  w : List (List UInt8)
deriving DecidableEq
def Ky.into (s : List UInt8) (k : Int) (x : Ky) : Ky := ⟨s, x.n, x.f, x.l, k, x.w⟩
def noKy : Ky := ⟨[], [], 0, false, 0, []⟩
def nUnit : List UInt8 := [85, 110, 105, 116]
def tUnit : List Ky := [⟨[], [68, 101, 115, 99, 114, 105, 112, 116, 105, 111, 110], 1, false, 0, []⟩,
  ⟨[], [68, 101, 102, 97, 117, 108, 116, 68, 101, 112, 101, 110, 100, 101, 110, 99, 105, 101, 115], 2, false, 0, []⟩,
  ⟨[], [82, 101, 113, 117, 105, 114, 101, 115], 6, true, 0, []⟩,
  ⟨[], [87, 97, 110, 116, 115], 6, true, 0, []⟩,
  ⟨[], [82, 101, 113, 117, 105, 115, 105, 116, 101], 6, true, 0, []⟩,
  ⟨[], [66, 105, 110, 100, 115, 84, 111], 6, true, 0, []⟩,
  ⟨[], [80, 97, 114, 116, 79, 102], 6, true, 0, []⟩,
  ⟨[], [67, 111, 110, 102, 108, 105, 99, 116, 115], 6, true, 0, []⟩,
  ⟨[], [66, 101, 102, 111, 114, 101], 6, true, 0, []⟩,
  ⟨[], [65, 102, 116, 101, 114], 6, true, 0, []⟩,
  ⟨[], [79, 110, 70, 97, 105, 108, 117, 114, 101], 6, true, 0, []⟩,
  ⟨[], [83, 116, 97, 114, 116, 76, 105, 109, 105, 116, 73, 110, 116, 101, 114, 118, 97, 108, 83, 101, 99], 4, false, 0, []⟩,
  ⟨[], [83, 116, 97, 114, 116, 76, 105, 109, 105, 116, 66, 117, 114, 115, 116], 3, false, 0, []⟩]
def uUnit : List Ky := tUnit.map (Ky.into nUnit 30)
def nServ : List UInt8 := [83, 101, 114, 118, 105, 99, 101]
def tServ : List Ky := [⟨[], [84, 121, 112, 101], 10, false, 0, [[115, 105, 109, 112, 108, 101], [111, 110, 101, 115, 104, 111, 116], [110, 111, 116, 105, 102, 121]]⟩,
  ⟨[], [69, 120, 101, 99, 83, 116, 97, 114, 116, 80, 114, 101], 7, true, 0, []⟩,
  ⟨[], [69, 120, 101, 99, 83, 116, 97, 114, 116], 7, true, 0, []⟩,
  ⟨[], [69, 120, 101, 99, 83, 116, 97, 114, 116, 80, 111, 115, 116], 7, true, 0, []⟩,
  ⟨[], [69, 120, 101, 99, 83, 116, 111, 112], 7, true, 0, []⟩,
  ⟨[], [69, 120, 101, 99, 82, 101, 108, 111, 97, 100], 7, true, 0, []⟩,
  ⟨[], [82, 101, 109, 97, 105, 110, 65, 102, 116, 101, 114, 69, 120, 105, 116], 2, false, 0, []⟩,
  ⟨[], [82, 101, 115, 116, 97, 114, 116], 10, false, 0, [[110, 111], [111, 110, 45, 115, 117, 99, 99, 101, 115, 115], [111, 110, 45, 102, 97, 105, 108, 117, 114, 101], [111, 110, 45, 97, 98, 110, 111, 114, 109, 97, 108], [97, 108, 119, 97, 121, 115]]⟩,
  ⟨[], [82, 101, 115, 116, 97, 114, 116, 83, 101, 99], 4, false, 0, []⟩,
  ⟨[], [84, 105, 109, 101, 111, 117, 116, 83, 116, 97, 114, 116, 83, 101, 99], 4, false, 0, []⟩,
  ⟨[], [84, 105, 109, 101, 111, 117, 116, 83, 116, 111, 112, 83, 101, 99], 4, false, 0, []⟩,
  ⟨[], [83, 117, 99, 99, 101, 115, 115, 69, 120, 105, 116, 83, 116, 97, 116, 117, 115], 11, true, 0, []⟩,
  ⟨[], [69, 110, 118, 105, 114, 111, 110, 109, 101, 110, 116], 8, true, 0, []⟩,
  ⟨[], [83, 111, 99, 107, 101, 116, 115], 6, true, 0, []⟩]
def uServ : List Ky := tServ.map (Ky.into nServ 2)
def nSock : List UInt8 := [83, 111, 99, 107, 101, 116]
def tSock : List Ky := [⟨[], [76, 105, 115, 116, 101, 110, 83, 116, 114, 101, 97, 109], 11, true, 0, []⟩,
  ⟨[], [66, 97, 99, 107, 108, 111, 103], 3, false, 0, []⟩,
  ⟨[], [70, 105, 108, 101, 68, 101, 115, 99, 114, 105, 112, 116, 111, 114, 78, 97, 109, 101], 1, false, 0, []⟩,
  ⟨[], [83, 101, 114, 118, 105, 99, 101], 5, false, 0, []⟩]
def uSock : List Ky := tSock.map (Ky.into nSock 4)
def nTime : List UInt8 := [84, 105, 109, 101, 114]
def tTime : List Ky := [⟨[], [79, 110, 66, 111, 111, 116, 83, 101, 99], 4, true, 0, []⟩,
  ⟨[], [79, 110, 65, 99, 116, 105, 118, 101, 83, 101, 99], 4, true, 0, []⟩,
  ⟨[], [79, 110, 85, 110, 105, 116, 73, 110, 97, 99, 116, 105, 118, 101, 83, 101, 99], 4, true, 0, []⟩,
  ⟨[], [79, 110, 67, 97, 108, 101, 110, 100, 97, 114], 9, true, 0, []⟩,
  ⟨[], [80, 101, 114, 115, 105, 115, 116, 101, 110, 116], 2, false, 0, []⟩,
  ⟨[], [85, 110, 105, 116], 5, false, 0, []⟩]
def uTime : List Ky := tTime.map (Ky.into nTime 8)
def nInst : List UInt8 := [73, 110, 115, 116, 97, 108, 108]
def tInst : List Ky := [⟨[], [87, 97, 110, 116, 101, 100, 66, 121], 6, true, 0, []⟩,
  ⟨[], [82, 101, 113, 117, 105, 114, 101, 100, 66, 121], 6, true, 0, []⟩,
  ⟨[], [65, 108, 105, 97, 115], 6, true, 0, []⟩,
  ⟨[], [65, 108, 115, 111], 6, true, 0, []⟩,
  ⟨[], [68, 101, 102, 97, 117, 108, 116, 73, 110, 115, 116, 97, 110, 99, 101], 1, false, 0, []⟩]
def uInst : List Ky := tInst.map (Ky.into nInst 30)
def keysT (s : List UInt8) : List Ky :=
  if s = nUnit then uUnit else if s = nServ then uServ else if s = nSock then uSock else if s = nTime then uTime else if s = nInst then uInst else []
def allT : List Ky := uUnit ++ uServ ++ uSock ++ uTime ++ uInst
def namedT (l : List Ky) (n : List UInt8) : Option Ky := l.find? fun x => decide (x.n = n)
def findT (s n : List UInt8) : Option Ky := namedT (keysT s) n
def isForK (k kind : Int) : Bool := decide (0 ≤ kind) && k.toNat.testBit (min kind.toNat 64)
def isForT (x : Ky) (kind : Int) : Bool := isForK x.k kind
theorem keysT_k (s : List UInt8) : ∀ x ∈ keysT s, x.k ∈ ([2, 4, 8, 30] : List Int) := by
  unfold keysT
  repeat' split
  all_goals decide
def oftenT (s : List UInt8) (kind : Int) : Bool := (keysT s).any fun x => isForT x kind
theorem allT_len : allT.length = 42 := by decide
end Go.Proofs.YtadifolonbkamaaGreatDoor
namespace Go.Proofs.YtadifolonbkamaaGreatDoor
open Go.RowKit
def cutX (c : UInt8) : List UInt8 → List UInt8 × List UInt8 × Bool
  | [] => ([], [], false)
  | x :: r => if x = c then ([], r, true) else (x :: (cutX c r).1, (cutX c r).2.1, (cutX c r).2.2)
theorem cutX_no {c : UInt8} {l : List UInt8} (h : (cutX c l).2.2 = false) : c ∉ l ∧ (cutX c l).1 = l := by
  induction l with
  | nil => exact ⟨by simp, rfl⟩
  | cons x l ih =>
    rw [cutX] at h ⊢
    by_cases hx : x = c
    · rw [if_pos hx] at h; cases h
    · rw [if_neg hx] at h ⊢
      obtain ⟨h1, h2⟩ := ih h
      refine ⟨?_, by rw [h2]⟩
      rw [List.mem_cons]
      rintro (e | e)
      · exact hx e.symm
      · exact h1 e
theorem cutX_yes {c : UInt8} {l : List UInt8} (h : (cutX c l).2.2 = true) : c ∉ (cutX c l).1 ∧ l = (cutX c l).1 ++ c :: (cutX c l).2.1 := by
  induction l with
  | nil => cases h
  | cons x l ih =>
    rw [cutX] at h ⊢
    by_cases hx : x = c
    · rw [if_pos hx]; exact ⟨by simp, by rw [hx]; rfl⟩
    · rw [if_neg hx] at h ⊢
      obtain ⟨h1, h2⟩ := ih h
      refine ⟨?_, by simpa using h2⟩
      rw [List.mem_cons]
      rintro (e | e)
      · exact hx e.symm
      · exact h1 e
theorem cut_cutX (c : UInt8) (l : List UInt8) : Lib.cut l [c] = cutX c l := by
  induction l with
  | nil => rfl
  | cons x l ih =>
    have hge := Lib.index_ge l [c]
    have hp : ([c].isPrefixOf (x :: l)) = decide (x = c) := by
      rw [Bool.eq_iff_iff]; simp [List.isPrefixOf]; exact eq_comm
    rw [cutX]
    unfold Lib.cut at ih ⊢
    have e : Lib.index (x :: l) [c] = if x = c then 0 else if Lib.index l [c] = -1 then -1 else Lib.index l [c] + 1 := by
      rw [Lib.index, hp]
      by_cases h : x = c <;> simp [h]
    by_cases hx : x = c
    · rw [e, if_pos hx, if_pos hx]; rfl
    · rw [e, if_neg hx, if_neg hx, ← ih]
      by_cases h1 : Lib.index l [c] = -1
      · rw [if_pos h1, if_neg (by omega), if_neg (by omega)]
      · rw [if_neg h1, if_pos (by omega), if_pos (by omega)]
        have e2 : (Lib.index l [c] + 1).toNat = (Lib.index l [c]).toNat + 1 := by omega
        rw [e2]; rfl
def cutA (c : UInt8) (s : ByteArray) : ByteArray := str (cutX c s.data.toList).1
def cutB (c : UInt8) (s : ByteArray) : ByteArray := str (cutX c s.data.toList).2.1
def cutF (c : UInt8) (s : ByteArray) : Bool := (cutX c s.data.toList).2.2
theorem cutC_no {c : UInt8} {s : ByteArray} (h : cutF c s = false) : c ∉ s.data.toList ∧ cutA c s = s := by
  obtain ⟨h1, h2⟩ := cutX_no h
  exact ⟨h1, by unfold cutA; rw [h2, str_data]⟩
theorem cutC_yes {c : UInt8} {s : ByteArray} (h : cutF c s = true) : c ∉ (cutA c s).data.toList ∧ s.data.toList = (cutA c s).data.toList ++ c :: (cutB c s).data.toList ∧ (cutA c s).size + (cutB c s).size + 1 = s.size := by
  obtain ⟨h1, h2⟩ := cutX_yes h
  refine ⟨h1, h2, ?_⟩
  have := congrArg List.length h2
  rw [size_list] at this
  rw [this, List.length_append, List.length_cons]
  rfl
set_option maxHeartbeats 2000000 in
set_option maxRecDepth 100000 in
theorem liteCut_c (c : UInt8) (s : ByteArray) (hs : s.size ≤ maxLen) (w : World) :
    Calls Tryz.prog 138 #[.string s, .string ⟨#[c]⟩] w fun e w' => e = .returned (.tuple #[.string (cutA c s), .string (cutB c s), .bool (cutF c s)]) ∧ ∃ n, w' = w.drewN n := by
  unfold maxLen at hs
  have hi1 : Lib.indexByte s.data.toList c = Lib.indexB s ⟨#[c]⟩ := (Lib.index_one s.data.toList c).symm
  have hcut : Lib.cut s.data.toList (⟨#[c]⟩ : ByteArray).data.toList = cutX c s.data.toList := cut_cutX c s.data.toList
  rcases Lib.indexB_cases s ⟨#[c]⟩ with hix | ⟨i, hix, hroom⟩
  · obtain ⟨e1, e2, e3⟩ := Lib.cutB_miss s ⟨#[c]⟩ hix
    rw [hcut] at e1 e2 e3
    have E1 : cutA c s = _ := e1
    have E2 : cutB c s = _ := e2
    have E3 : cutF c s = _ := e3
    rw [E1, E2, E3]
    rw [hix] at hi1
    clear e1 e2 e3 E1 E2 E3 hix hcut
    have H := Lib.hid hi1
    clear hi1
    go_enter Tryz.func138, Tryz.ntmps138
    go_wp2_with (go_at_call 145; refine (Tryz.stringslite_Index_one _ _ _).mono ?_; rintro e w' ⟨rfl, rfl⟩; rw [H.out])
    go_ret3
    exact ⟨rfl, 0, rfl⟩
  · obtain ⟨e1, e2, e3⟩ := Lib.cutB_hit s ⟨#[c]⟩ i hix
    rw [hcut] at e1 e2 e3
    have E1 : cutA c s = _ := e1
    have E2 : cutB c s = _ := e2
    have E3 : cutF c s = _ := e3
    rw [E1, E2, E3]
    rw [hix] at hi1
    clear e1 e2 e3 E1 E2 E3 hix hcut
    have hsz : (⟨#[c]⟩ : ByteArray).size = 1 := rfl
    rw [hsz] at hroom ⊢
    clear hsz
    have H := Lib.hid hi1
    clear hi1
    have c1 : (0 : Int) ≤ ↑i := by omega
    have c2 : (↑i : Int) ≤ ↑s.size := by omega
    have c3 : (0 : Int) ≤ ↑i + 1 := by omega
    have c4 : (↑i + 1 : Int) ≤ ↑s.size := by omega
    go_enter Tryz.func138, Tryz.ntmps138
    go_wp2_with (go_at_call 145; refine (Tryz.stringslite_Index_one _ _ _).mono ?_; rintro e w' ⟨rfl, rfl⟩; rw [H.out])
    go_region
    go_wp2
    go_ret3
    exact ⟨rfl, 1, rfl⟩
set_option maxHeartbeats 1000000 in
theorem cut_c (c : UInt8) (s : ByteArray) (hs : s.size ≤ maxLen) (w : World) :
    Calls Tryz.prog 112 #[.string s, .string ⟨#[c]⟩] w fun e w' => e = .returned (.tuple #[.string (cutA c s), .string (cutB c s), .bool (cutF c s)]) ∧ ∃ n, w' = w.drewN n := by
  go_enter Tryz.func112, Tryz.ntmps112
  go_wp2_with (go_at_call 138; refine (liteCut_c _ _ hs _).mono ?_; rintro e w' ⟨rfl, n, rfl⟩)
  go_ret3
  exact ⟨rfl, n, rfl⟩
end Go.Proofs.YtadifolonbkamaaGreatDoor
namespace Go.Proofs.YtadifolonbkamaaGreatDoor
open Go.RowKit
theorem Digit_any (c : UInt8) (w : World) :
    Calls Tryz.prog 57 #[.int .u8 c.toNat] w fun e w' => e = .returned (.bool (isDig c)) ∧ w = w' := by
  have hr := c.toNat_lt
  by_cases h1 : c.toNat < 48
  · have HD := Lib.hid (show isDig c = false by unfold isDig; simp; omega)
    have h1' : (c.toNat : Int) < 48 := by omega
    go_enter Tryz.func57, Tryz.ntmps57
    go_wp2
    go_ret
    exact ⟨ret_bool HD.out.symm, rfl⟩
  · have h1' : (48 : Int) ≤ (c.toNat : Int) := by omega
    by_cases h2 : c.toNat ≤ 57
    · have HD := Lib.hid (show isDig c = true by unfold isDig; simp; omega)
      have h2' : (c.toNat : Int) ≤ 57 := by omega
      clear h1
      go_enter Tryz.func57, Tryz.ntmps57
      go_wp2
      go_ret
      exact ⟨ret_bool HD.out.symm, rfl⟩
    · have HD := Lib.hid (show isDig c = false by unfold isDig; simp; omega)
      have h2' : (57 : Int) < (c.toNat : Int) := by omega
      clear h1 h2
      go_enter Tryz.func57, Tryz.ntmps57
      go_wp2
      go_ret
      exact ⟨ret_bool (by rw [HD.out]; simp; omega), rfl⟩
end Go.Proofs.YtadifolonbkamaaGreatDoor
