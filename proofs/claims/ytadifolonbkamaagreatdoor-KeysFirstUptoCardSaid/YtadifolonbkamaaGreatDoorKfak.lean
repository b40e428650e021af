/- The walk of package name's parse. The walks of package name over parse: join, isTemplate, May, Kind, Parts. The walks of package name's Template, Instance, Change. The walk of package name's Escape. The walks of package name's hexByte and Unescape. The walks of the document's own small functions: plain, nameByte, Suffix, Hex, HexByte. The walk of package name's Unescape. What a name's pieces are, plainly: put together again they are the name. What parsing gives of pieces that were put together, plainly. The walk of the law's own shown. NamePieces: every text is no unit name, with no pieces, or it is its pieces put together again and its prefix is not empty. For every string. The walk of the document's own Of: its three loops. NameTurn: an instance's template, with its instance string, is that instance; a name changed to another kind and back is what it was, and it cannot be changed only if it is no name, the kind is none, or it is longer than 53 bytes. For every string and every int. The walks of the document's own May, IsTemplate, IsInstance, Make, Template, Instance, Change. -/
import Derived.Test.YtadifolonbkamaaGreatDoorKfaj
import Derived.Deep.QuietTactic
import Derived.Laws.StructEq
import Derived.Laws.BitsAllLaws
import Derived.Laws.BitsLemmas
import Derived.Test.YtadifolonbkamaaGreatDoorRows
import Derived.ProofKit
import Derived.OpenShut
import Derived.JoinedCond
import Derived.BigQuiet
namespace Go.Proofs.YtadifolonbkamaaGreatDoor.Nm
open Go.RowKit
/-- Where the last point is, or -1. -/
def pt (s : ByteArray) : Int := Lib.lastIndexByte s 46
/-- What is ahead of the last point, and what is behind it. -/
def headP (s : ByteArray) : ByteArray := s.extract 0 (pt s).toNat
def tailP (s : ByteArray) : ByteArray := s.extract ((pt s).toNat + 1) s.size
def goodP (s : ByteArray) : Bool := decide (s.size ≤ 60) && (decide (0 ≤ pt s) && (decide (kindS (tailP s) ≠ 0) && (decide ((cutAt (headP s)).1 ≠ []) && (bodyS (str (cutAt (headP s)).1) && bodyS (str (cutAt (headP s)).2.1)))))
theorem below_drewN {B : Nat} {a w : World} (h : Below B a w) (n : Nat) : Below B a (w.drewN n) := ⟨h.os, h.tape, h.output, h.size, h.block⟩
theorem pt_cases (s : ByteArray) : pt s = -1 ∨ ∃ i : Nat, i < s.size ∧ pt s = i := by
  rcases Lib.lastIndexByte_spec s 46 with ⟨h, _⟩ | ⟨i, hi, h, _⟩
  · exact .inl h
  · exact .inr ⟨i, hi, h⟩
theorem str_size (l : List UInt8) : (str l).size = l.length := rfl
theorem cutAt_size (s : ByteArray) : (str (cutAt s).1).size ≤ s.size ∧ (str (cutAt s).2.1).size ≤ s.size := by
  rw [str_size, str_size, Lib.size_eq]
  unfold cutAt Lib.cut
  split <;> simp <;> omega
set_option maxHeartbeats 1000000 in
theorem parse_good (s : ByteArray) (hs : s.size ≤ maxLen) (h : goodP s = true) (w : World) :
    Calls Tryz.prog 106 #[.string s] w fun e w' => e = .returned (.tuple #[.agg #[.string (str (cutAt (headP s)).1), .string (str (cutAt (headP s)).2.1), .bool (cutAt (headP s)).2.2, .int .i64 (kindS (tailP s))], .bool true]) ∧ Below w.heap.size w w' := by
  unfold goodP at h
  simp only [Bool.and_eq_true, decide_eq_true_eq] at h
  obtain ⟨h60, hpt, hk, hp, hb1, hb2⟩ := h
  rcases pt_cases s with h1 | ⟨i, hi, h1⟩
  · omega
  · have hH : headP s = s.extract 0 i := by unfold headP; rw [h1]; rfl
    have hT : tailP s = s.extract (i + 1) s.size := by unfold tailP; rw [h1]; rfl
    rw [hH] at hp hb1 hb2 ⊢
    rw [hT] at hk ⊢
    have h1' := Lib.hid h1
    clear h1 hpt hH hT
    obtain ⟨hc1, hc2⟩ := cutAt_size (s.extract 0 i)
    have hx : (s.extract 0 i).size ≤ maxLen := by rw [ByteArray.size_extract]; unfold maxLen at *; omega
    have hx1 : (str (cutAt (s.extract 0 i)).1).size ≤ maxLen := by omega
    have hx2 : (str (cutAt (s.extract 0 i)).2.1).size ≤ maxLen := by omega
    clear hc1 hc2
    unfold maxLen at hs
    have hk' : (kindS (s.extract (i + 1) s.size) == 0) = false := by simpa using hk
    have hp' : (str (cutAt (s.extract 0 i)).1).toList.isEmpty = false := by rw [Lib.toList_data]; simpa [str] using hp
    clear hk hp
    go_enter Tryz.func106, Tryz.ntmps106
    go_wp2_with fail
    refine (Tryz.strings_LastIndexByte _ _ (by omega) _).mono ?_
    rintro e w' ⟨rfl, rfl⟩
    rw [show Lib.lastIndexByte s 46 = _ from h1'.out]
    go_wp2_with fail
    refine (kindOf_any _ _).mono ?_
    rintro e w' ⟨rfl, rfl⟩
    go_wp2_with fail
    refine (cut_at _ hx _).mono ?_
    rintro e w' ⟨rfl, n, rfl⟩
    go_wp2_with fail
    refine (isBody_any _ hx1 _).mono ?_
    rintro e w' ⟨rfl, rfl⟩
    go_wp2_with fail
    refine (isBody_any _ hx2 _).mono ?_
    rintro e w' ⟨rfl, rfl⟩
    go_wp2_with fail
    refine bodyPost_ret (v := .tuple #[.agg #[.string (str (cutAt (s.extract 0 i)).1), .string (str (cutAt (s.extract 0 i)).2.1), .bool (cutAt (s.extract 0 i)).2.2, .int .i64 (kindS (s.extract (i + 1) s.size))], .bool true]) (by simp [results, Tryz.results106, go_sem]) rfl ⟨rfl, ?_⟩
    go_grown
    exact below_drewN ((Below.refl _ _).alloc (Nat.le_refl _) _) n
def noneV : Value := .tuple #[.agg #[.string ⟨#[]⟩, .string ⟨#[]⟩, .bool false, .int .i64 0], .bool false]
set_option maxHeartbeats 1000000 in
theorem parse_long (s : ByteArray) (hs : s.size ≤ maxLen) (h : 60 < s.size) (w : World) :
    Calls Tryz.prog 106 #[.string s] w fun e w' => e = .returned noneV ∧ Below w.heap.size w w' := by
  unfold maxLen at hs
  go_enter Tryz.func106, Tryz.ntmps106
  go_wp2
  refine bodyPost_ret (v := noneV) (by simp [results, Tryz.results106, go_sem, noneV]) rfl ⟨rfl, ?_⟩
  exact (Below.refl _ _).alloc (Nat.le_refl _) _
set_option maxHeartbeats 1000000 in
theorem parse_nopoint (s : ByteArray) (hs : s.size ≤ maxLen) (h : s.size ≤ 60) (hp : pt s = -1) (w : World) :
    Calls Tryz.prog 106 #[.string s] w fun e w' => e = .returned noneV ∧ Below w.heap.size w w' := by
  unfold maxLen at hs
  have h1' := Lib.hid hp
  clear hp
  go_enter Tryz.func106, Tryz.ntmps106
  go_wp2_with fail
  refine (Tryz.strings_LastIndexByte _ _ (by omega) _).mono ?_
  rintro e w' ⟨rfl, rfl⟩
  rw [show Lib.lastIndexByte s 46 = _ from h1'.out]
  go_wp2_with fail
  refine bodyPost_ret (v := noneV) (by simp [results, Tryz.results106, go_sem, noneV]) rfl ⟨rfl, ?_⟩
  exact (Below.refl _ _).alloc (Nat.le_refl _) _
set_option maxHeartbeats 1000000 in
theorem parse_nokind (s : ByteArray) (hs : s.size ≤ maxLen) (h60 : s.size ≤ 60) (i : Nat) (hi : i < s.size) (h1 : pt s = i) (hk : kindS (s.extract (i + 1) s.size) = 0) (w : World) :
    Calls Tryz.prog 106 #[.string s] w fun e w' => e = .returned noneV ∧ Below w.heap.size w w' := by
  have h1' := Lib.hid h1
  clear h1
  obtain ⟨hc1, hc2⟩ := cutAt_size (s.extract 0 i)
  have hx : (s.extract 0 i).size ≤ maxLen := by rw [ByteArray.size_extract]; unfold maxLen at *; omega
  have hx1 : (str (cutAt (s.extract 0 i)).1).size ≤ maxLen := by omega
  have hx2 : (str (cutAt (s.extract 0 i)).2.1).size ≤ maxLen := by omega
  clear hc1 hc2
  unfold maxLen at hs
  have hk' : (kindS (s.extract (i + 1) s.size) == 0) = true := by simpa using hk
  clear hk
  go_enter Tryz.func106, Tryz.ntmps106
  go_wp2_with fail
  refine (Tryz.strings_LastIndexByte _ _ (by omega) _).mono ?_
  rintro e w' ⟨rfl, rfl⟩
  rw [show Lib.lastIndexByte s 46 = _ from h1'.out]
  go_wp2_with fail
  refine (kindOf_any _ _).mono ?_
  rintro e w' ⟨rfl, rfl⟩
  go_wp2_with fail
  refine (cut_at _ hx _).mono ?_
  rintro e w' ⟨rfl, n, rfl⟩
  go_wp2_with fail
  refine bodyPost_ret (v := noneV) (by simp [results, Tryz.results106, go_sem, noneV]) rfl ⟨rfl, ?_⟩
  go_grown
  exact below_drewN ((Below.refl _ _).alloc (Nat.le_refl _) _) n
set_option maxHeartbeats 1000000 in
theorem parse_noprefix (s : ByteArray) (hs : s.size ≤ maxLen) (h60 : s.size ≤ 60) (i : Nat) (hi : i < s.size) (h1 : pt s = i) (hk : kindS (s.extract (i + 1) s.size) ≠ 0) (hp : (cutAt (s.extract 0 i)).1 = []) (w : World) :
    Calls Tryz.prog 106 #[.string s] w fun e w' => e = .returned noneV ∧ Below w.heap.size w w' := by
  have h1' := Lib.hid h1
  clear h1
  obtain ⟨hc1, hc2⟩ := cutAt_size (s.extract 0 i)
  have hx : (s.extract 0 i).size ≤ maxLen := by rw [ByteArray.size_extract]; unfold maxLen at *; omega
  have hx1 : (str (cutAt (s.extract 0 i)).1).size ≤ maxLen := by omega
  have hx2 : (str (cutAt (s.extract 0 i)).2.1).size ≤ maxLen := by omega
  clear hc1 hc2
  unfold maxLen at hs
  have hk' : (kindS (s.extract (i + 1) s.size) == 0) = false := by simpa using hk
  clear hk
  have hp' : (str (cutAt (s.extract 0 i)).1).toList.isEmpty = true := by rw [Lib.toList_data]; simpa [str] using hp
  clear hp
  go_enter Tryz.func106, Tryz.ntmps106
  go_wp2_with fail
  refine (Tryz.strings_LastIndexByte _ _ (by omega) _).mono ?_
  rintro e w' ⟨rfl, rfl⟩
  rw [show Lib.lastIndexByte s 46 = _ from h1'.out]
  go_wp2_with fail
  refine (kindOf_any _ _).mono ?_
  rintro e w' ⟨rfl, rfl⟩
  go_wp2_with fail
  refine (cut_at _ hx _).mono ?_
  rintro e w' ⟨rfl, n, rfl⟩
  go_wp2_with fail
  refine bodyPost_ret (v := noneV) (by simp [results, Tryz.results106, go_sem, noneV]) rfl ⟨rfl, ?_⟩
  go_grown
  exact below_drewN ((Below.refl _ _).alloc (Nat.le_refl _) _) n
set_option maxHeartbeats 1000000 in
theorem parse_badprefix (s : ByteArray) (hs : s.size ≤ maxLen) (h60 : s.size ≤ 60) (i : Nat) (hi : i < s.size) (h1 : pt s = i) (hk : kindS (s.extract (i + 1) s.size) ≠ 0) (hp : (cutAt (s.extract 0 i)).1 ≠ []) (hb : bodyS (str (cutAt (s.extract 0 i)).1) = false) (w : World) :
    Calls Tryz.prog 106 #[.string s] w fun e w' => e = .returned noneV ∧ Below w.heap.size w w' := by
  have h1' := Lib.hid h1
  clear h1
  obtain ⟨hc1, hc2⟩ := cutAt_size (s.extract 0 i)
  have hx : (s.extract 0 i).size ≤ maxLen := by rw [ByteArray.size_extract]; unfold maxLen at *; omega
  have hx1 : (str (cutAt (s.extract 0 i)).1).size ≤ maxLen := by omega
  have hx2 : (str (cutAt (s.extract 0 i)).2.1).size ≤ maxLen := by omega
  clear hc1 hc2
  unfold maxLen at hs
  have hk' : (kindS (s.extract (i + 1) s.size) == 0) = false := by simpa using hk
  clear hk
  have hp' : (str (cutAt (s.extract 0 i)).1).toList.isEmpty = false := by rw [Lib.toList_data]; simpa [str] using hp
  clear hp
  go_enter Tryz.func106, Tryz.ntmps106
  go_wp2_with fail
  refine (Tryz.strings_LastIndexByte _ _ (by omega) _).mono ?_
  rintro e w' ⟨rfl, rfl⟩
  rw [show Lib.lastIndexByte s 46 = _ from h1'.out]
  go_wp2_with fail
  refine (kindOf_any _ _).mono ?_
  rintro e w' ⟨rfl, rfl⟩
  go_wp2_with fail
  refine (cut_at _ hx _).mono ?_
  rintro e w' ⟨rfl, n, rfl⟩
  go_wp2_with fail
  refine (isBody_any _ hx1 _).mono ?_
  rintro e w' ⟨rfl, rfl⟩
  go_wp2_with fail
  refine bodyPost_ret (v := noneV) (by simp [results, Tryz.results106, go_sem, noneV]) rfl ⟨rfl, ?_⟩
  go_grown
  exact below_drewN ((Below.refl _ _).alloc (Nat.le_refl _) _) n
set_option maxHeartbeats 1000000 in
theorem parse_badinst (s : ByteArray) (hs : s.size ≤ maxLen) (h60 : s.size ≤ 60) (i : Nat) (hi : i < s.size) (h1 : pt s = i) (hk : kindS (s.extract (i + 1) s.size) ≠ 0) (hp : (cutAt (s.extract 0 i)).1 ≠ []) (hb : bodyS (str (cutAt (s.extract 0 i)).1) = true) (hb2 : bodyS (str (cutAt (s.extract 0 i)).2.1) = false) (w : World) :
    Calls Tryz.prog 106 #[.string s] w fun e w' => e = .returned noneV ∧ Below w.heap.size w w' := by
  have h1' := Lib.hid h1
  clear h1
  obtain ⟨hc1, hc2⟩ := cutAt_size (s.extract 0 i)
  have hx : (s.extract 0 i).size ≤ maxLen := by rw [ByteArray.size_extract]; unfold maxLen at *; omega
  have hx1 : (str (cutAt (s.extract 0 i)).1).size ≤ maxLen := by omega
  have hx2 : (str (cutAt (s.extract 0 i)).2.1).size ≤ maxLen := by omega
  clear hc1 hc2
  unfold maxLen at hs
  have hk' : (kindS (s.extract (i + 1) s.size) == 0) = false := by simpa using hk
  clear hk
  have hp' : (str (cutAt (s.extract 0 i)).1).toList.isEmpty = false := by rw [Lib.toList_data]; simpa [str] using hp
  clear hp
  go_enter Tryz.func106, Tryz.ntmps106
  go_wp2_with fail
  refine (Tryz.strings_LastIndexByte _ _ (by omega) _).mono ?_
  rintro e w' ⟨rfl, rfl⟩
  rw [show Lib.lastIndexByte s 46 = _ from h1'.out]
  go_wp2_with fail
  refine (kindOf_any _ _).mono ?_
  rintro e w' ⟨rfl, rfl⟩
  go_wp2_with fail
  refine (cut_at _ hx _).mono ?_
  rintro e w' ⟨rfl, n, rfl⟩
  go_wp2_with fail
  refine (isBody_any _ hx1 _).mono ?_
  rintro e w' ⟨rfl, rfl⟩
  go_wp2_with fail
  refine (isBody_any _ hx2 _).mono ?_
  rintro e w' ⟨rfl, rfl⟩
  go_wp2_with fail
  refine bodyPost_ret (v := noneV) (by simp [results, Tryz.results106, go_sem, noneV]) rfl ⟨rfl, ?_⟩
  go_grown
  exact below_drewN ((Below.refl _ _).alloc (Nat.le_refl _) _) n
/-- What parse gives: prefix, instance string, at, kind. -/
def preP (s : ByteArray) : ByteArray := if goodP s = true then str (cutAt (headP s)).1 else ⟨#[]⟩
def instP (s : ByteArray) : ByteArray := if goodP s = true then str (cutAt (headP s)).2.1 else ⟨#[]⟩
def atP (s : ByteArray) : Bool := if goodP s = true then (cutAt (headP s)).2.2 else false
def kindP (s : ByteArray) : Int := if goodP s = true then kindS (tailP s) else 0
theorem parse_any (s : ByteArray) (hs : s.size ≤ maxLen) (w : World) :
    Calls Tryz.prog 106 #[.string s] w fun e w' => e = .returned (.tuple #[.agg #[.string (preP s), .string (instP s), .bool (atP s), .int .i64 (kindP s)], .bool (goodP s)]) ∧ Below w.heap.size w w' := by
  unfold preP instP atP kindP
  rcases hg : goodP s with _ | _
  · simp only [Bool.false_eq_true, if_false]
    by_cases h60 : s.size ≤ 60
    · rcases pt_cases s with h1 | ⟨i, hi, h1⟩
      · exact parse_nopoint s hs h60 h1 w
      · have hH : headP s = s.extract 0 i := by unfold headP; rw [h1]; rfl
        have hT : tailP s = s.extract (i + 1) s.size := by unfold tailP; rw [h1]; rfl
        unfold goodP at hg
        rw [hH, hT] at hg
        by_cases hk : kindS (s.extract (i + 1) s.size) = 0
        · exact parse_nokind s hs h60 i hi h1 hk w
        · by_cases hp : (cutAt (s.extract 0 i)).1 = []
          · exact parse_noprefix s hs h60 i hi h1 hk hp w
          · rcases hb : bodyS (str (cutAt (s.extract 0 i)).1) with _ | _
            · exact parse_badprefix s hs h60 i hi h1 hk hp hb w
            · rcases hb2 : bodyS (str (cutAt (s.extract 0 i)).2.1) with _ | _
              · exact parse_badinst s hs h60 i hi h1 hk hp hb hb2 w
              · exfalso
                rw [hb, hb2] at hg
                simp [h60, hk, hp] at hg
                omega
    · exact parse_long s hs (by omega) w
  · simp only [if_true]
    exact parse_good s hs hg w
end Go.Proofs.YtadifolonbkamaaGreatDoor.Nm
namespace Go.Proofs.YtadifolonbkamaaGreatDoor.Nm
open Go.RowKit
set_option maxHeartbeats 1000000 in
theorem May_any (s : ByteArray) (hs : s.size ≤ maxLen) (w : World) :
    Calls Tryz.prog 81 #[.string s] w fun e w' => e = .returned (.bool (goodP s)) ∧ Below w.heap.size w w' := by
  go_enter Tryz.func81, Tryz.ntmps81
  go_wp2_with fail
  refine (parse_any _ hs _).mono ?_
  rintro e w1 ⟨rfl, hb⟩
  go_wp2_with fail
  go_ret
  exact ⟨rfl, hb.alloc hb.size _⟩
set_option maxHeartbeats 1000000 in
theorem Parts_any (s : ByteArray) (hs : s.size ≤ maxLen) (w : World) :
    Calls Tryz.prog 80 #[.string s] w fun e w' => e = .returned (.tuple #[.string (preP s), .string (instP s), .bool (atP s)]) ∧ Below w.heap.size w w' := by
  go_enter Tryz.func80, Tryz.ntmps80
  go_wp2_with fail
  refine (parse_any _ hs _).mono ?_
  rintro e w1 ⟨rfl, hb⟩
  go_wp2_with fail
  go_region
  go_wp2_with fail
  go_ret3
  exact ⟨rfl, (hb.alloc hb.size _).drew⟩
end Go.Proofs.YtadifolonbkamaaGreatDoor.Nm
namespace Go.Proofs.YtadifolonbkamaaGreatDoor.Nm
open Go.RowKit
theorem below_more {B : Nat} {a W w2 : World} (h : Below B a W) (hB : B ≤ W.heap.size) (h2 : Below W.heap.size W w2) : Below B a w2 := h.trans (h2.mono hB)
/-- A block that is known whole. -/
def Blk (w : World) (g : Nat) (t : TypeId) (cs : Array Value) : Prop := w.heap[g]? = some (.cells cs t (0, 0))
theorem Blk.lt {w : World} {g : Nat} {t : TypeId} {cs : Array Value} (h : Blk w g t cs) : g < w.heap.size := by
  rcases Nat.lt_or_ge g w.heap.size with hlt | hge
  · exact hlt
  · unfold Blk at h; rw [Array.getElem?_eq_none hge] at h; cases h
theorem Blk.new (w : World) (t : TypeId) (cs : Array Value) : Blk (w.alloc (.cells cs t)) w.heap.size t cs := heap_alloc_new w _
theorem Blk.below {w w' : World} {g : Nat} {t : TypeId} {cs : Array Value} (h : Blk w g t cs) (hb : Below w.heap.size w w') : Blk w' g t cs := (hb.block g h.lt).trans h
theorem Blk.alloc {w : World} {g : Nat} {t : TypeId} {cs : Array Value} (h : Blk w g t cs) (o : Obj) : Blk (w.alloc o) g t cs := (Below.heap_alloc w o g h.lt).trans h
theorem Blk.set_ {w : World} {g : Nat} {t : TypeId} {cs : Array Value} (h : Blk w g t cs) (i : Nat) (u : Value) : Blk (w.setCell ⟨g, i, none⟩ u) g t (cs.setIfInBounds i u) := by
  unfold Blk at h ⊢
  simp [World.setCell, Array.getElem?_modify, h]
end Go.Proofs.YtadifolonbkamaaGreatDoor.Nm
namespace Go.Proofs.YtadifolonbkamaaGreatDoor.Nm
open Go.RowKit
end Go.Proofs.YtadifolonbkamaaGreatDoor.Nm
namespace Go.Proofs.YtadifolonbkamaaGreatDoor.Nm
open Go.RowKit
end Go.Proofs.YtadifolonbkamaaGreatDoor.Nm
namespace Go.Proofs.YtadifolonbkamaaGreatDoor.Nm
open Go.RowKit
end Go.Proofs.YtadifolonbkamaaGreatDoor.Nm
namespace Go.Proofs.YtadifolonbkamaaGreatDoor.Nm
open Go.RowKit
theorem drop_at (s : ByteArray) (k : Nat) (h : k < s.size) : s.data.toList.drop k = s[k] :: s.data.toList.drop (k + 1) := by
  rw [List.drop_eq_getElem_cons (by simpa using h)]; rfl
theorem tail_list (s : ByteArray) (k : Nat) : (s.extract (k + 1) s.size).data.toList = s.data.toList.drop (k + 1) := by
  rw [Lib.extract_data, List.take_of_length_le]
  rw [List.length_drop, Lib.size_eq]
  exact Nat.le_refl _
end Go.Proofs.YtadifolonbkamaaGreatDoor.Nm
namespace Go.Proofs.YtadifolonbkamaaGreatDoor.Nm
open Go.RowKit
end Go.Proofs.YtadifolonbkamaaGreatDoor.Nm
namespace Go.Proofs.YtadifolonbkamaaGreatDoor.Nm
open Go.RowKit
end Go.Proofs.YtadifolonbkamaaGreatDoor.Nm
namespace Go.Proofs.YtadifolonbkamaaGreatDoor.Nm
open Go.RowKit
theorem more {a w w2 : World} (h : Below a.heap.size a w) (h2 : Below w.heap.size w w2) : Below a.heap.size a w2 := h.trans (h2.mono h.size)
end Go.Proofs.YtadifolonbkamaaGreatDoor.Nm
namespace Go.Proofs.YtadifolonbkamaaGreatDoor.Nm
open Go.RowKit Go.ChangeShapes Go.WideShapes Go.ChangeAt
open Go.ChangeMaps (open_string shut_string)
/-- The last step where only what is below the call's first block is known to stand. -/
theorem post_below {H : Type} {enc : TypeId × Value → H} {P : Program} {f : Func} {s : ChangeSpec} {apart fresh handsOn again : Bool} {W W' : World} {args : Array Value} {v : Value} {ds gs : List (DataW H)} {before pa pv : List MemPlace}
    (hW : DataW.Whole enc P f.params.toList s.vars apart W args.toList ds gs before)
    (hres : ∀ (b : Nat) (sp : Nat → Bool) (hd : Bool), DataW.TrodAll enc P W' b sp hd f.resultTypes.toList (v.resultList f.resultTypes.size) (s.fn H (ds ++ gs)).results [])
    (hargs : ∀ sp : Nat → Bool, (∀ p ∈ before, sp p.block = true) → DataW.TrodAll enc P W' 0 sp true f.params.toList args.toList (s.fn H (ds ++ gs)).args pa)
    (hvars : ∀ sp : Nat → Bool, (∀ p ∈ before, sp p.block = true) → DataW.TrodVars enc P W' sp s.vars (s.fn H (ds ++ gs)).vars pv)
    (hps : before = pa ++ pv) (hb : Below W.heap.size W W')
    (hok : ∀ (j : Nat) (t : TypeId) (r : Value), f.resultTypes[j]? = some t → (v.resultList f.resultTypes.size)[j]? = some r → Value.okWide P W' .any 0 t r) :
    s.post enc P f apart fresh handsOn again W args v W' := by
  have hlt : ∀ p ∈ before, p.block < W.heap.size := fun p hp => hW.lt p hp
  have hold : ∀ p ∈ before, (fun b => decide (b < W.heap.size)) p.block = true := fun p hp => by simpa using hlt p hp
  refine ⟨ds, gs, before, [], pa, pv, hW, hres _ _ _, hargs _ hold, hvars _ hold, World.keptBut_mono (fun p hp => ⟨hp, ?_⟩) (hb.frame (· ∈ before)), fun _ => ?_⟩
  · rw [hps, List.mem_append] at hp
    exact Or.inr hp
  · obtain ⟨_, _, _, _, _, hz, hn⟩ := hW
    refine ⟨hok, _, _, ([] ++ pa) ++ pv, ⟨[] ++ pa, pv, trodAll_append (hargs _ (fun _ _ => rfl)) (hres _ _ _), hvars _ (fun _ _ => rfl), rfl, ?_, ?_⟩, ?_⟩
    · intro b off hp
      have hin : MemPlace.cell b off ∈ before := by rw [hps]; simpa using hp
      rw [hb.frozen (hlt _ hin)]
      exact hz b off hin
    · intro ha
      have := hn ha
      rw [hps] at this
      simpa using this
    · intro p hp _
      rw [hps]
      simpa using hp
namespace namePieces
end namePieces
end Go.Proofs.YtadifolonbkamaaGreatDoor.Nm
namespace Go.Proofs.YtadifolonbkamaaGreatDoor.Nm
open Go.RowKit
theorem Blk.far {w : World} {g : Nat} {t : TypeId} {cs : Array Value} (h : Blk w g t cs) {p : Addr} (hp : g ≠ p.block) (u : Value) : Blk (w.setCell p u) g t cs := (Below.heap_setCell w p u g hp).trans h
end Go.Proofs.YtadifolonbkamaaGreatDoor.Nm
namespace Go.Proofs.YtadifolonbkamaaGreatDoor.Nm
open Go.RowKit Go.ChangeShapes Go.WideShapes Go.ChangeAt
open Go.ChangeMaps (open_string shut_string)
theorem size_list (s : ByteArray) : s.size = s.data.toList.length := Lib.size_eq s
namespace nameTurn
end nameTurn
end Go.Proofs.YtadifolonbkamaaGreatDoor.Nm
namespace Go.Proofs.YtadifolonbkamaaGreatDoor.Nm
open Go.RowKit
end Go.Proofs.YtadifolonbkamaaGreatDoor.Nm
