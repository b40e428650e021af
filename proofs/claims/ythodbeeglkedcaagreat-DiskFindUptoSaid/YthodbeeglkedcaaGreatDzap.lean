/- The walks of package name's Template, Instance, Change. -/
import Derived.Test.YthodbeeglkedcaaGreatDzao
import Derived.Laws.StructEq
namespace Go.Proofs.YthodbeeglkedcaaGreat.Nm
open Go.RowKit
theorem preP_size (s : ByteArray) : (preP s).size ≤ 60 := by
  unfold preP
  split
  · rename_i h
    unfold goodP at h
    simp only [Bool.and_eq_true, decide_eq_true_eq] at h
    have h1 := (cutAt_size (headP s)).1
    have h2 : (headP s).size ≤ s.size := by unfold headP; rw [ByteArray.size_extract]; omega
    omega
  · exact Nat.zero_le _
theorem instP_size (s : ByteArray) : (instP s).size ≤ 60 := by
  unfold instP
  split
  · rename_i h
    unfold goodP at h
    simp only [Bool.and_eq_true, decide_eq_true_eq] at h
    have h1 := (cutAt_size (headP s)).2
    have h2 : (headP s).size ≤ s.size := by unfold headP; rw [ByteArray.size_extract]; omega
    omega
  · exact Nat.zero_le _
theorem joinS_size (p i : ByteArray) (a : Bool) (k : Int) : (joinS p i a k).size ≤ p.size + i.size + 9 := by
  have := sfx_length k
  have h2 : (str (sfx k)).size ≤ 7 := this
  unfold joinS
  rw [ByteArray.size_append, ByteArray.size_append]
  have e1 : (⟨#[46]⟩ : ByteArray).size = 1 := rfl
  have e2 : (⟨#[64]⟩ : ByteArray).size = 1 := rfl
  split
  · rw [ByteArray.size_append, ByteArray.size_append]; omega
  · omega
theorem below_more {B : Nat} {a W w2 : World} (h : Below B a W) (hB : B ≤ W.heap.size) (h2 : Below W.heap.size W w2) : Below B a w2 := h.trans (h2.mono hB)
def tmplS (s : ByteArray) : ByteArray := if (instP s).toList.isEmpty = true then ⟨#[]⟩ else joinS (preP s) ⟨#[]⟩ (atP s) (kindP s)
set_option maxHeartbeats 1000000 in
theorem Template_any (s : ByteArray) (hs : s.size ≤ maxLen) (w : World) :
    Calls Tryz.prog 31 #[.string s] w fun e w' => e = .returned (.string (tmplS s)) ∧ Below w.heap.size w w' := by
  have hp := preP_size s
  rcases hi : (instP s).toList.isEmpty with _ | _
  · have HT : Hid (tmplS s = joinS (preP s) ⟨#[]⟩ (atP s) (kindP s)) := by unfold tmplS; rw [if_neg (by rw [hi]; simp)]; rfl
    go_enter Tryz.func31, Tryz.ntmps31
    go_wp2_with fail
    refine (parse_any _ hs _).mono ?_
    rintro e w1 ⟨rfl, hb⟩
    go_wp2_with fail
    refine (join_any _ _ _ _ (by have e1 : (⟨#[]⟩ : ByteArray).size = 0 := rfl; omega) _).mono ?_
    rintro e w2 ⟨rfl, hb2⟩
    go_wp2_with fail
    go_ret
    exact ⟨ret_str HT.out.symm, below_more (hb.alloc hb.size _) (by have := hb.size; simp; omega) hb2⟩
  · have HT : Hid (tmplS s = ⟨#[]⟩) := by unfold tmplS; rw [if_pos hi]; rfl
    go_enter Tryz.func31, Tryz.ntmps31
    go_wp2_with fail
    refine (parse_any _ hs _).mono ?_
    rintro e w1 ⟨rfl, hb⟩
    go_wp2_with fail
    go_ret
    exact ⟨ret_str HT.out.symm, hb.alloc hb.size _⟩
def Blk (w : World) (g : Nat) (t : TypeId) (cs : Array Value) : Prop := w.heap[g]? = some (.cells cs t (0, 0))
theorem Blk.lt {w : World} {g : Nat} {t : TypeId} {cs : Array Value} (h : Blk w g t cs) : g < w.heap.size := by
  rcases Nat.lt_or_ge g w.heap.size with hlt | hge
  · exact hlt
  · unfold Blk at h; rw [Array.getElem?_eq_none hge] at h; cases h
theorem Blk.new (w : World) (t : TypeId) (cs : Array Value) : Blk (w.alloc (.cells cs t)) w.heap.size t cs := heap_alloc_new w _
theorem Blk.below {w w' : World} {g : Nat} {t : TypeId} {cs : Array Value} (h : Blk w g t cs) (hb : Below w.heap.size w w') : Blk w' g t cs := (hb.block g h.lt).trans h
theorem Blk.alloc {w : World} {g : Nat} {t : TypeId} {cs : Array Value} (h : Blk w g t cs) (o : Obj) : Blk (w.alloc o) g t cs := (Below.heap_alloc w o g h.lt).trans h
theorem Blk.set_ {w : World} {g : Nat} {t : TypeId} {cs : Array Value} (h : Blk w g t cs) (i : Nat) (u : Value) : Blk (w.setCell ⟨g, i, none⟩ u) g t (cs.setIfInBounds i u) := by
  unfold Blk at h ⊢
  simp [World.setCell, Array.getElem?_modify, h]
theorem Blk.four {w : World} {g : Nat} {t : TypeId} {a b c d : Value} (h : Blk w g t #[a, b, c, d]) :
    w.cell? ⟨g, 0, none⟩ = some a ∧ w.cell? ⟨g, 1, none⟩ = some b ∧ w.cell? ⟨g, 2, none⟩ = some c ∧ w.cell? ⟨g, 3, none⟩ = some d ∧ w.frozen? ⟨g, 0, none⟩ = false ∧ w.frozen? ⟨g, 1, none⟩ = false ∧ w.frozen? ⟨g, 2, none⟩ = false ∧ w.frozen? ⟨g, 3, none⟩ = false :=
  ⟨Lib.cell_of_heap h 0, Lib.cell_of_heap h 1, Lib.cell_of_heap h 2, Lib.cell_of_heap h 3, Lib.frozen_of_heap h 0, Lib.frozen_of_heap h 1, Lib.frozen_of_heap h 2, Lib.frozen_of_heap h 3⟩
def insJ (t i : ByteArray) : ByteArray := joinS (preP t) i (atP t) (kindP t)
set_option maxHeartbeats 1000000 in
theorem Instance_yes (t i : ByteArray) (hs : t.size ≤ maxLen) (hi : i.size ≤ 140737488351232) (ht : atP t = true) (hti : (instP t).toList.isEmpty = true) (hi0 : i.toList.isEmpty = false) (hg : goodP (insJ t i) = true) (e1 : preP (insJ t i) = preP t) (e2 : instP (insJ t i) = i) (e3 : atP (insJ t i) = true) (e4 : kindP (insJ t i) = kindP t) (w : World) :
    Calls Tryz.prog 34 #[.string t, .string i] w fun e w' => e = .returned (.tuple #[.string (insJ t i), .bool true]) ∧ Below w.heap.size w w' := by
  have hp := preP_size t
  have hj := joinS_size (preP t) i (atP t) (kindP t)
  have hJ : Hid (insJ t i = joinS (preP t) i true (kindP t)) := by unfold insJ; rw [ht]; rfl
  rw [ht] at hj
  rw [hJ.out] at hg e1 e2 e3 e4
  have HG := Lib.hid hg
  have E1 := Lib.hid e1
  have E2 := Lib.hid e2
  have E3 := Lib.hid e3
  have E4 := Lib.hid e4
  clear hg e1 e2 e3 e4
  go_enter Tryz.func34, Tryz.ntmps34
  go_wp2_with fail
  refine (parse_any _ hs _).mono ?_
  rintro e w1 ⟨rfl, hb⟩
  rw [ht]
  go_wp2_with fail
  refine (isTemplate_any _ _ _ _ _).mono ?_
  rintro e w2 ⟨rfl, hb2⟩
  have B2 := Lib.hid ((Blk.new _ _ _).below hb2)
  obtain ⟨c0, c1, c2, c3, f0, f1, f2, f3⟩ := B2.out.four
  have lt2 := B2.out.lt
  have hb2' := below_more (hb.alloc hb.size _) (by have := hb.size; simp; omega) hb2
  clear hb2
  go_wp2_with fail
  refine (join_any _ _ _ _ (by omega) _).mono ?_
  rintro e w3 ⟨rfl, hb3⟩
  have B3 : Hid (Blk w3 w1.heap.size 54 #[.string (preP t), .string i, .bool true, .int .i64 (kindP t)]) := (B2.out.set_ 1 (.string i)).below hb3
  have hb3' := below_more (hb2'.setCell (p := ⟨w1.heap.size, 1, none⟩) hb.size (.string i)) (by have := hb2'.size; simpa using this) hb3
  clear hb3 c0 c1 c2 c3 f0 f1 f2 f3
  obtain ⟨c0, c1, c2, c3, f0, f1, f2, f3⟩ := B3.out.four
  have lt3 := B3.out.lt
  go_wp2_with fail
  refine (parse_any _ (by unfold maxLen; omega) _).mono ?_
  rintro e w4 ⟨rfl, hb4⟩
  have B4 : Hid (Blk w4 w1.heap.size 54 #[.string (preP t), .string i, .bool true, .int .i64 (kindP t)]) := B3.out.below hb4
  have hb4' := below_more hb3' hb3'.size hb4
  clear hb4 c0 c1 c2 c3 f0 f1 f2 f3
  obtain ⟨c0, c1, c2, c3, f0, f1, f2, f3⟩ := B4.out.four
  have lt4 := B4.out.lt
  rw [E1.out, E2.out, E3.out, E4.out, HG.out]
  go_wp2_with fail
  go_ret2
  exact ⟨by first | rfl | (rw [hJ.out]; rfl), hb4'.alloc hb4'.size _⟩
set_option maxHeartbeats 1000000 in
theorem Instance_notgood (t i : ByteArray) (hs : t.size ≤ maxLen) (hi : i.size ≤ 140737488351232) (ht : atP t = true) (hti : (instP t).toList.isEmpty = true) (hi0 : i.toList.isEmpty = false) (hg : goodP (insJ t i) = false) (w : World) :
    Calls Tryz.prog 34 #[.string t, .string i] w fun e w' => e = .returned (.tuple #[.string ⟨#[]⟩, .bool false]) ∧ Below w.heap.size w w' := by
  have hp := preP_size t
  have hj := joinS_size (preP t) i (atP t) (kindP t)
  have hJ : Hid (insJ t i = joinS (preP t) i true (kindP t)) := by unfold insJ; rw [ht]; rfl
  rw [ht] at hj
  rw [hJ.out] at hg
  have HG := Lib.hid hg
  clear hg
  go_enter Tryz.func34, Tryz.ntmps34
  go_wp2_with fail
  refine (parse_any _ hs _).mono ?_
  rintro e w1 ⟨rfl, hb⟩
  rw [ht]
  go_wp2_with fail
  refine (isTemplate_any _ _ _ _ _).mono ?_
  rintro e w2 ⟨rfl, hb2⟩
  have B2 := Lib.hid ((Blk.new _ _ _).below hb2)
  obtain ⟨c0, c1, c2, c3, f0, f1, f2, f3⟩ := B2.out.four
  have lt2 := B2.out.lt
  have hb2' := below_more (hb.alloc hb.size _) (by have := hb.size; simp; omega) hb2
  clear hb2
  go_wp2_with fail
  refine (join_any _ _ _ _ (by omega) _).mono ?_
  rintro e w3 ⟨rfl, hb3⟩
  have B3 : Hid (Blk w3 w1.heap.size 54 #[.string (preP t), .string i, .bool true, .int .i64 (kindP t)]) := (B2.out.set_ 1 (.string i)).below hb3
  have hb3' := below_more (hb2'.setCell (p := ⟨w1.heap.size, 1, none⟩) hb.size (.string i)) (by have := hb2'.size; simpa using this) hb3
  clear hb3 c0 c1 c2 c3 f0 f1 f2 f3
  obtain ⟨c0, c1, c2, c3, f0, f1, f2, f3⟩ := B3.out.four
  have lt3 := B3.out.lt
  go_wp2_with fail
  refine (parse_any _ (by unfold maxLen; omega) _).mono ?_
  rintro e w4 ⟨rfl, hb4⟩
  have B4 : Hid (Blk w4 w1.heap.size 54 #[.string (preP t), .string i, .bool true, .int .i64 (kindP t)]) := B3.out.below hb4
  have hb4' := below_more hb3' hb3'.size hb4
  clear hb4 c0 c1 c2 c3 f0 f1 f2 f3
  obtain ⟨c0, c1, c2, c3, f0, f1, f2, f3⟩ := B4.out.four
  have lt4 := B4.out.lt
  rw [HG.out]
  go_wp2_with fail
  go_ret2
  exact ⟨by first | rfl | (rw [hJ.out]; rfl), hb4'.alloc hb4'.size _⟩
set_option maxHeartbeats 1000000 in
theorem Instance_not1 (t i : ByteArray) (hs : t.size ≤ maxLen) (hi : i.size ≤ 140737488351232) (ht : atP t = true) (hti : (instP t).toList.isEmpty = true) (hi0 : i.toList.isEmpty = false) (hg : goodP (insJ t i) = true) (e1 : ((preP (insJ t i)).toList == (preP t).toList) = false) (w : World) :
    Calls Tryz.prog 34 #[.string t, .string i] w fun e w' => e = .returned (.tuple #[.string ⟨#[]⟩, .bool false]) ∧ Below w.heap.size w w' := by
  have hp := preP_size t
  have hj := joinS_size (preP t) i (atP t) (kindP t)
  have hJ : Hid (insJ t i = joinS (preP t) i true (kindP t)) := by unfold insJ; rw [ht]; rfl
  rw [ht] at hj
  rw [hJ.out] at hg e1
  have HG := Lib.hid hg
  have E1 := Lib.hid e1
  clear hg e1
  go_enter Tryz.func34, Tryz.ntmps34
  go_wp2_with fail
  refine (parse_any _ hs _).mono ?_
  rintro e w1 ⟨rfl, hb⟩
  rw [ht]
  go_wp2_with fail
  refine (isTemplate_any _ _ _ _ _).mono ?_
  rintro e w2 ⟨rfl, hb2⟩
  have B2 := Lib.hid ((Blk.new _ _ _).below hb2)
  obtain ⟨c0, c1, c2, c3, f0, f1, f2, f3⟩ := B2.out.four
  have lt2 := B2.out.lt
  have hb2' := below_more (hb.alloc hb.size _) (by have := hb.size; simp; omega) hb2
  clear hb2
  go_wp2_with fail
  refine (join_any _ _ _ _ (by omega) _).mono ?_
  rintro e w3 ⟨rfl, hb3⟩
  have B3 : Hid (Blk w3 w1.heap.size 54 #[.string (preP t), .string i, .bool true, .int .i64 (kindP t)]) := (B2.out.set_ 1 (.string i)).below hb3
  have hb3' := below_more (hb2'.setCell (p := ⟨w1.heap.size, 1, none⟩) hb.size (.string i)) (by have := hb2'.size; simpa using this) hb3
  clear hb3 c0 c1 c2 c3 f0 f1 f2 f3
  obtain ⟨c0, c1, c2, c3, f0, f1, f2, f3⟩ := B3.out.four
  have lt3 := B3.out.lt
  go_wp2_with fail
  refine (parse_any _ (by unfold maxLen; omega) _).mono ?_
  rintro e w4 ⟨rfl, hb4⟩
  have B4 : Hid (Blk w4 w1.heap.size 54 #[.string (preP t), .string i, .bool true, .int .i64 (kindP t)]) := B3.out.below hb4
  have hb4' := below_more hb3' hb3'.size hb4
  clear hb4 c0 c1 c2 c3 f0 f1 f2 f3
  obtain ⟨c0, c1, c2, c3, f0, f1, f2, f3⟩ := B4.out.four
  have lt4 := B4.out.lt
  rw [HG.out]
  have e1 := E1.out
  clear E1
  generalize preP (joinS (preP t) i true (kindP t)) = p', instP (joinS (preP t) i true (kindP t)) = i', atP (joinS (preP t) i true (kindP t)) = a', kindP (joinS (preP t) i true (kindP t)) = k' at *
  go_wp2_with fail
  go_ret2
  exact ⟨by first | rfl | (rw [hJ.out]; rfl), hb4'.alloc hb4'.size _⟩
set_option maxHeartbeats 1000000 in
theorem Instance_not2 (t i : ByteArray) (hs : t.size ≤ maxLen) (hi : i.size ≤ 140737488351232) (ht : atP t = true) (hti : (instP t).toList.isEmpty = true) (hi0 : i.toList.isEmpty = false) (hg : goodP (insJ t i) = true) (e1 : preP (insJ t i) = preP t) (e2 : ((instP (insJ t i)).toList == i.toList) = false) (w : World) :
    Calls Tryz.prog 34 #[.string t, .string i] w fun e w' => e = .returned (.tuple #[.string ⟨#[]⟩, .bool false]) ∧ Below w.heap.size w w' := by
  have hp := preP_size t
  have hj := joinS_size (preP t) i (atP t) (kindP t)
  have hJ : Hid (insJ t i = joinS (preP t) i true (kindP t)) := by unfold insJ; rw [ht]; rfl
  rw [ht] at hj
  rw [hJ.out] at hg e1 e2
  have HG := Lib.hid hg
  have E1 := Lib.hid e1
  have E2 := Lib.hid e2
  clear hg e1 e2
  go_enter Tryz.func34, Tryz.ntmps34
  go_wp2_with fail
  refine (parse_any _ hs _).mono ?_
  rintro e w1 ⟨rfl, hb⟩
  rw [ht]
  go_wp2_with fail
  refine (isTemplate_any _ _ _ _ _).mono ?_
  rintro e w2 ⟨rfl, hb2⟩
  have B2 := Lib.hid ((Blk.new _ _ _).below hb2)
  obtain ⟨c0, c1, c2, c3, f0, f1, f2, f3⟩ := B2.out.four
  have lt2 := B2.out.lt
  have hb2' := below_more (hb.alloc hb.size _) (by have := hb.size; simp; omega) hb2
  clear hb2
  go_wp2_with fail
  refine (join_any _ _ _ _ (by omega) _).mono ?_
  rintro e w3 ⟨rfl, hb3⟩
  have B3 : Hid (Blk w3 w1.heap.size 54 #[.string (preP t), .string i, .bool true, .int .i64 (kindP t)]) := (B2.out.set_ 1 (.string i)).below hb3
  have hb3' := below_more (hb2'.setCell (p := ⟨w1.heap.size, 1, none⟩) hb.size (.string i)) (by have := hb2'.size; simpa using this) hb3
  clear hb3 c0 c1 c2 c3 f0 f1 f2 f3
  obtain ⟨c0, c1, c2, c3, f0, f1, f2, f3⟩ := B3.out.four
  have lt3 := B3.out.lt
  go_wp2_with fail
  refine (parse_any _ (by unfold maxLen; omega) _).mono ?_
  rintro e w4 ⟨rfl, hb4⟩
  have B4 : Hid (Blk w4 w1.heap.size 54 #[.string (preP t), .string i, .bool true, .int .i64 (kindP t)]) := B3.out.below hb4
  have hb4' := below_more hb3' hb3'.size hb4
  clear hb4 c0 c1 c2 c3 f0 f1 f2 f3
  obtain ⟨c0, c1, c2, c3, f0, f1, f2, f3⟩ := B4.out.four
  have lt4 := B4.out.lt
  rw [HG.out, E1.out]
  have e2 := E2.out
  clear E2
  generalize instP (joinS (preP t) i true (kindP t)) = i', atP (joinS (preP t) i true (kindP t)) = a', kindP (joinS (preP t) i true (kindP t)) = k' at *
  go_wp2_with fail
  go_ret2
  exact ⟨by first | rfl | (rw [hJ.out]; rfl), hb4'.alloc hb4'.size _⟩
set_option maxHeartbeats 1000000 in
theorem Instance_not3 (t i : ByteArray) (hs : t.size ≤ maxLen) (hi : i.size ≤ 140737488351232) (ht : atP t = true) (hti : (instP t).toList.isEmpty = true) (hi0 : i.toList.isEmpty = false) (hg : goodP (insJ t i) = true) (e1 : preP (insJ t i) = preP t) (e2 : instP (insJ t i) = i) (e3 : atP (insJ t i) = false) (w : World) :
    Calls Tryz.prog 34 #[.string t, .string i] w fun e w' => e = .returned (.tuple #[.string ⟨#[]⟩, .bool false]) ∧ Below w.heap.size w w' := by
  have hp := preP_size t
  have hj := joinS_size (preP t) i (atP t) (kindP t)
  have hJ : Hid (insJ t i = joinS (preP t) i true (kindP t)) := by unfold insJ; rw [ht]; rfl
  rw [ht] at hj
  rw [hJ.out] at hg e1 e2 e3
  have HG := Lib.hid hg
  have E1 := Lib.hid e1
  have E2 := Lib.hid e2
  have E3 := Lib.hid e3
  clear hg e1 e2 e3
  go_enter Tryz.func34, Tryz.ntmps34
  go_wp2_with fail
  refine (parse_any _ hs _).mono ?_
  rintro e w1 ⟨rfl, hb⟩
  rw [ht]
  go_wp2_with fail
  refine (isTemplate_any _ _ _ _ _).mono ?_
  rintro e w2 ⟨rfl, hb2⟩
  have B2 := Lib.hid ((Blk.new _ _ _).below hb2)
  obtain ⟨c0, c1, c2, c3, f0, f1, f2, f3⟩ := B2.out.four
  have lt2 := B2.out.lt
  have hb2' := below_more (hb.alloc hb.size _) (by have := hb.size; simp; omega) hb2
  clear hb2
  go_wp2_with fail
  refine (join_any _ _ _ _ (by omega) _).mono ?_
  rintro e w3 ⟨rfl, hb3⟩
  have B3 : Hid (Blk w3 w1.heap.size 54 #[.string (preP t), .string i, .bool true, .int .i64 (kindP t)]) := (B2.out.set_ 1 (.string i)).below hb3
  have hb3' := below_more (hb2'.setCell (p := ⟨w1.heap.size, 1, none⟩) hb.size (.string i)) (by have := hb2'.size; simpa using this) hb3
  clear hb3 c0 c1 c2 c3 f0 f1 f2 f3
  obtain ⟨c0, c1, c2, c3, f0, f1, f2, f3⟩ := B3.out.four
  have lt3 := B3.out.lt
  go_wp2_with fail
  refine (parse_any _ (by unfold maxLen; omega) _).mono ?_
  rintro e w4 ⟨rfl, hb4⟩
  have B4 : Hid (Blk w4 w1.heap.size 54 #[.string (preP t), .string i, .bool true, .int .i64 (kindP t)]) := B3.out.below hb4
  have hb4' := below_more hb3' hb3'.size hb4
  clear hb4 c0 c1 c2 c3 f0 f1 f2 f3
  obtain ⟨c0, c1, c2, c3, f0, f1, f2, f3⟩ := B4.out.four
  have lt4 := B4.out.lt
  rw [HG.out, E1.out, E2.out, E3.out]
  generalize kindP (joinS (preP t) i true (kindP t)) = k' at *
  go_wp2_with fail
  go_ret2
  exact ⟨by first | rfl | (rw [hJ.out]; rfl), hb4'.alloc hb4'.size _⟩
set_option maxHeartbeats 1000000 in
theorem Instance_not4 (t i : ByteArray) (hs : t.size ≤ maxLen) (hi : i.size ≤ 140737488351232) (ht : atP t = true) (hti : (instP t).toList.isEmpty = true) (hi0 : i.toList.isEmpty = false) (hg : goodP (insJ t i) = true) (e1 : preP (insJ t i) = preP t) (e2 : instP (insJ t i) = i) (e3 : atP (insJ t i) = true) (e4 : (kindP (insJ t i) == kindP t) = false) (w : World) :
    Calls Tryz.prog 34 #[.string t, .string i] w fun e w' => e = .returned (.tuple #[.string ⟨#[]⟩, .bool false]) ∧ Below w.heap.size w w' := by
  have hp := preP_size t
  have hj := joinS_size (preP t) i (atP t) (kindP t)
  have hJ : Hid (insJ t i = joinS (preP t) i true (kindP t)) := by unfold insJ; rw [ht]; rfl
  rw [ht] at hj
  rw [hJ.out] at hg e1 e2 e3 e4
  have HG := Lib.hid hg
  have E1 := Lib.hid e1
  have E2 := Lib.hid e2
  have E3 := Lib.hid e3
  have E4 := Lib.hid e4
  clear hg e1 e2 e3 e4
  go_enter Tryz.func34, Tryz.ntmps34
  go_wp2_with fail
  refine (parse_any _ hs _).mono ?_
  rintro e w1 ⟨rfl, hb⟩
  rw [ht]
  go_wp2_with fail
  refine (isTemplate_any _ _ _ _ _).mono ?_
  rintro e w2 ⟨rfl, hb2⟩
  have B2 := Lib.hid ((Blk.new _ _ _).below hb2)
  obtain ⟨c0, c1, c2, c3, f0, f1, f2, f3⟩ := B2.out.four
  have lt2 := B2.out.lt
  have hb2' := below_more (hb.alloc hb.size _) (by have := hb.size; simp; omega) hb2
  clear hb2
  go_wp2_with fail
  refine (join_any _ _ _ _ (by omega) _).mono ?_
  rintro e w3 ⟨rfl, hb3⟩
  have B3 : Hid (Blk w3 w1.heap.size 54 #[.string (preP t), .string i, .bool true, .int .i64 (kindP t)]) := (B2.out.set_ 1 (.string i)).below hb3
  have hb3' := below_more (hb2'.setCell (p := ⟨w1.heap.size, 1, none⟩) hb.size (.string i)) (by have := hb2'.size; simpa using this) hb3
  clear hb3 c0 c1 c2 c3 f0 f1 f2 f3
  obtain ⟨c0, c1, c2, c3, f0, f1, f2, f3⟩ := B3.out.four
  have lt3 := B3.out.lt
  go_wp2_with fail
  refine (parse_any _ (by unfold maxLen; omega) _).mono ?_
  rintro e w4 ⟨rfl, hb4⟩
  have B4 : Hid (Blk w4 w1.heap.size 54 #[.string (preP t), .string i, .bool true, .int .i64 (kindP t)]) := B3.out.below hb4
  have hb4' := below_more hb3' hb3'.size hb4
  clear hb4 c0 c1 c2 c3 f0 f1 f2 f3
  obtain ⟨c0, c1, c2, c3, f0, f1, f2, f3⟩ := B4.out.four
  have lt4 := B4.out.lt
  rw [HG.out, E1.out, E2.out, E3.out]
  have e4 := E4.out
  clear E4
  generalize kindP (joinS (preP t) i true (kindP t)) = k' at *
  go_wp2_with fail
  go_ret2
  exact ⟨by first | rfl | (rw [hJ.out]; rfl), hb4'.alloc hb4'.size _⟩
set_option maxHeartbeats 1000000 in
theorem Instance_no1 (t i : ByteArray) (hs : t.size ≤ maxLen) (ht : (atP t && (instP t).toList.isEmpty) = false) (w : World) :
    Calls Tryz.prog 34 #[.string t, .string i] w fun e w' => e = .returned (.tuple #[.string ⟨#[]⟩, .bool false]) ∧ Below w.heap.size w w' := by
  go_enter Tryz.func34, Tryz.ntmps34
  go_wp2_with fail
  refine (parse_any _ hs _).mono ?_
  rintro e w1 ⟨rfl, hb⟩
  go_wp2_with fail
  refine (isTemplate_any _ _ _ _ _).mono ?_
  rintro e w2 ⟨rfl, hb2⟩
  have hb2' := below_more (hb.alloc hb.size _) (by have := hb.size; simp; omega) hb2
  clear hb2
  go_wp2_with fail
  go_ret2
  exact ⟨rfl, hb2'⟩
set_option maxHeartbeats 1000000 in
theorem Instance_no2 (t i : ByteArray) (hs : t.size ≤ maxLen) (ht : (atP t && (instP t).toList.isEmpty) = true) (hi0 : i.toList.isEmpty = true) (w : World) :
    Calls Tryz.prog 34 #[.string t, .string i] w fun e w' => e = .returned (.tuple #[.string ⟨#[]⟩, .bool false]) ∧ Below w.heap.size w w' := by
  go_enter Tryz.func34, Tryz.ntmps34
  go_wp2_with fail
  refine (parse_any _ hs _).mono ?_
  rintro e w1 ⟨rfl, hb⟩
  go_wp2_with fail
  refine (isTemplate_any _ _ _ _ _).mono ?_
  rintro e w2 ⟨rfl, hb2⟩
  have hb2' := below_more (hb.alloc hb.size _) (by have := hb.size; simp; omega) hb2
  clear hb2
  go_wp2_with fail
  go_ret2
  exact ⟨rfl, hb2'⟩
def insOk (t i : ByteArray) : Bool := (atP t && (instP t).toList.isEmpty) && !i.toList.isEmpty && goodP (insJ t i) && ((preP (insJ t i)).toList == (preP t).toList) && ((instP (insJ t i)).toList == i.toList) && atP (insJ t i) && (kindP (insJ t i) == kindP t)
def insS (t i : ByteArray) : ByteArray := if insOk t i = true then insJ t i else ⟨#[]⟩
theorem Instance_any (t i : ByteArray) (hs : t.size ≤ maxLen) (hi : i.size ≤ 140737488351232) (w : World) :
    Calls Tryz.prog 34 #[.string t, .string i] w fun e w' => e = .returned (.tuple #[.string (insS t i), .bool (insOk t i)]) ∧ Below w.heap.size w w' := by
  unfold insS
  rcases h1 : (atP t && (instP t).toList.isEmpty) with _ | _
  · have h : insOk t i = false := by unfold insOk; rw [h1]; rfl
    rw [h]
    exact Instance_no1 t i hs h1 w
  · rcases h2 : i.toList.isEmpty with _ | _
    · have ⟨ha, hb⟩ : atP t = true ∧ (instP t).toList.isEmpty = true := by simpa using h1
      rcases hg : goodP (insJ t i) with _ | _
      · have h : insOk t i = false := by unfold insOk; rw [h1, h2, hg]; rfl
        rw [h]
        exact Instance_notgood t i hs hi ha hb h2 hg w
      · rcases e1 : ((preP (insJ t i)).toList == (preP t).toList) with _ | _
        · have h : insOk t i = false := by unfold insOk; rw [h1, h2, hg, e1]; rfl
          rw [h]
          exact Instance_not1 t i hs hi ha hb h2 hg e1 w
        · have e1' : preP (insJ t i) = preP t := by rw [beq_str] at e1; simpa using e1
          rcases e2 : ((instP (insJ t i)).toList == i.toList) with _ | _
          · have h : insOk t i = false := by unfold insOk; rw [h1, h2, hg, e1, e2]; rfl
            rw [h]
            exact Instance_not2 t i hs hi ha hb h2 hg e1' e2 w
          · have e2' : instP (insJ t i) = i := by rw [beq_str] at e2; simpa using e2
            rcases e3 : atP (insJ t i) with _ | _
            · have h : insOk t i = false := by unfold insOk; rw [h1, h2, hg, e1, e2, e3]; rfl
              rw [h]
              exact Instance_not3 t i hs hi ha hb h2 hg e1' e2' e3 w
            · rcases e4 : (kindP (insJ t i) == kindP t) with _ | _
              · have h : insOk t i = false := by unfold insOk; rw [h1, h2, hg, e1, e2, e3, e4]; rfl
                rw [h]
                exact Instance_not4 t i hs hi ha hb h2 hg e1' e2' e3 e4 w
              · have h : insOk t i = true := by unfold insOk; rw [h1, h2, hg, e1, e2, e3, e4]; rfl
                rw [h]
                exact Instance_yes t i hs hi ha hb h2 hg e1' e2' e3 (by simpa using e4) w
    · have h : insOk t i = false := by unfold insOk; rw [h1, h2]; rfl
      rw [h]
      exact Instance_no2 t i hs h1 h2 w
end Go.Proofs.YthodbeeglkedcaaGreat.Nm
