/- The walk of the document's own Instance. -/
import Derived.Test.YthodbeeglkedcaaGreatDzas
import Derived.Deep.RegionHeld3
namespace Go.Proofs.YthodbeeglkedcaaGreat.Nm
open Go.RowKit
set_option maxHeartbeats 2000000 in
theorem rInstance_yes (t i : ByteArray) (hs : t.size ≤ maxLen) (hi : i.size ≤ 140737488351232) (ht : atP t = true) (hti : (atP t && (instP t).toList.isEmpty) = true) (hi0 : i.toList.isEmpty = false) (e1 : preP (insJ t i) = preP t) (e2 : instP (insJ t i) = i) (e3 : atP (insJ t i) = true) (e4 : kindP (insJ t i) = kindP t) (w : World) :
    Calls Tryz.prog 23 #[.string t, .string i] w fun e w' => e = .returned (.tuple #[.string (insJ t i), .bool true]) ∧ Below w.heap.size w w' := by
  have hp := preP_size t
  have hj := joinS_size (preP t) i (atP t) (kindP t)
  have hJ : Hid (insJ t i = joinS (preP t) i true (kindP t)) := by unfold insJ; rw [ht]; rfl
  rw [ht] at hj
  have hjm : (joinS (preP t) i true (kindP t)).size ≤ maxLen := by unfold maxLen; omega
  rw [hJ.out] at e1 e2 e3 e4
  have E1 := Lib.hid e1
  have E2 := Lib.hid e2
  have E3 := Lib.hid e3
  have E4 := Lib.hid e4
  clear e1 e2 e3 e4
  have HT := Lib.hid hti
  clear hti
  go_enter Tryz.func23, Tryz.ntmps23
  go_wp2_with fail
  refine (rIsTemplate_any _ hs _).mono ?_
  rintro e w1 ⟨rfl, hb1⟩
  rw [HT.out]
  go_wp2_with fail
  refine (Of_any _ hs _).mono ?_
  rintro e w2 ⟨rfl, hb2⟩
  have hb2' := below_more hb1 hb1.size hb2
  clear hb1 hb2
  rw [ht]
  go_wp2_with fail
  refine (rMake_any _ _ _ _ (by omega) _).mono ?_
  rintro e w3 ⟨rfl, hb3⟩
  have B3 : Hid (Blk w3 w2.heap.size 49 #[.int .i64 (kindP t), .string (preP t), .string i, .bool true]) := (Blk.new _ _ _).below hb3
  have hb3' := below_more (hb2'.alloc hb2'.size _) (by have := hb2'.size; simp; omega) hb3
  clear hb3
  obtain ⟨c0, c1, c2, c3, f0, f1, f2, f3⟩ := B3.out.four
  have lt3 := B3.out.lt
  go_wp2_with fail
  go_region_with (go_at_call 24; refine (Of_any _ hjm _).mono ?_; rintro e w4 ⟨rfl, hb4⟩; have hb4' := below_more hb3'.drew hb3'.size hb4; have B4 := Lib.hid ((show Blk w3.drew w2.heap.size 49 #[.int .i64 (kindP t), .string (preP t), .string i, .bool true] from B3.out).below hb4); obtain ⟨d0, d1, d2, d3, g0, g1, g2, g3⟩ := B4.out.four; rw [E1.out, E2.out, E3.out, E4.out])
  all_goals
    go_wp2_with fail
    go_ret2
    exact ⟨by first | rfl | (rw [hJ.out]; rfl), hb4'⟩
set_option maxHeartbeats 2000000 in
theorem rInstance_n1 (t i : ByteArray) (hs : t.size ≤ maxLen) (hi : i.size ≤ 140737488351232) (ht : atP t = true) (hti : (atP t && (instP t).toList.isEmpty) = true) (hi0 : i.toList.isEmpty = false) (e4 : (kindP (insJ t i) == kindP t) = false) (w : World) :
    Calls Tryz.prog 23 #[.string t, .string i] w fun e w' => e = .returned (.tuple #[.string ⟨#[]⟩, .bool false]) ∧ Below w.heap.size w w' := by
  have hp := preP_size t
  have hj := joinS_size (preP t) i (atP t) (kindP t)
  have hJ : Hid (insJ t i = joinS (preP t) i true (kindP t)) := by unfold insJ; rw [ht]; rfl
  rw [ht] at hj
  have hjm : (joinS (preP t) i true (kindP t)).size ≤ maxLen := by unfold maxLen; omega
  rw [hJ.out] at e4
  have E4 := Lib.hid e4
  clear e4
  have HT := Lib.hid hti
  clear hti
  go_enter Tryz.func23, Tryz.ntmps23
  go_wp2_with fail
  refine (rIsTemplate_any _ hs _).mono ?_
  rintro e w1 ⟨rfl, hb1⟩
  rw [HT.out]
  go_wp2_with fail
  refine (Of_any _ hs _).mono ?_
  rintro e w2 ⟨rfl, hb2⟩
  have hb2' := below_more hb1 hb1.size hb2
  clear hb1 hb2
  rw [ht]
  go_wp2_with fail
  refine (rMake_any _ _ _ _ (by omega) _).mono ?_
  rintro e w3 ⟨rfl, hb3⟩
  have B3 : Hid (Blk w3 w2.heap.size 49 #[.int .i64 (kindP t), .string (preP t), .string i, .bool true]) := (Blk.new _ _ _).below hb3
  have hb3' := below_more (hb2'.alloc hb2'.size _) (by have := hb2'.size; simp; omega) hb3
  clear hb3
  obtain ⟨c0, c1, c2, c3, f0, f1, f2, f3⟩ := B3.out.four
  have lt3 := B3.out.lt
  go_wp2_with fail
  go_region_with (go_at_call 24; refine (Of_any _ hjm _).mono ?_; rintro e w4 ⟨rfl, hb4⟩; have hb4' := below_more hb3'.drew hb3'.size hb4; have B4 := Lib.hid ((show Blk w3.drew w2.heap.size 49 #[.int .i64 (kindP t), .string (preP t), .string i, .bool true] from B3.out).below hb4); obtain ⟨d0, d1, d2, d3, g0, g1, g2, g3⟩ := B4.out.four; have e4 := E4.out; clear E4; generalize preP (joinS (preP t) i true (kindP t)) = p', instP (joinS (preP t) i true (kindP t)) = i', atP (joinS (preP t) i true (kindP t)) = a', kindP (joinS (preP t) i true (kindP t)) = k' at *)
  all_goals
    go_wp2_with fail
    go_ret2
    exact ⟨by first | rfl | (rw [hJ.out]; rfl), hb4'⟩
set_option maxHeartbeats 2000000 in
theorem rInstance_n2 (t i : ByteArray) (hs : t.size ≤ maxLen) (hi : i.size ≤ 140737488351232) (ht : atP t = true) (hti : (atP t && (instP t).toList.isEmpty) = true) (hi0 : i.toList.isEmpty = false) (e4 : kindP (insJ t i) = kindP t) (e1 : ((preP (insJ t i)).toList == (preP t).toList) = false) (w : World) :
    Calls Tryz.prog 23 #[.string t, .string i] w fun e w' => e = .returned (.tuple #[.string ⟨#[]⟩, .bool false]) ∧ Below w.heap.size w w' := by
  have hp := preP_size t
  have hj := joinS_size (preP t) i (atP t) (kindP t)
  have hJ : Hid (insJ t i = joinS (preP t) i true (kindP t)) := by unfold insJ; rw [ht]; rfl
  rw [ht] at hj
  have hjm : (joinS (preP t) i true (kindP t)).size ≤ maxLen := by unfold maxLen; omega
  rw [hJ.out] at e4 e1
  have E4 := Lib.hid e4
  have E1 := Lib.hid e1
  clear e4 e1
  have HT := Lib.hid hti
  clear hti
  go_enter Tryz.func23, Tryz.ntmps23
  go_wp2_with fail
  refine (rIsTemplate_any _ hs _).mono ?_
  rintro e w1 ⟨rfl, hb1⟩
  rw [HT.out]
  go_wp2_with fail
  refine (Of_any _ hs _).mono ?_
  rintro e w2 ⟨rfl, hb2⟩
  have hb2' := below_more hb1 hb1.size hb2
  clear hb1 hb2
  rw [ht]
  go_wp2_with fail
  refine (rMake_any _ _ _ _ (by omega) _).mono ?_
  rintro e w3 ⟨rfl, hb3⟩
  have B3 : Hid (Blk w3 w2.heap.size 49 #[.int .i64 (kindP t), .string (preP t), .string i, .bool true]) := (Blk.new _ _ _).below hb3
  have hb3' := below_more (hb2'.alloc hb2'.size _) (by have := hb2'.size; simp; omega) hb3
  clear hb3
  obtain ⟨c0, c1, c2, c3, f0, f1, f2, f3⟩ := B3.out.four
  have lt3 := B3.out.lt
  go_wp2_with fail
  go_region_with (go_at_call 24; refine (Of_any _ hjm _).mono ?_; rintro e w4 ⟨rfl, hb4⟩; have hb4' := below_more hb3'.drew hb3'.size hb4; have B4 := Lib.hid ((show Blk w3.drew w2.heap.size 49 #[.int .i64 (kindP t), .string (preP t), .string i, .bool true] from B3.out).below hb4); obtain ⟨d0, d1, d2, d3, g0, g1, g2, g3⟩ := B4.out.four; rw [E4.out]; have e1 := E1.out; clear E1 E4; generalize preP (joinS (preP t) i true (kindP t)) = p', instP (joinS (preP t) i true (kindP t)) = i', atP (joinS (preP t) i true (kindP t)) = a' at *)
  all_goals
    go_wp2_with fail
    go_ret2
    exact ⟨by first | rfl | (rw [hJ.out]; rfl), hb4'⟩
set_option maxHeartbeats 2000000 in
theorem rInstance_n3 (t i : ByteArray) (hs : t.size ≤ maxLen) (hi : i.size ≤ 140737488351232) (ht : atP t = true) (hti : (atP t && (instP t).toList.isEmpty) = true) (hi0 : i.toList.isEmpty = false) (e4 : kindP (insJ t i) = kindP t) (e1 : preP (insJ t i) = preP t) (e2 : ((instP (insJ t i)).toList == i.toList) = false) (w : World) :
    Calls Tryz.prog 23 #[.string t, .string i] w fun e w' => e = .returned (.tuple #[.string ⟨#[]⟩, .bool false]) ∧ Below w.heap.size w w' := by
  have hp := preP_size t
  have hj := joinS_size (preP t) i (atP t) (kindP t)
  have hJ : Hid (insJ t i = joinS (preP t) i true (kindP t)) := by unfold insJ; rw [ht]; rfl
  rw [ht] at hj
  have hjm : (joinS (preP t) i true (kindP t)).size ≤ maxLen := by unfold maxLen; omega
  rw [hJ.out] at e4 e1 e2
  have E4 := Lib.hid e4
  have E1 := Lib.hid e1
  have E2 := Lib.hid e2
  clear e4 e1 e2
  have HT := Lib.hid hti
  clear hti
  go_enter Tryz.func23, Tryz.ntmps23
  go_wp2_with fail
  refine (rIsTemplate_any _ hs _).mono ?_
  rintro e w1 ⟨rfl, hb1⟩
  rw [HT.out]
  go_wp2_with fail
  refine (Of_any _ hs _).mono ?_
  rintro e w2 ⟨rfl, hb2⟩
  have hb2' := below_more hb1 hb1.size hb2
  clear hb1 hb2
  rw [ht]
  go_wp2_with fail
  refine (rMake_any _ _ _ _ (by omega) _).mono ?_
  rintro e w3 ⟨rfl, hb3⟩
  have B3 : Hid (Blk w3 w2.heap.size 49 #[.int .i64 (kindP t), .string (preP t), .string i, .bool true]) := (Blk.new _ _ _).below hb3
  have hb3' := below_more (hb2'.alloc hb2'.size _) (by have := hb2'.size; simp; omega) hb3
  clear hb3
  obtain ⟨c0, c1, c2, c3, f0, f1, f2, f3⟩ := B3.out.four
  have lt3 := B3.out.lt
  go_wp2_with fail
  go_region_with (go_at_call 24; refine (Of_any _ hjm _).mono ?_; rintro e w4 ⟨rfl, hb4⟩; have hb4' := below_more hb3'.drew hb3'.size hb4; have B4 := Lib.hid ((show Blk w3.drew w2.heap.size 49 #[.int .i64 (kindP t), .string (preP t), .string i, .bool true] from B3.out).below hb4); obtain ⟨d0, d1, d2, d3, g0, g1, g2, g3⟩ := B4.out.four; rw [E4.out, E1.out]; have e2 := E2.out; clear E1 E4 E2; generalize instP (joinS (preP t) i true (kindP t)) = i', atP (joinS (preP t) i true (kindP t)) = a' at *)
  all_goals
    go_wp2_with fail
    go_ret2
    exact ⟨by first | rfl | (rw [hJ.out]; rfl), hb4'⟩
set_option maxHeartbeats 2000000 in
theorem rInstance_n4 (t i : ByteArray) (hs : t.size ≤ maxLen) (hi : i.size ≤ 140737488351232) (ht : atP t = true) (hti : (atP t && (instP t).toList.isEmpty) = true) (hi0 : i.toList.isEmpty = false) (e4 : kindP (insJ t i) = kindP t) (e1 : preP (insJ t i) = preP t) (e2 : instP (insJ t i) = i) (e3 : atP (insJ t i) = false) (w : World) :
    Calls Tryz.prog 23 #[.string t, .string i] w fun e w' => e = .returned (.tuple #[.string ⟨#[]⟩, .bool false]) ∧ Below w.heap.size w w' := by
  have hp := preP_size t
  have hj := joinS_size (preP t) i (atP t) (kindP t)
  have hJ : Hid (insJ t i = joinS (preP t) i true (kindP t)) := by unfold insJ; rw [ht]; rfl
  rw [ht] at hj
  have hjm : (joinS (preP t) i true (kindP t)).size ≤ maxLen := by unfold maxLen; omega
  rw [hJ.out] at e4 e1 e2 e3
  have E4 := Lib.hid e4
  have E1 := Lib.hid e1
  have E2 := Lib.hid e2
  have E3 := Lib.hid e3
  clear e4 e1 e2 e3
  have HT := Lib.hid hti
  clear hti
  go_enter Tryz.func23, Tryz.ntmps23
  go_wp2_with fail
  refine (rIsTemplate_any _ hs _).mono ?_
  rintro e w1 ⟨rfl, hb1⟩
  rw [HT.out]
  go_wp2_with fail
  refine (Of_any _ hs _).mono ?_
  rintro e w2 ⟨rfl, hb2⟩
  have hb2' := below_more hb1 hb1.size hb2
  clear hb1 hb2
  rw [ht]
  go_wp2_with fail
  refine (rMake_any _ _ _ _ (by omega) _).mono ?_
  rintro e w3 ⟨rfl, hb3⟩
  have B3 : Hid (Blk w3 w2.heap.size 49 #[.int .i64 (kindP t), .string (preP t), .string i, .bool true]) := (Blk.new _ _ _).below hb3
  have hb3' := below_more (hb2'.alloc hb2'.size _) (by have := hb2'.size; simp; omega) hb3
  clear hb3
  obtain ⟨c0, c1, c2, c3, f0, f1, f2, f3⟩ := B3.out.four
  have lt3 := B3.out.lt
  go_wp2_with fail
  go_region_with (go_at_call 24; refine (Of_any _ hjm _).mono ?_; rintro e w4 ⟨rfl, hb4⟩; have hb4' := below_more hb3'.drew hb3'.size hb4; have B4 := Lib.hid ((show Blk w3.drew w2.heap.size 49 #[.int .i64 (kindP t), .string (preP t), .string i, .bool true] from B3.out).below hb4); obtain ⟨d0, d1, d2, d3, g0, g1, g2, g3⟩ := B4.out.four; rw [E4.out, E1.out, E2.out, E3.out])
  all_goals
    go_wp2_with fail
    go_ret2
    exact ⟨by first | rfl | (rw [hJ.out]; rfl), hb4'⟩
set_option maxHeartbeats 1000000 in
theorem rInstance_no1 (t i : ByteArray) (hs : t.size ≤ maxLen) (ht : (atP t && (instP t).toList.isEmpty) = false) (w : World) :
    Calls Tryz.prog 23 #[.string t, .string i] w fun e w' => e = .returned (.tuple #[.string ⟨#[]⟩, .bool false]) ∧ Below w.heap.size w w' := by
  have HT := Lib.hid ht
  clear ht
  go_enter Tryz.func23, Tryz.ntmps23
  go_wp2_with fail
  refine (rIsTemplate_any _ hs _).mono ?_
  rintro e w1 ⟨rfl, hb1⟩
  rw [HT.out]
  go_wp2_with fail
  go_ret2
  exact ⟨rfl, hb1⟩
set_option maxHeartbeats 1000000 in
theorem rInstance_no2 (t i : ByteArray) (hs : t.size ≤ maxLen) (ht : (atP t && (instP t).toList.isEmpty) = true) (hi0 : i.toList.isEmpty = true) (w : World) :
    Calls Tryz.prog 23 #[.string t, .string i] w fun e w' => e = .returned (.tuple #[.string ⟨#[]⟩, .bool false]) ∧ Below w.heap.size w w' := by
  have HT := Lib.hid ht
  clear ht
  go_enter Tryz.func23, Tryz.ntmps23
  go_wp2_with fail
  refine (rIsTemplate_any _ hs _).mono ?_
  rintro e w1 ⟨rfl, hb1⟩
  rw [HT.out]
  go_wp2_with fail
  go_ret2
  exact ⟨rfl, hb1⟩
theorem kind_good (s t : ByteArray) (h : kindP s = kindP t) : goodP s = goodP t := by rw [← good_kind, ← good_kind, h]
theorem at_good (s : ByteArray) (h : atP s = true) : goodP s = true := by
  rcases hg : goodP s with _ | _
  · rw [(not_good s hg).2.2] at h; exact absurd h (by decide)
  · rfl
theorem rInstance_any (t i : ByteArray) (hs : t.size ≤ maxLen) (hi : i.size ≤ 140737488351232) (w : World) :
    Calls Tryz.prog 23 #[.string t, .string i] w fun e w' => e = .returned (.tuple #[.string (insS t i), .bool (insOk t i)]) ∧ Below w.heap.size w w' := by
  unfold insS
  rcases h1 : (atP t && (instP t).toList.isEmpty) with _ | _
  · have h : insOk t i = false := by unfold insOk; rw [h1]; rfl
    rw [h]
    exact rInstance_no1 t i hs h1 w
  · rcases h2 : i.toList.isEmpty with _ | _
    · have ⟨ha, hb⟩ : atP t = true ∧ (instP t).toList.isEmpty = true := by simpa using h1
      rcases e4 : (kindP (insJ t i) == kindP t) with _ | _
      · have h : insOk t i = false := by unfold insOk; rw [e4]; simp
        rw [h]
        exact rInstance_n1 t i hs hi ha h1 h2 e4 w
      · have e4' : kindP (insJ t i) = kindP t := by simpa using e4
        have hg : goodP (insJ t i) = true := by rw [kind_good _ _ e4']; exact at_good t ha
        rcases e1 : ((preP (insJ t i)).toList == (preP t).toList) with _ | _
        · have h : insOk t i = false := by unfold insOk; rw [h1, h2, hg, e1]; rfl
          rw [h]
          exact rInstance_n2 t i hs hi ha h1 h2 e4' e1 w
        · have e1' : preP (insJ t i) = preP t := by rw [beq_str] at e1; simpa using e1
          rcases e2 : ((instP (insJ t i)).toList == i.toList) with _ | _
          · have h : insOk t i = false := by unfold insOk; rw [h1, h2, hg, e1, e2]; rfl
            rw [h]
            exact rInstance_n3 t i hs hi ha h1 h2 e4' e1' e2 w
          · have e2' : instP (insJ t i) = i := by rw [beq_str] at e2; simpa using e2
            rcases e3 : atP (insJ t i) with _ | _
            · have h : insOk t i = false := by unfold insOk; rw [h1, h2, hg, e1, e2, e3]; rfl
              rw [h]
              exact rInstance_n4 t i hs hi ha h1 h2 e4' e1' e2' e3 w
            · have h : insOk t i = true := by unfold insOk; rw [h1, h2, hg, e1, e2, e3, e4]; rfl
              rw [h]
              exact rInstance_yes t i hs hi ha h1 h2 e1' e2' e3 e4' w
    · have h : insOk t i = false := by unfold insOk; rw [h1, h2]; rfl
      rw [h]
      exact rInstance_no2 t i hs h1 h2 w
end Go.Proofs.YthodbeeglkedcaaGreat.Nm
