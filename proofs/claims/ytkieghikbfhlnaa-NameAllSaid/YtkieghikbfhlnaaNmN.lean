/- NameTurn: an instance's template, with its instance string, is that instance; a name changed to another kind and back is what it was, and it cannot be changed only if it is no name, the kind is none, or it is longer than 53 bytes. For every string and every int. -/
import Derived.Test.YtkieghikbfhlnaaRows
import Derived.Test.YtkieghikbfhlnaaNmJ
import Derived.Test.YtkieghikbfhlnaaNmL
import Derived.Test.YtkieghikbfhlnaaNmM
import Derived.ProofKit
import Derived.OpenShut
namespace Go.Proofs.Ytkieghikbfhlnaa
open Go.RowKit Go.ChangeShapes Go.WideShapes Go.ChangeAt
open Go.ChangeMaps (open_string shut_string)

theorem empty_str (s : ByteArray) : s.toList.isEmpty = true ↔ s.data.toList = [] := by rw [Lib.toList_data]; simp
theorem empty_str' (s : ByteArray) : s.toList.isEmpty = false ↔ s.data.toList ≠ [] := by
  rw [← Bool.not_eq_true, empty_str]
theorem size_list (s : ByteArray) : s.size = s.data.toList.length := Lib.size_eq s

theorem nil_empty : (⟨#[]⟩ : ByteArray).toList.isEmpty = true := by rw [empty_str]
theorem inst_good (s : ByteArray) (h : (instP s).toList.isEmpty = false) : goodP s = true ∧ atP s = true := by
  rcases hg : goodP s with _ | _
  · rw [(not_good s hg).2.1] at h
    rw [nil_empty] at h
    exact absurd h (by decide)
  · refine ⟨rfl, ?_⟩
    rcases ha : atP s with _ | _
    · have := (parts_of s hg).2.2.2.1 ha
      rw [empty_str'] at h
      exact absurd this h
    · rfl
/-- An instance's template has it as its instance. -/
theorem turn_tmpl (s : ByteArray) (h : (instP s).toList.isEmpty = false) :
    tmplS s = joinS (preP s) ⟨#[]⟩ true (kindP s) ∧ insOk (tmplS s) (instP s) = true ∧ insS (tmplS s) (instP s) = s ∧ tmplS (tmplS s) = ⟨#[]⟩ ∧ kindP (tmplS s) = kindP s := by
  obtain ⟨hg, ha⟩ := inst_good s h
  obtain ⟨hp, hbp, hbi, _, hk, h60⟩ := parts_of s hg
  have hj := join_parts s hg
  have ht : tmplS s = joinS (preP s) ⟨#[]⟩ true (kindP s) := by unfold tmplS; rw [if_neg (by rw [h]; simp), ha]
  have hsz : (joinS (preP s) ⟨#[]⟩ true (kindP s)).size ≤ 60 := by
    have e1 : s.size = (joinS (preP s) (instP s) (atP s) (kindP s)).size := by rw [hj]
    rw [size_list (joinS _ _ _ _), joinS_list, ha] at e1
    rw [size_list, joinS_list]
    simp at e1 ⊢
    omega
  obtain ⟨g1, g2, g3, g4, g5⟩ := parse_join (preP s) ⟨#[]⟩ true (kindP s) hp hbp rfl (fun _ => rfl) hk hsz
  have hins : insJ (joinS (preP s) ⟨#[]⟩ true (kindP s)) (instP s) = s := by unfold insJ; rw [g2, g4, g5]; rw [ha] at hj; exact hj
  have hok : insOk (joinS (preP s) ⟨#[]⟩ true (kindP s)) (instP s) = true := by
    unfold insOk
    rw [hins, g2, g3, g4, g5, hg, ha, h]
    simp
  rw [ht]
  refine ⟨rfl, hok, ?_, ?_, g5⟩
  · unfold insS; rw [if_pos hok, hins]
  · unfold tmplS; rw [if_pos (by rw [g3]; exact nil_empty)]

/-- Changed to a kind and back. -/
theorem chg_back (s : ByteArray) (k : Int) (h : (chgS s k).toList.isEmpty = false) : kindP (chgS s k) = k ∧ chgS (chgS s k) (kindP s) = s := by
  by_cases hc : goodP s = true ∧ (str (sfx k)).toList.isEmpty = false ∧ goodP (joinS (preP s) (instP s) (atP s) k) = true
  · obtain ⟨hg, hk, hm⟩ := hc
    have e : chgS s k = joinS (preP s) (instP s) (atP s) k := by unfold chgS; rw [if_pos ⟨hg, hk, hm⟩]
    obtain ⟨hp, hbp, hbi, hai, hks, h60⟩ := parts_of s hg
    have hk' : sfx k ≠ [] := (empty_str' _).1 hk
    obtain ⟨g1, g2, g3, g4, g5⟩ := parse_join (preP s) (instP s) (atP s) k hp hbp hbi hai hk' (parts_of _ hm).2.2.2.2.2
    rw [e]
    refine ⟨g5, ?_⟩
    have hj := join_parts s hg
    unfold chgS
    rw [g2, g3, g4, if_pos ⟨g1, (empty_str' _).2 hks, by rw [hj]; exact hg⟩, hj]
  · unfold chgS at h
    rw [if_neg hc] at h
    rw [nil_empty] at h
    exact absurd h (by decide)
theorem chg_none (s : ByteArray) (k : Int) (h : (chgS s k).toList.isEmpty = true) : goodP s = false ∨ (str (sfx k)).toList.isEmpty = true ∨ 53 < s.size := by
  rcases hg : goodP s with _ | _
  · exact .inl rfl
  · rcases hk : (str (sfx k)).toList.isEmpty with _ | _
    · refine .inr (.inr ?_)
      obtain ⟨hp, hbp, hbi, hai, hks, h60⟩ := parts_of s hg
      have hk' : sfx k ≠ [] := (empty_str' _).1 hk
      have hj := join_parts s hg
      have e1 : s.size = (joinS (preP s) (instP s) (atP s) (kindP s)).size := by rw [hj]
      have e2 := joinS_list (preP s) (instP s) (atP s) k
      have h5 := sfx_least (kindP s) hks
      have h7 := sfx_length k
      have h7' := sfx_length (kindP s)
      by_cases hsz : (joinS (preP s) (instP s) (atP s) k).size ≤ 60
      · obtain ⟨g1, _⟩ := parse_join (preP s) (instP s) (atP s) k hp hbp hbi hai hk' hsz
        exfalso
        unfold chgS at h
        rw [if_pos ⟨hg, hk, g1⟩, empty_str] at h
        rw [h] at e2
        simp at e2
      · rw [size_list (joinS _ _ _ _), joinS_list] at e1 hsz
        rw [List.length_append, List.length_cons] at e1 hsz
        omega
    · exact .inr (.inl rfl)

set_option maxHeartbeats 2000000 in
theorem turn_0n1 (s : ByteArray) (k : Int) (hs : s.size ≤ maxLen) (hi0 : (instP s).toList.isEmpty = true) (hc : (chgS s k).toList.isEmpty = true) (hg : goodP s = false) (w : World) :
    Calls Try.prog 6 #[.string s, .int .i64 k] w fun e w' => e = .returned (.bool true) ∧ Below w.heap.size w w' := by
  have T0 : Hid (tmplS s = ⟨#[]⟩) := by unfold tmplS; rw [if_pos hi0]; rfl
  clear hi0
  have hs' := hs
  unfold maxLen at hs'
  go_enter Try.func6, Try.ntmps6
  go_wp2_with fail
  refine (shown_any _).mono ?_
  rintro e w1 ⟨rfl, hb1⟩
  go_wp2_with fail
  refine (Template_any _ hs _).mono ?_
  rintro e wT ⟨rfl, hbT⟩
  rw [T0.out]
  go_wp2_with fail
  refine (Change_any _ _ hs _).mono ?_
  rintro e wC ⟨rfl, hbC⟩
  go_wp2_with fail
  refine (May_any _ hs _).mono ?_
  rintro e wM ⟨rfl, hbM⟩
  go_wp2_with fail
  go_ret
  exact ⟨by first | rfl | exact ret_bool (decide_eq_true (by omega)), more (more (more hb1 hbT) hbC) hbM⟩

set_option maxHeartbeats 2000000 in
theorem turn_0n2 (s : ByteArray) (k : Int) (hs : s.size ≤ maxLen) (hi0 : (instP s).toList.isEmpty = true) (hc : (chgS s k).toList.isEmpty = true) (hg : goodP s = true) (hk : (str (sfx k)).toList.isEmpty = true) (w : World) :
    Calls Try.prog 6 #[.string s, .int .i64 k] w fun e w' => e = .returned (.bool true) ∧ Below w.heap.size w w' := by
  have T0 : Hid (tmplS s = ⟨#[]⟩) := by unfold tmplS; rw [if_pos hi0]; rfl
  clear hi0
  have hs' := hs
  unfold maxLen at hs'
  go_enter Try.func6, Try.ntmps6
  go_wp2_with fail
  refine (shown_any _).mono ?_
  rintro e w1 ⟨rfl, hb1⟩
  go_wp2_with fail
  refine (Template_any _ hs _).mono ?_
  rintro e wT ⟨rfl, hbT⟩
  rw [T0.out]
  go_wp2_with fail
  refine (Change_any _ _ hs _).mono ?_
  rintro e wC ⟨rfl, hbC⟩
  go_wp2_with fail
  refine (May_any _ hs _).mono ?_
  rintro e wM ⟨rfl, hbM⟩
  go_wp2_with fail
  refine (Suffix_any _ _).mono ?_
  rintro e wX ⟨rfl, rfl⟩
  go_wp2_with fail
  go_ret
  exact ⟨by first | rfl | exact ret_bool (decide_eq_true (by omega)), more (more (more hb1 hbT) hbC) hbM⟩

set_option maxHeartbeats 2000000 in
theorem turn_0n3 (s : ByteArray) (k : Int) (hs : s.size ≤ maxLen) (hi0 : (instP s).toList.isEmpty = true) (hc : (chgS s k).toList.isEmpty = true) (hg : goodP s = true) (hk : (str (sfx k)).toList.isEmpty = false) (hl : 53 < s.size) (w : World) :
    Calls Try.prog 6 #[.string s, .int .i64 k] w fun e w' => e = .returned (.bool true) ∧ Below w.heap.size w w' := by
  have T0 : Hid (tmplS s = ⟨#[]⟩) := by unfold tmplS; rw [if_pos hi0]; rfl
  clear hi0
  have hs' := hs
  unfold maxLen at hs'
  go_enter Try.func6, Try.ntmps6
  go_wp2_with fail
  refine (shown_any _).mono ?_
  rintro e w1 ⟨rfl, hb1⟩
  go_wp2_with fail
  refine (Template_any _ hs _).mono ?_
  rintro e wT ⟨rfl, hbT⟩
  rw [T0.out]
  go_wp2_with fail
  refine (Change_any _ _ hs _).mono ?_
  rintro e wC ⟨rfl, hbC⟩
  go_wp2_with fail
  refine (May_any _ hs _).mono ?_
  rintro e wM ⟨rfl, hbM⟩
  go_wp2_with fail
  refine (Suffix_any _ _).mono ?_
  rintro e wX ⟨rfl, rfl⟩
  go_wp2_with fail
  go_ret
  exact ⟨by first | rfl | exact ret_bool (decide_eq_true (by omega)), more (more (more hb1 hbT) hbC) hbM⟩

set_option maxHeartbeats 2000000 in
theorem turn_0b (s : ByteArray) (k : Int) (hs : s.size ≤ maxLen) (hi0 : (instP s).toList.isEmpty = true) (hc : (chgS s k).toList.isEmpty = false) (w : World) :
    Calls Try.prog 6 #[.string s, .int .i64 k] w fun e w' => e = .returned (.bool true) ∧ Below w.heap.size w w' := by
  have T0 : Hid (tmplS s = ⟨#[]⟩) := by unfold tmplS; rw [if_pos hi0]; rfl
  clear hi0
  obtain ⟨b1, b2⟩ := chg_back s k hc
  have hcm : (chgS s k).size ≤ maxLen := by
    unfold chgS
    have e1 := joinS_size (preP s) (instP s) (atP s) k
    have e2 := preP_size s
    have e3 := instP_size s
    have e4 : (⟨#[]⟩ : ByteArray).size = 0 := rfl
    unfold maxLen
    split <;> omega
  have B1 := Lib.hid b1
  have B2 := Lib.hid b2
  clear b1 b2
  have hs' := hs
  unfold maxLen at hs'
  go_enter Try.func6, Try.ntmps6
  go_wp2_with fail
  refine (shown_any _).mono ?_
  rintro e w1 ⟨rfl, hb1⟩
  go_wp2_with fail
  refine (Template_any _ hs _).mono ?_
  rintro e wT ⟨rfl, hbT⟩
  rw [T0.out]
  go_wp2_with fail
  refine (Change_any _ _ hs _).mono ?_
  rintro e wC ⟨rfl, hbC⟩
  go_wp2_with fail
  refine (Kind_any _ hcm _).mono ?_
  rintro e wM ⟨rfl, hbM⟩
  rw [B1.out]
  go_wp2_with fail
  refine (Kind_any _ hs _).mono ?_
  rintro e wN ⟨rfl, hbN⟩
  go_wp2_with fail
  refine (Change_any _ _ hcm _).mono ?_
  rintro e wO ⟨rfl, hbO⟩
  rw [B2.out]
  go_wp2_with fail
  go_ret
  exact ⟨by first | rfl | exact ret_bool (decide_eq_true (by omega)), more (more (more (more (more hb1 hbT) hbC) hbM) hbN) hbO⟩

set_option maxHeartbeats 2000000 in
theorem turn_1n1 (s : ByteArray) (k : Int) (hs : s.size ≤ maxLen) (hi0 : (instP s).toList.isEmpty = false) (hc : (chgS s k).toList.isEmpty = true) (hg : goodP s = false) (w : World) :
    Calls Try.prog 6 #[.string s, .int .i64 k] w fun e w' => e = .returned (.bool true) ∧ Below w.heap.size w w' := by
  obtain ⟨t0, t1, t2, t3, t4⟩ := turn_tmpl s hi0
  have htm : (tmplS s).size ≤ maxLen := by
    rw [t0]
    have e1 := joinS_size (preP s) ⟨#[]⟩ true (kindP s)
    have e2 := preP_size s
    have e3 : (⟨#[]⟩ : ByteArray).size = 0 := rfl
    unfold maxLen; omega
  have hi47 : (instP s).size ≤ 140737488351232 := by have := instP_size s; omega
  have htne : (tmplS s).toList.isEmpty = false := by
    rw [empty_str', t0, joinS_list]
    simp
  have T1 := Lib.hid t1
  have T2 := Lib.hid t2
  have T3 := Lib.hid t3
  have T4 := Lib.hid t4
  clear t0 t1 t2 t3 t4 hi0
  have hs' := hs
  unfold maxLen at hs'
  go_enter Try.func6, Try.ntmps6
  go_wp2_with fail
  refine (shown_any _).mono ?_
  rintro e w1 ⟨rfl, hb1⟩
  go_wp2_with fail
  refine (Template_any _ hs _).mono ?_
  rintro e wT ⟨rfl, hbT⟩
  go_wp2_with fail
  refine (Parts_any _ hs _).mono ?_
  rintro e wP ⟨rfl, hbP⟩
  go_wp2_with fail
  refine (Instance_any _ _ htm hi47 _).mono ?_
  rintro e wI ⟨rfl, hbI⟩
  rw [T2.out, T1.out]
  go_wp2_with fail
  refine (Template_any _ htm _).mono ?_
  rintro e wS ⟨rfl, hbS⟩
  rw [T3.out]
  go_wp2_with fail
  refine (Kind_any _ htm _).mono ?_
  rintro e wK ⟨rfl, hbK⟩
  rw [T4.out]
  go_wp2_with fail
  refine (Kind_any _ hs _).mono ?_
  rintro e wL ⟨rfl, hbL⟩
  go_wp2_with fail
  refine (Change_any _ _ hs _).mono ?_
  rintro e wC ⟨rfl, hbC⟩
  go_wp2_with fail
  refine (May_any _ hs _).mono ?_
  rintro e wM ⟨rfl, hbM⟩
  go_wp2_with fail
  go_ret
  exact ⟨by first | rfl | exact ret_bool (decide_eq_true (by omega)), more (more (more (more (more (more (more (more hb1 hbT) hbP) hbI) hbS) hbK) hbL) hbC) hbM⟩

set_option maxHeartbeats 2000000 in
theorem turn_1n2 (s : ByteArray) (k : Int) (hs : s.size ≤ maxLen) (hi0 : (instP s).toList.isEmpty = false) (hc : (chgS s k).toList.isEmpty = true) (hg : goodP s = true) (hk : (str (sfx k)).toList.isEmpty = true) (w : World) :
    Calls Try.prog 6 #[.string s, .int .i64 k] w fun e w' => e = .returned (.bool true) ∧ Below w.heap.size w w' := by
  obtain ⟨t0, t1, t2, t3, t4⟩ := turn_tmpl s hi0
  have htm : (tmplS s).size ≤ maxLen := by
    rw [t0]
    have e1 := joinS_size (preP s) ⟨#[]⟩ true (kindP s)
    have e2 := preP_size s
    have e3 : (⟨#[]⟩ : ByteArray).size = 0 := rfl
    unfold maxLen; omega
  have hi47 : (instP s).size ≤ 140737488351232 := by have := instP_size s; omega
  have htne : (tmplS s).toList.isEmpty = false := by
    rw [empty_str', t0, joinS_list]
    simp
  have T1 := Lib.hid t1
  have T2 := Lib.hid t2
  have T3 := Lib.hid t3
  have T4 := Lib.hid t4
  clear t0 t1 t2 t3 t4 hi0
  have hs' := hs
  unfold maxLen at hs'
  go_enter Try.func6, Try.ntmps6
  go_wp2_with fail
  refine (shown_any _).mono ?_
  rintro e w1 ⟨rfl, hb1⟩
  go_wp2_with fail
  refine (Template_any _ hs _).mono ?_
  rintro e wT ⟨rfl, hbT⟩
  go_wp2_with fail
  refine (Parts_any _ hs _).mono ?_
  rintro e wP ⟨rfl, hbP⟩
  go_wp2_with fail
  refine (Instance_any _ _ htm hi47 _).mono ?_
  rintro e wI ⟨rfl, hbI⟩
  rw [T2.out, T1.out]
  go_wp2_with fail
  refine (Template_any _ htm _).mono ?_
  rintro e wS ⟨rfl, hbS⟩
  rw [T3.out]
  go_wp2_with fail
  refine (Kind_any _ htm _).mono ?_
  rintro e wK ⟨rfl, hbK⟩
  rw [T4.out]
  go_wp2_with fail
  refine (Kind_any _ hs _).mono ?_
  rintro e wL ⟨rfl, hbL⟩
  go_wp2_with fail
  refine (Change_any _ _ hs _).mono ?_
  rintro e wC ⟨rfl, hbC⟩
  go_wp2_with fail
  refine (May_any _ hs _).mono ?_
  rintro e wM ⟨rfl, hbM⟩
  go_wp2_with fail
  refine (Suffix_any _ _).mono ?_
  rintro e wX ⟨rfl, rfl⟩
  go_wp2_with fail
  go_ret
  exact ⟨by first | rfl | exact ret_bool (decide_eq_true (by omega)), more (more (more (more (more (more (more (more hb1 hbT) hbP) hbI) hbS) hbK) hbL) hbC) hbM⟩

set_option maxHeartbeats 2000000 in
theorem turn_1n3 (s : ByteArray) (k : Int) (hs : s.size ≤ maxLen) (hi0 : (instP s).toList.isEmpty = false) (hc : (chgS s k).toList.isEmpty = true) (hg : goodP s = true) (hk : (str (sfx k)).toList.isEmpty = false) (hl : 53 < s.size) (w : World) :
    Calls Try.prog 6 #[.string s, .int .i64 k] w fun e w' => e = .returned (.bool true) ∧ Below w.heap.size w w' := by
  obtain ⟨t0, t1, t2, t3, t4⟩ := turn_tmpl s hi0
  have htm : (tmplS s).size ≤ maxLen := by
    rw [t0]
    have e1 := joinS_size (preP s) ⟨#[]⟩ true (kindP s)
    have e2 := preP_size s
    have e3 : (⟨#[]⟩ : ByteArray).size = 0 := rfl
    unfold maxLen; omega
  have hi47 : (instP s).size ≤ 140737488351232 := by have := instP_size s; omega
  have htne : (tmplS s).toList.isEmpty = false := by
    rw [empty_str', t0, joinS_list]
    simp
  have T1 := Lib.hid t1
  have T2 := Lib.hid t2
  have T3 := Lib.hid t3
  have T4 := Lib.hid t4
  clear t0 t1 t2 t3 t4 hi0
  have hs' := hs
  unfold maxLen at hs'
  go_enter Try.func6, Try.ntmps6
  go_wp2_with fail
  refine (shown_any _).mono ?_
  rintro e w1 ⟨rfl, hb1⟩
  go_wp2_with fail
  refine (Template_any _ hs _).mono ?_
  rintro e wT ⟨rfl, hbT⟩
  go_wp2_with fail
  refine (Parts_any _ hs _).mono ?_
  rintro e wP ⟨rfl, hbP⟩
  go_wp2_with fail
  refine (Instance_any _ _ htm hi47 _).mono ?_
  rintro e wI ⟨rfl, hbI⟩
  rw [T2.out, T1.out]
  go_wp2_with fail
  refine (Template_any _ htm _).mono ?_
  rintro e wS ⟨rfl, hbS⟩
  rw [T3.out]
  go_wp2_with fail
  refine (Kind_any _ htm _).mono ?_
  rintro e wK ⟨rfl, hbK⟩
  rw [T4.out]
  go_wp2_with fail
  refine (Kind_any _ hs _).mono ?_
  rintro e wL ⟨rfl, hbL⟩
  go_wp2_with fail
  refine (Change_any _ _ hs _).mono ?_
  rintro e wC ⟨rfl, hbC⟩
  go_wp2_with fail
  refine (May_any _ hs _).mono ?_
  rintro e wM ⟨rfl, hbM⟩
  go_wp2_with fail
  refine (Suffix_any _ _).mono ?_
  rintro e wX ⟨rfl, rfl⟩
  go_wp2_with fail
  go_ret
  exact ⟨by first | rfl | exact ret_bool (decide_eq_true (by omega)), more (more (more (more (more (more (more (more hb1 hbT) hbP) hbI) hbS) hbK) hbL) hbC) hbM⟩

set_option maxHeartbeats 2000000 in
theorem turn_1b (s : ByteArray) (k : Int) (hs : s.size ≤ maxLen) (hi0 : (instP s).toList.isEmpty = false) (hc : (chgS s k).toList.isEmpty = false) (w : World) :
    Calls Try.prog 6 #[.string s, .int .i64 k] w fun e w' => e = .returned (.bool true) ∧ Below w.heap.size w w' := by
  obtain ⟨t0, t1, t2, t3, t4⟩ := turn_tmpl s hi0
  have htm : (tmplS s).size ≤ maxLen := by
    rw [t0]
    have e1 := joinS_size (preP s) ⟨#[]⟩ true (kindP s)
    have e2 := preP_size s
    have e3 : (⟨#[]⟩ : ByteArray).size = 0 := rfl
    unfold maxLen; omega
  have hi47 : (instP s).size ≤ 140737488351232 := by have := instP_size s; omega
  have htne : (tmplS s).toList.isEmpty = false := by
    rw [empty_str', t0, joinS_list]
    simp
  have T1 := Lib.hid t1
  have T2 := Lib.hid t2
  have T3 := Lib.hid t3
  have T4 := Lib.hid t4
  clear t0 t1 t2 t3 t4 hi0
  obtain ⟨b1, b2⟩ := chg_back s k hc
  have hcm : (chgS s k).size ≤ maxLen := by
    unfold chgS
    have e1 := joinS_size (preP s) (instP s) (atP s) k
    have e2 := preP_size s
    have e3 := instP_size s
    have e4 : (⟨#[]⟩ : ByteArray).size = 0 := rfl
    unfold maxLen
    split <;> omega
  have B1 := Lib.hid b1
  have B2 := Lib.hid b2
  clear b1 b2
  have hs' := hs
  unfold maxLen at hs'
  go_enter Try.func6, Try.ntmps6
  go_wp2_with fail
  refine (shown_any _).mono ?_
  rintro e w1 ⟨rfl, hb1⟩
  go_wp2_with fail
  refine (Template_any _ hs _).mono ?_
  rintro e wT ⟨rfl, hbT⟩
  go_wp2_with fail
  refine (Parts_any _ hs _).mono ?_
  rintro e wP ⟨rfl, hbP⟩
  go_wp2_with fail
  refine (Instance_any _ _ htm hi47 _).mono ?_
  rintro e wI ⟨rfl, hbI⟩
  rw [T2.out, T1.out]
  go_wp2_with fail
  refine (Template_any _ htm _).mono ?_
  rintro e wS ⟨rfl, hbS⟩
  rw [T3.out]
  go_wp2_with fail
  refine (Kind_any _ htm _).mono ?_
  rintro e wK ⟨rfl, hbK⟩
  rw [T4.out]
  go_wp2_with fail
  refine (Kind_any _ hs _).mono ?_
  rintro e wL ⟨rfl, hbL⟩
  go_wp2_with fail
  refine (Change_any _ _ hs _).mono ?_
  rintro e wC ⟨rfl, hbC⟩
  go_wp2_with fail
  refine (Kind_any _ hcm _).mono ?_
  rintro e wM ⟨rfl, hbM⟩
  rw [B1.out]
  go_wp2_with fail
  refine (Kind_any _ hs _).mono ?_
  rintro e wN ⟨rfl, hbN⟩
  go_wp2_with fail
  refine (Change_any _ _ hcm _).mono ?_
  rintro e wO ⟨rfl, hbO⟩
  rw [B2.out]
  go_wp2_with fail
  go_ret
  exact ⟨by first | rfl | exact ret_bool (decide_eq_true (by omega)), more (more (more (more (more (more (more (more (more (more hb1 hbT) hbP) hbI) hbS) hbK) hbL) hbC) hbM) hbN) hbO⟩

theorem NameTurn_walk (s : ByteArray) (k : Int) (hs : s.size ≤ maxLen) (w : World) :
    Calls Try.prog 6 #[.string s, .int .i64 k] w fun e w' => e = .returned (.bool true) ∧ Below w.heap.size w w' := by
  rcases hc : (chgS s k).toList.isEmpty with _ | _
  · rcases hi : (instP s).toList.isEmpty with _ | _
    · exact turn_1b s k hs hi hc w
    · exact turn_0b s k hs hi hc w
  · rcases hg : goodP s with _ | _
    · rcases hi : (instP s).toList.isEmpty with _ | _
      · exact turn_1n1 s k hs hi hc hg w
      · exact turn_0n1 s k hs hi hc hg w
    · rcases hk : (str (sfx k)).toList.isEmpty with _ | _
      · have hl : 53 < s.size := by
          rcases chg_none s k hc with h | h | h
          · rw [hg] at h; exact absurd h (by decide)
          · rw [hk] at h; exact absurd h (by decide)
          · exact h
        rcases hi : (instP s).toList.isEmpty with _ | _
        · exact turn_1n3 s k hs hi hc hg hk hl w
        · exact turn_0n3 s k hs hi hc hg hk hl w
      · rcases hi : (instP s).toList.isEmpty with _ | _
        · exact turn_1n2 s k hs hi hc hg hk w
        · exact turn_0n2 s k hs hi hc hg hk w

namespace nameTurn
theorem own : ownKnob Try.prog.godebug = none := by kernel_rfl

theorem contract (H : Type) (enc : TypeId × Value → H) (W : World) (base : Nat) (args : Array Value) (ds gs : List (DataW H)) (before : List MemPlace)
    (hval : ∀ (j : Nat) t v, Try.f6.params[j]? = some t → args[j]? = some v → Value.okWide Try.prog W .any base t v)
    (hW : DataW.Whole enc Try.prog Try.f6.params.toList Rows.nameTurnSpec.vars false W args.toList ds gs before) :
    Calls Try.prog 6 args W fun e W' => ∃ v, e = .returned v ∧ Rows.nameTurnSpec.post enc Try.prog Try.f6 false true false false W args v W' := by
  have hW' := hW
  obtain ⟨p, q, hA0, hV, rfl, hfz, hnd⟩ := hW
  have hA : DataW.TrodAll enc Try.prog W 0 (fun _ => true) true Try.f6.params.toList args.toList ds p := hA0
  rw [Try.params6] at hA hval
  obtain ⟨v0, vs0, d0, ds0, p0, q0, hargs, rfl, rfl, h0, r0⟩ := trodAll_cons hA
  obtain ⟨v1, vs1, d1, ds1, p1, q1, rfl, rfl, rfl, h1, r1⟩ := trodAll_cons r0
  obtain ⟨rfl, rfl, rfl⟩ := trodAll_nil r1
  obtain rfl : args = #[v0, v1] := by cases args; simp_all
  obtain ⟨rfl, rfl⟩ := trodVars_none hV
  obtain ⟨a0, rfl, rfl, rfl, w0⟩ := open_string Try.underlying9 (hval 0 9 v0 rfl rfl) h0
  obtain ⟨a1, rfl, rfl, rfl, w1⟩ := open_int Try.underlying3 (hval 1 3 v1 rfl rfl) h1
  clear hA0
  simp only [List.append_nil] at hW'
  refine (NameTurn_walk a0 a1 w0 W).mono fun e W' ⟨he, hg⟩ => ?_
  subst he
  exact ⟨_, rfl, post_below (pa := []) (pv := []) hW' (fun _ _ _ => trodAll_cons_mk (shut_bool Try.underlying4 _) trodAll_mk0) (fun _ _ => (trodAll_cons_mk (shut_string Try.underlying9 w0) (trodAll_cons_mk (shut_int Try.underlying3 w1) trodAll_mk0))) (fun _ _ => rfl) rfl
    hg (ok_one (by kernel_rfl) rfl (okWide_bool_mk Try.underlying4 _))⟩

set_option maxRecDepth 100000 in
theorem lifted (os : Os) (started : os.Started) (H : Type) (enc : TypeId × Value → H) :
    ReturnsInHanded {} Try.checked os 6 .any (Rows.nameTurnSpec.pre6 enc Try.prog Try.f6 Rows.nameTurnRow.domain false) (Rows.nameTurnSpec.post enc Try.prog Try.f6 false true false false) := by
  refine returnsInHanded_of_change (C := Try.checked) own started (by kernel_rfl) Try.func6
    (ChangeSpec.witness6 (enc := enc) (C := Try.checked) false ⟨#[], #[.string .empty, .int .i64 0], []⟩ 8 (by kernel_rfl) (by kernel_rfl) (by kernel_rfl) (by kernel_rfl)) ?_
  intro W base args ds gs before hval hW _ _
  exact contract H enc W base args ds gs before hval hW

theorem proved : Rows.NameTurnSaid :=
  OpenClaim.holds_of_wide 6 Try.f6 rfl rfl rfl rfl rfl rfl rfl ⟨rfl, rfl, rfl, rfl, rfl⟩ rfl rfl rfl rfl rfl (by kernel_rfl) Try.func6 (by kernel_rfl)
    (of_decide_eq_true (by kernel_rfl)) (by unfold Func.isWrapper; first | (rw [if_pos (by decide +kernel)]; kernel_rfl) | (rw [if_neg (by decide +kernel)]; exact ⟨rfl, rfl⟩))
    (fun os started H enc _ => lifted os started H enc)
end nameTurn
end Go.Proofs.Ytkieghikbfhlnaa
