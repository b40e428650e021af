/- The document's own Digit, Dec. The walk of the document's Of. The walks of the document's dayName, pad, partText. The wa -/
import Derived.Test.YtncolcjejgmhjaaGreatDoorCxae
import Derived.Test.YtncolcjejgmhjaaGreatDoorCxaf
import Derived.Test.YtncolcjejgmhjaaGreatDoorCxab
import Derived.Test.YtncolcjejgmhjaaGreatDoorCxam
import Derived.Deep.OwnRows
import Derived.Deep.DeepCutAuto
import Derived.Deep.CutBlock
import Derived.Deep.LoopGhost
namespace Go.Proofs.YtncolcjejgmhjaaGreatDoor
open Go.RowKit
end Go.Proofs.YtncolcjejgmhjaaGreatDoor
namespace Go.Proofs.YtncolcjejgmhjaaGreatDoor
open Go.RowKit
theorem ret_date {a b c d e f g a' b' c' d' e' f' g' : Int} {r : Bool} (h : a = a' ∧ b = b' ∧ c = c' ∧ d = d' ∧ e = e' ∧ f = f' ∧ g = g') :
    Ending.returned (.tuple #[.agg #[.int .i64 a, .int .i64 b, .int .i64 c, .int .i64 d, .int .i64 e, .int .i64 f, .int .i64 g], .bool r]) = .returned (.tuple #[.agg #[.int .i64 a', .int .i64 b', .int .i64 c', .int .i64 d', .int .i64 e', .int .i64 f', .int .i64 g'], .bool r]) := by
  obtain ⟨rfl, rfl, rfl, rfl, rfl, rfl, rfl⟩ := h; rfl
set_option maxHeartbeats 2000000 in
theorem rOf_no (t : Int) (hb : t < 0 ∨ 6311433600 ≤ t) (w : World) :
    Calls Tryz.prog 26 #[.int .i64 t] w fun e w' => e = .returned (.tuple #[.agg #[.int .i64 0, .int .i64 0, .int .i64 0, .int .i64 0, .int .i64 0, .int .i64 0, .int .i64 0], .bool false]) ∧ Below w.heap.size w w' := by
  rcases hb with hb | hb
  · go_enter Tryz.func26, Tryz.ntmps26
    go_wp2_with fail
    exact bodyPost_ret (v := .tuple #[.agg #[.int .i64 0, .int .i64 0, .int .i64 0, .int .i64 0, .int .i64 0, .int .i64 0, .int .i64 0], .bool false]) (by simp [results, Tryz.results26, go_sem]) rfl ⟨rfl, (Below.refl _ _).alloc (Nat.le_refl _) _⟩
  · have hb0 : ¬ t < 0 := by omega
    go_enter Tryz.func26, Tryz.ntmps26
    go_wp2_with fail
    exact bodyPost_ret (v := .tuple #[.agg #[.int .i64 0, .int .i64 0, .int .i64 0, .int .i64 0, .int .i64 0, .int .i64 0, .int .i64 0], .bool false]) (by simp [results, Tryz.results26, go_sem]) rfl ⟨rfl, (Below.refl _ _).alloc (Nat.le_refl _) _⟩
set_option maxHeartbeats 4000000 in
theorem rOf_yes (t y m d hh mi ss wd : Int) (h : IsDate t y m d hh mi ss wd) (w : World) :
    Calls Tryz.prog 26 #[.int .i64 t] w fun e w' => e = .returned (.tuple #[.agg #[.int .i64 y, .int .i64 m, .int .i64 d, .int .i64 hh, .int .i64 mi, .int .i64 ss, .int .i64 wd], .bool true]) ∧ Below w.heap.size w w' := by
  have hd := h.day
  have hb := h.bd
  obtain ⟨hb0, hb1⟩ := hb
  have hn : num y m d = t / 86400 := by have := h.t_eq; have := h.h0; have := h.h1; have := h.m0; have := h.m1; have := h.s0; have := h.s1; omega
  have E : Hid (t % 86400 / 3600 = hh ∧ t % 86400 / 60 % 60 = mi ∧ t % 60 = ss ∧ (t / 86400 + 5) % 7 + 1 = wd) := by
    have := h.t_eq; have := h.h0; have := h.h1; have := h.m0; have := h.m1; have := h.s0; have := h.s1; have := h.w_eq
    exact ⟨by omega, by omega, by omega, by omega⟩
  clear h
  have hy := num_in_year hd
  rw [hn] at hy
  obtain ⟨hy0, hy1⟩ := hy
  obtain ⟨y0, y1, m0, m1, d0, d1⟩ := hd
  have HN := Lib.hid (show t / 86400 = yst y + mst y m + d - 1 by rw [← hn]; rfl)
  clear hn
  go_enter Tryz.func26, Tryz.ntmps26
  go_wp2_with fail
  go_loopw [4] (fun r wr => ∃ k : Int, 2000 ≤ k ∧ k ≤ y ∧ r = .int .i64 (t / 86400 - yst k) ∧ wr = (w.alloc (.cells #[.int .i64 0, .int .i64 0, .int .i64 0, .int .i64 0, .int .i64 0, .int .i64 0, .int .i64 0] 39)).alloc (.cells #[.int .i64 k, .int .i64 1, .int .i64 0, .int .i64 (t % 86400 / 3600), .int .i64 (t % 86400 / 60 % 60), .int .i64 (t % 60), .int .i64 ((t / 86400 + 5) % 7 + 1)] 39)) (fun r wr => (intOf r).toNat)
  case atStart => exact ⟨2000, by omega, by omega, by rw [yst_2000]; go_num, rfl⟩
  case round =>
    obtain ⟨k, hk0, hk1, rfl, rfl⟩ := hrel
    have hyk := yst_le (a := 2000) (b := k) hk0
    rw [yst_2000] at hyk
    have hyk2 : yst k ≤ t / 86400 := by have := yst_le (a := k) (b := y) hk1; omega
    by_cases hlt : k < y
    · have hsl := yst_lt hlt
      have hs := yst_succ k
      have HS := Lib.hid hs
      rcases hl : leapB k with _ | _
      all_goals
        have hp : lp k = if leapB k = true then 1 else 0 := rfl
        rw [hl] at hp
        simp only [if_true, if_false, Bool.false_eq_true] at hp
        have HP := Lib.hid hp
        have HL := Lib.hid hl
      · have g1 : 365 ≤ t / 86400 - yst k := by omega
        clear hl hs hsl hp
        go_wp2_with fail
        refine (rLeap_any k _).mono ?_
        rintro e w1 ⟨rfl, rfl⟩
        rw [HL.out]
        go_wp2_with fail
        go_roundw
        case rel => exact ⟨k + 1, by omega, by omega, by rw [HS.out, HP.out]; go_num, rfl⟩
        case measure => simp [intOf]; omega
      · have g1 : 366 ≤ t / 86400 - yst k := by omega
        clear hl hs hsl hp
        go_wp2_with fail
        refine (rLeap_any k _).mono ?_
        rintro e w1 ⟨rfl, rfl⟩
        rw [HL.out]
        go_wp2_with fail
        go_roundw
        case rel => exact ⟨k + 1, by omega, by omega, by rw [HS.out, HP.out]; go_num, rfl⟩
        case measure => simp [intOf]; omega
    · obtain rfl : k = y := by omega
      have hs := yst_succ k
      rcases hl : leapB k with _ | _
      all_goals
        have hp : lp k = if leapB k = true then 1 else 0 := rfl
        rw [hl] at hp
        simp only [if_true, if_false, Bool.false_eq_true] at hp
        have HL := Lib.hid hl
        have g0 : t / 86400 - yst k < 366 := by omega
        first
          | (have g1 : t / 86400 - yst k < 365 := by omega
             have dq : decide (t / 86400 - yst k < 365) = true := by simpa using g1)
          | (have dq : decide (t / 86400 - yst k < 366) = true := by simpa using g0)
        clear hl hs hp
        go_wp2_with fail
        refine (rLeap_any k _).mono ?_
        rintro e w1 ⟨rfl, rfl⟩
        rw [HL.out]
        go_wp2_with fail
        go_loopw [4] (fun r wr => ∃ j : Int, 1 ≤ j ∧ j ≤ m ∧ r = .int .i64 (t / 86400 - yst k - mst k j) ∧ wr = (w.alloc (.cells #[.int .i64 0, .int .i64 0, .int .i64 0, .int .i64 0, .int .i64 0, .int .i64 0, .int .i64 0] 39)).alloc (.cells #[.int .i64 k, .int .i64 j, .int .i64 0, .int .i64 (t % 86400 / 3600), .int .i64 (t % 86400 / 60 % 60), .int .i64 (t % 60), .int .i64 ((t / 86400 + 5) % 7 + 1)] 39)) (fun r wr => (intOf r).toNat)
        case atStart => exact ⟨1, by omega, by omega, by rw [mst_1]; go_num, rfl⟩
        case round =>
          obtain ⟨j, hj0, hj1, rfl, rfl⟩ := hrel
          have hj12 : j ≤ 12 := by omega
          have hs := mst_succ k j hj0 hj12
          have hm0 := mst_bd k j hj0 (by omega)
          have hdb := dim_bd k j hj0 hj12
          have HS := Lib.hid hs
          by_cases hlt2 : j < m
          · have hmo := mst_mono k hj0 (b := m) (by omega) hlt2
            have hN := HN.out
            have q1 : dim k j ≤ t / 86400 - yst k - mst k j := by omega
            clear hN hs hmo
            go_wp2_with fail
            refine (rDays_any k j _).mono ?_
            rintro e w1 ⟨rfl, rfl⟩
            go_wp2_with fail
            refine (rDays_any k j _).mono ?_
            rintro e w1 ⟨rfl, rfl⟩
            go_wp2_with fail
            go_roundw
            case rel => exact ⟨j + 1, by omega, by omega, by rw [HS.out]; go_num, rfl⟩
            case measure => simp [intOf]; omega
          · have hjm : j = m := by omega
            clear hs
            subst hjm
            have hN := HN.out
            have q1 : t / 86400 - yst k - mst k j < dim k j := by omega
            have q2 : t / 86400 - yst k - mst k j = d - 1 := by omega
            have Q2 := Lib.hid q2
            clear hN q2 hlt2
            go_wp2_with fail
            refine (rDays_any k j _).mono ?_
            rintro e w1 ⟨rfl, rfl⟩
            go_wp2_with fail
            exact bodyPost_ret (v := .tuple #[.agg #[.int .i64 k, .int .i64 j, .int .i64 (t / 86400 - yst k - mst k j + 1), .int .i64 (t % 86400 / 3600), .int .i64 (t % 86400 / 60 % 60), .int .i64 (t % 60), .int .i64 ((t / 86400 + 5) % 7 + 1)], .bool true]) (by simp [results, Tryz.results26, go_sem]) rfl
              ⟨ret_date ⟨rfl, rfl, by have := Q2.out; omega, E.out.1, E.out.2.1, E.out.2.2.1, E.out.2.2.2⟩, (Below.refl _ _).alloc (Nat.le_refl _) _ |>.alloc (by simp) _⟩
theorem rOf_any (t : Int) (w : World) :
    Calls Tryz.prog 26 #[.int .i64 t] w fun e w' => e = .returned (.tuple #[.agg #[.int .i64 (fY t), .int .i64 (fM t), .int .i64 (fD t), .int .i64 (fH t), .int .i64 (fI t), .int .i64 (fS t), .int .i64 (fW t)], .bool (isT t)]) ∧ Below w.heap.size w w' := by
  rcases ht : isT t with _ | _
  · obtain ⟨e1, e2, e3, e4, e5, e6, e7⟩ := date_no ht
    have hb : t < 0 ∨ 6311433600 ≤ t := by
      have : ¬ isT t = true := by rw [ht]; simp
      rw [isT_iff] at this; omega
    rw [e1, e2, e3, e4, e5, e6, e7]
    exact rOf_no t hb w
  · exact rOf_yes t _ _ _ _ _ _ _ (date_of ht) w
end Go.Proofs.YtncolcjejgmhjaaGreatDoor
namespace Go.Proofs.YtncolcjejgmhjaaGreatDoor
open Go.RowKit
end Go.Proofs.YtncolcjejgmhjaaGreatDoor
namespace Go.Proofs.YtncolcjejgmhjaaGreatDoor
open Go.RowKit
theorem may_fld {l : Cl} (h : mayC l = true) {f : Nat} (hf : f ≤ 5) : mayF f (l.fld f) = true := by
  obtain ⟨_, m1, m2, m3, m4, m5, m6⟩ := (mayC_iff l).1 h
  rcases f_cases hf with rfl | rfl | rfl | rfl | rfl | rfl <;> assumption
end Go.Proofs.YtncolcjejgmhjaaGreatDoor
namespace Go.Proofs.YtncolcjejgmhjaaGreatDoor
open Go.RowKit
set_option maxHeartbeats 4000000 in
theorem weekday_any (c : Ch) (l : Cl) (d : Int) (w : World) (hc : CalAt w w.heap.size c l) :
    Calls Tryz.prog 28 #[.agg c.cells, .int .i64 d] w fun e w' => e = .returned (.bool (dayB l.ds d)) ∧ Below w.heap.size w w' := by
  have HC := Lib.hid hc
  clear hc
  obtain ⟨⟨dA, dn, dc⟩, y, m, t, h, i, s⟩ := c
  have HD : Hid (IntsAt w w.heap.size dA dn l.ds) := HC.out.1
  have hn := HD.out.2.1
  unfold maxLen at hn
  obtain ⟨em, hem⟩ : ∃ em : Bool, (((dn : Int) == 0) = em) := ⟨_, rfl⟩
  have HE : Hid (l.ds.isEmpty = em) := by
    show _ = _
    rw [← hem, ← HD.out.1]
    cases l.ds <;> simp
    omega
  unfold Ch.cells
  go_enter Tryz.func28, Tryz.ntmps28
  go_wp2_with fail
  go_loop [5, 15] (fun x i => ∃ (k : Nat) (b : Bool), k ≤ dn ∧ i = .int .i64 k ∧ x = .bool b ∧ Hid (b = (l.ds.isEmpty || (l.ds.take k).contains d))) (fun _ i => dn - (intOf i).toNat)
  case atStart => exact ⟨0, em, Nat.zero_le _, rfl, rfl, by show _ = _; rw [HE.out]; simp⟩
  case round =>
    obtain ⟨k, b, hk, rfl, rfl, hb⟩ := hrel
    by_cases hlt : k < dn
    · obtain ⟨ad, rfl, hbl, hcell⟩ := HD.out.at_ hlt
      have hkl : k < l.ds.length := by rw [HD.out.1]; exact hlt
      have HT : Hid ((l.ds.take (k + 1)).contains d = ((l.ds.take k).contains d || (l.ds.getD k 0 == d))) := by
        show _ = _
        rw [List.take_add_one, List.getElem?_eq_getElem hkl]
        rw [List.contains_eq_any_beq, List.contains_eq_any_beq, List.any_append]
        congr 1
        simp [List.getD, List.getElem?_eq_getElem hkl]
        rw [Bool.eq_iff_iff]; simp
        exact eq_comm
      generalize l.ds.getD k 0 = x at hcell HT
      have hcA : ∀ o : Obj, (w.alloc o).cell? (ad.add k) = some (.int .i64 x) := fun o => (World.cell?_alloc_lt w o _ (by rw [block_of_add]; exact hbl)).trans hcell
      clear hcell hkl
      have HN : Hid ((b || (x == d)) = (l.ds.isEmpty || (l.ds.take (k + 1)).contains d)) := by
        show _ = _
        rw [HT.out, hb.out, Bool.or_assoc]
      cases b with
      | true =>
        go_wp2_with fail
        go_round
        case rel => exact ⟨k + 1, true, by omega, by go_num, rfl, by have e := HN.out; rw [Bool.true_or] at e; exact e⟩
        case measure => simp [intOf]; omega
      | false =>
        go_wp2_with fail
        go_round
        case rel => exact ⟨k + 1, x == d, by omega, by go_num, rfl, by have e := HN.out; rw [Bool.false_or] at e; exact e⟩
        case measure => simp [intOf]; omega
    · obtain rfl : k = dn := by omega
      have HF : Hid (b = dayB l.ds d) := by
        have e := hb.out
        rw [List.take_of_length_le (by rw [HD.out.1]; exact Nat.le_refl _)] at e
        exact e
      clear hlt
      go_wp2_with fail
      go_ret
      exact ⟨ret_bool HF.out, (Below.refl _ _).alloc (Nat.le_refl _) _⟩
end Go.Proofs.YtncolcjejgmhjaaGreatDoor
namespace Go.Proofs.YtncolcjejgmhjaaGreatDoor
open Go.RowKit
set_option maxRecDepth 1000000 in
theorem zeroMarks : (Tryz.prog.info? 53).bind (·.zero) = some (.agg (Array.replicate 2200 (.bool false))) := by kernel_rfl
theorem sizeMarks : (Tryz.prog.info? 53).map (·.size) = some 2200 := by kernel_rfl
section
variable {P : Program}
theorem run_alloc_big (t : TypeId) (z : Value) (h : (P.info? t).bind (·.zero) = some z) (w : World) :
    (Instr.alloc t true (.tuple #[])).run P w = .ok (.pointer (some ⟨w.heap.size, 0, none⟩)) (w.alloc (.cells z.cells t)) := by
  cases hq : P.info? t with
  | none => rw [hq] at h; cases h
  | some i =>
    rw [hq] at h
    have hz : i.zero = some z := h
    simp [Instr.alloc, zeroValue, typeInfo, hq, hz, newVar]
    rfl
theorem wpList_alloc_big {ops : Array Oper} {rest : List Oper} {o : Oper} {a : Act} {w : World} {Q : Exit → Act → World → Prop} (hgd : o.guard = none) (t : TypeId) (ho : o.op = .alloc t)
    (z : Value) (hz : (P.info? t).bind (·.zero) = some z)
    (h : wpList P ops Q rest (a.put o.dst (.pointer (some ⟨w.heap.size, 0, none⟩))) (w.alloc (.cells z.cells t))) : wpList P ops Q (o :: rest) a w :=
  wpList_plain hgd fun _ hK => by
    unfold Oper.wp execOp
    simp only [ho, Sem.run_bind, Sem.run_pure, Result.andThen_ok, run_alloc_big t z hz]
    exact hK _ _ h
end
theorem pt_bd {f : Nat} {p : Pt} (h : mayP f p = true) : 0 ≤ ptA f p ∧ ptB f p ≤ 2199 ∧ ptA f p ≤ 2199 := by
  have hi := (mayP_iff f p).1 h
  have hl := lo_bd f
  unfold ptA ptB
  refine ⟨?_, ?_, ?_⟩
  · split <;> omega
  · split
    · omega
    · split
      · split <;> omega
      · omega
  · split <;> omega
theorem step_in {f : Nat} {p : Pt} {N S : Int} {j : Int} (hS : ptS p = S) (hS0 : 1 ≤ S) (hA : ptA f p ≤ N) (hm : (N - ptA f p) % S = 0) (hNB : N ≤ ptB f p) :
    (inP f p j && decide (j < N + S)) = (decide (j = N) || (inP f p j && decide (j < N))) := by
  rw [Bool.eq_iff_iff]
  simp only [Bool.and_eq_true, Bool.or_eq_true, decide_eq_true_eq, inP_iff, hS]
  constructor
  · rintro ⟨⟨h1, h2, h3⟩, h4⟩
    by_cases e : j = N
    · exact .inl e
    · right
      refine ⟨⟨h1, h2, h3⟩, ?_⟩
      by_cases hl : j < N
      · exact hl
      · exfalso
        have d1 := Int.dvd_of_emod_eq_zero hm
        have d2 := Int.dvd_of_emod_eq_zero h3
        have d3 := Int.dvd_sub d2 d1
        rw [show j - ptA f p - (N - ptA f p) = j - N by omega] at d3
        have := Int.le_of_dvd (by omega) d3
        omega
  · rintro (rfl | ⟨h, h4⟩)
    · exact ⟨⟨hA, hNB, hm⟩, by omega⟩
    · exact ⟨h, by omega⟩
theorem end_in {f : Nat} {p : Pt} {N j : Int} (h : ptB f p < N) : (inP f p j && decide (j < N)) = inP f p j := by
  rw [Bool.eq_iff_iff]
  simp only [Bool.and_eq_true, decide_eq_true_eq, inP_iff]
  constructor
  · exact fun h => h.1
  · intro h'; exact ⟨h', by omega⟩
theorem take_in {f : Nat} {l : List Pt} {k : Nat} {p : Pt} (h : l[k]? = some p) (j : Int) : inF f (l.take (k + 1)) j = (inF f (l.take k) j || inP f p j) := by
  have e : l.take (k + 1) = l.take k ++ [p] := by rw [List.take_add_one, h]; rfl
  rw [e, inF_app]
  congr 1
  simp [inF]
def NumsPost (f : Nat) (l : List Pt) (w : World) (e : Ending) (w' : World) : Prop :=
  ∃ C : Array Value, e = .returned (.agg C) ∧ C.size = 2200 ∧ (∀ j, j < 2200 → C[j]? = some (.bool (inF f l j))) ∧ Below w.heap.size w w'
set_option maxRecDepth 100000 in
set_option maxHeartbeats 4000000 in
theorem numbers_any (A : Option Addr) (n c : Nat) (f : Nat) (l : List Pt) (hf : f ≤ 5) (hm : mayF f l = true) (w : World) (hl : PtsAt w w.heap.size A n l) :
    Calls Tryz.prog 24 #[.slice A n c, .int .i64 f] w (NumsPost f l w) := by
  have HL := Lib.hid hl
  have HM := Lib.hid ((mayF_iff f l).1 hm)
  have hn4 : n ≤ 4 := by have := HL.out.1; have := HM.out.1.2; omega
  clear hl hm
  go_enter Tryz.func24, Tryz.ntmps24
  go_wp2_with (refine wpList_alloc_big rfl 53 rfl (.agg (Array.replicate 2200 (.bool false))) zeroMarks ?_)
  have HR0 : Hid (((w.alloc (.cells (Array.replicate 2200 (.bool false)) 53)).alloc (.cells (Array.replicate 2200 (.bool false)) 53)).rowIs w.heap.size 53 2200 (fun _ => .bool false)) := by
    have h := World.rowIs_alloc w (Array.replicate 2200 (.bool false)) 53 (fun _ => .bool false) (fun i hi => by rw [Array.size_replicate] at hi; simp [hi])
    rw [Array.size_replicate] at h
    exact h.alloc _
  have HR1 : Hid (((w.alloc (.cells (Array.replicate 2200 (.bool false)) 53)).alloc (.cells (Array.replicate 2200 (.bool false)) 53)).rowIs (w.heap.size + 1) 53 2200 (fun j => .bool (inF f (l.take 0) j))) := by
    have h := World.rowIs_alloc (w.alloc (.cells (Array.replicate 2200 (.bool false)) 53)) (Array.replicate 2200 (.bool false)) 53 (fun j => .bool (inF f (l.take 0) j)) (fun i hi => by rw [Array.size_replicate] at hi; simp [hi, inF])
    rw [Array.size_replicate] at h
    have e : (w.alloc (.cells (Array.replicate 2200 (.bool false)) 53)).heap.size = w.heap.size + 1 := by simp
    rw [e] at h
    exact h
  have HB0 : Hid (Below w.heap.size w ((w.alloc (.cells (Array.replicate 2200 (.bool false)) 53)).alloc (.cells (Array.replicate 2200 (.bool false)) 53))) := ((Below.refl _ _).alloc (Nat.le_refl _) _).alloc (by simp) _
  go_loopw [14] (fun x wr => ∃ k : Nat, k ≤ n ∧ x = .int .i64 k ∧ Hid (wr.rowIs w.heap.size 53 2200 (fun _ => .bool false)) ∧ Hid (wr.rowIs (w.heap.size + 1) 53 2200 (fun j => .bool (inF f (l.take k) j))) ∧ Hid (Below w.heap.size w wr)) (fun x wr => n - (intOf x).toNat)
  case atStart => exact ⟨0, Nat.zero_le _, rfl, HR0, HR1, HB0⟩
  case round =>
    obtain ⟨k, hk, rfl, hr0, hr1, hb⟩ := hrel
    have hz := hr1.out.lt
    by_cases hlt : k < n
    · obtain ⟨ad, p, rfl, hbl, hlk, e0, e1, e2⟩ := (HL.out.below hb.out).at_ hlt
      have hmp := (mayP_iff f p).1 (HM.out.2 p (List.mem_of_getElem? hlk))
      have hmpp := Lib.hid (HM.out.2 p (List.mem_of_getElem? hlk))
      have HLK := Lib.hid hlk
      obtain ⟨pa, pb, ps⟩ := p
      simp only at hmp
      clear hlk
      obtain ⟨s0, s1, hab⟩ := hmp
      by_cases cs : ps < 1
      · have hs : ps = 0 := by omega
        subst hs
        have HS := Lib.hid (show ptS ⟨pa, pb, 0⟩ = 1 from rfl)
        clear cs
        go_wp2_with fail
        go_quiet (fail)
        have HB0 : Hid (Below wr.heap.size wr ((wr.alloc (.cells #[.int .i64 pa, .int .i64 pb, .int .i64 0] 58)).drewN nq)) := below_drewN ((Below.refl _ _).alloc (Nat.le_refl _) _) _
        go_upto_if 26 with fail
        go_cut [8, 9] (fun x8 x9 wx => x8 = .int .i64 (ptA f ⟨pa, pb, 0⟩) ∧ x9 = .int .i64 (ptB f ⟨pa, pb, 0⟩) ∧ Hid (Below wr.heap.size wr wx))
        case first =>
          by_cases ca : pa = -1
          · have ca' : (pa == -1) = true := by simp [ca]
            have HA := Lib.hid (show ptA f ⟨pa, pb, 0⟩ = lo f by unfold ptA; rw [if_pos ca])
            have HBB := Lib.hid (show ptB f ⟨pa, pb, 0⟩ = hi f by unfold ptB; rw [if_pos ca])
            clear ca hab
            go_wp2_with fail
            refine (least_any f hf _).mono ?_
            rintro e w2 ⟨rfl, hb2⟩
            have HB2 := Lib.hid (more3 HB0.out HB0.out.size hb2)
            clear hb2
            go_wp2_with fail
            refine (most_any f hf _).mono ?_
            rintro e w3 ⟨rfl, hb3⟩
            have HB3 := Lib.hid (more3 HB2.out HB2.out.size hb3)
            clear hb3
            go_wp2_with fail
            go_meet
            exact ⟨by rw [HA.out], by rw [HBB.out], HB3⟩
          · have ca' : (pa == -1) = false := by simpa using ca
            have HA := Lib.hid (show ptA f ⟨pa, pb, 0⟩ = pa by unfold ptA; rw [if_neg ca])
            have u1 : (0 : Nat) ≤ 1 := Nat.zero_le _
            by_cases cb : pb = -1
            · have cb' : (pb == -1) = true := by simp [cb]
              have HBB := Lib.hid (show ptB f ⟨pa, pb, 0⟩ = pa by unfold ptB; rw [if_neg ca, if_pos cb, if_pos rfl])
              clear ca cb hab
              go_wp2_with fail
              go_meet
              exact ⟨by rw [HA.out], by rw [HBB.out], HB0⟩
            · have cb' : (pb == -1) = false := by simpa using cb
              have HBB := Lib.hid (show ptB f ⟨pa, pb, 0⟩ = pb by unfold ptB; rw [if_neg ca, if_neg cb])
              have u2 : (0 : Nat) ≤ 2 := Nat.zero_le _
              clear ca cb hab
              go_wp2_with fail
              go_meet
              exact ⟨by rw [HA.out], by rw [HBB.out], HB0⟩
        case rest =>
          obtain ⟨rfl, rfl, hbx⟩ := hcut
          have hmarks : 0 ≤ ptA f ⟨pa, pb, 0⟩ ∧ ptB f ⟨pa, pb, 0⟩ ≤ 2199 ∧ ptA f ⟨pa, pb, 0⟩ ≤ 2199 := pt_bd hmpp.out
          obtain ⟨hA0, hB1, hA1⟩ := hmarks
          generalize hgA : ptA f ⟨pa, pb, 0⟩ = fa at hA0 hA1
          generalize hgB : ptB f ⟨pa, pb, 0⟩ = fb at hB1
          have HGA := Lib.hid hgA
          have HGB := Lib.hid hgB
          have hxz : w.heap.size + 1 < wc.heap.size := Nat.lt_of_lt_of_le hz hbx.out.size
          have hx0 := Lib.hid (hr0.out.of_block (hbx.out.block _ hr0.out.lt))
          have hx1 := Lib.hid (hr1.out.of_block (hbx.out.block _ hr1.out.lt))
          have hxb := Lib.hid (more3 hb.out hb.out.size hbx.out)
          have hm0 : Hid ((((fa.toNat : Nat) : Int) - fa) % 1 = 0) := by
            show _ % _ = 0
            rw [show ((fa.toNat : Nat) : Int) - fa = 0 by omega, Int.zero_emod]
          have hrow0 : Hid (wc.rowIs (w.heap.size + 1) 53 2200 (fun j => .bool (inF f (l.take k) j || (inP f ⟨pa, pb, 0⟩ j && decide ((j : Int) < ((fa.toNat : Nat) : Int)))))) := by
            refine hx1.out.congr fun j hj => ?_
            have : (inP f ⟨pa, pb, 0⟩ (j : Int) && decide ((j : Int) < ((fa.toNat : Nat) : Int))) = false := by
              rw [Bool.and_eq_false_iff]
              by_cases hi' : inP f ⟨pa, pb, 0⟩ (j : Int) = true
              · right
                have h2 := ((inP_iff f ⟨pa, pb, 0⟩ j).1 hi').1
                rw [HGA.out] at h2
                exact decide_eq_false (by omega)
              · left; simpa using hi'
            rw [this, Bool.or_false]
          clear hgA hgB hab
          go_wp2_with fail
          go_loopw [11] (fun x wi => ∃ N : Nat, x = .int .i64 N ∧ fa ≤ N ∧ (N : Int) ≤ 13000 ∧ Hid (((N : Int) - fa) % 1 = 0) ∧ Hid (wi.rowIs w.heap.size 53 2200 (fun _ => .bool false)) ∧ Hid (wi.rowIs (w.heap.size + 1) 53 2200 (fun j => .bool (inF f (l.take k) j || (inP f ⟨pa, pb, 0⟩ j && decide ((j : Int) < N))))) ∧ Hid (Below w.heap.size w wi)) (fun x _ => (fb + 1 - intOf x).toNat)
          case atStart => exact ⟨fa.toNat, by congr 1; omega, by omega, by omega, hm0, hx0, hrow0, hxb⟩
          case round =>
            obtain ⟨N, rfl, hN0, hN1, hNm, hw0, hw1, hwb⟩ := hrel
            by_cases hNB : (N : Int) ≤ fb
            · have hN22 : N < 2200 := by omega
              have hNi : (N : Int) < 2200 := by omega
              have hNn : (0 : Int) ≤ (N : Int) := by omega
              have hcell := hw1.out.cell hN22
              have hfro := hw1.out.frozen N
              have hzi := hw1.out.lt
              have hnm : Hid ((((N + (1 : Int).toNat : Nat) : Int) - fa) % 1 = 0) := by
                show _ % _ = 0
                rw [show ((N + (1 : Int).toNat : Nat) : Int) - fa = (N : Int) - fa + 1 by omega, Int.add_emod_right]
                exact hNm.out
              have hrow : Hid ((wr.setCell ⟨w.heap.size + 1, N, none⟩ (.bool true)).rowIs (w.heap.size + 1) 53 2200 (fun j => .bool (inF f (l.take k) j || (inP f ⟨pa, pb, 0⟩ j && decide ((j : Int) < ((N + (1 : Int).toNat : Nat) : Int)))))) := by
                refine (hw1.out.set N (.bool true)).congr fun j hj => ?_
                have hst := step_in (f := f) (p := ⟨pa, pb, 0⟩) (N := N) (S := 1) (j := j) HS.out (by omega) (by rw [HGA.out]; exact hN0) (by rw [HGA.out]; exact hNm.out) (by rw [HGB.out]; exact hNB)
                rw [show ((N + (1 : Int).toNat : Nat) : Int) = (N : Int) + 1 by omega, hst]
                by_cases e : j = N
                · rw [if_pos e, decide_eq_true (show (j : Int) = N by omega)]; simp
                · rw [if_neg e, decide_eq_false (show ¬ (j : Int) = N by omega), Bool.false_or]
              have hrow0' : Hid ((wr.setCell ⟨w.heap.size + 1, N, none⟩ (.bool true)).rowIs w.heap.size 53 2200 (fun _ => .bool false)) := hw0.out.setOther (by show w.heap.size ≠ w.heap.size + 1; omega) _
              have hwb' : Hid (Below w.heap.size w (wr.setCell ⟨w.heap.size + 1, N, none⟩ (.bool true))) := hwb.out.setCell (by show w.heap.size ≤ w.heap.size + 1; omega) _
              go_wp2_with fail
              go_roundw
              case rel => exact ⟨N + (1 : Int).toNat, by go_num, by omega, by omega, hnm, hrow0', hrow, hwb'⟩
              case measure => simp [intOf]; omega
            · have hNB' : fb < (N : Int) := by omega
              have hrow : Hid (wr.rowIs (w.heap.size + 1) 53 2200 (fun j => .bool (inF f (l.take (k + 1)) j))) := by
                refine hw1.out.congr fun j hj => ?_
                rw [take_in HLK.out, end_in (by rw [HGB.out]; exact hNB')]
              clear hNB
              go_wp2_with fail
              go_roundw
              case rel => exact ⟨k + 1, by omega, by go_num, hw0, hrow, hwb⟩
              case measure => simp [intOf]; omega
      · have cs' : 1 ≤ ps := by omega
        have HS := Lib.hid (show ptS ⟨pa, pb, ps⟩ = ps by unfold ptS; show max ps 1 = ps; omega)
        clear cs
        go_wp2_with fail
        go_quiet (fail)
        have HB0 : Hid (Below wr.heap.size wr ((wr.alloc (.cells #[.int .i64 pa, .int .i64 pb, .int .i64 ps] 58)).drewN nq)) := below_drewN ((Below.refl _ _).alloc (Nat.le_refl _) _) _
        go_upto_if 26 with fail
        go_cut [8, 9] (fun x8 x9 wx => x8 = .int .i64 (ptA f ⟨pa, pb, ps⟩) ∧ x9 = .int .i64 (ptB f ⟨pa, pb, ps⟩) ∧ Hid (Below wr.heap.size wr wx))
        case first =>
          by_cases ca : pa = -1
          · have ca' : (pa == -1) = true := by simp [ca]
            have HA := Lib.hid (show ptA f ⟨pa, pb, ps⟩ = lo f by unfold ptA; rw [if_pos ca])
            have HBB := Lib.hid (show ptB f ⟨pa, pb, ps⟩ = hi f by unfold ptB; rw [if_pos ca])
            clear ca hab
            go_wp2_with fail
            refine (least_any f hf _).mono ?_
            rintro e w2 ⟨rfl, hb2⟩
            have HB2 := Lib.hid (more3 HB0.out HB0.out.size hb2)
            clear hb2
            go_wp2_with fail
            refine (most_any f hf _).mono ?_
            rintro e w3 ⟨rfl, hb3⟩
            have HB3 := Lib.hid (more3 HB2.out HB2.out.size hb3)
            clear hb3
            go_wp2_with fail
            go_meet
            exact ⟨by rw [HA.out], by rw [HBB.out], HB3⟩
          · have ca' : (pa == -1) = false := by simpa using ca
            have HA := Lib.hid (show ptA f ⟨pa, pb, ps⟩ = pa by unfold ptA; rw [if_neg ca])
            have u1 : (0 : Nat) ≤ 1 := Nat.zero_le _
            by_cases cb : pb = -1
            · have cb' : (pb == -1) = true := by simp [cb]
              have HBB := Lib.hid (show ptB f ⟨pa, pb, ps⟩ = hi f by unfold ptB; rw [if_neg ca, if_pos cb, if_neg (show ¬ ps = 0 by omega)])
              have cz : (ps == 0) = false := by simp; omega
              clear ca cb hab
              go_wp2_with fail
              refine (most_any f hf _).mono ?_
              rintro e w3 ⟨rfl, hb3⟩
              have HB3 := Lib.hid (more3 HB0.out HB0.out.size hb3)
              clear hb3
              go_wp2_with fail
              go_meet
              exact ⟨by rw [HA.out], by rw [HBB.out], HB3⟩
            · have cb' : (pb == -1) = false := by simpa using cb
              have HBB := Lib.hid (show ptB f ⟨pa, pb, ps⟩ = pb by unfold ptB; rw [if_neg ca, if_neg cb])
              have u2 : (0 : Nat) ≤ 2 := Nat.zero_le _
              clear ca cb hab
              go_wp2_with fail
              go_meet
              exact ⟨by rw [HA.out], by rw [HBB.out], HB0⟩
        case rest =>
          obtain ⟨rfl, rfl, hbx⟩ := hcut
          have hmarks : 0 ≤ ptA f ⟨pa, pb, ps⟩ ∧ ptB f ⟨pa, pb, ps⟩ ≤ 2199 ∧ ptA f ⟨pa, pb, ps⟩ ≤ 2199 := pt_bd hmpp.out
          obtain ⟨hA0, hB1, hA1⟩ := hmarks
          generalize hgA : ptA f ⟨pa, pb, ps⟩ = fa at hA0 hA1
          generalize hgB : ptB f ⟨pa, pb, ps⟩ = fb at hB1
          have HGA := Lib.hid hgA
          have HGB := Lib.hid hgB
          have hxz : w.heap.size + 1 < wc.heap.size := Nat.lt_of_lt_of_le hz hbx.out.size
          have hx0 := Lib.hid (hr0.out.of_block (hbx.out.block _ hr0.out.lt))
          have hx1 := Lib.hid (hr1.out.of_block (hbx.out.block _ hr1.out.lt))
          have hxb := Lib.hid (more3 hb.out hb.out.size hbx.out)
          have hm0 : Hid ((((fa.toNat : Nat) : Int) - fa) % ps = 0) := by
            show _ % _ = 0
            rw [show ((fa.toNat : Nat) : Int) - fa = 0 by omega, Int.zero_emod]
          have hrow0 : Hid (wc.rowIs (w.heap.size + 1) 53 2200 (fun j => .bool (inF f (l.take k) j || (inP f ⟨pa, pb, ps⟩ j && decide ((j : Int) < ((fa.toNat : Nat) : Int)))))) := by
            refine hx1.out.congr fun j hj => ?_
            have : (inP f ⟨pa, pb, ps⟩ (j : Int) && decide ((j : Int) < ((fa.toNat : Nat) : Int))) = false := by
              rw [Bool.and_eq_false_iff]
              by_cases hi' : inP f ⟨pa, pb, ps⟩ (j : Int) = true
              · right
                have h2 := ((inP_iff f ⟨pa, pb, ps⟩ j).1 hi').1
                rw [HGA.out] at h2
                exact decide_eq_false (by omega)
              · left; simpa using hi'
            rw [this, Bool.or_false]
          clear hgA hgB hab
          go_wp2_with fail
          go_loopw [11] (fun x wi => ∃ N : Nat, x = .int .i64 N ∧ fa ≤ N ∧ (N : Int) ≤ 13000 ∧ Hid (((N : Int) - fa) % ps = 0) ∧ Hid (wi.rowIs w.heap.size 53 2200 (fun _ => .bool false)) ∧ Hid (wi.rowIs (w.heap.size + 1) 53 2200 (fun j => .bool (inF f (l.take k) j || (inP f ⟨pa, pb, ps⟩ j && decide ((j : Int) < N))))) ∧ Hid (Below w.heap.size w wi)) (fun x _ => (fb + 1 - intOf x).toNat)
          case atStart => exact ⟨fa.toNat, by congr 1; omega, by omega, by omega, hm0, hx0, hrow0, hxb⟩
          case round =>
            obtain ⟨N, rfl, hN0, hN1, hNm, hw0, hw1, hwb⟩ := hrel
            by_cases hNB : (N : Int) ≤ fb
            · have hN22 : N < 2200 := by omega
              have hNi : (N : Int) < 2200 := by omega
              have hNn : (0 : Int) ≤ (N : Int) := by omega
              have hcell := hw1.out.cell hN22
              have hfro := hw1.out.frozen N
              have hzi := hw1.out.lt
              have hnm : Hid ((((N + (ps : Int).toNat : Nat) : Int) - fa) % ps = 0) := by
                show _ % _ = 0
                rw [show ((N + (ps : Int).toNat : Nat) : Int) - fa = (N : Int) - fa + ps by omega, Int.add_emod_right]
                exact hNm.out
              have hrow : Hid ((wr.setCell ⟨w.heap.size + 1, N, none⟩ (.bool true)).rowIs (w.heap.size + 1) 53 2200 (fun j => .bool (inF f (l.take k) j || (inP f ⟨pa, pb, ps⟩ j && decide ((j : Int) < ((N + (ps : Int).toNat : Nat) : Int)))))) := by
                refine (hw1.out.set N (.bool true)).congr fun j hj => ?_
                have hst := step_in (f := f) (p := ⟨pa, pb, ps⟩) (N := N) (S := ps) (j := j) HS.out (by omega) (by rw [HGA.out]; exact hN0) (by rw [HGA.out]; exact hNm.out) (by rw [HGB.out]; exact hNB)
                rw [show ((N + (ps : Int).toNat : Nat) : Int) = (N : Int) + ps by omega, hst]
                by_cases e : j = N
                · rw [if_pos e, decide_eq_true (show (j : Int) = N by omega)]; simp
                · rw [if_neg e, decide_eq_false (show ¬ (j : Int) = N by omega), Bool.false_or]
              have hrow0' : Hid ((wr.setCell ⟨w.heap.size + 1, N, none⟩ (.bool true)).rowIs w.heap.size 53 2200 (fun _ => .bool false)) := hw0.out.setOther (by show w.heap.size ≠ w.heap.size + 1; omega) _
              have hwb' : Hid (Below w.heap.size w (wr.setCell ⟨w.heap.size + 1, N, none⟩ (.bool true))) := hwb.out.setCell (by show w.heap.size ≤ w.heap.size + 1; omega) _
              go_wp2_with fail
              go_roundw
              case rel => exact ⟨N + (ps : Int).toNat, by go_num, by omega, by omega, hnm, hrow0', hrow, hwb'⟩
              case measure => simp [intOf]; omega
            · have hNB' : fb < (N : Int) := by omega
              have hrow : Hid (wr.rowIs (w.heap.size + 1) 53 2200 (fun j => .bool (inF f (l.take (k + 1)) j))) := by
                refine hw1.out.congr fun j hj => ?_
                rw [take_in HLK.out, end_in (by rw [HGB.out]; exact hNB')]
              clear hNB
              go_wp2_with fail
              go_roundw
              case rel => exact ⟨k + 1, by omega, by go_num, hw0, hrow, hwb⟩
              case measure => simp [intOf]; omega
    · obtain rfl : k = n := by omega
      have HF : Hid (wr.rowIs (w.heap.size + 1) 53 2200 (fun j => .bool (inF f l j))) := by
        have h := hr1.out
        rw [List.take_of_length_le (by rw [HL.out.1]; exact Nat.le_refl _)] at h
        exact h
      clear hr1 hlt
      obtain ⟨C1, hb1, hs1, hc1⟩ := HF.out
      obtain ⟨C0, hb0, hs0, hc0⟩ := hr0.out
      have HB1 := Lib.hid hb1
      have HB0' := Lib.hid hb0
      have HC1 := Lib.hid hc1
      have HI : Hid ((Tryz.prog.info? 53).map (·.size) = some C1.size) := by show _ = _; rw [sizeMarks, hs1]
      have HO : Hid (C0.size = C1.size) := by show _ = _; rw [hs0, hs1]
      have HS1 := Lib.hid hs1
      have H1 : Hid (C1.all (·.oneCell') = true) := by
        show _ = true
        rw [Array.all_eq_true_iff_forall_mem]
        intro v hv
        obtain ⟨j, hj, e⟩ := Array.getElem_of_mem hv
        have h2 := hc1 j (by rw [← hs1]; exact hj)
        rw [Array.getElem?_eq_getElem hj, e] at h2
        rw [Option.some.inj h2]; rfl
      clear hb1 hs1 hc1 hb0 hs0 hc0 HF hr0 HR0 HR1 HB0
      go_wp2_with (first
        | (refine wpList_load_row rfl 53 (.tmp 5) (by rfl) (w.heap.size + 1) (by rfl) 53 C1 (0, 0) (.array 2200 4) HB1.out Tryz.underlying53 rfl HI.out ?_)
        | (refine wpList_store_row rfl 53 (.tmp 4) (.tmp 53) (by rfl) w.heap.size C1 (by rfl) (by rfl) 53 C0 HB0'.out HI.out HO.out H1.out ?_))
      exact bodyPost_ret (results_cell_row (P := Tryz.prog) (p := 4) rfl _ _ w.heap.size 53 C1 (0, 0) (.array 2200 4) rfl (setRow_heap _ w.heap.size C0 C1 53 (0, 0) HB0'.out) Tryz.underlying53 rfl HI.out) rfl
        ⟨C1, rfl, HS1.out, HC1.out, below_setRow hb.out (Nat.le_refl _) _⟩
end Go.Proofs.YtncolcjejgmhjaaGreatDoor
namespace Go.Proofs.YtncolcjejgmhjaaGreatDoor
open Go.RowKit
end Go.Proofs.YtncolcjejgmhjaaGreatDoor
