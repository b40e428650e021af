/- The walk of the document's days. -/
import Derived.Test.YteflddgcddcejaaGreatDoorCwaf
import Derived.Test.YteflddgcddcejaaGreatDoorCwag
import Derived.Test.YteflddgcddcejaaGreatDoorCwai
import Derived.Deep.OwnRows
import Derived.Deep.DeepCutAuto
import Derived.Deep.CutBlock
import Derived.Deep.LoopGhost
namespace Go.Proofs.YteflddgcddcejaaGreatDoor
open Go.RowKit
theorem heap_setOther2 {w : World} {g : Nat} {a : Addr} (ha : g ≠ a.block) (u : Value) : (w.setCell a u).heap[g]? = w.heap[g]? := by
  simp [World.setCell, Array.getElem?_modify, Ne.symm ha]
theorem own_set2 {base size n : Nat} {e : TypeId} {X : World} {v u : Value} {xs : List Value} {a : Addr} (h : X.ownsRow base e size v n xs) (ha : a.block < base) : (X.setCell a u).ownsRow base e size v n xs := by
  obtain ⟨q1, q2⟩ := h
  refine ⟨q1, ?_⟩
  rcases q2 with q2 | ⟨g, cap, cur, hv, hg, hbk, hr⟩
  · exact .inl q2
  · exact .inr ⟨g, cap, cur, hv, hg, (heap_setOther2 (show g ≠ a.block by omega) u).trans hbk, hr⟩
theorem intInfo3D : (Tryz.prog.info? 3).map (fun i => (i.zero, i.size, i.bytes)) = some (some (.int .i64 0), 1, 8) := by kernel_rfl
theorem marks_none (j : Nat) : marksD [] j = false := rfl
theorem marks_snoc (l : List (Int × Int)) (x : Int × Int) (j : Nat) : marksD (l ++ [x]) j = (marksD l j || decide (x.1 ≤ (j : Int) ∧ (j : Int) ≤ x.2)) := by
  unfold marksD; rw [List.any_append]; simp
theorem days_yes {s : List UInt8} {its : List (Int × Int)} (h : mapO itemL (splitL 44 s) = some its) : daysL s = some (outD (marksD its) 7) := by
  unfold daysL; rw [h]; simp only; rw [out_week]
theorem days_no {s : List UInt8} {x : List UInt8} (hx : x ∈ splitL 44 s) (h : itemL x = none) : daysL s = none := by
  unfold daysL; rw [mapO_none hx h]
def pkD (x : List UInt8) (n m : Nat) : Nat × Nat := pickD x (allD n ++ (dayL ((n + 1 : Nat) : Int), n + 1, n + 1) :: rngD (n + 1) m)
theorem pick_one (x : List UInt8) (n : Nat) : pkD x n 0 = if x = dayL ((n : Int) + 1) then (n + 1, n + 1) else pickD x (allD n) := by
  unfold pkD; rw [show rngD (n + 1) 0 = [] from rfl, pick_snoc]; rfl
theorem pick_step (x : List UInt8) (n m : Nat) : pkD x n (m + 1) =
    if x = dayL ((n : Int) + 1) ++ 46 :: 46 :: dayL ((n : Int) + 1 + m) then (n + 1, n + 1 + m) else pkD x n m := by
  unfold pkD; rw [rngD_succ, ← List.cons_append, ← List.append_assoc, pick_snoc]; rfl
theorem day_size (d : Int) : (str (dayL d)).size = 3 := by rw [← size_list]; exact dayL_length d
theorem day_beq (x y : List UInt8) : ((str x).toList == (str y).toList) = decide (x = y) := by
  rw [Lib.toList_data, Lib.toList_data]
  show (x == y) = _
  rw [Bool.eq_iff_iff]
  simp
theorem range_beq (x a b : List UInt8) : ((str x).toList == (str a ++ ⟨#[46, 46]⟩ ++ str b : ByteArray).toList) = decide (x = a ++ 46 :: 46 :: b) := by
  rw [Lib.toList_data, Lib.toList_data, app_list, app_list, Bool.eq_iff_iff]
  show (x == a ++ [46, 46] ++ b) = true ↔ _
  simp
def DaysQ (s : ByteArray) (w : World) (e : Ending) (w' : World) : Prop :=
  Below w.heap.size w w' ∧ match daysL s.data.toList with
  | some ds => ∃ v, e = .returned (.tuple #[v, .bool true]) ∧ w'.ownsRow (w.heap.size + 1) 3 1 v ds.length (ints ds)
  | none => e = .returned (.tuple #[.slice none 0 0, .bool false])
set_option maxRecDepth 100000 in
set_option maxHeartbeats 8000000 in
theorem rdays_any (s : ByteArray) (hs : s.size ≤ 4194304) (w : World) :
    Calls Tryz.prog 23 #[.string s] w (DaysQ s w) := by
  obtain ⟨i0, hi, hz0, hz1, hz2⟩ := info_parts intInfo3D
  go_enter Tryz.func23, Tryz.ntmps23
  go_wp2_with fail
  generalize hwa : w.alloc (.cells #[.bool false, .bool false, .bool false, .bool false, .bool false, .bool false, .bool false, .bool false] 92) = wa
  have hR0 : Hid (wa.rowIs w.heap.size 92 8 (fun j => .bool (marksD [] j))) := by
    have h := World.rowIs_alloc w (Array.replicate 8 (.bool false)) 92 (fun j => .bool (marksD [] j)) (fun i hi => by rw [Array.size_replicate] at hi; simp [hi, marks_none])
    rw [Array.size_replicate, show Array.replicate 8 (Value.bool false) = #[.bool false, .bool false, .bool false, .bool false, .bool false, .bool false, .bool false, .bool false] from rfl, hwa] at h
    exact h
  have HBa : Hid (Below w.heap.size w wa) := by rw [← hwa]; exact (Below.refl _ _).alloc (Nat.le_refl _) _
  have hza : wa.heap.size = w.heap.size + 1 := by rw [← hwa]; simp
  clear hwa
  refine (Split_any s 44 (by omega) _).mono ?_
  rintro e w1 ⟨v, rfl, hown, hb1⟩
  obtain ⟨A, nv, cv, rfl⟩ : ∃ A nv cv, v = .slice A nv cv := by
    rcases hown.2 with ⟨hv, _⟩ | ⟨g, cap, cur, hv, _⟩
    · exact ⟨_, _, _, hv⟩
    · exact ⟨_, _, _, hv⟩
  have HYES := fun its => Lib.hid (days_yes (s := s.data.toList) (its := its))
  have HNO := fun x => Lib.hid (days_no (s := s.data.toList) (x := x))
  have hrl : (splitL 44 s.data.toList).length ≤ s.size + 1 := by
    have := sgo_cnt 44 s.data.toList []
    rw [size_list] at this
    exact this
  generalize splitL 44 s.data.toList = rs at hown hrl HYES HNO
  obtain ⟨rfl, hcv, _⟩ := rowAt_of_own hown (by unfold maxLen; omega)
  rw [hza] at hown
  have hR1 := Lib.hid (hR0.out.of_block (hb1.block _ hR0.out.lt))
  have HB1 := Lib.hid (more3 HBa.out HBa.out.size hb1)
  have hw1 := HB1.out.size
  have HO1 := Lib.hid hown
  have hw12 : w.heap.size < w1.heap.size := hR1.out.lt
  clear hown hb1
  go_wp2_with fail
  go_loopw [16] (fun i wr => ∃ (k : Nat) (its : List (Int × Int)), k ≤ rs.length ∧ i = .int .i64 k ∧ Hid (mapO itemL (rs.take k) = some its) ∧ Hid (wr.rowIs w.heap.size 92 8 (fun j => .bool (marksD its j))) ∧ Hid (wr.ownsRow (w.heap.size + 1) 9 1 (.slice A rs.length cv) rs.length (wcells rs)) ∧ Hid (Below w.heap.size w wr)) (fun i wr => rs.length - (intOf i).toNat)
  case atStart => exact ⟨0, [], Nat.zero_le _, rfl, rfl, hR1, HO1, HB1⟩
  case round =>
    obtain ⟨k, its, hk, rfl, hmp, hrow, hO, hB⟩ := hrel
    obtain ⟨wo, rfl⟩ : ∃ wo : World, wo = wr := ⟨_, rfl⟩
    have b0 : (0 : Int) ≤ (k : Int) := by omega
    by_cases hlt : k < rs.length
    · have b1 : (k : Int) < (rs.length : Int) := by omega
      obtain ⟨_, _, hra⟩ := rowAt_of_own hO.out (by unfold maxLen; omega)
      obtain ⟨ad, x, rfl, hadB, hx, hc⟩ := hra.at_ hlt
      have HX := Lib.hid hx
      clear hx hra
      go_wp2_with fail
      go_loop [7, 8, 9] (fun f t d => ∃ n : Nat, n ≤ 7 ∧ d = .int .i64 (n + 1) ∧ f = .int .i64 (pickD x (allD n)).1 ∧ t = .int .i64 (pickD x (allD n)).2) (fun f t d => 8 - (intOf d).toNat)
      case atStart => exact ⟨0, Nat.zero_le _, rfl, rfl, rfl⟩
      case round =>
        obtain ⟨n, hn, rfl, rfl, rfl⟩ := hrel
        by_cases hd : n < 7
        · have d0 : (1 : Int) ≤ (n : Int) + 1 := by omega
          have d1 : (n : Int) + 1 ≤ 7 := by omega
          clear hd
          by_cases hx1 : x = dayL ((n : Int) + 1)
          · have t1 : ((str x).toList == (str (dayL ((n : Int) + 1))).toList) = true := by rw [day_beq]; exact decide_eq_true hx1
            have HS : Hid (pkD x n 0 = (n + 1, n + 1)) := by show _ = _; rw [pick_one, if_pos hx1]
            clear hx1
            go_wp2_with fail
            refine (dayName_any ((n : Int) + 1) d0 d1 _).mono ?_
            rintro e w2 ⟨rfl, rfl⟩
            go_wp2_with fail
            go_loop [7, 8, 10] (fun f t e => ∃ m : Nat, m ≤ 7 - n ∧ e = .int .i64 ((n : Int) + 1 + m) ∧ f = .int .i64 (pkD x n m).1 ∧ t = .int .i64 (pkD x n m).2) (fun f t e => 8 - (intOf e).toNat)
            case atStart => exact ⟨0, Nat.zero_le _, by go_num, (by rw [HS.out]; first | done | rfl), (by rw [HS.out]; first | done | rfl)⟩
            case round =>
              obtain ⟨m, hm, rfl, rfl, rfl⟩ := hrel
              by_cases hd2 : m < 7 - n
              · have e0 : (1 : Int) ≤ (n : Int) + 1 + m := by omega
                have e1 : (n : Int) + 1 + m ≤ 7 := by omega
                have HP := Lib.hid (pick_step x n m)
                have z1 := day_size ((n : Int) + 1)
                have z2 := day_size ((n : Int) + 1 + m)
                have z3 : (str (dayL ((n : Int) + 1)) ++ ⟨#[46, 46]⟩ : ByteArray).size = 5 := by rw [← size_list, app_list, List.length_append, size_list, z1]; rfl
                clear hd2
                by_cases hx2 : x = dayL ((n : Int) + 1) ++ 46 :: 46 :: dayL ((n : Int) + 1 + m)
                · have t2 : ((str x).toList == (str (dayL ((n : Int) + 1)) ++ ⟨#[46, 46]⟩ ++ str (dayL ((n : Int) + 1 + m))).toList) = true := by rw [range_beq]; exact decide_eq_true hx2
                  have HQ : Hid (pkD x n (m + 1) = (n + 1, n + 1 + m)) := by show _ = _; rw [HP.out, if_pos hx2]
                  clear hx2
                  go_wp2_with fail
                  refine (dayName_any ((n : Int) + 1) d0 d1 _).mono ?_
                  rintro e w3 ⟨rfl, rfl⟩
                  go_wp2_with fail
                  refine (dayName_any ((n : Int) + 1 + m) e0 e1 _).mono ?_
                  rintro e w4 ⟨rfl, rfl⟩
                  go_wp2_with fail
                  go_round
                  case rel => exact ⟨m + 1, by omega, by go_num, by rw [HQ.out]; go_num, by rw [HQ.out]; go_num⟩
                  case measure => simp [intOf]; omega
                · have t2 : ((str x).toList == (str (dayL ((n : Int) + 1)) ++ ⟨#[46, 46]⟩ ++ str (dayL ((n : Int) + 1 + m))).toList) = false := by rw [range_beq]; exact decide_eq_false hx2
                  have HQ : Hid (pkD x n (m + 1) = pkD x n m) := by show _ = _; rw [HP.out, if_neg hx2]
                  clear hx2
                  go_wp2_with fail
                  refine (dayName_any ((n : Int) + 1) d0 d1 _).mono ?_
                  rintro e w3 ⟨rfl, rfl⟩
                  go_wp2_with fail
                  refine (dayName_any ((n : Int) + 1 + m) e0 e1 _).mono ?_
                  rintro e w4 ⟨rfl, rfl⟩
                  go_wp2_with fail
                  go_round
                  case rel => exact ⟨m + 1, by omega, by go_num, by rw [HQ.out], by rw [HQ.out]⟩
                  case measure => simp [intOf]; omega
              · have e0 : (7 : Int) < (n : Int) + 1 + m := by omega
                obtain rfl : m = 7 - n := by omega
                have HL : Hid (pkD x n (7 - n) = pickD x (allD (n + 1))) := by
                  show pkD x n (7 - n) = _
                  unfold pkD
                  rw [allD, show 8 - (n + 1) = 7 - n by omega]
                clear hd2
                go_wp2_with fail
                go_round
                case rel => exact ⟨n + 1, by omega, by go_num, by rw [HL.out], by rw [HL.out]⟩
                case measure => simp [intOf]; omega
          · have t1 : ((str x).toList == (str (dayL ((n : Int) + 1))).toList) = false := by rw [day_beq]; exact decide_eq_false hx1
            have HS : Hid (pkD x n 0 = pickD x (allD n)) := by show _ = _; rw [pick_one, if_neg hx1]
            clear hx1
            go_wp2_with fail
            refine (dayName_any ((n : Int) + 1) d0 d1 _).mono ?_
            rintro e w2 ⟨rfl, rfl⟩
            go_wp2_with fail
            go_loop [7, 8, 10] (fun f t e => ∃ m : Nat, m ≤ 7 - n ∧ e = .int .i64 ((n : Int) + 1 + m) ∧ f = .int .i64 (pkD x n m).1 ∧ t = .int .i64 (pkD x n m).2) (fun f t e => 8 - (intOf e).toNat)
            case atStart => exact ⟨0, Nat.zero_le _, by go_num, (by rw [HS.out]; first | done | rfl), (by rw [HS.out]; first | done | rfl)⟩
            case round =>
              obtain ⟨m, hm, rfl, rfl, rfl⟩ := hrel
              by_cases hd2 : m < 7 - n
              · have e0 : (1 : Int) ≤ (n : Int) + 1 + m := by omega
                have e1 : (n : Int) + 1 + m ≤ 7 := by omega
                have HP := Lib.hid (pick_step x n m)
                have z1 := day_size ((n : Int) + 1)
                have z2 := day_size ((n : Int) + 1 + m)
                have z3 : (str (dayL ((n : Int) + 1)) ++ ⟨#[46, 46]⟩ : ByteArray).size = 5 := by rw [← size_list, app_list, List.length_append, size_list, z1]; rfl
                clear hd2
                by_cases hx2 : x = dayL ((n : Int) + 1) ++ 46 :: 46 :: dayL ((n : Int) + 1 + m)
                · have t2 : ((str x).toList == (str (dayL ((n : Int) + 1)) ++ ⟨#[46, 46]⟩ ++ str (dayL ((n : Int) + 1 + m))).toList) = true := by rw [range_beq]; exact decide_eq_true hx2
                  have HQ : Hid (pkD x n (m + 1) = (n + 1, n + 1 + m)) := by show _ = _; rw [HP.out, if_pos hx2]
                  clear hx2
                  go_wp2_with fail
                  refine (dayName_any ((n : Int) + 1) d0 d1 _).mono ?_
                  rintro e w3 ⟨rfl, rfl⟩
                  go_wp2_with fail
                  refine (dayName_any ((n : Int) + 1 + m) e0 e1 _).mono ?_
                  rintro e w4 ⟨rfl, rfl⟩
                  go_wp2_with fail
                  go_round
                  case rel => exact ⟨m + 1, by omega, by go_num, by rw [HQ.out]; go_num, by rw [HQ.out]; go_num⟩
                  case measure => simp [intOf]; omega
                · have t2 : ((str x).toList == (str (dayL ((n : Int) + 1)) ++ ⟨#[46, 46]⟩ ++ str (dayL ((n : Int) + 1 + m))).toList) = false := by rw [range_beq]; exact decide_eq_false hx2
                  have HQ : Hid (pkD x n (m + 1) = pkD x n m) := by show _ = _; rw [HP.out, if_neg hx2]
                  clear hx2
                  go_wp2_with fail
                  refine (dayName_any ((n : Int) + 1) d0 d1 _).mono ?_
                  rintro e w3 ⟨rfl, rfl⟩
                  go_wp2_with fail
                  refine (dayName_any ((n : Int) + 1 + m) e0 e1 _).mono ?_
                  rintro e w4 ⟨rfl, rfl⟩
                  go_wp2_with fail
                  go_round
                  case rel => exact ⟨m + 1, by omega, by go_num, by rw [HQ.out], by rw [HQ.out]⟩
                  case measure => simp [intOf]; omega
              · have e0 : (7 : Int) < (n : Int) + 1 + m := by omega
                obtain rfl : m = 7 - n := by omega
                have HL : Hid (pkD x n (7 - n) = pickD x (allD (n + 1))) := by
                  show pkD x n (7 - n) = _
                  unfold pkD
                  rw [allD, show 8 - (n + 1) = 7 - n by omega]
                clear hd2
                go_wp2_with fail
                go_round
                case rel => exact ⟨n + 1, by omega, by go_num, by rw [HL.out], by rw [HL.out]⟩
                case measure => simp [intOf]; omega
        · have hn7 : n = 7 := by omega
          subst hn7
          have HP := Lib.hid (item_pick x)
          have hbd := pick_bd x (allD 7) allD_bd
          generalize pickD x (allD 7) = y at hbd HP ⊢
          obtain ⟨fa, ta⟩ := y
          dsimp only at hbd HP ⊢
          clear hd
          by_cases h0 : fa = 0
          · have HN : Hid (daysL s.data.toList = none) := (HNO x).out (List.mem_of_getElem? HX.out) (by rw [HP.out, if_pos h0])
            have t0 : ((fa : Int) == 0) = true := by rw [h0]; rfl
            clear hbd h0
            go_wp2_with fail
            go_ret2
            exact ⟨hB.out, by rw [HN.out]; rfl⟩
          · have HI : Hid (itemL x = some ((fa : Int), (ta : Int))) := by show _ = _; rw [HP.out, if_neg h0]
            have t0 : ((fa : Int) == 0) = false := by rw [beq_eq_false_iff_ne]; omega
            have hbd2 : 1 ≤ fa ∧ fa ≤ ta ∧ ta ≤ 7 := by
              rcases hbd with h | h
              · exact absurd (congrArg Prod.fst h) h0
              · exact h
            obtain ⟨g1, g2, g3⟩ := hbd2
            have hrow0 : Hid (wo.rowIs w.heap.size 92 8 (fun j => .bool (marksD its j || (decide (fa ≤ j) && decide (j < fa))))) := by
              refine hrow.out.congr fun j hj => ?_
              have : (decide (fa ≤ j) && decide (j < fa)) = false := by
                rw [Bool.and_eq_false_iff]
                by_cases h : fa ≤ j
                · right; exact decide_eq_false (by omega)
                · left; exact decide_eq_false h
              rw [this, Bool.or_false]
            clear hbd h0
            go_wp2_with fail
            go_loopw [7] (fun f wi => ∃ q : Nat, fa ≤ q ∧ q ≤ ta + 1 ∧ f = .int .i64 q ∧ Hid (wi.rowIs w.heap.size 92 8 (fun j => .bool (marksD its j || (decide (fa ≤ j) && decide (j < q))))) ∧ Hid (wi.ownsRow (w.heap.size + 1) 9 1 (.slice (some ad) rs.length cv) rs.length (wcells rs)) ∧ Hid (Below w.heap.size w wi)) (fun f _ => ta + 1 - (intOf f).toNat)
            case atStart => exact ⟨fa, Nat.le_refl _, by omega, rfl, hrow0, hO, hB⟩
            case round =>
              obtain ⟨q, hq0, hq1, rfl, hw1, hwo, hwb⟩ := hrel
              by_cases hq : q ≤ ta
              · have q0 : (0 : Int) ≤ (q : Int) := by omega
                have q1 : (q : Int) ≤ (ta : Int) := by omega
                have q8 : q < 8 := by omega
                have q8i : (q : Int) < 8 := by omega
                have hcell := hw1.out.cell q8
                have hfro := hw1.out.frozen q
                have hset : Hid ((wr.setCell ⟨w.heap.size, q, none⟩ (.bool true)).rowIs w.heap.size 92 8 (fun j => .bool (marksD its j || (decide (fa ≤ j) && decide (j < q + 1))))) := by
                  refine (hw1.out.set q (.bool true)).congr fun j hj => ?_
                  by_cases e : j = q
                  · rw [if_pos e, decide_eq_true (show fa ≤ j by omega), decide_eq_true (show j < q + 1 by omega)]; simp
                  · rw [if_neg e]
                    have : decide (j < q + 1) = decide (j < q) := by rw [decide_eq_decide]; omega
                    rw [this]
                have hwo2 : Hid ((wr.setCell ⟨w.heap.size, q, none⟩ (.bool true)).ownsRow (w.heap.size + 1) 9 1 (.slice (some ad) rs.length cv) rs.length (wcells rs)) := own_set2 hwo.out (by show w.heap.size < w.heap.size + 1; omega)
                have hwb2 : Hid (Below w.heap.size w (wr.setCell ⟨w.heap.size, q, none⟩ (.bool true))) := hwb.out.setCell (by show w.heap.size ≤ w.heap.size; omega) _
                clear hq
                go_wp2_with fail
                go_roundw
                case rel => exact ⟨q + 1, by omega, by omega, by go_num, hset, hwo2, hwb2⟩
                case measure => simp [intOf]; omega
              · have q1 : (ta : Int) < (q : Int) := by omega
                have hqe : q = ta + 1 := by omega
                have hset : Hid (wr.rowIs w.heap.size 92 8 (fun j => .bool (marksD (its ++ [((fa : Int), (ta : Int))]) j))) := by
                  refine hw1.out.congr fun j hj => ?_
                  rw [marks_snoc]
                  congr 2
                  rw [← Bool.decide_and, decide_eq_decide]
                  omega
                have hmp2 : Hid (mapO itemL (rs.take (k + 1)) = some (its ++ [((fa : Int), (ta : Int))])) := by
                  show _ = _
                  rw [List.take_add_one, HX.out]
                  exact mapO_snoc hmp.out HI.out
                clear hq hqe
                go_wp2_with fail
                go_roundw
                case rel => exact ⟨k + 1, _, by omega, by go_num, hmp2, hset, hwo, hwb⟩
                case measure => simp [intOf]; omega
    · obtain rfl : k = rs.length := by omega
      have HY : Hid (daysL s.data.toList = some (outD (marksD its) 7)) := (HYES its).out (by rw [← hmp.out, List.take_length])
      have hbs : w.heap.size < wo.heap.size := hrow.out.lt
      clear hlt
      go_wp2_with fail
      go_loopw [11, 12] (fun v d wr => ∃ (vv : Value) (n q : Nat), vv = v ∧ n ≤ 7 ∧ Hid (q = n + 1) ∧ d = .int .i64 q ∧ Hid (wr.rowIs w.heap.size 92 8 (fun j => .bool (marksD its j))) ∧ Hid (wr.ownsRow (w.heap.size + 1) 3 1 v (outD (marksD its) n).length (ints (outD (marksD its) n))) ∧ Hid (Below w.heap.size w wr)) (fun v d wr => 8 - (intOf d).toNat)
      case atStart => exact ⟨_, 0, 1, rfl, Nat.zero_le _, rfl, rfl, hrow, World.ownsRow_nil _ _ _ _, hB⟩
      case round =>
        obtain ⟨v, n, q, rfl, hn, hqn, rfl, hr, hV, hb⟩ := hrel
        have hbz : w.heap.size < wr.heap.size := hr.out.lt
        obtain ⟨wp, rfl⟩ : ∃ wp : World, wp = wr := ⟨_, rfl⟩
        have hqo := hqn.out
        by_cases hd : n < 7
        · have d1 : (q : Int) ≤ 7 := by omega
          have d0 : (0 : Int) ≤ (q : Int) := by omega
          have d8 : (q : Int) < 8 := by omega
          have q8 : q < 8 := by omega
          have hcell := hr.out.cell q8
          have hlen := out_len (marksD its) n
          by_cases hm : marksD its q = true
          · have HQ : Hid (outD (marksD its) q = outD (marksD its) n ++ [(q : Int)]) := by show _ = _; rw [hqo, outD, if_pos (by rw [← hqo]; exact hm)]
            have HM := Lib.hid hm
            rw [hm] at hcell
            clear hd hm hqo
            go_wp2_with (at_builtin; refine wpList_append_own _ rfl _ _ 23 rfl (w.heap.size + 1) 3 i0 (.int .i64 0) 1 8 Tryz.underlying23 hi hz0 hz1 hz2 rfl (by decide) _ _ _ rfl (hV.out.alloc _) ⟨wp.heap.size, 0, none⟩ 1 1 [.int .i64 (q : Int)] rfl rfl ?c1 ?c2 ?c3 ?c4 ?c5 ?_)
            case c1 =>
              intro j u hj
              match j, hj with
              | 0, hj =>
                simp at hj
                subst hj
                simp [Addr.add]
            case c2 => intro u hu; simp at hu; subst hu; rfl
            case c3 => unfold maxLen; omega
            case c4 => omega
            case c5 => simp; omega
            intro v' w2 hown' hgrow _
            have hne : some w.heap.size ≠ v.ownBlock := by
              intro e
              have := (hV.out.lt _ e.symm).1
              omega
            have HV1 : Hid (w2.ownsRow (w.heap.size + 1) 3 1 v' (outD (marksD its) q).length (ints (outD (marksD its) q))) := by
              show World.ownsRow _ _ _ _ _ _ _
              rw [HQ.out, List.length_append]
              unfold ints at hown' ⊢
              rw [List.map_append]
              exact hown'
            have Hb1 : Hid (Below w.heap.size w w2) := (hb.out.alloc (by omega) _).grown hgrow (by simp; omega) (fun g hg => by have := (hV.out.lt g hg).1; omega)
            have HR1 : Hid (w2.rowIs w.heap.size 92 8 (fun j => .bool (marksD its j))) := by
              have h1 := hr.out.alloc (.cells #[.int .i64 (q : Int)] 3)
              exact h1.of_block (hgrow.block _ h1.lt hne)
            clear hown' hgrow
            go_wp2_with fail
            go_roundw
            case rel => exact ⟨_, q, q + 1, rfl, by omega, rfl, by go_num, HR1, HV1, Hb1⟩
            case measure => simp [intOf]; omega
          · have hm' : marksD its q = false := by simpa using hm
            have HQ : Hid (outD (marksD its) q = outD (marksD its) n) := by show _ = _; rw [hqo, outD, if_neg (by rw [← hqo]; exact hm), List.append_nil]
            have HV1 : Hid (wp.ownsRow (w.heap.size + 1) 3 1 v (outD (marksD its) q).length (ints (outD (marksD its) q))) := by show World.ownsRow _ _ _ _ _ _ _; rw [HQ.out]; exact hV.out
            rw [hm'] at hcell
            clear hd hm hm' hqo
            go_wp2_with fail
            go_roundw
            case rel => exact ⟨_, q, q + 1, rfl, by omega, rfl, by go_num, hr, HV1, hb⟩
            case measure => simp [intOf]; omega
        · have hn7 : n = 7 := by omega
          subst hn7
          have d1 : (7 : Int) < (q : Int) := by omega
          clear hd hqo
          go_wp2_with fail
          go_ret2
          exact ⟨hb.out, by rw [HY.out]; exact ⟨_, rfl, hV.out⟩⟩
end Go.Proofs.YteflddgcddcejaaGreatDoor
