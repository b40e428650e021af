/- The walk of the document's wholes: its logical lines. -/
import Derived.Test.YthgpocbmkmmecaaDoorLnJ
import Derived.Test.YthgpocbmkmmecaaDoorLnS
import Derived.Test.YthgpocbmkmmecaaDoorLnN
namespace Go.Proofs.YthgpocbmkmmecaaDoor
open Go.RowKit

/-- The machine at a line that may go on, all that it has so far in one. -/
def goW (x : List UInt8) (n0 : Nat) (rows : List (List UInt8)) (i : Nat) : List (List UInt8 × Nat) :=
  if lastB x = true then machL i (some (x.dropLast ++ [32], n0)) rows else (x, n0) :: machL i none rows
theorem goW_first (r : List UInt8) (rows : List (List UInt8)) (i : Nat) (h : skipR r = false) : machL i none (r :: rows) = goW r i rows (i + 1) := by
  rw [machL, h, if_neg (by simp)]
  rfl
theorem lastB_blank (y : List UInt8) : lastB (y ++ [32]) = false := by
  unfold lastB
  rw [List.getLast?_append]
  rfl
theorem goW_row (y r : List UInt8) (n0 : Nat) (rows : List (List UInt8)) (i : Nat) (hr : remL r = false) : machL i (some (y ++ [32], n0)) (r :: rows) = goW (y ++ [32] ++ r) n0 rows (i + 1) := by
  rw [machL, hr, if_neg (by simp)]
  unfold goW
  cases r with
  | nil =>
    have e0 : lastB [] = false := rfl
    rw [e0, if_neg (by simp), List.append_nil, lastB_blank, if_neg (by simp)]
  | cons c r =>
    have e1 : lastB (y ++ [32] ++ c :: r) = lastB (c :: r) := by
      unfold lastB
      rw [List.getLast?_append, List.getLast?_cons]
      rfl
    have e2 : (y ++ [32] ++ c :: r).dropLast = y ++ [32] ++ (c :: r).dropLast := List.dropLast_append_of_ne_nil (by simp)
    rw [e1, e2]
    simp only [List.append_assoc]
theorem goW_none (y : List UInt8) (n0 i j : Nat) : machL i (some (y ++ [32], n0)) [] = goW (y ++ [32]) n0 [] j := by
  unfold goW
  rw [lastB_blank, if_neg (by simp)]
  rfl
theorem goW_go {x : List UInt8} (h : lastB x = true) (n0 : Nat) (rows : List (List UInt8)) (i : Nat) : goW x n0 rows i = machL i (some (x.dropLast ++ [32], n0)) rows := by
  unfold goW; rw [if_pos h]
theorem goW_stop {x : List UInt8} (h : lastB x = false) (n0 : Nat) (rows : List (List UInt8)) (i : Nat) : goW x n0 rows i = (x, n0) :: machL i none rows := by
  unfold goW; rw [h, if_neg (by simp)]
theorem lastIs_at {c : UInt8} {s : ByteArray} (h : 0 < s.size) : lastIs c s = (((s[s.size - 1]'(by omega)).toNat : Int) == (c.toNat : Int)) := by
  unfold lastIs
  rw [last_at h, List.getLast?_append, Bool.eq_iff_iff]
  simp only [List.getLast?_singleton, Option.some_or, Option.some.injEq, decide_eq_true_eq, beq_iff_eq, ← UInt8.toNat_inj]
  constructor
  · intro e; omega
  · intro e; omega
theorem lastIs_empty {c : UInt8} {s : ByteArray} (h : s.size = 0) : lastIs c s = false := by
  unfold lastIs
  rw [nil_of_size h]; rfl
theorem costR_cons (r : List UInt8) (rs : List (List UInt8)) : costR (r :: rs) = r.length + 1 + costR rs := by simp [costR]
theorem costR_drop (rs : List (List UInt8)) (k : Nat) : costR (rs.drop k) ≤ costR rs := by
  induction rs generalizing k with
  | nil => simp
  | cons r rs ih =>
    cases k with
    | zero => exact Nat.le_refl _
    | succ k => rw [List.drop_succ_cons, costR_cons]; have := ih k; omega

theorem trim_empW (l : List UInt8) : (trimS (str l)).toList.isEmpty = decide (trimL l = []) := by
  rw [isEmpty_iff]
  rfl
theorem drop_get {α : Type} {l : List α} {k : Nat} {x : α} (h : l[k]? = some x) : l.drop k = x :: l.drop (k + 1) := by
  obtain ⟨h1, h2⟩ := List.getElem?_eq_some_iff.1 h
  rw [List.drop_eq_getElem_cons h1, h2]
def whCells (p : List UInt8 × Nat) : List Value := [.string (str p.1), .int .i64 p.2]
def whs (l : List (List UInt8 × Nat)) : List Value := l.flatMap whCells
theorem whs_length (l : List (List UInt8 × Nat)) : (whs l).length = l.length * 2 := by
  induction l with
  | nil => rfl
  | cons x l ih =>
    have e : whs (x :: l) = whCells x ++ whs l := by simp [whs]
    rw [e, List.length_append, ih, List.length_cons]
    simp only [whCells, List.length_cons, List.length_nil]
    omega
theorem whs_snoc (l : List (List UInt8 × Nat)) (x : List UInt8 × Nat) : whs (l ++ [x]) = whs l ++ whCells x := by simp [whs]
theorem wholeInfo : (Tryd.prog.info? 48).map (fun i => (i.zero, i.size, i.bytes)) = some (some (.agg #[.string ⟨#[]⟩, .int .i64 0]), 2, 24) := by kernel_rfl
theorem own_low {base base' size n : Nat} {e : TypeId} {X : World} {v : Value} {xs : List Value} (h : X.ownsRow base e size v n xs) (hb : base' ≤ base) : X.ownsRow base' e size v n xs := by
  obtain ⟨q1, q2⟩ := h
  refine ⟨q1, ?_⟩
  rcases q2 with q2 | ⟨g, cap, cur, hv, hg, hr⟩
  · exact .inl q2
  · exact .inr ⟨g, cap, cur, hv, by omega, hr⟩
theorem own_far {base size n g : Nat} {e : TypeId} {X : World} {v u : Value} {xs : List Value} {i : Nat} (h : X.ownsRow base e size v n xs) (hne : v.ownBlock ≠ some g) : (X.setCell ⟨g, i, none⟩ u).ownsRow base e size v n xs := by
  obtain ⟨q1, q2⟩ := h
  refine ⟨q1, ?_⟩
  rcases q2 with q2 | ⟨b, cap, cur, hv, hb, hbk, hr⟩
  · exact .inl q2
  · refine .inr ⟨b, cap, cur, hv, hb, Blk.setOther (t := e) (cs := cur) hbk ?_ u, hr⟩
    rintro rfl
    exact hne (by rw [hv]; rfl)
def WholesP (s : ByteArray) (w : World) (e : Ending) (w' : World) : Prop :=
  ∃ v, e = .returned v ∧ w'.ownsRow w.heap.size 48 2 v (machL 1 none (splitL 10 s.data.toList)).length (whs (machL 1 none (splitL 10 s.data.toList))) ∧ Below w.heap.size w w'
set_option maxRecDepth 100000 in
set_option maxHeartbeats 8000000 in
theorem wholes_any (s : ByteArray) (hs : s.size ≤ 20000) (w : World) :
    Calls Tryd.prog 22 #[.string s] w (WholesP s w) := by
  obtain ⟨i0, hi, hz0, hz1, hz2⟩ := info_parts wholeInfo
  have hcost : costR (splitL 10 s.data.toList) = s.size + 1 := by
    have := sgo_cost 10 s.data.toList []
    unfold splitL
    rw [this, size_list]; simp
  go_enter Tryd.func22, Tryd.ntmps22
  go_wp2_with fail
  refine (Split_any s 10 (by omega) _).mono ?_
  rintro e w1 ⟨v, rfl, hown, hb1⟩
  obtain ⟨A, nv, cv, rfl⟩ : ∃ A nv cv, v = .slice A nv cv := by
    rcases hown.2 with ⟨hv, _⟩ | ⟨g, cap, cur, hv, _⟩
    · exact ⟨_, _, _, hv⟩
    · exact ⟨_, _, _, hv⟩
  generalize hrs : splitL 10 s.data.toList = rs at hown hcost ⊢
  have hrl : rs.length ≤ s.size + 1 := by
    have := sgo_le' rs
    omega
  obtain ⟨rfl, hcv, hrow⟩ := rowAt_of_own hown (by unfold maxLen; omega)
  have HR := Lib.hid hrow
  have HB1 := Lib.hid hb1
  have hwz := hb1.size
  clear hown hrow hb1
  go_wp2_with fail
  go_loopw [4, 5] (fun v i wr => ∃ (k : Nat) (done : List (List UInt8 × Nat)), k ≤ rs.length + 1 ∧ done.length ≤ k ∧ i = .int .i64 k ∧ Hid (machL 1 none rs = done ++ machL (k + 1) none (rs.drop k)) ∧ Hid (wr.ownsRow w1.heap.size 48 2 v done.length (whs done)) ∧ Hid (Below w1.heap.size w1 wr)) (fun v i wr => rs.length + 1 - (intOf i).toNat)
  case atStart => exact ⟨0, [], Nat.zero_le _, Nat.le_refl _, rfl, rfl, World.ownsRow_nil _ _ _ _, Below.refl _ _⟩
  case round =>
    obtain ⟨k, done, hk, hdl, rfl, hat, hB, hbw⟩ := hrel
    have hbs : w1.heap.size ≤ wr.heap.size := hbw.out.size
    obtain ⟨wo, rfl⟩ : ∃ wo : World, wo = wr := ⟨_, rfl⟩
    have b0 : (0 : Int) ≤ (k : Int) := by omega
    by_cases hlt : k < rs.length
    · have b1 : (k : Int) < (rs.length : Int) := by omega
      obtain ⟨ad, r, rfl, hadB, hx, hc⟩ := (HR.out.below hbw.out).at_ hlt
      have HD := Lib.hid (drop_get hx)
      have hcr : r.length + 1 + costR (rs.drop (k + 1)) ≤ s.size + 1 := by
        have h1 := costR_drop rs k
        rw [HD.out, costR_cons] at h1
        omega
      have hrm : (str r).size ≤ maxLen := by rw [str_size]; unfold maxLen; omega
      have HE := Lib.hid (trim_empW r)
      by_cases hem : trimL r = []
      · have he : (trimS (str r)).toList.isEmpty = true := by rw [HE.out, hem]; rfl
        have HN : Hid (machL 1 none rs = done ++ machL (k + 1 + 1) none (rs.drop (k + 1))) := by
          show _ = _
          rw [hat.out, HD.out, machL, if_pos (by unfold skipR; rw [hem]; rfl)]
        clear hem hx
        go_wp2_with (go_at_call 23; refine (Trim_any _ hrm _).mono ?_; rintro e w' ⟨rfl, rfl⟩)
        go_roundw
        case rel => exact ⟨k + 1, done, by omega, by omega, by go_num, HN, hB, hbw⟩
        case measure => simp [intOf]; omega
      · have he : (trimS (str r)).toList.isEmpty = false := by rw [HE.out, decide_eq_false_iff_not]; exact hem
        rcases hrem : remS (str r) with _ | _
        · have hskip : skipR r = false := by
            have h1 : remL r = false := hrem
            unfold skipR
            rw [h1, Bool.or_false, decide_eq_false_iff_not]; exact hem
          have HN : Hid (machL 1 none rs = done ++ goW r (k + 1) (rs.drop (k + 1)) (k + 1 + 1)) := by
            show _ = _
            rw [hat.out, HD.out, goW_first _ _ _ hskip]
          clear hem hx hskip
          go_wp2_with (first
            | (go_at_call 23; refine (Trim_any _ hrm _).mono ?_; rintro e w' ⟨rfl, rfl⟩)
            | (go_at_call 38; refine (remark_any _ hrm _).mono ?_; rintro e w' ⟨rfl, rfl⟩))
          have hne4 : Hid (u4.ownBlock ≠ some wo.heap.size) := Lib.hid (fun e => by have := (hB.out.lt _ e).2; omega)
          have HG : Hid (Blk (wo.alloc (.cells #[.string (str r), .int .i64 ((k : Int) + 1)] 48)) wo.heap.size 48 #[.string (str r), .int .i64 ((k : Int) + 1)]) := Blk.new wo _ _
          have HBa : Hid ((wo.alloc (.cells #[.string (str r), .int .i64 ((k : Int) + 1)] 48)).ownsRow w1.heap.size 48 2 u4 done.length (whs done)) := hB.out.alloc _
          have Hba : Hid (Below w1.heap.size w1 (wo.alloc (.cells #[.string (str r), .int .i64 ((k : Int) + 1)] 48))) := hbw.out.alloc hbs _
          go_loopw [5] (fun i wr => ∃ (j : Nat) (x : ByteArray), i = .int .i64 j ∧ k ≤ j ∧ j ≤ rs.length ∧ x.size + costR (rs.drop (j + 1)) ≤ s.size + 1 ∧ Hid (j < rs.length ∨ lastIs 92 x = false) ∧
              Hid (machL 1 none rs = done ++ goW x.data.toList (k + 1) (rs.drop (j + 1)) (j + 1 + 1)) ∧ Hid (Blk wr wo.heap.size 48 #[.string x, .int .i64 ((k : Int) + 1)]) ∧
              Hid (wr.ownsRow w1.heap.size 48 2 u4 done.length (whs done)) ∧ Hid (Below w1.heap.size w1 wr)) (fun i wr => rs.length - (intOf i).toNat)
          case atStart => exact ⟨k, str r, rfl, Nat.le_refl _, by omega, by rw [str_size]; omega, .inl hlt, HN, HG, HBa, Hba⟩
          case round =>
            obtain ⟨j, x, rfl, hkj, hjn, hxc, hjl, hat2, HG2, HB2, Hb2⟩ := hrel
            have c0 : wr.cell? ⟨wo.heap.size, 0, none⟩ = some (.string x) := HG2.out.cell 0
            have f0 : wr.frozen? ⟨wo.heap.size, 0, none⟩ = false := HG2.out.frozen 0
            have c1 : wr.cell? ⟨wo.heap.size, 1, none⟩ = some (.int .i64 ((k : Int) + 1)) := HG2.out.cell 1
            have hbs2 : w1.heap.size ≤ wr.heap.size := Hb2.out.size
            rcases hl : lastIs 92 x with _ | _
            · by_cases hx0 : 0 < x.size
              · have he2 : x.toList.isEmpty = false := emp_f hx0
                have b5 : (0 : Int) ≤ (x.size : Int) - 1 := by omega
                have b6 : (x.size : Int) - 1 < (x.size : Int) := by omega
                have b7 : ((x.size : Int) - 1).toNat = x.size - 1 := by omega
                have e2 : (((x[x.size - 1]'(by omega)).toNat : Int) == 92) = false := (lastIs_at hx0).symm.trans hl
                have hsn : Hid (whs (done ++ [(x.data.toList, k + 1)]) = whs done ++ [.string x, .int .i64 ((k : Int) + 1)]) := by
                  show _ = _
                  rw [whs_snoc]
                  unfold whCells
                  rw [str_data]
                  rfl
                have HN2 : Hid (machL 1 none rs = (done ++ [(x.data.toList, k + 1)]) ++ machL (j + 1 + 1) none (rs.drop (j + 1))) := by
                  show _ = _
                  rw [hat2.out, goW_stop (by exact hl), List.append_assoc]
                  rfl
                go_wp2_with (at_builtin; refine wpList_append_own _ rfl _ _ 45 rfl w1.heap.size 48 i0 (.agg #[.string ⟨#[]⟩, .int .i64 0]) 2 24 Tryd.underlying45 hi hz0 hz1 hz2 rfl (by decide) _ _ _ rfl (HB2.out.alloc _) ⟨wr.heap.size, 0, none⟩ 1 1 [.string x, .int .i64 ((k : Int) + 1)] rfl rfl ?a1a ?a2a ?a3a ?a4a ?a5a ?_)
                case a1a =>
                  intro q u hq
                  have e : (⟨wr.heap.size, 0, none⟩ : Addr).add q = ⟨wr.heap.size, q, none⟩ := by unfold Addr.add; split <;> simp_all
                  rw [e, (Blk.new wr 48 #[.string x, .int .i64 ((k : Int) + 1)]).cell q]
                  simpa using hq
                case a2a => intro u hu; simp at hu; rcases hu with rfl | rfl <;> rfl
                case a3a => unfold maxLen; omega
                case a4a => omega
                case a5a => simp; omega
                intro v' w2 hown' hgrow _
                have HB3 : Hid (w2.ownsRow w1.heap.size 48 2 v' (done ++ [(x.data.toList, k + 1)]).length (whs (done ++ [(x.data.toList, k + 1)]))) := by rw [hsn.out, List.length_append]; exact hown'
                have Hb3 : Hid (Below w1.heap.size w1 w2) := (Hb2.out.alloc hbs2 _).grown hgrow (by simp; omega) (fun g hg => (HB2.out.lt g hg).1)
                clear hown' hgrow
                go_wp2_with fail
                go_roundw
                case rel => exact ⟨j + 1, _, by omega, by simp; omega, by go_num, HN2, HB3, Hb3⟩
                case measure => simp [intOf]; omega
              · have he2 : x.toList.isEmpty = true := emp_t (by omega)
                have hsn : Hid (whs (done ++ [(x.data.toList, k + 1)]) = whs done ++ [.string x, .int .i64 ((k : Int) + 1)]) := by
                  show _ = _
                  rw [whs_snoc]
                  unfold whCells
                  rw [str_data]
                  rfl
                have HN2 : Hid (machL 1 none rs = (done ++ [(x.data.toList, k + 1)]) ++ machL (j + 1 + 1) none (rs.drop (j + 1))) := by
                  show _ = _
                  rw [hat2.out, goW_stop (by exact hl), List.append_assoc]
                  rfl
                go_wp2_with (at_builtin; refine wpList_append_own _ rfl _ _ 45 rfl w1.heap.size 48 i0 (.agg #[.string ⟨#[]⟩, .int .i64 0]) 2 24 Tryd.underlying45 hi hz0 hz1 hz2 rfl (by decide) _ _ _ rfl (HB2.out.alloc _) ⟨wr.heap.size, 0, none⟩ 1 1 [.string x, .int .i64 ((k : Int) + 1)] rfl rfl ?a1b ?a2b ?a3b ?a4b ?a5b ?_)
                case a1b =>
                  intro q u hq
                  have e : (⟨wr.heap.size, 0, none⟩ : Addr).add q = ⟨wr.heap.size, q, none⟩ := by unfold Addr.add; split <;> simp_all
                  rw [e, (Blk.new wr 48 #[.string x, .int .i64 ((k : Int) + 1)]).cell q]
                  simpa using hq
                case a2b => intro u hu; simp at hu; rcases hu with rfl | rfl <;> rfl
                case a3b => unfold maxLen; omega
                case a4b => omega
                case a5b => simp; omega
                intro v' w2 hown' hgrow _
                have HB3 : Hid (w2.ownsRow w1.heap.size 48 2 v' (done ++ [(x.data.toList, k + 1)]).length (whs (done ++ [(x.data.toList, k + 1)]))) := by rw [hsn.out, List.length_append]; exact hown'
                have Hb3 : Hid (Below w1.heap.size w1 w2) := (Hb2.out.alloc hbs2 _).grown hgrow (by simp; omega) (fun g hg => (HB2.out.lt g hg).1)
                clear hown' hgrow
                go_wp2_with fail
                go_roundw
                case rel => exact ⟨j + 1, _, by omega, by simp; omega, by go_num, HN2, HB3, Hb3⟩
                case measure => simp [intOf]; omega
            · have hx0 : 0 < x.size := by
                rcases Nat.eq_zero_or_pos x.size with h0 | h0
                · rw [lastIs_empty h0] at hl; cases hl
                · exact h0
              have hjlt : j < rs.length := by
                rcases hjl.out with h | h
                · exact h
                · rw [h] at hl; cases hl
              have he2 : x.toList.isEmpty = false := emp_f hx0
              have b5 : (0 : Int) ≤ (x.size : Int) - 1 := by omega
              have b6 : (x.size : Int) - 1 < (x.size : Int) := by omega
              have b8 : (x.size : Int) - 1 ≤ (x.size : Int) := by omega
              have b7 : ((x.size : Int) - 1).toNat = x.size - 1 := by omega
              have e2 : (((x[x.size - 1]'(by omega)).toNat : Int) == 92) = true := (lastIs_at hx0).symm.trans hl
              have HL := Lib.hid hl
              have hdl2 : (x.extract 0 (x.size - 1) ++ (⟨#[32]⟩ : ByteArray)).data.toList = x.data.toList.dropLast ++ [32] := by
                rw [app_list]
                have h1 := last_at hx0
                have h2 : x.data.toList.dropLast = (x.extract 0 (x.size - 1)).data.toList := by
                  conv => lhs; rw [h1]
                  simp
                rw [h2]
              have HX := Lib.hid hdl2
              have hxs : (x.extract 0 (x.size - 1)).size ≤ 20001 := by rw [ByteArray.size_extract]; omega
              have HXS : Hid ((x.extract 0 (x.size - 1) ++ (⟨#[32]⟩ : ByteArray)).size = x.size) := by
                show _ = _
                rw [← size_list, hdl2, List.length_append, List.length_dropLast, size_list]
                show x.size - 1 + 1 = _
                omega
              clear hl hdl2
              go_wp2_with fail
              have HG3 : Hid (Blk (wr.setCell ⟨wo.heap.size, 0, none⟩ (.string (x.extract 0 (x.size - 1) ++ (⟨#[32]⟩ : ByteArray)))) wo.heap.size 48 #[.string (x.extract 0 (x.size - 1) ++ (⟨#[32]⟩ : ByteArray)), .int .i64 ((k : Int) + 1)]) := HG2.out.setCell 0 _
              have HB3 : Hid ((wr.setCell ⟨wo.heap.size, 0, none⟩ (.string (x.extract 0 (x.size - 1) ++ (⟨#[32]⟩ : ByteArray)))).ownsRow w1.heap.size 48 2 u4 done.length (whs done)) := own_far HB2.out hne4.out
              have Hb3 : Hid (Below w1.heap.size w1 (wr.setCell ⟨wo.heap.size, 0, none⟩ (.string (x.extract 0 (x.size - 1) ++ (⟨#[32]⟩ : ByteArray))))) := Hb2.out.setCell (p := ⟨wo.heap.size, 0, none⟩) hbs _
              clear c0 f0 c1
              generalize wr.setCell ⟨wo.heap.size, 0, none⟩ (.string (x.extract 0 (x.size - 1) ++ (⟨#[32]⟩ : ByteArray))) = w3 at *
              generalize x.extract 0 (x.size - 1) ++ (⟨#[32]⟩ : ByteArray) = y at *
              have c0 : w3.cell? ⟨wo.heap.size, 0, none⟩ = some (.string y) := HG3.out.cell 0
              have f0 : w3.frozen? ⟨wo.heap.size, 0, none⟩ = false := HG3.out.frozen 0
              have HP0 : Hid (∀ P : List UInt8 × Nat, machL (j + 1 + 1) (some P) (rs.drop (j + 1)) = machL (j + 1 + 1) (some P) (rs.drop (j + 1))) := fun _ => rfl
              go_loop [5] (fun i => ∃ q : Nat, i = .int .i64 q ∧ j + 1 ≤ q ∧ q ≤ rs.length ∧ Hid (∀ P : List UInt8 × Nat, machL (j + 1 + 1) (some P) (rs.drop (j + 1)) = machL (q + 1) (some P) (rs.drop q))) (fun i => rs.length - (intOf i).toNat)
              case atStart => exact ⟨j + 1, by go_num, Nat.le_refl _, by omega, HP0⟩
              case round =>
                obtain ⟨q, rfl, hjq, hqn, HP⟩ := hrel
                have d0 : (0 : Int) ≤ (q : Int) := by omega
                by_cases hql : q < rs.length
                · have d1 : (q : Int) < (rs.length : Int) := by omega
                  obtain ⟨ad2, r2, hA, _, hx2, hc2⟩ := (HR.out.below Hb3.out).at_ hql
                  injection hA with hA
                  subst hA
                  have HD2 := Lib.hid (drop_get hx2)
                  have hcr2 : r2.length + 1 + costR (rs.drop (q + 1)) ≤ costR (rs.drop (j + 1)) := by
                    have h1 := costR_drop (rs.drop (j + 1)) (q - (j + 1))
                    rw [List.drop_drop, show j + 1 + (q - (j + 1)) = q by omega, HD2.out, costR_cons] at h1
                    omega
                  have hrm2 : (str r2).size ≤ maxLen := by rw [str_size]; unfold maxLen; omega
                  clear hx2
                  rcases hrem2 : remS (str r2) with _ | _
                  · have HN2 : Hid (machL 1 none rs = done ++ goW (y ++ str r2).data.toList (k + 1) (rs.drop (q + 1)) (q + 1 + 1)) := by
                      show _ = _
                      have hr2 : remL r2 = false := hrem2
                      rw [hat2.out, goW_go (by exact HL.out), HP.out, HD2.out, goW_row _ _ _ _ _ hr2, app_list, HX.out]
                      rfl
                    have hsz : (y ++ str r2).size + costR (rs.drop (q + 1)) ≤ s.size + 1 := by
                      rw [← size_list, app_list, List.length_append, size_list, HXS.out]
                      show x.size + r2.length + _ ≤ _
                      omega
                    have hys : y.size ≤ 20001 := by rw [HXS.out]; omega
                    have hrs2 : (str r2).size ≤ 20001 := by rw [str_size]; omega
                    have g1 : w3.cell? ⟨wo.heap.size, 1, none⟩ = some (.int .i64 ((k : Int) + 1)) := HG3.out.cell 1
                    go_wp2_with (go_at_call 38; refine (remark_any _ hrm2 _).mono ?_; rintro e w' ⟨rfl, rfl⟩)
                    go_region
                    all_goals
                      have HG4 : Hid (Blk (w3.setCell ⟨wo.heap.size, 0, none⟩ (.string (y ++ str r2))).drew wo.heap.size 48 #[.string (y ++ str r2), .int .i64 ((k : Int) + 1)]) := HG3.out.setCell 0 _
                      have HB4 : Hid ((w3.setCell ⟨wo.heap.size, 0, none⟩ (.string (y ++ str r2))).drew.ownsRow w1.heap.size 48 2 u4 done.length (whs done)) := own_far HB3.out hne4.out
                      have Hb4 : Hid (Below w1.heap.size w1 (w3.setCell ⟨wo.heap.size, 0, none⟩ (.string (y ++ str r2))).drew) := below_drewN (Hb3.out.setCell (p := ⟨wo.heap.size, 0, none⟩) hbs _) 1
                      go_wp2_with fail
                      go_roundw
                      case rel => exact ⟨q, y ++ str r2, rfl, by omega, by omega, hsz, .inl hql, HN2, HG4, HB4, Hb4⟩
                      case measure => simp [intOf]; omega
                  · have HP2 : Hid (∀ P : List UInt8 × Nat, machL (j + 1 + 1) (some P) (rs.drop (j + 1)) = machL (q + 1 + 1) (some P) (rs.drop (q + 1))) := by
                      show ∀ _, _
                      rintro ⟨a, b⟩
                      have : remL r2 = true := hrem2
                      rw [HP.out, HD2.out, machL, this, if_pos rfl]
                    go_wp2_with (go_at_call 38; refine (remark_any _ hrm2 _).mono ?_; rintro e w' ⟨rfl, rfl⟩)
                    go_round
                    case rel => exact ⟨q + 1, by go_num, by omega, by omega, HP2⟩
                    case measure => simp [intOf]; omega
                · obtain rfl : q = rs.length := by omega
                  have HN2 : Hid (machL 1 none rs = done ++ goW y.data.toList (k + 1) (rs.drop (rs.length + 1)) (rs.length + 1 + 1)) := by
                    show _ = _
                    rw [hat2.out, goW_go (by exact HL.out), HP.out, List.drop_of_length_le (Nat.le_refl _), List.drop_of_length_le (by omega), goW_none _ _ _ (rs.length + 1 + 1), HX.out]
                  have hly : lastIs 92 y = false := by unfold lastIs; rw [HX.out]; exact lastB_blank _
                  have hsz : y.size + costR (rs.drop (rs.length + 1)) ≤ s.size + 1 := by
                    rw [HXS.out, List.drop_of_length_le (by omega)]
                    simp [costR]
                    omega
                  go_wp2_with fail
                  go_roundw
                  case rel => exact ⟨rs.length, y, rfl, by omega, Nat.le_refl _, hsz, .inr hly, HN2, HG3, HB3, Hb3⟩
                  case measure => simp [intOf]; omega
        · have HN : Hid (machL 1 none rs = done ++ machL (k + 1 + 1) none (rs.drop (k + 1))) := by
            show _ = _
            have : remL r = true := hrem
            rw [hat.out, HD.out, machL, if_pos (by unfold skipR; rw [this, Bool.or_true])]
          clear hem hx
          go_wp2_with (first
            | (go_at_call 23; refine (Trim_any _ hrm _).mono ?_; rintro e w' ⟨rfl, rfl⟩)
            | (go_at_call 38; refine (remark_any _ hrm _).mono ?_; rintro e w' ⟨rfl, rfl⟩))
          go_roundw
          case rel => exact ⟨k + 1, done, by omega, by omega, by go_num, HN, hB, hbw⟩
          case measure => simp [intOf]; omega
    · have HN : Hid (machL 1 none rs = done) := by
        show _ = _
        rw [hat.out, List.drop_of_length_le (by omega)]
        simp [machL]
      have b1 : (rs.length : Int) ≤ (k : Int) := by omega
      go_wp2_with fail
      go_ret
      refine ⟨_, rfl, ?_, more3 HB1.out HB1.out.size hbw.out⟩
      rw [hrs, HN.out]
      exact own_low hB.out hwz
where
  sgo_le' (rs : List (List UInt8)) : rs.length ≤ costR rs := by
    induction rs with
    | nil => exact Nat.zero_le _
    | cons r rs ih => rw [costR_cons, List.length_cons]; omega
end Go.Proofs.YthgpocbmkmmecaaDoor
