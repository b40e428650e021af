/- The walks of pulledBy and saysAfter. The walks of pulledBy and addTarget. -/
import Derived.Test.YtcoepioahabbdaaGreatGybc
import Derived.Test.YtcoepioahabbdaaGreatGybf
import Derived.Test.YtcoepioahabbdaaGreatGyas
import Derived.BigQuiet
namespace Go.Proofs.YtcoepioahabbdaaGreat
open Go.RowKit
set_option maxRecDepth 10000 in
set_option maxHeartbeats 4000000 in
theorem index_any (A : Option Addr) (n c B : Nat) (l : List (Int × Tx)) (k : Int) (t : Tx) (w : World) (h : SlAt rlLay w B A n l) (hB : B ≤ w.heap.size) :
    Calls Tryz.prog 128 #[.slice A n c, .agg #[.int .i64 k, .string (str t)]] w fun e w' => ∃ i : Int, e = .returned (.int .i64 i) ∧ (0 ≤ i ↔ (k, t) ∈ l) ∧ Below w.heap.size w w' := by
  have hl := h.1
  have hm := h.2.1
  unfold maxLen at hm
  have HL := Lib.hid h
  have HB0 : Hid (Below w.heap.size w (w.alloc (.cells #[.int .i64 k, .string (str t)] 56))) := (Below.refl _ w).alloc (Nat.le_refl _) _
  have HX0 : Hid (Blk (w.alloc (.cells #[.int .i64 k, .string (str t)] 56)) w.heap.size 56 #[.int .i64 k, .string (str t)]) := Blk.new _ _ _
  have HN0 : Hid ((k, t) ∉ l.take 0) := by intro h; simp at h
  clear h
  go_enter Tryz.func128, Tryz.ntmps128
  go_wp2_with fail
  obtain ⟨w0, hw0⟩ : ∃ w0, w.alloc (.cells #[.int .i64 k, .string (str t)] 56) = w0 := ⟨_, rfl⟩
  rw [hw0] at HB0 HX0
  rw [hw0]
  clear hw0
  go_loopw [8] (fun i wr => ∃ q : Nat, q ≤ n ∧ i = .int .i64 q ∧ Hid (Below w0.heap.size w0 wr) ∧ Hid ((k, t) ∉ l.take q)) (fun i wr => n - (intOf i).toNat)
  case atStart => exact ⟨0, Nat.zero_le _, rfl, Below.refl _ _, HN0⟩
  case round =>
    clear HN0
    obtain ⟨q, hq, rfl, hb, hN⟩ := hrel
    have hwr := Lib.hid (more3 HB0.out HB0.out.size hb.out)
    have HXr := Lib.hid (HX0.out.below hb.out HX0.out.lt)
    have x0 : wr.cell? ⟨w.heap.size, 0, none⟩ = some (.int .i64 k) := HXr.out.cell 0
    have x1 : wr.cell? ⟨w.heap.size, 1, none⟩ = some (.string (str t)) := HXr.out.cell 1
    by_cases hlt : q < n
    · have b0 : (0 : Int) ≤ (q : Int) := by omega
      have b1 : (q : Int) < (n : Int) := by omega
      obtain ⟨ad, e, rfl, hab, hx, q0, q1⟩ := rls_at (HL.out.below (hwr.out.mono hB)) hlt
      obtain ⟨n1, n2⟩ := mem_take hN.out hx
      obtain ⟨ek, et⟩ := e
      have hqe : ∀ W, (binOp .eql 56 (.agg #[.int .i64 k, .string (str t)]) (.agg #[.int .i64 ek, .string (str et)])).run Tryz.prog W = .ok (.bool (decide ((ek, et) = (k, t)))) W := fun W => by
        rw [run_eql_rel, eqT_str]
        congr 2
        rw [Bool.eq_iff_iff]
        simp only [Bool.and_eq_true, beq_iff_eq, decide_eq_true_eq, Prod.mk.injEq]
        exact ⟨fun ⟨a, b⟩ => ⟨a.symm, b.symm⟩, fun ⟨a, b⟩ => ⟨a.symm, b.symm⟩⟩
      by_cases hxn : ((ek, et) : Int × Tx) = (k, t)
      · have HF := Lib.hid (n1 hxn)
        rw [decide_eq_true hxn] at hqe
        clear hxn n1 n2 hx
        go_wp2_with fail
        go_quiet (fail)
        go_wp2_with fail
        go_ret
        exact ⟨_, rfl, ⟨fun _ => HF.out, fun _ => by omega⟩, below_drewN hwr.out _⟩
      · have HF := Lib.hid (n2 hxn)
        rw [decide_eq_false hxn] at hqe
        clear hxn n1 n2 hx
        go_wp2_with fail
        go_quiet (fail)
        go_wp2_with fail
        go_roundw
        case rel => exact ⟨q + 1, by omega, by go_num, below_drewN hb.out _, HF⟩
        case measure => simp [intOf]; omega
    · obtain rfl : q = n := by omega
      have HF : Hid ((k, t) ∉ l) := by
        have := hN.out
        rwa [List.take_of_length_le (by omega)] at this
      go_wp2_with fail
      go_ret
      exact ⟨_, rfl, ⟨fun h => absurd h (by decide), fun h => absurd h HF.out⟩, hwr.out⟩
set_option maxRecDepth 10000 in
set_option maxHeartbeats 4000000 in
theorem contains_any (A : Option Addr) (n c B : Nat) (l : List (Int × Tx)) (k : Int) (t : Tx) (w : World) (h : SlAt rlLay w B A n l) (hB : B ≤ w.heap.size) :
    Calls Tryz.prog 120 #[.slice A n c, .agg #[.int .i64 k, .string (str t)]] w fun e w' => e = .returned (.bool (decide ((k, t) ∈ l))) ∧ Below w.heap.size w w' := by
  have hb0 : Below w.heap.size w (w.alloc (.cells #[.int .i64 k, .string (str t)] 56)) := (Below.refl _ w).alloc (Nat.le_refl _) _
  have HB0 := Lib.hid hb0
  have hix := index_any A n c B l k t _ (h.below (hb0.mono hB)) (by have := hb0.size; omega)
  clear h hb0
  go_enter Tryz.func120, Tryz.ntmps120
  go_wp2_with fail
  refine hix.mono ?_
  rintro e w1 ⟨i, rfl, hi, hb1⟩
  have HB1 := Lib.hid (more3 HB0.out HB0.out.size hb1)
  clear hb1 hix
  by_cases hm : (k, t) ∈ l
  · have z := hi.2 hm
    have HM : Hid (decide ((k, t) ∈ l) = true) := decide_eq_true hm
    clear hm hi
    go_wp2_with fail
    go_ret
    exact ⟨ret_bool HM.out.symm, HB1.out⟩
  · have z : ¬ (0 ≤ i) := fun h => hm (hi.1 h)
    have HM : Hid (decide ((k, t) ∈ l) = false) := decide_eq_false hm
    have ZB : Hid (decide (0 ≤ i) = false) := decide_eq_false z
    clear hm hi z
    go_wp2_with fail
    go_ret
    exact ⟨ret_bool (ZB.out.trans HM.out.symm), HB1.out⟩
theorem first_at {U : List LdR} (hr : risesK nmR U) {i : Nat} {y : LdR} {t : Tx} (hy : U[i]? = some y) (ht : y.x.n = t) : firstL' (U.map (·.x)) t = some y.x := by
  have hm : y.x ∈ U.map (·.x) := List.mem_map.2 ⟨y, List.mem_of_getElem? hy, rfl⟩
  obtain ⟨z, hz⟩ := first_is hm
  rw [ht] at hz
  obtain ⟨h1, h2⟩ := first_some hz
  obtain ⟨y', hy', rfl⟩ := List.mem_map.1 h1
  obtain ⟨j, hj⟩ := List.mem_iff_getElem?.1 hy'
  rw [hz]
  have e : j = i := by
    rcases Nat.lt_trichotomy j i with h | h | h
    · have := rises_two hr hj hy h
      rw [show nmR y' = nmR y from h2.trans ht.symm] at this
      exact absurd this (List.lt_irrefl _)
    · exact h
    · have := rises_two hr hy hj h
      rw [show nmR y' = nmR y from h2.trans ht.symm] at this
      exact absurd this (List.lt_irrefl _)
  subst e
  rw [hj] at hy
  cases hy
  rfl
theorem says_some {U : List LdR} {y : LdR} {t n : Tx} (h : firstL' (U.map (·.x)) t = some y.x) : saysP (U.map (·.x)) t n = (decide (y.x.s = 1) && decide ((8, n) ∈ y.x.rels)) := by unfold saysP; rw [h]
theorem says_none {U : List LdR} {t n : Tx} (h : hasK nmR U t = false) : saysP (U.map (·.x)) t n = false := by
  unfold saysP
  cases hf : firstL' (U.map (·.x)) t with
  | none => rfl
  | some z =>
    obtain ⟨h1, h2⟩ := first_some hf
    obtain ⟨y, hy, rfl⟩ := List.mem_map.1 h1
    unfold hasK at h
    rw [decide_eq_false_iff_not] at h
    exact absurd (List.mem_map.2 ⟨y, hy, h2⟩) h
set_option maxRecDepth 10000 in
set_option maxHeartbeats 8000000 in
theorem saysAfter_any (g : Nat) (UA : Option Addr) (n uc : Nat) (E : Value) (es : List Ed) (U : List LdR) (t o : Tx) (w : World) (hw : Wb w g UA n uc E es) (hU : Us w g UA n U) :
    Calls Tryz.prog 96 #[.pointer (some ⟨g, 0, none⟩), .string (str t), .string (str o)] w fun e w' => e = .returned (.bool (saysP (U.map (·.x)) t o)) ∧ Below w.heap.size w w' := by
  have HW := Lib.hid hw
  have HU := Lib.hid hU
  have hgl := hw.lt
  have c0 : w.cell? ⟨g, 0, none⟩ = some (.slice UA n uc) := hw.box.cell 0
  have hsr := search_any UA n uc g U t w hU.lds (Nat.le_of_lt hgl) hU.rise (by have := hU.few; omega)
  have hn := hU.lds.row.1
  clear hw hU
  go_enter Tryz.func96, Tryz.ntmps96
  go_wp2_with fail
  refine hsr.mono ?_
  rintro e w1 ⟨i, hp, rfl, hb1⟩
  have HU1 := Lib.hid (HU.out.below hb1 (Nat.le_of_lt hgl))
  have HB1 := Lib.hid hb1
  have c1 : w1.cell? ⟨g, 0, none⟩ = some (.slice UA n uc) := (hb1.cell hgl).trans c0
  have h1s := hb1.size
  have HP := Lib.hid hp
  clear hb1 hsr c0 hp
  cases hh : hasK nmR U t with
  | false =>
    have HN := Lib.hid (says_none (n := o) hh)
    clear hh
    go_wp2_with fail
    go_ret
    exact ⟨ret_bool HN.out.symm, HB1.out⟩
  | true =>
    obtain ⟨y, hy, ht⟩ := (pos_has HP.out HU1.out.rise).1 hh
    have hin : i < n := by have := (List.getElem?_eq_some_iff.1 hy).1; omega
    have HN := Lib.hid (says_some (n := o) (first_at HU1.out.rise hy ht))
    have b0 : (0 : Int) ≤ (i : Int) := by omega
    have b1 : (i : Int) < (n : Int) := by omega
    obtain ⟨ad, y', rfl, hab, hx, hc⟩ := HU1.out.lds.row.at_ hin
    rw [hy] at hx
    cases hx
    have hI := HU1.out.lds.is y (List.mem_of_getElem? hy)
    obtain ⟨RA, rc, hl1, hl2, hl3, hl4⟩ := hI.rels
    have HR4 := Lib.hid hl4
    have toL : ∀ (k : Nat) (v : Value), y.a[k]? = some v → (ldLay.cs y)[k]? = some v := fun k v hv => by simpa [ldLay] using hv
    have q1 : w1.cell? ⟨(ad.add (i * 42)).block, (ad.add (i * 42)).off + 1, none⟩ = some (.int .i64 y.x.s) := by
      have := hc 1 _ (toL _ _ hI.state)
      rwa [show ldLay.sz = 42 from rfl, addA_off _ _ _ (by decide)] at this
    have q9 : w1.cell? ⟨(ad.add (i * 42)).block, (ad.add (i * 42)).off + 9, none⟩ = some (.slice RA y.x.rels.length rc) := by
      have := hc 9 _ (toL _ _ hl1)
      rwa [show ldLay.sz = 42 from rfl, addA_off _ _ _ (by decide)] at this
    clear hh hy ht hc hI hl1 hl2 hl3 hl4 toL
    by_cases hs : y.x.s = 1
    · have hs1 : (y.x.s == 1) = true := by simpa using hs
      have HN2 : Hid (saysP (U.map (·.x)) t o = decide ((8, o) ∈ y.x.rels)) := by show _ = _; rw [HN.out, decide_eq_true hs, Bool.true_and]
      clear hs HN
      have hct := contains_any RA y.x.rels.length rc g y.x.rels 8 o w1 HR4.out (by omega)
      go_wp2_with fail
      refine hct.mono ?_
      rintro e w2 ⟨rfl, hb2⟩
      have HB2 := Lib.hid (more3 HB1.out HB1.out.size hb2)
      clear hb2 hct
      go_wp2_with fail
      go_ret
      exact ⟨ret_bool HN2.out.symm, HB2.out⟩
    · have hs1 : (y.x.s == 1) = false := by simpa using hs
      have HN2 : Hid (saysP (U.map (·.x)) t o = false) := by show _ = _; rw [HN.out, decide_eq_false hs, Bool.false_and]
      clear hs HN
      go_wp2_with fail
      go_ret
      exact ⟨ret_bool HN2.out.symm, HB1.out⟩
end Go.Proofs.YtcoepioahabbdaaGreat
namespace Go.Proofs.YtcoepioahabbdaaGreat
open Go.RowKit
theorem tx_one {w : World} {b : Nat} (x : Tx) (h : Blk w b 9 #[.string (str x)]) : ∀ (j : Nat) (u : Value), (txLay.all [x])[j]? = some u → w.cell? ((⟨b, 0, none⟩ : Addr).add j) = some u := fun j u hj => by
  rw [addA_mk, Nat.zero_add]
  refine box_cell h ?_
  simpa [Lay.all, txLay] using hj
set_option maxRecDepth 10000 in
set_option maxHeartbeats 16000000 in
theorem pulledBy_any (r : LdR) (B : Nat) (w : World) (hI : LdIs w B r) (hS : Small r.x) (hB : B ≤ w.heap.size) :
    Calls Tryz.prog 95 #[.agg r.a] w (NewT (pullP r.x) w) := by
  have hbw : Below w.heap.size w (w.alloc (.cells r.a 53)) := (Below.refl _ w).alloc (Nat.le_refl _) _
  have HBK : Hid (Blk (w.alloc (.cells r.a 53)) w.heap.size 53 r.a) := Blk.new w _ _
  have HBW := Lib.hid hbw
  have hrows := hS.rows
  obtain ⟨WA, wc, hw1, hw2, hw3, hw4⟩ := hI.wants
  obtain ⟨QA, qc, hr1, hr2, hr3, hr4⟩ := hI.reqs
  obtain ⟨RA, rc, hl1, hl2, hl3, hl4⟩ := hI.rels
  have HW4 := Lib.hid hw4
  have HQ4 := Lib.hid hr4
  have HR4 := Lib.hid hl4
  have c9 : (w.alloc (.cells r.a 53)).cell? ⟨w.heap.size, 9, none⟩ = some (.slice RA r.x.rels.length rc) := box_cell HBK.out hl1
  have c40 : (w.alloc (.cells r.a 53)).cell? ⟨w.heap.size, 40, none⟩ = some (.slice WA r.x.wants.length wc) := box_cell HBK.out hw1
  have c41 : (w.alloc (.cells r.a 53)).cell? ⟨w.heap.size, 41, none⟩ = some (.slice QA r.x.reqs.length qc) := box_cell HBK.out hr1
  have hbb : Below w.heap.size w ((w.alloc (.cells r.a 53)).alloc (.cells #[.slice WA r.x.wants.length wc, .slice QA r.x.reqs.length qc] 37)) := hbw.alloc (by simp) _
  have hb2 : Blk ((w.alloc (.cells r.a 53)).alloc (.cells #[.slice WA r.x.wants.length wc, .slice QA r.x.reqs.length qc] 37)) (w.heap.size + 1) 37 #[.slice WA r.x.wants.length wc, .slice QA r.x.reqs.length qc] := alloc2_new _ _ _
  have hcc := concat_any (w.heap.size + 1) WA QA wc qc B r.x.wants r.x.reqs _ hb2 (hw4.below (hbb.mono hB)) (hr4.below (hbb.mono hB)) (by have := hbb.size; omega) (by omega)
  have HBB := Lib.hid hbb
  have HBK2 : Hid (Blk ((w.alloc (.cells r.a 53)).alloc (.cells #[.slice WA r.x.wants.length wc, .slice QA r.x.reqs.length qc] 37)) w.heap.size 53 r.a) := HBK.out.alloc _
  have HC9 := Lib.hid hl1
  clear hI hS hw1 hw3 hw4 hr1 hr3 hr4 hl1 hl3 hl4 hbw hbb hb2
  unfold NewT
  go_enter Tryz.func95, Tryz.ntmps95
  go_wp2_with fail
  refine hcc.mono ?_
  rintro e w1 ⟨v1, rfl, ho1, hb1⟩
  have HO1 := Lib.hid ho1
  have HB1 := Lib.hid (more3 HBB.out HBB.out.size hb1)
  have HBK1 := Lib.hid (HBK2.out.below hb1 HBK2.out.lt)
  have hbs := ho1
  have e9 : w1.cell? ⟨w.heap.size, 9, none⟩ = some (.slice RA r.x.rels.length rc) := box_cell HBK1.out HC9.out
  have HO1' : Hid (OwnG txLay 9 w1 (w.heap.size + 1) v1 (namesK r.x 0)) := by
    show OwnG _ _ _ _ _ _
    rw [namesK_zero]
    exact HO1.out.base_le (by have := HBK2.out.lt; simp at this ⊢)
  clear ho1 hb1 hcc c9 c40 c41 hbs HO1 HBK HBK2
  go_wp2_with fail
  obtain ⟨b, hb⟩ : ∃ b, w.heap.size = b := ⟨_, rfl⟩
  have hw1 := HB1.out.size
  have hbk1 := HBK1.out.lt
  rw [hb] at HO1' HBK1 hw1 hbk1
  rw [hb]
  go_loopw [3, 16] (fun v i wr => ∃ k : Nat, k ≤ r.x.rels.length ∧ i = .int .i64 k ∧ Hid (OwnG txLay 9 wr (b + 1) v (namesK r.x k)) ∧ Hid (Below (b + 1) w1 wr)) (fun _ i wr => r.x.rels.length - (intOf i).toNat)
  case atStart => exact ⟨0, Nat.zero_le _, rfl, HO1', Below.refl _ _⟩
  case round =>
    clear HO1'
    obtain ⟨k, hk, rfl, hO, hBw⟩ := hrel
    have hws := hBw.out.size
    have hnl := namesK_len r.x k
    by_cases hlt : k < r.x.rels.length
    · have b0 : (0 : Int) ≤ (k : Int) := by omega
      have b1 : (k : Int) < (r.x.rels.length : Int) := by omega
      obtain ⟨ad, e, rfl, hab, hx, q0, q1⟩ := rls_at (HR4.out.below (w' := wr) ((HB1.out.mono hB).trans (hBw.out.mono (by omega)))) hlt
      obtain ⟨ek, et⟩ := e
      have HT := Lib.hid (take_filt hx (fun r => decide (r.1 = 1 ∨ r.1 = 2)) (·.2))
      have HNK : Hid (namesK r.x (k + 1) = namesK r.x k ++ (if ek = 1 ∨ ek = 2 then [et] else [])) := by
        show _ = _
        unfold namesK
        rw [HT.out, List.append_assoc]
        by_cases h : ek = 1 ∨ ek = 2 <;> simp [h]
      have hOa := hO.out.below ((Below.refl _ wr).alloc (Nat.le_refl _) (.cells #[.int .i64 ek, .string (str et)] 56))
      have HOa := Lib.hid hOa
      have HBa := Lib.hid (hBw.out.alloc (by omega) (.cells #[.int .i64 ek, .string (str et)] 56))
      obtain ⟨xs, hxs⟩ : ∃ xs, namesK r.x k = xs := ⟨_, rfl⟩
      rw [hxs] at HOa HNK hO hOa hnl
      clear hx HT hxs hOa
      have yes : (ek = 1 ∨ ek = 2) → Hid (namesK r.x (k + 1) = xs ++ [et]) := fun h => by show _ = _; rw [HNK.out, if_pos h]
      by_cases h1 : ek = 1
      · have HY := yes (.inl h1)
        have hk1 : (ek == 1) = true := by simpa using h1
        have HOb := Lib.hid (HOa.out.below ((Below.refl _ _).alloc (Nat.le_refl _) (.cells #[.string (str et)] 9)))
        have HTx := Lib.hid (tx_one et (alloc2_new wr (.cells #[.int .i64 ek, .string (str et)] 56) (.cells #[.string (str et)] 9)))
        have HBb := Lib.hid (HBa.out.alloc (by simp; omega) (.cells #[.string (str et)] 9))
        clear h1 yes HNK hBw hO
        go_wp2_with (refine wpList_appendO txTy rfl _ _ rfl (b + 1) _ xs [et] rfl HOb.out ⟨wr.heap.size + 1, 0, none⟩ 1 1 rfl rfl HTx.out (by omega) (by simp; omega) ?_)
        intro v5 w5 own5 grow5 _
        have HO5 : Hid (OwnG txLay 9 w5 (b + 1) v5 (namesK r.x (k + 1))) := by show OwnG _ _ _ _ _ _; rw [HY.out]; exact own5
        have HB5 := Lib.hid (HBb.out.grown grow5 (by simp; omega) (fun g hg => (HOb.out.lt hg).1))
        clear own5 grow5
        go_wp2_with fail
        go_roundw
        case rel => exact ⟨k + 1, by omega, by go_num, HO5, HB5⟩
        case measure => simp [intOf]; omega
      · by_cases h2 : ek = 2
        · have HY := yes (.inr h2)
          have hk1 : (ek == 1) = false := by simpa using h1
          have hk2 : (ek == 2) = true := by simpa using h2
          have HOb := Lib.hid (HOa.out.below ((Below.refl _ _).alloc (Nat.le_refl _) (.cells #[.string (str et)] 9)))
          have HTx := Lib.hid (tx_one et (alloc2_new wr (.cells #[.int .i64 ek, .string (str et)] 56) (.cells #[.string (str et)] 9)))
          have HBb := Lib.hid (HBa.out.alloc (by simp; omega) (.cells #[.string (str et)] 9))
          clear h1 h2 yes HNK hBw hO
          go_wp2_with (refine wpList_appendO txTy rfl _ _ rfl (b + 1) _ xs [et] rfl HOb.out ⟨wr.heap.size + 1, 0, none⟩ 1 1 rfl rfl HTx.out (by omega) (by simp; omega) ?_)
          intro v5 w5 own5 grow5 _
          have HO5 : Hid (OwnG txLay 9 w5 (b + 1) v5 (namesK r.x (k + 1))) := by show OwnG _ _ _ _ _ _; rw [HY.out]; exact own5
          have HB5 := Lib.hid (HBb.out.grown grow5 (by simp; omega) (fun g hg => (HOb.out.lt hg).1))
          clear own5 grow5
          go_wp2_with fail
          go_roundw
          case rel => exact ⟨k + 1, by omega, by go_num, HO5, HB5⟩
          case measure => simp [intOf]; omega
        · have HY : Hid (namesK r.x (k + 1) = xs) := by show _ = _; rw [HNK.out, if_neg (by simp [h1, h2]), List.append_nil]
          have hk1 : (ek == 1) = false := by simpa using h1
          have hk2 : (ek == 2) = false := by simpa using h2
          clear h1 h2 yes HNK hBw hO
          go_wp2_with fail
          go_roundw
          case rel => exact ⟨k + 1, by omega, by go_num, by rw [HY.out]; exact HOa.out, HBa.out⟩
          case measure => simp [intOf]; omega
    · obtain rfl : k = r.x.rels.length := by omega
      rw [namesK_all] at hO
      have hnc : (namesC r.x).length ≤ 1099511627776 := by have := namesK_len r.x r.x.rels.length; rw [namesK_all] at this; omega
      have has := asc_any (b + 1) _ (namesC r.x) wr hO.out hnc
      have hlt' := fun (g : Nat) (hg : _) => (hO.out.lt (g := g) hg).1
      go_wp2_with fail
      refine has.mono ?_
      rintro e w5 ⟨v5, rfl, ho5, hg5⟩
      have HO5 := Lib.hid (ho5.base_le (show b ≤ b + 1 by omega))
      have HB5 : Hid (Below b w w5) := (by rw [hb] at HB1; exact HB1.out.trans ((hBw.out.grown hg5 (by omega) (fun g hg => hlt' g hg)).mono (by omega)))
      clear ho5 hg5 has hlt'
      go_wp2_with fail
      go_ret
      exact ⟨_, rfl, by rw [hb]; exact HO5.out, by rw [hb]; exact HB5.out⟩
structure RowF (W : World) (g : Nat) (E : Value) (A : Option Addr) (l : List Tx) : Prop where
  sl : SlAt txLay W W.heap.size A l.length l
  ne : ∀ ad, A = some ad → ad.block ≠ g ∧ E.ownBlock ≠ some ad.block ∧ ad.block < W.heap.size
theorem RowF.fr {W W' : World} {g : Nat} {E E' : Value} {A : Option Addr} {l : List Tx} (h : RowF W g E A l) (hf : FrE g W E W' E') : RowF W' g E' A l := by
  refine ⟨⟨rfl, h.sl.2.1, fun h0 => ?_⟩, fun ad e => ?_⟩
  · obtain ⟨ad, e, h1, h2⟩ := h.sl.2.2 h0
    obtain ⟨n1, n2, n3⟩ := h.ne ad e
    refine ⟨ad, e, Nat.lt_of_lt_of_le h1 hf.size, fun j u hj => ?_⟩
    exact (World.cell?_of_block (by rw [addA_block]; exact hf.block _ n3 n1 n2)).trans (h2 j u hj)
  · obtain ⟨n1, n2, n3⟩ := h.ne ad e
    refine ⟨n1, fun k => ?_, Nat.lt_of_lt_of_le n3 hf.size⟩
    rcases hf.new _ k with k | k
    · exact n2 k
    · omega
theorem RowF.below {W W' : World} {g : Nat} {E : Value} {A : Option Addr} {l : List Tx} (h : RowF W g E A l) (hb : Below W.heap.size W W') : RowF W' g E A l := h.fr (.of_below E hb)
theorem addT_len (U : List Ld) (x : Ld) (N : Tx → Bool) (f : Tx) (k : Nat) : (addC N f (((((pullP x).take k).filter (fun t => !saysP U t x.n))).map (·, 8))).length ≤ x.rels.length + x.wants.length + x.reqs.length := by
  refine Nat.le_trans (addC_len _ _ _) ?_
  rw [List.length_map]
  refine Nat.le_trans (List.length_filter_le _ _) (Nat.le_trans (List.take_sublist _ _).length_le ?_)
  have := putAll_few (lt := fun a b : Tx => a < b) (namesC x)
  have h2 := namesK_len x x.rels.length
  rw [namesK_all] at h2
  unfold pullP
  omega
set_option maxRecDepth 10000 in
set_option maxHeartbeats 16000000 in
theorem addTarget_any (g : Nat) (UA : Option Addr) (n uc : Nat) (E : Value) (es : List Ed) (U : List LdR) (r : LdR) (w : World) (hw : Wb w g UA n uc E es) (hU : Us w g UA n U) (hM : MineP w g r) (hl : es.length ≤ 274877906944) :
    Calls Tryz.prog 73 #[.pointer (some ⟨g, 0, none⟩), .agg r.a] w (WbPost g UA n uc E (es ++ addC (hasN U) r.x.n (targP (U.map (·.x)) r.x)) w) := by
  have hk0 := wk_start hw hU r
  have HW := Lib.hid hw
  have HS := Lib.hid hM.small
  have HN0 := Lib.hid hM.is.name
  have hrows := hM.small.rows
  have hpb := pulledBy_any r g _ (hM.is.below (hk0.belowg hw)) hM.small (Nat.le_of_lt hk0.wb.lt)
  have HLB := Lib.hid (load_box r hk0.bx.blk)
  have HK0 := Lib.hid hk0
  clear hw hU hM hk0
  go_enter Tryz.func73, Tryz.ntmps73
  go_wp2_with (refine wpList_load_part rfl 53 (.tmp 3) (by rfl) ⟨w.heap.size, 0, none⟩ (by rfl) (.agg r.a) HLB.out ?_)
  obtain ⟨b, hb⟩ : ∃ b, w.heap.size = b := ⟨_, rfl⟩
  obtain ⟨w1, hw1⟩ : ∃ w1, w.alloc (.cells r.a 53) = w1 := ⟨_, rfl⟩
  rw [hb, hw1] at HK0
  rw [hw1] at hpb
  rw [hb, hw1]
  clear hw1 HLB
  refine hpb.mono ?_
  rintro e w2 ⟨v2, rfl, ho2, hb2⟩
  have hpl : (pullP r.x).length ≤ 4194304 := by
    have := putAll_few (lt := fun a b : Tx => a < b) (namesC r.x)
    have h2 := namesK_len r.x r.x.rels.length
    rw [namesK_all] at h2
    unfold pullP
    omega
  obtain ⟨A2, c2, rfl, _, _, hbl2, hsl2⟩ := ho2.slice (by unfold maxLen; omega)
  have HK2 := Lib.hid (HK0.out.below hb2)
  have hE2 : ∀ bb, E.ownBlock = some bb → bb < w1.heap.size := fun bb he => (HK0.out.wb.own.lt he).2
  have hgl := HK0.out.wb.lt
  have HR2 : Hid (RowF w2 g E A2 (pullP r.x)) := ⟨hsl2, fun ad e => by
    obtain ⟨q1, q2, _⟩ := hbl2 ad e
    exact ⟨by omega, fun k => by have := hE2 _ k; omega, q2⟩⟩
  clear ho2 hbl2 hsl2 hpb HK0 hE2 hgl hb2
  obtain ⟨m, hm⟩ : ∃ m, (pullP r.x).length = m := ⟨_, rfl⟩
  rw [hm] at hpl
  rw [hm]
  have HM := Lib.hid hm
  clear hm
  go_wp2_with fail
  go_loopw [9] (fun i wr => ∃ (k : Nat) (E' : Value), k ≤ m ∧ i = .int .i64 k ∧ Hid (Wk w wr g UA n uc E E' (es ++ addC (hasN U) r.x.n (((((pullP r.x).take k).filter (fun t => !saysP (U.map (·.x)) t r.x.n))).map (·, 8))) U b r) ∧ Hid (RowF wr g E' A2 (pullP r.x))) (fun i wr => m - (intOf i).toNat)
  case atStart => exact ⟨0, E, Nat.zero_le _, rfl, by show Wk _ _ _ _ _ _ _ _ _ _ _ _; rw [List.take_zero, List.filter_nil, List.map_nil, addC_nil, List.append_nil]; exact HK2.out, HR2⟩
  case round =>
    clear HK2 HR2
    obtain ⟨k, E', hk, rfl, hK, hR⟩ := hrel
    have e0 := hK.out.cell HN0.out
    by_cases hlt : k < m
    · have b0 : (0 : Int) ≤ (k : Int) := by omega
      have b1 : (k : Int) < (m : Int) := by omega
      obtain ⟨ad, et, rfl, hab, hx, q0⟩ := txs_at hR.out.sl (by rw [HM.out]; exact hlt)
      have hlen := addT_len (U.map (·.x)) r.x (hasN U) r.x.n k
      have HT : Hid (((((pullP r.x).take (k + 1)).filter (fun t => !saysP (U.map (·.x)) t r.x.n))).map (·, (8 : Int)) = ((((pullP r.x).take k).filter (fun t => !saysP (U.map (·.x)) t r.x.n))).map (·, (8 : Int)) ++ (if saysP (U.map (·.x)) et r.x.n = true then [] else [(et, 8)])) := by
        show _ = _
        rw [List.take_add_one, hx]
        simp only [Option.toList_some, List.filter_append, List.map_append]
        congr 1
        cases hq : saysP (U.map (·.x)) et r.x.n <;> simp [hq]
      have hsa := saysAfter_any g UA n uc E' _ U et r.x.n wr hK.out.wb hK.out.us
      obtain ⟨es1, hes1⟩ : ∃ es1, es ++ addC (hasN U) r.x.n (((((pullP r.x).take k).filter (fun t => !saysP (U.map (·.x)) t r.x.n))).map (·, 8)) = es1 := ⟨_, rfl⟩
      have hlen1 : es1.length ≤ 549755813888 := by rw [← hes1, List.length_append]; omega
      have HT2 : Hid (es ++ addC (hasN U) r.x.n (((((pullP r.x).take (k + 1)).filter (fun t => !saysP (U.map (·.x)) t r.x.n))).map (·, 8)) = es1 ++ addC (hasN U) r.x.n (if saysP (U.map (·.x)) et r.x.n = true then [] else [(et, 8)])) := by show _ = _; rw [HT.out, addC_app, ← List.append_assoc, hes1]
      rw [hes1] at hK
      clear hx hlen HT hes1
      go_wp2_with fail
      refine hsa.mono ?_
      rintro e w3 ⟨rfl, hb3⟩
      have HK3 := Lib.hid (hK.out.below hb3)
      have HR3 := Lib.hid (hR.out.below hb3)
      have e3 := HK3.out.cell HN0.out
      clear hb3 hsa hK hR e0 q0
      cases hq : saysP (U.map (·.x)) et r.x.n with
      | true =>
        have HT3 : Hid (es ++ addC (hasN U) r.x.n (((((pullP r.x).take (k + 1)).filter (fun t => !saysP (U.map (·.x)) t r.x.n))).map (·, 8)) = es1) := by show _ = _; rw [HT2.out, hq, if_pos rfl, addC_nil, List.append_nil]
        clear hq HT2
        go_wp2_with fail
        go_roundw
        case rel => exact ⟨k + 1, E', by omega, by go_num, by rw [HT3.out]; exact HK3, HR3⟩
        case measure => simp [intOf]; omega
      | false =>
        have HT3 : Hid (es ++ addC (hasN U) r.x.n (((((pullP r.x).take (k + 1)).filter (fun t => !saysP (U.map (·.x)) t r.x.n))).map (·, 8)) = es1 ++ addC (hasN U) r.x.n [(et, 8)]) := by show _ = _; rw [HT2.out, hq, if_neg (by simp)]
        clear hq HT2
        have hadd := HK3.out.addF et [8] #[.int .i64 8] 1 rfl rfl (by decide) hlen1
        go_wp2_with fail
        refine hadd.mono ?_
        rintro e w5 ⟨rfl, E5, h5, h6⟩
        have H5 : Hid (Wk w w5 g UA n uc E E5 (es ++ addC (hasN U) r.x.n (((((pullP r.x).take (k + 1)).filter (fun t => !saysP (U.map (·.x)) t r.x.n))).map (·, 8))) U b r) := by show Wk _ _ _ _ _ _ _ _ _ _ _ _; rw [HT3.out]; exact h5
        have H6 := Lib.hid (HR3.out.fr h6)
        clear h5 h6 hadd e3
        go_wp2_with fail
        go_roundw
        case rel => exact ⟨k + 1, E5, by omega, by go_num, H5, H6⟩
        case measure => simp [intOf]; omega
    · obtain rfl : k = m := by omega
      rw [show (pullP r.x).take k = pullP r.x from List.take_of_length_le (by rw [HM.out]; exact Nat.le_refl _)] at hK
      have HF := Lib.hid hK.out.back
      go_wp2_with fail
      refine bodyPost_ret (results_none rfl _ _ _) rfl ?_
      exact HF.out
end Go.Proofs.YtcoepioahabbdaaGreat
