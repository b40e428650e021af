/- The walk of the developers' Next. -/
import Derived.Test.YtncolcjejgmhjaaGreatDoorCxaw
namespace Go.Proofs.YtncolcjejgmhjaaGreatDoor
open Go.RowKit
def SQ (w : World) (g k : Nat) (t u : TypeId) (cs ds : Array Value) (W : World) : Prop := Blk W g t cs ∧ Blk W k u ds ∧ Below w.heap.size w W
section
variable {w W W' : World} {g k j : Nat} {t u : TypeId} {cs ds : Array Value}
theorem sq_call (h : SQ w g k t u cs ds W) (hb : Below W.heap.size W W') : SQ w g k t u cs ds W' := ⟨h.1.below hb h.1.lt, h.2.1.below hb h.2.1.lt, more3 h.2.2 h.2.2.size hb⟩
theorem sq_alloc (h : SQ w g k t u cs ds W) (o : Obj) : SQ w g k t u cs ds (W.alloc o) := ⟨h.1.alloc o, h.2.1.alloc o, h.2.2.alloc h.2.2.size o⟩
theorem Blk.setRowOther (h : Blk W g t cs) (hne : g ≠ j) (xs : Array Value) : Blk (W.setRow j xs) g t cs := by
  unfold Blk World.setRow at *
  simp only [Array.getElem?_modify]
  rw [if_neg (Ne.symm hne)]; exact h
theorem sq_row (h : SQ w g k t u cs ds W) (h1 : g ≠ j) (h2 : k ≠ j) (h3 : w.heap.size ≤ j) (xs : Array Value) : SQ w g k t u cs ds (W.setRow j xs) := ⟨h.1.setRowOther h1 xs, h.2.1.setRowOther h2 xs, below_setRow h.2.2 h3 xs⟩
end
def S1 (w : World) (g : Nat) (t : TypeId) (cs : Array Value) (W : World) : Prop := Blk W g t cs ∧ Below w.heap.size w W
theorem s1_call {w W W' : World} {g : Nat} {t : TypeId} {cs : Array Value} (h : S1 w g t cs W) (hb : Below W.heap.size W W') : S1 w g t cs W' := ⟨h.1.below hb h.1.lt, more3 h.2 h.2.size hb⟩
theorem s1_row {w W : World} {g j : Nat} {t : TypeId} {cs : Array Value} (h : S1 w g t cs W) (h1 : g ≠ j) (h3 : w.heap.size ≤ j) (xs : Array Value) : S1 w g t cs (W.setRow j xs) := ⟨h.1.setRowOther h1 xs, below_setRow h.2 h3 xs⟩
theorem s7 {w W : World} {g : Nat} {t : TypeId} {a0 a1 a2 a3 a4 a5 a6 : Value} (H : S1 w g t #[a0, a1, a2, a3, a4, a5, a6] W) :
    W.cell? ⟨g, 0, none⟩ = some a0 ∧ W.cell? ⟨g, 1, none⟩ = some a1 ∧ W.cell? ⟨g, 2, none⟩ = some a2 ∧ W.cell? ⟨g, 3, none⟩ = some a3 ∧ W.cell? ⟨g, 4, none⟩ = some a4 ∧ W.cell? ⟨g, 5, none⟩ = some a5 ∧ W.cell? ⟨g, 6, none⟩ = some a6 ∧ S1 w g t #[a0, a1, a2, a3, a4, a5, a6] W :=
  ⟨H.1.cell 0, H.1.cell 1, H.1.cell 2, H.1.cell 3, H.1.cell 4, H.1.cell 5, H.1.cell 6, H⟩
def S2 (w : World) (g k : Nat) (t u : TypeId) (cs ds : Array Value) (W : World) : Prop := SQ w g k t u cs ds W
theorem s77 {w W : World} {g k : Nat} {t u : TypeId} {a0 a1 a2 a3 a4 a5 a6 : Value} {ds : Array Value} (H : SQ w g k t u #[a0, a1, a2, a3, a4, a5, a6] ds W) :
    W.cell? ⟨g, 0, none⟩ = some a0 ∧ W.cell? ⟨g, 1, none⟩ = some a1 ∧ W.cell? ⟨g, 2, none⟩ = some a2 ∧ W.cell? ⟨g, 3, none⟩ = some a3 ∧ W.cell? ⟨g, 4, none⟩ = some a4 ∧ W.cell? ⟨g, 5, none⟩ = some a5 ∧ W.cell? ⟨g, 6, none⟩ = some a6 ∧ S2 w g k t u #[a0, a1, a2, a3, a4, a5, a6] ds W :=
  ⟨H.1.cell 0, H.1.cell 1, H.1.cell 2, H.1.cell 3, H.1.cell 4, H.1.cell 5, H.1.cell 6, H⟩
theorem num3 {W : World} {k : Nat} {u : TypeId} {b0 b1 b2 b3 b4 b5 : Value} (H : Blk W k u #[b0, b1, b2, b3, b4, b5]) : W.cell? ⟨k, 0, none⟩ = some b0 ∧ W.cell? ⟨k, 1, none⟩ = some b1 ∧ W.cell? ⟨k, 2, none⟩ = some b2 := ⟨H.cell 0, H.cell 1, H.cell 2⟩
theorem s14 {w W : World} {g k : Nat} {t u : TypeId} {a0 a1 a2 a3 a4 a5 a6 b0 b1 b2 b3 b4 b5 b6 : Value} (H : SQ w g k t u #[a0, a1, a2, a3, a4, a5, a6] #[b0, b1, b2, b3, b4, b5, b6] W) :
    W.cell? ⟨g, 0, none⟩ = some a0 ∧ W.cell? ⟨g, 1, none⟩ = some a1 ∧ W.cell? ⟨g, 2, none⟩ = some a2 ∧ W.cell? ⟨g, 3, none⟩ = some a3 ∧ W.cell? ⟨g, 4, none⟩ = some a4 ∧ W.cell? ⟨g, 5, none⟩ = some a5 ∧ W.cell? ⟨g, 6, none⟩ = some a6 ∧
    W.cell? ⟨k, 0, none⟩ = some b0 ∧ W.cell? ⟨k, 1, none⟩ = some b1 ∧ W.cell? ⟨k, 2, none⟩ = some b2 ∧ W.cell? ⟨k, 3, none⟩ = some b3 ∧ W.cell? ⟨k, 4, none⟩ = some b4 ∧ W.cell? ⟨k, 5, none⟩ = some b5 ∧ W.cell? ⟨k, 6, none⟩ = some b6 ∧ SQ w g k t u #[a0, a1, a2, a3, a4, a5, a6] #[b0, b1, b2, b3, b4, b5, b6] W :=
  ⟨H.1.cell 0, H.1.cell 1, H.1.cell 2, H.1.cell 3, H.1.cell 4, H.1.cell 5, H.1.cell 6, H.2.1.cell 0, H.2.1.cell 1, H.2.1.cell 2, H.2.1.cell 3, H.2.1.cell 4, H.2.1.cell 5, H.2.1.cell 6, H⟩
theorem fst_cases (a : Int) : (a < -1 ∧ fstI a = 0) ∨ (-1 ≤ a ∧ a ≤ 6311433600 ∧ fstI a = a + 1) ∨ (6311433600 < a ∧ fstI a = 6311433601) := by
  unfold fstI; omega
set_option maxRecDepth 100000 in
set_option maxHeartbeats 16000000 in
theorem Next_any (c : Ch) (l : Cl) (a : Int) (w : World) (ht : Tabs w) (hc : CalAt w w.heap.size c l) :
    Calls Tryz.prog 6 #[.agg c.cells, .int .i64 a] w fun e w' => e = .returned (.tuple #[.int .i64 (nextN l a), .bool (nextOk l a)]) ∧ Below w.heap.size w w' := by
  have HC := Lib.hid hc
  have HT := Lib.hid ht
  have HLi := Lib.hid (fun W => lists_any c W)
  have HMy := Lib.hid (fun W h1 h2 => May_any c l W h1 h2)
  have HAd := Lib.hid (fun n0 hm hn W h1 h2 => advance2_any c l n0 hm hn W h1 h2)
  clear hc ht
  generalize c.six = SX at HLi HAd
  obtain ⟨⟨dA, dn, dc⟩, y, m, t', h, i, s⟩ := c
  have HD : Hid (IntsAt w w.heap.size dA dn l.ds) := HC.out.1
  unfold Ch.cells at HLi HMy ⊢
  dsimp only at HLi HMy ⊢
  have HOf := Lib.hid (fun W => Of_any (fstI a) W)
  have HFC := Lib.hid (fst_cases a)
  go_enter Tryz.func6, Tryz.ntmps6
  go_upto_region 1 with fail
  go_cut [6, 7] (fun p b wx => ∃ g : Nat, p = .pointer (some ⟨g, 0, none⟩) ∧ b = .bool (isT (fstI a)) ∧ Hid (Blk wx g 39 #[.int .i64 (fY (fstI a)), .int .i64 (fM (fstI a)), .int .i64 (fD (fstI a)), .int .i64 (fH (fstI a)), .int .i64 (fI (fstI a)), .int .i64 (fS (fstI a)), .int .i64 (fW (fstI a))]) ∧ Hid (Blk wx w.heap.size 25 #[.slice dA dn dc, .slice y.A y.n y.c, .slice m.A m.n m.c, .slice t'.A t'.n t'.c, .slice h.A h.n h.c, .slice i.A i.n i.c, .slice s.A s.n s.c]) ∧ Hid (Below w.heap.size w wx) ∧ w.heap.size < g)
  case first =>
    rcases HFC.out with ⟨h1, h2⟩ | ⟨h1, h3, h2⟩ | ⟨h1, h2⟩
    · have HX := Lib.hid h2
      have HO := HOf
      rw [h2] at HO
      clear h2
      go_wp2_with fail

      refine (HO.out _).mono ?_
      rintro e w1 ⟨rfl, hb1⟩
      have HC1 : Hid (Blk w1 w.heap.size 25 #[.slice dA dn dc, .slice y.A y.n y.c, .slice m.A m.n m.c, .slice t'.A t'.n t'.c, .slice h.A h.n h.c, .slice i.A i.n i.c, .slice s.A s.n s.c]) := (Blk.new w _ _).below hb1 (by simp)
      have HB1 := Lib.hid (more3 ((Below.refl w.heap.size w).alloc (Nat.le_refl _) _) (by simp) hb1)
      have hz : w.heap.size < w1.heap.size := HC1.out.lt
      clear hb1
      go_wp2_with fail
      go_meet
      exact ⟨w1.heap.size, rfl, by rw [HX.out], by rw [HX.out]; exact Blk.new w1 _ _, HC1.out.alloc _, HB1.out.alloc HB1.out.size _, hz⟩

    · have HX := Lib.hid h2
      have HO := HOf
      rw [h2] at HO
      clear h2
      have u1 : (0 : Nat) ≤ 1 := Nat.zero_le _
      go_wp2_with fail

      refine (HO.out _).mono ?_
      rintro e w1 ⟨rfl, hb1⟩
      have HC1 : Hid (Blk w1 w.heap.size 25 #[.slice dA dn dc, .slice y.A y.n y.c, .slice m.A m.n m.c, .slice t'.A t'.n t'.c, .slice h.A h.n h.c, .slice i.A i.n i.c, .slice s.A s.n s.c]) := (Blk.new w _ _).below hb1 (by simp)
      have HB1 := Lib.hid (more3 ((Below.refl w.heap.size w).alloc (Nat.le_refl _) _) (by simp) hb1)
      have hz : w.heap.size < w1.heap.size := HC1.out.lt
      clear hb1
      go_wp2_with fail
      go_meet
      exact ⟨w1.heap.size, rfl, by rw [HX.out], by rw [HX.out]; exact Blk.new w1 _ _, HC1.out.alloc _, HB1.out.alloc HB1.out.size _, hz⟩

    · have HX := Lib.hid h2
      have HO := HOf
      rw [h2] at HO
      clear h2
      have h3 : -1 ≤ a := by omega
      have u1 : (0 : Nat) ≤ 1 := Nat.zero_le _
      have u2 : (0 : Nat) ≤ 2 := Nat.zero_le _
      go_wp2_with fail

      refine (HO.out _).mono ?_
      rintro e w1 ⟨rfl, hb1⟩
      have HC1 : Hid (Blk w1 w.heap.size 25 #[.slice dA dn dc, .slice y.A y.n y.c, .slice m.A m.n m.c, .slice t'.A t'.n t'.c, .slice h.A h.n h.c, .slice i.A i.n i.c, .slice s.A s.n s.c]) := (Blk.new w _ _).below hb1 (by simp)
      have HB1 := Lib.hid (more3 ((Below.refl w.heap.size w).alloc (Nat.le_refl _) _) (by simp) hb1)
      have hz : w.heap.size < w1.heap.size := HC1.out.lt
      clear hb1
      go_wp2_with fail
      go_meet
      exact ⟨w1.heap.size, rfl, by rw [HX.out], by rw [HX.out]; exact Blk.new w1 _ _, HC1.out.alloc _, HB1.out.alloc HB1.out.size _, hz⟩

  case rest =>
    obtain ⟨g, rfl, rfl, hD1, hC1, hB1, hg⟩ := hcut
    have HNN := Lib.hid (fun h => fst_no (c := l) (x := a) h)
    have HMN := Lib.hid (fun h => may_no_next (c := l) (x := a) h)
    rcases hT : isT (fstI a) with _ | _
    · have HR := Lib.hid (HNN.out hT)
      clear hT
      go_wp2_with fail
      go_ret2
      exact ⟨ret_ib' HR.out.1.symm HR.out.2.symm, hB1.out⟩
    have HTT := Lib.hid hT
    clear hT
    obtain ⟨c0, c1, c2, c3, c4, c5, c6⟩ := cells7c hC1.out
    go_wp2_with fail
    refine (HMy.out _ (HT.out.below hB1.out) (HC.out.at_ hB1.out)).mono ?_
    rintro e w2 ⟨rfl, hb2⟩
    have HC2 := Lib.hid (hC1.out.below hb2 hC1.out.lt)
    have HD2 := Lib.hid (hD1.out.below hb2 hD1.out.lt)
    have HB2 := Lib.hid (more3 hB1.out hB1.out.size hb2)
    clear hb2 c0 c1 c2 c3 c4 c5 c6
    rcases hM : mayC l with _ | _
    · have HR := Lib.hid (HMN.out hM)
      clear hM
      go_wp2_with fail
      go_ret2
      exact ⟨ret_ib' HR.out.1.symm HR.out.2.symm, HB2.out⟩
    have HMM := Lib.hid hM
    clear hM
    go_upto_region 4 with fail
    go_cut [7, 8] (fun b p wx => ∃ (k : Nat) (ok : Bool) (v : Six), b = .bool ok ∧ p = .pointer (some ⟨k, 0, none⟩) ∧ Hid (NxtIs l (fstI a) v ok) ∧ Hid (Blk wx k 43 #[.int .i64 v.y, .int .i64 v.m, .int .i64 v.d, .int .i64 v.h, .int .i64 v.i, .int .i64 v.s]) ∧ Hid (Blk wx w.heap.size 25 #[.slice dA dn dc, .slice y.A y.n y.c, .slice m.A m.n m.c, .slice t'.A t'.n t'.c, .slice h.A h.n h.c, .slice i.A i.n i.c, .slice s.A s.n s.c]) ∧ Hid (Below w.heap.size w wx) ∧ w.heap.size < k)
    case first =>
      have HAA : Hid (∀ W, Tabs W → CalAt W W.heap.size ⟨⟨dA, dn, dc⟩, y, m, t', h, i, s⟩ l → Calls Tryz.prog 16 #[.agg SX, .agg #[.int .i64 (fY (fstI a)), .int .i64 (fM (fstI a)), .int .i64 (fD (fstI a)), .int .i64 (fH (fstI a)), .int .i64 (fI (fstI a)), .int .i64 (fS (fstI a))]] W (AdvPost2 l (sixOf (fstI a)) W)) := fun W h1 h2 => HAd.out (sixOf (fstI a)) HMM.out (six_bd HTT.out) W h1 h2
      refine wp_region_held_drew (S := (fun w' => w'.cell? ⟨w.heap.size, 0, none⟩ = some (.slice dA dn dc) ∧ w'.cell? ⟨w.heap.size, 1, none⟩ = some (.slice y.A y.n y.c) ∧ w'.cell? ⟨w.heap.size, 2, none⟩ = some (.slice m.A m.n m.c) ∧ w'.cell? ⟨w.heap.size, 3, none⟩ = some (.slice t'.A t'.n t'.c) ∧ w'.cell? ⟨w.heap.size, 4, none⟩ = some (.slice h.A h.n h.c) ∧ w'.cell? ⟨w.heap.size, 5, none⟩ = some (.slice i.A i.n i.c) ∧ w'.cell? ⟨w.heap.size, 6, none⟩ = some (.slice s.A s.n s.c) ∧ w'.cell? ⟨g, 0, none⟩ = some (.int .i64 (fY (fstI a))) ∧ w'.cell? ⟨g, 1, none⟩ = some (.int .i64 (fM (fstI a))) ∧ w'.cell? ⟨g, 2, none⟩ = some (.int .i64 (fD (fstI a))) ∧ w'.cell? ⟨g, 3, none⟩ = some (.int .i64 (fH (fstI a))) ∧ w'.cell? ⟨g, 4, none⟩ = some (.int .i64 (fI (fstI a))) ∧ w'.cell? ⟨g, 5, none⟩ = some (.int .i64 (fS (fstI a))) ∧ w'.cell? ⟨g, 6, none⟩ = some (.int .i64 (fW (fstI a))) ∧ SQ w w.heap.size g 25 39 #[.slice dA dn dc, .slice y.A y.n y.c, .slice m.A m.n m.c, .slice t'.A t'.n t'.c, .slice h.A h.n h.c, .slice i.A i.n i.c, .slice s.A s.n s.c] #[.int .i64 (fY (fstI a)), .int .i64 (fM (fstI a)), .int .i64 (fD (fstI a)), .int .i64 (fH (fstI a)), .int .i64 (fI (fstI a)), .int .i64 (fS (fstI a)), .int .i64 (fW (fstI a))] w')) (by kernel_rfl) ?_ (fun hHeld => ?_)
      · exact s14 ⟨HC2.out, HD2.out, HB2.out.drew⟩
      refine wpAnyH_take (i := 0) (v := ?v0n1) rfl (by kernel_rfl) (by kernel_rfl) (by kernel_rfl) (fun _ _ _ h => h) (Or.inl ⟨by rfl, ?hy0n1⟩) (by assumption) ?_
      case hy0n1 => (intro w hSw; (try dsimp only at hSw); go_simp; (try with_reducible rfl))
      try simp only [Act.put, List.getElem_toArray, List.getElem_cons_zero, List.setIfInBounds_toArray, List.set_cons_zero, List.set_cons_succ]
      refine wpAnyH_take (i := 2) (v := ?v2n2) rfl (by kernel_rfl) (by kernel_rfl) (by kernel_rfl) (fun _ _ _ h => h) (Or.inl ⟨by rfl, ?hy2n2⟩) (by assumption) ?_
      case hy2n2 => (intro w hSw; (try dsimp only at hSw); go_simp; (try with_reducible rfl))
      try simp only [Act.put, List.getElem_toArray, List.getElem_cons_zero, List.getElem_cons_succ, List.setIfInBounds_toArray, List.set_cons_zero, List.set_cons_succ]
      refine wpAnyH_ready (rs := [1, 8]) (by kernel_rfl) (by simp) ?_
      refine AllReadyH.cons rfl (fun K hK => ?_) (AllReadyH.cons rfl (fun K hK => ?_) AllReadyH.nil)
      · go_simp
        (refine (HLi.out _).mono ?_; rintro e w3 ⟨rfl, hb⟩)
        refine hK.out _ _ ?_ (fun hHeld2 => ?_)
        · exact s14 (sq_call hHeld.2.2.2.2.2.2.2.2.2.2.2.2.2.2 hb)
        clear hK K hHeld
        have hHeld := hHeld2
        clear hHeld2
        try simp only [Act.put, List.getElem_toArray, List.getElem_cons_zero, List.getElem_cons_succ, List.setIfInBounds_toArray, List.set_cons_zero, List.set_cons_succ]
        clear hb
        refine wpAnyH_ready (rs := [3, 8]) (by kernel_rfl) (by simp) ?_
        refine AllReadyH.cons rfl (fun K hK => ?_) (AllReadyH.cons rfl (fun K hK => ?_) AllReadyH.nil)
        · go_simp
          (refine (numbersOf_any _ _ _ _ _ _ _ _).mono ?_; rintro e w4 ⟨rfl, hb⟩)
          refine hK.out _ _ ?_ (fun hHeld2 => ?_)
          · exact s14 (sq_call hHeld.2.2.2.2.2.2.2.2.2.2.2.2.2.2 hb)
          clear hK K hHeld
          have hHeld := hHeld2
          clear hHeld2
          try simp only [Act.put, List.getElem_toArray, List.getElem_cons_zero, List.getElem_cons_succ, List.setIfInBounds_toArray, List.set_cons_zero, List.set_cons_succ]
          clear hb
          refine wpAnyH_ready (rs := [4, 8]) (by kernel_rfl) (by simp) ?_
          refine AllReadyH.cons rfl (fun K hK => ?_) (AllReadyH.cons rfl (fun K hK => ?_) AllReadyH.nil)
          · go_simp
            (refine (HAA.out _ (HT.out.below (hHeld.2.2.2.2.2.2.2.2.2.2.2.2.2.2).2.2) (HC.out.at_ (hHeld.2.2.2.2.2.2.2.2.2.2.2.2.2.2).2.2)).mono ?_; rintro e w5 ⟨v, ok, rfl, hA, hb⟩)
            refine hK.out _ _ ?_ (fun hHeld2 => ?_)
            · exact s14 (sq_call hHeld.2.2.2.2.2.2.2.2.2.2.2.2.2.2 hb)
            clear hK K hHeld
            have hHeld := hHeld2
            clear hHeld2
            try simp only [Act.put, List.getElem_toArray, List.getElem_cons_zero, List.getElem_cons_succ, List.setIfInBounds_toArray, List.set_cons_zero, List.set_cons_succ]
            clear hb
            refine wpAnyH_take (i := 5) (v := ?v5n3) rfl (by kernel_rfl) (by kernel_rfl) (by kernel_rfl) (fun _ _ _ h => h) (Or.inl ⟨by rfl, ?hy5n3⟩) (by assumption) ?_
            case hy5n3 => (intro w hSw; (try dsimp only at hSw); go_simp; (try with_reducible rfl))
            try simp only [Act.put, List.getElem_toArray, List.getElem_cons_zero, List.getElem_cons_succ, List.setIfInBounds_toArray, List.set_cons_zero, List.set_cons_succ]
            refine wpAnyH_take (i := 6) (v := ?v6n4) rfl (by kernel_rfl) (by kernel_rfl) (by kernel_rfl) (fun _ _ _ h => h) (Or.inl ⟨by rfl, ?hy6n4⟩) (by assumption) ?_
            case hy6n4 => (intro w hSw; (try dsimp only at hSw); go_simp; (try with_reducible rfl))
            try simp only [Act.put, List.getElem_toArray, List.getElem_cons_zero, List.getElem_cons_succ, List.setIfInBounds_toArray, List.set_cons_zero, List.set_cons_succ]
            refine wpAnyH_take (i := 7) (v := ?v7n5) rfl (by kernel_rfl) (by kernel_rfl) (by kernel_rfl) (fun _ _ _ h => h) (Or.inl ⟨by rfl, ?hy7n5⟩) (by assumption) ?_
            case hy7n5 => (intro w hSw; (try dsimp only at hSw); go_simp; (try with_reducible rfl))
            try simp only [Act.put, List.getElem_toArray, List.getElem_cons_zero, List.getElem_cons_succ, List.setIfInBounds_toArray, List.set_cons_zero, List.set_cons_succ]
            refine wpAnyH_ready (rs := [8]) (by kernel_rfl) (by simp) ?_
            refine AllReadyH.cons rfl (fun K hK => ?_) AllReadyH.nil
            have hlt1 := (hHeld.2.2.2.2.2.2.2.2.2.2.2.2.2.2).1.lt
            have hlt2 := (hHeld.2.2.2.2.2.2.2.2.2.2.2.2.2.2).2.1.lt
            go_simp
            refine hK.out _ _ ?_ (fun hHeld2 => ?_)
            · exact s14 (sq_alloc hHeld.2.2.2.2.2.2.2.2.2.2.2.2.2.2 _)
            clear hK K hHeld
            have hHeld := hHeld2
            clear hHeld2
            try simp only [Act.put, List.getElem_toArray, List.getElem_cons_zero, List.getElem_cons_succ, List.setIfInBounds_toArray, List.set_cons_zero, List.set_cons_succ]
            have hZ := Lib.hid (Blk.new w5 43 zero6)
            have hz0 := (hHeld.2.2.2.2.2.2.2.2.2.2.2.2.2.2).1.lt
            have hne1 : w.heap.size ≠ w5.heap.size := by omega
            have hne2 : g ≠ w5.heap.size := by omega
            have hne3 : w.heap.size ≤ w5.heap.size := by omega
            refine wpAnyH_ready (rs := [9]) (by kernel_rfl) (by simp) ?_
            refine AllReadyH.cons rfl (fun K hK => ?_) AllReadyH.nil
            rw [if_pos (by rfl)]
            refine wp_store_row 43 (.tmp 8) (.tmp 32) (by rfl) w5.heap.size #[.int .i64 v.y, .int .i64 v.m, .int .i64 v.d, .int .i64 v.h, .int .i64 v.i, .int .i64 v.s] (by rfl) (by rfl) 43 zero6 (by exact hZ.out) (by kernel_rfl) rfl (cells_all v) ?_
            refine hK.out _ _ ?_ (fun hHeld2 => ?_)
            · exact s14 (sq_row hHeld.2.2.2.2.2.2.2.2.2.2.2.2.2.2 hne1 hne2 hne3 _)
            clear hK K hHeld
            have hHeld := hHeld2
            clear hHeld2
            try simp only [Act.put, List.getElem_toArray, List.getElem_cons_zero, List.getElem_cons_succ]
            refine wpAnyH_take (i := 10) (v := ?v10n6) rfl (by kernel_rfl) (by kernel_rfl) (by kernel_rfl) (fun _ _ _ h => h) (Or.inl ⟨by rfl, ?hy10n6⟩) (by assumption) ?_
            case hy10n6 => (intro w hSw; (try dsimp only at hSw); go_simp; (try with_reducible rfl))
            try simp only [Act.put, List.getElem_toArray, List.getElem_cons_zero, List.getElem_cons_succ, List.setIfInBounds_toArray, List.set_cons_zero, List.set_cons_succ]
            refine wpAnyH_done (by kernel_rfl) ?_ _
            have HFI := Lib.hid (hHeld.2.2.2.2.2.2.2.2.2.2.2.2.2.2)
            have HRW := Lib.hid (hZ.out.row #[.int .i64 v.y, .int .i64 v.m, .int .i64 v.d, .int .i64 v.h, .int .i64 v.i, .int .i64 v.s])
            have HAI := Lib.hid hA
            clear hHeld hA
            go_wp2_with fail
            go_meet
            exact ⟨w5.heap.size, ok, v, rfl, rfl, NxtIs.first HTT.out HAI.out, HRW.out, HFI.out.1, HFI.out.2.2, by omega⟩
          · have hlt1 := (hHeld.2.2.2.2.2.2.2.2.2.2.2.2.2.2).1.lt
            have hlt2 := (hHeld.2.2.2.2.2.2.2.2.2.2.2.2.2.2).2.1.lt
            go_simp
            refine hK.out _ _ ?_ (fun hHeld2 => ?_)
            · exact s14 (sq_alloc hHeld.2.2.2.2.2.2.2.2.2.2.2.2.2.2 _)
            clear hK K hHeld
            have hHeld := hHeld2
            clear hHeld2
            try simp only [Act.put, List.getElem_toArray, List.getElem_cons_zero, List.getElem_cons_succ, List.setIfInBounds_toArray, List.set_cons_zero, List.set_cons_succ]
            have hZ := Lib.hid (Blk.new w4 43 zero6)
            refine wpAnyH_ready (rs := [4]) (by kernel_rfl) (by simp) ?_
            refine AllReadyH.cons rfl (fun K hK => ?_) AllReadyH.nil
            go_simp
            (refine (HAA.out _ (HT.out.below (hHeld.2.2.2.2.2.2.2.2.2.2.2.2.2.2).2.2) (HC.out.at_ (hHeld.2.2.2.2.2.2.2.2.2.2.2.2.2.2).2.2)).mono ?_; rintro e w5 ⟨v, ok, rfl, hA, hb⟩)
            refine hK.out _ _ ?_ (fun hHeld2 => ?_)
            · exact s14 (sq_call hHeld.2.2.2.2.2.2.2.2.2.2.2.2.2.2 hb)
            clear hK K hHeld
            have hHeld := hHeld2
            clear hHeld2
            try simp only [Act.put, List.getElem_toArray, List.getElem_cons_zero, List.getElem_cons_succ, List.setIfInBounds_toArray, List.set_cons_zero, List.set_cons_succ]
            have hZ := Lib.hid (Blk.below (by exact hZ.out) hb (by exact hZ.out.lt))
            clear hb
            refine wpAnyH_take (i := 5) (v := ?v5n7) rfl (by kernel_rfl) (by kernel_rfl) (by kernel_rfl) (fun _ _ _ h => h) (Or.inl ⟨by rfl, ?hy5n7⟩) (by assumption) ?_
            case hy5n7 => (intro w hSw; (try dsimp only at hSw); go_simp; (try with_reducible rfl))
            try simp only [Act.put, List.getElem_toArray, List.getElem_cons_zero, List.getElem_cons_succ, List.setIfInBounds_toArray, List.set_cons_zero, List.set_cons_succ]
            refine wpAnyH_take (i := 6) (v := ?v6n8) rfl (by kernel_rfl) (by kernel_rfl) (by kernel_rfl) (fun _ _ _ h => h) (Or.inl ⟨by rfl, ?hy6n8⟩) (by assumption) ?_
            case hy6n8 => (intro w hSw; (try dsimp only at hSw); go_simp; (try with_reducible rfl))
            try simp only [Act.put, List.getElem_toArray, List.getElem_cons_zero, List.getElem_cons_succ, List.setIfInBounds_toArray, List.set_cons_zero, List.set_cons_succ]
            refine wpAnyH_take (i := 7) (v := ?v7n9) rfl (by kernel_rfl) (by kernel_rfl) (by kernel_rfl) (fun _ _ _ h => h) (Or.inl ⟨by rfl, ?hy7n9⟩) (by assumption) ?_
            case hy7n9 => (intro w hSw; (try dsimp only at hSw); go_simp; (try with_reducible rfl))
            try simp only [Act.put, List.getElem_toArray, List.getElem_cons_zero, List.getElem_cons_succ, List.setIfInBounds_toArray, List.set_cons_zero, List.set_cons_succ]
            have hz0 := (hHeld.2.2.2.2.2.2.2.2.2.2.2.2.2.2).1.lt
            have hne1 : w.heap.size ≠ w4.heap.size := by omega
            have hne2 : g ≠ w4.heap.size := by omega
            have hne3 : w.heap.size ≤ w4.heap.size := by omega
            refine wpAnyH_ready (rs := [9]) (by kernel_rfl) (by simp) ?_
            refine AllReadyH.cons rfl (fun K hK => ?_) AllReadyH.nil
            rw [if_pos (by rfl)]
            refine wp_store_row 43 (.tmp 8) (.tmp 32) (by rfl) w4.heap.size #[.int .i64 v.y, .int .i64 v.m, .int .i64 v.d, .int .i64 v.h, .int .i64 v.i, .int .i64 v.s] (by rfl) (by rfl) 43 zero6 (by exact hZ.out) (by kernel_rfl) rfl (cells_all v) ?_
            refine hK.out _ _ ?_ (fun hHeld2 => ?_)
            · exact s14 (sq_row hHeld.2.2.2.2.2.2.2.2.2.2.2.2.2.2 hne1 hne2 hne3 _)
            clear hK K hHeld
            have hHeld := hHeld2
            clear hHeld2
            try simp only [Act.put, List.getElem_toArray, List.getElem_cons_zero, List.getElem_cons_succ]
            refine wpAnyH_take (i := 10) (v := ?v10n10) rfl (by kernel_rfl) (by kernel_rfl) (by kernel_rfl) (fun _ _ _ h => h) (Or.inl ⟨by rfl, ?hy10n10⟩) (by assumption) ?_
            case hy10n10 => (intro w hSw; (try dsimp only at hSw); go_simp; (try with_reducible rfl))
            try simp only [Act.put, List.getElem_toArray, List.getElem_cons_zero, List.getElem_cons_succ, List.setIfInBounds_toArray, List.set_cons_zero, List.set_cons_succ]
            refine wpAnyH_done (by kernel_rfl) ?_ _
            have HFI := Lib.hid (hHeld.2.2.2.2.2.2.2.2.2.2.2.2.2.2)
            have HRW := Lib.hid (hZ.out.row #[.int .i64 v.y, .int .i64 v.m, .int .i64 v.d, .int .i64 v.h, .int .i64 v.i, .int .i64 v.s])
            have HAI := Lib.hid hA
            clear hHeld hA
            go_wp2_with fail
            go_meet
            exact ⟨w4.heap.size, ok, v, rfl, rfl, NxtIs.first HTT.out HAI.out, HRW.out, HFI.out.1, HFI.out.2.2, by omega⟩
        · have hlt1 := (hHeld.2.2.2.2.2.2.2.2.2.2.2.2.2.2).1.lt
          have hlt2 := (hHeld.2.2.2.2.2.2.2.2.2.2.2.2.2.2).2.1.lt
          go_simp
          refine hK.out _ _ ?_ (fun hHeld2 => ?_)
          · exact s14 (sq_alloc hHeld.2.2.2.2.2.2.2.2.2.2.2.2.2.2 _)
          clear hK K hHeld
          have hHeld := hHeld2
          clear hHeld2
          try simp only [Act.put, List.getElem_toArray, List.getElem_cons_zero, List.getElem_cons_succ, List.setIfInBounds_toArray, List.set_cons_zero, List.set_cons_succ]
          have hZ := Lib.hid (Blk.new w3 43 zero6)
          refine wpAnyH_ready (rs := [3]) (by kernel_rfl) (by simp) ?_
          refine AllReadyH.cons rfl (fun K hK => ?_) AllReadyH.nil
          go_simp
          (refine (numbersOf_any _ _ _ _ _ _ _ _).mono ?_; rintro e w4 ⟨rfl, hb⟩)
          refine hK.out _ _ ?_ (fun hHeld2 => ?_)
          · exact s14 (sq_call hHeld.2.2.2.2.2.2.2.2.2.2.2.2.2.2 hb)
          clear hK K hHeld
          have hHeld := hHeld2
          clear hHeld2
          try simp only [Act.put, List.getElem_toArray, List.getElem_cons_zero, List.getElem_cons_succ, List.setIfInBounds_toArray, List.set_cons_zero, List.set_cons_succ]
          have hZ := Lib.hid (Blk.below (by exact hZ.out) hb (by exact hZ.out.lt))
          clear hb
          refine wpAnyH_ready (rs := [4]) (by kernel_rfl) (by simp) ?_
          refine AllReadyH.cons rfl (fun K hK => ?_) AllReadyH.nil
          go_simp
          (refine (HAA.out _ (HT.out.below (hHeld.2.2.2.2.2.2.2.2.2.2.2.2.2.2).2.2) (HC.out.at_ (hHeld.2.2.2.2.2.2.2.2.2.2.2.2.2.2).2.2)).mono ?_; rintro e w5 ⟨v, ok, rfl, hA, hb⟩)
          refine hK.out _ _ ?_ (fun hHeld2 => ?_)
          · exact s14 (sq_call hHeld.2.2.2.2.2.2.2.2.2.2.2.2.2.2 hb)
          clear hK K hHeld
          have hHeld := hHeld2
          clear hHeld2
          try simp only [Act.put, List.getElem_toArray, List.getElem_cons_zero, List.getElem_cons_succ, List.setIfInBounds_toArray, List.set_cons_zero, List.set_cons_succ]
          have hZ := Lib.hid (Blk.below (by exact hZ.out) hb (by exact hZ.out.lt))
          clear hb
          refine wpAnyH_take (i := 5) (v := ?v5n11) rfl (by kernel_rfl) (by kernel_rfl) (by kernel_rfl) (fun _ _ _ h => h) (Or.inl ⟨by rfl, ?hy5n11⟩) (by assumption) ?_
          case hy5n11 => (intro w hSw; (try dsimp only at hSw); go_simp; (try with_reducible rfl))
          try simp only [Act.put, List.getElem_toArray, List.getElem_cons_zero, List.getElem_cons_succ, List.setIfInBounds_toArray, List.set_cons_zero, List.set_cons_succ]
          refine wpAnyH_take (i := 6) (v := ?v6n12) rfl (by kernel_rfl) (by kernel_rfl) (by kernel_rfl) (fun _ _ _ h => h) (Or.inl ⟨by rfl, ?hy6n12⟩) (by assumption) ?_
          case hy6n12 => (intro w hSw; (try dsimp only at hSw); go_simp; (try with_reducible rfl))
          try simp only [Act.put, List.getElem_toArray, List.getElem_cons_zero, List.getElem_cons_succ, List.setIfInBounds_toArray, List.set_cons_zero, List.set_cons_succ]
          refine wpAnyH_take (i := 7) (v := ?v7n13) rfl (by kernel_rfl) (by kernel_rfl) (by kernel_rfl) (fun _ _ _ h => h) (Or.inl ⟨by rfl, ?hy7n13⟩) (by assumption) ?_
          case hy7n13 => (intro w hSw; (try dsimp only at hSw); go_simp; (try with_reducible rfl))
          try simp only [Act.put, List.getElem_toArray, List.getElem_cons_zero, List.getElem_cons_succ, List.setIfInBounds_toArray, List.set_cons_zero, List.set_cons_succ]
          have hz0 := (hHeld.2.2.2.2.2.2.2.2.2.2.2.2.2.2).1.lt
          have hne1 : w.heap.size ≠ w3.heap.size := by omega
          have hne2 : g ≠ w3.heap.size := by omega
          have hne3 : w.heap.size ≤ w3.heap.size := by omega
          refine wpAnyH_ready (rs := [9]) (by kernel_rfl) (by simp) ?_
          refine AllReadyH.cons rfl (fun K hK => ?_) AllReadyH.nil
          rw [if_pos (by rfl)]
          refine wp_store_row 43 (.tmp 8) (.tmp 32) (by rfl) w3.heap.size #[.int .i64 v.y, .int .i64 v.m, .int .i64 v.d, .int .i64 v.h, .int .i64 v.i, .int .i64 v.s] (by rfl) (by rfl) 43 zero6 (by exact hZ.out) (by kernel_rfl) rfl (cells_all v) ?_
          refine hK.out _ _ ?_ (fun hHeld2 => ?_)
          · exact s14 (sq_row hHeld.2.2.2.2.2.2.2.2.2.2.2.2.2.2 hne1 hne2 hne3 _)
          clear hK K hHeld
          have hHeld := hHeld2
          clear hHeld2
          try simp only [Act.put, List.getElem_toArray, List.getElem_cons_zero, List.getElem_cons_succ]
          refine wpAnyH_take (i := 10) (v := ?v10n14) rfl (by kernel_rfl) (by kernel_rfl) (by kernel_rfl) (fun _ _ _ h => h) (Or.inl ⟨by rfl, ?hy10n14⟩) (by assumption) ?_
          case hy10n14 => (intro w hSw; (try dsimp only at hSw); go_simp; (try with_reducible rfl))
          try simp only [Act.put, List.getElem_toArray, List.getElem_cons_zero, List.getElem_cons_succ, List.setIfInBounds_toArray, List.set_cons_zero, List.set_cons_succ]
          refine wpAnyH_done (by kernel_rfl) ?_ _
          have HFI := Lib.hid (hHeld.2.2.2.2.2.2.2.2.2.2.2.2.2.2)
          have HRW := Lib.hid (hZ.out.row #[.int .i64 v.y, .int .i64 v.m, .int .i64 v.d, .int .i64 v.h, .int .i64 v.i, .int .i64 v.s])
          have HAI := Lib.hid hA
          clear hHeld hA
          go_wp2_with fail
          go_meet
          exact ⟨w3.heap.size, ok, v, rfl, rfl, NxtIs.first HTT.out HAI.out, HRW.out, HFI.out.1, HFI.out.2.2, by omega⟩
      · have hlt1 := (hHeld.2.2.2.2.2.2.2.2.2.2.2.2.2.2).1.lt
        have hlt2 := (hHeld.2.2.2.2.2.2.2.2.2.2.2.2.2.2).2.1.lt
        go_simp
        refine hK.out _ _ ?_ (fun hHeld2 => ?_)
        · exact s14 (sq_alloc hHeld.2.2.2.2.2.2.2.2.2.2.2.2.2.2 _)
        clear hK K hHeld
        have hHeld := hHeld2
        clear hHeld2
        try simp only [Act.put, List.getElem_toArray, List.getElem_cons_zero, List.getElem_cons_succ, List.setIfInBounds_toArray, List.set_cons_zero, List.set_cons_succ]
        have hZ := Lib.hid (Blk.new w2 43 zero6)
        refine wpAnyH_ready (rs := [1]) (by kernel_rfl) (by simp) ?_
        refine AllReadyH.cons rfl (fun K hK => ?_) AllReadyH.nil
        go_simp
        (refine (HLi.out _).mono ?_; rintro e w3 ⟨rfl, hb⟩)
        refine hK.out _ _ ?_ (fun hHeld2 => ?_)
        · exact s14 (sq_call hHeld.2.2.2.2.2.2.2.2.2.2.2.2.2.2 hb)
        clear hK K hHeld
        have hHeld := hHeld2
        clear hHeld2
        try simp only [Act.put, List.getElem_toArray, List.getElem_cons_zero, List.getElem_cons_succ, List.setIfInBounds_toArray, List.set_cons_zero, List.set_cons_succ]
        have hZ := Lib.hid (Blk.below (by exact hZ.out) hb (by exact hZ.out.lt))
        clear hb
        refine wpAnyH_ready (rs := [3]) (by kernel_rfl) (by simp) ?_
        refine AllReadyH.cons rfl (fun K hK => ?_) AllReadyH.nil
        go_simp
        (refine (numbersOf_any _ _ _ _ _ _ _ _).mono ?_; rintro e w4 ⟨rfl, hb⟩)
        refine hK.out _ _ ?_ (fun hHeld2 => ?_)
        · exact s14 (sq_call hHeld.2.2.2.2.2.2.2.2.2.2.2.2.2.2 hb)
        clear hK K hHeld
        have hHeld := hHeld2
        clear hHeld2
        try simp only [Act.put, List.getElem_toArray, List.getElem_cons_zero, List.getElem_cons_succ, List.setIfInBounds_toArray, List.set_cons_zero, List.set_cons_succ]
        have hZ := Lib.hid (Blk.below (by exact hZ.out) hb (by exact hZ.out.lt))
        clear hb
        refine wpAnyH_ready (rs := [4]) (by kernel_rfl) (by simp) ?_
        refine AllReadyH.cons rfl (fun K hK => ?_) AllReadyH.nil
        go_simp
        (refine (HAA.out _ (HT.out.below (hHeld.2.2.2.2.2.2.2.2.2.2.2.2.2.2).2.2) (HC.out.at_ (hHeld.2.2.2.2.2.2.2.2.2.2.2.2.2.2).2.2)).mono ?_; rintro e w5 ⟨v, ok, rfl, hA, hb⟩)
        refine hK.out _ _ ?_ (fun hHeld2 => ?_)
        · exact s14 (sq_call hHeld.2.2.2.2.2.2.2.2.2.2.2.2.2.2 hb)
        clear hK K hHeld
        have hHeld := hHeld2
        clear hHeld2
        try simp only [Act.put, List.getElem_toArray, List.getElem_cons_zero, List.getElem_cons_succ, List.setIfInBounds_toArray, List.set_cons_zero, List.set_cons_succ]
        have hZ := Lib.hid (Blk.below (by exact hZ.out) hb (by exact hZ.out.lt))
        clear hb
        refine wpAnyH_take (i := 5) (v := ?v5n15) rfl (by kernel_rfl) (by kernel_rfl) (by kernel_rfl) (fun _ _ _ h => h) (Or.inl ⟨by rfl, ?hy5n15⟩) (by assumption) ?_
        case hy5n15 => (intro w hSw; (try dsimp only at hSw); go_simp; (try with_reducible rfl))
        try simp only [Act.put, List.getElem_toArray, List.getElem_cons_zero, List.getElem_cons_succ, List.setIfInBounds_toArray, List.set_cons_zero, List.set_cons_succ]
        refine wpAnyH_take (i := 6) (v := ?v6n16) rfl (by kernel_rfl) (by kernel_rfl) (by kernel_rfl) (fun _ _ _ h => h) (Or.inl ⟨by rfl, ?hy6n16⟩) (by assumption) ?_
        case hy6n16 => (intro w hSw; (try dsimp only at hSw); go_simp; (try with_reducible rfl))
        try simp only [Act.put, List.getElem_toArray, List.getElem_cons_zero, List.getElem_cons_succ, List.setIfInBounds_toArray, List.set_cons_zero, List.set_cons_succ]
        refine wpAnyH_take (i := 7) (v := ?v7n17) rfl (by kernel_rfl) (by kernel_rfl) (by kernel_rfl) (fun _ _ _ h => h) (Or.inl ⟨by rfl, ?hy7n17⟩) (by assumption) ?_
        case hy7n17 => (intro w hSw; (try dsimp only at hSw); go_simp; (try with_reducible rfl))
        try simp only [Act.put, List.getElem_toArray, List.getElem_cons_zero, List.getElem_cons_succ, List.setIfInBounds_toArray, List.set_cons_zero, List.set_cons_succ]
        have hq1 := HC2.out.lt
        have hq2 := HD2.out.lt
        have hz0 := (hHeld.2.2.2.2.2.2.2.2.2.2.2.2.2.2).1.lt
        have hne1 : w.heap.size ≠ w2.heap.size := by omega
        have hne2 : g ≠ w2.heap.size := by omega
        have hne3 : w.heap.size ≤ w2.heap.size := by omega
        refine wpAnyH_ready (rs := [9]) (by kernel_rfl) (by simp) ?_
        refine AllReadyH.cons rfl (fun K hK => ?_) AllReadyH.nil
        rw [if_pos (by rfl)]
        refine wp_store_row 43 (.tmp 8) (.tmp 32) (by rfl) w2.heap.size #[.int .i64 v.y, .int .i64 v.m, .int .i64 v.d, .int .i64 v.h, .int .i64 v.i, .int .i64 v.s] (by rfl) (by rfl) 43 zero6 (by exact hZ.out) (by kernel_rfl) rfl (cells_all v) ?_
        refine hK.out _ _ ?_ (fun hHeld2 => ?_)
        · exact s14 (sq_row hHeld.2.2.2.2.2.2.2.2.2.2.2.2.2.2 hne1 hne2 hne3 _)
        clear hK K hHeld
        have hHeld := hHeld2
        clear hHeld2
        try simp only [Act.put, List.getElem_toArray, List.getElem_cons_zero, List.getElem_cons_succ]
        refine wpAnyH_take (i := 10) (v := ?v10n18) rfl (by kernel_rfl) (by kernel_rfl) (by kernel_rfl) (fun _ _ _ h => h) (Or.inl ⟨by rfl, ?hy10n18⟩) (by assumption) ?_
        case hy10n18 => (intro w hSw; (try dsimp only at hSw); go_simp; (try with_reducible rfl))
        try simp only [Act.put, List.getElem_toArray, List.getElem_cons_zero, List.getElem_cons_succ, List.setIfInBounds_toArray, List.set_cons_zero, List.set_cons_succ]
        refine wpAnyH_done (by kernel_rfl) ?_ _
        have HFI := Lib.hid (hHeld.2.2.2.2.2.2.2.2.2.2.2.2.2.2)
        have HRW := Lib.hid (hZ.out.row #[.int .i64 v.y, .int .i64 v.m, .int .i64 v.d, .int .i64 v.h, .int .i64 v.i, .int .i64 v.s])
        have HAI := Lib.hid hA
        clear hHeld hA
        go_wp2_with fail
        go_meet
        exact ⟨w2.heap.size, ok, v, rfl, rfl, NxtIs.first HTT.out HAI.out, HRW.out, HFI.out.1, HFI.out.2.2, by omega⟩
    case rest =>
    obtain ⟨k, ok, v, rfl, rfl, hX1, hN1, hC1, hB1, hk⟩ := hcut
    go_wp2_with fail
    go_loopw [7] (fun b wr => ∃ (ok : Bool) (v : Six), b = .bool ok ∧ Hid (NxtIs l (fstI a) v ok) ∧ Hid (Blk wr k 43 #[.int .i64 v.y, .int .i64 v.m, .int .i64 v.d, .int .i64 v.h, .int .i64 v.i, .int .i64 v.s]) ∧ Hid (Blk wr w.heap.size 25 #[.slice dA dn dc, .slice y.A y.n y.c, .slice m.A m.n m.c, .slice t'.A t'.n t'.c, .slice h.A h.n h.c, .slice i.A i.n i.c, .slice s.A s.n s.c]) ∧ Hid (Below w.heap.size w wr)) (fun b wr => loopFar k b wr)
    case atStart => exact ⟨ok, v, rfl, hX1, hN1, hC1, hB1⟩
    case round =>
      clear hX1 hN1 hC1 hB1
      obtain ⟨ok, v, rfl, hX, hN, hC, hb⟩ := hrel
      have hNr := hN
      rcases ok with _ | _
      · have HR := Lib.hid (NxtIs.none_ HTT.out hX.out)
        go_wp2_with fail
        go_ret2
        exact ⟨ret_ib' HR.out.1.symm HR.out.2.symm, hb.out⟩
      obtain ⟨b0, b1, b2, b3, b4, b5⟩ : wr.cell? ⟨k, 0, none⟩ = some (.int .i64 v.y) ∧ wr.cell? ⟨k, 1, none⟩ = some (.int .i64 v.m) ∧ wr.cell? ⟨k, 2, none⟩ = some (.int .i64 v.d) ∧ wr.cell? ⟨k, 3, none⟩ = some (.int .i64 v.h) ∧ wr.cell? ⟨k, 4, none⟩ = some (.int .i64 v.i) ∧ wr.cell? ⟨k, 5, none⟩ = some (.int .i64 v.s) := ⟨hN.out.cell 0, hN.out.cell 1, hN.out.cell 2, hN.out.cell 3, hN.out.cell 4, hN.out.cell 5⟩
      have hvb := Lib.hid (Six.good_bd HMM.out (hX.out.1 rfl).1)
      have d0 : 0 ≤ v.d := hvb.out.2.2.2.2.1
      have d1 : v.d ≤ 2200 := hvb.out.2.2.2.2.2.1
      have HWR : Hid (IntKind.i64.wrap (v.d + 1) = v.d + 1) := IntWalk.i64_in _ (by omega)
      have HAT : Hid (∀ W, Tabs W → CalAt W W.heap.size ⟨⟨dA, dn, dc⟩, y, m, t', h, i, s⟩ l → Calls Tryz.prog 16 #[.agg SX, .agg #[.int .i64 v.y, .int .i64 v.m, .int .i64 (v.d + 1), .int .i64 0, .int .i64 0, .int .i64 0]] W (AdvPost2 l v.tom W)) := fun W h1 h2 => HAd.out v.tom HMM.out (Six.tom_bd HMM.out (hX.out.1 rfl).1) W h1 h2
      go_wp2_with fail
      refine (devDate_any _ _ _ _ _ _ _).mono ?_
      rintro e w3 ⟨rfl, hb3⟩
      have hN3 := Lib.hid (hN.out.below hb3 hN.out.lt)
      have hC3 := Lib.hid (hC.out.below hb3 hC.out.lt)
      have hB3 := Lib.hid (more3 hb.out hb.out.size hb3)
      clear hb3 b0 b1 b2 b3 b4 b5
      go_wp2_with fail
      refine (To_any _ _ _ _ _ _ _ _).mono ?_
      rintro e w4 ⟨rfl, hb4⟩
      have hN4 := Lib.hid (hN3.out.below hb4 hN3.out.lt)
      have hC4 := Lib.hid (hC3.out.below hb4 hC3.out.lt)
      have hB4 := Lib.hid (more3 hB3.out hB3.out.size hb4)
      clear hb4
      have HHT := Lib.hid (fun h1 h2 => NxtIs.hit (a := a) HMM.out HTT.out hX.out h1 h2)
      have HN1 := Lib.hid (fun h => hit_no1 (l := l) (v := v) h)
      have HN2 := Lib.hid (fun h => hit_no2 (l := l) (v := v) h)
      generalize toOk v.y v.m v.d v.h v.i v.s = ho at *
      generalize toN v.y v.m v.d v.h v.i v.s = hn at *
      go_upto_region 7 with fail
      go_cut [48] (fun b wx => ∃ (hit : Bool), b = .bool hit ∧ Hid (hit = true → nextN l a = hn ∧ nextOk l a = true) ∧ Hid (hit = false → hitB l v = false) ∧ Hid (Blk wx k 43 #[.int .i64 v.y, .int .i64 v.m, .int .i64 v.d, .int .i64 v.h, .int .i64 v.i, .int .i64 v.s]) ∧ Hid (Blk wx w.heap.size 25 #[.slice dA dn dc, .slice y.A y.n y.c, .slice m.A m.n m.c, .slice t'.A t'.n t'.c, .slice h.A h.n h.c, .slice i.A i.n i.c, .slice s.A s.n s.c]) ∧ Hid (Below w.heap.size w wx))
      case first =>
        rcases ho with _ | _
        · go_quiet (fail)
          go_wp2_with fail
          go_meet
          exact ⟨false, rfl, (fun e => by cases e), fun _ => HN1.out (by first | trivial | rfl), hN4, hC4, below_drewN hB4.out _⟩
        · have hcc := hC4.out.cell 0
          refine wp_region_held_drew (S := (fun w' => w'.cell? ⟨w.heap.size, 0, none⟩ = some (.slice dA dn dc) ∧ w'.cell? ⟨w.heap.size, 1, none⟩ = some (.slice y.A y.n y.c) ∧ w'.cell? ⟨w.heap.size, 2, none⟩ = some (.slice m.A m.n m.c) ∧ w'.cell? ⟨w.heap.size, 3, none⟩ = some (.slice t'.A t'.n t'.c) ∧ w'.cell? ⟨w.heap.size, 4, none⟩ = some (.slice h.A h.n h.c) ∧ w'.cell? ⟨w.heap.size, 5, none⟩ = some (.slice i.A i.n i.c) ∧ w'.cell? ⟨w.heap.size, 6, none⟩ = some (.slice s.A s.n s.c) ∧ S2 w w.heap.size k 25 43 #[.slice dA dn dc, .slice y.A y.n y.c, .slice m.A m.n m.c, .slice t'.A t'.n t'.c, .slice h.A h.n h.c, .slice i.A i.n i.c, .slice s.A s.n s.c] #[.int .i64 v.y, .int .i64 v.m, .int .i64 v.d, .int .i64 v.h, .int .i64 v.i, .int .i64 v.s] w')) (by kernel_rfl) ?_ (fun hHeld => ?_)
          · exact s77 ⟨hC4.out, hN4.out, hB4.out.drew⟩
          refine wpAnyH_take (i := 0) (v := ?v0n159) rfl (by kernel_rfl) (by kernel_rfl) (by kernel_rfl) (fun _ _ _ h => h) (Or.inl ⟨by rfl, ?hy0n159⟩) (by assumption) ?_
          case hy0n159 => (intro w hSw; (try dsimp only at hSw); go_simp; (try with_reducible rfl))
          try simp only [Act.put, List.getElem_toArray, List.getElem_cons_zero, List.setIfInBounds_toArray, List.set_cons_zero, List.set_cons_succ]
          refine wpAnyH_take (i := 1) (v := ?v1n160) rfl (by kernel_rfl) (by kernel_rfl) (by kernel_rfl) (fun _ _ _ h => h) (Or.inl ⟨by rfl, ?hy1n160⟩) (by assumption) ?_
          case hy1n160 => (intro w hSw; (try dsimp only at hSw); go_simp; (try with_reducible rfl))
          try simp only [Act.put, List.getElem_toArray, List.getElem_cons_zero, List.getElem_cons_succ, List.setIfInBounds_toArray, List.set_cons_zero, List.set_cons_succ]
          refine wpAnyH_take (i := 2) (v := ?v2n161) rfl (by kernel_rfl) (by kernel_rfl) (by kernel_rfl) (fun _ _ _ h => h) (Or.inl ⟨by rfl, ?hy2n161⟩) (by assumption) ?_
          case hy2n161 => (intro w hSw; (try dsimp only at hSw); go_simp; (try with_reducible rfl))
          try simp only [Act.put, List.getElem_toArray, List.getElem_cons_zero, List.getElem_cons_succ, List.setIfInBounds_toArray, List.set_cons_zero, List.set_cons_succ]
          refine wpAnyH_take (i := 3) (v := ?v3n162) rfl (by kernel_rfl) (by kernel_rfl) (by kernel_rfl) (fun _ _ _ h => h) (Or.inl ⟨by rfl, ?hy3n162⟩) (by assumption) ?_
          case hy3n162 => (intro w hSw; (try dsimp only at hSw); go_simp; (try with_reducible rfl))
          try simp only [Act.put, List.getElem_toArray, List.getElem_cons_zero, List.getElem_cons_succ, List.setIfInBounds_toArray, List.set_cons_zero, List.set_cons_succ]
          refine wpAnyH_take (i := 4) (v := ?v4n163) rfl (by kernel_rfl) (by kernel_rfl) (by kernel_rfl) (fun _ _ _ h => h) (Or.inl ⟨by rfl, ?hy4n163⟩) (by assumption) ?_
          case hy4n163 => (intro w hSw; (try dsimp only at hSw); go_simp; (try with_reducible rfl))
          try simp only [Act.put, List.getElem_toArray, List.getElem_cons_zero, List.getElem_cons_succ, List.setIfInBounds_toArray, List.set_cons_zero, List.set_cons_succ]
          refine wpAnyH_ready (rs := [5]) (by kernel_rfl) (by simp) ?_
          refine AllReadyH.cons rfl (fun K hK => ?_) AllReadyH.nil
          go_simp
          (refine (devWeekday_any _ _).mono ?_; rintro e w6 ⟨rfl, hb⟩)
          refine hK.out _ _ ?_ (fun hHeld2 => ?_)
          · exact s77 (sq_call hHeld.2.2.2.2.2.2.2 hb)
          clear hK K hHeld
          have hHeld := hHeld2
          clear hHeld2
          try simp only [Act.put, List.getElem_toArray, List.getElem_cons_zero, List.getElem_cons_succ, List.setIfInBounds_toArray, List.set_cons_zero, List.set_cons_succ]
          clear hb
          refine wpAnyH_ready (rs := [6]) (by kernel_rfl) (by simp) ?_
          refine AllReadyH.cons rfl (fun K hK => ?_) AllReadyH.nil
          go_simp
          (refine (calHasDay_any dA dn dc l.ds _ _ w.heap.size (HD.out.below (hHeld.2.2.2.2.2.2.2).2.2)).mono ?_; rintro e w7 ⟨rfl, rfl⟩)
          refine hK.out _ _ ?_ (fun hHeld2 => ?_)
          · exact s77 hHeld.2.2.2.2.2.2.2
          clear hK K hHeld
          have hHeld := hHeld2
          clear hHeld2
          try simp only [Act.put, List.getElem_toArray, List.getElem_cons_zero, List.getElem_cons_succ, List.setIfInBounds_toArray, List.set_cons_zero, List.set_cons_succ]
          refine wpAnyH_take (i := 7) (v := ?v7n164) rfl (by kernel_rfl) (by kernel_rfl) (by kernel_rfl) (fun _ _ _ h => h) (Or.inl ⟨by rfl, ?hy7n164⟩) (by assumption) ?_
          case hy7n164 => (intro w hSw; (try dsimp only at hSw); go_simp; (try with_reducible rfl))
          try simp only [Act.put, List.getElem_toArray, List.getElem_cons_zero, List.getElem_cons_succ, List.setIfInBounds_toArray, List.set_cons_zero, List.set_cons_succ]
          refine wpAnyH_done (by kernel_rfl) ?_ _
          have HFI := Lib.hid (hHeld.2.2.2.2.2.2.2)
          clear hHeld hcc
          rcases hdy : dayB l.ds (fW hn) with _ | _
          · have HM2 := Lib.hid (HN2.out hdy)
            clear hdy
            go_wp2_with fail
            go_meet
            exact ⟨false, rfl, (fun e => by cases e), fun _ => HM2.out, HFI.out.2.1, HFI.out.1, HFI.out.2.2⟩
          · have HM2 := Lib.hid (HHT.out rfl hdy)
            clear hdy
            go_wp2_with fail
            go_meet
            exact ⟨true, rfl, fun _ => HM2.out, (fun e => by cases e), HFI.out.2.1, HFI.out.1, HFI.out.2.2⟩
      case rest =>
        clear hN4 hC4 hB4
        obtain ⟨hit, rfl, hh1, hh2, hN4, hC4, hB4⟩ := hcut
        rcases hit with _ | _
        · have HNO := Lib.hid (hh2.out rfl)
          go_wp2_with fail
          have HNO9 : (0 : Nat) ≤ 0 := Nat.zero_le _
          refine wp_region_held_drew (S := (fun w' => w'.cell? ⟨w.heap.size, 0, none⟩ = some (.slice dA dn dc) ∧ w'.cell? ⟨w.heap.size, 1, none⟩ = some (.slice y.A y.n y.c) ∧ w'.cell? ⟨w.heap.size, 2, none⟩ = some (.slice m.A m.n m.c) ∧ w'.cell? ⟨w.heap.size, 3, none⟩ = some (.slice t'.A t'.n t'.c) ∧ w'.cell? ⟨w.heap.size, 4, none⟩ = some (.slice h.A h.n h.c) ∧ w'.cell? ⟨w.heap.size, 5, none⟩ = some (.slice i.A i.n i.c) ∧ w'.cell? ⟨w.heap.size, 6, none⟩ = some (.slice s.A s.n s.c) ∧ S1 w w.heap.size 25 #[.slice dA dn dc, .slice y.A y.n y.c, .slice m.A m.n m.c, .slice t'.A t'.n t'.c, .slice h.A h.n h.c, .slice i.A i.n i.c, .slice s.A s.n s.c] w')) (by kernel_rfl) ?_ (fun hHeld => ?_)
          · exact s7 ⟨hC4.out, hB4.out.drew⟩
          have hN := hN4
          obtain ⟨n0, n1, n2⟩ := num3 hN.out
          refine wpAnyH_take (i := 0) (v := ?v0n19) rfl (by kernel_rfl) (by kernel_rfl) (by kernel_rfl) (fun _ _ _ h => h) (Or.inl ⟨by rfl, ?hy0n19⟩) (by assumption) ?_
          case hy0n19 => (intro w hSw; (try dsimp only at hSw); go_simp; (try with_reducible rfl))
          try simp only [Act.put, List.getElem_toArray, List.getElem_cons_zero, List.setIfInBounds_toArray, List.set_cons_zero, List.set_cons_succ]
          refine wpAnyH_take (i := 2) (v := ?v2n20) rfl (by kernel_rfl) (by kernel_rfl) (by kernel_rfl) (fun _ _ _ h => h) (Or.inl ⟨by rfl, ?hy2n20⟩) (by assumption) ?_
          case hy2n20 => (intro w hSw; (try dsimp only at hSw); go_simp; (try with_reducible rfl))
          try simp only [Act.put, List.getElem_toArray, List.getElem_cons_zero, List.getElem_cons_succ, List.setIfInBounds_toArray, List.set_cons_zero, List.set_cons_succ]
          refine wpAnyH_take (i := 4) (v := ?v4n21) rfl (by kernel_rfl) (by kernel_rfl) (by kernel_rfl) (fun _ _ _ h => h) (Or.inl ⟨by rfl, ?hy4n21⟩) (by assumption) ?_
          case hy4n21 => (intro w hSw; (try dsimp only at hSw); go_simp; (try with_reducible rfl))
          try simp only [Act.put, List.getElem_toArray, List.getElem_cons_zero, List.getElem_cons_succ, List.setIfInBounds_toArray, List.set_cons_zero, List.set_cons_succ]
          refine wpAnyH_take (i := 6) (v := ?v6n22) rfl (by kernel_rfl) (by kernel_rfl) (by kernel_rfl) (fun _ _ _ h => h) (Or.inl ⟨by rfl, ?hy6n22⟩) (by assumption) ?_
          case hy6n22 => (intro w hSw; (try dsimp only at hSw); go_simp; (try with_reducible rfl))
          try simp only [Act.put, List.getElem_toArray, List.getElem_cons_zero, List.getElem_cons_succ, List.setIfInBounds_toArray, List.set_cons_zero, List.set_cons_succ]
          refine wpAnyH_ready (rs := [1, 3, 5, 7]) (by kernel_rfl) (by simp) ?_
          refine AllReadyH.cons rfl (fun K hK => ?_) (AllReadyH.cons rfl (fun K hK => ?_) (AllReadyH.cons rfl (fun K hK => ?_) (AllReadyH.cons rfl (fun K hK => ?_) AllReadyH.nil)))
          · go_simp
            (refine (HLi.out _).mono ?_; rintro e w6 ⟨rfl, hb⟩)
            refine hK.out _ _ ?_ (fun hHeld2 => ?_)
            · exact s7 (s1_call hHeld.2.2.2.2.2.2.2 hb)
            clear hK K hHeld
            have hHeld := hHeld2
            clear hHeld2
            try simp only [Act.put, List.getElem_toArray, List.getElem_cons_zero, List.getElem_cons_succ, List.setIfInBounds_toArray, List.set_cons_zero, List.set_cons_succ]
            clear n0 n1 n2
            have hN := Lib.hid (Blk.below (by exact hN.out) hb (by exact hN.out.lt))
            obtain ⟨n0, n1, n2⟩ := num3 hN.out
            clear hb
            refine wpAnyH_ready (rs := [3, 5, 7]) (by kernel_rfl) (by simp) ?_
            refine AllReadyH.cons rfl (fun K hK => ?_) (AllReadyH.cons rfl (fun K hK => ?_) (AllReadyH.cons rfl (fun K hK => ?_) AllReadyH.nil))
            · go_simp
              refine hK.out _ _ ?_ (fun hHeld2 => ?_)
              · exact s7 hHeld.2.2.2.2.2.2.2
              clear hK K hHeld
              have hHeld := hHeld2
              clear hHeld2
              try simp only [Act.put, List.getElem_toArray, List.getElem_cons_zero, List.getElem_cons_succ, List.setIfInBounds_toArray, List.set_cons_zero, List.set_cons_succ]
              refine wpAnyH_ready (rs := [5, 7]) (by kernel_rfl) (by simp) ?_
              refine AllReadyH.cons rfl (fun K hK => ?_) (AllReadyH.cons rfl (fun K hK => ?_) AllReadyH.nil)
              · go_simp
                refine hK.out _ _ ?_ (fun hHeld2 => ?_)
                · exact s7 hHeld.2.2.2.2.2.2.2
                clear hK K hHeld
                have hHeld := hHeld2
                clear hHeld2
                try simp only [Act.put, List.getElem_toArray, List.getElem_cons_zero, List.getElem_cons_succ, List.setIfInBounds_toArray, List.set_cons_zero, List.set_cons_succ]
                refine wpAnyH_ready (rs := [7]) (by kernel_rfl) (by simp) ?_
                refine AllReadyH.cons rfl (fun K hK => ?_) AllReadyH.nil
                go_simp
                refine hK.out _ _ ?_ (fun hHeld2 => ?_)
                · exact s7 hHeld.2.2.2.2.2.2.2
                clear hK K hHeld
                have hHeld := hHeld2
                clear hHeld2
                try simp only [Act.put, List.getElem_toArray, List.getElem_cons_zero, List.getElem_cons_succ, List.setIfInBounds_toArray, List.set_cons_zero, List.set_cons_succ]
                refine wpAnyH_take (i := 8) (v := ?v8n23) rfl (by kernel_rfl) (by kernel_rfl) (by kernel_rfl) (fun _ _ _ h => h) (Or.inl ⟨by rfl, ?hy8n23⟩) (by assumption) ?_
                case hy8n23 => (intro w hSw; (try dsimp only at hSw); go_simp; (try with_reducible rfl))
                try simp only [Act.put, List.getElem_toArray, List.getElem_cons_zero, List.getElem_cons_succ, List.setIfInBounds_toArray, List.set_cons_zero, List.set_cons_succ]
                refine wpAnyH_take (i := 9) (v := ?v9n24) rfl (by kernel_rfl) (by kernel_rfl) (by kernel_rfl) (fun _ _ _ h => h) (Or.inl ⟨by rfl, ?hy9n24⟩) (by assumption) ?_
                case hy9n24 => (intro w hSw; (try dsimp only at hSw); go_simp; (try with_reducible rfl))
                try simp only [Act.put, List.getElem_toArray, List.getElem_cons_zero, List.getElem_cons_succ, List.setIfInBounds_toArray, List.set_cons_zero, List.set_cons_succ]
                refine wpAnyH_ready (rs := [10]) (by kernel_rfl) (by simp) ?_
                refine AllReadyH.cons rfl (fun K hK => ?_) AllReadyH.nil
                go_simp
                rw [HWR.out]
                (refine (HAT.out _ (HT.out.below (hHeld.2.2.2.2.2.2.2).2) (HC.out.at_ (hHeld.2.2.2.2.2.2.2).2)).mono ?_; rintro e w7 ⟨v', ok', rfl, hA, hb⟩)
                refine hK.out _ _ ?_ (fun hHeld2 => ?_)
                · exact s7 (s1_call hHeld.2.2.2.2.2.2.2 hb)
                clear hK K hHeld
                have hHeld := hHeld2
                clear hHeld2
                try simp only [Act.put, List.getElem_toArray, List.getElem_cons_zero, List.getElem_cons_succ, List.setIfInBounds_toArray, List.set_cons_zero, List.set_cons_succ]
                clear n0 n1 n2
                have hN := Lib.hid (Blk.below (by exact hN.out) hb (by exact hN.out.lt))
                clear hb
                refine wpAnyH_take (i := 11) (v := ?v11n25) rfl (by kernel_rfl) (by kernel_rfl) (by kernel_rfl) (fun _ _ _ h => h) (Or.inl ⟨by rfl, ?hy11n25⟩) (by assumption) ?_
                case hy11n25 => (intro w hSw; (try dsimp only at hSw); go_simp; (try with_reducible rfl))
                try simp only [Act.put, List.getElem_toArray, List.getElem_cons_zero, List.getElem_cons_succ, List.setIfInBounds_toArray, List.set_cons_zero, List.set_cons_succ]
                refine wpAnyH_take (i := 12) (v := ?v12n26) rfl (by kernel_rfl) (by kernel_rfl) (by kernel_rfl) (fun _ _ _ h => h) (Or.inl ⟨by rfl, ?hy12n26⟩) (by assumption) ?_
                case hy12n26 => (intro w hSw; (try dsimp only at hSw); go_simp; (try with_reducible rfl))
                try simp only [Act.put, List.getElem_toArray, List.getElem_cons_zero, List.getElem_cons_succ, List.setIfInBounds_toArray, List.set_cons_zero, List.set_cons_succ]
                refine wpAnyH_take (i := 13) (v := ?v13n27) rfl (by kernel_rfl) (by kernel_rfl) (by kernel_rfl) (fun _ _ _ h => h) (Or.inl ⟨by rfl, ?hy13n27⟩) (by assumption) ?_
                case hy13n27 => (intro w hSw; (try dsimp only at hSw); go_simp; (try with_reducible rfl))
                try simp only [Act.put, List.getElem_toArray, List.getElem_cons_zero, List.getElem_cons_succ, List.setIfInBounds_toArray, List.set_cons_zero, List.set_cons_succ]
                refine wpAnyH_ready (rs := [14]) (by kernel_rfl) (by simp) ?_
                refine AllReadyH.cons rfl (fun K hK => ?_) AllReadyH.nil
                rw [if_pos (by rfl)]
                refine wp_store_row 43 (.tmp 8) (.tmp 62) (by rfl) k #[.int .i64 v'.y, .int .i64 v'.m, .int .i64 v'.d, .int .i64 v'.h, .int .i64 v'.i, .int .i64 v'.s] (by rfl) (by rfl) 43 #[.int .i64 v.y, .int .i64 v.m, .int .i64 v.d, .int .i64 v.h, .int .i64 v.i, .int .i64 v.s] (by exact hN.out) (by kernel_rfl) rfl (cells_all v') ?_
                refine hK.out _ _ ?_ (fun hHeld2 => ?_)
                · exact s7 (s1_row hHeld.2.2.2.2.2.2.2 (by omega) (by omega) _)
                clear hK K hHeld
                have hHeld := hHeld2
                clear hHeld2
                try simp only [Act.put, List.getElem_toArray, List.getElem_cons_zero, List.getElem_cons_succ]
                refine wpAnyH_take (i := 15) (v := ?v15n28) rfl (by kernel_rfl) (by kernel_rfl) (by kernel_rfl) (fun _ _ _ h => h) (Or.inl ⟨by rfl, ?hy15n28⟩) (by assumption) ?_
                case hy15n28 => (intro w hSw; (try dsimp only at hSw); go_simp; (try with_reducible rfl))
                try simp only [Act.put, List.getElem_toArray, List.getElem_cons_zero, List.getElem_cons_succ, List.setIfInBounds_toArray, List.set_cons_zero, List.set_cons_succ]
                refine wpAnyH_done (by kernel_rfl) ?_ _
                have HFI := Lib.hid (hHeld.2.2.2.2.2.2.2)
                have HRW := Lib.hid (hN.out.row #[.int .i64 v'.y, .int .i64 v'.m, .int .i64 v'.d, .int .i64 v'.h, .int .i64 v'.i, .int .i64 v'.s])
                have HAI := Lib.hid hA
                clear hHeld hA
                have HXN := Lib.hid (NxtIs.next HMM.out hX.out HNO.out HAI.out)
                have HFR := Lib.hid (loopFar_lt (v := v) (v' := v') (ok := ok') hNr.out HRW.out (fun e => NxtIs.far HMM.out hX.out (by rw [← e]; exact HAI.out)))
                go_wp2_with fail
                go_roundw
                case rel => exact ⟨ok', v', rfl, HXN, HRW, HFI.out.1, HFI.out.2⟩
                case measure => exact HFR.out
              · go_simp
                refine hK.out _ _ ?_ (fun hHeld2 => ?_)
                · exact s7 hHeld.2.2.2.2.2.2.2
                clear hK K hHeld
                have hHeld := hHeld2
                clear hHeld2
                try simp only [Act.put, List.getElem_toArray, List.getElem_cons_zero, List.getElem_cons_succ, List.setIfInBounds_toArray, List.set_cons_zero, List.set_cons_succ]
                refine wpAnyH_take (i := 8) (v := ?v8n29) rfl (by kernel_rfl) (by kernel_rfl) (by kernel_rfl) (fun _ _ _ h => h) (Or.inl ⟨by rfl, ?hy8n29⟩) (by assumption) ?_
                case hy8n29 => (intro w hSw; (try dsimp only at hSw); go_simp; (try with_reducible rfl))
                try simp only [Act.put, List.getElem_toArray, List.getElem_cons_zero, List.getElem_cons_succ, List.setIfInBounds_toArray, List.set_cons_zero, List.set_cons_succ]
                refine wpAnyH_ready (rs := [5]) (by kernel_rfl) (by simp) ?_
                refine AllReadyH.cons rfl (fun K hK => ?_) AllReadyH.nil
                go_simp
                refine hK.out _ _ ?_ (fun hHeld2 => ?_)
                · exact s7 hHeld.2.2.2.2.2.2.2
                clear hK K hHeld
                have hHeld := hHeld2
                clear hHeld2
                try simp only [Act.put, List.getElem_toArray, List.getElem_cons_zero, List.getElem_cons_succ, List.setIfInBounds_toArray, List.set_cons_zero, List.set_cons_succ]
                refine wpAnyH_take (i := 9) (v := ?v9n30) rfl (by kernel_rfl) (by kernel_rfl) (by kernel_rfl) (fun _ _ _ h => h) (Or.inl ⟨by rfl, ?hy9n30⟩) (by assumption) ?_
                case hy9n30 => (intro w hSw; (try dsimp only at hSw); go_simp; (try with_reducible rfl))
                try simp only [Act.put, List.getElem_toArray, List.getElem_cons_zero, List.getElem_cons_succ, List.setIfInBounds_toArray, List.set_cons_zero, List.set_cons_succ]
                refine wpAnyH_ready (rs := [10]) (by kernel_rfl) (by simp) ?_
                refine AllReadyH.cons rfl (fun K hK => ?_) AllReadyH.nil
                go_simp
                rw [HWR.out]
                (refine (HAT.out _ (HT.out.below (hHeld.2.2.2.2.2.2.2).2) (HC.out.at_ (hHeld.2.2.2.2.2.2.2).2)).mono ?_; rintro e w7 ⟨v', ok', rfl, hA, hb⟩)
                refine hK.out _ _ ?_ (fun hHeld2 => ?_)
                · exact s7 (s1_call hHeld.2.2.2.2.2.2.2 hb)
                clear hK K hHeld
                have hHeld := hHeld2
                clear hHeld2
                try simp only [Act.put, List.getElem_toArray, List.getElem_cons_zero, List.getElem_cons_succ, List.setIfInBounds_toArray, List.set_cons_zero, List.set_cons_succ]
                clear n0 n1 n2
                have hN := Lib.hid (Blk.below (by exact hN.out) hb (by exact hN.out.lt))
                clear hb
                refine wpAnyH_take (i := 11) (v := ?v11n31) rfl (by kernel_rfl) (by kernel_rfl) (by kernel_rfl) (fun _ _ _ h => h) (Or.inl ⟨by rfl, ?hy11n31⟩) (by assumption) ?_
                case hy11n31 => (intro w hSw; (try dsimp only at hSw); go_simp; (try with_reducible rfl))
                try simp only [Act.put, List.getElem_toArray, List.getElem_cons_zero, List.getElem_cons_succ, List.setIfInBounds_toArray, List.set_cons_zero, List.set_cons_succ]
                refine wpAnyH_take (i := 12) (v := ?v12n32) rfl (by kernel_rfl) (by kernel_rfl) (by kernel_rfl) (fun _ _ _ h => h) (Or.inl ⟨by rfl, ?hy12n32⟩) (by assumption) ?_
                case hy12n32 => (intro w hSw; (try dsimp only at hSw); go_simp; (try with_reducible rfl))
                try simp only [Act.put, List.getElem_toArray, List.getElem_cons_zero, List.getElem_cons_succ, List.setIfInBounds_toArray, List.set_cons_zero, List.set_cons_succ]
                refine wpAnyH_take (i := 13) (v := ?v13n33) rfl (by kernel_rfl) (by kernel_rfl) (by kernel_rfl) (fun _ _ _ h => h) (Or.inl ⟨by rfl, ?hy13n33⟩) (by assumption) ?_
                case hy13n33 => (intro w hSw; (try dsimp only at hSw); go_simp; (try with_reducible rfl))
                try simp only [Act.put, List.getElem_toArray, List.getElem_cons_zero, List.getElem_cons_succ, List.setIfInBounds_toArray, List.set_cons_zero, List.set_cons_succ]
                refine wpAnyH_ready (rs := [14]) (by kernel_rfl) (by simp) ?_
                refine AllReadyH.cons rfl (fun K hK => ?_) AllReadyH.nil
                rw [if_pos (by rfl)]
                refine wp_store_row 43 (.tmp 8) (.tmp 62) (by rfl) k #[.int .i64 v'.y, .int .i64 v'.m, .int .i64 v'.d, .int .i64 v'.h, .int .i64 v'.i, .int .i64 v'.s] (by rfl) (by rfl) 43 #[.int .i64 v.y, .int .i64 v.m, .int .i64 v.d, .int .i64 v.h, .int .i64 v.i, .int .i64 v.s] (by exact hN.out) (by kernel_rfl) rfl (cells_all v') ?_
                refine hK.out _ _ ?_ (fun hHeld2 => ?_)
                · exact s7 (s1_row hHeld.2.2.2.2.2.2.2 (by omega) (by omega) _)
                clear hK K hHeld
                have hHeld := hHeld2
                clear hHeld2
                try simp only [Act.put, List.getElem_toArray, List.getElem_cons_zero, List.getElem_cons_succ]
                refine wpAnyH_take (i := 15) (v := ?v15n34) rfl (by kernel_rfl) (by kernel_rfl) (by kernel_rfl) (fun _ _ _ h => h) (Or.inl ⟨by rfl, ?hy15n34⟩) (by assumption) ?_
                case hy15n34 => (intro w hSw; (try dsimp only at hSw); go_simp; (try with_reducible rfl))
                try simp only [Act.put, List.getElem_toArray, List.getElem_cons_zero, List.getElem_cons_succ, List.setIfInBounds_toArray, List.set_cons_zero, List.set_cons_succ]
                refine wpAnyH_done (by kernel_rfl) ?_ _
                have HFI := Lib.hid (hHeld.2.2.2.2.2.2.2)
                have HRW := Lib.hid (hN.out.row #[.int .i64 v'.y, .int .i64 v'.m, .int .i64 v'.d, .int .i64 v'.h, .int .i64 v'.i, .int .i64 v'.s])
                have HAI := Lib.hid hA
                clear hHeld hA
                have HXN := Lib.hid (NxtIs.next HMM.out hX.out HNO.out HAI.out)
                have HFR := Lib.hid (loopFar_lt (v := v) (v' := v') (ok := ok') hNr.out HRW.out (fun e => NxtIs.far HMM.out hX.out (by rw [← e]; exact HAI.out)))
                go_wp2_with fail
                go_roundw
                case rel => exact ⟨ok', v', rfl, HXN, HRW, HFI.out.1, HFI.out.2⟩
                case measure => exact HFR.out
            · go_simp
              refine hK.out _ _ ?_ (fun hHeld2 => ?_)
              · exact s7 hHeld.2.2.2.2.2.2.2
              clear hK K hHeld
              have hHeld := hHeld2
              clear hHeld2
              try simp only [Act.put, List.getElem_toArray, List.getElem_cons_zero, List.getElem_cons_succ, List.setIfInBounds_toArray, List.set_cons_zero, List.set_cons_succ]
              refine wpAnyH_ready (rs := [3, 7]) (by kernel_rfl) (by simp) ?_
              refine AllReadyH.cons rfl (fun K hK => ?_) (AllReadyH.cons rfl (fun K hK => ?_) AllReadyH.nil)
              · go_simp
                refine hK.out _ _ ?_ (fun hHeld2 => ?_)
                · exact s7 hHeld.2.2.2.2.2.2.2
                clear hK K hHeld
                have hHeld := hHeld2
                clear hHeld2
                try simp only [Act.put, List.getElem_toArray, List.getElem_cons_zero, List.getElem_cons_succ, List.setIfInBounds_toArray, List.set_cons_zero, List.set_cons_succ]
                refine wpAnyH_ready (rs := [7]) (by kernel_rfl) (by simp) ?_
                refine AllReadyH.cons rfl (fun K hK => ?_) AllReadyH.nil
                go_simp
                refine hK.out _ _ ?_ (fun hHeld2 => ?_)
                · exact s7 hHeld.2.2.2.2.2.2.2
                clear hK K hHeld
                have hHeld := hHeld2
                clear hHeld2
                try simp only [Act.put, List.getElem_toArray, List.getElem_cons_zero, List.getElem_cons_succ, List.setIfInBounds_toArray, List.set_cons_zero, List.set_cons_succ]
                refine wpAnyH_take (i := 8) (v := ?v8n35) rfl (by kernel_rfl) (by kernel_rfl) (by kernel_rfl) (fun _ _ _ h => h) (Or.inl ⟨by rfl, ?hy8n35⟩) (by assumption) ?_
                case hy8n35 => (intro w hSw; (try dsimp only at hSw); go_simp; (try with_reducible rfl))
                try simp only [Act.put, List.getElem_toArray, List.getElem_cons_zero, List.getElem_cons_succ, List.setIfInBounds_toArray, List.set_cons_zero, List.set_cons_succ]
                refine wpAnyH_take (i := 9) (v := ?v9n36) rfl (by kernel_rfl) (by kernel_rfl) (by kernel_rfl) (fun _ _ _ h => h) (Or.inl ⟨by rfl, ?hy9n36⟩) (by assumption) ?_
                case hy9n36 => (intro w hSw; (try dsimp only at hSw); go_simp; (try with_reducible rfl))
                try simp only [Act.put, List.getElem_toArray, List.getElem_cons_zero, List.getElem_cons_succ, List.setIfInBounds_toArray, List.set_cons_zero, List.set_cons_succ]
                refine wpAnyH_ready (rs := [10]) (by kernel_rfl) (by simp) ?_
                refine AllReadyH.cons rfl (fun K hK => ?_) AllReadyH.nil
                go_simp
                rw [HWR.out]
                (refine (HAT.out _ (HT.out.below (hHeld.2.2.2.2.2.2.2).2) (HC.out.at_ (hHeld.2.2.2.2.2.2.2).2)).mono ?_; rintro e w7 ⟨v', ok', rfl, hA, hb⟩)
                refine hK.out _ _ ?_ (fun hHeld2 => ?_)
                · exact s7 (s1_call hHeld.2.2.2.2.2.2.2 hb)
                clear hK K hHeld
                have hHeld := hHeld2
                clear hHeld2
                try simp only [Act.put, List.getElem_toArray, List.getElem_cons_zero, List.getElem_cons_succ, List.setIfInBounds_toArray, List.set_cons_zero, List.set_cons_succ]
                clear n0 n1 n2
                have hN := Lib.hid (Blk.below (by exact hN.out) hb (by exact hN.out.lt))
                clear hb
                refine wpAnyH_take (i := 11) (v := ?v11n37) rfl (by kernel_rfl) (by kernel_rfl) (by kernel_rfl) (fun _ _ _ h => h) (Or.inl ⟨by rfl, ?hy11n37⟩) (by assumption) ?_
                case hy11n37 => (intro w hSw; (try dsimp only at hSw); go_simp; (try with_reducible rfl))
                try simp only [Act.put, List.getElem_toArray, List.getElem_cons_zero, List.getElem_cons_succ, List.setIfInBounds_toArray, List.set_cons_zero, List.set_cons_succ]
                refine wpAnyH_take (i := 12) (v := ?v12n38) rfl (by kernel_rfl) (by kernel_rfl) (by kernel_rfl) (fun _ _ _ h => h) (Or.inl ⟨by rfl, ?hy12n38⟩) (by assumption) ?_
                case hy12n38 => (intro w hSw; (try dsimp only at hSw); go_simp; (try with_reducible rfl))
                try simp only [Act.put, List.getElem_toArray, List.getElem_cons_zero, List.getElem_cons_succ, List.setIfInBounds_toArray, List.set_cons_zero, List.set_cons_succ]
                refine wpAnyH_take (i := 13) (v := ?v13n39) rfl (by kernel_rfl) (by kernel_rfl) (by kernel_rfl) (fun _ _ _ h => h) (Or.inl ⟨by rfl, ?hy13n39⟩) (by assumption) ?_
                case hy13n39 => (intro w hSw; (try dsimp only at hSw); go_simp; (try with_reducible rfl))
                try simp only [Act.put, List.getElem_toArray, List.getElem_cons_zero, List.getElem_cons_succ, List.setIfInBounds_toArray, List.set_cons_zero, List.set_cons_succ]
                refine wpAnyH_ready (rs := [14]) (by kernel_rfl) (by simp) ?_
                refine AllReadyH.cons rfl (fun K hK => ?_) AllReadyH.nil
                rw [if_pos (by rfl)]
                refine wp_store_row 43 (.tmp 8) (.tmp 62) (by rfl) k #[.int .i64 v'.y, .int .i64 v'.m, .int .i64 v'.d, .int .i64 v'.h, .int .i64 v'.i, .int .i64 v'.s] (by rfl) (by rfl) 43 #[.int .i64 v.y, .int .i64 v.m, .int .i64 v.d, .int .i64 v.h, .int .i64 v.i, .int .i64 v.s] (by exact hN.out) (by kernel_rfl) rfl (cells_all v') ?_
                refine hK.out _ _ ?_ (fun hHeld2 => ?_)
                · exact s7 (s1_row hHeld.2.2.2.2.2.2.2 (by omega) (by omega) _)
                clear hK K hHeld
                have hHeld := hHeld2
                clear hHeld2
                try simp only [Act.put, List.getElem_toArray, List.getElem_cons_zero, List.getElem_cons_succ]
                refine wpAnyH_take (i := 15) (v := ?v15n40) rfl (by kernel_rfl) (by kernel_rfl) (by kernel_rfl) (fun _ _ _ h => h) (Or.inl ⟨by rfl, ?hy15n40⟩) (by assumption) ?_
                case hy15n40 => (intro w hSw; (try dsimp only at hSw); go_simp; (try with_reducible rfl))
                try simp only [Act.put, List.getElem_toArray, List.getElem_cons_zero, List.getElem_cons_succ, List.setIfInBounds_toArray, List.set_cons_zero, List.set_cons_succ]
                refine wpAnyH_done (by kernel_rfl) ?_ _
                have HFI := Lib.hid (hHeld.2.2.2.2.2.2.2)
                have HRW := Lib.hid (hN.out.row #[.int .i64 v'.y, .int .i64 v'.m, .int .i64 v'.d, .int .i64 v'.h, .int .i64 v'.i, .int .i64 v'.s])
                have HAI := Lib.hid hA
                clear hHeld hA
                have HXN := Lib.hid (NxtIs.next HMM.out hX.out HNO.out HAI.out)
                have HFR := Lib.hid (loopFar_lt (v := v) (v' := v') (ok := ok') hNr.out HRW.out (fun e => NxtIs.far HMM.out hX.out (by rw [← e]; exact HAI.out)))
                go_wp2_with fail
                go_roundw
                case rel => exact ⟨ok', v', rfl, HXN, HRW, HFI.out.1, HFI.out.2⟩
                case measure => exact HFR.out
              · go_simp
                refine hK.out _ _ ?_ (fun hHeld2 => ?_)
                · exact s7 hHeld.2.2.2.2.2.2.2
                clear hK K hHeld
                have hHeld := hHeld2
                clear hHeld2
                try simp only [Act.put, List.getElem_toArray, List.getElem_cons_zero, List.getElem_cons_succ, List.setIfInBounds_toArray, List.set_cons_zero, List.set_cons_succ]
                refine wpAnyH_take (i := 8) (v := ?v8n41) rfl (by kernel_rfl) (by kernel_rfl) (by kernel_rfl) (fun _ _ _ h => h) (Or.inl ⟨by rfl, ?hy8n41⟩) (by assumption) ?_
                case hy8n41 => (intro w hSw; (try dsimp only at hSw); go_simp; (try with_reducible rfl))
                try simp only [Act.put, List.getElem_toArray, List.getElem_cons_zero, List.getElem_cons_succ, List.setIfInBounds_toArray, List.set_cons_zero, List.set_cons_succ]
                refine wpAnyH_ready (rs := [3]) (by kernel_rfl) (by simp) ?_
                refine AllReadyH.cons rfl (fun K hK => ?_) AllReadyH.nil
                go_simp
                refine hK.out _ _ ?_ (fun hHeld2 => ?_)
                · exact s7 hHeld.2.2.2.2.2.2.2
                clear hK K hHeld
                have hHeld := hHeld2
                clear hHeld2
                try simp only [Act.put, List.getElem_toArray, List.getElem_cons_zero, List.getElem_cons_succ, List.setIfInBounds_toArray, List.set_cons_zero, List.set_cons_succ]
                refine wpAnyH_take (i := 9) (v := ?v9n42) rfl (by kernel_rfl) (by kernel_rfl) (by kernel_rfl) (fun _ _ _ h => h) (Or.inl ⟨by rfl, ?hy9n42⟩) (by assumption) ?_
                case hy9n42 => (intro w hSw; (try dsimp only at hSw); go_simp; (try with_reducible rfl))
                try simp only [Act.put, List.getElem_toArray, List.getElem_cons_zero, List.getElem_cons_succ, List.setIfInBounds_toArray, List.set_cons_zero, List.set_cons_succ]
                refine wpAnyH_ready (rs := [10]) (by kernel_rfl) (by simp) ?_
                refine AllReadyH.cons rfl (fun K hK => ?_) AllReadyH.nil
                go_simp
                rw [HWR.out]
                (refine (HAT.out _ (HT.out.below (hHeld.2.2.2.2.2.2.2).2) (HC.out.at_ (hHeld.2.2.2.2.2.2.2).2)).mono ?_; rintro e w7 ⟨v', ok', rfl, hA, hb⟩)
                refine hK.out _ _ ?_ (fun hHeld2 => ?_)
                · exact s7 (s1_call hHeld.2.2.2.2.2.2.2 hb)
                clear hK K hHeld
                have hHeld := hHeld2
                clear hHeld2
                try simp only [Act.put, List.getElem_toArray, List.getElem_cons_zero, List.getElem_cons_succ, List.setIfInBounds_toArray, List.set_cons_zero, List.set_cons_succ]
                clear n0 n1 n2
                have hN := Lib.hid (Blk.below (by exact hN.out) hb (by exact hN.out.lt))
                clear hb
                refine wpAnyH_take (i := 11) (v := ?v11n43) rfl (by kernel_rfl) (by kernel_rfl) (by kernel_rfl) (fun _ _ _ h => h) (Or.inl ⟨by rfl, ?hy11n43⟩) (by assumption) ?_
                case hy11n43 => (intro w hSw; (try dsimp only at hSw); go_simp; (try with_reducible rfl))
                try simp only [Act.put, List.getElem_toArray, List.getElem_cons_zero, List.getElem_cons_succ, List.setIfInBounds_toArray, List.set_cons_zero, List.set_cons_succ]
                refine wpAnyH_take (i := 12) (v := ?v12n44) rfl (by kernel_rfl) (by kernel_rfl) (by kernel_rfl) (fun _ _ _ h => h) (Or.inl ⟨by rfl, ?hy12n44⟩) (by assumption) ?_
                case hy12n44 => (intro w hSw; (try dsimp only at hSw); go_simp; (try with_reducible rfl))
                try simp only [Act.put, List.getElem_toArray, List.getElem_cons_zero, List.getElem_cons_succ, List.setIfInBounds_toArray, List.set_cons_zero, List.set_cons_succ]
                refine wpAnyH_take (i := 13) (v := ?v13n45) rfl (by kernel_rfl) (by kernel_rfl) (by kernel_rfl) (fun _ _ _ h => h) (Or.inl ⟨by rfl, ?hy13n45⟩) (by assumption) ?_
                case hy13n45 => (intro w hSw; (try dsimp only at hSw); go_simp; (try with_reducible rfl))
                try simp only [Act.put, List.getElem_toArray, List.getElem_cons_zero, List.getElem_cons_succ, List.setIfInBounds_toArray, List.set_cons_zero, List.set_cons_succ]
                refine wpAnyH_ready (rs := [14]) (by kernel_rfl) (by simp) ?_
                refine AllReadyH.cons rfl (fun K hK => ?_) AllReadyH.nil
                rw [if_pos (by rfl)]
                refine wp_store_row 43 (.tmp 8) (.tmp 62) (by rfl) k #[.int .i64 v'.y, .int .i64 v'.m, .int .i64 v'.d, .int .i64 v'.h, .int .i64 v'.i, .int .i64 v'.s] (by rfl) (by rfl) 43 #[.int .i64 v.y, .int .i64 v.m, .int .i64 v.d, .int .i64 v.h, .int .i64 v.i, .int .i64 v.s] (by exact hN.out) (by kernel_rfl) rfl (cells_all v') ?_
                refine hK.out _ _ ?_ (fun hHeld2 => ?_)
                · exact s7 (s1_row hHeld.2.2.2.2.2.2.2 (by omega) (by omega) _)
                clear hK K hHeld
                have hHeld := hHeld2
                clear hHeld2
                try simp only [Act.put, List.getElem_toArray, List.getElem_cons_zero, List.getElem_cons_succ]
                refine wpAnyH_take (i := 15) (v := ?v15n46) rfl (by kernel_rfl) (by kernel_rfl) (by kernel_rfl) (fun _ _ _ h => h) (Or.inl ⟨by rfl, ?hy15n46⟩) (by assumption) ?_
                case hy15n46 => (intro w hSw; (try dsimp only at hSw); go_simp; (try with_reducible rfl))
                try simp only [Act.put, List.getElem_toArray, List.getElem_cons_zero, List.getElem_cons_succ, List.setIfInBounds_toArray, List.set_cons_zero, List.set_cons_succ]
                refine wpAnyH_done (by kernel_rfl) ?_ _
                have HFI := Lib.hid (hHeld.2.2.2.2.2.2.2)
                have HRW := Lib.hid (hN.out.row #[.int .i64 v'.y, .int .i64 v'.m, .int .i64 v'.d, .int .i64 v'.h, .int .i64 v'.i, .int .i64 v'.s])
                have HAI := Lib.hid hA
                clear hHeld hA
                have HXN := Lib.hid (NxtIs.next HMM.out hX.out HNO.out HAI.out)
                have HFR := Lib.hid (loopFar_lt (v := v) (v' := v') (ok := ok') hNr.out HRW.out (fun e => NxtIs.far HMM.out hX.out (by rw [← e]; exact HAI.out)))
                go_wp2_with fail
                go_roundw
                case rel => exact ⟨ok', v', rfl, HXN, HRW, HFI.out.1, HFI.out.2⟩
                case measure => exact HFR.out
            · go_simp
              refine hK.out _ _ ?_ (fun hHeld2 => ?_)
              · exact s7 hHeld.2.2.2.2.2.2.2
              clear hK K hHeld
              have hHeld := hHeld2
              clear hHeld2
              try simp only [Act.put, List.getElem_toArray, List.getElem_cons_zero, List.getElem_cons_succ, List.setIfInBounds_toArray, List.set_cons_zero, List.set_cons_succ]
              refine wpAnyH_take (i := 8) (v := ?v8n47) rfl (by kernel_rfl) (by kernel_rfl) (by kernel_rfl) (fun _ _ _ h => h) (Or.inl ⟨by rfl, ?hy8n47⟩) (by assumption) ?_
              case hy8n47 => (intro w hSw; (try dsimp only at hSw); go_simp; (try with_reducible rfl))
              try simp only [Act.put, List.getElem_toArray, List.getElem_cons_zero, List.getElem_cons_succ, List.setIfInBounds_toArray, List.set_cons_zero, List.set_cons_succ]
              refine wpAnyH_ready (rs := [3, 5]) (by kernel_rfl) (by simp) ?_
              refine AllReadyH.cons rfl (fun K hK => ?_) (AllReadyH.cons rfl (fun K hK => ?_) AllReadyH.nil)
              · go_simp
                refine hK.out _ _ ?_ (fun hHeld2 => ?_)
                · exact s7 hHeld.2.2.2.2.2.2.2
                clear hK K hHeld
                have hHeld := hHeld2
                clear hHeld2
                try simp only [Act.put, List.getElem_toArray, List.getElem_cons_zero, List.getElem_cons_succ, List.setIfInBounds_toArray, List.set_cons_zero, List.set_cons_succ]
                refine wpAnyH_ready (rs := [5]) (by kernel_rfl) (by simp) ?_
                refine AllReadyH.cons rfl (fun K hK => ?_) AllReadyH.nil
                go_simp
                refine hK.out _ _ ?_ (fun hHeld2 => ?_)
                · exact s7 hHeld.2.2.2.2.2.2.2
                clear hK K hHeld
                have hHeld := hHeld2
                clear hHeld2
                try simp only [Act.put, List.getElem_toArray, List.getElem_cons_zero, List.getElem_cons_succ, List.setIfInBounds_toArray, List.set_cons_zero, List.set_cons_succ]
                refine wpAnyH_take (i := 9) (v := ?v9n48) rfl (by kernel_rfl) (by kernel_rfl) (by kernel_rfl) (fun _ _ _ h => h) (Or.inl ⟨by rfl, ?hy9n48⟩) (by assumption) ?_
                case hy9n48 => (intro w hSw; (try dsimp only at hSw); go_simp; (try with_reducible rfl))
                try simp only [Act.put, List.getElem_toArray, List.getElem_cons_zero, List.getElem_cons_succ, List.setIfInBounds_toArray, List.set_cons_zero, List.set_cons_succ]
                refine wpAnyH_ready (rs := [10]) (by kernel_rfl) (by simp) ?_
                refine AllReadyH.cons rfl (fun K hK => ?_) AllReadyH.nil
                go_simp
                rw [HWR.out]
                (refine (HAT.out _ (HT.out.below (hHeld.2.2.2.2.2.2.2).2) (HC.out.at_ (hHeld.2.2.2.2.2.2.2).2)).mono ?_; rintro e w7 ⟨v', ok', rfl, hA, hb⟩)
                refine hK.out _ _ ?_ (fun hHeld2 => ?_)
                · exact s7 (s1_call hHeld.2.2.2.2.2.2.2 hb)
                clear hK K hHeld
                have hHeld := hHeld2
                clear hHeld2
                try simp only [Act.put, List.getElem_toArray, List.getElem_cons_zero, List.getElem_cons_succ, List.setIfInBounds_toArray, List.set_cons_zero, List.set_cons_succ]
                clear n0 n1 n2
                have hN := Lib.hid (Blk.below (by exact hN.out) hb (by exact hN.out.lt))
                clear hb
                refine wpAnyH_take (i := 11) (v := ?v11n49) rfl (by kernel_rfl) (by kernel_rfl) (by kernel_rfl) (fun _ _ _ h => h) (Or.inl ⟨by rfl, ?hy11n49⟩) (by assumption) ?_
                case hy11n49 => (intro w hSw; (try dsimp only at hSw); go_simp; (try with_reducible rfl))
                try simp only [Act.put, List.getElem_toArray, List.getElem_cons_zero, List.getElem_cons_succ, List.setIfInBounds_toArray, List.set_cons_zero, List.set_cons_succ]
                refine wpAnyH_take (i := 12) (v := ?v12n50) rfl (by kernel_rfl) (by kernel_rfl) (by kernel_rfl) (fun _ _ _ h => h) (Or.inl ⟨by rfl, ?hy12n50⟩) (by assumption) ?_
                case hy12n50 => (intro w hSw; (try dsimp only at hSw); go_simp; (try with_reducible rfl))
                try simp only [Act.put, List.getElem_toArray, List.getElem_cons_zero, List.getElem_cons_succ, List.setIfInBounds_toArray, List.set_cons_zero, List.set_cons_succ]
                refine wpAnyH_take (i := 13) (v := ?v13n51) rfl (by kernel_rfl) (by kernel_rfl) (by kernel_rfl) (fun _ _ _ h => h) (Or.inl ⟨by rfl, ?hy13n51⟩) (by assumption) ?_
                case hy13n51 => (intro w hSw; (try dsimp only at hSw); go_simp; (try with_reducible rfl))
                try simp only [Act.put, List.getElem_toArray, List.getElem_cons_zero, List.getElem_cons_succ, List.setIfInBounds_toArray, List.set_cons_zero, List.set_cons_succ]
                refine wpAnyH_ready (rs := [14]) (by kernel_rfl) (by simp) ?_
                refine AllReadyH.cons rfl (fun K hK => ?_) AllReadyH.nil
                rw [if_pos (by rfl)]
                refine wp_store_row 43 (.tmp 8) (.tmp 62) (by rfl) k #[.int .i64 v'.y, .int .i64 v'.m, .int .i64 v'.d, .int .i64 v'.h, .int .i64 v'.i, .int .i64 v'.s] (by rfl) (by rfl) 43 #[.int .i64 v.y, .int .i64 v.m, .int .i64 v.d, .int .i64 v.h, .int .i64 v.i, .int .i64 v.s] (by exact hN.out) (by kernel_rfl) rfl (cells_all v') ?_
                refine hK.out _ _ ?_ (fun hHeld2 => ?_)
                · exact s7 (s1_row hHeld.2.2.2.2.2.2.2 (by omega) (by omega) _)
                clear hK K hHeld
                have hHeld := hHeld2
                clear hHeld2
                try simp only [Act.put, List.getElem_toArray, List.getElem_cons_zero, List.getElem_cons_succ]
                refine wpAnyH_take (i := 15) (v := ?v15n52) rfl (by kernel_rfl) (by kernel_rfl) (by kernel_rfl) (fun _ _ _ h => h) (Or.inl ⟨by rfl, ?hy15n52⟩) (by assumption) ?_
                case hy15n52 => (intro w hSw; (try dsimp only at hSw); go_simp; (try with_reducible rfl))
                try simp only [Act.put, List.getElem_toArray, List.getElem_cons_zero, List.getElem_cons_succ, List.setIfInBounds_toArray, List.set_cons_zero, List.set_cons_succ]
                refine wpAnyH_done (by kernel_rfl) ?_ _
                have HFI := Lib.hid (hHeld.2.2.2.2.2.2.2)
                have HRW := Lib.hid (hN.out.row #[.int .i64 v'.y, .int .i64 v'.m, .int .i64 v'.d, .int .i64 v'.h, .int .i64 v'.i, .int .i64 v'.s])
                have HAI := Lib.hid hA
                clear hHeld hA
                have HXN := Lib.hid (NxtIs.next HMM.out hX.out HNO.out HAI.out)
                have HFR := Lib.hid (loopFar_lt (v := v) (v' := v') (ok := ok') hNr.out HRW.out (fun e => NxtIs.far HMM.out hX.out (by rw [← e]; exact HAI.out)))
                go_wp2_with fail
                go_roundw
                case rel => exact ⟨ok', v', rfl, HXN, HRW, HFI.out.1, HFI.out.2⟩
                case measure => exact HFR.out
              · go_simp
                refine hK.out _ _ ?_ (fun hHeld2 => ?_)
                · exact s7 hHeld.2.2.2.2.2.2.2
                clear hK K hHeld
                have hHeld := hHeld2
                clear hHeld2
                try simp only [Act.put, List.getElem_toArray, List.getElem_cons_zero, List.getElem_cons_succ, List.setIfInBounds_toArray, List.set_cons_zero, List.set_cons_succ]
                refine wpAnyH_ready (rs := [3]) (by kernel_rfl) (by simp) ?_
                refine AllReadyH.cons rfl (fun K hK => ?_) AllReadyH.nil
                go_simp
                refine hK.out _ _ ?_ (fun hHeld2 => ?_)
                · exact s7 hHeld.2.2.2.2.2.2.2
                clear hK K hHeld
                have hHeld := hHeld2
                clear hHeld2
                try simp only [Act.put, List.getElem_toArray, List.getElem_cons_zero, List.getElem_cons_succ, List.setIfInBounds_toArray, List.set_cons_zero, List.set_cons_succ]
                refine wpAnyH_take (i := 9) (v := ?v9n53) rfl (by kernel_rfl) (by kernel_rfl) (by kernel_rfl) (fun _ _ _ h => h) (Or.inl ⟨by rfl, ?hy9n53⟩) (by assumption) ?_
                case hy9n53 => (intro w hSw; (try dsimp only at hSw); go_simp; (try with_reducible rfl))
                try simp only [Act.put, List.getElem_toArray, List.getElem_cons_zero, List.getElem_cons_succ, List.setIfInBounds_toArray, List.set_cons_zero, List.set_cons_succ]
                refine wpAnyH_ready (rs := [10]) (by kernel_rfl) (by simp) ?_
                refine AllReadyH.cons rfl (fun K hK => ?_) AllReadyH.nil
                go_simp
                rw [HWR.out]
                (refine (HAT.out _ (HT.out.below (hHeld.2.2.2.2.2.2.2).2) (HC.out.at_ (hHeld.2.2.2.2.2.2.2).2)).mono ?_; rintro e w7 ⟨v', ok', rfl, hA, hb⟩)
                refine hK.out _ _ ?_ (fun hHeld2 => ?_)
                · exact s7 (s1_call hHeld.2.2.2.2.2.2.2 hb)
                clear hK K hHeld
                have hHeld := hHeld2
                clear hHeld2
                try simp only [Act.put, List.getElem_toArray, List.getElem_cons_zero, List.getElem_cons_succ, List.setIfInBounds_toArray, List.set_cons_zero, List.set_cons_succ]
                clear n0 n1 n2
                have hN := Lib.hid (Blk.below (by exact hN.out) hb (by exact hN.out.lt))
                clear hb
                refine wpAnyH_take (i := 11) (v := ?v11n54) rfl (by kernel_rfl) (by kernel_rfl) (by kernel_rfl) (fun _ _ _ h => h) (Or.inl ⟨by rfl, ?hy11n54⟩) (by assumption) ?_
                case hy11n54 => (intro w hSw; (try dsimp only at hSw); go_simp; (try with_reducible rfl))
                try simp only [Act.put, List.getElem_toArray, List.getElem_cons_zero, List.getElem_cons_succ, List.setIfInBounds_toArray, List.set_cons_zero, List.set_cons_succ]
                refine wpAnyH_take (i := 12) (v := ?v12n55) rfl (by kernel_rfl) (by kernel_rfl) (by kernel_rfl) (fun _ _ _ h => h) (Or.inl ⟨by rfl, ?hy12n55⟩) (by assumption) ?_
                case hy12n55 => (intro w hSw; (try dsimp only at hSw); go_simp; (try with_reducible rfl))
                try simp only [Act.put, List.getElem_toArray, List.getElem_cons_zero, List.getElem_cons_succ, List.setIfInBounds_toArray, List.set_cons_zero, List.set_cons_succ]
                refine wpAnyH_take (i := 13) (v := ?v13n56) rfl (by kernel_rfl) (by kernel_rfl) (by kernel_rfl) (fun _ _ _ h => h) (Or.inl ⟨by rfl, ?hy13n56⟩) (by assumption) ?_
                case hy13n56 => (intro w hSw; (try dsimp only at hSw); go_simp; (try with_reducible rfl))
                try simp only [Act.put, List.getElem_toArray, List.getElem_cons_zero, List.getElem_cons_succ, List.setIfInBounds_toArray, List.set_cons_zero, List.set_cons_succ]
                refine wpAnyH_ready (rs := [14]) (by kernel_rfl) (by simp) ?_
                refine AllReadyH.cons rfl (fun K hK => ?_) AllReadyH.nil
                rw [if_pos (by rfl)]
                refine wp_store_row 43 (.tmp 8) (.tmp 62) (by rfl) k #[.int .i64 v'.y, .int .i64 v'.m, .int .i64 v'.d, .int .i64 v'.h, .int .i64 v'.i, .int .i64 v'.s] (by rfl) (by rfl) 43 #[.int .i64 v.y, .int .i64 v.m, .int .i64 v.d, .int .i64 v.h, .int .i64 v.i, .int .i64 v.s] (by exact hN.out) (by kernel_rfl) rfl (cells_all v') ?_
                refine hK.out _ _ ?_ (fun hHeld2 => ?_)
                · exact s7 (s1_row hHeld.2.2.2.2.2.2.2 (by omega) (by omega) _)
                clear hK K hHeld
                have hHeld := hHeld2
                clear hHeld2
                try simp only [Act.put, List.getElem_toArray, List.getElem_cons_zero, List.getElem_cons_succ]
                refine wpAnyH_take (i := 15) (v := ?v15n57) rfl (by kernel_rfl) (by kernel_rfl) (by kernel_rfl) (fun _ _ _ h => h) (Or.inl ⟨by rfl, ?hy15n57⟩) (by assumption) ?_
                case hy15n57 => (intro w hSw; (try dsimp only at hSw); go_simp; (try with_reducible rfl))
                try simp only [Act.put, List.getElem_toArray, List.getElem_cons_zero, List.getElem_cons_succ, List.setIfInBounds_toArray, List.set_cons_zero, List.set_cons_succ]
                refine wpAnyH_done (by kernel_rfl) ?_ _
                have HFI := Lib.hid (hHeld.2.2.2.2.2.2.2)
                have HRW := Lib.hid (hN.out.row #[.int .i64 v'.y, .int .i64 v'.m, .int .i64 v'.d, .int .i64 v'.h, .int .i64 v'.i, .int .i64 v'.s])
                have HAI := Lib.hid hA
                clear hHeld hA
                have HXN := Lib.hid (NxtIs.next HMM.out hX.out HNO.out HAI.out)
                have HFR := Lib.hid (loopFar_lt (v := v) (v' := v') (ok := ok') hNr.out HRW.out (fun e => NxtIs.far HMM.out hX.out (by rw [← e]; exact HAI.out)))
                go_wp2_with fail
                go_roundw
                case rel => exact ⟨ok', v', rfl, HXN, HRW, HFI.out.1, HFI.out.2⟩
                case measure => exact HFR.out
          · go_simp
            refine hK.out _ _ ?_ (fun hHeld2 => ?_)
            · exact s7 hHeld.2.2.2.2.2.2.2
            clear hK K hHeld
            have hHeld := hHeld2
            clear hHeld2
            try simp only [Act.put, List.getElem_toArray, List.getElem_cons_zero, List.getElem_cons_succ, List.setIfInBounds_toArray, List.set_cons_zero, List.set_cons_succ]
            refine wpAnyH_ready (rs := [1, 5, 7]) (by kernel_rfl) (by simp) ?_
            refine AllReadyH.cons rfl (fun K hK => ?_) (AllReadyH.cons rfl (fun K hK => ?_) (AllReadyH.cons rfl (fun K hK => ?_) AllReadyH.nil))
            · go_simp
              (refine (HLi.out _).mono ?_; rintro e w6 ⟨rfl, hb⟩)
              refine hK.out _ _ ?_ (fun hHeld2 => ?_)
              · exact s7 (s1_call hHeld.2.2.2.2.2.2.2 hb)
              clear hK K hHeld
              have hHeld := hHeld2
              clear hHeld2
              try simp only [Act.put, List.getElem_toArray, List.getElem_cons_zero, List.getElem_cons_succ, List.setIfInBounds_toArray, List.set_cons_zero, List.set_cons_succ]
              clear n0 n1 n2
              have hN := Lib.hid (Blk.below (by exact hN.out) hb (by exact hN.out.lt))
              obtain ⟨n0, n1, n2⟩ := num3 hN.out
              clear hb
              refine wpAnyH_ready (rs := [5, 7]) (by kernel_rfl) (by simp) ?_
              refine AllReadyH.cons rfl (fun K hK => ?_) (AllReadyH.cons rfl (fun K hK => ?_) AllReadyH.nil)
              · go_simp
                refine hK.out _ _ ?_ (fun hHeld2 => ?_)
                · exact s7 hHeld.2.2.2.2.2.2.2
                clear hK K hHeld
                have hHeld := hHeld2
                clear hHeld2
                try simp only [Act.put, List.getElem_toArray, List.getElem_cons_zero, List.getElem_cons_succ, List.setIfInBounds_toArray, List.set_cons_zero, List.set_cons_succ]
                refine wpAnyH_ready (rs := [7]) (by kernel_rfl) (by simp) ?_
                refine AllReadyH.cons rfl (fun K hK => ?_) AllReadyH.nil
                go_simp
                refine hK.out _ _ ?_ (fun hHeld2 => ?_)
                · exact s7 hHeld.2.2.2.2.2.2.2
                clear hK K hHeld
                have hHeld := hHeld2
                clear hHeld2
                try simp only [Act.put, List.getElem_toArray, List.getElem_cons_zero, List.getElem_cons_succ, List.setIfInBounds_toArray, List.set_cons_zero, List.set_cons_succ]
                refine wpAnyH_take (i := 8) (v := ?v8n58) rfl (by kernel_rfl) (by kernel_rfl) (by kernel_rfl) (fun _ _ _ h => h) (Or.inl ⟨by rfl, ?hy8n58⟩) (by assumption) ?_
                case hy8n58 => (intro w hSw; (try dsimp only at hSw); go_simp; (try with_reducible rfl))
                try simp only [Act.put, List.getElem_toArray, List.getElem_cons_zero, List.getElem_cons_succ, List.setIfInBounds_toArray, List.set_cons_zero, List.set_cons_succ]
                refine wpAnyH_take (i := 9) (v := ?v9n59) rfl (by kernel_rfl) (by kernel_rfl) (by kernel_rfl) (fun _ _ _ h => h) (Or.inl ⟨by rfl, ?hy9n59⟩) (by assumption) ?_
                case hy9n59 => (intro w hSw; (try dsimp only at hSw); go_simp; (try with_reducible rfl))
                try simp only [Act.put, List.getElem_toArray, List.getElem_cons_zero, List.getElem_cons_succ, List.setIfInBounds_toArray, List.set_cons_zero, List.set_cons_succ]
                refine wpAnyH_ready (rs := [10]) (by kernel_rfl) (by simp) ?_
                refine AllReadyH.cons rfl (fun K hK => ?_) AllReadyH.nil
                go_simp
                rw [HWR.out]
                (refine (HAT.out _ (HT.out.below (hHeld.2.2.2.2.2.2.2).2) (HC.out.at_ (hHeld.2.2.2.2.2.2.2).2)).mono ?_; rintro e w7 ⟨v', ok', rfl, hA, hb⟩)
                refine hK.out _ _ ?_ (fun hHeld2 => ?_)
                · exact s7 (s1_call hHeld.2.2.2.2.2.2.2 hb)
                clear hK K hHeld
                have hHeld := hHeld2
                clear hHeld2
                try simp only [Act.put, List.getElem_toArray, List.getElem_cons_zero, List.getElem_cons_succ, List.setIfInBounds_toArray, List.set_cons_zero, List.set_cons_succ]
                clear n0 n1 n2
                have hN := Lib.hid (Blk.below (by exact hN.out) hb (by exact hN.out.lt))
                clear hb
                refine wpAnyH_take (i := 11) (v := ?v11n60) rfl (by kernel_rfl) (by kernel_rfl) (by kernel_rfl) (fun _ _ _ h => h) (Or.inl ⟨by rfl, ?hy11n60⟩) (by assumption) ?_
                case hy11n60 => (intro w hSw; (try dsimp only at hSw); go_simp; (try with_reducible rfl))
                try simp only [Act.put, List.getElem_toArray, List.getElem_cons_zero, List.getElem_cons_succ, List.setIfInBounds_toArray, List.set_cons_zero, List.set_cons_succ]
                refine wpAnyH_take (i := 12) (v := ?v12n61) rfl (by kernel_rfl) (by kernel_rfl) (by kernel_rfl) (fun _ _ _ h => h) (Or.inl ⟨by rfl, ?hy12n61⟩) (by assumption) ?_
                case hy12n61 => (intro w hSw; (try dsimp only at hSw); go_simp; (try with_reducible rfl))
                try simp only [Act.put, List.getElem_toArray, List.getElem_cons_zero, List.getElem_cons_succ, List.setIfInBounds_toArray, List.set_cons_zero, List.set_cons_succ]
                refine wpAnyH_take (i := 13) (v := ?v13n62) rfl (by kernel_rfl) (by kernel_rfl) (by kernel_rfl) (fun _ _ _ h => h) (Or.inl ⟨by rfl, ?hy13n62⟩) (by assumption) ?_
                case hy13n62 => (intro w hSw; (try dsimp only at hSw); go_simp; (try with_reducible rfl))
                try simp only [Act.put, List.getElem_toArray, List.getElem_cons_zero, List.getElem_cons_succ, List.setIfInBounds_toArray, List.set_cons_zero, List.set_cons_succ]
                refine wpAnyH_ready (rs := [14]) (by kernel_rfl) (by simp) ?_
                refine AllReadyH.cons rfl (fun K hK => ?_) AllReadyH.nil
                rw [if_pos (by rfl)]
                refine wp_store_row 43 (.tmp 8) (.tmp 62) (by rfl) k #[.int .i64 v'.y, .int .i64 v'.m, .int .i64 v'.d, .int .i64 v'.h, .int .i64 v'.i, .int .i64 v'.s] (by rfl) (by rfl) 43 #[.int .i64 v.y, .int .i64 v.m, .int .i64 v.d, .int .i64 v.h, .int .i64 v.i, .int .i64 v.s] (by exact hN.out) (by kernel_rfl) rfl (cells_all v') ?_
                refine hK.out _ _ ?_ (fun hHeld2 => ?_)
                · exact s7 (s1_row hHeld.2.2.2.2.2.2.2 (by omega) (by omega) _)
                clear hK K hHeld
                have hHeld := hHeld2
                clear hHeld2
                try simp only [Act.put, List.getElem_toArray, List.getElem_cons_zero, List.getElem_cons_succ]
                refine wpAnyH_take (i := 15) (v := ?v15n63) rfl (by kernel_rfl) (by kernel_rfl) (by kernel_rfl) (fun _ _ _ h => h) (Or.inl ⟨by rfl, ?hy15n63⟩) (by assumption) ?_
                case hy15n63 => (intro w hSw; (try dsimp only at hSw); go_simp; (try with_reducible rfl))
                try simp only [Act.put, List.getElem_toArray, List.getElem_cons_zero, List.getElem_cons_succ, List.setIfInBounds_toArray, List.set_cons_zero, List.set_cons_succ]
                refine wpAnyH_done (by kernel_rfl) ?_ _
                have HFI := Lib.hid (hHeld.2.2.2.2.2.2.2)
                have HRW := Lib.hid (hN.out.row #[.int .i64 v'.y, .int .i64 v'.m, .int .i64 v'.d, .int .i64 v'.h, .int .i64 v'.i, .int .i64 v'.s])
                have HAI := Lib.hid hA
                clear hHeld hA
                have HXN := Lib.hid (NxtIs.next HMM.out hX.out HNO.out HAI.out)
                have HFR := Lib.hid (loopFar_lt (v := v) (v' := v') (ok := ok') hNr.out HRW.out (fun e => NxtIs.far HMM.out hX.out (by rw [← e]; exact HAI.out)))
                go_wp2_with fail
                go_roundw
                case rel => exact ⟨ok', v', rfl, HXN, HRW, HFI.out.1, HFI.out.2⟩
                case measure => exact HFR.out
              · go_simp
                refine hK.out _ _ ?_ (fun hHeld2 => ?_)
                · exact s7 hHeld.2.2.2.2.2.2.2
                clear hK K hHeld
                have hHeld := hHeld2
                clear hHeld2
                try simp only [Act.put, List.getElem_toArray, List.getElem_cons_zero, List.getElem_cons_succ, List.setIfInBounds_toArray, List.set_cons_zero, List.set_cons_succ]
                refine wpAnyH_take (i := 8) (v := ?v8n64) rfl (by kernel_rfl) (by kernel_rfl) (by kernel_rfl) (fun _ _ _ h => h) (Or.inl ⟨by rfl, ?hy8n64⟩) (by assumption) ?_
                case hy8n64 => (intro w hSw; (try dsimp only at hSw); go_simp; (try with_reducible rfl))
                try simp only [Act.put, List.getElem_toArray, List.getElem_cons_zero, List.getElem_cons_succ, List.setIfInBounds_toArray, List.set_cons_zero, List.set_cons_succ]
                refine wpAnyH_ready (rs := [5]) (by kernel_rfl) (by simp) ?_
                refine AllReadyH.cons rfl (fun K hK => ?_) AllReadyH.nil
                go_simp
                refine hK.out _ _ ?_ (fun hHeld2 => ?_)
                · exact s7 hHeld.2.2.2.2.2.2.2
                clear hK K hHeld
                have hHeld := hHeld2
                clear hHeld2
                try simp only [Act.put, List.getElem_toArray, List.getElem_cons_zero, List.getElem_cons_succ, List.setIfInBounds_toArray, List.set_cons_zero, List.set_cons_succ]
                refine wpAnyH_take (i := 9) (v := ?v9n65) rfl (by kernel_rfl) (by kernel_rfl) (by kernel_rfl) (fun _ _ _ h => h) (Or.inl ⟨by rfl, ?hy9n65⟩) (by assumption) ?_
                case hy9n65 => (intro w hSw; (try dsimp only at hSw); go_simp; (try with_reducible rfl))
                try simp only [Act.put, List.getElem_toArray, List.getElem_cons_zero, List.getElem_cons_succ, List.setIfInBounds_toArray, List.set_cons_zero, List.set_cons_succ]
                refine wpAnyH_ready (rs := [10]) (by kernel_rfl) (by simp) ?_
                refine AllReadyH.cons rfl (fun K hK => ?_) AllReadyH.nil
                go_simp
                rw [HWR.out]
                (refine (HAT.out _ (HT.out.below (hHeld.2.2.2.2.2.2.2).2) (HC.out.at_ (hHeld.2.2.2.2.2.2.2).2)).mono ?_; rintro e w7 ⟨v', ok', rfl, hA, hb⟩)
                refine hK.out _ _ ?_ (fun hHeld2 => ?_)
                · exact s7 (s1_call hHeld.2.2.2.2.2.2.2 hb)
                clear hK K hHeld
                have hHeld := hHeld2
                clear hHeld2
                try simp only [Act.put, List.getElem_toArray, List.getElem_cons_zero, List.getElem_cons_succ, List.setIfInBounds_toArray, List.set_cons_zero, List.set_cons_succ]
                clear n0 n1 n2
                have hN := Lib.hid (Blk.below (by exact hN.out) hb (by exact hN.out.lt))
                clear hb
                refine wpAnyH_take (i := 11) (v := ?v11n66) rfl (by kernel_rfl) (by kernel_rfl) (by kernel_rfl) (fun _ _ _ h => h) (Or.inl ⟨by rfl, ?hy11n66⟩) (by assumption) ?_
                case hy11n66 => (intro w hSw; (try dsimp only at hSw); go_simp; (try with_reducible rfl))
                try simp only [Act.put, List.getElem_toArray, List.getElem_cons_zero, List.getElem_cons_succ, List.setIfInBounds_toArray, List.set_cons_zero, List.set_cons_succ]
                refine wpAnyH_take (i := 12) (v := ?v12n67) rfl (by kernel_rfl) (by kernel_rfl) (by kernel_rfl) (fun _ _ _ h => h) (Or.inl ⟨by rfl, ?hy12n67⟩) (by assumption) ?_
                case hy12n67 => (intro w hSw; (try dsimp only at hSw); go_simp; (try with_reducible rfl))
                try simp only [Act.put, List.getElem_toArray, List.getElem_cons_zero, List.getElem_cons_succ, List.setIfInBounds_toArray, List.set_cons_zero, List.set_cons_succ]
                refine wpAnyH_take (i := 13) (v := ?v13n68) rfl (by kernel_rfl) (by kernel_rfl) (by kernel_rfl) (fun _ _ _ h => h) (Or.inl ⟨by rfl, ?hy13n68⟩) (by assumption) ?_
                case hy13n68 => (intro w hSw; (try dsimp only at hSw); go_simp; (try with_reducible rfl))
                try simp only [Act.put, List.getElem_toArray, List.getElem_cons_zero, List.getElem_cons_succ, List.setIfInBounds_toArray, List.set_cons_zero, List.set_cons_succ]
                refine wpAnyH_ready (rs := [14]) (by kernel_rfl) (by simp) ?_
                refine AllReadyH.cons rfl (fun K hK => ?_) AllReadyH.nil
                rw [if_pos (by rfl)]
                refine wp_store_row 43 (.tmp 8) (.tmp 62) (by rfl) k #[.int .i64 v'.y, .int .i64 v'.m, .int .i64 v'.d, .int .i64 v'.h, .int .i64 v'.i, .int .i64 v'.s] (by rfl) (by rfl) 43 #[.int .i64 v.y, .int .i64 v.m, .int .i64 v.d, .int .i64 v.h, .int .i64 v.i, .int .i64 v.s] (by exact hN.out) (by kernel_rfl) rfl (cells_all v') ?_
                refine hK.out _ _ ?_ (fun hHeld2 => ?_)
                · exact s7 (s1_row hHeld.2.2.2.2.2.2.2 (by omega) (by omega) _)
                clear hK K hHeld
                have hHeld := hHeld2
                clear hHeld2
                try simp only [Act.put, List.getElem_toArray, List.getElem_cons_zero, List.getElem_cons_succ]
                refine wpAnyH_take (i := 15) (v := ?v15n69) rfl (by kernel_rfl) (by kernel_rfl) (by kernel_rfl) (fun _ _ _ h => h) (Or.inl ⟨by rfl, ?hy15n69⟩) (by assumption) ?_
                case hy15n69 => (intro w hSw; (try dsimp only at hSw); go_simp; (try with_reducible rfl))
                try simp only [Act.put, List.getElem_toArray, List.getElem_cons_zero, List.getElem_cons_succ, List.setIfInBounds_toArray, List.set_cons_zero, List.set_cons_succ]
                refine wpAnyH_done (by kernel_rfl) ?_ _
                have HFI := Lib.hid (hHeld.2.2.2.2.2.2.2)
                have HRW := Lib.hid (hN.out.row #[.int .i64 v'.y, .int .i64 v'.m, .int .i64 v'.d, .int .i64 v'.h, .int .i64 v'.i, .int .i64 v'.s])
                have HAI := Lib.hid hA
                clear hHeld hA
                have HXN := Lib.hid (NxtIs.next HMM.out hX.out HNO.out HAI.out)
                have HFR := Lib.hid (loopFar_lt (v := v) (v' := v') (ok := ok') hNr.out HRW.out (fun e => NxtIs.far HMM.out hX.out (by rw [← e]; exact HAI.out)))
                go_wp2_with fail
                go_roundw
                case rel => exact ⟨ok', v', rfl, HXN, HRW, HFI.out.1, HFI.out.2⟩
                case measure => exact HFR.out
            · go_simp
              refine hK.out _ _ ?_ (fun hHeld2 => ?_)
              · exact s7 hHeld.2.2.2.2.2.2.2
              clear hK K hHeld
              have hHeld := hHeld2
              clear hHeld2
              try simp only [Act.put, List.getElem_toArray, List.getElem_cons_zero, List.getElem_cons_succ, List.setIfInBounds_toArray, List.set_cons_zero, List.set_cons_succ]
              refine wpAnyH_ready (rs := [1, 7]) (by kernel_rfl) (by simp) ?_
              refine AllReadyH.cons rfl (fun K hK => ?_) (AllReadyH.cons rfl (fun K hK => ?_) AllReadyH.nil)
              · go_simp
                (refine (HLi.out _).mono ?_; rintro e w6 ⟨rfl, hb⟩)
                refine hK.out _ _ ?_ (fun hHeld2 => ?_)
                · exact s7 (s1_call hHeld.2.2.2.2.2.2.2 hb)
                clear hK K hHeld
                have hHeld := hHeld2
                clear hHeld2
                try simp only [Act.put, List.getElem_toArray, List.getElem_cons_zero, List.getElem_cons_succ, List.setIfInBounds_toArray, List.set_cons_zero, List.set_cons_succ]
                clear n0 n1 n2
                have hN := Lib.hid (Blk.below (by exact hN.out) hb (by exact hN.out.lt))
                obtain ⟨n0, n1, n2⟩ := num3 hN.out
                clear hb
                refine wpAnyH_ready (rs := [7]) (by kernel_rfl) (by simp) ?_
                refine AllReadyH.cons rfl (fun K hK => ?_) AllReadyH.nil
                go_simp
                refine hK.out _ _ ?_ (fun hHeld2 => ?_)
                · exact s7 hHeld.2.2.2.2.2.2.2
                clear hK K hHeld
                have hHeld := hHeld2
                clear hHeld2
                try simp only [Act.put, List.getElem_toArray, List.getElem_cons_zero, List.getElem_cons_succ, List.setIfInBounds_toArray, List.set_cons_zero, List.set_cons_succ]
                refine wpAnyH_take (i := 8) (v := ?v8n70) rfl (by kernel_rfl) (by kernel_rfl) (by kernel_rfl) (fun _ _ _ h => h) (Or.inl ⟨by rfl, ?hy8n70⟩) (by assumption) ?_
                case hy8n70 => (intro w hSw; (try dsimp only at hSw); go_simp; (try with_reducible rfl))
                try simp only [Act.put, List.getElem_toArray, List.getElem_cons_zero, List.getElem_cons_succ, List.setIfInBounds_toArray, List.set_cons_zero, List.set_cons_succ]
                refine wpAnyH_take (i := 9) (v := ?v9n71) rfl (by kernel_rfl) (by kernel_rfl) (by kernel_rfl) (fun _ _ _ h => h) (Or.inl ⟨by rfl, ?hy9n71⟩) (by assumption) ?_
                case hy9n71 => (intro w hSw; (try dsimp only at hSw); go_simp; (try with_reducible rfl))
                try simp only [Act.put, List.getElem_toArray, List.getElem_cons_zero, List.getElem_cons_succ, List.setIfInBounds_toArray, List.set_cons_zero, List.set_cons_succ]
                refine wpAnyH_ready (rs := [10]) (by kernel_rfl) (by simp) ?_
                refine AllReadyH.cons rfl (fun K hK => ?_) AllReadyH.nil
                go_simp
                rw [HWR.out]
                (refine (HAT.out _ (HT.out.below (hHeld.2.2.2.2.2.2.2).2) (HC.out.at_ (hHeld.2.2.2.2.2.2.2).2)).mono ?_; rintro e w7 ⟨v', ok', rfl, hA, hb⟩)
                refine hK.out _ _ ?_ (fun hHeld2 => ?_)
                · exact s7 (s1_call hHeld.2.2.2.2.2.2.2 hb)
                clear hK K hHeld
                have hHeld := hHeld2
                clear hHeld2
                try simp only [Act.put, List.getElem_toArray, List.getElem_cons_zero, List.getElem_cons_succ, List.setIfInBounds_toArray, List.set_cons_zero, List.set_cons_succ]
                clear n0 n1 n2
                have hN := Lib.hid (Blk.below (by exact hN.out) hb (by exact hN.out.lt))
                clear hb
                refine wpAnyH_take (i := 11) (v := ?v11n72) rfl (by kernel_rfl) (by kernel_rfl) (by kernel_rfl) (fun _ _ _ h => h) (Or.inl ⟨by rfl, ?hy11n72⟩) (by assumption) ?_
                case hy11n72 => (intro w hSw; (try dsimp only at hSw); go_simp; (try with_reducible rfl))
                try simp only [Act.put, List.getElem_toArray, List.getElem_cons_zero, List.getElem_cons_succ, List.setIfInBounds_toArray, List.set_cons_zero, List.set_cons_succ]
                refine wpAnyH_take (i := 12) (v := ?v12n73) rfl (by kernel_rfl) (by kernel_rfl) (by kernel_rfl) (fun _ _ _ h => h) (Or.inl ⟨by rfl, ?hy12n73⟩) (by assumption) ?_
                case hy12n73 => (intro w hSw; (try dsimp only at hSw); go_simp; (try with_reducible rfl))
                try simp only [Act.put, List.getElem_toArray, List.getElem_cons_zero, List.getElem_cons_succ, List.setIfInBounds_toArray, List.set_cons_zero, List.set_cons_succ]
                refine wpAnyH_take (i := 13) (v := ?v13n74) rfl (by kernel_rfl) (by kernel_rfl) (by kernel_rfl) (fun _ _ _ h => h) (Or.inl ⟨by rfl, ?hy13n74⟩) (by assumption) ?_
                case hy13n74 => (intro w hSw; (try dsimp only at hSw); go_simp; (try with_reducible rfl))
                try simp only [Act.put, List.getElem_toArray, List.getElem_cons_zero, List.getElem_cons_succ, List.setIfInBounds_toArray, List.set_cons_zero, List.set_cons_succ]
                refine wpAnyH_ready (rs := [14]) (by kernel_rfl) (by simp) ?_
                refine AllReadyH.cons rfl (fun K hK => ?_) AllReadyH.nil
                rw [if_pos (by rfl)]
                refine wp_store_row 43 (.tmp 8) (.tmp 62) (by rfl) k #[.int .i64 v'.y, .int .i64 v'.m, .int .i64 v'.d, .int .i64 v'.h, .int .i64 v'.i, .int .i64 v'.s] (by rfl) (by rfl) 43 #[.int .i64 v.y, .int .i64 v.m, .int .i64 v.d, .int .i64 v.h, .int .i64 v.i, .int .i64 v.s] (by exact hN.out) (by kernel_rfl) rfl (cells_all v') ?_
                refine hK.out _ _ ?_ (fun hHeld2 => ?_)
                · exact s7 (s1_row hHeld.2.2.2.2.2.2.2 (by omega) (by omega) _)
                clear hK K hHeld
                have hHeld := hHeld2
                clear hHeld2
                try simp only [Act.put, List.getElem_toArray, List.getElem_cons_zero, List.getElem_cons_succ]
                refine wpAnyH_take (i := 15) (v := ?v15n75) rfl (by kernel_rfl) (by kernel_rfl) (by kernel_rfl) (fun _ _ _ h => h) (Or.inl ⟨by rfl, ?hy15n75⟩) (by assumption) ?_
                case hy15n75 => (intro w hSw; (try dsimp only at hSw); go_simp; (try with_reducible rfl))
                try simp only [Act.put, List.getElem_toArray, List.getElem_cons_zero, List.getElem_cons_succ, List.setIfInBounds_toArray, List.set_cons_zero, List.set_cons_succ]
                refine wpAnyH_done (by kernel_rfl) ?_ _
                have HFI := Lib.hid (hHeld.2.2.2.2.2.2.2)
                have HRW := Lib.hid (hN.out.row #[.int .i64 v'.y, .int .i64 v'.m, .int .i64 v'.d, .int .i64 v'.h, .int .i64 v'.i, .int .i64 v'.s])
                have HAI := Lib.hid hA
                clear hHeld hA
                have HXN := Lib.hid (NxtIs.next HMM.out hX.out HNO.out HAI.out)
                have HFR := Lib.hid (loopFar_lt (v := v) (v' := v') (ok := ok') hNr.out HRW.out (fun e => NxtIs.far HMM.out hX.out (by rw [← e]; exact HAI.out)))
                go_wp2_with fail
                go_roundw
                case rel => exact ⟨ok', v', rfl, HXN, HRW, HFI.out.1, HFI.out.2⟩
                case measure => exact HFR.out
              · go_simp
                refine hK.out _ _ ?_ (fun hHeld2 => ?_)
                · exact s7 hHeld.2.2.2.2.2.2.2
                clear hK K hHeld
                have hHeld := hHeld2
                clear hHeld2
                try simp only [Act.put, List.getElem_toArray, List.getElem_cons_zero, List.getElem_cons_succ, List.setIfInBounds_toArray, List.set_cons_zero, List.set_cons_succ]
                refine wpAnyH_take (i := 8) (v := ?v8n76) rfl (by kernel_rfl) (by kernel_rfl) (by kernel_rfl) (fun _ _ _ h => h) (Or.inl ⟨by rfl, ?hy8n76⟩) (by assumption) ?_
                case hy8n76 => (intro w hSw; (try dsimp only at hSw); go_simp; (try with_reducible rfl))
                try simp only [Act.put, List.getElem_toArray, List.getElem_cons_zero, List.getElem_cons_succ, List.setIfInBounds_toArray, List.set_cons_zero, List.set_cons_succ]
                refine wpAnyH_take (i := 9) (v := ?v9n77) rfl (by kernel_rfl) (by kernel_rfl) (by kernel_rfl) (fun _ _ _ h => h) (Or.inl ⟨by rfl, ?hy9n77⟩) (by assumption) ?_
                case hy9n77 => (intro w hSw; (try dsimp only at hSw); go_simp; (try with_reducible rfl))
                try simp only [Act.put, List.getElem_toArray, List.getElem_cons_zero, List.getElem_cons_succ, List.setIfInBounds_toArray, List.set_cons_zero, List.set_cons_succ]
                refine wpAnyH_ready (rs := [1]) (by kernel_rfl) (by simp) ?_
                refine AllReadyH.cons rfl (fun K hK => ?_) AllReadyH.nil
                go_simp
                (refine (HLi.out _).mono ?_; rintro e w6 ⟨rfl, hb⟩)
                refine hK.out _ _ ?_ (fun hHeld2 => ?_)
                · exact s7 (s1_call hHeld.2.2.2.2.2.2.2 hb)
                clear hK K hHeld
                have hHeld := hHeld2
                clear hHeld2
                try simp only [Act.put, List.getElem_toArray, List.getElem_cons_zero, List.getElem_cons_succ, List.setIfInBounds_toArray, List.set_cons_zero, List.set_cons_succ]
                clear n0 n1 n2
                have hN := Lib.hid (Blk.below (by exact hN.out) hb (by exact hN.out.lt))
                obtain ⟨n0, n1, n2⟩ := num3 hN.out
                clear hb
                refine wpAnyH_ready (rs := [10]) (by kernel_rfl) (by simp) ?_
                refine AllReadyH.cons rfl (fun K hK => ?_) AllReadyH.nil
                go_simp
                rw [HWR.out]
                (refine (HAT.out _ (HT.out.below (hHeld.2.2.2.2.2.2.2).2) (HC.out.at_ (hHeld.2.2.2.2.2.2.2).2)).mono ?_; rintro e w7 ⟨v', ok', rfl, hA, hb⟩)
                refine hK.out _ _ ?_ (fun hHeld2 => ?_)
                · exact s7 (s1_call hHeld.2.2.2.2.2.2.2 hb)
                clear hK K hHeld
                have hHeld := hHeld2
                clear hHeld2
                try simp only [Act.put, List.getElem_toArray, List.getElem_cons_zero, List.getElem_cons_succ, List.setIfInBounds_toArray, List.set_cons_zero, List.set_cons_succ]
                clear n0 n1 n2
                have hN := Lib.hid (Blk.below (by exact hN.out) hb (by exact hN.out.lt))
                clear hb
                refine wpAnyH_take (i := 11) (v := ?v11n78) rfl (by kernel_rfl) (by kernel_rfl) (by kernel_rfl) (fun _ _ _ h => h) (Or.inl ⟨by rfl, ?hy11n78⟩) (by assumption) ?_
                case hy11n78 => (intro w hSw; (try dsimp only at hSw); go_simp; (try with_reducible rfl))
                try simp only [Act.put, List.getElem_toArray, List.getElem_cons_zero, List.getElem_cons_succ, List.setIfInBounds_toArray, List.set_cons_zero, List.set_cons_succ]
                refine wpAnyH_take (i := 12) (v := ?v12n79) rfl (by kernel_rfl) (by kernel_rfl) (by kernel_rfl) (fun _ _ _ h => h) (Or.inl ⟨by rfl, ?hy12n79⟩) (by assumption) ?_
                case hy12n79 => (intro w hSw; (try dsimp only at hSw); go_simp; (try with_reducible rfl))
                try simp only [Act.put, List.getElem_toArray, List.getElem_cons_zero, List.getElem_cons_succ, List.setIfInBounds_toArray, List.set_cons_zero, List.set_cons_succ]
                refine wpAnyH_take (i := 13) (v := ?v13n80) rfl (by kernel_rfl) (by kernel_rfl) (by kernel_rfl) (fun _ _ _ h => h) (Or.inl ⟨by rfl, ?hy13n80⟩) (by assumption) ?_
                case hy13n80 => (intro w hSw; (try dsimp only at hSw); go_simp; (try with_reducible rfl))
                try simp only [Act.put, List.getElem_toArray, List.getElem_cons_zero, List.getElem_cons_succ, List.setIfInBounds_toArray, List.set_cons_zero, List.set_cons_succ]
                refine wpAnyH_ready (rs := [14]) (by kernel_rfl) (by simp) ?_
                refine AllReadyH.cons rfl (fun K hK => ?_) AllReadyH.nil
                rw [if_pos (by rfl)]
                refine wp_store_row 43 (.tmp 8) (.tmp 62) (by rfl) k #[.int .i64 v'.y, .int .i64 v'.m, .int .i64 v'.d, .int .i64 v'.h, .int .i64 v'.i, .int .i64 v'.s] (by rfl) (by rfl) 43 #[.int .i64 v.y, .int .i64 v.m, .int .i64 v.d, .int .i64 v.h, .int .i64 v.i, .int .i64 v.s] (by exact hN.out) (by kernel_rfl) rfl (cells_all v') ?_
                refine hK.out _ _ ?_ (fun hHeld2 => ?_)
                · exact s7 (s1_row hHeld.2.2.2.2.2.2.2 (by omega) (by omega) _)
                clear hK K hHeld
                have hHeld := hHeld2
                clear hHeld2
                try simp only [Act.put, List.getElem_toArray, List.getElem_cons_zero, List.getElem_cons_succ]
                refine wpAnyH_take (i := 15) (v := ?v15n81) rfl (by kernel_rfl) (by kernel_rfl) (by kernel_rfl) (fun _ _ _ h => h) (Or.inl ⟨by rfl, ?hy15n81⟩) (by assumption) ?_
                case hy15n81 => (intro w hSw; (try dsimp only at hSw); go_simp; (try with_reducible rfl))
                try simp only [Act.put, List.getElem_toArray, List.getElem_cons_zero, List.getElem_cons_succ, List.setIfInBounds_toArray, List.set_cons_zero, List.set_cons_succ]
                refine wpAnyH_done (by kernel_rfl) ?_ _
                have HFI := Lib.hid (hHeld.2.2.2.2.2.2.2)
                have HRW := Lib.hid (hN.out.row #[.int .i64 v'.y, .int .i64 v'.m, .int .i64 v'.d, .int .i64 v'.h, .int .i64 v'.i, .int .i64 v'.s])
                have HAI := Lib.hid hA
                clear hHeld hA
                have HXN := Lib.hid (NxtIs.next HMM.out hX.out HNO.out HAI.out)
                have HFR := Lib.hid (loopFar_lt (v := v) (v' := v') (ok := ok') hNr.out HRW.out (fun e => NxtIs.far HMM.out hX.out (by rw [← e]; exact HAI.out)))
                go_wp2_with fail
                go_roundw
                case rel => exact ⟨ok', v', rfl, HXN, HRW, HFI.out.1, HFI.out.2⟩
                case measure => exact HFR.out
            · go_simp
              refine hK.out _ _ ?_ (fun hHeld2 => ?_)
              · exact s7 hHeld.2.2.2.2.2.2.2
              clear hK K hHeld
              have hHeld := hHeld2
              clear hHeld2
              try simp only [Act.put, List.getElem_toArray, List.getElem_cons_zero, List.getElem_cons_succ, List.setIfInBounds_toArray, List.set_cons_zero, List.set_cons_succ]
              refine wpAnyH_take (i := 8) (v := ?v8n82) rfl (by kernel_rfl) (by kernel_rfl) (by kernel_rfl) (fun _ _ _ h => h) (Or.inl ⟨by rfl, ?hy8n82⟩) (by assumption) ?_
              case hy8n82 => (intro w hSw; (try dsimp only at hSw); go_simp; (try with_reducible rfl))
              try simp only [Act.put, List.getElem_toArray, List.getElem_cons_zero, List.getElem_cons_succ, List.setIfInBounds_toArray, List.set_cons_zero, List.set_cons_succ]
              refine wpAnyH_ready (rs := [1, 5]) (by kernel_rfl) (by simp) ?_
              refine AllReadyH.cons rfl (fun K hK => ?_) (AllReadyH.cons rfl (fun K hK => ?_) AllReadyH.nil)
              · go_simp
                (refine (HLi.out _).mono ?_; rintro e w6 ⟨rfl, hb⟩)
                refine hK.out _ _ ?_ (fun hHeld2 => ?_)
                · exact s7 (s1_call hHeld.2.2.2.2.2.2.2 hb)
                clear hK K hHeld
                have hHeld := hHeld2
                clear hHeld2
                try simp only [Act.put, List.getElem_toArray, List.getElem_cons_zero, List.getElem_cons_succ, List.setIfInBounds_toArray, List.set_cons_zero, List.set_cons_succ]
                clear n0 n1 n2
                have hN := Lib.hid (Blk.below (by exact hN.out) hb (by exact hN.out.lt))
                obtain ⟨n0, n1, n2⟩ := num3 hN.out
                clear hb
                refine wpAnyH_ready (rs := [5]) (by kernel_rfl) (by simp) ?_
                refine AllReadyH.cons rfl (fun K hK => ?_) AllReadyH.nil
                go_simp
                refine hK.out _ _ ?_ (fun hHeld2 => ?_)
                · exact s7 hHeld.2.2.2.2.2.2.2
                clear hK K hHeld
                have hHeld := hHeld2
                clear hHeld2
                try simp only [Act.put, List.getElem_toArray, List.getElem_cons_zero, List.getElem_cons_succ, List.setIfInBounds_toArray, List.set_cons_zero, List.set_cons_succ]
                refine wpAnyH_take (i := 9) (v := ?v9n83) rfl (by kernel_rfl) (by kernel_rfl) (by kernel_rfl) (fun _ _ _ h => h) (Or.inl ⟨by rfl, ?hy9n83⟩) (by assumption) ?_
                case hy9n83 => (intro w hSw; (try dsimp only at hSw); go_simp; (try with_reducible rfl))
                try simp only [Act.put, List.getElem_toArray, List.getElem_cons_zero, List.getElem_cons_succ, List.setIfInBounds_toArray, List.set_cons_zero, List.set_cons_succ]
                refine wpAnyH_ready (rs := [10]) (by kernel_rfl) (by simp) ?_
                refine AllReadyH.cons rfl (fun K hK => ?_) AllReadyH.nil
                go_simp
                rw [HWR.out]
                (refine (HAT.out _ (HT.out.below (hHeld.2.2.2.2.2.2.2).2) (HC.out.at_ (hHeld.2.2.2.2.2.2.2).2)).mono ?_; rintro e w7 ⟨v', ok', rfl, hA, hb⟩)
                refine hK.out _ _ ?_ (fun hHeld2 => ?_)
                · exact s7 (s1_call hHeld.2.2.2.2.2.2.2 hb)
                clear hK K hHeld
                have hHeld := hHeld2
                clear hHeld2
                try simp only [Act.put, List.getElem_toArray, List.getElem_cons_zero, List.getElem_cons_succ, List.setIfInBounds_toArray, List.set_cons_zero, List.set_cons_succ]
                clear n0 n1 n2
                have hN := Lib.hid (Blk.below (by exact hN.out) hb (by exact hN.out.lt))
                clear hb
                refine wpAnyH_take (i := 11) (v := ?v11n84) rfl (by kernel_rfl) (by kernel_rfl) (by kernel_rfl) (fun _ _ _ h => h) (Or.inl ⟨by rfl, ?hy11n84⟩) (by assumption) ?_
                case hy11n84 => (intro w hSw; (try dsimp only at hSw); go_simp; (try with_reducible rfl))
                try simp only [Act.put, List.getElem_toArray, List.getElem_cons_zero, List.getElem_cons_succ, List.setIfInBounds_toArray, List.set_cons_zero, List.set_cons_succ]
                refine wpAnyH_take (i := 12) (v := ?v12n85) rfl (by kernel_rfl) (by kernel_rfl) (by kernel_rfl) (fun _ _ _ h => h) (Or.inl ⟨by rfl, ?hy12n85⟩) (by assumption) ?_
                case hy12n85 => (intro w hSw; (try dsimp only at hSw); go_simp; (try with_reducible rfl))
                try simp only [Act.put, List.getElem_toArray, List.getElem_cons_zero, List.getElem_cons_succ, List.setIfInBounds_toArray, List.set_cons_zero, List.set_cons_succ]
                refine wpAnyH_take (i := 13) (v := ?v13n86) rfl (by kernel_rfl) (by kernel_rfl) (by kernel_rfl) (fun _ _ _ h => h) (Or.inl ⟨by rfl, ?hy13n86⟩) (by assumption) ?_
                case hy13n86 => (intro w hSw; (try dsimp only at hSw); go_simp; (try with_reducible rfl))
                try simp only [Act.put, List.getElem_toArray, List.getElem_cons_zero, List.getElem_cons_succ, List.setIfInBounds_toArray, List.set_cons_zero, List.set_cons_succ]
                refine wpAnyH_ready (rs := [14]) (by kernel_rfl) (by simp) ?_
                refine AllReadyH.cons rfl (fun K hK => ?_) AllReadyH.nil
                rw [if_pos (by rfl)]
                refine wp_store_row 43 (.tmp 8) (.tmp 62) (by rfl) k #[.int .i64 v'.y, .int .i64 v'.m, .int .i64 v'.d, .int .i64 v'.h, .int .i64 v'.i, .int .i64 v'.s] (by rfl) (by rfl) 43 #[.int .i64 v.y, .int .i64 v.m, .int .i64 v.d, .int .i64 v.h, .int .i64 v.i, .int .i64 v.s] (by exact hN.out) (by kernel_rfl) rfl (cells_all v') ?_
                refine hK.out _ _ ?_ (fun hHeld2 => ?_)
                · exact s7 (s1_row hHeld.2.2.2.2.2.2.2 (by omega) (by omega) _)
                clear hK K hHeld
                have hHeld := hHeld2
                clear hHeld2
                try simp only [Act.put, List.getElem_toArray, List.getElem_cons_zero, List.getElem_cons_succ]
                refine wpAnyH_take (i := 15) (v := ?v15n87) rfl (by kernel_rfl) (by kernel_rfl) (by kernel_rfl) (fun _ _ _ h => h) (Or.inl ⟨by rfl, ?hy15n87⟩) (by assumption) ?_
                case hy15n87 => (intro w hSw; (try dsimp only at hSw); go_simp; (try with_reducible rfl))
                try simp only [Act.put, List.getElem_toArray, List.getElem_cons_zero, List.getElem_cons_succ, List.setIfInBounds_toArray, List.set_cons_zero, List.set_cons_succ]
                refine wpAnyH_done (by kernel_rfl) ?_ _
                have HFI := Lib.hid (hHeld.2.2.2.2.2.2.2)
                have HRW := Lib.hid (hN.out.row #[.int .i64 v'.y, .int .i64 v'.m, .int .i64 v'.d, .int .i64 v'.h, .int .i64 v'.i, .int .i64 v'.s])
                have HAI := Lib.hid hA
                clear hHeld hA
                have HXN := Lib.hid (NxtIs.next HMM.out hX.out HNO.out HAI.out)
                have HFR := Lib.hid (loopFar_lt (v := v) (v' := v') (ok := ok') hNr.out HRW.out (fun e => NxtIs.far HMM.out hX.out (by rw [← e]; exact HAI.out)))
                go_wp2_with fail
                go_roundw
                case rel => exact ⟨ok', v', rfl, HXN, HRW, HFI.out.1, HFI.out.2⟩
                case measure => exact HFR.out
              · go_simp
                refine hK.out _ _ ?_ (fun hHeld2 => ?_)
                · exact s7 hHeld.2.2.2.2.2.2.2
                clear hK K hHeld
                have hHeld := hHeld2
                clear hHeld2
                try simp only [Act.put, List.getElem_toArray, List.getElem_cons_zero, List.getElem_cons_succ, List.setIfInBounds_toArray, List.set_cons_zero, List.set_cons_succ]
                refine wpAnyH_take (i := 9) (v := ?v9n88) rfl (by kernel_rfl) (by kernel_rfl) (by kernel_rfl) (fun _ _ _ h => h) (Or.inl ⟨by rfl, ?hy9n88⟩) (by assumption) ?_
                case hy9n88 => (intro w hSw; (try dsimp only at hSw); go_simp; (try with_reducible rfl))
                try simp only [Act.put, List.getElem_toArray, List.getElem_cons_zero, List.getElem_cons_succ, List.setIfInBounds_toArray, List.set_cons_zero, List.set_cons_succ]
                refine wpAnyH_ready (rs := [1]) (by kernel_rfl) (by simp) ?_
                refine AllReadyH.cons rfl (fun K hK => ?_) AllReadyH.nil
                go_simp
                (refine (HLi.out _).mono ?_; rintro e w6 ⟨rfl, hb⟩)
                refine hK.out _ _ ?_ (fun hHeld2 => ?_)
                · exact s7 (s1_call hHeld.2.2.2.2.2.2.2 hb)
                clear hK K hHeld
                have hHeld := hHeld2
                clear hHeld2
                try simp only [Act.put, List.getElem_toArray, List.getElem_cons_zero, List.getElem_cons_succ, List.setIfInBounds_toArray, List.set_cons_zero, List.set_cons_succ]
                clear n0 n1 n2
                have hN := Lib.hid (Blk.below (by exact hN.out) hb (by exact hN.out.lt))
                obtain ⟨n0, n1, n2⟩ := num3 hN.out
                clear hb
                refine wpAnyH_ready (rs := [10]) (by kernel_rfl) (by simp) ?_
                refine AllReadyH.cons rfl (fun K hK => ?_) AllReadyH.nil
                go_simp
                rw [HWR.out]
                (refine (HAT.out _ (HT.out.below (hHeld.2.2.2.2.2.2.2).2) (HC.out.at_ (hHeld.2.2.2.2.2.2.2).2)).mono ?_; rintro e w7 ⟨v', ok', rfl, hA, hb⟩)
                refine hK.out _ _ ?_ (fun hHeld2 => ?_)
                · exact s7 (s1_call hHeld.2.2.2.2.2.2.2 hb)
                clear hK K hHeld
                have hHeld := hHeld2
                clear hHeld2
                try simp only [Act.put, List.getElem_toArray, List.getElem_cons_zero, List.getElem_cons_succ, List.setIfInBounds_toArray, List.set_cons_zero, List.set_cons_succ]
                clear n0 n1 n2
                have hN := Lib.hid (Blk.below (by exact hN.out) hb (by exact hN.out.lt))
                clear hb
                refine wpAnyH_take (i := 11) (v := ?v11n89) rfl (by kernel_rfl) (by kernel_rfl) (by kernel_rfl) (fun _ _ _ h => h) (Or.inl ⟨by rfl, ?hy11n89⟩) (by assumption) ?_
                case hy11n89 => (intro w hSw; (try dsimp only at hSw); go_simp; (try with_reducible rfl))
                try simp only [Act.put, List.getElem_toArray, List.getElem_cons_zero, List.getElem_cons_succ, List.setIfInBounds_toArray, List.set_cons_zero, List.set_cons_succ]
                refine wpAnyH_take (i := 12) (v := ?v12n90) rfl (by kernel_rfl) (by kernel_rfl) (by kernel_rfl) (fun _ _ _ h => h) (Or.inl ⟨by rfl, ?hy12n90⟩) (by assumption) ?_
                case hy12n90 => (intro w hSw; (try dsimp only at hSw); go_simp; (try with_reducible rfl))
                try simp only [Act.put, List.getElem_toArray, List.getElem_cons_zero, List.getElem_cons_succ, List.setIfInBounds_toArray, List.set_cons_zero, List.set_cons_succ]
                refine wpAnyH_take (i := 13) (v := ?v13n91) rfl (by kernel_rfl) (by kernel_rfl) (by kernel_rfl) (fun _ _ _ h => h) (Or.inl ⟨by rfl, ?hy13n91⟩) (by assumption) ?_
                case hy13n91 => (intro w hSw; (try dsimp only at hSw); go_simp; (try with_reducible rfl))
                try simp only [Act.put, List.getElem_toArray, List.getElem_cons_zero, List.getElem_cons_succ, List.setIfInBounds_toArray, List.set_cons_zero, List.set_cons_succ]
                refine wpAnyH_ready (rs := [14]) (by kernel_rfl) (by simp) ?_
                refine AllReadyH.cons rfl (fun K hK => ?_) AllReadyH.nil
                rw [if_pos (by rfl)]
                refine wp_store_row 43 (.tmp 8) (.tmp 62) (by rfl) k #[.int .i64 v'.y, .int .i64 v'.m, .int .i64 v'.d, .int .i64 v'.h, .int .i64 v'.i, .int .i64 v'.s] (by rfl) (by rfl) 43 #[.int .i64 v.y, .int .i64 v.m, .int .i64 v.d, .int .i64 v.h, .int .i64 v.i, .int .i64 v.s] (by exact hN.out) (by kernel_rfl) rfl (cells_all v') ?_
                refine hK.out _ _ ?_ (fun hHeld2 => ?_)
                · exact s7 (s1_row hHeld.2.2.2.2.2.2.2 (by omega) (by omega) _)
                clear hK K hHeld
                have hHeld := hHeld2
                clear hHeld2
                try simp only [Act.put, List.getElem_toArray, List.getElem_cons_zero, List.getElem_cons_succ]
                refine wpAnyH_take (i := 15) (v := ?v15n92) rfl (by kernel_rfl) (by kernel_rfl) (by kernel_rfl) (fun _ _ _ h => h) (Or.inl ⟨by rfl, ?hy15n92⟩) (by assumption) ?_
                case hy15n92 => (intro w hSw; (try dsimp only at hSw); go_simp; (try with_reducible rfl))
                try simp only [Act.put, List.getElem_toArray, List.getElem_cons_zero, List.getElem_cons_succ, List.setIfInBounds_toArray, List.set_cons_zero, List.set_cons_succ]
                refine wpAnyH_done (by kernel_rfl) ?_ _
                have HFI := Lib.hid (hHeld.2.2.2.2.2.2.2)
                have HRW := Lib.hid (hN.out.row #[.int .i64 v'.y, .int .i64 v'.m, .int .i64 v'.d, .int .i64 v'.h, .int .i64 v'.i, .int .i64 v'.s])
                have HAI := Lib.hid hA
                clear hHeld hA
                have HXN := Lib.hid (NxtIs.next HMM.out hX.out HNO.out HAI.out)
                have HFR := Lib.hid (loopFar_lt (v := v) (v' := v') (ok := ok') hNr.out HRW.out (fun e => NxtIs.far HMM.out hX.out (by rw [← e]; exact HAI.out)))
                go_wp2_with fail
                go_roundw
                case rel => exact ⟨ok', v', rfl, HXN, HRW, HFI.out.1, HFI.out.2⟩
                case measure => exact HFR.out
          · go_simp
            refine hK.out _ _ ?_ (fun hHeld2 => ?_)
            · exact s7 hHeld.2.2.2.2.2.2.2
            clear hK K hHeld
            have hHeld := hHeld2
            clear hHeld2
            try simp only [Act.put, List.getElem_toArray, List.getElem_cons_zero, List.getElem_cons_succ, List.setIfInBounds_toArray, List.set_cons_zero, List.set_cons_succ]
            refine wpAnyH_ready (rs := [1, 3, 7]) (by kernel_rfl) (by simp) ?_
            refine AllReadyH.cons rfl (fun K hK => ?_) (AllReadyH.cons rfl (fun K hK => ?_) (AllReadyH.cons rfl (fun K hK => ?_) AllReadyH.nil))
            · go_simp
              (refine (HLi.out _).mono ?_; rintro e w6 ⟨rfl, hb⟩)
              refine hK.out _ _ ?_ (fun hHeld2 => ?_)
              · exact s7 (s1_call hHeld.2.2.2.2.2.2.2 hb)
              clear hK K hHeld
              have hHeld := hHeld2
              clear hHeld2
              try simp only [Act.put, List.getElem_toArray, List.getElem_cons_zero, List.getElem_cons_succ, List.setIfInBounds_toArray, List.set_cons_zero, List.set_cons_succ]
              clear n0 n1 n2
              have hN := Lib.hid (Blk.below (by exact hN.out) hb (by exact hN.out.lt))
              obtain ⟨n0, n1, n2⟩ := num3 hN.out
              clear hb
              refine wpAnyH_ready (rs := [3, 7]) (by kernel_rfl) (by simp) ?_
              refine AllReadyH.cons rfl (fun K hK => ?_) (AllReadyH.cons rfl (fun K hK => ?_) AllReadyH.nil)
              · go_simp
                refine hK.out _ _ ?_ (fun hHeld2 => ?_)
                · exact s7 hHeld.2.2.2.2.2.2.2
                clear hK K hHeld
                have hHeld := hHeld2
                clear hHeld2
                try simp only [Act.put, List.getElem_toArray, List.getElem_cons_zero, List.getElem_cons_succ, List.setIfInBounds_toArray, List.set_cons_zero, List.set_cons_succ]
                refine wpAnyH_ready (rs := [7]) (by kernel_rfl) (by simp) ?_
                refine AllReadyH.cons rfl (fun K hK => ?_) AllReadyH.nil
                go_simp
                refine hK.out _ _ ?_ (fun hHeld2 => ?_)
                · exact s7 hHeld.2.2.2.2.2.2.2
                clear hK K hHeld
                have hHeld := hHeld2
                clear hHeld2
                try simp only [Act.put, List.getElem_toArray, List.getElem_cons_zero, List.getElem_cons_succ, List.setIfInBounds_toArray, List.set_cons_zero, List.set_cons_succ]
                refine wpAnyH_take (i := 8) (v := ?v8n93) rfl (by kernel_rfl) (by kernel_rfl) (by kernel_rfl) (fun _ _ _ h => h) (Or.inl ⟨by rfl, ?hy8n93⟩) (by assumption) ?_
                case hy8n93 => (intro w hSw; (try dsimp only at hSw); go_simp; (try with_reducible rfl))
                try simp only [Act.put, List.getElem_toArray, List.getElem_cons_zero, List.getElem_cons_succ, List.setIfInBounds_toArray, List.set_cons_zero, List.set_cons_succ]
                refine wpAnyH_take (i := 9) (v := ?v9n94) rfl (by kernel_rfl) (by kernel_rfl) (by kernel_rfl) (fun _ _ _ h => h) (Or.inl ⟨by rfl, ?hy9n94⟩) (by assumption) ?_
                case hy9n94 => (intro w hSw; (try dsimp only at hSw); go_simp; (try with_reducible rfl))
                try simp only [Act.put, List.getElem_toArray, List.getElem_cons_zero, List.getElem_cons_succ, List.setIfInBounds_toArray, List.set_cons_zero, List.set_cons_succ]
                refine wpAnyH_ready (rs := [10]) (by kernel_rfl) (by simp) ?_
                refine AllReadyH.cons rfl (fun K hK => ?_) AllReadyH.nil
                go_simp
                rw [HWR.out]
                (refine (HAT.out _ (HT.out.below (hHeld.2.2.2.2.2.2.2).2) (HC.out.at_ (hHeld.2.2.2.2.2.2.2).2)).mono ?_; rintro e w7 ⟨v', ok', rfl, hA, hb⟩)
                refine hK.out _ _ ?_ (fun hHeld2 => ?_)
                · exact s7 (s1_call hHeld.2.2.2.2.2.2.2 hb)
                clear hK K hHeld
                have hHeld := hHeld2
                clear hHeld2
                try simp only [Act.put, List.getElem_toArray, List.getElem_cons_zero, List.getElem_cons_succ, List.setIfInBounds_toArray, List.set_cons_zero, List.set_cons_succ]
                clear n0 n1 n2
                have hN := Lib.hid (Blk.below (by exact hN.out) hb (by exact hN.out.lt))
                clear hb
                refine wpAnyH_take (i := 11) (v := ?v11n95) rfl (by kernel_rfl) (by kernel_rfl) (by kernel_rfl) (fun _ _ _ h => h) (Or.inl ⟨by rfl, ?hy11n95⟩) (by assumption) ?_
                case hy11n95 => (intro w hSw; (try dsimp only at hSw); go_simp; (try with_reducible rfl))
                try simp only [Act.put, List.getElem_toArray, List.getElem_cons_zero, List.getElem_cons_succ, List.setIfInBounds_toArray, List.set_cons_zero, List.set_cons_succ]
                refine wpAnyH_take (i := 12) (v := ?v12n96) rfl (by kernel_rfl) (by kernel_rfl) (by kernel_rfl) (fun _ _ _ h => h) (Or.inl ⟨by rfl, ?hy12n96⟩) (by assumption) ?_
                case hy12n96 => (intro w hSw; (try dsimp only at hSw); go_simp; (try with_reducible rfl))
                try simp only [Act.put, List.getElem_toArray, List.getElem_cons_zero, List.getElem_cons_succ, List.setIfInBounds_toArray, List.set_cons_zero, List.set_cons_succ]
                refine wpAnyH_take (i := 13) (v := ?v13n97) rfl (by kernel_rfl) (by kernel_rfl) (by kernel_rfl) (fun _ _ _ h => h) (Or.inl ⟨by rfl, ?hy13n97⟩) (by assumption) ?_
                case hy13n97 => (intro w hSw; (try dsimp only at hSw); go_simp; (try with_reducible rfl))
                try simp only [Act.put, List.getElem_toArray, List.getElem_cons_zero, List.getElem_cons_succ, List.setIfInBounds_toArray, List.set_cons_zero, List.set_cons_succ]
                refine wpAnyH_ready (rs := [14]) (by kernel_rfl) (by simp) ?_
                refine AllReadyH.cons rfl (fun K hK => ?_) AllReadyH.nil
                rw [if_pos (by rfl)]
                refine wp_store_row 43 (.tmp 8) (.tmp 62) (by rfl) k #[.int .i64 v'.y, .int .i64 v'.m, .int .i64 v'.d, .int .i64 v'.h, .int .i64 v'.i, .int .i64 v'.s] (by rfl) (by rfl) 43 #[.int .i64 v.y, .int .i64 v.m, .int .i64 v.d, .int .i64 v.h, .int .i64 v.i, .int .i64 v.s] (by exact hN.out) (by kernel_rfl) rfl (cells_all v') ?_
                refine hK.out _ _ ?_ (fun hHeld2 => ?_)
                · exact s7 (s1_row hHeld.2.2.2.2.2.2.2 (by omega) (by omega) _)
                clear hK K hHeld
                have hHeld := hHeld2
                clear hHeld2
                try simp only [Act.put, List.getElem_toArray, List.getElem_cons_zero, List.getElem_cons_succ]
                refine wpAnyH_take (i := 15) (v := ?v15n98) rfl (by kernel_rfl) (by kernel_rfl) (by kernel_rfl) (fun _ _ _ h => h) (Or.inl ⟨by rfl, ?hy15n98⟩) (by assumption) ?_
                case hy15n98 => (intro w hSw; (try dsimp only at hSw); go_simp; (try with_reducible rfl))
                try simp only [Act.put, List.getElem_toArray, List.getElem_cons_zero, List.getElem_cons_succ, List.setIfInBounds_toArray, List.set_cons_zero, List.set_cons_succ]
                refine wpAnyH_done (by kernel_rfl) ?_ _
                have HFI := Lib.hid (hHeld.2.2.2.2.2.2.2)
                have HRW := Lib.hid (hN.out.row #[.int .i64 v'.y, .int .i64 v'.m, .int .i64 v'.d, .int .i64 v'.h, .int .i64 v'.i, .int .i64 v'.s])
                have HAI := Lib.hid hA
                clear hHeld hA
                have HXN := Lib.hid (NxtIs.next HMM.out hX.out HNO.out HAI.out)
                have HFR := Lib.hid (loopFar_lt (v := v) (v' := v') (ok := ok') hNr.out HRW.out (fun e => NxtIs.far HMM.out hX.out (by rw [← e]; exact HAI.out)))
                go_wp2_with fail
                go_roundw
                case rel => exact ⟨ok', v', rfl, HXN, HRW, HFI.out.1, HFI.out.2⟩
                case measure => exact HFR.out
              · go_simp
                refine hK.out _ _ ?_ (fun hHeld2 => ?_)
                · exact s7 hHeld.2.2.2.2.2.2.2
                clear hK K hHeld
                have hHeld := hHeld2
                clear hHeld2
                try simp only [Act.put, List.getElem_toArray, List.getElem_cons_zero, List.getElem_cons_succ, List.setIfInBounds_toArray, List.set_cons_zero, List.set_cons_succ]
                refine wpAnyH_take (i := 8) (v := ?v8n99) rfl (by kernel_rfl) (by kernel_rfl) (by kernel_rfl) (fun _ _ _ h => h) (Or.inl ⟨by rfl, ?hy8n99⟩) (by assumption) ?_
                case hy8n99 => (intro w hSw; (try dsimp only at hSw); go_simp; (try with_reducible rfl))
                try simp only [Act.put, List.getElem_toArray, List.getElem_cons_zero, List.getElem_cons_succ, List.setIfInBounds_toArray, List.set_cons_zero, List.set_cons_succ]
                refine wpAnyH_ready (rs := [3]) (by kernel_rfl) (by simp) ?_
                refine AllReadyH.cons rfl (fun K hK => ?_) AllReadyH.nil
                go_simp
                refine hK.out _ _ ?_ (fun hHeld2 => ?_)
                · exact s7 hHeld.2.2.2.2.2.2.2
                clear hK K hHeld
                have hHeld := hHeld2
                clear hHeld2
                try simp only [Act.put, List.getElem_toArray, List.getElem_cons_zero, List.getElem_cons_succ, List.setIfInBounds_toArray, List.set_cons_zero, List.set_cons_succ]
                refine wpAnyH_take (i := 9) (v := ?v9n100) rfl (by kernel_rfl) (by kernel_rfl) (by kernel_rfl) (fun _ _ _ h => h) (Or.inl ⟨by rfl, ?hy9n100⟩) (by assumption) ?_
                case hy9n100 => (intro w hSw; (try dsimp only at hSw); go_simp; (try with_reducible rfl))
                try simp only [Act.put, List.getElem_toArray, List.getElem_cons_zero, List.getElem_cons_succ, List.setIfInBounds_toArray, List.set_cons_zero, List.set_cons_succ]
                refine wpAnyH_ready (rs := [10]) (by kernel_rfl) (by simp) ?_
                refine AllReadyH.cons rfl (fun K hK => ?_) AllReadyH.nil
                go_simp
                rw [HWR.out]
                (refine (HAT.out _ (HT.out.below (hHeld.2.2.2.2.2.2.2).2) (HC.out.at_ (hHeld.2.2.2.2.2.2.2).2)).mono ?_; rintro e w7 ⟨v', ok', rfl, hA, hb⟩)
                refine hK.out _ _ ?_ (fun hHeld2 => ?_)
                · exact s7 (s1_call hHeld.2.2.2.2.2.2.2 hb)
                clear hK K hHeld
                have hHeld := hHeld2
                clear hHeld2
                try simp only [Act.put, List.getElem_toArray, List.getElem_cons_zero, List.getElem_cons_succ, List.setIfInBounds_toArray, List.set_cons_zero, List.set_cons_succ]
                clear n0 n1 n2
                have hN := Lib.hid (Blk.below (by exact hN.out) hb (by exact hN.out.lt))
                clear hb
                refine wpAnyH_take (i := 11) (v := ?v11n101) rfl (by kernel_rfl) (by kernel_rfl) (by kernel_rfl) (fun _ _ _ h => h) (Or.inl ⟨by rfl, ?hy11n101⟩) (by assumption) ?_
                case hy11n101 => (intro w hSw; (try dsimp only at hSw); go_simp; (try with_reducible rfl))
                try simp only [Act.put, List.getElem_toArray, List.getElem_cons_zero, List.getElem_cons_succ, List.setIfInBounds_toArray, List.set_cons_zero, List.set_cons_succ]
                refine wpAnyH_take (i := 12) (v := ?v12n102) rfl (by kernel_rfl) (by kernel_rfl) (by kernel_rfl) (fun _ _ _ h => h) (Or.inl ⟨by rfl, ?hy12n102⟩) (by assumption) ?_
                case hy12n102 => (intro w hSw; (try dsimp only at hSw); go_simp; (try with_reducible rfl))
                try simp only [Act.put, List.getElem_toArray, List.getElem_cons_zero, List.getElem_cons_succ, List.setIfInBounds_toArray, List.set_cons_zero, List.set_cons_succ]
                refine wpAnyH_take (i := 13) (v := ?v13n103) rfl (by kernel_rfl) (by kernel_rfl) (by kernel_rfl) (fun _ _ _ h => h) (Or.inl ⟨by rfl, ?hy13n103⟩) (by assumption) ?_
                case hy13n103 => (intro w hSw; (try dsimp only at hSw); go_simp; (try with_reducible rfl))
                try simp only [Act.put, List.getElem_toArray, List.getElem_cons_zero, List.getElem_cons_succ, List.setIfInBounds_toArray, List.set_cons_zero, List.set_cons_succ]
                refine wpAnyH_ready (rs := [14]) (by kernel_rfl) (by simp) ?_
                refine AllReadyH.cons rfl (fun K hK => ?_) AllReadyH.nil
                rw [if_pos (by rfl)]
                refine wp_store_row 43 (.tmp 8) (.tmp 62) (by rfl) k #[.int .i64 v'.y, .int .i64 v'.m, .int .i64 v'.d, .int .i64 v'.h, .int .i64 v'.i, .int .i64 v'.s] (by rfl) (by rfl) 43 #[.int .i64 v.y, .int .i64 v.m, .int .i64 v.d, .int .i64 v.h, .int .i64 v.i, .int .i64 v.s] (by exact hN.out) (by kernel_rfl) rfl (cells_all v') ?_
                refine hK.out _ _ ?_ (fun hHeld2 => ?_)
                · exact s7 (s1_row hHeld.2.2.2.2.2.2.2 (by omega) (by omega) _)
                clear hK K hHeld
                have hHeld := hHeld2
                clear hHeld2
                try simp only [Act.put, List.getElem_toArray, List.getElem_cons_zero, List.getElem_cons_succ]
                refine wpAnyH_take (i := 15) (v := ?v15n104) rfl (by kernel_rfl) (by kernel_rfl) (by kernel_rfl) (fun _ _ _ h => h) (Or.inl ⟨by rfl, ?hy15n104⟩) (by assumption) ?_
                case hy15n104 => (intro w hSw; (try dsimp only at hSw); go_simp; (try with_reducible rfl))
                try simp only [Act.put, List.getElem_toArray, List.getElem_cons_zero, List.getElem_cons_succ, List.setIfInBounds_toArray, List.set_cons_zero, List.set_cons_succ]
                refine wpAnyH_done (by kernel_rfl) ?_ _
                have HFI := Lib.hid (hHeld.2.2.2.2.2.2.2)
                have HRW := Lib.hid (hN.out.row #[.int .i64 v'.y, .int .i64 v'.m, .int .i64 v'.d, .int .i64 v'.h, .int .i64 v'.i, .int .i64 v'.s])
                have HAI := Lib.hid hA
                clear hHeld hA
                have HXN := Lib.hid (NxtIs.next HMM.out hX.out HNO.out HAI.out)
                have HFR := Lib.hid (loopFar_lt (v := v) (v' := v') (ok := ok') hNr.out HRW.out (fun e => NxtIs.far HMM.out hX.out (by rw [← e]; exact HAI.out)))
                go_wp2_with fail
                go_roundw
                case rel => exact ⟨ok', v', rfl, HXN, HRW, HFI.out.1, HFI.out.2⟩
                case measure => exact HFR.out
            · go_simp
              refine hK.out _ _ ?_ (fun hHeld2 => ?_)
              · exact s7 hHeld.2.2.2.2.2.2.2
              clear hK K hHeld
              have hHeld := hHeld2
              clear hHeld2
              try simp only [Act.put, List.getElem_toArray, List.getElem_cons_zero, List.getElem_cons_succ, List.setIfInBounds_toArray, List.set_cons_zero, List.set_cons_succ]
              refine wpAnyH_ready (rs := [1, 7]) (by kernel_rfl) (by simp) ?_
              refine AllReadyH.cons rfl (fun K hK => ?_) (AllReadyH.cons rfl (fun K hK => ?_) AllReadyH.nil)
              · go_simp
                (refine (HLi.out _).mono ?_; rintro e w6 ⟨rfl, hb⟩)
                refine hK.out _ _ ?_ (fun hHeld2 => ?_)
                · exact s7 (s1_call hHeld.2.2.2.2.2.2.2 hb)
                clear hK K hHeld
                have hHeld := hHeld2
                clear hHeld2
                try simp only [Act.put, List.getElem_toArray, List.getElem_cons_zero, List.getElem_cons_succ, List.setIfInBounds_toArray, List.set_cons_zero, List.set_cons_succ]
                clear n0 n1 n2
                have hN := Lib.hid (Blk.below (by exact hN.out) hb (by exact hN.out.lt))
                obtain ⟨n0, n1, n2⟩ := num3 hN.out
                clear hb
                refine wpAnyH_ready (rs := [7]) (by kernel_rfl) (by simp) ?_
                refine AllReadyH.cons rfl (fun K hK => ?_) AllReadyH.nil
                go_simp
                refine hK.out _ _ ?_ (fun hHeld2 => ?_)
                · exact s7 hHeld.2.2.2.2.2.2.2
                clear hK K hHeld
                have hHeld := hHeld2
                clear hHeld2
                try simp only [Act.put, List.getElem_toArray, List.getElem_cons_zero, List.getElem_cons_succ, List.setIfInBounds_toArray, List.set_cons_zero, List.set_cons_succ]
                refine wpAnyH_take (i := 8) (v := ?v8n105) rfl (by kernel_rfl) (by kernel_rfl) (by kernel_rfl) (fun _ _ _ h => h) (Or.inl ⟨by rfl, ?hy8n105⟩) (by assumption) ?_
                case hy8n105 => (intro w hSw; (try dsimp only at hSw); go_simp; (try with_reducible rfl))
                try simp only [Act.put, List.getElem_toArray, List.getElem_cons_zero, List.getElem_cons_succ, List.setIfInBounds_toArray, List.set_cons_zero, List.set_cons_succ]
                refine wpAnyH_take (i := 9) (v := ?v9n106) rfl (by kernel_rfl) (by kernel_rfl) (by kernel_rfl) (fun _ _ _ h => h) (Or.inl ⟨by rfl, ?hy9n106⟩) (by assumption) ?_
                case hy9n106 => (intro w hSw; (try dsimp only at hSw); go_simp; (try with_reducible rfl))
                try simp only [Act.put, List.getElem_toArray, List.getElem_cons_zero, List.getElem_cons_succ, List.setIfInBounds_toArray, List.set_cons_zero, List.set_cons_succ]
                refine wpAnyH_ready (rs := [10]) (by kernel_rfl) (by simp) ?_
                refine AllReadyH.cons rfl (fun K hK => ?_) AllReadyH.nil
                go_simp
                rw [HWR.out]
                (refine (HAT.out _ (HT.out.below (hHeld.2.2.2.2.2.2.2).2) (HC.out.at_ (hHeld.2.2.2.2.2.2.2).2)).mono ?_; rintro e w7 ⟨v', ok', rfl, hA, hb⟩)
                refine hK.out _ _ ?_ (fun hHeld2 => ?_)
                · exact s7 (s1_call hHeld.2.2.2.2.2.2.2 hb)
                clear hK K hHeld
                have hHeld := hHeld2
                clear hHeld2
                try simp only [Act.put, List.getElem_toArray, List.getElem_cons_zero, List.getElem_cons_succ, List.setIfInBounds_toArray, List.set_cons_zero, List.set_cons_succ]
                clear n0 n1 n2
                have hN := Lib.hid (Blk.below (by exact hN.out) hb (by exact hN.out.lt))
                clear hb
                refine wpAnyH_take (i := 11) (v := ?v11n107) rfl (by kernel_rfl) (by kernel_rfl) (by kernel_rfl) (fun _ _ _ h => h) (Or.inl ⟨by rfl, ?hy11n107⟩) (by assumption) ?_
                case hy11n107 => (intro w hSw; (try dsimp only at hSw); go_simp; (try with_reducible rfl))
                try simp only [Act.put, List.getElem_toArray, List.getElem_cons_zero, List.getElem_cons_succ, List.setIfInBounds_toArray, List.set_cons_zero, List.set_cons_succ]
                refine wpAnyH_take (i := 12) (v := ?v12n108) rfl (by kernel_rfl) (by kernel_rfl) (by kernel_rfl) (fun _ _ _ h => h) (Or.inl ⟨by rfl, ?hy12n108⟩) (by assumption) ?_
                case hy12n108 => (intro w hSw; (try dsimp only at hSw); go_simp; (try with_reducible rfl))
                try simp only [Act.put, List.getElem_toArray, List.getElem_cons_zero, List.getElem_cons_succ, List.setIfInBounds_toArray, List.set_cons_zero, List.set_cons_succ]
                refine wpAnyH_take (i := 13) (v := ?v13n109) rfl (by kernel_rfl) (by kernel_rfl) (by kernel_rfl) (fun _ _ _ h => h) (Or.inl ⟨by rfl, ?hy13n109⟩) (by assumption) ?_
                case hy13n109 => (intro w hSw; (try dsimp only at hSw); go_simp; (try with_reducible rfl))
                try simp only [Act.put, List.getElem_toArray, List.getElem_cons_zero, List.getElem_cons_succ, List.setIfInBounds_toArray, List.set_cons_zero, List.set_cons_succ]
                refine wpAnyH_ready (rs := [14]) (by kernel_rfl) (by simp) ?_
                refine AllReadyH.cons rfl (fun K hK => ?_) AllReadyH.nil
                rw [if_pos (by rfl)]
                refine wp_store_row 43 (.tmp 8) (.tmp 62) (by rfl) k #[.int .i64 v'.y, .int .i64 v'.m, .int .i64 v'.d, .int .i64 v'.h, .int .i64 v'.i, .int .i64 v'.s] (by rfl) (by rfl) 43 #[.int .i64 v.y, .int .i64 v.m, .int .i64 v.d, .int .i64 v.h, .int .i64 v.i, .int .i64 v.s] (by exact hN.out) (by kernel_rfl) rfl (cells_all v') ?_
                refine hK.out _ _ ?_ (fun hHeld2 => ?_)
                · exact s7 (s1_row hHeld.2.2.2.2.2.2.2 (by omega) (by omega) _)
                clear hK K hHeld
                have hHeld := hHeld2
                clear hHeld2
                try simp only [Act.put, List.getElem_toArray, List.getElem_cons_zero, List.getElem_cons_succ]
                refine wpAnyH_take (i := 15) (v := ?v15n110) rfl (by kernel_rfl) (by kernel_rfl) (by kernel_rfl) (fun _ _ _ h => h) (Or.inl ⟨by rfl, ?hy15n110⟩) (by assumption) ?_
                case hy15n110 => (intro w hSw; (try dsimp only at hSw); go_simp; (try with_reducible rfl))
                try simp only [Act.put, List.getElem_toArray, List.getElem_cons_zero, List.getElem_cons_succ, List.setIfInBounds_toArray, List.set_cons_zero, List.set_cons_succ]
                refine wpAnyH_done (by kernel_rfl) ?_ _
                have HFI := Lib.hid (hHeld.2.2.2.2.2.2.2)
                have HRW := Lib.hid (hN.out.row #[.int .i64 v'.y, .int .i64 v'.m, .int .i64 v'.d, .int .i64 v'.h, .int .i64 v'.i, .int .i64 v'.s])
                have HAI := Lib.hid hA
                clear hHeld hA
                have HXN := Lib.hid (NxtIs.next HMM.out hX.out HNO.out HAI.out)
                have HFR := Lib.hid (loopFar_lt (v := v) (v' := v') (ok := ok') hNr.out HRW.out (fun e => NxtIs.far HMM.out hX.out (by rw [← e]; exact HAI.out)))
                go_wp2_with fail
                go_roundw
                case rel => exact ⟨ok', v', rfl, HXN, HRW, HFI.out.1, HFI.out.2⟩
                case measure => exact HFR.out
              · go_simp
                refine hK.out _ _ ?_ (fun hHeld2 => ?_)
                · exact s7 hHeld.2.2.2.2.2.2.2
                clear hK K hHeld
                have hHeld := hHeld2
                clear hHeld2
                try simp only [Act.put, List.getElem_toArray, List.getElem_cons_zero, List.getElem_cons_succ, List.setIfInBounds_toArray, List.set_cons_zero, List.set_cons_succ]
                refine wpAnyH_take (i := 8) (v := ?v8n111) rfl (by kernel_rfl) (by kernel_rfl) (by kernel_rfl) (fun _ _ _ h => h) (Or.inl ⟨by rfl, ?hy8n111⟩) (by assumption) ?_
                case hy8n111 => (intro w hSw; (try dsimp only at hSw); go_simp; (try with_reducible rfl))
                try simp only [Act.put, List.getElem_toArray, List.getElem_cons_zero, List.getElem_cons_succ, List.setIfInBounds_toArray, List.set_cons_zero, List.set_cons_succ]
                refine wpAnyH_take (i := 9) (v := ?v9n112) rfl (by kernel_rfl) (by kernel_rfl) (by kernel_rfl) (fun _ _ _ h => h) (Or.inl ⟨by rfl, ?hy9n112⟩) (by assumption) ?_
                case hy9n112 => (intro w hSw; (try dsimp only at hSw); go_simp; (try with_reducible rfl))
                try simp only [Act.put, List.getElem_toArray, List.getElem_cons_zero, List.getElem_cons_succ, List.setIfInBounds_toArray, List.set_cons_zero, List.set_cons_succ]
                refine wpAnyH_ready (rs := [1]) (by kernel_rfl) (by simp) ?_
                refine AllReadyH.cons rfl (fun K hK => ?_) AllReadyH.nil
                go_simp
                (refine (HLi.out _).mono ?_; rintro e w6 ⟨rfl, hb⟩)
                refine hK.out _ _ ?_ (fun hHeld2 => ?_)
                · exact s7 (s1_call hHeld.2.2.2.2.2.2.2 hb)
                clear hK K hHeld
                have hHeld := hHeld2
                clear hHeld2
                try simp only [Act.put, List.getElem_toArray, List.getElem_cons_zero, List.getElem_cons_succ, List.setIfInBounds_toArray, List.set_cons_zero, List.set_cons_succ]
                clear n0 n1 n2
                have hN := Lib.hid (Blk.below (by exact hN.out) hb (by exact hN.out.lt))
                obtain ⟨n0, n1, n2⟩ := num3 hN.out
                clear hb
                refine wpAnyH_ready (rs := [10]) (by kernel_rfl) (by simp) ?_
                refine AllReadyH.cons rfl (fun K hK => ?_) AllReadyH.nil
                go_simp
                rw [HWR.out]
                (refine (HAT.out _ (HT.out.below (hHeld.2.2.2.2.2.2.2).2) (HC.out.at_ (hHeld.2.2.2.2.2.2.2).2)).mono ?_; rintro e w7 ⟨v', ok', rfl, hA, hb⟩)
                refine hK.out _ _ ?_ (fun hHeld2 => ?_)
                · exact s7 (s1_call hHeld.2.2.2.2.2.2.2 hb)
                clear hK K hHeld
                have hHeld := hHeld2
                clear hHeld2
                try simp only [Act.put, List.getElem_toArray, List.getElem_cons_zero, List.getElem_cons_succ, List.setIfInBounds_toArray, List.set_cons_zero, List.set_cons_succ]
                clear n0 n1 n2
                have hN := Lib.hid (Blk.below (by exact hN.out) hb (by exact hN.out.lt))
                clear hb
                refine wpAnyH_take (i := 11) (v := ?v11n113) rfl (by kernel_rfl) (by kernel_rfl) (by kernel_rfl) (fun _ _ _ h => h) (Or.inl ⟨by rfl, ?hy11n113⟩) (by assumption) ?_
                case hy11n113 => (intro w hSw; (try dsimp only at hSw); go_simp; (try with_reducible rfl))
                try simp only [Act.put, List.getElem_toArray, List.getElem_cons_zero, List.getElem_cons_succ, List.setIfInBounds_toArray, List.set_cons_zero, List.set_cons_succ]
                refine wpAnyH_take (i := 12) (v := ?v12n114) rfl (by kernel_rfl) (by kernel_rfl) (by kernel_rfl) (fun _ _ _ h => h) (Or.inl ⟨by rfl, ?hy12n114⟩) (by assumption) ?_
                case hy12n114 => (intro w hSw; (try dsimp only at hSw); go_simp; (try with_reducible rfl))
                try simp only [Act.put, List.getElem_toArray, List.getElem_cons_zero, List.getElem_cons_succ, List.setIfInBounds_toArray, List.set_cons_zero, List.set_cons_succ]
                refine wpAnyH_take (i := 13) (v := ?v13n115) rfl (by kernel_rfl) (by kernel_rfl) (by kernel_rfl) (fun _ _ _ h => h) (Or.inl ⟨by rfl, ?hy13n115⟩) (by assumption) ?_
                case hy13n115 => (intro w hSw; (try dsimp only at hSw); go_simp; (try with_reducible rfl))
                try simp only [Act.put, List.getElem_toArray, List.getElem_cons_zero, List.getElem_cons_succ, List.setIfInBounds_toArray, List.set_cons_zero, List.set_cons_succ]
                refine wpAnyH_ready (rs := [14]) (by kernel_rfl) (by simp) ?_
                refine AllReadyH.cons rfl (fun K hK => ?_) AllReadyH.nil
                rw [if_pos (by rfl)]
                refine wp_store_row 43 (.tmp 8) (.tmp 62) (by rfl) k #[.int .i64 v'.y, .int .i64 v'.m, .int .i64 v'.d, .int .i64 v'.h, .int .i64 v'.i, .int .i64 v'.s] (by rfl) (by rfl) 43 #[.int .i64 v.y, .int .i64 v.m, .int .i64 v.d, .int .i64 v.h, .int .i64 v.i, .int .i64 v.s] (by exact hN.out) (by kernel_rfl) rfl (cells_all v') ?_
                refine hK.out _ _ ?_ (fun hHeld2 => ?_)
                · exact s7 (s1_row hHeld.2.2.2.2.2.2.2 (by omega) (by omega) _)
                clear hK K hHeld
                have hHeld := hHeld2
                clear hHeld2
                try simp only [Act.put, List.getElem_toArray, List.getElem_cons_zero, List.getElem_cons_succ]
                refine wpAnyH_take (i := 15) (v := ?v15n116) rfl (by kernel_rfl) (by kernel_rfl) (by kernel_rfl) (fun _ _ _ h => h) (Or.inl ⟨by rfl, ?hy15n116⟩) (by assumption) ?_
                case hy15n116 => (intro w hSw; (try dsimp only at hSw); go_simp; (try with_reducible rfl))
                try simp only [Act.put, List.getElem_toArray, List.getElem_cons_zero, List.getElem_cons_succ, List.setIfInBounds_toArray, List.set_cons_zero, List.set_cons_succ]
                refine wpAnyH_done (by kernel_rfl) ?_ _
                have HFI := Lib.hid (hHeld.2.2.2.2.2.2.2)
                have HRW := Lib.hid (hN.out.row #[.int .i64 v'.y, .int .i64 v'.m, .int .i64 v'.d, .int .i64 v'.h, .int .i64 v'.i, .int .i64 v'.s])
                have HAI := Lib.hid hA
                clear hHeld hA
                have HXN := Lib.hid (NxtIs.next HMM.out hX.out HNO.out HAI.out)
                have HFR := Lib.hid (loopFar_lt (v := v) (v' := v') (ok := ok') hNr.out HRW.out (fun e => NxtIs.far HMM.out hX.out (by rw [← e]; exact HAI.out)))
                go_wp2_with fail
                go_roundw
                case rel => exact ⟨ok', v', rfl, HXN, HRW, HFI.out.1, HFI.out.2⟩
                case measure => exact HFR.out
            · go_simp
              refine hK.out _ _ ?_ (fun hHeld2 => ?_)
              · exact s7 hHeld.2.2.2.2.2.2.2
              clear hK K hHeld
              have hHeld := hHeld2
              clear hHeld2
              try simp only [Act.put, List.getElem_toArray, List.getElem_cons_zero, List.getElem_cons_succ, List.setIfInBounds_toArray, List.set_cons_zero, List.set_cons_succ]
              refine wpAnyH_take (i := 8) (v := ?v8n117) rfl (by kernel_rfl) (by kernel_rfl) (by kernel_rfl) (fun _ _ _ h => h) (Or.inl ⟨by rfl, ?hy8n117⟩) (by assumption) ?_
              case hy8n117 => (intro w hSw; (try dsimp only at hSw); go_simp; (try with_reducible rfl))
              try simp only [Act.put, List.getElem_toArray, List.getElem_cons_zero, List.getElem_cons_succ, List.setIfInBounds_toArray, List.set_cons_zero, List.set_cons_succ]
              refine wpAnyH_ready (rs := [1, 3]) (by kernel_rfl) (by simp) ?_
              refine AllReadyH.cons rfl (fun K hK => ?_) (AllReadyH.cons rfl (fun K hK => ?_) AllReadyH.nil)
              · go_simp
                (refine (HLi.out _).mono ?_; rintro e w6 ⟨rfl, hb⟩)
                refine hK.out _ _ ?_ (fun hHeld2 => ?_)
                · exact s7 (s1_call hHeld.2.2.2.2.2.2.2 hb)
                clear hK K hHeld
                have hHeld := hHeld2
                clear hHeld2
                try simp only [Act.put, List.getElem_toArray, List.getElem_cons_zero, List.getElem_cons_succ, List.setIfInBounds_toArray, List.set_cons_zero, List.set_cons_succ]
                clear n0 n1 n2
                have hN := Lib.hid (Blk.below (by exact hN.out) hb (by exact hN.out.lt))
                obtain ⟨n0, n1, n2⟩ := num3 hN.out
                clear hb
                refine wpAnyH_ready (rs := [3]) (by kernel_rfl) (by simp) ?_
                refine AllReadyH.cons rfl (fun K hK => ?_) AllReadyH.nil
                go_simp
                refine hK.out _ _ ?_ (fun hHeld2 => ?_)
                · exact s7 hHeld.2.2.2.2.2.2.2
                clear hK K hHeld
                have hHeld := hHeld2
                clear hHeld2
                try simp only [Act.put, List.getElem_toArray, List.getElem_cons_zero, List.getElem_cons_succ, List.setIfInBounds_toArray, List.set_cons_zero, List.set_cons_succ]
                refine wpAnyH_take (i := 9) (v := ?v9n118) rfl (by kernel_rfl) (by kernel_rfl) (by kernel_rfl) (fun _ _ _ h => h) (Or.inl ⟨by rfl, ?hy9n118⟩) (by assumption) ?_
                case hy9n118 => (intro w hSw; (try dsimp only at hSw); go_simp; (try with_reducible rfl))
                try simp only [Act.put, List.getElem_toArray, List.getElem_cons_zero, List.getElem_cons_succ, List.setIfInBounds_toArray, List.set_cons_zero, List.set_cons_succ]
                refine wpAnyH_ready (rs := [10]) (by kernel_rfl) (by simp) ?_
                refine AllReadyH.cons rfl (fun K hK => ?_) AllReadyH.nil
                go_simp
                rw [HWR.out]
                (refine (HAT.out _ (HT.out.below (hHeld.2.2.2.2.2.2.2).2) (HC.out.at_ (hHeld.2.2.2.2.2.2.2).2)).mono ?_; rintro e w7 ⟨v', ok', rfl, hA, hb⟩)
                refine hK.out _ _ ?_ (fun hHeld2 => ?_)
                · exact s7 (s1_call hHeld.2.2.2.2.2.2.2 hb)
                clear hK K hHeld
                have hHeld := hHeld2
                clear hHeld2
                try simp only [Act.put, List.getElem_toArray, List.getElem_cons_zero, List.getElem_cons_succ, List.setIfInBounds_toArray, List.set_cons_zero, List.set_cons_succ]
                clear n0 n1 n2
                have hN := Lib.hid (Blk.below (by exact hN.out) hb (by exact hN.out.lt))
                clear hb
                refine wpAnyH_take (i := 11) (v := ?v11n119) rfl (by kernel_rfl) (by kernel_rfl) (by kernel_rfl) (fun _ _ _ h => h) (Or.inl ⟨by rfl, ?hy11n119⟩) (by assumption) ?_
                case hy11n119 => (intro w hSw; (try dsimp only at hSw); go_simp; (try with_reducible rfl))
                try simp only [Act.put, List.getElem_toArray, List.getElem_cons_zero, List.getElem_cons_succ, List.setIfInBounds_toArray, List.set_cons_zero, List.set_cons_succ]
                refine wpAnyH_take (i := 12) (v := ?v12n120) rfl (by kernel_rfl) (by kernel_rfl) (by kernel_rfl) (fun _ _ _ h => h) (Or.inl ⟨by rfl, ?hy12n120⟩) (by assumption) ?_
                case hy12n120 => (intro w hSw; (try dsimp only at hSw); go_simp; (try with_reducible rfl))
                try simp only [Act.put, List.getElem_toArray, List.getElem_cons_zero, List.getElem_cons_succ, List.setIfInBounds_toArray, List.set_cons_zero, List.set_cons_succ]
                refine wpAnyH_take (i := 13) (v := ?v13n121) rfl (by kernel_rfl) (by kernel_rfl) (by kernel_rfl) (fun _ _ _ h => h) (Or.inl ⟨by rfl, ?hy13n121⟩) (by assumption) ?_
                case hy13n121 => (intro w hSw; (try dsimp only at hSw); go_simp; (try with_reducible rfl))
                try simp only [Act.put, List.getElem_toArray, List.getElem_cons_zero, List.getElem_cons_succ, List.setIfInBounds_toArray, List.set_cons_zero, List.set_cons_succ]
                refine wpAnyH_ready (rs := [14]) (by kernel_rfl) (by simp) ?_
                refine AllReadyH.cons rfl (fun K hK => ?_) AllReadyH.nil
                rw [if_pos (by rfl)]
                refine wp_store_row 43 (.tmp 8) (.tmp 62) (by rfl) k #[.int .i64 v'.y, .int .i64 v'.m, .int .i64 v'.d, .int .i64 v'.h, .int .i64 v'.i, .int .i64 v'.s] (by rfl) (by rfl) 43 #[.int .i64 v.y, .int .i64 v.m, .int .i64 v.d, .int .i64 v.h, .int .i64 v.i, .int .i64 v.s] (by exact hN.out) (by kernel_rfl) rfl (cells_all v') ?_
                refine hK.out _ _ ?_ (fun hHeld2 => ?_)
                · exact s7 (s1_row hHeld.2.2.2.2.2.2.2 (by omega) (by omega) _)
                clear hK K hHeld
                have hHeld := hHeld2
                clear hHeld2
                try simp only [Act.put, List.getElem_toArray, List.getElem_cons_zero, List.getElem_cons_succ]
                refine wpAnyH_take (i := 15) (v := ?v15n122) rfl (by kernel_rfl) (by kernel_rfl) (by kernel_rfl) (fun _ _ _ h => h) (Or.inl ⟨by rfl, ?hy15n122⟩) (by assumption) ?_
                case hy15n122 => (intro w hSw; (try dsimp only at hSw); go_simp; (try with_reducible rfl))
                try simp only [Act.put, List.getElem_toArray, List.getElem_cons_zero, List.getElem_cons_succ, List.setIfInBounds_toArray, List.set_cons_zero, List.set_cons_succ]
                refine wpAnyH_done (by kernel_rfl) ?_ _
                have HFI := Lib.hid (hHeld.2.2.2.2.2.2.2)
                have HRW := Lib.hid (hN.out.row #[.int .i64 v'.y, .int .i64 v'.m, .int .i64 v'.d, .int .i64 v'.h, .int .i64 v'.i, .int .i64 v'.s])
                have HAI := Lib.hid hA
                clear hHeld hA
                have HXN := Lib.hid (NxtIs.next HMM.out hX.out HNO.out HAI.out)
                have HFR := Lib.hid (loopFar_lt (v := v) (v' := v') (ok := ok') hNr.out HRW.out (fun e => NxtIs.far HMM.out hX.out (by rw [← e]; exact HAI.out)))
                go_wp2_with fail
                go_roundw
                case rel => exact ⟨ok', v', rfl, HXN, HRW, HFI.out.1, HFI.out.2⟩
                case measure => exact HFR.out
              · go_simp
                refine hK.out _ _ ?_ (fun hHeld2 => ?_)
                · exact s7 hHeld.2.2.2.2.2.2.2
                clear hK K hHeld
                have hHeld := hHeld2
                clear hHeld2
                try simp only [Act.put, List.getElem_toArray, List.getElem_cons_zero, List.getElem_cons_succ, List.setIfInBounds_toArray, List.set_cons_zero, List.set_cons_succ]
                refine wpAnyH_take (i := 9) (v := ?v9n123) rfl (by kernel_rfl) (by kernel_rfl) (by kernel_rfl) (fun _ _ _ h => h) (Or.inl ⟨by rfl, ?hy9n123⟩) (by assumption) ?_
                case hy9n123 => (intro w hSw; (try dsimp only at hSw); go_simp; (try with_reducible rfl))
                try simp only [Act.put, List.getElem_toArray, List.getElem_cons_zero, List.getElem_cons_succ, List.setIfInBounds_toArray, List.set_cons_zero, List.set_cons_succ]
                refine wpAnyH_ready (rs := [1]) (by kernel_rfl) (by simp) ?_
                refine AllReadyH.cons rfl (fun K hK => ?_) AllReadyH.nil
                go_simp
                (refine (HLi.out _).mono ?_; rintro e w6 ⟨rfl, hb⟩)
                refine hK.out _ _ ?_ (fun hHeld2 => ?_)
                · exact s7 (s1_call hHeld.2.2.2.2.2.2.2 hb)
                clear hK K hHeld
                have hHeld := hHeld2
                clear hHeld2
                try simp only [Act.put, List.getElem_toArray, List.getElem_cons_zero, List.getElem_cons_succ, List.setIfInBounds_toArray, List.set_cons_zero, List.set_cons_succ]
                clear n0 n1 n2
                have hN := Lib.hid (Blk.below (by exact hN.out) hb (by exact hN.out.lt))
                obtain ⟨n0, n1, n2⟩ := num3 hN.out
                clear hb
                refine wpAnyH_ready (rs := [10]) (by kernel_rfl) (by simp) ?_
                refine AllReadyH.cons rfl (fun K hK => ?_) AllReadyH.nil
                go_simp
                rw [HWR.out]
                (refine (HAT.out _ (HT.out.below (hHeld.2.2.2.2.2.2.2).2) (HC.out.at_ (hHeld.2.2.2.2.2.2.2).2)).mono ?_; rintro e w7 ⟨v', ok', rfl, hA, hb⟩)
                refine hK.out _ _ ?_ (fun hHeld2 => ?_)
                · exact s7 (s1_call hHeld.2.2.2.2.2.2.2 hb)
                clear hK K hHeld
                have hHeld := hHeld2
                clear hHeld2
                try simp only [Act.put, List.getElem_toArray, List.getElem_cons_zero, List.getElem_cons_succ, List.setIfInBounds_toArray, List.set_cons_zero, List.set_cons_succ]
                clear n0 n1 n2
                have hN := Lib.hid (Blk.below (by exact hN.out) hb (by exact hN.out.lt))
                clear hb
                refine wpAnyH_take (i := 11) (v := ?v11n124) rfl (by kernel_rfl) (by kernel_rfl) (by kernel_rfl) (fun _ _ _ h => h) (Or.inl ⟨by rfl, ?hy11n124⟩) (by assumption) ?_
                case hy11n124 => (intro w hSw; (try dsimp only at hSw); go_simp; (try with_reducible rfl))
                try simp only [Act.put, List.getElem_toArray, List.getElem_cons_zero, List.getElem_cons_succ, List.setIfInBounds_toArray, List.set_cons_zero, List.set_cons_succ]
                refine wpAnyH_take (i := 12) (v := ?v12n125) rfl (by kernel_rfl) (by kernel_rfl) (by kernel_rfl) (fun _ _ _ h => h) (Or.inl ⟨by rfl, ?hy12n125⟩) (by assumption) ?_
                case hy12n125 => (intro w hSw; (try dsimp only at hSw); go_simp; (try with_reducible rfl))
                try simp only [Act.put, List.getElem_toArray, List.getElem_cons_zero, List.getElem_cons_succ, List.setIfInBounds_toArray, List.set_cons_zero, List.set_cons_succ]
                refine wpAnyH_take (i := 13) (v := ?v13n126) rfl (by kernel_rfl) (by kernel_rfl) (by kernel_rfl) (fun _ _ _ h => h) (Or.inl ⟨by rfl, ?hy13n126⟩) (by assumption) ?_
                case hy13n126 => (intro w hSw; (try dsimp only at hSw); go_simp; (try with_reducible rfl))
                try simp only [Act.put, List.getElem_toArray, List.getElem_cons_zero, List.getElem_cons_succ, List.setIfInBounds_toArray, List.set_cons_zero, List.set_cons_succ]
                refine wpAnyH_ready (rs := [14]) (by kernel_rfl) (by simp) ?_
                refine AllReadyH.cons rfl (fun K hK => ?_) AllReadyH.nil
                rw [if_pos (by rfl)]
                refine wp_store_row 43 (.tmp 8) (.tmp 62) (by rfl) k #[.int .i64 v'.y, .int .i64 v'.m, .int .i64 v'.d, .int .i64 v'.h, .int .i64 v'.i, .int .i64 v'.s] (by rfl) (by rfl) 43 #[.int .i64 v.y, .int .i64 v.m, .int .i64 v.d, .int .i64 v.h, .int .i64 v.i, .int .i64 v.s] (by exact hN.out) (by kernel_rfl) rfl (cells_all v') ?_
                refine hK.out _ _ ?_ (fun hHeld2 => ?_)
                · exact s7 (s1_row hHeld.2.2.2.2.2.2.2 (by omega) (by omega) _)
                clear hK K hHeld
                have hHeld := hHeld2
                clear hHeld2
                try simp only [Act.put, List.getElem_toArray, List.getElem_cons_zero, List.getElem_cons_succ]
                refine wpAnyH_take (i := 15) (v := ?v15n127) rfl (by kernel_rfl) (by kernel_rfl) (by kernel_rfl) (fun _ _ _ h => h) (Or.inl ⟨by rfl, ?hy15n127⟩) (by assumption) ?_
                case hy15n127 => (intro w hSw; (try dsimp only at hSw); go_simp; (try with_reducible rfl))
                try simp only [Act.put, List.getElem_toArray, List.getElem_cons_zero, List.getElem_cons_succ, List.setIfInBounds_toArray, List.set_cons_zero, List.set_cons_succ]
                refine wpAnyH_done (by kernel_rfl) ?_ _
                have HFI := Lib.hid (hHeld.2.2.2.2.2.2.2)
                have HRW := Lib.hid (hN.out.row #[.int .i64 v'.y, .int .i64 v'.m, .int .i64 v'.d, .int .i64 v'.h, .int .i64 v'.i, .int .i64 v'.s])
                have HAI := Lib.hid hA
                clear hHeld hA
                have HXN := Lib.hid (NxtIs.next HMM.out hX.out HNO.out HAI.out)
                have HFR := Lib.hid (loopFar_lt (v := v) (v' := v') (ok := ok') hNr.out HRW.out (fun e => NxtIs.far HMM.out hX.out (by rw [← e]; exact HAI.out)))
                go_wp2_with fail
                go_roundw
                case rel => exact ⟨ok', v', rfl, HXN, HRW, HFI.out.1, HFI.out.2⟩
                case measure => exact HFR.out
          · go_simp
            refine hK.out _ _ ?_ (fun hHeld2 => ?_)
            · exact s7 hHeld.2.2.2.2.2.2.2
            clear hK K hHeld
            have hHeld := hHeld2
            clear hHeld2
            try simp only [Act.put, List.getElem_toArray, List.getElem_cons_zero, List.getElem_cons_succ, List.setIfInBounds_toArray, List.set_cons_zero, List.set_cons_succ]
            refine wpAnyH_take (i := 8) (v := ?v8n128) rfl (by kernel_rfl) (by kernel_rfl) (by kernel_rfl) (fun _ _ _ h => h) (Or.inl ⟨by rfl, ?hy8n128⟩) (by assumption) ?_
            case hy8n128 => (intro w hSw; (try dsimp only at hSw); go_simp; (try with_reducible rfl))
            try simp only [Act.put, List.getElem_toArray, List.getElem_cons_zero, List.getElem_cons_succ, List.setIfInBounds_toArray, List.set_cons_zero, List.set_cons_succ]
            refine wpAnyH_ready (rs := [1, 3, 5]) (by kernel_rfl) (by simp) ?_
            refine AllReadyH.cons rfl (fun K hK => ?_) (AllReadyH.cons rfl (fun K hK => ?_) (AllReadyH.cons rfl (fun K hK => ?_) AllReadyH.nil))
            · go_simp
              (refine (HLi.out _).mono ?_; rintro e w6 ⟨rfl, hb⟩)
              refine hK.out _ _ ?_ (fun hHeld2 => ?_)
              · exact s7 (s1_call hHeld.2.2.2.2.2.2.2 hb)
              clear hK K hHeld
              have hHeld := hHeld2
              clear hHeld2
              try simp only [Act.put, List.getElem_toArray, List.getElem_cons_zero, List.getElem_cons_succ, List.setIfInBounds_toArray, List.set_cons_zero, List.set_cons_succ]
              clear n0 n1 n2
              have hN := Lib.hid (Blk.below (by exact hN.out) hb (by exact hN.out.lt))
              obtain ⟨n0, n1, n2⟩ := num3 hN.out
              clear hb
              refine wpAnyH_ready (rs := [3, 5]) (by kernel_rfl) (by simp) ?_
              refine AllReadyH.cons rfl (fun K hK => ?_) (AllReadyH.cons rfl (fun K hK => ?_) AllReadyH.nil)
              · go_simp
                refine hK.out _ _ ?_ (fun hHeld2 => ?_)
                · exact s7 hHeld.2.2.2.2.2.2.2
                clear hK K hHeld
                have hHeld := hHeld2
                clear hHeld2
                try simp only [Act.put, List.getElem_toArray, List.getElem_cons_zero, List.getElem_cons_succ, List.setIfInBounds_toArray, List.set_cons_zero, List.set_cons_succ]
                refine wpAnyH_ready (rs := [5]) (by kernel_rfl) (by simp) ?_
                refine AllReadyH.cons rfl (fun K hK => ?_) AllReadyH.nil
                go_simp
                refine hK.out _ _ ?_ (fun hHeld2 => ?_)
                · exact s7 hHeld.2.2.2.2.2.2.2
                clear hK K hHeld
                have hHeld := hHeld2
                clear hHeld2
                try simp only [Act.put, List.getElem_toArray, List.getElem_cons_zero, List.getElem_cons_succ, List.setIfInBounds_toArray, List.set_cons_zero, List.set_cons_succ]
                refine wpAnyH_take (i := 9) (v := ?v9n129) rfl (by kernel_rfl) (by kernel_rfl) (by kernel_rfl) (fun _ _ _ h => h) (Or.inl ⟨by rfl, ?hy9n129⟩) (by assumption) ?_
                case hy9n129 => (intro w hSw; (try dsimp only at hSw); go_simp; (try with_reducible rfl))
                try simp only [Act.put, List.getElem_toArray, List.getElem_cons_zero, List.getElem_cons_succ, List.setIfInBounds_toArray, List.set_cons_zero, List.set_cons_succ]
                refine wpAnyH_ready (rs := [10]) (by kernel_rfl) (by simp) ?_
                refine AllReadyH.cons rfl (fun K hK => ?_) AllReadyH.nil
                go_simp
                rw [HWR.out]
                (refine (HAT.out _ (HT.out.below (hHeld.2.2.2.2.2.2.2).2) (HC.out.at_ (hHeld.2.2.2.2.2.2.2).2)).mono ?_; rintro e w7 ⟨v', ok', rfl, hA, hb⟩)
                refine hK.out _ _ ?_ (fun hHeld2 => ?_)
                · exact s7 (s1_call hHeld.2.2.2.2.2.2.2 hb)
                clear hK K hHeld
                have hHeld := hHeld2
                clear hHeld2
                try simp only [Act.put, List.getElem_toArray, List.getElem_cons_zero, List.getElem_cons_succ, List.setIfInBounds_toArray, List.set_cons_zero, List.set_cons_succ]
                clear n0 n1 n2
                have hN := Lib.hid (Blk.below (by exact hN.out) hb (by exact hN.out.lt))
                clear hb
                refine wpAnyH_take (i := 11) (v := ?v11n130) rfl (by kernel_rfl) (by kernel_rfl) (by kernel_rfl) (fun _ _ _ h => h) (Or.inl ⟨by rfl, ?hy11n130⟩) (by assumption) ?_
                case hy11n130 => (intro w hSw; (try dsimp only at hSw); go_simp; (try with_reducible rfl))
                try simp only [Act.put, List.getElem_toArray, List.getElem_cons_zero, List.getElem_cons_succ, List.setIfInBounds_toArray, List.set_cons_zero, List.set_cons_succ]
                refine wpAnyH_take (i := 12) (v := ?v12n131) rfl (by kernel_rfl) (by kernel_rfl) (by kernel_rfl) (fun _ _ _ h => h) (Or.inl ⟨by rfl, ?hy12n131⟩) (by assumption) ?_
                case hy12n131 => (intro w hSw; (try dsimp only at hSw); go_simp; (try with_reducible rfl))
                try simp only [Act.put, List.getElem_toArray, List.getElem_cons_zero, List.getElem_cons_succ, List.setIfInBounds_toArray, List.set_cons_zero, List.set_cons_succ]
                refine wpAnyH_take (i := 13) (v := ?v13n132) rfl (by kernel_rfl) (by kernel_rfl) (by kernel_rfl) (fun _ _ _ h => h) (Or.inl ⟨by rfl, ?hy13n132⟩) (by assumption) ?_
                case hy13n132 => (intro w hSw; (try dsimp only at hSw); go_simp; (try with_reducible rfl))
                try simp only [Act.put, List.getElem_toArray, List.getElem_cons_zero, List.getElem_cons_succ, List.setIfInBounds_toArray, List.set_cons_zero, List.set_cons_succ]
                refine wpAnyH_ready (rs := [14]) (by kernel_rfl) (by simp) ?_
                refine AllReadyH.cons rfl (fun K hK => ?_) AllReadyH.nil
                rw [if_pos (by rfl)]
                refine wp_store_row 43 (.tmp 8) (.tmp 62) (by rfl) k #[.int .i64 v'.y, .int .i64 v'.m, .int .i64 v'.d, .int .i64 v'.h, .int .i64 v'.i, .int .i64 v'.s] (by rfl) (by rfl) 43 #[.int .i64 v.y, .int .i64 v.m, .int .i64 v.d, .int .i64 v.h, .int .i64 v.i, .int .i64 v.s] (by exact hN.out) (by kernel_rfl) rfl (cells_all v') ?_
                refine hK.out _ _ ?_ (fun hHeld2 => ?_)
                · exact s7 (s1_row hHeld.2.2.2.2.2.2.2 (by omega) (by omega) _)
                clear hK K hHeld
                have hHeld := hHeld2
                clear hHeld2
                try simp only [Act.put, List.getElem_toArray, List.getElem_cons_zero, List.getElem_cons_succ]
                refine wpAnyH_take (i := 15) (v := ?v15n133) rfl (by kernel_rfl) (by kernel_rfl) (by kernel_rfl) (fun _ _ _ h => h) (Or.inl ⟨by rfl, ?hy15n133⟩) (by assumption) ?_
                case hy15n133 => (intro w hSw; (try dsimp only at hSw); go_simp; (try with_reducible rfl))
                try simp only [Act.put, List.getElem_toArray, List.getElem_cons_zero, List.getElem_cons_succ, List.setIfInBounds_toArray, List.set_cons_zero, List.set_cons_succ]
                refine wpAnyH_done (by kernel_rfl) ?_ _
                have HFI := Lib.hid (hHeld.2.2.2.2.2.2.2)
                have HRW := Lib.hid (hN.out.row #[.int .i64 v'.y, .int .i64 v'.m, .int .i64 v'.d, .int .i64 v'.h, .int .i64 v'.i, .int .i64 v'.s])
                have HAI := Lib.hid hA
                clear hHeld hA
                have HXN := Lib.hid (NxtIs.next HMM.out hX.out HNO.out HAI.out)
                have HFR := Lib.hid (loopFar_lt (v := v) (v' := v') (ok := ok') hNr.out HRW.out (fun e => NxtIs.far HMM.out hX.out (by rw [← e]; exact HAI.out)))
                go_wp2_with fail
                go_roundw
                case rel => exact ⟨ok', v', rfl, HXN, HRW, HFI.out.1, HFI.out.2⟩
                case measure => exact HFR.out
              · go_simp
                refine hK.out _ _ ?_ (fun hHeld2 => ?_)
                · exact s7 hHeld.2.2.2.2.2.2.2
                clear hK K hHeld
                have hHeld := hHeld2
                clear hHeld2
                try simp only [Act.put, List.getElem_toArray, List.getElem_cons_zero, List.getElem_cons_succ, List.setIfInBounds_toArray, List.set_cons_zero, List.set_cons_succ]
                refine wpAnyH_ready (rs := [3]) (by kernel_rfl) (by simp) ?_
                refine AllReadyH.cons rfl (fun K hK => ?_) AllReadyH.nil
                go_simp
                refine hK.out _ _ ?_ (fun hHeld2 => ?_)
                · exact s7 hHeld.2.2.2.2.2.2.2
                clear hK K hHeld
                have hHeld := hHeld2
                clear hHeld2
                try simp only [Act.put, List.getElem_toArray, List.getElem_cons_zero, List.getElem_cons_succ, List.setIfInBounds_toArray, List.set_cons_zero, List.set_cons_succ]
                refine wpAnyH_take (i := 9) (v := ?v9n134) rfl (by kernel_rfl) (by kernel_rfl) (by kernel_rfl) (fun _ _ _ h => h) (Or.inl ⟨by rfl, ?hy9n134⟩) (by assumption) ?_
                case hy9n134 => (intro w hSw; (try dsimp only at hSw); go_simp; (try with_reducible rfl))
                try simp only [Act.put, List.getElem_toArray, List.getElem_cons_zero, List.getElem_cons_succ, List.setIfInBounds_toArray, List.set_cons_zero, List.set_cons_succ]
                refine wpAnyH_ready (rs := [10]) (by kernel_rfl) (by simp) ?_
                refine AllReadyH.cons rfl (fun K hK => ?_) AllReadyH.nil
                go_simp
                rw [HWR.out]
                (refine (HAT.out _ (HT.out.below (hHeld.2.2.2.2.2.2.2).2) (HC.out.at_ (hHeld.2.2.2.2.2.2.2).2)).mono ?_; rintro e w7 ⟨v', ok', rfl, hA, hb⟩)
                refine hK.out _ _ ?_ (fun hHeld2 => ?_)
                · exact s7 (s1_call hHeld.2.2.2.2.2.2.2 hb)
                clear hK K hHeld
                have hHeld := hHeld2
                clear hHeld2
                try simp only [Act.put, List.getElem_toArray, List.getElem_cons_zero, List.getElem_cons_succ, List.setIfInBounds_toArray, List.set_cons_zero, List.set_cons_succ]
                clear n0 n1 n2
                have hN := Lib.hid (Blk.below (by exact hN.out) hb (by exact hN.out.lt))
                clear hb
                refine wpAnyH_take (i := 11) (v := ?v11n135) rfl (by kernel_rfl) (by kernel_rfl) (by kernel_rfl) (fun _ _ _ h => h) (Or.inl ⟨by rfl, ?hy11n135⟩) (by assumption) ?_
                case hy11n135 => (intro w hSw; (try dsimp only at hSw); go_simp; (try with_reducible rfl))
                try simp only [Act.put, List.getElem_toArray, List.getElem_cons_zero, List.getElem_cons_succ, List.setIfInBounds_toArray, List.set_cons_zero, List.set_cons_succ]
                refine wpAnyH_take (i := 12) (v := ?v12n136) rfl (by kernel_rfl) (by kernel_rfl) (by kernel_rfl) (fun _ _ _ h => h) (Or.inl ⟨by rfl, ?hy12n136⟩) (by assumption) ?_
                case hy12n136 => (intro w hSw; (try dsimp only at hSw); go_simp; (try with_reducible rfl))
                try simp only [Act.put, List.getElem_toArray, List.getElem_cons_zero, List.getElem_cons_succ, List.setIfInBounds_toArray, List.set_cons_zero, List.set_cons_succ]
                refine wpAnyH_take (i := 13) (v := ?v13n137) rfl (by kernel_rfl) (by kernel_rfl) (by kernel_rfl) (fun _ _ _ h => h) (Or.inl ⟨by rfl, ?hy13n137⟩) (by assumption) ?_
                case hy13n137 => (intro w hSw; (try dsimp only at hSw); go_simp; (try with_reducible rfl))
                try simp only [Act.put, List.getElem_toArray, List.getElem_cons_zero, List.getElem_cons_succ, List.setIfInBounds_toArray, List.set_cons_zero, List.set_cons_succ]
                refine wpAnyH_ready (rs := [14]) (by kernel_rfl) (by simp) ?_
                refine AllReadyH.cons rfl (fun K hK => ?_) AllReadyH.nil
                rw [if_pos (by rfl)]
                refine wp_store_row 43 (.tmp 8) (.tmp 62) (by rfl) k #[.int .i64 v'.y, .int .i64 v'.m, .int .i64 v'.d, .int .i64 v'.h, .int .i64 v'.i, .int .i64 v'.s] (by rfl) (by rfl) 43 #[.int .i64 v.y, .int .i64 v.m, .int .i64 v.d, .int .i64 v.h, .int .i64 v.i, .int .i64 v.s] (by exact hN.out) (by kernel_rfl) rfl (cells_all v') ?_
                refine hK.out _ _ ?_ (fun hHeld2 => ?_)
                · exact s7 (s1_row hHeld.2.2.2.2.2.2.2 (by omega) (by omega) _)
                clear hK K hHeld
                have hHeld := hHeld2
                clear hHeld2
                try simp only [Act.put, List.getElem_toArray, List.getElem_cons_zero, List.getElem_cons_succ]
                refine wpAnyH_take (i := 15) (v := ?v15n138) rfl (by kernel_rfl) (by kernel_rfl) (by kernel_rfl) (fun _ _ _ h => h) (Or.inl ⟨by rfl, ?hy15n138⟩) (by assumption) ?_
                case hy15n138 => (intro w hSw; (try dsimp only at hSw); go_simp; (try with_reducible rfl))
                try simp only [Act.put, List.getElem_toArray, List.getElem_cons_zero, List.getElem_cons_succ, List.setIfInBounds_toArray, List.set_cons_zero, List.set_cons_succ]
                refine wpAnyH_done (by kernel_rfl) ?_ _
                have HFI := Lib.hid (hHeld.2.2.2.2.2.2.2)
                have HRW := Lib.hid (hN.out.row #[.int .i64 v'.y, .int .i64 v'.m, .int .i64 v'.d, .int .i64 v'.h, .int .i64 v'.i, .int .i64 v'.s])
                have HAI := Lib.hid hA
                clear hHeld hA
                have HXN := Lib.hid (NxtIs.next HMM.out hX.out HNO.out HAI.out)
                have HFR := Lib.hid (loopFar_lt (v := v) (v' := v') (ok := ok') hNr.out HRW.out (fun e => NxtIs.far HMM.out hX.out (by rw [← e]; exact HAI.out)))
                go_wp2_with fail
                go_roundw
                case rel => exact ⟨ok', v', rfl, HXN, HRW, HFI.out.1, HFI.out.2⟩
                case measure => exact HFR.out
            · go_simp
              refine hK.out _ _ ?_ (fun hHeld2 => ?_)
              · exact s7 hHeld.2.2.2.2.2.2.2
              clear hK K hHeld
              have hHeld := hHeld2
              clear hHeld2
              try simp only [Act.put, List.getElem_toArray, List.getElem_cons_zero, List.getElem_cons_succ, List.setIfInBounds_toArray, List.set_cons_zero, List.set_cons_succ]
              refine wpAnyH_ready (rs := [1, 5]) (by kernel_rfl) (by simp) ?_
              refine AllReadyH.cons rfl (fun K hK => ?_) (AllReadyH.cons rfl (fun K hK => ?_) AllReadyH.nil)
              · go_simp
                (refine (HLi.out _).mono ?_; rintro e w6 ⟨rfl, hb⟩)
                refine hK.out _ _ ?_ (fun hHeld2 => ?_)
                · exact s7 (s1_call hHeld.2.2.2.2.2.2.2 hb)
                clear hK K hHeld
                have hHeld := hHeld2
                clear hHeld2
                try simp only [Act.put, List.getElem_toArray, List.getElem_cons_zero, List.getElem_cons_succ, List.setIfInBounds_toArray, List.set_cons_zero, List.set_cons_succ]
                clear n0 n1 n2
                have hN := Lib.hid (Blk.below (by exact hN.out) hb (by exact hN.out.lt))
                obtain ⟨n0, n1, n2⟩ := num3 hN.out
                clear hb
                refine wpAnyH_ready (rs := [5]) (by kernel_rfl) (by simp) ?_
                refine AllReadyH.cons rfl (fun K hK => ?_) AllReadyH.nil
                go_simp
                refine hK.out _ _ ?_ (fun hHeld2 => ?_)
                · exact s7 hHeld.2.2.2.2.2.2.2
                clear hK K hHeld
                have hHeld := hHeld2
                clear hHeld2
                try simp only [Act.put, List.getElem_toArray, List.getElem_cons_zero, List.getElem_cons_succ, List.setIfInBounds_toArray, List.set_cons_zero, List.set_cons_succ]
                refine wpAnyH_take (i := 9) (v := ?v9n139) rfl (by kernel_rfl) (by kernel_rfl) (by kernel_rfl) (fun _ _ _ h => h) (Or.inl ⟨by rfl, ?hy9n139⟩) (by assumption) ?_
                case hy9n139 => (intro w hSw; (try dsimp only at hSw); go_simp; (try with_reducible rfl))
                try simp only [Act.put, List.getElem_toArray, List.getElem_cons_zero, List.getElem_cons_succ, List.setIfInBounds_toArray, List.set_cons_zero, List.set_cons_succ]
                refine wpAnyH_ready (rs := [10]) (by kernel_rfl) (by simp) ?_
                refine AllReadyH.cons rfl (fun K hK => ?_) AllReadyH.nil
                go_simp
                rw [HWR.out]
                (refine (HAT.out _ (HT.out.below (hHeld.2.2.2.2.2.2.2).2) (HC.out.at_ (hHeld.2.2.2.2.2.2.2).2)).mono ?_; rintro e w7 ⟨v', ok', rfl, hA, hb⟩)
                refine hK.out _ _ ?_ (fun hHeld2 => ?_)
                · exact s7 (s1_call hHeld.2.2.2.2.2.2.2 hb)
                clear hK K hHeld
                have hHeld := hHeld2
                clear hHeld2
                try simp only [Act.put, List.getElem_toArray, List.getElem_cons_zero, List.getElem_cons_succ, List.setIfInBounds_toArray, List.set_cons_zero, List.set_cons_succ]
                clear n0 n1 n2
                have hN := Lib.hid (Blk.below (by exact hN.out) hb (by exact hN.out.lt))
                clear hb
                refine wpAnyH_take (i := 11) (v := ?v11n140) rfl (by kernel_rfl) (by kernel_rfl) (by kernel_rfl) (fun _ _ _ h => h) (Or.inl ⟨by rfl, ?hy11n140⟩) (by assumption) ?_
                case hy11n140 => (intro w hSw; (try dsimp only at hSw); go_simp; (try with_reducible rfl))
                try simp only [Act.put, List.getElem_toArray, List.getElem_cons_zero, List.getElem_cons_succ, List.setIfInBounds_toArray, List.set_cons_zero, List.set_cons_succ]
                refine wpAnyH_take (i := 12) (v := ?v12n141) rfl (by kernel_rfl) (by kernel_rfl) (by kernel_rfl) (fun _ _ _ h => h) (Or.inl ⟨by rfl, ?hy12n141⟩) (by assumption) ?_
                case hy12n141 => (intro w hSw; (try dsimp only at hSw); go_simp; (try with_reducible rfl))
                try simp only [Act.put, List.getElem_toArray, List.getElem_cons_zero, List.getElem_cons_succ, List.setIfInBounds_toArray, List.set_cons_zero, List.set_cons_succ]
                refine wpAnyH_take (i := 13) (v := ?v13n142) rfl (by kernel_rfl) (by kernel_rfl) (by kernel_rfl) (fun _ _ _ h => h) (Or.inl ⟨by rfl, ?hy13n142⟩) (by assumption) ?_
                case hy13n142 => (intro w hSw; (try dsimp only at hSw); go_simp; (try with_reducible rfl))
                try simp only [Act.put, List.getElem_toArray, List.getElem_cons_zero, List.getElem_cons_succ, List.setIfInBounds_toArray, List.set_cons_zero, List.set_cons_succ]
                refine wpAnyH_ready (rs := [14]) (by kernel_rfl) (by simp) ?_
                refine AllReadyH.cons rfl (fun K hK => ?_) AllReadyH.nil
                rw [if_pos (by rfl)]
                refine wp_store_row 43 (.tmp 8) (.tmp 62) (by rfl) k #[.int .i64 v'.y, .int .i64 v'.m, .int .i64 v'.d, .int .i64 v'.h, .int .i64 v'.i, .int .i64 v'.s] (by rfl) (by rfl) 43 #[.int .i64 v.y, .int .i64 v.m, .int .i64 v.d, .int .i64 v.h, .int .i64 v.i, .int .i64 v.s] (by exact hN.out) (by kernel_rfl) rfl (cells_all v') ?_
                refine hK.out _ _ ?_ (fun hHeld2 => ?_)
                · exact s7 (s1_row hHeld.2.2.2.2.2.2.2 (by omega) (by omega) _)
                clear hK K hHeld
                have hHeld := hHeld2
                clear hHeld2
                try simp only [Act.put, List.getElem_toArray, List.getElem_cons_zero, List.getElem_cons_succ]
                refine wpAnyH_take (i := 15) (v := ?v15n143) rfl (by kernel_rfl) (by kernel_rfl) (by kernel_rfl) (fun _ _ _ h => h) (Or.inl ⟨by rfl, ?hy15n143⟩) (by assumption) ?_
                case hy15n143 => (intro w hSw; (try dsimp only at hSw); go_simp; (try with_reducible rfl))
                try simp only [Act.put, List.getElem_toArray, List.getElem_cons_zero, List.getElem_cons_succ, List.setIfInBounds_toArray, List.set_cons_zero, List.set_cons_succ]
                refine wpAnyH_done (by kernel_rfl) ?_ _
                have HFI := Lib.hid (hHeld.2.2.2.2.2.2.2)
                have HRW := Lib.hid (hN.out.row #[.int .i64 v'.y, .int .i64 v'.m, .int .i64 v'.d, .int .i64 v'.h, .int .i64 v'.i, .int .i64 v'.s])
                have HAI := Lib.hid hA
                clear hHeld hA
                have HXN := Lib.hid (NxtIs.next HMM.out hX.out HNO.out HAI.out)
                have HFR := Lib.hid (loopFar_lt (v := v) (v' := v') (ok := ok') hNr.out HRW.out (fun e => NxtIs.far HMM.out hX.out (by rw [← e]; exact HAI.out)))
                go_wp2_with fail
                go_roundw
                case rel => exact ⟨ok', v', rfl, HXN, HRW, HFI.out.1, HFI.out.2⟩
                case measure => exact HFR.out
              · go_simp
                refine hK.out _ _ ?_ (fun hHeld2 => ?_)
                · exact s7 hHeld.2.2.2.2.2.2.2
                clear hK K hHeld
                have hHeld := hHeld2
                clear hHeld2
                try simp only [Act.put, List.getElem_toArray, List.getElem_cons_zero, List.getElem_cons_succ, List.setIfInBounds_toArray, List.set_cons_zero, List.set_cons_succ]
                refine wpAnyH_take (i := 9) (v := ?v9n144) rfl (by kernel_rfl) (by kernel_rfl) (by kernel_rfl) (fun _ _ _ h => h) (Or.inl ⟨by rfl, ?hy9n144⟩) (by assumption) ?_
                case hy9n144 => (intro w hSw; (try dsimp only at hSw); go_simp; (try with_reducible rfl))
                try simp only [Act.put, List.getElem_toArray, List.getElem_cons_zero, List.getElem_cons_succ, List.setIfInBounds_toArray, List.set_cons_zero, List.set_cons_succ]
                refine wpAnyH_ready (rs := [1]) (by kernel_rfl) (by simp) ?_
                refine AllReadyH.cons rfl (fun K hK => ?_) AllReadyH.nil
                go_simp
                (refine (HLi.out _).mono ?_; rintro e w6 ⟨rfl, hb⟩)
                refine hK.out _ _ ?_ (fun hHeld2 => ?_)
                · exact s7 (s1_call hHeld.2.2.2.2.2.2.2 hb)
                clear hK K hHeld
                have hHeld := hHeld2
                clear hHeld2
                try simp only [Act.put, List.getElem_toArray, List.getElem_cons_zero, List.getElem_cons_succ, List.setIfInBounds_toArray, List.set_cons_zero, List.set_cons_succ]
                clear n0 n1 n2
                have hN := Lib.hid (Blk.below (by exact hN.out) hb (by exact hN.out.lt))
                obtain ⟨n0, n1, n2⟩ := num3 hN.out
                clear hb
                refine wpAnyH_ready (rs := [10]) (by kernel_rfl) (by simp) ?_
                refine AllReadyH.cons rfl (fun K hK => ?_) AllReadyH.nil
                go_simp
                rw [HWR.out]
                (refine (HAT.out _ (HT.out.below (hHeld.2.2.2.2.2.2.2).2) (HC.out.at_ (hHeld.2.2.2.2.2.2.2).2)).mono ?_; rintro e w7 ⟨v', ok', rfl, hA, hb⟩)
                refine hK.out _ _ ?_ (fun hHeld2 => ?_)
                · exact s7 (s1_call hHeld.2.2.2.2.2.2.2 hb)
                clear hK K hHeld
                have hHeld := hHeld2
                clear hHeld2
                try simp only [Act.put, List.getElem_toArray, List.getElem_cons_zero, List.getElem_cons_succ, List.setIfInBounds_toArray, List.set_cons_zero, List.set_cons_succ]
                clear n0 n1 n2
                have hN := Lib.hid (Blk.below (by exact hN.out) hb (by exact hN.out.lt))
                clear hb
                refine wpAnyH_take (i := 11) (v := ?v11n145) rfl (by kernel_rfl) (by kernel_rfl) (by kernel_rfl) (fun _ _ _ h => h) (Or.inl ⟨by rfl, ?hy11n145⟩) (by assumption) ?_
                case hy11n145 => (intro w hSw; (try dsimp only at hSw); go_simp; (try with_reducible rfl))
                try simp only [Act.put, List.getElem_toArray, List.getElem_cons_zero, List.getElem_cons_succ, List.setIfInBounds_toArray, List.set_cons_zero, List.set_cons_succ]
                refine wpAnyH_take (i := 12) (v := ?v12n146) rfl (by kernel_rfl) (by kernel_rfl) (by kernel_rfl) (fun _ _ _ h => h) (Or.inl ⟨by rfl, ?hy12n146⟩) (by assumption) ?_
                case hy12n146 => (intro w hSw; (try dsimp only at hSw); go_simp; (try with_reducible rfl))
                try simp only [Act.put, List.getElem_toArray, List.getElem_cons_zero, List.getElem_cons_succ, List.setIfInBounds_toArray, List.set_cons_zero, List.set_cons_succ]
                refine wpAnyH_take (i := 13) (v := ?v13n147) rfl (by kernel_rfl) (by kernel_rfl) (by kernel_rfl) (fun _ _ _ h => h) (Or.inl ⟨by rfl, ?hy13n147⟩) (by assumption) ?_
                case hy13n147 => (intro w hSw; (try dsimp only at hSw); go_simp; (try with_reducible rfl))
                try simp only [Act.put, List.getElem_toArray, List.getElem_cons_zero, List.getElem_cons_succ, List.setIfInBounds_toArray, List.set_cons_zero, List.set_cons_succ]
                refine wpAnyH_ready (rs := [14]) (by kernel_rfl) (by simp) ?_
                refine AllReadyH.cons rfl (fun K hK => ?_) AllReadyH.nil
                rw [if_pos (by rfl)]
                refine wp_store_row 43 (.tmp 8) (.tmp 62) (by rfl) k #[.int .i64 v'.y, .int .i64 v'.m, .int .i64 v'.d, .int .i64 v'.h, .int .i64 v'.i, .int .i64 v'.s] (by rfl) (by rfl) 43 #[.int .i64 v.y, .int .i64 v.m, .int .i64 v.d, .int .i64 v.h, .int .i64 v.i, .int .i64 v.s] (by exact hN.out) (by kernel_rfl) rfl (cells_all v') ?_
                refine hK.out _ _ ?_ (fun hHeld2 => ?_)
                · exact s7 (s1_row hHeld.2.2.2.2.2.2.2 (by omega) (by omega) _)
                clear hK K hHeld
                have hHeld := hHeld2
                clear hHeld2
                try simp only [Act.put, List.getElem_toArray, List.getElem_cons_zero, List.getElem_cons_succ]
                refine wpAnyH_take (i := 15) (v := ?v15n148) rfl (by kernel_rfl) (by kernel_rfl) (by kernel_rfl) (fun _ _ _ h => h) (Or.inl ⟨by rfl, ?hy15n148⟩) (by assumption) ?_
                case hy15n148 => (intro w hSw; (try dsimp only at hSw); go_simp; (try with_reducible rfl))
                try simp only [Act.put, List.getElem_toArray, List.getElem_cons_zero, List.getElem_cons_succ, List.setIfInBounds_toArray, List.set_cons_zero, List.set_cons_succ]
                refine wpAnyH_done (by kernel_rfl) ?_ _
                have HFI := Lib.hid (hHeld.2.2.2.2.2.2.2)
                have HRW := Lib.hid (hN.out.row #[.int .i64 v'.y, .int .i64 v'.m, .int .i64 v'.d, .int .i64 v'.h, .int .i64 v'.i, .int .i64 v'.s])
                have HAI := Lib.hid hA
                clear hHeld hA
                have HXN := Lib.hid (NxtIs.next HMM.out hX.out HNO.out HAI.out)
                have HFR := Lib.hid (loopFar_lt (v := v) (v' := v') (ok := ok') hNr.out HRW.out (fun e => NxtIs.far HMM.out hX.out (by rw [← e]; exact HAI.out)))
                go_wp2_with fail
                go_roundw
                case rel => exact ⟨ok', v', rfl, HXN, HRW, HFI.out.1, HFI.out.2⟩
                case measure => exact HFR.out
            · go_simp
              refine hK.out _ _ ?_ (fun hHeld2 => ?_)
              · exact s7 hHeld.2.2.2.2.2.2.2
              clear hK K hHeld
              have hHeld := hHeld2
              clear hHeld2
              try simp only [Act.put, List.getElem_toArray, List.getElem_cons_zero, List.getElem_cons_succ, List.setIfInBounds_toArray, List.set_cons_zero, List.set_cons_succ]
              refine wpAnyH_ready (rs := [1, 3]) (by kernel_rfl) (by simp) ?_
              refine AllReadyH.cons rfl (fun K hK => ?_) (AllReadyH.cons rfl (fun K hK => ?_) AllReadyH.nil)
              · go_simp
                (refine (HLi.out _).mono ?_; rintro e w6 ⟨rfl, hb⟩)
                refine hK.out _ _ ?_ (fun hHeld2 => ?_)
                · exact s7 (s1_call hHeld.2.2.2.2.2.2.2 hb)
                clear hK K hHeld
                have hHeld := hHeld2
                clear hHeld2
                try simp only [Act.put, List.getElem_toArray, List.getElem_cons_zero, List.getElem_cons_succ, List.setIfInBounds_toArray, List.set_cons_zero, List.set_cons_succ]
                clear n0 n1 n2
                have hN := Lib.hid (Blk.below (by exact hN.out) hb (by exact hN.out.lt))
                obtain ⟨n0, n1, n2⟩ := num3 hN.out
                clear hb
                refine wpAnyH_ready (rs := [3]) (by kernel_rfl) (by simp) ?_
                refine AllReadyH.cons rfl (fun K hK => ?_) AllReadyH.nil
                go_simp
                refine hK.out _ _ ?_ (fun hHeld2 => ?_)
                · exact s7 hHeld.2.2.2.2.2.2.2
                clear hK K hHeld
                have hHeld := hHeld2
                clear hHeld2
                try simp only [Act.put, List.getElem_toArray, List.getElem_cons_zero, List.getElem_cons_succ, List.setIfInBounds_toArray, List.set_cons_zero, List.set_cons_succ]
                refine wpAnyH_take (i := 9) (v := ?v9n149) rfl (by kernel_rfl) (by kernel_rfl) (by kernel_rfl) (fun _ _ _ h => h) (Or.inl ⟨by rfl, ?hy9n149⟩) (by assumption) ?_
                case hy9n149 => (intro w hSw; (try dsimp only at hSw); go_simp; (try with_reducible rfl))
                try simp only [Act.put, List.getElem_toArray, List.getElem_cons_zero, List.getElem_cons_succ, List.setIfInBounds_toArray, List.set_cons_zero, List.set_cons_succ]
                refine wpAnyH_ready (rs := [10]) (by kernel_rfl) (by simp) ?_
                refine AllReadyH.cons rfl (fun K hK => ?_) AllReadyH.nil
                go_simp
                rw [HWR.out]
                (refine (HAT.out _ (HT.out.below (hHeld.2.2.2.2.2.2.2).2) (HC.out.at_ (hHeld.2.2.2.2.2.2.2).2)).mono ?_; rintro e w7 ⟨v', ok', rfl, hA, hb⟩)
                refine hK.out _ _ ?_ (fun hHeld2 => ?_)
                · exact s7 (s1_call hHeld.2.2.2.2.2.2.2 hb)
                clear hK K hHeld
                have hHeld := hHeld2
                clear hHeld2
                try simp only [Act.put, List.getElem_toArray, List.getElem_cons_zero, List.getElem_cons_succ, List.setIfInBounds_toArray, List.set_cons_zero, List.set_cons_succ]
                clear n0 n1 n2
                have hN := Lib.hid (Blk.below (by exact hN.out) hb (by exact hN.out.lt))
                clear hb
                refine wpAnyH_take (i := 11) (v := ?v11n150) rfl (by kernel_rfl) (by kernel_rfl) (by kernel_rfl) (fun _ _ _ h => h) (Or.inl ⟨by rfl, ?hy11n150⟩) (by assumption) ?_
                case hy11n150 => (intro w hSw; (try dsimp only at hSw); go_simp; (try with_reducible rfl))
                try simp only [Act.put, List.getElem_toArray, List.getElem_cons_zero, List.getElem_cons_succ, List.setIfInBounds_toArray, List.set_cons_zero, List.set_cons_succ]
                refine wpAnyH_take (i := 12) (v := ?v12n151) rfl (by kernel_rfl) (by kernel_rfl) (by kernel_rfl) (fun _ _ _ h => h) (Or.inl ⟨by rfl, ?hy12n151⟩) (by assumption) ?_
                case hy12n151 => (intro w hSw; (try dsimp only at hSw); go_simp; (try with_reducible rfl))
                try simp only [Act.put, List.getElem_toArray, List.getElem_cons_zero, List.getElem_cons_succ, List.setIfInBounds_toArray, List.set_cons_zero, List.set_cons_succ]
                refine wpAnyH_take (i := 13) (v := ?v13n152) rfl (by kernel_rfl) (by kernel_rfl) (by kernel_rfl) (fun _ _ _ h => h) (Or.inl ⟨by rfl, ?hy13n152⟩) (by assumption) ?_
                case hy13n152 => (intro w hSw; (try dsimp only at hSw); go_simp; (try with_reducible rfl))
                try simp only [Act.put, List.getElem_toArray, List.getElem_cons_zero, List.getElem_cons_succ, List.setIfInBounds_toArray, List.set_cons_zero, List.set_cons_succ]
                refine wpAnyH_ready (rs := [14]) (by kernel_rfl) (by simp) ?_
                refine AllReadyH.cons rfl (fun K hK => ?_) AllReadyH.nil
                rw [if_pos (by rfl)]
                refine wp_store_row 43 (.tmp 8) (.tmp 62) (by rfl) k #[.int .i64 v'.y, .int .i64 v'.m, .int .i64 v'.d, .int .i64 v'.h, .int .i64 v'.i, .int .i64 v'.s] (by rfl) (by rfl) 43 #[.int .i64 v.y, .int .i64 v.m, .int .i64 v.d, .int .i64 v.h, .int .i64 v.i, .int .i64 v.s] (by exact hN.out) (by kernel_rfl) rfl (cells_all v') ?_
                refine hK.out _ _ ?_ (fun hHeld2 => ?_)
                · exact s7 (s1_row hHeld.2.2.2.2.2.2.2 (by omega) (by omega) _)
                clear hK K hHeld
                have hHeld := hHeld2
                clear hHeld2
                try simp only [Act.put, List.getElem_toArray, List.getElem_cons_zero, List.getElem_cons_succ]
                refine wpAnyH_take (i := 15) (v := ?v15n153) rfl (by kernel_rfl) (by kernel_rfl) (by kernel_rfl) (fun _ _ _ h => h) (Or.inl ⟨by rfl, ?hy15n153⟩) (by assumption) ?_
                case hy15n153 => (intro w hSw; (try dsimp only at hSw); go_simp; (try with_reducible rfl))
                try simp only [Act.put, List.getElem_toArray, List.getElem_cons_zero, List.getElem_cons_succ, List.setIfInBounds_toArray, List.set_cons_zero, List.set_cons_succ]
                refine wpAnyH_done (by kernel_rfl) ?_ _
                have HFI := Lib.hid (hHeld.2.2.2.2.2.2.2)
                have HRW := Lib.hid (hN.out.row #[.int .i64 v'.y, .int .i64 v'.m, .int .i64 v'.d, .int .i64 v'.h, .int .i64 v'.i, .int .i64 v'.s])
                have HAI := Lib.hid hA
                clear hHeld hA
                have HXN := Lib.hid (NxtIs.next HMM.out hX.out HNO.out HAI.out)
                have HFR := Lib.hid (loopFar_lt (v := v) (v' := v') (ok := ok') hNr.out HRW.out (fun e => NxtIs.far HMM.out hX.out (by rw [← e]; exact HAI.out)))
                go_wp2_with fail
                go_roundw
                case rel => exact ⟨ok', v', rfl, HXN, HRW, HFI.out.1, HFI.out.2⟩
                case measure => exact HFR.out
              · go_simp
                refine hK.out _ _ ?_ (fun hHeld2 => ?_)
                · exact s7 hHeld.2.2.2.2.2.2.2
                clear hK K hHeld
                have hHeld := hHeld2
                clear hHeld2
                try simp only [Act.put, List.getElem_toArray, List.getElem_cons_zero, List.getElem_cons_succ, List.setIfInBounds_toArray, List.set_cons_zero, List.set_cons_succ]
                refine wpAnyH_take (i := 9) (v := ?v9n154) rfl (by kernel_rfl) (by kernel_rfl) (by kernel_rfl) (fun _ _ _ h => h) (Or.inl ⟨by rfl, ?hy9n154⟩) (by assumption) ?_
                case hy9n154 => (intro w hSw; (try dsimp only at hSw); go_simp; (try with_reducible rfl))
                try simp only [Act.put, List.getElem_toArray, List.getElem_cons_zero, List.getElem_cons_succ, List.setIfInBounds_toArray, List.set_cons_zero, List.set_cons_succ]
                refine wpAnyH_ready (rs := [1]) (by kernel_rfl) (by simp) ?_
                refine AllReadyH.cons rfl (fun K hK => ?_) AllReadyH.nil
                go_simp
                (refine (HLi.out _).mono ?_; rintro e w6 ⟨rfl, hb⟩)
                refine hK.out _ _ ?_ (fun hHeld2 => ?_)
                · exact s7 (s1_call hHeld.2.2.2.2.2.2.2 hb)
                clear hK K hHeld
                have hHeld := hHeld2
                clear hHeld2
                try simp only [Act.put, List.getElem_toArray, List.getElem_cons_zero, List.getElem_cons_succ, List.setIfInBounds_toArray, List.set_cons_zero, List.set_cons_succ]
                clear n0 n1 n2
                have hN := Lib.hid (Blk.below (by exact hN.out) hb (by exact hN.out.lt))
                obtain ⟨n0, n1, n2⟩ := num3 hN.out
                clear hb
                refine wpAnyH_ready (rs := [10]) (by kernel_rfl) (by simp) ?_
                refine AllReadyH.cons rfl (fun K hK => ?_) AllReadyH.nil
                go_simp
                rw [HWR.out]
                (refine (HAT.out _ (HT.out.below (hHeld.2.2.2.2.2.2.2).2) (HC.out.at_ (hHeld.2.2.2.2.2.2.2).2)).mono ?_; rintro e w7 ⟨v', ok', rfl, hA, hb⟩)
                refine hK.out _ _ ?_ (fun hHeld2 => ?_)
                · exact s7 (s1_call hHeld.2.2.2.2.2.2.2 hb)
                clear hK K hHeld
                have hHeld := hHeld2
                clear hHeld2
                try simp only [Act.put, List.getElem_toArray, List.getElem_cons_zero, List.getElem_cons_succ, List.setIfInBounds_toArray, List.set_cons_zero, List.set_cons_succ]
                clear n0 n1 n2
                have hN := Lib.hid (Blk.below (by exact hN.out) hb (by exact hN.out.lt))
                clear hb
                refine wpAnyH_take (i := 11) (v := ?v11n155) rfl (by kernel_rfl) (by kernel_rfl) (by kernel_rfl) (fun _ _ _ h => h) (Or.inl ⟨by rfl, ?hy11n155⟩) (by assumption) ?_
                case hy11n155 => (intro w hSw; (try dsimp only at hSw); go_simp; (try with_reducible rfl))
                try simp only [Act.put, List.getElem_toArray, List.getElem_cons_zero, List.getElem_cons_succ, List.setIfInBounds_toArray, List.set_cons_zero, List.set_cons_succ]
                refine wpAnyH_take (i := 12) (v := ?v12n156) rfl (by kernel_rfl) (by kernel_rfl) (by kernel_rfl) (fun _ _ _ h => h) (Or.inl ⟨by rfl, ?hy12n156⟩) (by assumption) ?_
                case hy12n156 => (intro w hSw; (try dsimp only at hSw); go_simp; (try with_reducible rfl))
                try simp only [Act.put, List.getElem_toArray, List.getElem_cons_zero, List.getElem_cons_succ, List.setIfInBounds_toArray, List.set_cons_zero, List.set_cons_succ]
                refine wpAnyH_take (i := 13) (v := ?v13n157) rfl (by kernel_rfl) (by kernel_rfl) (by kernel_rfl) (fun _ _ _ h => h) (Or.inl ⟨by rfl, ?hy13n157⟩) (by assumption) ?_
                case hy13n157 => (intro w hSw; (try dsimp only at hSw); go_simp; (try with_reducible rfl))
                try simp only [Act.put, List.getElem_toArray, List.getElem_cons_zero, List.getElem_cons_succ, List.setIfInBounds_toArray, List.set_cons_zero, List.set_cons_succ]
                refine wpAnyH_ready (rs := [14]) (by kernel_rfl) (by simp) ?_
                refine AllReadyH.cons rfl (fun K hK => ?_) AllReadyH.nil
                rw [if_pos (by rfl)]
                refine wp_store_row 43 (.tmp 8) (.tmp 62) (by rfl) k #[.int .i64 v'.y, .int .i64 v'.m, .int .i64 v'.d, .int .i64 v'.h, .int .i64 v'.i, .int .i64 v'.s] (by rfl) (by rfl) 43 #[.int .i64 v.y, .int .i64 v.m, .int .i64 v.d, .int .i64 v.h, .int .i64 v.i, .int .i64 v.s] (by exact hN.out) (by kernel_rfl) rfl (cells_all v') ?_
                refine hK.out _ _ ?_ (fun hHeld2 => ?_)
                · exact s7 (s1_row hHeld.2.2.2.2.2.2.2 (by omega) (by omega) _)
                clear hK K hHeld
                have hHeld := hHeld2
                clear hHeld2
                try simp only [Act.put, List.getElem_toArray, List.getElem_cons_zero, List.getElem_cons_succ]
                refine wpAnyH_take (i := 15) (v := ?v15n158) rfl (by kernel_rfl) (by kernel_rfl) (by kernel_rfl) (fun _ _ _ h => h) (Or.inl ⟨by rfl, ?hy15n158⟩) (by assumption) ?_
                case hy15n158 => (intro w hSw; (try dsimp only at hSw); go_simp; (try with_reducible rfl))
                try simp only [Act.put, List.getElem_toArray, List.getElem_cons_zero, List.getElem_cons_succ, List.setIfInBounds_toArray, List.set_cons_zero, List.set_cons_succ]
                refine wpAnyH_done (by kernel_rfl) ?_ _
                have HFI := Lib.hid (hHeld.2.2.2.2.2.2.2)
                have HRW := Lib.hid (hN.out.row #[.int .i64 v'.y, .int .i64 v'.m, .int .i64 v'.d, .int .i64 v'.h, .int .i64 v'.i, .int .i64 v'.s])
                have HAI := Lib.hid hA
                clear hHeld hA
                have HXN := Lib.hid (NxtIs.next HMM.out hX.out HNO.out HAI.out)
                have HFR := Lib.hid (loopFar_lt (v := v) (v' := v') (ok := ok') hNr.out HRW.out (fun e => NxtIs.far HMM.out hX.out (by rw [← e]; exact HAI.out)))
                go_wp2_with fail
                go_roundw
                case rel => exact ⟨ok', v', rfl, HXN, HRW, HFI.out.1, HFI.out.2⟩
                case measure => exact HFR.out
        · have HR := Lib.hid (hh1.out rfl)
          go_wp2_with fail
          go_ret2
          exact ⟨ret_ib' HR.out.1.symm HR.out.2.symm, hB4.out⟩
end Go.Proofs.YtncolcjejgmhjaaGreatDoor
