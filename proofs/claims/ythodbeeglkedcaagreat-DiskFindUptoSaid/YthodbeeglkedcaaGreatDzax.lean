/- The walk of the document's mayFile. -/
import Derived.Test.YthodbeeglkedcaaGreatDzaw
import Derived.Test.YthodbeeglkedcaaGreatDzav
namespace Go.Proofs.YthodbeeglkedcaaGreat
open Go.RowKit
def cutA (u : List UInt8) : Array Value := #[.int .i64 (Nm.kindP (str u)), .string (Nm.preP (str u)), .string (Nm.instP (str u)), .bool (Nm.atP (str u))]
def MfS (w w1 : World) (x : Fi) (y : Wy) (W : World) : Prop := Blk W w.heap.size 34 (fiA x) ∧ Blk W w1.heap.size 68 (wyA y) ∧ Below w.heap.size w W
theorem MfS.drew {w w1 W : World} {x : Fi} {y : Wy} (h : MfS w w1 x y W) : MfS w w1 x y W.drew := ⟨h.1, h.2.1, h.2.2.drew⟩
theorem MfS.call {w w1 W W' : World} {x : Fi} {y : Wy} (h : MfS w w1 x y W) (hb : Below W.heap.size W W') : MfS w w1 x y W' := ⟨h.1.below hb h.1.lt, h.2.1.below hb h.2.1.lt, more3 h.2.2 h.2.2.size hb⟩
theorem MfS.put {w w1 W : World} {x : Fi} {y : Wy} (h : MfS w w1 x y W) {g : Nat} (h1 : w.heap.size ≠ g) (h2 : w1.heap.size ≠ g) (h3 : w.heap.size ≤ g) (i : Nat) (u : Value) : MfS w w1 x y (W.setCell ⟨g, i, none⟩ u) :=
  ⟨h.1.setOther h1 u, h.2.1.setOther h2 u, h.2.2.setCell (p := ⟨g, i, none⟩) h3 u⟩
def MfT (w w1 : World) (x : Fi) (y : Wy) (g4 g5 : Nat) (W : World) : Prop := MfS w w1 x y W ∧ Blk W g4 49 (cutA y.u) ∧ Blk W g5 49 (cutA x.l)
theorem MfT.call {w w1 W W' : World} {x : Fi} {y : Wy} {g4 g5 : Nat} (h : MfT w w1 x y g4 g5 W) (hb : Below W.heap.size W W') : MfT w w1 x y g4 g5 W' := ⟨h.1.call hb, h.2.1.below hb h.2.1.lt, h.2.2.below hb h.2.2.lt⟩
theorem MfT.drew {w w1 W : World} {x : Fi} {y : Wy} {g4 g5 : Nat} (h : MfT w w1 x y g4 g5 W) : MfT w w1 x y g4 g5 W.drew := ⟨h.1.drew, h.2.1, h.2.2⟩
theorem via2 {F G : Nat → Nat → World → Prop} {C : Prop} (h : (∀ b0 b1 w, F b0 b1 w → G b0 b1 w) → C) (h2 : ∀ b0 b1 w, F b0 b1 w → G b0 b1 w) : C := h h2
theorem grow_one (w : World) (cs : Array Value) (t : TypeId) : ∃ (b : Nat) (u : World), w.heap.size = b ∧ w.alloc (.cells cs t) = u ∧ Blk u b t cs ∧ Below w.heap.size w u := ⟨_, _, rfl, rfl, Blk.new w t cs, (Below.refl _ w).alloc (Nat.le_refl _) _⟩
def cut0 : Array Value := #[.int .i64 0, .string ⟨#[]⟩, .string ⟨#[]⟩, .bool false]
theorem path_unit (p : List UInt8) : (pathW nmsP p).u.length ≤ 60 := by
  have := path_is nmsP p
  generalize pathW nmsP p = w at *
  cases this with
  | none => simp [noWy]
  | own a u h1 h2 => exact nmsOk.short u h2
  | drop a u x h1 h2 => exact nmsOk.short u h2
  | want a u v h1 h2 => exact nmsOk.short u h2
  | need a u v h1 h2 => exact nmsOk.short u h2
set_option maxHeartbeats 8000000 in
theorem mayFile_any (x : Fi) (hs : SizeF x) (w : World) :
    Calls Tryz.prog 27 #[.agg #[.string (str x.p), .string (str x.t), .string (str x.l)]] w fun e w' => e = .returned (.bool (mayF nmsP x)) ∧ Below w.heap.size w w' := by
  obtain ⟨hp, ht, hl⟩ := hs
  obtain ⟨y, hy⟩ : ∃ y, pathW nmsP x.p = y := ⟨_, rfl⟩
  have hyu : y.u.length ≤ 60 := by rw [← hy]; exact path_unit _
  have HPa : Hid (∀ W : World, Calls Tryz.prog 42 #[.string (str x.p)] W fun e w' => e = .returned (.agg #[.int .i64 y.k, .string (str y.pl), .string (str y.u), .string (str y.o)]) ∧ Below W.heap.size W w') := fun W => by
    have := Path_any (str x.p) (by rw [str_size]; exact hp) W
    unfold PathP at this
    rw [str_list, hy] at this
    exact this
  have HK0 : Hid (Blk (w.alloc (.cells #[.string (str x.p), .string (str x.t), .string (str x.l)] 34)) w.heap.size 34 (fiA x)) := Blk.new w _ _
  have HB0 : Hid (Below w.heap.size w (w.alloc (.cells #[.string (str x.p), .string (str x.t), .string (str x.l)] 34))) := (Below.refl _ w).alloc (Nat.le_refl _) _
  have HM : Hid (mayF nmsP x = (decide (x.t.length ≤ 20000) && !(decide (x.t ≠ []) && decide (x.l ≠ [])) && (if y.k = 1 then decide (x.l = []) || decide (x.l = nulL) || (decide (nmsP.kind x.l = nmsP.kind y.u) && decide (nmsP.isT y.u = nmsP.isT x.l)) else if y.k = 2 then decide (x.l = []) else if y.k = 3 ∨ y.k = 4 then decide (0 < nmsP.kind x.l) else false))) := by
    show _ = _
    unfold mayF
    rw [hy]
  have e1 := eq_nil x.t
  have e2 := eq_nil x.l
  have e3 := eq_nul x.l
  clear hy
  go_enter Tryz.func27, Tryz.ntmps27
  go_wp2_with fail
  generalize w.alloc (.cells #[.string (str x.p), .string (str x.t), .string (str x.l)] 34) = w0 at *
  refine (HPa.out _).mono ?_
  rintro e w1 ⟨rfl, hb1⟩
  have HK1 := Lib.hid (HK0.out.below hb1 HK0.out.lt)
  have HB1 := Lib.hid (more3 HB0.out HB0.out.size hb1)
  clear HK0 HB0 hb1 HPa
  have hkl := HK1.out.lt
  have HW2 : Hid (Blk (w1.alloc (.cells #[.int .i64 y.k, .string (str y.pl), .string (str y.u), .string (str y.o)] 68)) w1.heap.size 68 (wyA y)) := Blk.new w1 _ _
  have HK2 : Hid (Blk (w1.alloc (.cells #[.int .i64 y.k, .string (str y.pl), .string (str y.u), .string (str y.o)] 68)) w.heap.size 34 (fiA x)) := HK1.out.alloc _
  have HB2 : Hid (Below w.heap.size w (w1.alloc (.cells #[.int .i64 y.k, .string (str y.pl), .string (str y.u), .string (str y.o)] 68))) := HB1.out.alloc HB1.out.size _
  have hg2 : (w1.alloc (.cells #[.int .i64 y.k, .string (str y.pl), .string (str y.u), .string (str y.o)] 68)).heap.size = w1.heap.size + 1 := by simp
  have c0 : (w1.alloc (.cells #[.int .i64 y.k, .string (str y.pl), .string (str y.u), .string (str y.o)] 68)).cell? ⟨w.heap.size, 1, none⟩ = some (.string (str x.t)) := HK2.out.cell 1
  have c1 : (w1.alloc (.cells #[.int .i64 y.k, .string (str y.pl), .string (str y.u), .string (str y.o)] 68)).cell? ⟨w.heap.size, 2, none⟩ = some (.string (str x.l)) := HK2.out.cell 2
  by_cases ht2 : 20000 < x.t.length
  · have HV : Hid (mayF nmsP x = false) := by show _ = _; rw [HM.out, decide_eq_false (by omega)]; rfl
    have t1 : decide ((20000 : Int) < ((str x.t).size : Int)) = true := by rw [str_size]; simp; omega
    clear ht2 HM e1 e2 e3
    go_wp2_with fail
    go_ret
    exact ⟨ret_bool HV.out.symm, HB2.out⟩
  have t1 : decide ((20000 : Int) < ((str x.t).size : Int)) = false := by rw [str_size]; simp; omega
  have HM1 : Hid (mayF nmsP x = (!(decide (x.t ≠ []) && decide (x.l ≠ [])) && (if y.k = 1 then decide (x.l = []) || decide (x.l = nulL) || (decide (nmsP.kind x.l = nmsP.kind y.u) && decide (nmsP.isT y.u = nmsP.isT x.l)) else if y.k = 2 then decide (x.l = []) else if y.k = 3 ∨ y.k = 4 then decide (0 < nmsP.kind x.l) else false))) := by
    show _ = _; rw [HM.out, decide_eq_true (by omega)]; rfl
  clear HM ht2
  by_cases hbad : x.t ≠ [] ∧ x.l ≠ []
  · have HV : Hid (mayF nmsP x = false) := by show _ = _; rw [HM1.out]; simp [hbad.1, hbad.2]
    rw [decide_eq_false hbad.1] at e1
    rw [decide_eq_false hbad.2] at e2
    clear hbad HM1 e3
    go_wp2_with fail
    go_ret
    exact ⟨ret_bool HV.out.symm, HB2.out⟩
  have HM2 : Hid (mayF nmsP x = (if y.k = 1 then decide (x.l = []) || decide (x.l = nulL) || (decide (nmsP.kind x.l = nmsP.kind y.u) && decide (nmsP.isT y.u = nmsP.isT x.l)) else if y.k = 2 then decide (x.l = []) else if y.k = 3 ∨ y.k = 4 then decide (0 < nmsP.kind x.l) else false)) := by
    show _ = _
    rw [HM1.out]
    by_cases h1 : x.t = []
    · simp [h1]
    · have h2 : x.l = [] := by
        rcases Classical.em (x.l = []) with h | h
        · exact h
        · exact absurd ⟨h1, h⟩ hbad
      simp [h2]
  clear HM1
  go_upto_region 2 with fail
  generalize hw2 : w1.alloc (.cells #[.int .i64 y.k, .string (str y.pl), .string (str y.u), .string (str y.o)] 68) = w2 at *
  go_cut [22] (fun v wx => v = .bool false ∧ wx = w2)
  case first =>
    obtain ⟨bt, hbt⟩ : ∃ b, decide (x.t = []) = b := ⟨_, rfl⟩
    obtain ⟨bl, hbl⟩ : ∃ b, decide (x.l = []) = b := ⟨_, rfl⟩
    have hor : bt = true ∨ bl = true := by
      rw [← hbt, ← hbl]
      by_cases h1 : x.t = []
      · exact .inl (decide_eq_true h1)
      · right
        rw [decide_eq_true_eq]
        rcases Classical.em (x.l = []) with h | h
        · exact h
        · exact absurd ⟨h1, h⟩ hbad
    rw [hbt] at e1
    rw [hbl] at e2
    clear hbt hbl hbad HM2 e3 hw2
    rcases bt with _ | _ <;> rcases bl with _ | _
    · rcases hor with h | h <;> cases h
    all_goals
      clear hor
      go_wp2_with fail
      go_meet
      exact ⟨rfl, rfl⟩
  case rest =>
    obtain ⟨rfl, rfl⟩ := hcut
    have hS2 : MfS w w1 x y wc := ⟨HK2.out, HW2.out, HB2.out⟩
    have HO1 := Lib.hid (fun W => Nm.Of_any (str y.u) (by rw [str_size]; unfold maxLen; omega) W)
    have HO2 := Lib.hid (fun W => Nm.Of_any (str x.l) (by rw [str_size]; unfold maxLen; omega) W)
    clear c0 c1 hw2 HK2 HW2 HB2 hg2
    go_upto_region 4 with fail
    go_cut [4, 5] (fun p q wx => ∃ g4 g5 : Nat, p = .pointer (some ⟨g4, 0, none⟩) ∧ q = .pointer (some ⟨g5, 0, none⟩) ∧ Hid (Blk wx g4 49 (cutA y.u)) ∧ Hid (Blk wx g5 49 (cutA x.l)) ∧ Hid (MfS w w1 x y wx))
    case first =>
      refine wp_region_held_drew (S := fun W => MfS w w1 x y W) (by kernel_rfl) ?_ (fun hHeld => ?_)
      · exact hS2.drew
      refine wpAnyH_take (i := 0) (v := ?v0_1) rfl (by kernel_rfl) (by kernel_rfl) (by kernel_rfl) (fun _ _ _ h => h) (Or.inl ⟨by rfl, ?hy0_1⟩) (by assumption) ?_
      case hy0_1 => (intro W hSw; (try dsimp only at hSw); go_simp; (try with_reducible rfl))
      try simp only [Act.put, List.getElem_toArray, List.getElem_cons_zero, List.setIfInBounds_toArray, List.set_cons_zero, List.set_cons_succ]
      refine wpAnyH_take (i := 1) (v := ?v1_1) rfl (by kernel_rfl) (by kernel_rfl) (by kernel_rfl) (fun _ _ _ h => h) (Or.inl ⟨by rfl, ?hy1_1⟩) (by assumption) ?_
      case hy1_1 => (intro W hSw; have q0 : W.cell? ⟨w1.heap.size, 2, none⟩ = some (.string (str y.u)) := hSw.2.1.cell 2; (try dsimp only at hSw); go_simp; (try with_reducible rfl))
      try simp only [Act.put, List.getElem_toArray, List.getElem_cons_zero, List.getElem_cons_succ, List.setIfInBounds_toArray, List.set_cons_zero, List.set_cons_succ]
      refine wpAnyH_take (i := 3) (v := ?v3_1) rfl (by kernel_rfl) (by kernel_rfl) (by kernel_rfl) (fun _ _ _ h => h) (Or.inl ⟨by rfl, ?hy3_1⟩) (by assumption) ?_
      case hy3_1 => (intro W hSw; (try dsimp only at hSw); go_simp; (try with_reducible rfl))
      try simp only [Act.put, List.getElem_toArray, List.getElem_cons_zero, List.getElem_cons_succ, List.setIfInBounds_toArray, List.set_cons_zero, List.set_cons_succ]
      refine wpAnyH_take (i := 4) (v := ?v4_1) rfl (by kernel_rfl) (by kernel_rfl) (by kernel_rfl) (fun _ _ _ h => h) (Or.inl ⟨by rfl, ?hy4_1⟩) (by assumption) ?_
      case hy4_1 => (intro W hSw; have q0 : W.cell? ⟨w.heap.size, 2, none⟩ = some (.string (str x.l)) := hSw.1.cell 2; (try dsimp only at hSw); go_simp; (try with_reducible rfl))
      try simp only [Act.put, List.getElem_toArray, List.getElem_cons_zero, List.getElem_cons_succ, List.setIfInBounds_toArray, List.set_cons_zero, List.set_cons_succ]
      generalize wc.drew = u0 at *
      exact via2 (F := fun g4 g5 W => MfS w w1 x y W ∧ Hid (Blk W g4 49 cut0) ∧ Hid (Blk W g5 49 cut0) ∧ g4 ≠ g5 ∧ w.heap.size ≤ g4 ∧ w.heap.size ≤ g5) (fun kEnd => by
        refine wpAnyH_ready (rs := [2, 6, 7]) (by kernel_rfl) (by simp) ?_
        refine AllReadyH.cons rfl (fun K hK => ?_) (AllReadyH.cons rfl (fun K hK => ?_) (AllReadyH.cons rfl (fun K hK => ?_) AllReadyH.nil))
        · go_simp
          refine ((HO1).out _).mono ?_
          rintro e u1 ⟨rfl, hb⟩
          refine hK.out _ _ (hHeld.call hb) (fun hHu1 => ?_)
          clear hK K hb
          try simp only [Act.put, List.getElem_toArray, List.getElem_cons_zero, List.getElem_cons_succ, List.setIfInBounds_toArray, List.set_cons_zero, List.set_cons_succ]
          refine wpAnyH_ready (rs := [5, 6, 7]) (by kernel_rfl) (by simp) ?_
          refine AllReadyH.cons rfl (fun K hK => ?_) (AllReadyH.cons rfl (fun K hK => ?_) (AllReadyH.cons rfl (fun K hK => ?_) AllReadyH.nil))
          · go_simp
            refine ((HO2).out _).mono ?_
            rintro e u2 ⟨rfl, hb⟩
            refine hK.out _ _ (hHu1.call hb) (fun hHu2 => ?_)
            clear hK K hb
            try simp only [Act.put, List.getElem_toArray, List.getElem_cons_zero, List.getElem_cons_succ, List.setIfInBounds_toArray, List.set_cons_zero, List.set_cons_succ]
            refine wpAnyH_ready (rs := [6, 7]) (by kernel_rfl) (by simp) ?_
            refine AllReadyH.cons rfl (fun K hK => ?_) (AllReadyH.cons rfl (fun K hK => ?_) AllReadyH.nil)
            · go_simp
              obtain ⟨g6, u3, eb, ew, hN6, hb⟩ := grow_one u2 cut0 49
              unfold cut0 at ew
              simp only [eb, ew]
              have hge6 : w.heap.size ≤ g6 := by rw [← eb]; exact hHu2.2.2.size
              clear eb ew
              refine hK.out _ _ (hHu2.call hb) (fun hHu3 => ?_)
              clear hK K hb
              try simp only [Act.put, List.getElem_toArray, List.getElem_cons_zero, List.getElem_cons_succ, List.setIfInBounds_toArray, List.set_cons_zero, List.set_cons_succ]
              refine wpAnyH_ready (rs := [7]) (by kernel_rfl) (by simp) ?_
              refine AllReadyH.cons rfl (fun K hK => ?_) AllReadyH.nil
              go_simp
              obtain ⟨g7, u4, eb, ew, hN7, hb⟩ := grow_one u3 cut0 49
              unfold cut0 at ew
              simp only [eb, ew]
              have hlt : g6 < g7 := by rw [← eb]; exact hN6.lt
              have hge7 : w.heap.size ≤ g7 := by rw [← eb]; exact hHu3.2.2.size
              clear eb ew
              refine hK.out _ _ (hHu3.call hb) (fun hHu4 => ?_)
              have hN6 := hN6.below hb hN6.lt
              clear hK K hb
              try simp only [Act.put, List.getElem_toArray, List.getElem_cons_zero, List.getElem_cons_succ, List.setIfInBounds_toArray, List.set_cons_zero, List.set_cons_succ]
              exact kEnd g6 g7 u4 ⟨hHu4, Lib.hid hN6, Lib.hid hN7, Nat.ne_of_lt hlt, hge6, hge7⟩
            · go_simp
              obtain ⟨g7, u5, eb, ew, hN7, hb⟩ := grow_one u2 cut0 49
              unfold cut0 at ew
              simp only [eb, ew]
              have hge7 : w.heap.size ≤ g7 := by rw [← eb]; exact hHu2.2.2.size
              clear eb ew
              refine hK.out _ _ (hHu2.call hb) (fun hHu5 => ?_)
              clear hK K hb
              try simp only [Act.put, List.getElem_toArray, List.getElem_cons_zero, List.getElem_cons_succ, List.setIfInBounds_toArray, List.set_cons_zero, List.set_cons_succ]
              refine wpAnyH_ready (rs := [6]) (by kernel_rfl) (by simp) ?_
              refine AllReadyH.cons rfl (fun K hK => ?_) AllReadyH.nil
              go_simp
              obtain ⟨g6, u6, eb, ew, hN6, hb⟩ := grow_one u5 cut0 49
              unfold cut0 at ew
              simp only [eb, ew]
              have hlt : g7 < g6 := by rw [← eb]; exact hN7.lt
              have hge6 : w.heap.size ≤ g6 := by rw [← eb]; exact hHu5.2.2.size
              clear eb ew
              refine hK.out _ _ (hHu5.call hb) (fun hHu6 => ?_)
              have hN7 := hN7.below hb hN7.lt
              clear hK K hb
              try simp only [Act.put, List.getElem_toArray, List.getElem_cons_zero, List.getElem_cons_succ, List.setIfInBounds_toArray, List.set_cons_zero, List.set_cons_succ]
              exact kEnd g6 g7 u6 ⟨hHu6, Lib.hid hN6, Lib.hid hN7, Ne.symm (Nat.ne_of_lt hlt), hge6, hge7⟩
          · go_simp
            obtain ⟨g6, u7, eb, ew, hN6, hb⟩ := grow_one u1 cut0 49
            unfold cut0 at ew
            simp only [eb, ew]
            have hge6 : w.heap.size ≤ g6 := by rw [← eb]; exact hHu1.2.2.size
            clear eb ew
            refine hK.out _ _ (hHu1.call hb) (fun hHu7 => ?_)
            clear hK K hb
            try simp only [Act.put, List.getElem_toArray, List.getElem_cons_zero, List.getElem_cons_succ, List.setIfInBounds_toArray, List.set_cons_zero, List.set_cons_succ]
            refine wpAnyH_ready (rs := [5, 7]) (by kernel_rfl) (by simp) ?_
            refine AllReadyH.cons rfl (fun K hK => ?_) (AllReadyH.cons rfl (fun K hK => ?_) AllReadyH.nil)
            · go_simp
              refine ((HO2).out _).mono ?_
              rintro e u8 ⟨rfl, hb⟩
              refine hK.out _ _ (hHu7.call hb) (fun hHu8 => ?_)
              have hN6 := hN6.below hb hN6.lt
              clear hK K hb
              try simp only [Act.put, List.getElem_toArray, List.getElem_cons_zero, List.getElem_cons_succ, List.setIfInBounds_toArray, List.set_cons_zero, List.set_cons_succ]
              refine wpAnyH_ready (rs := [7]) (by kernel_rfl) (by simp) ?_
              refine AllReadyH.cons rfl (fun K hK => ?_) AllReadyH.nil
              go_simp
              obtain ⟨g7, u9, eb, ew, hN7, hb⟩ := grow_one u8 cut0 49
              unfold cut0 at ew
              simp only [eb, ew]
              have hlt : g6 < g7 := by rw [← eb]; exact hN6.lt
              have hge7 : w.heap.size ≤ g7 := by rw [← eb]; exact hHu8.2.2.size
              clear eb ew
              refine hK.out _ _ (hHu8.call hb) (fun hHu9 => ?_)
              have hN6 := hN6.below hb hN6.lt
              clear hK K hb
              try simp only [Act.put, List.getElem_toArray, List.getElem_cons_zero, List.getElem_cons_succ, List.setIfInBounds_toArray, List.set_cons_zero, List.set_cons_succ]
              exact kEnd g6 g7 u9 ⟨hHu9, Lib.hid hN6, Lib.hid hN7, Nat.ne_of_lt hlt, hge6, hge7⟩
            · go_simp
              obtain ⟨g7, u10, eb, ew, hN7, hb⟩ := grow_one u7 cut0 49
              unfold cut0 at ew
              simp only [eb, ew]
              have hlt : g6 < g7 := by rw [← eb]; exact hN6.lt
              have hge7 : w.heap.size ≤ g7 := by rw [← eb]; exact hHu7.2.2.size
              clear eb ew
              refine hK.out _ _ (hHu7.call hb) (fun hHu10 => ?_)
              have hN6 := hN6.below hb hN6.lt
              clear hK K hb
              try simp only [Act.put, List.getElem_toArray, List.getElem_cons_zero, List.getElem_cons_succ, List.setIfInBounds_toArray, List.set_cons_zero, List.set_cons_succ]
              refine wpAnyH_ready (rs := [5]) (by kernel_rfl) (by simp) ?_
              refine AllReadyH.cons rfl (fun K hK => ?_) AllReadyH.nil
              go_simp
              refine ((HO2).out _).mono ?_
              rintro e u11 ⟨rfl, hb⟩
              refine hK.out _ _ (hHu10.call hb) (fun hHu11 => ?_)
              have hN6 := hN6.below hb hN6.lt
              have hN7 := hN7.below hb hN7.lt
              clear hK K hb
              try simp only [Act.put, List.getElem_toArray, List.getElem_cons_zero, List.getElem_cons_succ, List.setIfInBounds_toArray, List.set_cons_zero, List.set_cons_succ]
              exact kEnd g6 g7 u11 ⟨hHu11, Lib.hid hN6, Lib.hid hN7, Nat.ne_of_lt hlt, hge6, hge7⟩
          · go_simp
            obtain ⟨g7, u12, eb, ew, hN7, hb⟩ := grow_one u1 cut0 49
            unfold cut0 at ew
            simp only [eb, ew]
            have hge7 : w.heap.size ≤ g7 := by rw [← eb]; exact hHu1.2.2.size
            clear eb ew
            refine hK.out _ _ (hHu1.call hb) (fun hHu12 => ?_)
            clear hK K hb
            try simp only [Act.put, List.getElem_toArray, List.getElem_cons_zero, List.getElem_cons_succ, List.setIfInBounds_toArray, List.set_cons_zero, List.set_cons_succ]
            refine wpAnyH_ready (rs := [5, 6]) (by kernel_rfl) (by simp) ?_
            refine AllReadyH.cons rfl (fun K hK => ?_) (AllReadyH.cons rfl (fun K hK => ?_) AllReadyH.nil)
            · go_simp
              refine ((HO2).out _).mono ?_
              rintro e u13 ⟨rfl, hb⟩
              refine hK.out _ _ (hHu12.call hb) (fun hHu13 => ?_)
              have hN7 := hN7.below hb hN7.lt
              clear hK K hb
              try simp only [Act.put, List.getElem_toArray, List.getElem_cons_zero, List.getElem_cons_succ, List.setIfInBounds_toArray, List.set_cons_zero, List.set_cons_succ]
              refine wpAnyH_ready (rs := [6]) (by kernel_rfl) (by simp) ?_
              refine AllReadyH.cons rfl (fun K hK => ?_) AllReadyH.nil
              go_simp
              obtain ⟨g6, u14, eb, ew, hN6, hb⟩ := grow_one u13 cut0 49
              unfold cut0 at ew
              simp only [eb, ew]
              have hlt : g7 < g6 := by rw [← eb]; exact hN7.lt
              have hge6 : w.heap.size ≤ g6 := by rw [← eb]; exact hHu13.2.2.size
              clear eb ew
              refine hK.out _ _ (hHu13.call hb) (fun hHu14 => ?_)
              have hN7 := hN7.below hb hN7.lt
              clear hK K hb
              try simp only [Act.put, List.getElem_toArray, List.getElem_cons_zero, List.getElem_cons_succ, List.setIfInBounds_toArray, List.set_cons_zero, List.set_cons_succ]
              exact kEnd g6 g7 u14 ⟨hHu14, Lib.hid hN6, Lib.hid hN7, Ne.symm (Nat.ne_of_lt hlt), hge6, hge7⟩
            · go_simp
              obtain ⟨g6, u15, eb, ew, hN6, hb⟩ := grow_one u12 cut0 49
              unfold cut0 at ew
              simp only [eb, ew]
              have hlt : g7 < g6 := by rw [← eb]; exact hN7.lt
              have hge6 : w.heap.size ≤ g6 := by rw [← eb]; exact hHu12.2.2.size
              clear eb ew
              refine hK.out _ _ (hHu12.call hb) (fun hHu15 => ?_)
              have hN7 := hN7.below hb hN7.lt
              clear hK K hb
              try simp only [Act.put, List.getElem_toArray, List.getElem_cons_zero, List.getElem_cons_succ, List.setIfInBounds_toArray, List.set_cons_zero, List.set_cons_succ]
              refine wpAnyH_ready (rs := [5]) (by kernel_rfl) (by simp) ?_
              refine AllReadyH.cons rfl (fun K hK => ?_) AllReadyH.nil
              go_simp
              refine ((HO2).out _).mono ?_
              rintro e u16 ⟨rfl, hb⟩
              refine hK.out _ _ (hHu15.call hb) (fun hHu16 => ?_)
              have hN7 := hN7.below hb hN7.lt
              have hN6 := hN6.below hb hN6.lt
              clear hK K hb
              try simp only [Act.put, List.getElem_toArray, List.getElem_cons_zero, List.getElem_cons_succ, List.setIfInBounds_toArray, List.set_cons_zero, List.set_cons_succ]
              exact kEnd g6 g7 u16 ⟨hHu16, Lib.hid hN6, Lib.hid hN7, Ne.symm (Nat.ne_of_lt hlt), hge6, hge7⟩
        · go_simp
          obtain ⟨g6, u17, eb, ew, hN6, hb⟩ := grow_one u0 cut0 49
          unfold cut0 at ew
          simp only [eb, ew]
          have hge6 : w.heap.size ≤ g6 := by rw [← eb]; exact hHeld.2.2.size
          clear eb ew
          refine hK.out _ _ (hHeld.call hb) (fun hHu17 => ?_)
          clear hK K hb
          try simp only [Act.put, List.getElem_toArray, List.getElem_cons_zero, List.getElem_cons_succ, List.setIfInBounds_toArray, List.set_cons_zero, List.set_cons_succ]
          refine wpAnyH_ready (rs := [2, 7]) (by kernel_rfl) (by simp) ?_
          refine AllReadyH.cons rfl (fun K hK => ?_) (AllReadyH.cons rfl (fun K hK => ?_) AllReadyH.nil)
          · go_simp
            refine ((HO1).out _).mono ?_
            rintro e u18 ⟨rfl, hb⟩
            refine hK.out _ _ (hHu17.call hb) (fun hHu18 => ?_)
            have hN6 := hN6.below hb hN6.lt
            clear hK K hb
            try simp only [Act.put, List.getElem_toArray, List.getElem_cons_zero, List.getElem_cons_succ, List.setIfInBounds_toArray, List.set_cons_zero, List.set_cons_succ]
            refine wpAnyH_ready (rs := [5, 7]) (by kernel_rfl) (by simp) ?_
            refine AllReadyH.cons rfl (fun K hK => ?_) (AllReadyH.cons rfl (fun K hK => ?_) AllReadyH.nil)
            · go_simp
              refine ((HO2).out _).mono ?_
              rintro e u19 ⟨rfl, hb⟩
              refine hK.out _ _ (hHu18.call hb) (fun hHu19 => ?_)
              have hN6 := hN6.below hb hN6.lt
              clear hK K hb
              try simp only [Act.put, List.getElem_toArray, List.getElem_cons_zero, List.getElem_cons_succ, List.setIfInBounds_toArray, List.set_cons_zero, List.set_cons_succ]
              refine wpAnyH_ready (rs := [7]) (by kernel_rfl) (by simp) ?_
              refine AllReadyH.cons rfl (fun K hK => ?_) AllReadyH.nil
              go_simp
              obtain ⟨g7, u20, eb, ew, hN7, hb⟩ := grow_one u19 cut0 49
              unfold cut0 at ew
              simp only [eb, ew]
              have hlt : g6 < g7 := by rw [← eb]; exact hN6.lt
              have hge7 : w.heap.size ≤ g7 := by rw [← eb]; exact hHu19.2.2.size
              clear eb ew
              refine hK.out _ _ (hHu19.call hb) (fun hHu20 => ?_)
              have hN6 := hN6.below hb hN6.lt
              clear hK K hb
              try simp only [Act.put, List.getElem_toArray, List.getElem_cons_zero, List.getElem_cons_succ, List.setIfInBounds_toArray, List.set_cons_zero, List.set_cons_succ]
              exact kEnd g6 g7 u20 ⟨hHu20, Lib.hid hN6, Lib.hid hN7, Nat.ne_of_lt hlt, hge6, hge7⟩
            · go_simp
              obtain ⟨g7, u21, eb, ew, hN7, hb⟩ := grow_one u18 cut0 49
              unfold cut0 at ew
              simp only [eb, ew]
              have hlt : g6 < g7 := by rw [← eb]; exact hN6.lt
              have hge7 : w.heap.size ≤ g7 := by rw [← eb]; exact hHu18.2.2.size
              clear eb ew
              refine hK.out _ _ (hHu18.call hb) (fun hHu21 => ?_)
              have hN6 := hN6.below hb hN6.lt
              clear hK K hb
              try simp only [Act.put, List.getElem_toArray, List.getElem_cons_zero, List.getElem_cons_succ, List.setIfInBounds_toArray, List.set_cons_zero, List.set_cons_succ]
              refine wpAnyH_ready (rs := [5]) (by kernel_rfl) (by simp) ?_
              refine AllReadyH.cons rfl (fun K hK => ?_) AllReadyH.nil
              go_simp
              refine ((HO2).out _).mono ?_
              rintro e u22 ⟨rfl, hb⟩
              refine hK.out _ _ (hHu21.call hb) (fun hHu22 => ?_)
              have hN6 := hN6.below hb hN6.lt
              have hN7 := hN7.below hb hN7.lt
              clear hK K hb
              try simp only [Act.put, List.getElem_toArray, List.getElem_cons_zero, List.getElem_cons_succ, List.setIfInBounds_toArray, List.set_cons_zero, List.set_cons_succ]
              exact kEnd g6 g7 u22 ⟨hHu22, Lib.hid hN6, Lib.hid hN7, Nat.ne_of_lt hlt, hge6, hge7⟩
          · go_simp
            obtain ⟨g7, u23, eb, ew, hN7, hb⟩ := grow_one u17 cut0 49
            unfold cut0 at ew
            simp only [eb, ew]
            have hlt : g6 < g7 := by rw [← eb]; exact hN6.lt
            have hge7 : w.heap.size ≤ g7 := by rw [← eb]; exact hHu17.2.2.size
            clear eb ew
            refine hK.out _ _ (hHu17.call hb) (fun hHu23 => ?_)
            have hN6 := hN6.below hb hN6.lt
            clear hK K hb
            try simp only [Act.put, List.getElem_toArray, List.getElem_cons_zero, List.getElem_cons_succ, List.setIfInBounds_toArray, List.set_cons_zero, List.set_cons_succ]
            refine wpAnyH_ready (rs := [2]) (by kernel_rfl) (by simp) ?_
            refine AllReadyH.cons rfl (fun K hK => ?_) AllReadyH.nil
            go_simp
            refine ((HO1).out _).mono ?_
            rintro e u24 ⟨rfl, hb⟩
            refine hK.out _ _ (hHu23.call hb) (fun hHu24 => ?_)
            have hN6 := hN6.below hb hN6.lt
            have hN7 := hN7.below hb hN7.lt
            clear hK K hb
            try simp only [Act.put, List.getElem_toArray, List.getElem_cons_zero, List.getElem_cons_succ, List.setIfInBounds_toArray, List.set_cons_zero, List.set_cons_succ]
            refine wpAnyH_ready (rs := [5]) (by kernel_rfl) (by simp) ?_
            refine AllReadyH.cons rfl (fun K hK => ?_) AllReadyH.nil
            go_simp
            refine ((HO2).out _).mono ?_
            rintro e u25 ⟨rfl, hb⟩
            refine hK.out _ _ (hHu24.call hb) (fun hHu25 => ?_)
            have hN6 := hN6.below hb hN6.lt
            have hN7 := hN7.below hb hN7.lt
            clear hK K hb
            try simp only [Act.put, List.getElem_toArray, List.getElem_cons_zero, List.getElem_cons_succ, List.setIfInBounds_toArray, List.set_cons_zero, List.set_cons_succ]
            exact kEnd g6 g7 u25 ⟨hHu25, Lib.hid hN6, Lib.hid hN7, Nat.ne_of_lt hlt, hge6, hge7⟩
        · go_simp
          obtain ⟨g7, u26, eb, ew, hN7, hb⟩ := grow_one u0 cut0 49
          unfold cut0 at ew
          simp only [eb, ew]
          have hge7 : w.heap.size ≤ g7 := by rw [← eb]; exact hHeld.2.2.size
          clear eb ew
          refine hK.out _ _ (hHeld.call hb) (fun hHu26 => ?_)
          clear hK K hb
          try simp only [Act.put, List.getElem_toArray, List.getElem_cons_zero, List.getElem_cons_succ, List.setIfInBounds_toArray, List.set_cons_zero, List.set_cons_succ]
          refine wpAnyH_ready (rs := [2, 6]) (by kernel_rfl) (by simp) ?_
          refine AllReadyH.cons rfl (fun K hK => ?_) (AllReadyH.cons rfl (fun K hK => ?_) AllReadyH.nil)
          · go_simp
            refine ((HO1).out _).mono ?_
            rintro e u27 ⟨rfl, hb⟩
            refine hK.out _ _ (hHu26.call hb) (fun hHu27 => ?_)
            have hN7 := hN7.below hb hN7.lt
            clear hK K hb
            try simp only [Act.put, List.getElem_toArray, List.getElem_cons_zero, List.getElem_cons_succ, List.setIfInBounds_toArray, List.set_cons_zero, List.set_cons_succ]
            refine wpAnyH_ready (rs := [5, 6]) (by kernel_rfl) (by simp) ?_
            refine AllReadyH.cons rfl (fun K hK => ?_) (AllReadyH.cons rfl (fun K hK => ?_) AllReadyH.nil)
            · go_simp
              refine ((HO2).out _).mono ?_
              rintro e u28 ⟨rfl, hb⟩
              refine hK.out _ _ (hHu27.call hb) (fun hHu28 => ?_)
              have hN7 := hN7.below hb hN7.lt
              clear hK K hb
              try simp only [Act.put, List.getElem_toArray, List.getElem_cons_zero, List.getElem_cons_succ, List.setIfInBounds_toArray, List.set_cons_zero, List.set_cons_succ]
              refine wpAnyH_ready (rs := [6]) (by kernel_rfl) (by simp) ?_
              refine AllReadyH.cons rfl (fun K hK => ?_) AllReadyH.nil
              go_simp
              obtain ⟨g6, u29, eb, ew, hN6, hb⟩ := grow_one u28 cut0 49
              unfold cut0 at ew
              simp only [eb, ew]
              have hlt : g7 < g6 := by rw [← eb]; exact hN7.lt
              have hge6 : w.heap.size ≤ g6 := by rw [← eb]; exact hHu28.2.2.size
              clear eb ew
              refine hK.out _ _ (hHu28.call hb) (fun hHu29 => ?_)
              have hN7 := hN7.below hb hN7.lt
              clear hK K hb
              try simp only [Act.put, List.getElem_toArray, List.getElem_cons_zero, List.getElem_cons_succ, List.setIfInBounds_toArray, List.set_cons_zero, List.set_cons_succ]
              exact kEnd g6 g7 u29 ⟨hHu29, Lib.hid hN6, Lib.hid hN7, Ne.symm (Nat.ne_of_lt hlt), hge6, hge7⟩
            · go_simp
              obtain ⟨g6, u30, eb, ew, hN6, hb⟩ := grow_one u27 cut0 49
              unfold cut0 at ew
              simp only [eb, ew]
              have hlt : g7 < g6 := by rw [← eb]; exact hN7.lt
              have hge6 : w.heap.size ≤ g6 := by rw [← eb]; exact hHu27.2.2.size
              clear eb ew
              refine hK.out _ _ (hHu27.call hb) (fun hHu30 => ?_)
              have hN7 := hN7.below hb hN7.lt
              clear hK K hb
              try simp only [Act.put, List.getElem_toArray, List.getElem_cons_zero, List.getElem_cons_succ, List.setIfInBounds_toArray, List.set_cons_zero, List.set_cons_succ]
              refine wpAnyH_ready (rs := [5]) (by kernel_rfl) (by simp) ?_
              refine AllReadyH.cons rfl (fun K hK => ?_) AllReadyH.nil
              go_simp
              refine ((HO2).out _).mono ?_
              rintro e u31 ⟨rfl, hb⟩
              refine hK.out _ _ (hHu30.call hb) (fun hHu31 => ?_)
              have hN7 := hN7.below hb hN7.lt
              have hN6 := hN6.below hb hN6.lt
              clear hK K hb
              try simp only [Act.put, List.getElem_toArray, List.getElem_cons_zero, List.getElem_cons_succ, List.setIfInBounds_toArray, List.set_cons_zero, List.set_cons_succ]
              exact kEnd g6 g7 u31 ⟨hHu31, Lib.hid hN6, Lib.hid hN7, Ne.symm (Nat.ne_of_lt hlt), hge6, hge7⟩
          · go_simp
            obtain ⟨g6, u32, eb, ew, hN6, hb⟩ := grow_one u26 cut0 49
            unfold cut0 at ew
            simp only [eb, ew]
            have hlt : g7 < g6 := by rw [← eb]; exact hN7.lt
            have hge6 : w.heap.size ≤ g6 := by rw [← eb]; exact hHu26.2.2.size
            clear eb ew
            refine hK.out _ _ (hHu26.call hb) (fun hHu32 => ?_)
            have hN7 := hN7.below hb hN7.lt
            clear hK K hb
            try simp only [Act.put, List.getElem_toArray, List.getElem_cons_zero, List.getElem_cons_succ, List.setIfInBounds_toArray, List.set_cons_zero, List.set_cons_succ]
            refine wpAnyH_ready (rs := [2]) (by kernel_rfl) (by simp) ?_
            refine AllReadyH.cons rfl (fun K hK => ?_) AllReadyH.nil
            go_simp
            refine ((HO1).out _).mono ?_
            rintro e u33 ⟨rfl, hb⟩
            refine hK.out _ _ (hHu32.call hb) (fun hHu33 => ?_)
            have hN7 := hN7.below hb hN7.lt
            have hN6 := hN6.below hb hN6.lt
            clear hK K hb
            try simp only [Act.put, List.getElem_toArray, List.getElem_cons_zero, List.getElem_cons_succ, List.setIfInBounds_toArray, List.set_cons_zero, List.set_cons_succ]
            refine wpAnyH_ready (rs := [5]) (by kernel_rfl) (by simp) ?_
            refine AllReadyH.cons rfl (fun K hK => ?_) AllReadyH.nil
            go_simp
            refine ((HO2).out _).mono ?_
            rintro e u34 ⟨rfl, hb⟩
            refine hK.out _ _ (hHu33.call hb) (fun hHu34 => ?_)
            have hN7 := hN7.below hb hN7.lt
            have hN6 := hN6.below hb hN6.lt
            clear hK K hb
            try simp only [Act.put, List.getElem_toArray, List.getElem_cons_zero, List.getElem_cons_succ, List.setIfInBounds_toArray, List.set_cons_zero, List.set_cons_succ]
            exact kEnd g6 g7 u34 ⟨hHu34, Lib.hid hN6, Lib.hid hN7, Ne.symm (Nat.ne_of_lt hlt), hge6, hge7⟩
      ) (fun g4 g5 u hF => by
        obtain ⟨hHeld, F4, F5, hne, hge4, hge5⟩ := hF
        have n41 : w.heap.size ≠ g4 := hHeld.1.ne_ F4.out (by decide)
        have n42 : w1.heap.size ≠ g4 := hHeld.2.1.ne_ F4.out (by decide)
        have n51 : w.heap.size ≠ g5 := hHeld.1.ne_ F5.out (by decide)
        have n52 : w1.heap.size ≠ g5 := hHeld.2.1.ne_ F5.out (by decide)
        have z40 : u.cell? ⟨g4, 0, none⟩ = some (.int .i64 0) := F4.out.cell 0
        have y40 : u.frozen? ⟨g4, 0, none⟩ = false := F4.out.frozen 0
        have z41 : u.cell? ⟨g4, 1, none⟩ = some (.string ⟨#[]⟩) := F4.out.cell 1
        have y41 : u.frozen? ⟨g4, 1, none⟩ = false := F4.out.frozen 1
        have z42 : u.cell? ⟨g4, 2, none⟩ = some (.string ⟨#[]⟩) := F4.out.cell 2
        have y42 : u.frozen? ⟨g4, 2, none⟩ = false := F4.out.frozen 2
        have z43 : u.cell? ⟨g4, 3, none⟩ = some (.bool false) := F4.out.cell 3
        have y43 : u.frozen? ⟨g4, 3, none⟩ = false := F4.out.frozen 3
        refine wpAnyH_ready (rs := [8]) (by kernel_rfl) (by simp) ?_
        refine AllReadyH.cons rfl (fun K hK => ?_) AllReadyH.nil
        go_simp
        have hS8 : MfS w w1 x y ((((u.setCell ⟨g4, 0, none⟩ (.int .i64 (Nm.kindP (str y.u)))).setCell ⟨g4, 1, none⟩ (.string (Nm.preP (str y.u)))).setCell ⟨g4, 2, none⟩ (.string (Nm.instP (str y.u)))).setCell ⟨g4, 3, none⟩ (.bool (Nm.atP (str y.u)))) := (((hHeld.put n41 n42 hge4 0 _).put n41 n42 hge4 1 _).put n41 n42 hge4 2 _).put n41 n42 hge4 3 _
        have G4 : Hid (Blk ((((u.setCell ⟨g4, 0, none⟩ (.int .i64 (Nm.kindP (str y.u)))).setCell ⟨g4, 1, none⟩ (.string (Nm.preP (str y.u)))).setCell ⟨g4, 2, none⟩ (.string (Nm.instP (str y.u)))).setCell ⟨g4, 3, none⟩ (.bool (Nm.atP (str y.u)))) g4 49 (cutA y.u)) := (((F4.out.setCell 0 _).setCell 1 _).setCell 2 _).setCell 3 _
        have G5 : Hid (Blk ((((u.setCell ⟨g4, 0, none⟩ (.int .i64 (Nm.kindP (str y.u)))).setCell ⟨g4, 1, none⟩ (.string (Nm.preP (str y.u)))).setCell ⟨g4, 2, none⟩ (.string (Nm.instP (str y.u)))).setCell ⟨g4, 3, none⟩ (.bool (Nm.atP (str y.u)))) g5 49 cut0) := (((F5.out.setOther (show g5 ≠ g4 from hne.symm) _).setOther (show g5 ≠ g4 from hne.symm) _).setOther (show g5 ≠ g4 from hne.symm) _).setOther (show g5 ≠ g4 from hne.symm) _
        generalize (((u.setCell ⟨g4, 0, none⟩ (.int .i64 (Nm.kindP (str y.u)))).setCell ⟨g4, 1, none⟩ (.string (Nm.preP (str y.u)))).setCell ⟨g4, 2, none⟩ (.string (Nm.instP (str y.u)))).setCell ⟨g4, 3, none⟩ (.bool (Nm.atP (str y.u))) = v8 at *
        refine hK.out _ _ hS8 (fun hH8 => ?_)
        clear hK K z40 y40 z41 y41 z42 y42 z43 y43
        try simp only [Act.put, List.getElem_toArray, List.getElem_cons_zero, List.getElem_cons_succ, List.setIfInBounds_toArray, List.set_cons_zero, List.set_cons_succ]
        have z50 : v8.cell? ⟨g5, 0, none⟩ = some (.int .i64 0) := G5.out.cell 0
        have y50 : v8.frozen? ⟨g5, 0, none⟩ = false := G5.out.frozen 0
        have z51 : v8.cell? ⟨g5, 1, none⟩ = some (.string ⟨#[]⟩) := G5.out.cell 1
        have y51 : v8.frozen? ⟨g5, 1, none⟩ = false := G5.out.frozen 1
        have z52 : v8.cell? ⟨g5, 2, none⟩ = some (.string ⟨#[]⟩) := G5.out.cell 2
        have y52 : v8.frozen? ⟨g5, 2, none⟩ = false := G5.out.frozen 2
        have z53 : v8.cell? ⟨g5, 3, none⟩ = some (.bool false) := G5.out.cell 3
        have y53 : v8.frozen? ⟨g5, 3, none⟩ = false := G5.out.frozen 3
        refine wpAnyH_ready (rs := [9]) (by kernel_rfl) (by simp) ?_
        refine AllReadyH.cons rfl (fun K hK => ?_) AllReadyH.nil
        go_simp
        have hS9 : MfS w w1 x y ((((v8.setCell ⟨g5, 0, none⟩ (.int .i64 (Nm.kindP (str x.l)))).setCell ⟨g5, 1, none⟩ (.string (Nm.preP (str x.l)))).setCell ⟨g5, 2, none⟩ (.string (Nm.instP (str x.l)))).setCell ⟨g5, 3, none⟩ (.bool (Nm.atP (str x.l)))) := (((hH8.put n51 n52 hge5 0 _).put n51 n52 hge5 1 _).put n51 n52 hge5 2 _).put n51 n52 hge5 3 _
        have G5 : Hid (Blk ((((v8.setCell ⟨g5, 0, none⟩ (.int .i64 (Nm.kindP (str x.l)))).setCell ⟨g5, 1, none⟩ (.string (Nm.preP (str x.l)))).setCell ⟨g5, 2, none⟩ (.string (Nm.instP (str x.l)))).setCell ⟨g5, 3, none⟩ (.bool (Nm.atP (str x.l)))) g5 49 (cutA x.l)) := (((G5.out.setCell 0 _).setCell 1 _).setCell 2 _).setCell 3 _
        have G4 : Hid (Blk ((((v8.setCell ⟨g5, 0, none⟩ (.int .i64 (Nm.kindP (str x.l)))).setCell ⟨g5, 1, none⟩ (.string (Nm.preP (str x.l)))).setCell ⟨g5, 2, none⟩ (.string (Nm.instP (str x.l)))).setCell ⟨g5, 3, none⟩ (.bool (Nm.atP (str x.l)))) g4 49 (cutA y.u)) := (((G4.out.setOther (show g4 ≠ g5 from hne) _).setOther (show g4 ≠ g5 from hne) _).setOther (show g4 ≠ g5 from hne) _).setOther (show g4 ≠ g5 from hne) _
        generalize (((v8.setCell ⟨g5, 0, none⟩ (.int .i64 (Nm.kindP (str x.l)))).setCell ⟨g5, 1, none⟩ (.string (Nm.preP (str x.l)))).setCell ⟨g5, 2, none⟩ (.string (Nm.instP (str x.l)))).setCell ⟨g5, 3, none⟩ (.bool (Nm.atP (str x.l))) = v9 at *
        refine hK.out _ _ hS9 (fun hH9 => ?_)
        clear hK K z50 y50 z51 y51 z52 y52 z53 y53
        try simp only [Act.put, List.getElem_toArray, List.getElem_cons_zero, List.getElem_cons_succ, List.setIfInBounds_toArray, List.set_cons_zero, List.set_cons_succ]
        refine wpAnyH_done (by kernel_rfl) ?_ _
        go_wp2_with fail
        go_meet
        exact ⟨g4, g5, rfl, rfl, G4, G5, hS9⟩)
    case rest =>
      obtain ⟨g4, g5, rfl, rfl, G4, G5, hS⟩ := hcut
      skip
      have kW : wc.cell? ⟨w1.heap.size, 0, none⟩ = some (.int .i64 y.k) := hS.out.2.1.cell 0
      have kU : wc.cell? ⟨w1.heap.size, 2, none⟩ = some (.string (str y.u)) := hS.out.2.1.cell 2
      have kL : wc.cell? ⟨w.heap.size, 2, none⟩ = some (.string (str x.l)) := hS.out.1.cell 2
      have k4 : wc.cell? ⟨g4, 0, none⟩ = some (.int .i64 (Nm.kindP (str y.u))) := G4.out.cell 0
      have k5 : wc.cell? ⟨g5, 0, none⟩ = some (.int .i64 (Nm.kindP (str x.l))) := G5.out.cell 0
      have HS := Lib.hid hS.out
      clear hS HO1 HO2 hbad hS2 HK1 HB1 t1 e1
      obtain ⟨yk, hyk⟩ : ∃ n, y.k = n := ⟨_, rfl⟩
      rw [hyk] at kW HM2
      clear hyk
      by_cases h1 : yk = 1
      · have HM3 : Hid (mayF nmsP x = (decide (x.l = []) || decide (x.l = nulL) || (decide (nmsP.kind x.l = nmsP.kind y.u) && decide (nmsP.isT y.u = nmsP.isT x.l)))) := by show _ = _; rw [HM2.out, if_pos h1]
        have t1 : (yk == 1) = true := by simp [h1]
        have HT : MfT w w1 x y g4 g5 wc := ⟨HS.out, G4.out, G5.out⟩
        clear HM2 h1
        by_cases hl0 : x.l = []
        · have HV : Hid (mayF nmsP x = true) := by show _ = _; rw [HM3.out, decide_eq_true hl0]; rfl
          rw [decide_eq_true hl0] at e2
          clear hl0 HM3 e3
          go_wp2_with fail
          refine wp_region_held_drew (S := fun W => MfT w w1 x y g4 g5 W) (by kernel_rfl) ?_ (fun hHeld => ?_)
          · exact HT.drew
          refine wpAnyH_take (i := 0) (v := ?v0_2) rfl (by kernel_rfl) (by kernel_rfl) (by kernel_rfl) (fun _ _ _ h => h) (Or.inl ⟨by rfl, ?hy0_2⟩) (by assumption) ?_
          case hy0_2 => (intro W hSw; (try dsimp only at hSw); go_simp; (try with_reducible rfl))
          try simp only [Act.put, List.getElem_toArray, List.getElem_cons_zero, List.setIfInBounds_toArray, List.set_cons_zero, List.set_cons_succ]
          refine wpAnyH_take (i := 1) (v := ?v1_2) rfl (by kernel_rfl) (by kernel_rfl) (by kernel_rfl) (fun _ _ _ h => h) (Or.inl ⟨by rfl, ?hy1_2⟩) (by assumption) ?_
          case hy1_2 => (intro W hSw; have q0 : W.cell? ⟨w.heap.size, 2, none⟩ = some (.string (str x.l)) := hSw.1.1.cell 2; (try dsimp only at hSw); go_simp; (try with_reducible rfl))
          try simp only [Act.put, List.getElem_toArray, List.getElem_cons_zero, List.getElem_cons_succ, List.setIfInBounds_toArray, List.set_cons_zero, List.set_cons_succ]
          refine wpAnyH_take (i := 2) (v := ?v2_2) rfl (by kernel_rfl) (by kernel_rfl) (by kernel_rfl) (fun _ _ _ h => h) (Or.inl ⟨by rfl, ?hy2_2⟩) (by assumption) ?_
          case hy2_2 => (intro W hSw; (try dsimp only at hSw); go_simp; (try with_reducible rfl))
          try simp only [Act.put, List.getElem_toArray, List.getElem_cons_zero, List.getElem_cons_succ, List.setIfInBounds_toArray, List.set_cons_zero, List.set_cons_succ]
          refine wpAnyH_take (i := 3) (v := ?v3_2) rfl (by kernel_rfl) (by kernel_rfl) (by kernel_rfl) (fun _ _ _ h => h) (Or.inl ⟨by rfl, ?hy3_2⟩) (by assumption) ?_
          case hy3_2 => (intro W hSw; (try dsimp only at hSw); go_simp; (try with_reducible rfl))
          try simp only [Act.put, List.getElem_toArray, List.getElem_cons_zero, List.getElem_cons_succ, List.setIfInBounds_toArray, List.set_cons_zero, List.set_cons_succ]
          refine wpAnyH_take (i := 4) (v := undef) rfl (by kernel_rfl) (by kernel_rfl) (by kernel_rfl) (fun _ _ _ h => h) (Or.inr ⟨by rfl, rfl⟩) (by assumption) ?_
          try simp only [Act.put, List.getElem_toArray, List.getElem_cons_zero, List.getElem_cons_succ, List.setIfInBounds_toArray, List.set_cons_zero, List.set_cons_succ]
          refine wpAnyH_take (i := 5) (v := undef) rfl (by kernel_rfl) (by kernel_rfl) (by kernel_rfl) (fun _ _ _ h => h) (Or.inr ⟨by rfl, rfl⟩) (by assumption) ?_
          try simp only [Act.put, List.getElem_toArray, List.getElem_cons_zero, List.getElem_cons_succ, List.setIfInBounds_toArray, List.set_cons_zero, List.set_cons_succ]
          refine wpAnyH_take (i := 6) (v := undef) rfl (by kernel_rfl) (by kernel_rfl) (by kernel_rfl) (fun _ _ _ h => h) (Or.inr ⟨by rfl, rfl⟩) (by assumption) ?_
          try simp only [Act.put, List.getElem_toArray, List.getElem_cons_zero, List.getElem_cons_succ, List.setIfInBounds_toArray, List.set_cons_zero, List.set_cons_succ]
          refine wpAnyH_take (i := 7) (v := ?v7_2) rfl (by kernel_rfl) (by kernel_rfl) (by kernel_rfl) (fun _ _ _ h => h) (Or.inl ⟨by rfl, ?hy7_2⟩) (by assumption) ?_
          case hy7_2 => (intro W hSw; (try dsimp only at hSw); go_simp; (try with_reducible rfl))
          try simp only [Act.put, List.getElem_toArray, List.getElem_cons_zero, List.getElem_cons_succ, List.setIfInBounds_toArray, List.set_cons_zero, List.set_cons_succ]
          refine wpAnyH_take (i := 8) (v := ?v8_2) rfl (by kernel_rfl) (by kernel_rfl) (by kernel_rfl) (fun _ _ _ h => h) (Or.inl ⟨by rfl, ?hy8_2⟩) (by assumption) ?_
          case hy8_2 => (intro W hSw; (try dsimp only at hSw); go_simp; (try with_reducible rfl))
          try simp only [Act.put, List.getElem_toArray, List.getElem_cons_zero, List.getElem_cons_succ, List.setIfInBounds_toArray, List.set_cons_zero, List.set_cons_succ]
          refine wpAnyH_take (i := 9) (v := undef) rfl (by kernel_rfl) (by kernel_rfl) (by kernel_rfl) (fun _ _ _ h => h) (Or.inr ⟨by rfl, rfl⟩) (by assumption) ?_
          try simp only [Act.put, List.getElem_toArray, List.getElem_cons_zero, List.getElem_cons_succ, List.setIfInBounds_toArray, List.set_cons_zero, List.set_cons_succ]
          refine wpAnyH_take (i := 10) (v := undef) rfl (by kernel_rfl) (by kernel_rfl) (by kernel_rfl) (fun _ _ _ h => h) (Or.inr ⟨by rfl, rfl⟩) (by assumption) ?_
          try simp only [Act.put, List.getElem_toArray, List.getElem_cons_zero, List.getElem_cons_succ, List.setIfInBounds_toArray, List.set_cons_zero, List.set_cons_succ]
          refine wpAnyH_take (i := 11) (v := undef) rfl (by kernel_rfl) (by kernel_rfl) (by kernel_rfl) (fun _ _ _ h => h) (Or.inr ⟨by rfl, rfl⟩) (by assumption) ?_
          try simp only [Act.put, List.getElem_toArray, List.getElem_cons_zero, List.getElem_cons_succ, List.setIfInBounds_toArray, List.set_cons_zero, List.set_cons_succ]
          refine wpAnyH_take (i := 12) (v := undef) rfl (by kernel_rfl) (by kernel_rfl) (by kernel_rfl) (fun _ _ _ h => h) (Or.inr ⟨by rfl, rfl⟩) (by assumption) ?_
          try simp only [Act.put, List.getElem_toArray, List.getElem_cons_zero, List.getElem_cons_succ, List.setIfInBounds_toArray, List.set_cons_zero, List.set_cons_succ]
          refine wpAnyH_take (i := 13) (v := undef) rfl (by kernel_rfl) (by kernel_rfl) (by kernel_rfl) (fun _ _ _ h => h) (Or.inr ⟨by rfl, rfl⟩) (by assumption) ?_
          try simp only [Act.put, List.getElem_toArray, List.getElem_cons_zero, List.getElem_cons_succ, List.setIfInBounds_toArray, List.set_cons_zero, List.set_cons_succ]
          refine wpAnyH_take (i := 14) (v := undef) rfl (by kernel_rfl) (by kernel_rfl) (by kernel_rfl) (fun _ _ _ h => h) (Or.inr ⟨by rfl, rfl⟩) (by assumption) ?_
          try simp only [Act.put, List.getElem_toArray, List.getElem_cons_zero, List.getElem_cons_succ, List.setIfInBounds_toArray, List.set_cons_zero, List.set_cons_succ]
          refine wpAnyH_take (i := 15) (v := undef) rfl (by kernel_rfl) (by kernel_rfl) (by kernel_rfl) (fun _ _ _ h => h) (Or.inr ⟨by rfl, rfl⟩) (by assumption) ?_
          try simp only [Act.put, List.getElem_toArray, List.getElem_cons_zero, List.getElem_cons_succ, List.setIfInBounds_toArray, List.set_cons_zero, List.set_cons_succ]
          refine wpAnyH_take (i := 16) (v := undef) rfl (by kernel_rfl) (by kernel_rfl) (by kernel_rfl) (fun _ _ _ h => h) (Or.inr ⟨by rfl, rfl⟩) (by assumption) ?_
          try simp only [Act.put, List.getElem_toArray, List.getElem_cons_zero, List.getElem_cons_succ, List.setIfInBounds_toArray, List.set_cons_zero, List.set_cons_succ]
          refine wpAnyH_take (i := 17) (v := undef) rfl (by kernel_rfl) (by kernel_rfl) (by kernel_rfl) (fun _ _ _ h => h) (Or.inr ⟨by rfl, rfl⟩) (by assumption) ?_
          try simp only [Act.put, List.getElem_toArray, List.getElem_cons_zero, List.getElem_cons_succ, List.setIfInBounds_toArray, List.set_cons_zero, List.set_cons_succ]
          refine wpAnyH_take (i := 18) (v := undef) rfl (by kernel_rfl) (by kernel_rfl) (by kernel_rfl) (fun _ _ _ h => h) (Or.inr ⟨by rfl, rfl⟩) (by assumption) ?_
          try simp only [Act.put, List.getElem_toArray, List.getElem_cons_zero, List.getElem_cons_succ, List.setIfInBounds_toArray, List.set_cons_zero, List.set_cons_succ]
          refine wpAnyH_take (i := 19) (v := undef) rfl (by kernel_rfl) (by kernel_rfl) (by kernel_rfl) (fun _ _ _ h => h) (Or.inr ⟨by rfl, rfl⟩) (by assumption) ?_
          try simp only [Act.put, List.getElem_toArray, List.getElem_cons_zero, List.getElem_cons_succ, List.setIfInBounds_toArray, List.set_cons_zero, List.set_cons_succ]
          refine wpAnyH_take (i := 20) (v := undef) rfl (by kernel_rfl) (by kernel_rfl) (by kernel_rfl) (fun _ _ _ h => h) (Or.inr ⟨by rfl, rfl⟩) (by assumption) ?_
          try simp only [Act.put, List.getElem_toArray, List.getElem_cons_zero, List.getElem_cons_succ, List.setIfInBounds_toArray, List.set_cons_zero, List.set_cons_succ]
          refine wpAnyH_take (i := 21) (v := undef) rfl (by kernel_rfl) (by kernel_rfl) (by kernel_rfl) (fun _ _ _ h => h) (Or.inr ⟨by rfl, rfl⟩) (by assumption) ?_
          try simp only [Act.put, List.getElem_toArray, List.getElem_cons_zero, List.getElem_cons_succ, List.setIfInBounds_toArray, List.set_cons_zero, List.set_cons_succ]
          refine wpAnyH_take (i := 22) (v := undef) rfl (by kernel_rfl) (by kernel_rfl) (by kernel_rfl) (fun _ _ _ h => h) (Or.inr ⟨by rfl, rfl⟩) (by assumption) ?_
          try simp only [Act.put, List.getElem_toArray, List.getElem_cons_zero, List.getElem_cons_succ, List.setIfInBounds_toArray, List.set_cons_zero, List.set_cons_succ]
          refine wpAnyH_take (i := 23) (v := ?v23_2) rfl (by kernel_rfl) (by kernel_rfl) (by kernel_rfl) (fun _ _ _ h => h) (Or.inl ⟨by rfl, ?hy23_2⟩) (by assumption) ?_
          case hy23_2 => (intro W hSw; (try dsimp only at hSw); go_simp; (try with_reducible rfl))
          try simp only [Act.put, List.getElem_toArray, List.getElem_cons_zero, List.getElem_cons_succ, List.setIfInBounds_toArray, List.set_cons_zero, List.set_cons_succ]
          refine wpAnyH_take (i := 24) (v := ?v24_2) rfl (by kernel_rfl) (by kernel_rfl) (by kernel_rfl) (fun _ _ _ h => h) (Or.inl ⟨by rfl, ?hy24_2⟩) (by assumption) ?_
          case hy24_2 => (intro W hSw; (try dsimp only at hSw); go_simp; (try with_reducible rfl))
          try simp only [Act.put, List.getElem_toArray, List.getElem_cons_zero, List.getElem_cons_succ, List.setIfInBounds_toArray, List.set_cons_zero, List.set_cons_succ]
          refine wpAnyH_done (by kernel_rfl) ?_ _
          have HBz : Hid (Below w.heap.size w _) := hHeld.1.2.2
          go_wp2_with fail
          go_ret
          exact ⟨ret_bool (by rw [HV.out]), HBz.out⟩
        rw [decide_eq_false hl0] at e2
        by_cases hln : x.l = nulL
        · have HV : Hid (mayF nmsP x = true) := by show _ = _; rw [HM3.out, decide_eq_true hln]; simp
          rw [decide_eq_true hln] at e3
          clear hl0 hln HM3
          go_wp2_with fail
          refine wp_region_held_drew (S := fun W => MfT w w1 x y g4 g5 W) (by kernel_rfl) ?_ (fun hHeld => ?_)
          · exact HT.drew
          refine wpAnyH_take (i := 0) (v := ?v0_3) rfl (by kernel_rfl) (by kernel_rfl) (by kernel_rfl) (fun _ _ _ h => h) (Or.inl ⟨by rfl, ?hy0_3⟩) (by assumption) ?_
          case hy0_3 => (intro W hSw; (try dsimp only at hSw); go_simp; (try with_reducible rfl))
          try simp only [Act.put, List.getElem_toArray, List.getElem_cons_zero, List.setIfInBounds_toArray, List.set_cons_zero, List.set_cons_succ]
          refine wpAnyH_take (i := 1) (v := ?v1_3) rfl (by kernel_rfl) (by kernel_rfl) (by kernel_rfl) (fun _ _ _ h => h) (Or.inl ⟨by rfl, ?hy1_3⟩) (by assumption) ?_
          case hy1_3 => (intro W hSw; have q0 : W.cell? ⟨w.heap.size, 2, none⟩ = some (.string (str x.l)) := hSw.1.1.cell 2; (try dsimp only at hSw); go_simp; (try with_reducible rfl))
          try simp only [Act.put, List.getElem_toArray, List.getElem_cons_zero, List.getElem_cons_succ, List.setIfInBounds_toArray, List.set_cons_zero, List.set_cons_succ]
          refine wpAnyH_take (i := 2) (v := ?v2_3) rfl (by kernel_rfl) (by kernel_rfl) (by kernel_rfl) (fun _ _ _ h => h) (Or.inl ⟨by rfl, ?hy2_3⟩) (by assumption) ?_
          case hy2_3 => (intro W hSw; (try dsimp only at hSw); go_simp; (try with_reducible rfl))
          try simp only [Act.put, List.getElem_toArray, List.getElem_cons_zero, List.getElem_cons_succ, List.setIfInBounds_toArray, List.set_cons_zero, List.set_cons_succ]
          refine wpAnyH_take (i := 3) (v := ?v3_3) rfl (by kernel_rfl) (by kernel_rfl) (by kernel_rfl) (fun _ _ _ h => h) (Or.inl ⟨by rfl, ?hy3_3⟩) (by assumption) ?_
          case hy3_3 => (intro W hSw; (try dsimp only at hSw); go_simp; (try with_reducible rfl))
          try simp only [Act.put, List.getElem_toArray, List.getElem_cons_zero, List.getElem_cons_succ, List.setIfInBounds_toArray, List.set_cons_zero, List.set_cons_succ]
          refine wpAnyH_take (i := 4) (v := ?v4_3) rfl (by kernel_rfl) (by kernel_rfl) (by kernel_rfl) (fun _ _ _ h => h) (Or.inl ⟨by rfl, ?hy4_3⟩) (by assumption) ?_
          case hy4_3 => (intro W hSw; (try dsimp only at hSw); go_simp; (try with_reducible rfl))
          try simp only [Act.put, List.getElem_toArray, List.getElem_cons_zero, List.getElem_cons_succ, List.setIfInBounds_toArray, List.set_cons_zero, List.set_cons_succ]
          refine wpAnyH_take (i := 5) (v := ?v5_3) rfl (by kernel_rfl) (by kernel_rfl) (by kernel_rfl) (fun _ _ _ h => h) (Or.inl ⟨by rfl, ?hy5_3⟩) (by assumption) ?_
          case hy5_3 => (intro W hSw; have q0 : W.cell? ⟨w.heap.size, 2, none⟩ = some (.string (str x.l)) := hSw.1.1.cell 2; (try dsimp only at hSw); go_simp; (try with_reducible rfl))
          try simp only [Act.put, List.getElem_toArray, List.getElem_cons_zero, List.getElem_cons_succ, List.setIfInBounds_toArray, List.set_cons_zero, List.set_cons_succ]
          refine wpAnyH_take (i := 6) (v := ?v6_3) rfl (by kernel_rfl) (by kernel_rfl) (by kernel_rfl) (fun _ _ _ h => h) (Or.inl ⟨by rfl, ?hy6_3⟩) (by assumption) ?_
          case hy6_3 => (intro W hSw; (try dsimp only at hSw); go_simp; (try with_reducible rfl))
          try simp only [Act.put, List.getElem_toArray, List.getElem_cons_zero, List.getElem_cons_succ, List.setIfInBounds_toArray, List.set_cons_zero, List.set_cons_succ]
          refine wpAnyH_take (i := 7) (v := ?v7_3) rfl (by kernel_rfl) (by kernel_rfl) (by kernel_rfl) (fun _ _ _ h => h) (Or.inl ⟨by rfl, ?hy7_3⟩) (by assumption) ?_
          case hy7_3 => (intro W hSw; (try dsimp only at hSw); go_simp; (try with_reducible rfl))
          try simp only [Act.put, List.getElem_toArray, List.getElem_cons_zero, List.getElem_cons_succ, List.setIfInBounds_toArray, List.set_cons_zero, List.set_cons_succ]
          refine wpAnyH_take (i := 8) (v := ?v8_3) rfl (by kernel_rfl) (by kernel_rfl) (by kernel_rfl) (fun _ _ _ h => h) (Or.inl ⟨by rfl, ?hy8_3⟩) (by assumption) ?_
          case hy8_3 => (intro W hSw; (try dsimp only at hSw); go_simp; (try with_reducible rfl))
          try simp only [Act.put, List.getElem_toArray, List.getElem_cons_zero, List.getElem_cons_succ, List.setIfInBounds_toArray, List.set_cons_zero, List.set_cons_succ]
          refine wpAnyH_take (i := 9) (v := undef) rfl (by kernel_rfl) (by kernel_rfl) (by kernel_rfl) (fun _ _ _ h => h) (Or.inr ⟨by rfl, rfl⟩) (by assumption) ?_
          try simp only [Act.put, List.getElem_toArray, List.getElem_cons_zero, List.getElem_cons_succ, List.setIfInBounds_toArray, List.set_cons_zero, List.set_cons_succ]
          refine wpAnyH_take (i := 10) (v := undef) rfl (by kernel_rfl) (by kernel_rfl) (by kernel_rfl) (fun _ _ _ h => h) (Or.inr ⟨by rfl, rfl⟩) (by assumption) ?_
          try simp only [Act.put, List.getElem_toArray, List.getElem_cons_zero, List.getElem_cons_succ, List.setIfInBounds_toArray, List.set_cons_zero, List.set_cons_succ]
          refine wpAnyH_take (i := 11) (v := undef) rfl (by kernel_rfl) (by kernel_rfl) (by kernel_rfl) (fun _ _ _ h => h) (Or.inr ⟨by rfl, rfl⟩) (by assumption) ?_
          try simp only [Act.put, List.getElem_toArray, List.getElem_cons_zero, List.getElem_cons_succ, List.setIfInBounds_toArray, List.set_cons_zero, List.set_cons_succ]
          refine wpAnyH_take (i := 12) (v := undef) rfl (by kernel_rfl) (by kernel_rfl) (by kernel_rfl) (fun _ _ _ h => h) (Or.inr ⟨by rfl, rfl⟩) (by assumption) ?_
          try simp only [Act.put, List.getElem_toArray, List.getElem_cons_zero, List.getElem_cons_succ, List.setIfInBounds_toArray, List.set_cons_zero, List.set_cons_succ]
          refine wpAnyH_take (i := 13) (v := undef) rfl (by kernel_rfl) (by kernel_rfl) (by kernel_rfl) (fun _ _ _ h => h) (Or.inr ⟨by rfl, rfl⟩) (by assumption) ?_
          try simp only [Act.put, List.getElem_toArray, List.getElem_cons_zero, List.getElem_cons_succ, List.setIfInBounds_toArray, List.set_cons_zero, List.set_cons_succ]
          refine wpAnyH_take (i := 14) (v := undef) rfl (by kernel_rfl) (by kernel_rfl) (by kernel_rfl) (fun _ _ _ h => h) (Or.inr ⟨by rfl, rfl⟩) (by assumption) ?_
          try simp only [Act.put, List.getElem_toArray, List.getElem_cons_zero, List.getElem_cons_succ, List.setIfInBounds_toArray, List.set_cons_zero, List.set_cons_succ]
          refine wpAnyH_take (i := 15) (v := undef) rfl (by kernel_rfl) (by kernel_rfl) (by kernel_rfl) (fun _ _ _ h => h) (Or.inr ⟨by rfl, rfl⟩) (by assumption) ?_
          try simp only [Act.put, List.getElem_toArray, List.getElem_cons_zero, List.getElem_cons_succ, List.setIfInBounds_toArray, List.set_cons_zero, List.set_cons_succ]
          refine wpAnyH_take (i := 16) (v := undef) rfl (by kernel_rfl) (by kernel_rfl) (by kernel_rfl) (fun _ _ _ h => h) (Or.inr ⟨by rfl, rfl⟩) (by assumption) ?_
          try simp only [Act.put, List.getElem_toArray, List.getElem_cons_zero, List.getElem_cons_succ, List.setIfInBounds_toArray, List.set_cons_zero, List.set_cons_succ]
          refine wpAnyH_take (i := 17) (v := undef) rfl (by kernel_rfl) (by kernel_rfl) (by kernel_rfl) (fun _ _ _ h => h) (Or.inr ⟨by rfl, rfl⟩) (by assumption) ?_
          try simp only [Act.put, List.getElem_toArray, List.getElem_cons_zero, List.getElem_cons_succ, List.setIfInBounds_toArray, List.set_cons_zero, List.set_cons_succ]
          refine wpAnyH_take (i := 18) (v := undef) rfl (by kernel_rfl) (by kernel_rfl) (by kernel_rfl) (fun _ _ _ h => h) (Or.inr ⟨by rfl, rfl⟩) (by assumption) ?_
          try simp only [Act.put, List.getElem_toArray, List.getElem_cons_zero, List.getElem_cons_succ, List.setIfInBounds_toArray, List.set_cons_zero, List.set_cons_succ]
          refine wpAnyH_take (i := 19) (v := undef) rfl (by kernel_rfl) (by kernel_rfl) (by kernel_rfl) (fun _ _ _ h => h) (Or.inr ⟨by rfl, rfl⟩) (by assumption) ?_
          try simp only [Act.put, List.getElem_toArray, List.getElem_cons_zero, List.getElem_cons_succ, List.setIfInBounds_toArray, List.set_cons_zero, List.set_cons_succ]
          refine wpAnyH_take (i := 20) (v := undef) rfl (by kernel_rfl) (by kernel_rfl) (by kernel_rfl) (fun _ _ _ h => h) (Or.inr ⟨by rfl, rfl⟩) (by assumption) ?_
          try simp only [Act.put, List.getElem_toArray, List.getElem_cons_zero, List.getElem_cons_succ, List.setIfInBounds_toArray, List.set_cons_zero, List.set_cons_succ]
          refine wpAnyH_take (i := 21) (v := undef) rfl (by kernel_rfl) (by kernel_rfl) (by kernel_rfl) (fun _ _ _ h => h) (Or.inr ⟨by rfl, rfl⟩) (by assumption) ?_
          try simp only [Act.put, List.getElem_toArray, List.getElem_cons_zero, List.getElem_cons_succ, List.setIfInBounds_toArray, List.set_cons_zero, List.set_cons_succ]
          refine wpAnyH_take (i := 22) (v := undef) rfl (by kernel_rfl) (by kernel_rfl) (by kernel_rfl) (fun _ _ _ h => h) (Or.inr ⟨by rfl, rfl⟩) (by assumption) ?_
          try simp only [Act.put, List.getElem_toArray, List.getElem_cons_zero, List.getElem_cons_succ, List.setIfInBounds_toArray, List.set_cons_zero, List.set_cons_succ]
          refine wpAnyH_take (i := 23) (v := ?v23_3) rfl (by kernel_rfl) (by kernel_rfl) (by kernel_rfl) (fun _ _ _ h => h) (Or.inl ⟨by rfl, ?hy23_3⟩) (by assumption) ?_
          case hy23_3 => (intro W hSw; (try dsimp only at hSw); go_simp; (try with_reducible rfl))
          try simp only [Act.put, List.getElem_toArray, List.getElem_cons_zero, List.getElem_cons_succ, List.setIfInBounds_toArray, List.set_cons_zero, List.set_cons_succ]
          refine wpAnyH_take (i := 24) (v := ?v24_3) rfl (by kernel_rfl) (by kernel_rfl) (by kernel_rfl) (fun _ _ _ h => h) (Or.inl ⟨by rfl, ?hy24_3⟩) (by assumption) ?_
          case hy24_3 => (intro W hSw; (try dsimp only at hSw); go_simp; (try with_reducible rfl))
          try simp only [Act.put, List.getElem_toArray, List.getElem_cons_zero, List.getElem_cons_succ, List.setIfInBounds_toArray, List.set_cons_zero, List.set_cons_succ]
          refine wpAnyH_done (by kernel_rfl) ?_ _
          have HBz : Hid (Below w.heap.size w _) := hHeld.1.2.2
          go_wp2_with fail
          go_ret
          exact ⟨ret_bool (by rw [HV.out]), HBz.out⟩
        rw [decide_eq_false hln] at e3
        have HM4 : Hid (mayF nmsP x = (decide (nmsP.kind x.l = nmsP.kind y.u) && decide (nmsP.isT y.u = nmsP.isT x.l))) := by show _ = _; rw [HM3.out, decide_eq_false hl0, decide_eq_false hln]; simp
        clear HM3 hl0 hln
        by_cases hkk : nmsP.kind x.l = nmsP.kind y.u
        · have hk : (Nm.kindP (str x.l) == Nm.kindP (str y.u)) = true := by
            have h' : Nm.kindP (str x.l) = Nm.kindP (str y.u) := hkk
            simp [h']
          have HI1 : Hid (∀ W, Calls Tryz.prog 44 #[.string (str y.u)] W fun e w' => e = .returned (.bool (nmsP.isT y.u)) ∧ Below W.heap.size W w') := fun W => Nm.rIsTemplate_any (str y.u) (by rw [str_size]; unfold maxLen; omega) W
          have HI2 : Hid (∀ W, Calls Tryz.prog 44 #[.string (str x.l)] W fun e w' => e = .returned (.bool (nmsP.isT x.l)) ∧ Below W.heap.size W w') := fun W => Nm.rIsTemplate_any (str x.l) (by rw [str_size]; unfold maxLen; omega) W
          have HV : Hid (mayF nmsP x = (nmsP.isT y.u == nmsP.isT x.l)) := by
            show _ = _
            rw [HM4.out, decide_eq_true hkk]
            cases nmsP.isT y.u <;> cases nmsP.isT x.l <;> rfl
          generalize nmsP.isT y.u = iu at *
          generalize nmsP.isT x.l = il at *
          clear HM4 hkk
          go_wp2_with fail
          refine wp_region_held_drew (S := fun W => MfT w w1 x y g4 g5 W) (by kernel_rfl) ?_ (fun hHeld => ?_)
          · exact HT.drew
          refine wpAnyH_take (i := 0) (v := ?v0_4) rfl (by kernel_rfl) (by kernel_rfl) (by kernel_rfl) (fun _ _ _ h => h) (Or.inl ⟨by rfl, ?hy0_4⟩) (by assumption) ?_
          case hy0_4 => (intro W hSw; (try dsimp only at hSw); go_simp; (try with_reducible rfl))
          try simp only [Act.put, List.getElem_toArray, List.getElem_cons_zero, List.setIfInBounds_toArray, List.set_cons_zero, List.set_cons_succ]
          refine wpAnyH_take (i := 1) (v := ?v1_4) rfl (by kernel_rfl) (by kernel_rfl) (by kernel_rfl) (fun _ _ _ h => h) (Or.inl ⟨by rfl, ?hy1_4⟩) (by assumption) ?_
          case hy1_4 => (intro W hSw; have q0 : W.cell? ⟨w.heap.size, 2, none⟩ = some (.string (str x.l)) := hSw.1.1.cell 2; (try dsimp only at hSw); go_simp; (try with_reducible rfl))
          try simp only [Act.put, List.getElem_toArray, List.getElem_cons_zero, List.getElem_cons_succ, List.setIfInBounds_toArray, List.set_cons_zero, List.set_cons_succ]
          refine wpAnyH_take (i := 2) (v := ?v2_4) rfl (by kernel_rfl) (by kernel_rfl) (by kernel_rfl) (fun _ _ _ h => h) (Or.inl ⟨by rfl, ?hy2_4⟩) (by assumption) ?_
          case hy2_4 => (intro W hSw; (try dsimp only at hSw); go_simp; (try with_reducible rfl))
          try simp only [Act.put, List.getElem_toArray, List.getElem_cons_zero, List.getElem_cons_succ, List.setIfInBounds_toArray, List.set_cons_zero, List.set_cons_succ]
          refine wpAnyH_take (i := 3) (v := ?v3_4) rfl (by kernel_rfl) (by kernel_rfl) (by kernel_rfl) (fun _ _ _ h => h) (Or.inl ⟨by rfl, ?hy3_4⟩) (by assumption) ?_
          case hy3_4 => (intro W hSw; (try dsimp only at hSw); go_simp; (try with_reducible rfl))
          try simp only [Act.put, List.getElem_toArray, List.getElem_cons_zero, List.getElem_cons_succ, List.setIfInBounds_toArray, List.set_cons_zero, List.set_cons_succ]
          refine wpAnyH_take (i := 4) (v := ?v4_4) rfl (by kernel_rfl) (by kernel_rfl) (by kernel_rfl) (fun _ _ _ h => h) (Or.inl ⟨by rfl, ?hy4_4⟩) (by assumption) ?_
          case hy4_4 => (intro W hSw; (try dsimp only at hSw); go_simp; (try with_reducible rfl))
          try simp only [Act.put, List.getElem_toArray, List.getElem_cons_zero, List.getElem_cons_succ, List.setIfInBounds_toArray, List.set_cons_zero, List.set_cons_succ]
          refine wpAnyH_take (i := 5) (v := ?v5_4) rfl (by kernel_rfl) (by kernel_rfl) (by kernel_rfl) (fun _ _ _ h => h) (Or.inl ⟨by rfl, ?hy5_4⟩) (by assumption) ?_
          case hy5_4 => (intro W hSw; have q0 : W.cell? ⟨w.heap.size, 2, none⟩ = some (.string (str x.l)) := hSw.1.1.cell 2; (try dsimp only at hSw); go_simp; (try with_reducible rfl))
          try simp only [Act.put, List.getElem_toArray, List.getElem_cons_zero, List.getElem_cons_succ, List.setIfInBounds_toArray, List.set_cons_zero, List.set_cons_succ]
          refine wpAnyH_take (i := 6) (v := ?v6_4) rfl (by kernel_rfl) (by kernel_rfl) (by kernel_rfl) (fun _ _ _ h => h) (Or.inl ⟨by rfl, ?hy6_4⟩) (by assumption) ?_
          case hy6_4 => (intro W hSw; (try dsimp only at hSw); go_simp; (try with_reducible rfl))
          try simp only [Act.put, List.getElem_toArray, List.getElem_cons_zero, List.getElem_cons_succ, List.setIfInBounds_toArray, List.set_cons_zero, List.set_cons_succ]
          refine wpAnyH_take (i := 7) (v := ?v7_4) rfl (by kernel_rfl) (by kernel_rfl) (by kernel_rfl) (fun _ _ _ h => h) (Or.inl ⟨by rfl, ?hy7_4⟩) (by assumption) ?_
          case hy7_4 => (intro W hSw; (try dsimp only at hSw); go_simp; (try with_reducible rfl))
          try simp only [Act.put, List.getElem_toArray, List.getElem_cons_zero, List.getElem_cons_succ, List.setIfInBounds_toArray, List.set_cons_zero, List.set_cons_succ]
          refine wpAnyH_take (i := 8) (v := ?v8_4) rfl (by kernel_rfl) (by kernel_rfl) (by kernel_rfl) (fun _ _ _ h => h) (Or.inl ⟨by rfl, ?hy8_4⟩) (by assumption) ?_
          case hy8_4 => (intro W hSw; (try dsimp only at hSw); go_simp; (try with_reducible rfl))
          try simp only [Act.put, List.getElem_toArray, List.getElem_cons_zero, List.getElem_cons_succ, List.setIfInBounds_toArray, List.set_cons_zero, List.set_cons_succ]
          refine wpAnyH_take (i := 9) (v := ?v9_4) rfl (by kernel_rfl) (by kernel_rfl) (by kernel_rfl) (fun _ _ _ h => h) (Or.inl ⟨by rfl, ?hy9_4⟩) (by assumption) ?_
          case hy9_4 => (intro W hSw; (try dsimp only at hSw); go_simp; (try with_reducible rfl))
          try simp only [Act.put, List.getElem_toArray, List.getElem_cons_zero, List.getElem_cons_succ, List.setIfInBounds_toArray, List.set_cons_zero, List.set_cons_succ]
          refine wpAnyH_take (i := 10) (v := ?v10_4) rfl (by kernel_rfl) (by kernel_rfl) (by kernel_rfl) (fun _ _ _ h => h) (Or.inl ⟨by rfl, ?hy10_4⟩) (by assumption) ?_
          case hy10_4 => (intro W hSw; have q0 : W.cell? ⟨g5, 0, none⟩ = some (.int .i64 (Nm.kindP (str x.l))) := hSw.2.2.cell 0; (try dsimp only at hSw); go_simp; (try with_reducible rfl))
          try simp only [Act.put, List.getElem_toArray, List.getElem_cons_zero, List.getElem_cons_succ, List.setIfInBounds_toArray, List.set_cons_zero, List.set_cons_succ]
          refine wpAnyH_take (i := 11) (v := ?v11_4) rfl (by kernel_rfl) (by kernel_rfl) (by kernel_rfl) (fun _ _ _ h => h) (Or.inl ⟨by rfl, ?hy11_4⟩) (by assumption) ?_
          case hy11_4 => (intro W hSw; (try dsimp only at hSw); go_simp; (try with_reducible rfl))
          try simp only [Act.put, List.getElem_toArray, List.getElem_cons_zero, List.getElem_cons_succ, List.setIfInBounds_toArray, List.set_cons_zero, List.set_cons_succ]
          refine wpAnyH_take (i := 12) (v := ?v12_4) rfl (by kernel_rfl) (by kernel_rfl) (by kernel_rfl) (fun _ _ _ h => h) (Or.inl ⟨by rfl, ?hy12_4⟩) (by assumption) ?_
          case hy12_4 => (intro W hSw; have q0 : W.cell? ⟨g4, 0, none⟩ = some (.int .i64 (Nm.kindP (str y.u))) := hSw.2.1.cell 0; (try dsimp only at hSw); go_simp; (try with_reducible rfl))
          try simp only [Act.put, List.getElem_toArray, List.getElem_cons_zero, List.getElem_cons_succ, List.setIfInBounds_toArray, List.set_cons_zero, List.set_cons_succ]
          refine wpAnyH_take (i := 13) (v := ?v13_4) rfl (by kernel_rfl) (by kernel_rfl) (by kernel_rfl) (fun _ _ _ h => h) (Or.inl ⟨by rfl, ?hy13_4⟩) (by assumption) ?_
          case hy13_4 => (intro W hSw; (try dsimp only at hSw); go_simp; (try with_reducible rfl))
          try simp only [Act.put, List.getElem_toArray, List.getElem_cons_zero, List.getElem_cons_succ, List.setIfInBounds_toArray, List.set_cons_zero, List.set_cons_succ]
          refine wpAnyH_take (i := 14) (v := ?v14_4) rfl (by kernel_rfl) (by kernel_rfl) (by kernel_rfl) (fun _ _ _ h => h) (Or.inl ⟨by rfl, ?hy14_4⟩) (by assumption) ?_
          case hy14_4 => (intro W hSw; (try dsimp only at hSw); go_simp; (try with_reducible rfl))
          try simp only [Act.put, List.getElem_toArray, List.getElem_cons_zero, List.getElem_cons_succ, List.setIfInBounds_toArray, List.set_cons_zero, List.set_cons_succ]
          refine wpAnyH_take (i := 15) (v := ?v15_4) rfl (by kernel_rfl) (by kernel_rfl) (by kernel_rfl) (fun _ _ _ h => h) (Or.inl ⟨by rfl, ?hy15_4⟩) (by assumption) ?_
          case hy15_4 => (intro W hSw; (try dsimp only at hSw); go_simp; (try with_reducible rfl))
          try simp only [Act.put, List.getElem_toArray, List.getElem_cons_zero, List.getElem_cons_succ, List.setIfInBounds_toArray, List.set_cons_zero, List.set_cons_succ]
          refine wpAnyH_take (i := 16) (v := ?v16_4) rfl (by kernel_rfl) (by kernel_rfl) (by kernel_rfl) (fun _ _ _ h => h) (Or.inl ⟨by rfl, ?hy16_4⟩) (by assumption) ?_
          case hy16_4 => (intro W hSw; have q0 : W.cell? ⟨w1.heap.size, 2, none⟩ = some (.string (str y.u)) := hSw.1.2.1.cell 2; (try dsimp only at hSw); go_simp; (try with_reducible rfl))
          try simp only [Act.put, List.getElem_toArray, List.getElem_cons_zero, List.getElem_cons_succ, List.setIfInBounds_toArray, List.set_cons_zero, List.set_cons_succ]
          refine wpAnyH_take (i := 18) (v := ?v18_4) rfl (by kernel_rfl) (by kernel_rfl) (by kernel_rfl) (fun _ _ _ h => h) (Or.inl ⟨by rfl, ?hy18_4⟩) (by assumption) ?_
          case hy18_4 => (intro W hSw; (try dsimp only at hSw); go_simp; (try with_reducible rfl))
          try simp only [Act.put, List.getElem_toArray, List.getElem_cons_zero, List.getElem_cons_succ, List.setIfInBounds_toArray, List.set_cons_zero, List.set_cons_succ]
          refine wpAnyH_take (i := 19) (v := ?v19_4) rfl (by kernel_rfl) (by kernel_rfl) (by kernel_rfl) (fun _ _ _ h => h) (Or.inl ⟨by rfl, ?hy19_4⟩) (by assumption) ?_
          case hy19_4 => (intro W hSw; have q0 : W.cell? ⟨w.heap.size, 2, none⟩ = some (.string (str x.l)) := hSw.1.1.cell 2; (try dsimp only at hSw); go_simp; (try with_reducible rfl))
          try simp only [Act.put, List.getElem_toArray, List.getElem_cons_zero, List.getElem_cons_succ, List.setIfInBounds_toArray, List.set_cons_zero, List.set_cons_succ]
          refine wpAnyH_ready (rs := [17]) (by kernel_rfl) (by simp) ?_
          refine AllReadyH.cons rfl (fun K hK => ?_) AllReadyH.nil
          go_simp
          (refine (HI1.out _).mono ?_; rintro e wq1 ⟨rfl, hbq⟩)
          refine hK.out _ _ ?_ (fun hHeld2 => ?_)
          · exact hHeld.call hbq
          clear hK K hHeld hbq
          have hHeld := hHeld2
          clear hHeld2
          try simp only [Act.put, List.getElem_toArray, List.getElem_cons_zero, List.getElem_cons_succ, List.setIfInBounds_toArray, List.set_cons_zero, List.set_cons_succ]
          refine wpAnyH_ready (rs := [20]) (by kernel_rfl) (by simp) ?_
          refine AllReadyH.cons rfl (fun K hK => ?_) AllReadyH.nil
          go_simp
          (refine (HI2.out _).mono ?_; rintro e wq2 ⟨rfl, hbq⟩)
          refine hK.out _ _ ?_ (fun hHeld2 => ?_)
          · exact hHeld.call hbq
          clear hK K hHeld hbq
          have hHeld := hHeld2
          clear hHeld2
          try simp only [Act.put, List.getElem_toArray, List.getElem_cons_zero, List.getElem_cons_succ, List.setIfInBounds_toArray, List.set_cons_zero, List.set_cons_succ]
          refine wpAnyH_take (i := 21) (v := ?v21_4) rfl (by kernel_rfl) (by kernel_rfl) (by kernel_rfl) (fun _ _ _ h => h) (Or.inl ⟨by rfl, ?hy21_4⟩) (by assumption) ?_
          case hy21_4 => (intro W hSw; (try dsimp only at hSw); go_simp; (try with_reducible rfl))
          try simp only [Act.put, List.getElem_toArray, List.getElem_cons_zero, List.getElem_cons_succ, List.setIfInBounds_toArray, List.set_cons_zero, List.set_cons_succ]
          refine wpAnyH_take (i := 22) (v := ?v22_4) rfl (by kernel_rfl) (by kernel_rfl) (by kernel_rfl) (fun _ _ _ h => h) (Or.inl ⟨by rfl, ?hy22_4⟩) (by assumption) ?_
          case hy22_4 => (intro W hSw; (try dsimp only at hSw); go_simp; (try with_reducible rfl))
          try simp only [Act.put, List.getElem_toArray, List.getElem_cons_zero, List.getElem_cons_succ, List.setIfInBounds_toArray, List.set_cons_zero, List.set_cons_succ]
          refine wpAnyH_take (i := 23) (v := ?v23_4) rfl (by kernel_rfl) (by kernel_rfl) (by kernel_rfl) (fun _ _ _ h => h) (Or.inl ⟨by rfl, ?hy23_4⟩) (by assumption) ?_
          case hy23_4 => (intro W hSw; (try dsimp only at hSw); go_simp; (try with_reducible rfl))
          try simp only [Act.put, List.getElem_toArray, List.getElem_cons_zero, List.getElem_cons_succ, List.setIfInBounds_toArray, List.set_cons_zero, List.set_cons_succ]
          refine wpAnyH_take (i := 24) (v := ?v24_4) rfl (by kernel_rfl) (by kernel_rfl) (by kernel_rfl) (fun _ _ _ h => h) (Or.inl ⟨by rfl, ?hy24_4⟩) (by assumption) ?_
          case hy24_4 => (intro W hSw; (try dsimp only at hSw); go_simp; (try with_reducible rfl))
          try simp only [Act.put, List.getElem_toArray, List.getElem_cons_zero, List.getElem_cons_succ, List.setIfInBounds_toArray, List.set_cons_zero, List.set_cons_succ]
          refine wpAnyH_done (by kernel_rfl) ?_ _
          have HBz : Hid (Below w.heap.size w _) := hHeld.1.2.2
          go_wp2_with fail
          go_ret
          exact ⟨ret_bool (by rw [HV.out]), HBz.out⟩
        · have hk : (Nm.kindP (str x.l) == Nm.kindP (str y.u)) = false := by
            simp
            exact hkk
          have HV : Hid (mayF nmsP x = false) := by show _ = _; rw [HM4.out, decide_eq_false hkk]; rfl
          clear HM4 hkk
          go_wp2_with fail
          refine wp_region_held_drew (S := fun W => MfT w w1 x y g4 g5 W) (by kernel_rfl) ?_ (fun hHeld => ?_)
          · exact HT.drew
          refine wpAnyH_take (i := 0) (v := ?v0_5) rfl (by kernel_rfl) (by kernel_rfl) (by kernel_rfl) (fun _ _ _ h => h) (Or.inl ⟨by rfl, ?hy0_5⟩) (by assumption) ?_
          case hy0_5 => (intro W hSw; (try dsimp only at hSw); go_simp; (try with_reducible rfl))
          try simp only [Act.put, List.getElem_toArray, List.getElem_cons_zero, List.setIfInBounds_toArray, List.set_cons_zero, List.set_cons_succ]
          refine wpAnyH_take (i := 1) (v := ?v1_5) rfl (by kernel_rfl) (by kernel_rfl) (by kernel_rfl) (fun _ _ _ h => h) (Or.inl ⟨by rfl, ?hy1_5⟩) (by assumption) ?_
          case hy1_5 => (intro W hSw; have q0 : W.cell? ⟨w.heap.size, 2, none⟩ = some (.string (str x.l)) := hSw.1.1.cell 2; (try dsimp only at hSw); go_simp; (try with_reducible rfl))
          try simp only [Act.put, List.getElem_toArray, List.getElem_cons_zero, List.getElem_cons_succ, List.setIfInBounds_toArray, List.set_cons_zero, List.set_cons_succ]
          refine wpAnyH_take (i := 2) (v := ?v2_5) rfl (by kernel_rfl) (by kernel_rfl) (by kernel_rfl) (fun _ _ _ h => h) (Or.inl ⟨by rfl, ?hy2_5⟩) (by assumption) ?_
          case hy2_5 => (intro W hSw; (try dsimp only at hSw); go_simp; (try with_reducible rfl))
          try simp only [Act.put, List.getElem_toArray, List.getElem_cons_zero, List.getElem_cons_succ, List.setIfInBounds_toArray, List.set_cons_zero, List.set_cons_succ]
          refine wpAnyH_take (i := 3) (v := ?v3_5) rfl (by kernel_rfl) (by kernel_rfl) (by kernel_rfl) (fun _ _ _ h => h) (Or.inl ⟨by rfl, ?hy3_5⟩) (by assumption) ?_
          case hy3_5 => (intro W hSw; (try dsimp only at hSw); go_simp; (try with_reducible rfl))
          try simp only [Act.put, List.getElem_toArray, List.getElem_cons_zero, List.getElem_cons_succ, List.setIfInBounds_toArray, List.set_cons_zero, List.set_cons_succ]
          refine wpAnyH_take (i := 4) (v := ?v4_5) rfl (by kernel_rfl) (by kernel_rfl) (by kernel_rfl) (fun _ _ _ h => h) (Or.inl ⟨by rfl, ?hy4_5⟩) (by assumption) ?_
          case hy4_5 => (intro W hSw; (try dsimp only at hSw); go_simp; (try with_reducible rfl))
          try simp only [Act.put, List.getElem_toArray, List.getElem_cons_zero, List.getElem_cons_succ, List.setIfInBounds_toArray, List.set_cons_zero, List.set_cons_succ]
          refine wpAnyH_take (i := 5) (v := ?v5_5) rfl (by kernel_rfl) (by kernel_rfl) (by kernel_rfl) (fun _ _ _ h => h) (Or.inl ⟨by rfl, ?hy5_5⟩) (by assumption) ?_
          case hy5_5 => (intro W hSw; have q0 : W.cell? ⟨w.heap.size, 2, none⟩ = some (.string (str x.l)) := hSw.1.1.cell 2; (try dsimp only at hSw); go_simp; (try with_reducible rfl))
          try simp only [Act.put, List.getElem_toArray, List.getElem_cons_zero, List.getElem_cons_succ, List.setIfInBounds_toArray, List.set_cons_zero, List.set_cons_succ]
          refine wpAnyH_take (i := 6) (v := ?v6_5) rfl (by kernel_rfl) (by kernel_rfl) (by kernel_rfl) (fun _ _ _ h => h) (Or.inl ⟨by rfl, ?hy6_5⟩) (by assumption) ?_
          case hy6_5 => (intro W hSw; (try dsimp only at hSw); go_simp; (try with_reducible rfl))
          try simp only [Act.put, List.getElem_toArray, List.getElem_cons_zero, List.getElem_cons_succ, List.setIfInBounds_toArray, List.set_cons_zero, List.set_cons_succ]
          refine wpAnyH_take (i := 7) (v := ?v7_5) rfl (by kernel_rfl) (by kernel_rfl) (by kernel_rfl) (fun _ _ _ h => h) (Or.inl ⟨by rfl, ?hy7_5⟩) (by assumption) ?_
          case hy7_5 => (intro W hSw; (try dsimp only at hSw); go_simp; (try with_reducible rfl))
          try simp only [Act.put, List.getElem_toArray, List.getElem_cons_zero, List.getElem_cons_succ, List.setIfInBounds_toArray, List.set_cons_zero, List.set_cons_succ]
          refine wpAnyH_take (i := 8) (v := ?v8_5) rfl (by kernel_rfl) (by kernel_rfl) (by kernel_rfl) (fun _ _ _ h => h) (Or.inl ⟨by rfl, ?hy8_5⟩) (by assumption) ?_
          case hy8_5 => (intro W hSw; (try dsimp only at hSw); go_simp; (try with_reducible rfl))
          try simp only [Act.put, List.getElem_toArray, List.getElem_cons_zero, List.getElem_cons_succ, List.setIfInBounds_toArray, List.set_cons_zero, List.set_cons_succ]
          refine wpAnyH_take (i := 9) (v := ?v9_5) rfl (by kernel_rfl) (by kernel_rfl) (by kernel_rfl) (fun _ _ _ h => h) (Or.inl ⟨by rfl, ?hy9_5⟩) (by assumption) ?_
          case hy9_5 => (intro W hSw; (try dsimp only at hSw); go_simp; (try with_reducible rfl))
          try simp only [Act.put, List.getElem_toArray, List.getElem_cons_zero, List.getElem_cons_succ, List.setIfInBounds_toArray, List.set_cons_zero, List.set_cons_succ]
          refine wpAnyH_take (i := 10) (v := ?v10_5) rfl (by kernel_rfl) (by kernel_rfl) (by kernel_rfl) (fun _ _ _ h => h) (Or.inl ⟨by rfl, ?hy10_5⟩) (by assumption) ?_
          case hy10_5 => (intro W hSw; have q0 : W.cell? ⟨g5, 0, none⟩ = some (.int .i64 (Nm.kindP (str x.l))) := hSw.2.2.cell 0; (try dsimp only at hSw); go_simp; (try with_reducible rfl))
          try simp only [Act.put, List.getElem_toArray, List.getElem_cons_zero, List.getElem_cons_succ, List.setIfInBounds_toArray, List.set_cons_zero, List.set_cons_succ]
          refine wpAnyH_take (i := 11) (v := ?v11_5) rfl (by kernel_rfl) (by kernel_rfl) (by kernel_rfl) (fun _ _ _ h => h) (Or.inl ⟨by rfl, ?hy11_5⟩) (by assumption) ?_
          case hy11_5 => (intro W hSw; (try dsimp only at hSw); go_simp; (try with_reducible rfl))
          try simp only [Act.put, List.getElem_toArray, List.getElem_cons_zero, List.getElem_cons_succ, List.setIfInBounds_toArray, List.set_cons_zero, List.set_cons_succ]
          refine wpAnyH_take (i := 12) (v := ?v12_5) rfl (by kernel_rfl) (by kernel_rfl) (by kernel_rfl) (fun _ _ _ h => h) (Or.inl ⟨by rfl, ?hy12_5⟩) (by assumption) ?_
          case hy12_5 => (intro W hSw; have q0 : W.cell? ⟨g4, 0, none⟩ = some (.int .i64 (Nm.kindP (str y.u))) := hSw.2.1.cell 0; (try dsimp only at hSw); go_simp; (try with_reducible rfl))
          try simp only [Act.put, List.getElem_toArray, List.getElem_cons_zero, List.getElem_cons_succ, List.setIfInBounds_toArray, List.set_cons_zero, List.set_cons_succ]
          refine wpAnyH_take (i := 13) (v := ?v13_5) rfl (by kernel_rfl) (by kernel_rfl) (by kernel_rfl) (fun _ _ _ h => h) (Or.inl ⟨by rfl, ?hy13_5⟩) (by assumption) ?_
          case hy13_5 => (intro W hSw; (try dsimp only at hSw); go_simp; (try with_reducible rfl))
          try simp only [Act.put, List.getElem_toArray, List.getElem_cons_zero, List.getElem_cons_succ, List.setIfInBounds_toArray, List.set_cons_zero, List.set_cons_succ]
          refine wpAnyH_take (i := 14) (v := ?v14_5) rfl (by kernel_rfl) (by kernel_rfl) (by kernel_rfl) (fun _ _ _ h => h) (Or.inl ⟨by rfl, ?hy14_5⟩) (by assumption) ?_
          case hy14_5 => (intro W hSw; (try dsimp only at hSw); go_simp; (try with_reducible rfl))
          try simp only [Act.put, List.getElem_toArray, List.getElem_cons_zero, List.getElem_cons_succ, List.setIfInBounds_toArray, List.set_cons_zero, List.set_cons_succ]
          refine wpAnyH_take (i := 15) (v := undef) rfl (by kernel_rfl) (by kernel_rfl) (by kernel_rfl) (fun _ _ _ h => h) (Or.inr ⟨by rfl, rfl⟩) (by assumption) ?_
          try simp only [Act.put, List.getElem_toArray, List.getElem_cons_zero, List.getElem_cons_succ, List.setIfInBounds_toArray, List.set_cons_zero, List.set_cons_succ]
          refine wpAnyH_take (i := 16) (v := undef) rfl (by kernel_rfl) (by kernel_rfl) (by kernel_rfl) (fun _ _ _ h => h) (Or.inr ⟨by rfl, rfl⟩) (by assumption) ?_
          try simp only [Act.put, List.getElem_toArray, List.getElem_cons_zero, List.getElem_cons_succ, List.setIfInBounds_toArray, List.set_cons_zero, List.set_cons_succ]
          refine wpAnyH_take (i := 17) (v := undef) rfl (by kernel_rfl) (by kernel_rfl) (by kernel_rfl) (fun _ _ _ h => h) (Or.inr ⟨by rfl, rfl⟩) (by assumption) ?_
          try simp only [Act.put, List.getElem_toArray, List.getElem_cons_zero, List.getElem_cons_succ, List.setIfInBounds_toArray, List.set_cons_zero, List.set_cons_succ]
          refine wpAnyH_take (i := 18) (v := undef) rfl (by kernel_rfl) (by kernel_rfl) (by kernel_rfl) (fun _ _ _ h => h) (Or.inr ⟨by rfl, rfl⟩) (by assumption) ?_
          try simp only [Act.put, List.getElem_toArray, List.getElem_cons_zero, List.getElem_cons_succ, List.setIfInBounds_toArray, List.set_cons_zero, List.set_cons_succ]
          refine wpAnyH_take (i := 19) (v := undef) rfl (by kernel_rfl) (by kernel_rfl) (by kernel_rfl) (fun _ _ _ h => h) (Or.inr ⟨by rfl, rfl⟩) (by assumption) ?_
          try simp only [Act.put, List.getElem_toArray, List.getElem_cons_zero, List.getElem_cons_succ, List.setIfInBounds_toArray, List.set_cons_zero, List.set_cons_succ]
          refine wpAnyH_take (i := 20) (v := undef) rfl (by kernel_rfl) (by kernel_rfl) (by kernel_rfl) (fun _ _ _ h => h) (Or.inr ⟨by rfl, rfl⟩) (by assumption) ?_
          try simp only [Act.put, List.getElem_toArray, List.getElem_cons_zero, List.getElem_cons_succ, List.setIfInBounds_toArray, List.set_cons_zero, List.set_cons_succ]
          refine wpAnyH_take (i := 21) (v := undef) rfl (by kernel_rfl) (by kernel_rfl) (by kernel_rfl) (fun _ _ _ h => h) (Or.inr ⟨by rfl, rfl⟩) (by assumption) ?_
          try simp only [Act.put, List.getElem_toArray, List.getElem_cons_zero, List.getElem_cons_succ, List.setIfInBounds_toArray, List.set_cons_zero, List.set_cons_succ]
          refine wpAnyH_take (i := 22) (v := ?v22_5) rfl (by kernel_rfl) (by kernel_rfl) (by kernel_rfl) (fun _ _ _ h => h) (Or.inl ⟨by rfl, ?hy22_5⟩) (by assumption) ?_
          case hy22_5 => (intro W hSw; (try dsimp only at hSw); go_simp; (try with_reducible rfl))
          try simp only [Act.put, List.getElem_toArray, List.getElem_cons_zero, List.getElem_cons_succ, List.setIfInBounds_toArray, List.set_cons_zero, List.set_cons_succ]
          refine wpAnyH_take (i := 23) (v := ?v23_5) rfl (by kernel_rfl) (by kernel_rfl) (by kernel_rfl) (fun _ _ _ h => h) (Or.inl ⟨by rfl, ?hy23_5⟩) (by assumption) ?_
          case hy23_5 => (intro W hSw; (try dsimp only at hSw); go_simp; (try with_reducible rfl))
          try simp only [Act.put, List.getElem_toArray, List.getElem_cons_zero, List.getElem_cons_succ, List.setIfInBounds_toArray, List.set_cons_zero, List.set_cons_succ]
          refine wpAnyH_take (i := 24) (v := ?v24_5) rfl (by kernel_rfl) (by kernel_rfl) (by kernel_rfl) (fun _ _ _ h => h) (Or.inl ⟨by rfl, ?hy24_5⟩) (by assumption) ?_
          case hy24_5 => (intro W hSw; (try dsimp only at hSw); go_simp; (try with_reducible rfl))
          try simp only [Act.put, List.getElem_toArray, List.getElem_cons_zero, List.getElem_cons_succ, List.setIfInBounds_toArray, List.set_cons_zero, List.set_cons_succ]
          refine wpAnyH_done (by kernel_rfl) ?_ _
          have HBz : Hid (Below w.heap.size w _) := hHeld.1.2.2
          go_wp2_with fail
          go_ret
          exact ⟨ret_bool (by rw [HV.out]), HBz.out⟩
      have t1 : (yk == 1) = false := by simp [h1]
      by_cases h2 : yk = 2
      · have HV : Hid (mayF nmsP x = decide (x.l = [])) := by show _ = _; rw [HM2.out, if_neg h1, if_pos h2]
        have t2 : (yk == 2) = true := by simp [h2]
        clear HM2 h1 h2 e3
        go_wp2_with fail
        go_ret
        exact ⟨ret_bool (by rw [HV.out]), HS.out.2.2⟩
      have t2 : (yk == 2) = false := by simp [h2]
      by_cases h34 : yk = 3 ∨ yk = 4
      · have HV : Hid (mayF nmsP x = decide (0 < nmsP.kind x.l)) := by show _ = _; rw [HM2.out, if_neg h1, if_neg h2, if_pos h34]
        clear HM2 h1 h2 e2 e3
        by_cases h3 : yk = 3
        · have t3 : (yk == 3) = true := by simp [h3]
          clear h3 h34
          go_wp2_with fail
          go_ret
          exact ⟨ret_bool (by rw [HV.out]; rfl), HS.out.2.2⟩
        · have t3 : (yk == 3) = false := by simp [h3]
          have t4 : (yk == 4) = true := by
            rcases h34 with h | h
            · exact absurd h h3
            · simp [h]
          clear h3 h34
          go_wp2_with fail
          go_ret
          exact ⟨ret_bool (by rw [HV.out]; rfl), HS.out.2.2⟩
      · have HV : Hid (mayF nmsP x = false) := by show _ = _; rw [HM2.out, if_neg h1, if_neg h2, if_neg h34]
        have t3 : (yk == 3) = false := by
          simp
          intro h
          exact h34 (.inl h)
        have t4 : (yk == 4) = false := by
          simp
          intro h
          exact h34 (.inr h)
        clear HM2 h1 h2 e2 e3 h34
        go_wp2_with fail
        go_ret
        exact ⟨ret_bool (by rw [HV.out]), HS.out.2.2⟩
end Go.Proofs.YthodbeeglkedcaaGreat
