/- The walk of byEnds; the library's sort of edges. The library's sort of edges, on a row of the call's own. The walk of fi -/
import Derived.Test.YtcoepioahabbdaaGreatGybc
import Derived.Test.YtcoepioahabbdaaGreatGyam
import Derived.Test.YtcoepioahabbdaaGreatGybk
namespace Go.Proofs.YtcoepioahabbdaaGreat
open Go.RowKit Go.Sort
theorem grow_of {w w' : World} (h : Below w.heap.size w w') (hd : w.drawn ≤ w'.drawn) : ∃ q os, w' = grow (w.drewN q) os := by
  refine ⟨w'.drawn - w.drawn, w'.heap.extract w.heap.size w'.heap.size, ?_⟩
  have hh : w'.heap = w.heap ++ w'.heap.extract w.heap.size w'.heap.size := by
    refine Array.ext_getElem? fun i => ?_
    by_cases hi : i < w.heap.size
    · rw [Array.getElem?_append_left hi]
      exact h.block i hi
    · rw [Array.getElem?_append_right (by omega), Array.getElem?_extract]
      by_cases h2 : i < w'.heap.size
      · rw [if_pos (by omega), show w.heap.size + (i - w.heap.size) = i by omega]
      · rw [if_neg (by omega), Array.getElem?_eq_none (by omega)]
  have h1 := h.os
  have h2 := h.tape
  have h3 := h.output
  cases w with
  | mk heap tape drawn os output =>
    cases w' with
    | mk heap' tape' drawn' os' output' =>
      simp only at h1 h2 h3 hd hh ⊢
      subst h1 h2 h3
      unfold grow World.drewN
      simp only [World.mk.injEq, true_and, and_true]
      exact ⟨hh, by omega⟩
def orL : List Int → Int
  | [] => 0
  | x :: l => if x ≠ 0 then x else orL l
theorem orL_take {l : List Int} {k : Nat} {x : Int} (h : ∀ y ∈ l.take k, y = 0) (hx : l[k]? = some x) : (x ≠ 0 → orL l = x) ∧ (x = 0 → ∀ y ∈ l.take (k + 1), y = 0) := by
  induction l generalizing k with
  | nil => cases hx
  | cons a l ih =>
    cases k with
    | zero =>
      simp only [List.getElem?_cons_zero, Option.some.injEq] at hx
      subst hx
      refine ⟨fun h1 => by rw [orL, if_pos h1], fun h1 y hy => ?_⟩
      simp at hy
      rw [hy, h1]
    | succ k =>
      rw [List.getElem?_cons_succ] at hx
      have ha : a = 0 := h a (by simp)
      obtain ⟨i1, i2⟩ := ih (fun y hy => h y (by simp [hy])) hx
      refine ⟨fun h1 => by rw [orL, if_neg (by simpa using ha)]; exact i1 h1, fun h1 y hy => ?_⟩
      rw [List.take_succ_cons] at hy
      rcases List.mem_cons.1 hy with e | hy
      · rw [e, ha]
      · exact i2 h1 y hy
theorem orL_none {l : List Int} (h : ∀ y ∈ l, y = 0) : orL l = 0 := by
  induction l with
  | nil => rfl
  | cons a l ih => rw [orL, if_neg (by simpa using h a (by simp)), ih (fun y hy => h y (by simp [hy]))]
def intsU (rs : List Int) : Array Value := (rs.map (fun r => Value.int .i64 r)).toArray
set_option maxRecDepth 10000 in
set_option maxHeartbeats 4000000 in
theorem or_any (b : Nat) (l : List Int) (w : World) (hb : Blk w b 3 (intsU l)) (hl : l.length ≤ 8) :
    Calls Tryz.prog 53 #[.slice (some ⟨b, 0, none⟩) l.length l.length] w fun e w' => e = .returned (.int .i64 (orL l)) ∧ w' = w := by
  have HB := Lib.hid hb
  have HN0 : Hid (∀ y ∈ l.take 0, y = 0) := by intro y h; simp at h
  clear hb
  go_enter Tryz.func53, Tryz.ntmps53
  go_wp2_with fail
  go_loopw [8] (fun i wr => ∃ k : Nat, k ≤ l.length ∧ i = .int .i64 k ∧ w = wr ∧ Hid (∀ y ∈ l.take k, y = 0)) (fun i wr => l.length - (intOf i).toNat)
  case atStart => exact ⟨0, Nat.zero_le _, rfl, rfl, HN0⟩
  case round =>
    clear HN0
    obtain ⟨k, hk, rfl, rfl, hN⟩ := hrel
    by_cases hlt : k < l.length
    · have b0 : (0 : Int) ≤ (k : Int) := by omega
      have b1 : (k : Int) < (l.length : Int) := by omega
      obtain ⟨x, hx⟩ : ∃ x, l[k]? = some x := ⟨_, List.getElem?_eq_getElem hlt⟩
      have q0 : w.cell? ⟨b, k, none⟩ = some (.int .i64 x) := by
        refine (HB.out.cell k).trans ?_
        unfold intsU
        rw [List.getElem?_toArray, List.getElem?_map, hx]
        rfl
      obtain ⟨n1, n2⟩ := orL_take hN.out hx
      by_cases h0 : x = 0
      · have HF := Lib.hid (n2 h0)
        have z0 : (x != 0) = false := by simpa using h0
        clear h0 n1 n2 hx
        go_wp2_with fail
        go_roundw
        case rel => exact ⟨k + 1, by omega, by go_num, by trivial, HF⟩
        case measure => simp [intOf]; omega
      · have HF := Lib.hid (n1 h0)
        have z0 : (x != 0) = true := by simpa using h0
        clear h0 n1 n2 hx
        go_wp2_with fail
        go_ret
        exact ⟨by rw [HF.out]; rfl, by trivial⟩
    · obtain rfl : k = l.length := by omega
      have HF : Hid (orL l = 0) := by
        have := hN.out
        rw [List.take_of_length_le (Nat.le_refl _)] at this
        exact orL_none this
      go_wp2_with fail
      go_ret
      exact ⟨by rw [HF.out]; rfl, by trivial⟩
theorem or3_any (a b c : Int) (rb : Nat) (W : World) (hb : Blk W rb 3 #[.int .i64 a, .int .i64 b, .int .i64 c]) : Calls Tryz.prog 53 #[.slice (some ⟨rb, 0, none⟩) 3 3] W fun e w' => e = .returned (.int .i64 (orL [a, b, c])) ∧ w' = W :=
  or_any rb [a, b, c] W hb (by simp)
def cmpE (x y : Ed) : Int := orL [Lib.compareBytes x.f y.f, Lib.compareBytes x.t y.t, Lib.compareInt x.r y.r]
theorem cmpI_spec (a b : Int) : (Lib.compareInt a b < 0 ↔ a < b) ∧ (Lib.compareInt a b = 0 ↔ a = b) := by
  unfold Lib.compareInt
  split
  · simp; omega
  · split
    · simp; omega
    · simp; omega
theorem cmpE_lt (x y : Ed) : cmpE x y < 0 ↔ ltE x y := by
  unfold cmpE ltE
  simp only [orL]
  obtain ⟨a1, a2⟩ := cmpB_spec x.f y.f
  obtain ⟨b1, b2⟩ := cmpB_spec x.t y.t
  obtain ⟨c1, c2⟩ := cmpI_spec x.r y.r
  by_cases h1 : Lib.compareBytes x.f y.f ≠ 0
  · rw [if_pos h1, a1]
    have : x.f ≠ y.f := fun e => h1 (a2.2 e)
    simp [this]
  · rw [if_neg h1]
    have e1 : x.f = y.f := a2.1 (by omega)
    by_cases h2 : Lib.compareBytes x.t y.t ≠ 0
    · rw [if_pos h2, b1]
      have : x.t ≠ y.t := fun e => h2 (b2.2 e)
      simp [this, e1, List.lt_irrefl]
    · rw [if_neg h2]
      have e2 : x.t = y.t := b2.1 (by omega)
      by_cases h3 : Lib.compareInt x.r y.r ≠ 0
      · rw [if_pos h3, c1]
        simp [e1, e2, List.lt_irrefl]
      · rw [if_neg h3]
        have e3 : x.r = y.r := c2.1 (by omega)
        simp [e1, e2, e3, List.lt_irrefl]
structure ByS (w W : World) (x y : Ed) : Prop where
  k1 : Blk W w.heap.size 58 (edA x)
  k2 : Blk W (w.heap.size + 1) 58 (edA y)
  below : Below w.heap.size w W
  drawn : w.drawn ≤ W.drawn
theorem ByS.drew {w W : World} {x y : Ed} (h : ByS w W x y) : ByS w W.drew x y := ⟨h.k1, h.k2, h.below.drew, Nat.le_succ_of_le h.drawn⟩
theorem ByS.alloc {w W : World} {x y : Ed} (h : ByS w W x y) (o : Obj) : ByS w (W.alloc o) x y := ⟨h.k1.alloc o, h.k2.alloc o, h.below.alloc h.below.size o, h.drawn⟩
theorem cmpI_any (a b : Int) (w : World) : Calls Tryz.prog 55 #[.int .i64 a, .int .i64 b] w fun e w' => e = .returned (.int .i64 (Lib.compareInt a b)) ∧ w' = w := Tryz.cmp_Compare_int a b w
set_option maxRecDepth 10000 in
set_option maxHeartbeats 8000000 in
theorem byEnds_any (x y : Ed) (w : World) :
    Calls Tryz.prog 31 #[.agg (edA x), .agg (edA y)] w fun e w' => e = .returned (.int .i64 (cmpE x y)) ∧ ∃ q os, w' = grow (w.drewN q) os := by
  have HS : Hid (ByS w ((w.alloc (.cells (edA x) 58)).alloc (.cells (edA y) 58)) x y) :=
    ⟨Blk.alloc (Blk.new _ _ _) _, alloc2_new _ _ _, ((Below.refl _ w).alloc (Nat.le_refl _) _).alloc (by simp) _, Nat.le_refl _⟩
  unfold edA at HS ⊢
  go_enter Tryz.func31, Tryz.ntmps31
  go_wp2_with fail
  obtain ⟨w0, hw0⟩ : ∃ w0, (w.alloc (.cells #[.string (str x.f), .string (str x.t), .int .i64 x.r] 58)).alloc (.cells #[.string (str y.f), .string (str y.t), .int .i64 y.r] 58) = w0 := ⟨_, rfl⟩
  rw [hw0] at HS
  rw [hw0]
  clear hw0
  refine wp_region_held_drew (S := fun W => ByS w W x y) (by kernel_rfl) ?_ (fun hHeld => ?_)
  · exact HS.out.drew
  refine wpAnyH_take (i := 0) (v := ?v0_1) rfl (by kernel_rfl) (by kernel_rfl) (by kernel_rfl) (fun _ _ _ h => h) (Or.inl ⟨by rfl, ?hy0_1⟩) (by assumption) ?_
  case hy0_1 => (intro W hSw; (try dsimp only at hSw); go_simp; (try with_reducible rfl))
  try simp only [Act.put, List.getElem_toArray, List.getElem_cons_zero, List.setIfInBounds_toArray, List.set_cons_zero, List.set_cons_succ]
  refine wpAnyH_take (i := 1) (v := ?v1_1) rfl (by kernel_rfl) (by kernel_rfl) (by kernel_rfl) (fun _ _ _ h => h) (Or.inl ⟨by rfl, ?hy1_1⟩) (by assumption) ?_
  case hy1_1 => (intro W hSw; have p0 : W.cell? ⟨w.heap.size, 0, none⟩ = some (.string (str x.f)) := (hSw.k1).cell 0; (try dsimp only at hSw); go_simp; (try with_reducible rfl))
  try simp only [Act.put, List.getElem_toArray, List.getElem_cons_zero, List.getElem_cons_succ, List.setIfInBounds_toArray, List.set_cons_zero, List.set_cons_succ]
  refine wpAnyH_take (i := 2) (v := ?v2_1) rfl (by kernel_rfl) (by kernel_rfl) (by kernel_rfl) (fun _ _ _ h => h) (Or.inl ⟨by rfl, ?hy2_1⟩) (by assumption) ?_
  case hy2_1 => (intro W hSw; (try dsimp only at hSw); go_simp; (try with_reducible rfl))
  try simp only [Act.put, List.getElem_toArray, List.getElem_cons_zero, List.getElem_cons_succ, List.setIfInBounds_toArray, List.set_cons_zero, List.set_cons_succ]
  refine wpAnyH_take (i := 3) (v := ?v3_1) rfl (by kernel_rfl) (by kernel_rfl) (by kernel_rfl) (fun _ _ _ h => h) (Or.inl ⟨by rfl, ?hy3_1⟩) (by assumption) ?_
  case hy3_1 => (intro W hSw; have p0 : W.cell? ⟨w.heap.size + 1, 0, none⟩ = some (.string (str y.f)) := (hSw.k2).cell 0; (try dsimp only at hSw); go_simp; (try with_reducible rfl))
  try simp only [Act.put, List.getElem_toArray, List.getElem_cons_zero, List.getElem_cons_succ, List.setIfInBounds_toArray, List.set_cons_zero, List.set_cons_succ]
  refine wpAnyH_take (i := 5) (v := ?v5_1) rfl (by kernel_rfl) (by kernel_rfl) (by kernel_rfl) (fun _ _ _ h => h) (Or.inl ⟨by rfl, ?hy5_1⟩) (by assumption) ?_
  case hy5_1 => (intro W hSw; (try dsimp only at hSw); go_simp; (try with_reducible rfl))
  try simp only [Act.put, List.getElem_toArray, List.getElem_cons_zero, List.getElem_cons_succ, List.setIfInBounds_toArray, List.set_cons_zero, List.set_cons_succ]
  refine wpAnyH_take (i := 6) (v := ?v6_1) rfl (by kernel_rfl) (by kernel_rfl) (by kernel_rfl) (fun _ _ _ h => h) (Or.inl ⟨by rfl, ?hy6_1⟩) (by assumption) ?_
  case hy6_1 => (intro W hSw; have p0 : W.cell? ⟨w.heap.size, 1, none⟩ = some (.string (str x.t)) := (hSw.k1).cell 1; (try dsimp only at hSw); go_simp; (try with_reducible rfl))
  try simp only [Act.put, List.getElem_toArray, List.getElem_cons_zero, List.getElem_cons_succ, List.setIfInBounds_toArray, List.set_cons_zero, List.set_cons_succ]
  refine wpAnyH_take (i := 7) (v := ?v7_1) rfl (by kernel_rfl) (by kernel_rfl) (by kernel_rfl) (fun _ _ _ h => h) (Or.inl ⟨by rfl, ?hy7_1⟩) (by assumption) ?_
  case hy7_1 => (intro W hSw; (try dsimp only at hSw); go_simp; (try with_reducible rfl))
  try simp only [Act.put, List.getElem_toArray, List.getElem_cons_zero, List.getElem_cons_succ, List.setIfInBounds_toArray, List.set_cons_zero, List.set_cons_succ]
  refine wpAnyH_take (i := 8) (v := ?v8_1) rfl (by kernel_rfl) (by kernel_rfl) (by kernel_rfl) (fun _ _ _ h => h) (Or.inl ⟨by rfl, ?hy8_1⟩) (by assumption) ?_
  case hy8_1 => (intro W hSw; have p0 : W.cell? ⟨w.heap.size + 1, 1, none⟩ = some (.string (str y.t)) := (hSw.k2).cell 1; (try dsimp only at hSw); go_simp; (try with_reducible rfl))
  try simp only [Act.put, List.getElem_toArray, List.getElem_cons_zero, List.getElem_cons_succ, List.setIfInBounds_toArray, List.set_cons_zero, List.set_cons_succ]
  refine wpAnyH_take (i := 10) (v := ?v10_1) rfl (by kernel_rfl) (by kernel_rfl) (by kernel_rfl) (fun _ _ _ h => h) (Or.inl ⟨by rfl, ?hy10_1⟩) (by assumption) ?_
  case hy10_1 => (intro W hSw; (try dsimp only at hSw); go_simp; (try with_reducible rfl))
  try simp only [Act.put, List.getElem_toArray, List.getElem_cons_zero, List.getElem_cons_succ, List.setIfInBounds_toArray, List.set_cons_zero, List.set_cons_succ]
  refine wpAnyH_take (i := 11) (v := ?v11_1) rfl (by kernel_rfl) (by kernel_rfl) (by kernel_rfl) (fun _ _ _ h => h) (Or.inl ⟨by rfl, ?hy11_1⟩) (by assumption) ?_
  case hy11_1 => (intro W hSw; have p0 : W.cell? ⟨w.heap.size, 2, none⟩ = some (.int .i64 x.r) := (hSw.k1).cell 2; (try dsimp only at hSw); go_simp; (try with_reducible rfl))
  try simp only [Act.put, List.getElem_toArray, List.getElem_cons_zero, List.getElem_cons_succ, List.setIfInBounds_toArray, List.set_cons_zero, List.set_cons_succ]
  refine wpAnyH_take (i := 12) (v := ?v12_1) rfl (by kernel_rfl) (by kernel_rfl) (by kernel_rfl) (fun _ _ _ h => h) (Or.inl ⟨by rfl, ?hy12_1⟩) (by assumption) ?_
  case hy12_1 => (intro W hSw; (try dsimp only at hSw); go_simp; (try with_reducible rfl))
  try simp only [Act.put, List.getElem_toArray, List.getElem_cons_zero, List.getElem_cons_succ, List.setIfInBounds_toArray, List.set_cons_zero, List.set_cons_succ]
  refine wpAnyH_take (i := 13) (v := ?v13_1) rfl (by kernel_rfl) (by kernel_rfl) (by kernel_rfl) (fun _ _ _ h => h) (Or.inl ⟨by rfl, ?hy13_1⟩) (by assumption) ?_
  case hy13_1 => (intro W hSw; have p0 : W.cell? ⟨w.heap.size + 1, 2, none⟩ = some (.int .i64 y.r) := (hSw.k2).cell 2; (try dsimp only at hSw); go_simp; (try with_reducible rfl))
  try simp only [Act.put, List.getElem_toArray, List.getElem_cons_zero, List.getElem_cons_succ, List.setIfInBounds_toArray, List.set_cons_zero, List.set_cons_succ]
  refine wpAnyH_ready (rs := [4]) (by kernel_rfl) (by simp) ?_
  refine AllReadyH.cons rfl (fun K hK => ?_) AllReadyH.nil
  go_simp
  refine (cmpT_any x.f y.f _).mono ?_
  rintro e wa ⟨rfl, rfl⟩
  refine hK.out _ _ ?_ (fun hHeld2 => ?_)
  · exact hHeld
  clear hK K hHeld 
  have hHeld := hHeld2
  clear hHeld2
  try simp only [Act.put, List.getElem_toArray, List.getElem_cons_zero, List.getElem_cons_succ, List.setIfInBounds_toArray, List.set_cons_zero, List.set_cons_succ]
  refine wpAnyH_ready (rs := [9]) (by kernel_rfl) (by simp) ?_
  refine AllReadyH.cons rfl (fun K hK => ?_) AllReadyH.nil
  go_simp
  refine (cmpT_any x.t y.t _).mono ?_
  rintro e wa ⟨rfl, rfl⟩
  refine hK.out _ _ ?_ (fun hHeld2 => ?_)
  · exact hHeld
  clear hK K hHeld 
  have hHeld := hHeld2
  clear hHeld2
  try simp only [Act.put, List.getElem_toArray, List.getElem_cons_zero, List.getElem_cons_succ, List.setIfInBounds_toArray, List.set_cons_zero, List.set_cons_succ]
  refine wpAnyH_ready (rs := [14]) (by kernel_rfl) (by simp) ?_
  refine AllReadyH.cons rfl (fun K hK => ?_) AllReadyH.nil
  go_simp
  refine (cmpI_any x.r y.r _).mono ?_
  rintro e wa ⟨rfl, rfl⟩
  refine hK.out _ _ ?_ (fun hHeld2 => ?_)
  · exact hHeld
  clear hK K hHeld 
  have hHeld := hHeld2
  clear hHeld2
  try simp only [Act.put, List.getElem_toArray, List.getElem_cons_zero, List.getElem_cons_succ, List.setIfInBounds_toArray, List.set_cons_zero, List.set_cons_succ]
  refine wpAnyH_ready (rs := [15]) (by kernel_rfl) (by simp) ?_
  refine AllReadyH.cons rfl (fun K hK => ?_) AllReadyH.nil
  go_simp
  refine hK.out _ _ ?_ (fun hHeld2 => ?_)
  · exact hHeld.alloc _
  clear hK K hHeld 
  have hHeld := hHeld2
  clear hHeld2
  try simp only [Act.put, List.getElem_toArray, List.getElem_cons_zero, List.getElem_cons_succ, List.setIfInBounds_toArray, List.set_cons_zero, List.set_cons_succ]
  refine wpAnyH_ready (rs := [16]) (by kernel_rfl) (by simp) ?_
  refine AllReadyH.cons rfl (fun K hK => ?_) AllReadyH.nil
  go_simp
  refine (or3_any (Lib.compareBytes x.f y.f) (Lib.compareBytes x.t y.t) (Lib.compareInt x.r y.r) w0.heap.size _ (Blk.drew (Blk.new w0 _ _))).mono ?_
  rintro e wa ⟨rfl, rfl⟩
  refine hK.out _ _ ?_ (fun hHeld2 => ?_)
  · exact hHeld
  clear hK K hHeld 
  have hHeld := hHeld2
  clear hHeld2
  try simp only [Act.put, List.getElem_toArray, List.getElem_cons_zero, List.getElem_cons_succ, List.setIfInBounds_toArray, List.set_cons_zero, List.set_cons_succ]
  refine wpAnyH_take (i := 17) (v := ?v17_1) rfl (by kernel_rfl) (by kernel_rfl) (by kernel_rfl) (fun _ _ _ h => h) (Or.inl ⟨by rfl, ?hy17_1⟩) (by assumption) ?_
  case hy17_1 => (intro W hSw; (try dsimp only at hSw); go_simp; (try with_reducible rfl))
  try simp only [Act.put, List.getElem_toArray, List.getElem_cons_zero, List.getElem_cons_succ, List.setIfInBounds_toArray, List.set_cons_zero, List.set_cons_succ]
  refine wpAnyH_done (by kernel_rfl) ?_ _
  obtain ⟨q, os, e⟩ := grow_of hHeld.below hHeld.drawn
  have HE := Lib.hid e
  clear e
  go_wp2_with fail
  go_ret
  exact ⟨rfl, q, os, HE.out⟩
end Go.Proofs.YtcoepioahabbdaaGreat
namespace Go.Proofs.YtcoepioahabbdaaGreat
open Go.RowKit Go.Sort Go.Lib
instance : Inhabited Ed := ⟨⟨[], [], 0⟩⟩
theorem ltOfE (x y : Ed) : ltOf cmpE x y = decide (ltE x y) := by
  unfold ltOf
  rw [Bool.eq_iff_iff, decide_eq_true_eq, decide_eq_true_eq]
  exact cmpE_lt x y
theorem ltE_ntrans {x y z : Ed} (h1 : ¬ ltE x y) (h2 : ¬ ltE y z) : ¬ ltE x z := fun h => by
  rcases linE.tri y z with k | k | k
  · exact h2 k
  · subst k; exact h1 h
  · exact h1 (linE.trans _ _ _ h k)
theorem swoE : SWO (ltOf cmpE) where
  irrefl x := by rw [ltOfE, decide_eq_false_iff_not]; exact linE.irrefl x
  trans x y z h1 h2 := by rw [ltOfE, decide_eq_true_eq] at *; exact linE.trans _ _ _ h1 h2
  ntrans x y z h1 h2 := by rw [ltOfE, decide_eq_false_iff_not] at *; exact ltE_ntrans h1 h2
theorem eds_flat (d : Array Ed) (j : Nat) (hj : j < d.size * 3) : (edLay.all d.toList)[j]? = some ((flatK edLay.cs 3 d)[j]!) := by
  have h1 : j / 3 < d.size := by omega
  have h2 : j % 3 < 3 := Nat.mod_lt _ (by decide)
  have hx : d.toList[j / 3]? = some d[j / 3]! := by simp [h1]
  have := edLay.all_get d.toList (j / 3) _ hx (j % 3) h2
  rw [show j / 3 * edLay.sz + j % 3 = j by show j / 3 * 3 + j % 3 = j; omega] at this
  rw [this, get_flatK _ _ _ _ hj]
  have hl : j % 3 < (edLay.cs d[j / 3]!).length := by rw [edLay.len]; exact h2
  rw [List.getElem?_eq_getElem hl]
  exact congrArg some (getElem!_pos (edLay.cs d[j / 3]!) (j % 3) hl).symm
theorem holdsE {w : World} {base g n cap : Nat} {l : List Ed} (h : OwnG edLay 58 w base (.slice (some ⟨g, 0, none⟩) n cap) l) : HoldsK edLay.cs 3 w g 0 l.toArray :=
  ownG_holds id h _ fun j hj => by
    rw [size_flatK] at hj
    have := eds_flat l.toArray j hj
    simpa using this
theorem putE {w : World} {base g n cap : Nat} {l : List Ed} (h : OwnG edLay 58 w base (.slice (some ⟨g, 0, none⟩) n cap) l) (d : Array Ed) (hd : d.size ≤ cap) (q : Nat) (os : Array Obj) :
    OwnG edLay 58 (sortWorldK edLay.cs 3 w g 0 q d os) base (.slice (some ⟨g, 0, none⟩) d.size cap) d.toList ∧ w.grownBy (sortWorldK edLay.cs 3 w g 0 q d os) (some g) := by
  have := own_put id h (flatK edLay.cs 3 d) d.toList (by simpa using hd) (fun j u hj => by
    have hl : j < d.size * 3 := by have := all_get_some hj; rw [Array.length_toList] at this; exact this
    refine ⟨by rw [size_flatK]; exact hl, ?_⟩
    rw [eds_flat d j hl] at hj
    exact Option.some.inj hj) q os
  rw [Array.length_toList] at this
  exact this
abbrev weakE (l : List Ed) : Prop := l.Pairwise (fun a b => ¬ ltE b a)
def SortPost (base : Nat) (l : List Ed) (w : World) (v : Value) (e : Ending) (w' : World) : Prop := e = .returned (.tuple #[]) ∧ ∃ l', l'.length = l.length ∧ (∀ x, x ∈ l' ↔ x ∈ l) ∧ weakE l' ∧ OwnG edLay 58 w' base v l' ∧ w.grownBy w' v.ownBlock
set_option maxRecDepth 10000 in
set_option maxHeartbeats 4000000 in
theorem sortE_any (base : Nat) (v : Value) (l : List Ed) (w : World) (h : OwnG edLay 58 w base v l) (hl : l.length ≤ 1099511627776) :
    Calls Tryz.prog 30 #[v, .func (.func 31) #[] #[]] w (SortPost base l w v) := by
  by_cases h0 : l = []
  · subst h0
    obtain ⟨A, c, rfl, _, _, _, _⟩ := h.slice (Nat.zero_le _)
    have hs := AnyF.slices_SortFunc_none (P := Tryz.prog) (ρ := Tryz.laysF_ren) { Tryz.laysF with } A c (.func (.func 31) #[] #[]) w
    change Calls Tryz.prog 30 _ _ _ at hs
    refine hs.mono ?_
    rintro e w' ⟨rfl, rfl⟩
    exact ⟨rfl, [], rfl, fun _ => Iff.rfl, List.Pairwise.nil, h, World.grownBy.refl _ _⟩
  · obtain ⟨g, cap, rfl, hg, hgl, hcap, hcm⟩ := ownG_at h h0
    have eg : ∀ args w, (callFunc 31 args).run Tryz.prog w = .ok (.enter 31 args) w := enters_of Tryz.func31 (by kernel_rfl) rfl
    have hs := AnyQ.slices_SortFunc Tryz.laysF 3 Tryz.isAgg58 Tryz.sizeOf58 edLay.cs edLay.len edLay.one cmpE swoE 31 #[] g 0 cap l.toArray w eg (fun _ _ _ _ x y => byEnds_any x y _) (holdsE h) hgl (by simp; omega)
    change Calls Tryz.prog 30 _ _ _ at hs
    rw [show l.toArray.size = l.length by simp] at hs
    refine hs.mono ?_
    rintro e w' ⟨rfl, d', q, os, hp, hsd, rfl⟩
    have hsz : d'.size = l.length := by have := hp.1; simpa using this
    obtain ⟨p1, p2⟩ := putE h d' (by omega) q os
    have hperm : d'.toList.Perm l := by
      have := hp.2.2
      rw [show d'.extract 0 l.length = d' by rw [← hsz]; exact Array.extract_size, show l.toArray.extract 0 l.length = l.toArray by simp] at this
      simpa using this
    refine ⟨rfl, d'.toList, by simpa using hsz, fun x => hperm.mem_iff, ?_, by rw [← hsz]; exact p1, p2⟩
    refine List.pairwise_iff_getElem.2 fun i j hi hj hij => ?_
    have := hsd i j (Nat.zero_le _) hij (by simpa [hsz] using hj)
    rw [ltOfE, decide_eq_false_iff_not] at this
    have e1 : d'[i]! = d'.toList[i] := by simp at hi; simp [hi]
    have e2 : d'[j]! = d'.toList[j] := by simp at hj; simp [hj]
    rw [← e1, ← e2]
    exact this
end Go.Proofs.YtcoepioahabbdaaGreat
namespace Go.Proofs.YtcoepioahabbdaaGreat
open Go.RowKit
theorem risesK_of {ns : List Nd} (h : NdsOk ns) : risesK (fun r : Nd => r.n) ns := by
  obtain ⟨h1, h2⟩ := h
  have hE : EdUp ns [] ([] : List Ed).length := EdUp.zero ns []
  exact (may_of h1 h2 hE).nrise
theorem find_at {ns : List Nd} {i : Nat} {x : Nd} {t : Tx} (hr : risesK (fun r : Nd => r.n) ns) (hx : ns[i]? = some x) (e : x.n = t) : nodeG ns t = some x := by
  unfold nodeG
  cases hf : ns.find? (fun z => decide (z.n = t)) with
  | none => exact absurd (List.find?_eq_none.1 hf x (List.mem_of_getElem? hx)) (by simp [e])
  | some z =>
    have h1 := List.mem_of_find?_eq_some hf
    have h2 := List.find?_some hf
    have h2 : z.n = t := by simpa using h2
    obtain ⟨j, hj, hz⟩ := List.mem_iff_getElem.1 h1
    obtain ⟨hi, hx⟩ := List.getElem?_eq_some_iff.1 hx
    rcases Nat.lt_trichotomy i j with c | c | c
    · have k : x.n < z.n := by have k := List.pairwise_iff_getElem.1 hr i j hi hj c; simp only [hx, hz] at k; exact k
      rw [e, h2] at k
      exact absurd k (List.lt_irrefl _)
    · subst c; rw [← hz, hx]
    · have k : z.n < x.n := by have k := List.pairwise_iff_getElem.1 hr j i hj hi c; simp only [hx, hz] at k; exact k
      rw [e, h2] at k
      exact absurd k (List.lt_irrefl _)
theorem node_not {ns : List Nd} {t : Tx} (h : hasK (fun r : Nd => r.n) ns t = false) : nodeG ns t = none := by
  unfold nodeG
  refine List.find?_eq_none.2 fun x hx e => ?_
  exact of_decide_eq_false h (List.mem_map.2 ⟨x, hx, of_decide_eq_true e⟩)
set_option maxRecDepth 10000 in
set_option maxHeartbeats 8000000 in
theorem find_any (A : Option Addr) (n c B : Nat) (ns : List Nd) (u : Tx) (w : World) (h : SlAt ndLay w B A n ns) (hB : B ≤ w.heap.size) (hOk : NdsOk ns) :
    Calls Tryz.prog 88 #[.slice A n c, .string (str u)] w fun e w' => e = .returned (nodeV (nodeG ns u)) ∧ Below w.heap.size w w' := by
  have hLn := h.1
  have hr := risesK_of hOk
  have hn64 : n ≤ 64 := by have := hOk.1; omega
  have HR0 : Hid (Blk (w.alloc (.cells #[.string ⟨#[]⟩, .int .i64 0, .int .i64 0] 32)) w.heap.size 32 (ndA noNd)) := Blk.new _ _ _
  have HB0 : Hid (Below w.heap.size w (w.alloc (.cells #[.string ⟨#[]⟩, .int .i64 0, .int .i64 0] 32))) := (Below.refl _ w).alloc (Nat.le_refl _) _
  have HC := Lib.hid (bsrN_any A n c B ns u _ (h.below (HB0.out.mono hB)) (by simp; omega) hr (by omega))
  have HL := Lib.hid h
  have HRK := Lib.hid hr
  clear h hr hOk
  unfold SrchPost at HC
  go_enter Tryz.func88, Tryz.ntmps88
  go_wp2_with fail
  obtain ⟨w0, hw0⟩ : ∃ w0, w.alloc (.cells #[.string ⟨#[]⟩, .int .i64 0, .int .i64 0] 32) = w0 := ⟨_, rfl⟩
  rw [hw0] at HC HR0 HB0
  rw [hw0]
  refine HC.out.mono ?_
  rintro e w' ⟨i, hp, rfl, hb⟩
  have hw0s : w.heap.size < w0.heap.size := HR0.out.lt
  have HR1 : Hid (Blk w' w.heap.size 32 (ndA noNd)) := HR0.out.below hb hw0s
  have HB1 := Lib.hid (more3 HB0.out HB0.out.size hb)
  have hw1s : w.heap.size < w'.heap.size := HR1.out.lt
  clear hb HC hw0 HR0 HB0
  cases hh : hasK (fun r : Nd => r.n) ns u
  · have HF := Lib.hid (node_not hh)
    clear hh hp
    go_wp2_with (refine wpList_store_row rfl 32 (.tmp 4) (.tmp 16) (by rfl) w.heap.size (ndA noNd) (by rfl) (by rfl) 32 (ndA noNd) HR1.out (by kernel_rfl) rfl (ndA_all _) ?_)
    exact bodyPost_ret (results_cell_tmp (p := 4) (q := 5) rfl _ _ w.heap.size 32 (ndA noNd) _ _ rfl rfl (Blk.row HR1.out _) Tryz.underlying32 rfl (by kernel_rfl)) rfl ⟨by rw [HF.out]; rfl, below_setRow HB1.out (Nat.le_refl _) _⟩
  · obtain ⟨x, hx, hxn⟩ := (pos_has hp HRK.out).1 hh
    have hin : i < n := by rw [← hLn]; exact (List.getElem?_eq_some_iff.1 hx).1
    have HF := Lib.hid (find_at HRK.out hx hxn)
    have b0 : (0 : Int) ≤ (i : Int) := by omega
    have b1 : (i : Int) < (n : Int) := by omega
    obtain ⟨ad, x', rfl, hab, hx', q0, q1, q2⟩ := nds_at (HL.out.below (HB1.out.mono hB)) hin
    rw [hx] at hx'
    cases hx'
    clear hh hp hx hxn
    go_wp2_with (refine wpList_store_row rfl 32 (.tmp 4) (.tmp 20) (by rfl) w.heap.size (ndA x) (by rfl) (by rfl) 32 (ndA noNd) HR1.out (by kernel_rfl) rfl (ndA_all _) ?_)
    exact bodyPost_ret (results_cell_tmp (p := 4) (q := 5) rfl _ _ w.heap.size 32 (ndA x) _ _ rfl rfl (Blk.row HR1.out _) Tryz.underlying32 rfl (by kernel_rfl)) rfl ⟨by rw [HF.out]; rfl, below_setRow HB1.out (Nat.le_refl _) _⟩
end Go.Proofs.YtcoepioahabbdaaGreat
