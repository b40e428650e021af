/- The walks of mayEdge, mayEdges and May. -/
import Derived.Test.YtcoepioahabbdaaGreatGybl
namespace Go.Proofs.YtcoepioahabbdaaGreat
open Go.RowKit
theorem grow_below (w : World) (k : Nat) (os : Array Obj) : Below w.heap.size w (Sort.grow (w.drewN k) os) :=
  ⟨rfl, rfl, rfl, by simp [Sort.grow], fun i hi => by simp only [Sort.grow]; rw [Array.getElem?_append_left (by exact hi)]; rfl⟩
theorem gr_below {w w' : World} {k : Nat} {os : Array Obj} (h : w' = Sort.grow (w.drewN k) os) : Below w.heap.size w w' := h ▸ grow_below w k os
theorem neT_str (a b : Tx) : ((str a).toList != (str b).toList) = !decide (a = b) := by
  rw [← eqT_str]; rfl
theorem goodE_iff {ns : List Nd} {x : Ed} {a : Nd} (ha : (nodeG ns x.f).getD noNd = a) (hp : nodeB ns x.f = true) (hq : nodeB ns x.t = true) : goodE ns x ↔ x.f ≠ x.t ∧ a.s = 1 ∧ 1 ≤ x.r ∧ x.r ≤ 10 := by
  unfold nodeB at hp hq
  obtain ⟨a', e⟩ := Option.isSome_iff_exists.1 hp
  rw [e] at ha
  have ha : a' = a := ha
  subst ha
  unfold goodE
  rw [e]
  exact ⟨fun ⟨⟨z, h1, h2⟩, _, h3, h4, h5⟩ => by injection h1 with h1; subst h1; exact ⟨h3, h2, h4, h5⟩, fun ⟨h3, h2, h4, h5⟩ => ⟨⟨_, rfl, h2⟩, hq, h3, h4, h5⟩⟩
theorem goodE_f {ns : List Nd} {x : Ed} (h : nodeB ns x.f = false) : ¬ goodE ns x := fun ⟨⟨a, h1, _⟩, _⟩ => by unfold nodeB at h; rw [h1] at h; cases h
theorem goodE_t {ns : List Nd} {x : Ed} (h : nodeB ns x.t = false) : ¬ goodE ns x := fun ⟨_, h1, _⟩ => by unfold nodeB at h; rw [h1] at h; cases h
structure MeS (w W : World) (b fb : Nat) (x : Ed) (a : Nd) : Prop where
  k : Blk W b 58 (edA x)
  f : Blk W fb 32 (ndA a)
  below : Below w.heap.size w W
theorem MeS.call {w W W' : World} {b fb : Nat} {x : Ed} {a : Nd} (h : MeS w W b fb x a) (hb : Below W.heap.size W W') : MeS w W' b fb x a := ⟨h.k.below hb h.k.lt, h.f.below hb h.f.lt, more3 h.below h.below.size hb⟩
set_option maxRecDepth 10000 in
set_option maxHeartbeats 16000000 in
theorem mayEdge_any (A : Option Addr) (n c B : Nat) (ns : List Nd) (x : Ed) (w : World) (h : SlAt ndLay w B A n ns) (hB : B ≤ w.heap.size) (hOk : NdsOk ns) :
    Calls Tryz.prog 61 #[.agg (edA x), .slice A n c] w fun e w' => e = .returned (.bool (decide (goodE ns x))) ∧ Below w.heap.size w w' := by
  have HL := Lib.hid h
  obtain ⟨p, hp⟩ : ∃ p, nodeB ns x.f = p := ⟨_, rfl⟩
  obtain ⟨q, hq⟩ : ∃ q, nodeB ns x.t = q := ⟨_, rfl⟩
  obtain ⟨a, ha⟩ : ∃ a, (nodeG ns x.f).getD noNd = a := ⟨_, rfl⟩
  obtain ⟨a2, ha2⟩ : ∃ a2, (nodeG ns x.t).getD noNd = a2 := ⟨_, rfl⟩
  have HFF : Hid (∀ (u : Tx) (W : World), Below B w W → Calls Tryz.prog 88 #[.slice A n c, .string (str u)] W fun e w' => e = .returned (nodeV (nodeG ns u)) ∧ Below W.heap.size W w') := fun u W hb => find_any A n c B ns u W (HL.out.below hb) (by have := hb.size; omega) hOk
  have hB0 : Below w.heap.size w (w.alloc (.cells (edA x) 58)) := (Below.refl _ w).alloc (Nat.le_refl _) _
  have hK0 : Blk (w.alloc (.cells (edA x) 58)) w.heap.size 58 (edA x) := Blk.new _ _ _
  have HF1 := Lib.hid (HFF.out x.f _ (hB0.mono hB))
  simp only [nodeV_eq, ha] at HF1
  rw [hp] at HF1
  clear h hOk
  unfold edA at HF1 hB0 hK0 ⊢
  go_enter Tryz.func61, Tryz.ntmps61
  go_wp2_with fail
  obtain ⟨w0, hw0⟩ : ∃ w0, w.alloc (.cells #[.string (str x.f), .string (str x.t), .int .i64 x.r] 58) = w0 := ⟨_, rfl⟩
  rw [hw0] at HF1 hB0 hK0
  rw [hw0]
  refine HF1.out.mono ?_
  rintro e w1 ⟨rfl, hb1⟩
  have hKl := hK0.lt
  have HS : Hid (MeS w (w1.alloc (.cells (ndA a) 32)) w.heap.size w1.heap.size x a) := ⟨(hK0.below hb1 hKl).alloc _, Blk.new _ _ _, (more3 hB0 hB0.size hb1).alloc (Nat.le_trans hB0.size hb1.size) _⟩
  have hK1 : Blk (w1.alloc (.cells (ndA a) 32)) w.heap.size 58 #[.string (str x.f), .string (str x.t), .int .i64 x.r] := HS.out.k
  have HF2 := Lib.hid (HFF.out x.t _ (HS.out.below.mono hB))
  simp only [nodeV_eq, ha2] at HF2
  rw [hq] at HF2
  clear hK0 hB0 hb1 HF1 hw0 HFF
  unfold ndA at HS HF2 hK1
  have e1 : (w1.alloc (.cells #[.string (str a.n), .int .i64 a.k, .int .i64 a.s] 32)).cell? ⟨w.heap.size, 1, none⟩ = some (.string (str x.t)) := hK1.cell 1
  clear hK1
  go_wp2_with fail
  obtain ⟨w2, hw2⟩ : ∃ w2, w1.alloc (.cells #[.string (str a.n), .int .i64 a.k, .int .i64 a.s] 32) = w2 := ⟨_, rfl⟩
  obtain ⟨fb, hfb⟩ : ∃ fb, w1.heap.size = fb := ⟨_, rfl⟩
  obtain ⟨b, hb⟩ : ∃ b, w.heap.size = b := ⟨_, rfl⟩
  rw [hw2] at HF2
  have HS1 : Hid (MeS w w2 b fb x a) := by rw [← hb, ← hfb, ← hw2]; exact HS.out
  rw [hw2, hfb, hb]
  refine HF2.out.mono ?_
  rintro e w3 ⟨rfl, hb3⟩
  have HS3 := Lib.hid (HS1.out.call hb3)
  have hS4 : MeS w (w3.alloc (.cells #[.string (str a2.n), .int .i64 a2.k, .int .i64 a2.s] 32)) b fb x a := HS3.out.call ((Below.refl _ w3).alloc (Nat.le_refl _) _)
  have e0 : (w3.alloc (.cells #[.string (str a2.n), .int .i64 a2.k, .int .i64 a2.s] 32)).cell? ⟨b, 0, none⟩ = some (.string (str x.f)) := hS4.k.cell 0
  have e1 : (w3.alloc (.cells #[.string (str a2.n), .int .i64 a2.k, .int .i64 a2.s] 32)).cell? ⟨b, 1, none⟩ = some (.string (str x.t)) := hS4.k.cell 1
  have e2 : (w3.alloc (.cells #[.string (str a2.n), .int .i64 a2.k, .int .i64 a2.s] 32)).cell? ⟨b, 2, none⟩ = some (.int .i64 x.r) := hS4.k.cell 2
  have e3 : (w3.alloc (.cells #[.string (str a2.n), .int .i64 a2.k, .int .i64 a2.s] 32)).cell? ⟨fb, 2, none⟩ = some (.int .i64 a.s) := hS4.f.cell 2
  have HB4 := Lib.hid hS4.below
  have HP := Lib.hid hp
  have HQ := Lib.hid hq
  have HA := Lib.hid ha
  have hne := neT_str x.f x.t
  have heq := eqT_str x.f x.t
  clear hp hq ha ha2 hS4 HS3 hb3 HS1 HF2 hw2 HS hfb hb
  cases p
  · have HG : Hid (decide (goodE ns x) = false) := decide_eq_false (goodE_f HP.out)
    go_wp2_with fail
    go_ret
    exact ⟨ret_bool HG.out.symm, HB4.out⟩
  cases q
  · have HG : Hid (decide (goodE ns x) = false) := decide_eq_false (goodE_t HQ.out)
    go_wp2_with fail
    go_ret
    exact ⟨ret_bool HG.out.symm, HB4.out⟩
  have HI := Lib.hid (goodE_iff HA.out HP.out HQ.out)
  by_cases hft : x.f = x.t
  · have HG : Hid (decide (goodE ns x) = false) := decide_eq_false (fun h => (HI.out.1 h).1 hft)
    rw [decide_eq_true hft] at hne heq
    simp only [Bool.not_true] at hne
    clear hft
    go_wp2_with fail
    go_ret
    exact ⟨ret_bool HG.out.symm, HB4.out⟩
  have HFT := Lib.hid hft
  rw [decide_eq_false hft] at hne heq
  simp only [Bool.not_false] at hne
  clear hft
  by_cases hs : a.s = 1
  case neg =>
    have HG : Hid (decide (goodE ns x) = false) := decide_eq_false (fun h => hs (HI.out.1 h).2.1)
    have hsb : (a.s == 1) = false := by simpa using hs
    clear hs
    go_wp2_with fail
    go_ret
    exact ⟨ret_bool HG.out.symm, HB4.out⟩
  have HSS := Lib.hid hs
  have hsb : (a.s == 1) = true := by simpa using hs
  clear hs
  by_cases hr1 : 1 ≤ x.r
  case neg =>
    have HG : Hid (decide (goodE ns x) = false) := decide_eq_false (fun h => hr1 (HI.out.1 h).2.2.1)
    go_wp2_with fail
    go_ret
    exact ⟨ret_bool HG.out.symm, HB4.out⟩
  have HG : Hid (decide (goodE ns x) = decide (x.r ≤ 10)) := by
    show _ = _
    rw [Bool.eq_iff_iff, decide_eq_true_eq, decide_eq_true_eq, HI.out]
    exact ⟨fun h => h.2.2.2, fun h => ⟨HFT.out, HSS.out, hr1, h⟩⟩
  go_wp2_with fail
  go_ret
  exact ⟨ret_bool HG.out.symm, HB4.out⟩
structure ErS (w W : World) (B b : Nat) (x : Ed) (E : Option Addr) (m : Nat) (es : List Ed) (A : Option Addr) (n : Nat) (ns : List Nd) : Prop where
  k : Blk W b 58 #[.string (str x.f), .string (str x.t), .int .i64 x.r]
  sl : SlAt edLay W B E m es
  nd : SlAt ndLay W B A n ns
  hB : B ≤ W.heap.size
  below : Below w.heap.size w W
theorem ErS.call {w W W' : World} {B b : Nat} {x : Ed} {E : Option Addr} {m : Nat} {es : List Ed} {A : Option Addr} {n : Nat} {ns : List Nd} (h : ErS w W B b x E m es A n ns) (hb : Below W.heap.size W W') : ErS w W' B b x E m es A n ns :=
  ⟨h.k.below hb h.k.lt, h.sl.below (hb.mono h.hB), h.nd.below (hb.mono h.hB), Nat.le_trans h.hB hb.size, more3 h.below h.below.size hb⟩
theorem eds_cells {w : World} {B n k : Nat} {ad : Addr} {es : List Ed} {y : Ed} (h : SlAt edLay w B (some ad) n es) (hk : k < n) (hy : es[k]? = some y) : C3 w (ad.add (k * 3)) (.string (str y.f)) (.string (str y.t)) (.int .i64 y.r) := by
  obtain ⟨ad', x, e, _, hx, q⟩ := eds_at h hk
  injection e with e
  subst e
  rw [hx] at hy
  cases hy
  exact q
theorem EdUp.no {ns : List Nd} {es : List Ed} {k : Nat} {x : Ed} (hx : es[k]? = some x) (h : ¬ goodE ns x) : ¬ EdUp ns es es.length := fun m => h (m k x (List.getElem?_eq_some_iff.1 hx).1 hx).1
theorem EdUp.noR {ns : List Nd} {es : List Ed} {k : Nat} {x y : Ed} (h0 : 0 < k) (hx : es[k]? = some x) (hy : es[k - 1]? = some y) (h : ¬ ltE y x) : ¬ EdUp ns es es.length := fun m => h ((m k x (List.getElem?_eq_some_iff.1 hx).1 hx).2 y h0 hy)
set_option maxRecDepth 10000 in
set_option maxHeartbeats 16000000 in
theorem mayEdges_any (E : Option Addr) (m d : Nat) (A : Option Addr) (n c B : Nat) (ns : List Nd) (es : List Ed) (w : World) (h : SlAt ndLay w B A n ns) (hE : SlAt edLay w B E m es) (hB : B ≤ w.heap.size) (hOk : NdsOk ns) :
    Calls Tryz.prog 37 #[.slice E m d, .slice A n c] w (OkPost (EdUp ns es es.length) w) := by
  have hLm := hE.1
  have hm := hE.2.1
  unfold maxLen at hm
  have HL := Lib.hid hE
  have HN := Lib.hid h
  have hme : ∀ (x : Ed) (W : World), SlAt ndLay W B A n ns → B ≤ W.heap.size → Calls Tryz.prog 61 #[.agg (edA x), .slice A n c] W fun e w' => e = .returned (.bool (decide (goodE ns x))) ∧ Below W.heap.size W w' := fun x W h1 h2 => mayEdge_any A n c B ns x W h1 h2 hOk
  simp only [edA] at hme
  have HME := Lib.hid hme
  clear h hE hme hOk
  unfold OkPost
  go_enter Tryz.func37, Tryz.ntmps37
  go_wp2_with fail
  go_loopw [9] (fun i wr => ∃ k : Nat, k ≤ m ∧ i = .int .i64 k ∧ Hid (Below w.heap.size w wr) ∧ Hid (EdUp ns es k)) (fun i wr => m - (intOf i).toNat)
  case atStart => exact ⟨0, Nat.zero_le _, rfl, Below.refl _ _, EdUp.zero ns es⟩
  case round =>
    obtain ⟨k, hk, rfl, hb, hUp⟩ := hrel
    have hws := hb.out.size
    by_cases hlt : k < m
    · have b0 : (0 : Int) ≤ (k : Int) := by omega
      have b1 : (k : Int) < (m : Int) := by omega
      obtain ⟨ad, x, rfl, hab, hx, q0, q1, q2⟩ := eds_at (HL.out.below (hb.out.mono hB)) hlt
      have HX := Lib.hid hx
      have HR : Hid (ErS w (wr.alloc (.cells #[.string (str x.f), .string (str x.t), .int .i64 x.r] 58)) B wr.heap.size x (some ad) m es A n ns) :=
        ⟨Blk.new _ _ _, HL.out.below ((hb.out.alloc hws _).mono hB), HN.out.below ((hb.out.alloc hws _).mono hB), by simp; omega, hb.out.alloc hws _⟩
      clear hx
      by_cases h0 : 0 < k
      · have z0 : (0 : Int) < (k : Int) := by omega
        have d0 : (0 : Int) ≤ (k : Int) - 1 := by omega
        have d1 : (k : Int) - 1 < (m : Int) := by omega
        have d3 : (1 : Int) ≤ (k : Int) := by omega
        have d2 : ((k : Int) - 1).toNat = k - 1 := by omega
        have hw1 : IntKind.i64.wrap ((k : Int) - 1) = (k : Int) - 1 := by rw [IntKind.wrap_i64]; omega
        obtain ⟨y, hy⟩ : ∃ y, es[k - 1]? = some y := ⟨_, List.getElem?_eq_getElem (by omega)⟩
        have HY := Lib.hid hy
        clear hy
        have hcl := cmpE_lt y x
        have hby := fun W => byEnds_any y x W
        obtain ⟨v, hv⟩ : ∃ v, cmpE y x = v := ⟨_, rfl⟩
        rw [hv] at hcl
        simp only [hv] at hby
        clear hv
        by_cases hyx : v < 0
        · have HYX := Lib.hid (hcl.1 hyx)
          have hgd : decide ((0 : Int) ≤ v) = false := decide_eq_false (by omega)
          clear hcl hyx
          go_wp2_with fail
          obtain ⟨w0, hw0⟩ : ∃ w0, wr.alloc (.cells #[.string (str x.f), .string (str x.t), .int .i64 x.r] 58) = w0 := ⟨_, rfl⟩
          obtain ⟨wb, hwb⟩ : ∃ wb, wr.heap.size = wb := ⟨_, rfl⟩
          rw [hw0, hwb] at HR
          rw [hw0, hwb]
          clear hw0 hwb hb q0 q1 q2
          refine wp_region_held_drew (S := fun W => ErS w W B wb x (some ad) m es A n ns) (by kernel_rfl) ?_ (fun hHeld => ?_)
          · exact HR.out.call (Below.refl _ _).drew
          refine wpAnyH_take (i := 0) (v := ?v0_1) rfl (by kernel_rfl) (by kernel_rfl) (by kernel_rfl) (fun _ _ _ h => h) (Or.inl ⟨by rfl, ?hy0_1⟩) (by assumption) ?_
          case hy0_1 => (intro W hSw; (try dsimp only at hSw); go_simp; (try with_reducible rfl))
          try simp only [Act.put, List.getElem_toArray, List.getElem_cons_zero, List.setIfInBounds_toArray, List.set_cons_zero, List.set_cons_succ]
          refine wpAnyH_take (i := 1) (v := ?v1_1) rfl (by kernel_rfl) (by kernel_rfl) (by kernel_rfl) (fun _ _ _ h => h) (Or.inl ⟨by rfl, ?hy1_1⟩) (by assumption) ?_
          case hy1_1 => (intro W hSw; (try dsimp only at hSw); go_simp; (try with_reducible rfl))
          try simp only [Act.put, List.getElem_toArray, List.getElem_cons_zero, List.getElem_cons_succ, List.setIfInBounds_toArray, List.set_cons_zero, List.set_cons_succ]
          refine wpAnyH_take (i := 2) (v := ?v2_1) rfl (by kernel_rfl) (by kernel_rfl) (by kernel_rfl) (fun _ _ _ h => h) (Or.inl ⟨by rfl, ?hy2_1⟩) (by assumption) ?_
          case hy2_1 => (intro W hSw; (try dsimp only at hSw); go_simp; (try with_reducible rfl))
          try simp only [Act.put, List.getElem_toArray, List.getElem_cons_zero, List.getElem_cons_succ, List.setIfInBounds_toArray, List.set_cons_zero, List.set_cons_succ]
          refine wpAnyH_take (i := 3) (v := ?v3_1) rfl (by kernel_rfl) (by kernel_rfl) (by kernel_rfl) (fun _ _ _ h => h) (Or.inl ⟨by rfl, ?hy3_1⟩) (by assumption) ?_
          case hy3_1 => (intro W hSw; (try dsimp only at hSw); go_simp; (try with_reducible rfl))
          try simp only [Act.put, List.getElem_toArray, List.getElem_cons_zero, List.getElem_cons_succ, List.setIfInBounds_toArray, List.set_cons_zero, List.set_cons_succ]
          refine wpAnyH_take (i := 4) (v := ?v4_1) rfl (by kernel_rfl) (by kernel_rfl) (by kernel_rfl) (fun _ _ _ h => h) (Or.inl ⟨by rfl, ?hy4_1⟩) (by assumption) ?_
          case hy4_1 => (intro W hSw; (try dsimp only at hSw); go_simp; (try with_reducible rfl))
          try simp only [Act.put, List.getElem_toArray, List.getElem_cons_zero, List.getElem_cons_succ, List.setIfInBounds_toArray, List.set_cons_zero, List.set_cons_succ]
          refine wpAnyH_take (i := 5) (v := ?v5_1) rfl (by kernel_rfl) (by kernel_rfl) (by kernel_rfl) (fun _ _ _ h => h) (Or.inl ⟨by rfl, ?hy5_1⟩) (by assumption) ?_
          case hy5_1 => (intro W hSw; (try dsimp only at hSw); go_simp; (try with_reducible rfl))
          try simp only [Act.put, List.getElem_toArray, List.getElem_cons_zero, List.getElem_cons_succ, List.setIfInBounds_toArray, List.set_cons_zero, List.set_cons_succ]
          refine wpAnyH_take (i := 6) (v := ?v6_1) rfl (by kernel_rfl) (by kernel_rfl) (by kernel_rfl) (fun _ _ _ h => h) (Or.inl ⟨by rfl, ?hy6_1⟩) (by assumption) ?_
          case hy6_1 => (intro W hSw; (try dsimp only at hSw); go_simp; (try with_reducible rfl))
          try simp only [Act.put, List.getElem_toArray, List.getElem_cons_zero, List.getElem_cons_succ, List.setIfInBounds_toArray, List.set_cons_zero, List.set_cons_succ]
          refine wpAnyH_take (i := 7) (v := ?v7_1) rfl (by kernel_rfl) (by kernel_rfl) (by kernel_rfl) (fun _ _ _ h => h) (Or.inl ⟨by rfl, ?hy7_1⟩) (by assumption) ?_
          case hy7_1 => (intro W hSw; obtain ⟨p3, p4, p5⟩ := eds_cells hSw.sl (k := k - 1) (by omega) HY.out; (try dsimp only at hSw); go_simp; (try with_reducible rfl))
          try simp only [Act.put, List.getElem_toArray, List.getElem_cons_zero, List.getElem_cons_succ, List.setIfInBounds_toArray, List.set_cons_zero, List.set_cons_succ]
          refine wpAnyH_take (i := 8) (v := ?v8_1) rfl (by kernel_rfl) (by kernel_rfl) (by kernel_rfl) (fun _ _ _ h => h) (Or.inl ⟨by rfl, ?hy8_1⟩) (by assumption) ?_
          case hy8_1 => (intro W hSw; have p0 : W.cell? ⟨wb, 0, none⟩ = some (.string (str x.f)) := hSw.k.cell 0; have p1 : W.cell? ⟨wb, 1, none⟩ = some (.string (str x.t)) := hSw.k.cell 1; have p2 : W.cell? ⟨wb, 2, none⟩ = some (.int .i64 x.r) := hSw.k.cell 2; (try dsimp only at hSw); go_simp; (try with_reducible rfl))
          try simp only [Act.put, List.getElem_toArray, List.getElem_cons_zero, List.getElem_cons_succ, List.setIfInBounds_toArray, List.set_cons_zero, List.set_cons_succ]
          refine wpAnyH_ready (rs := [9]) (by kernel_rfl) (by simp) ?_
          refine AllReadyH.cons rfl (fun K hK => ?_) AllReadyH.nil
          go_simp
          refine (hby _).mono ?_
          rintro e wa ⟨rfl, qd, os, hwa⟩
          have hb1 := gr_below hwa
          clear hwa
          refine hK.out _ _ ?_ (fun hHeld2 => ?_)
          · exact hHeld.call hb1
          clear hK K hHeld hb1
          have hHeld := hHeld2
          clear hHeld2
          try simp only [Act.put, List.getElem_toArray, List.getElem_cons_zero, List.getElem_cons_succ, List.setIfInBounds_toArray, List.set_cons_zero, List.set_cons_succ]
          refine wpAnyH_take (i := 10) (v := ?v10_1) rfl (by kernel_rfl) (by kernel_rfl) (by kernel_rfl) (fun _ _ _ h => h) (Or.inl ⟨by rfl, ?hy10_1⟩) (by assumption) ?_
          case hy10_1 => (intro W hSw; (try dsimp only at hSw); go_simp; (try with_reducible rfl))
          try simp only [Act.put, List.getElem_toArray, List.getElem_cons_zero, List.getElem_cons_succ, List.setIfInBounds_toArray, List.set_cons_zero, List.set_cons_succ]
          refine wpAnyH_take (i := 11) (v := ?v11_1) rfl (by kernel_rfl) (by kernel_rfl) (by kernel_rfl) (fun _ _ _ h => h) (Or.inl ⟨by rfl, ?hy11_1⟩) (by assumption) ?_
          case hy11_1 => (intro W hSw; (try dsimp only at hSw); go_simp; (try with_reducible rfl))
          try simp only [Act.put, List.getElem_toArray, List.getElem_cons_zero, List.getElem_cons_succ, List.setIfInBounds_toArray, List.set_cons_zero, List.set_cons_succ]
          refine wpAnyH_take (i := 12) (v := ?v12_1) rfl (by kernel_rfl) (by kernel_rfl) (by kernel_rfl) (fun _ _ _ h => h) (Or.inl ⟨by rfl, ?hy12_1⟩) (by assumption) ?_
          case hy12_1 => (intro W hSw; (try dsimp only at hSw); go_simp; (try with_reducible rfl))
          try simp only [Act.put, List.getElem_toArray, List.getElem_cons_zero, List.getElem_cons_succ, List.setIfInBounds_toArray, List.set_cons_zero, List.set_cons_succ]
          refine wpAnyH_take (i := 13) (v := ?v13_1) rfl (by kernel_rfl) (by kernel_rfl) (by kernel_rfl) (fun _ _ _ h => h) (Or.inl ⟨by rfl, ?hy13_1⟩) (by assumption) ?_
          case hy13_1 => (intro W hSw; have p0 : W.cell? ⟨wb, 0, none⟩ = some (.string (str x.f)) := hSw.k.cell 0; have p1 : W.cell? ⟨wb, 1, none⟩ = some (.string (str x.t)) := hSw.k.cell 1; have p2 : W.cell? ⟨wb, 2, none⟩ = some (.int .i64 x.r) := hSw.k.cell 2; (try dsimp only at hSw); go_simp; (try with_reducible rfl))
          try simp only [Act.put, List.getElem_toArray, List.getElem_cons_zero, List.getElem_cons_succ, List.setIfInBounds_toArray, List.set_cons_zero, List.set_cons_succ]
          refine wpAnyH_take (i := 14) (v := ?v14_1) rfl (by kernel_rfl) (by kernel_rfl) (by kernel_rfl) (fun _ _ _ h => h) (Or.inl ⟨by rfl, ?hy14_1⟩) (by assumption) ?_
          case hy14_1 => (intro W hSw; (try dsimp only at hSw); go_simp; (try with_reducible rfl))
          try simp only [Act.put, List.getElem_toArray, List.getElem_cons_zero, List.getElem_cons_succ, List.setIfInBounds_toArray, List.set_cons_zero, List.set_cons_succ]
          refine wpAnyH_ready (rs := [15]) (by kernel_rfl) (by simp) ?_
          refine AllReadyH.cons rfl (fun K hK => ?_) AllReadyH.nil
          go_simp
          refine (HME.out x _ hHeld.nd hHeld.hB).mono ?_
          rintro e wa ⟨rfl, hb1⟩
          refine hK.out _ _ ?_ (fun hHeld2 => ?_)
          · exact hHeld.call hb1
          clear hK K hHeld hb1
          have hHeld := hHeld2
          clear hHeld2
          try simp only [Act.put, List.getElem_toArray, List.getElem_cons_zero, List.getElem_cons_succ, List.setIfInBounds_toArray, List.set_cons_zero, List.set_cons_succ]
          refine wpAnyH_take (i := 16) (v := ?v16_1) rfl (by kernel_rfl) (by kernel_rfl) (by kernel_rfl) (fun _ _ _ h => h) (Or.inl ⟨by rfl, ?hy16_1⟩) (by assumption) ?_
          case hy16_1 => (intro W hSw; (try dsimp only at hSw); go_simp; (try with_reducible rfl))
          try simp only [Act.put, List.getElem_toArray, List.getElem_cons_zero, List.getElem_cons_succ, List.setIfInBounds_toArray, List.set_cons_zero, List.set_cons_succ]
          refine wpAnyH_take (i := 17) (v := ?v17_1) rfl (by kernel_rfl) (by kernel_rfl) (by kernel_rfl) (fun _ _ _ h => h) (Or.inl ⟨by rfl, ?hy17_1⟩) (by assumption) ?_
          case hy17_1 => (intro W hSw; (try dsimp only at hSw); go_simp; (try with_reducible rfl))
          try simp only [Act.put, List.getElem_toArray, List.getElem_cons_zero, List.getElem_cons_succ, List.setIfInBounds_toArray, List.set_cons_zero, List.set_cons_succ]
          refine wpAnyH_done (by kernel_rfl) ?_ _
          have HB9 := Lib.hid hHeld.below
          clear hHeld HR
          by_cases hg : goodE ns x
          · have HG := Lib.hid hg
            rw [decide_eq_true hg]
            clear hg
            have HU2 := Lib.hid (hUp.out.snoc HX.out HG.out (fun z hz hzz => by rw [HY.out] at hzz; cases hzz; exact HYX.out))
            go_wp2_with fail
            go_roundw
            case rel => exact ⟨k + 1, by omega, by go_num, HB9, HU2⟩
            case measure => simp [intOf]; omega
          · have HG := Lib.hid hg
            rw [decide_eq_false hg]
            clear hg
            go_wp2_with fail
            go_ret
            exact ⟨false, rfl, ⟨fun h => (by cases h), fun h => absurd h (EdUp.no HX.out HG.out)⟩, HB9.out⟩
        · have HYX := Lib.hid (fun k => hyx (hcl.2 k))
          have hg0 : (0 : Int) ≤ v := by omega
          clear hcl hyx
          go_wp2_with fail
          obtain ⟨w0, hw0⟩ : ∃ w0, wr.alloc (.cells #[.string (str x.f), .string (str x.t), .int .i64 x.r] 58) = w0 := ⟨_, rfl⟩
          obtain ⟨wb, hwb⟩ : ∃ wb, wr.heap.size = wb := ⟨_, rfl⟩
          rw [hw0, hwb] at HR
          rw [hw0, hwb]
          clear hw0 hwb hb q0 q1 q2
          refine wp_region_held_drew (S := fun W => ErS w W B wb x (some ad) m es A n ns) (by kernel_rfl) ?_ (fun hHeld => ?_)
          · exact HR.out.call (Below.refl _ _).drew
          refine wpAnyH_take (i := 0) (v := ?v0_2) rfl (by kernel_rfl) (by kernel_rfl) (by kernel_rfl) (fun _ _ _ h => h) (Or.inl ⟨by rfl, ?hy0_2⟩) (by assumption) ?_
          case hy0_2 => (intro W hSw; (try dsimp only at hSw); go_simp; (try with_reducible rfl))
          try simp only [Act.put, List.getElem_toArray, List.getElem_cons_zero, List.setIfInBounds_toArray, List.set_cons_zero, List.set_cons_succ]
          refine wpAnyH_take (i := 1) (v := ?v1_2) rfl (by kernel_rfl) (by kernel_rfl) (by kernel_rfl) (fun _ _ _ h => h) (Or.inl ⟨by rfl, ?hy1_2⟩) (by assumption) ?_
          case hy1_2 => (intro W hSw; (try dsimp only at hSw); go_simp; (try with_reducible rfl))
          try simp only [Act.put, List.getElem_toArray, List.getElem_cons_zero, List.getElem_cons_succ, List.setIfInBounds_toArray, List.set_cons_zero, List.set_cons_succ]
          refine wpAnyH_take (i := 2) (v := ?v2_2) rfl (by kernel_rfl) (by kernel_rfl) (by kernel_rfl) (fun _ _ _ h => h) (Or.inl ⟨by rfl, ?hy2_2⟩) (by assumption) ?_
          case hy2_2 => (intro W hSw; (try dsimp only at hSw); go_simp; (try with_reducible rfl))
          try simp only [Act.put, List.getElem_toArray, List.getElem_cons_zero, List.getElem_cons_succ, List.setIfInBounds_toArray, List.set_cons_zero, List.set_cons_succ]
          refine wpAnyH_take (i := 3) (v := ?v3_2) rfl (by kernel_rfl) (by kernel_rfl) (by kernel_rfl) (fun _ _ _ h => h) (Or.inl ⟨by rfl, ?hy3_2⟩) (by assumption) ?_
          case hy3_2 => (intro W hSw; (try dsimp only at hSw); go_simp; (try with_reducible rfl))
          try simp only [Act.put, List.getElem_toArray, List.getElem_cons_zero, List.getElem_cons_succ, List.setIfInBounds_toArray, List.set_cons_zero, List.set_cons_succ]
          refine wpAnyH_take (i := 4) (v := ?v4_2) rfl (by kernel_rfl) (by kernel_rfl) (by kernel_rfl) (fun _ _ _ h => h) (Or.inl ⟨by rfl, ?hy4_2⟩) (by assumption) ?_
          case hy4_2 => (intro W hSw; (try dsimp only at hSw); go_simp; (try with_reducible rfl))
          try simp only [Act.put, List.getElem_toArray, List.getElem_cons_zero, List.getElem_cons_succ, List.setIfInBounds_toArray, List.set_cons_zero, List.set_cons_succ]
          refine wpAnyH_take (i := 5) (v := ?v5_2) rfl (by kernel_rfl) (by kernel_rfl) (by kernel_rfl) (fun _ _ _ h => h) (Or.inl ⟨by rfl, ?hy5_2⟩) (by assumption) ?_
          case hy5_2 => (intro W hSw; (try dsimp only at hSw); go_simp; (try with_reducible rfl))
          try simp only [Act.put, List.getElem_toArray, List.getElem_cons_zero, List.getElem_cons_succ, List.setIfInBounds_toArray, List.set_cons_zero, List.set_cons_succ]
          refine wpAnyH_take (i := 6) (v := ?v6_2) rfl (by kernel_rfl) (by kernel_rfl) (by kernel_rfl) (fun _ _ _ h => h) (Or.inl ⟨by rfl, ?hy6_2⟩) (by assumption) ?_
          case hy6_2 => (intro W hSw; (try dsimp only at hSw); go_simp; (try with_reducible rfl))
          try simp only [Act.put, List.getElem_toArray, List.getElem_cons_zero, List.getElem_cons_succ, List.setIfInBounds_toArray, List.set_cons_zero, List.set_cons_succ]
          refine wpAnyH_take (i := 7) (v := ?v7_2) rfl (by kernel_rfl) (by kernel_rfl) (by kernel_rfl) (fun _ _ _ h => h) (Or.inl ⟨by rfl, ?hy7_2⟩) (by assumption) ?_
          case hy7_2 => (intro W hSw; obtain ⟨p3, p4, p5⟩ := eds_cells hSw.sl (k := k - 1) (by omega) HY.out; (try dsimp only at hSw); go_simp; (try with_reducible rfl))
          try simp only [Act.put, List.getElem_toArray, List.getElem_cons_zero, List.getElem_cons_succ, List.setIfInBounds_toArray, List.set_cons_zero, List.set_cons_succ]
          refine wpAnyH_take (i := 8) (v := ?v8_2) rfl (by kernel_rfl) (by kernel_rfl) (by kernel_rfl) (fun _ _ _ h => h) (Or.inl ⟨by rfl, ?hy8_2⟩) (by assumption) ?_
          case hy8_2 => (intro W hSw; have p0 : W.cell? ⟨wb, 0, none⟩ = some (.string (str x.f)) := hSw.k.cell 0; have p1 : W.cell? ⟨wb, 1, none⟩ = some (.string (str x.t)) := hSw.k.cell 1; have p2 : W.cell? ⟨wb, 2, none⟩ = some (.int .i64 x.r) := hSw.k.cell 2; (try dsimp only at hSw); go_simp; (try with_reducible rfl))
          try simp only [Act.put, List.getElem_toArray, List.getElem_cons_zero, List.getElem_cons_succ, List.setIfInBounds_toArray, List.set_cons_zero, List.set_cons_succ]
          refine wpAnyH_ready (rs := [9]) (by kernel_rfl) (by simp) ?_
          refine AllReadyH.cons rfl (fun K hK => ?_) AllReadyH.nil
          go_simp
          refine (hby _).mono ?_
          rintro e wa ⟨rfl, qd, os, hwa⟩
          have hb1 := gr_below hwa
          clear hwa
          refine hK.out _ _ ?_ (fun hHeld2 => ?_)
          · exact hHeld.call hb1
          clear hK K hHeld hb1
          have hHeld := hHeld2
          clear hHeld2
          try simp only [Act.put, List.getElem_toArray, List.getElem_cons_zero, List.getElem_cons_succ, List.setIfInBounds_toArray, List.set_cons_zero, List.set_cons_succ]
          refine wpAnyH_take (i := 10) (v := ?v10_2) rfl (by kernel_rfl) (by kernel_rfl) (by kernel_rfl) (fun _ _ _ h => h) (Or.inl ⟨by rfl, ?hy10_2⟩) (by assumption) ?_
          case hy10_2 => (intro W hSw; (try dsimp only at hSw); go_simp; (try with_reducible rfl))
          try simp only [Act.put, List.getElem_toArray, List.getElem_cons_zero, List.getElem_cons_succ, List.setIfInBounds_toArray, List.set_cons_zero, List.set_cons_succ]
          refine wpAnyH_take (i := 11) (v := ?v11_2) rfl (by kernel_rfl) (by kernel_rfl) (by kernel_rfl) (fun _ _ _ h => h) (Or.inl ⟨by rfl, ?hy11_2⟩) (by assumption) ?_
          case hy11_2 => (intro W hSw; (try dsimp only at hSw); go_simp; (try with_reducible rfl))
          try simp only [Act.put, List.getElem_toArray, List.getElem_cons_zero, List.getElem_cons_succ, List.setIfInBounds_toArray, List.set_cons_zero, List.set_cons_succ]
          refine wpAnyH_take (i := 12) (v := ?v12_2) rfl (by kernel_rfl) (by kernel_rfl) (by kernel_rfl) (fun _ _ _ h => h) (Or.inl ⟨by rfl, ?hy12_2⟩) (by assumption) ?_
          case hy12_2 => (intro W hSw; (try dsimp only at hSw); go_simp; (try with_reducible rfl))
          try simp only [Act.put, List.getElem_toArray, List.getElem_cons_zero, List.getElem_cons_succ, List.setIfInBounds_toArray, List.set_cons_zero, List.set_cons_succ]
          refine wpAnyH_take (i := 13) (v := undef) rfl (by kernel_rfl) (by kernel_rfl) (by kernel_rfl) (fun _ _ _ h => h) (Or.inr ⟨by rfl, rfl⟩) (by assumption) ?_
          try simp only [Act.put, List.getElem_toArray, List.getElem_cons_zero, List.getElem_cons_succ, List.setIfInBounds_toArray, List.set_cons_zero, List.set_cons_succ]
          refine wpAnyH_take (i := 14) (v := undef) rfl (by kernel_rfl) (by kernel_rfl) (by kernel_rfl) (fun _ _ _ h => h) (Or.inr ⟨by rfl, rfl⟩) (by assumption) ?_
          try simp only [Act.put, List.getElem_toArray, List.getElem_cons_zero, List.getElem_cons_succ, List.setIfInBounds_toArray, List.set_cons_zero, List.set_cons_succ]
          refine wpAnyH_take (i := 15) (v := undef) rfl (by kernel_rfl) (by kernel_rfl) (by kernel_rfl) (fun _ _ _ h => h) (Or.inr ⟨by rfl, rfl⟩) (by assumption) ?_
          try simp only [Act.put, List.getElem_toArray, List.getElem_cons_zero, List.getElem_cons_succ, List.setIfInBounds_toArray, List.set_cons_zero, List.set_cons_succ]
          refine wpAnyH_take (i := 16) (v := undef) rfl (by kernel_rfl) (by kernel_rfl) (by kernel_rfl) (fun _ _ _ h => h) (Or.inr ⟨by rfl, rfl⟩) (by assumption) ?_
          try simp only [Act.put, List.getElem_toArray, List.getElem_cons_zero, List.getElem_cons_succ, List.setIfInBounds_toArray, List.set_cons_zero, List.set_cons_succ]
          refine wpAnyH_take (i := 17) (v := ?v17_2) rfl (by kernel_rfl) (by kernel_rfl) (by kernel_rfl) (fun _ _ _ h => h) (Or.inl ⟨by rfl, ?hy17_2⟩) (by assumption) ?_
          case hy17_2 => (intro W hSw; (try dsimp only at hSw); go_simp; (try with_reducible rfl))
          try simp only [Act.put, List.getElem_toArray, List.getElem_cons_zero, List.getElem_cons_succ, List.setIfInBounds_toArray, List.set_cons_zero, List.set_cons_succ]
          refine wpAnyH_done (by kernel_rfl) ?_ _
          have HB9 := Lib.hid hHeld.below
          clear hHeld HR
          go_wp2_with fail
          go_ret
          exact ⟨false, rfl, ⟨fun h => (by cases h), fun h => absurd h (EdUp.noR h0 HX.out HY.out HYX.out)⟩, HB9.out⟩
      · have z0 : ¬ ((0 : Int) < (k : Int)) := by omega
        go_wp2_with fail
        obtain ⟨w0, hw0⟩ : ∃ w0, wr.alloc (.cells #[.string (str x.f), .string (str x.t), .int .i64 x.r] 58) = w0 := ⟨_, rfl⟩
        obtain ⟨wb, hwb⟩ : ∃ wb, wr.heap.size = wb := ⟨_, rfl⟩
        rw [hw0, hwb] at HR
        rw [hw0, hwb]
        clear hw0 hwb hb q0 q1 q2
        refine wp_region_held_drew (S := fun W => ErS w W B wb x (some ad) m es A n ns) (by kernel_rfl) ?_ (fun hHeld => ?_)
        · exact HR.out.call (Below.refl _ _).drew
        refine wpAnyH_take (i := 0) (v := ?v0_3) rfl (by kernel_rfl) (by kernel_rfl) (by kernel_rfl) (fun _ _ _ h => h) (Or.inl ⟨by rfl, ?hy0_3⟩) (by assumption) ?_
        case hy0_3 => (intro W hSw; (try dsimp only at hSw); go_simp; (try with_reducible rfl))
        try simp only [Act.put, List.getElem_toArray, List.getElem_cons_zero, List.setIfInBounds_toArray, List.set_cons_zero, List.set_cons_succ]
        refine wpAnyH_take (i := 1) (v := ?v1_3) rfl (by kernel_rfl) (by kernel_rfl) (by kernel_rfl) (fun _ _ _ h => h) (Or.inl ⟨by rfl, ?hy1_3⟩) (by assumption) ?_
        case hy1_3 => (intro W hSw; (try dsimp only at hSw); go_simp; (try with_reducible rfl))
        try simp only [Act.put, List.getElem_toArray, List.getElem_cons_zero, List.getElem_cons_succ, List.setIfInBounds_toArray, List.set_cons_zero, List.set_cons_succ]
        refine wpAnyH_take (i := 2) (v := ?v2_3) rfl (by kernel_rfl) (by kernel_rfl) (by kernel_rfl) (fun _ _ _ h => h) (Or.inl ⟨by rfl, ?hy2_3⟩) (by assumption) ?_
        case hy2_3 => (intro W hSw; (try dsimp only at hSw); go_simp; (try with_reducible rfl))
        try simp only [Act.put, List.getElem_toArray, List.getElem_cons_zero, List.getElem_cons_succ, List.setIfInBounds_toArray, List.set_cons_zero, List.set_cons_succ]
        refine wpAnyH_take (i := 3) (v := undef) rfl (by kernel_rfl) (by kernel_rfl) (by kernel_rfl) (fun _ _ _ h => h) (Or.inr ⟨by rfl, rfl⟩) (by assumption) ?_
        try simp only [Act.put, List.getElem_toArray, List.getElem_cons_zero, List.getElem_cons_succ, List.setIfInBounds_toArray, List.set_cons_zero, List.set_cons_succ]
        refine wpAnyH_take (i := 4) (v := undef) rfl (by kernel_rfl) (by kernel_rfl) (by kernel_rfl) (fun _ _ _ h => h) (Or.inr ⟨by rfl, rfl⟩) (by assumption) ?_
        try simp only [Act.put, List.getElem_toArray, List.getElem_cons_zero, List.getElem_cons_succ, List.setIfInBounds_toArray, List.set_cons_zero, List.set_cons_succ]
        refine wpAnyH_take (i := 5) (v := undef) rfl (by kernel_rfl) (by kernel_rfl) (by kernel_rfl) (fun _ _ _ h => h) (Or.inr ⟨by rfl, rfl⟩) (by assumption) ?_
        try simp only [Act.put, List.getElem_toArray, List.getElem_cons_zero, List.getElem_cons_succ, List.setIfInBounds_toArray, List.set_cons_zero, List.set_cons_succ]
        refine wpAnyH_take (i := 6) (v := undef) rfl (by kernel_rfl) (by kernel_rfl) (by kernel_rfl) (fun _ _ _ h => h) (Or.inr ⟨by rfl, rfl⟩) (by assumption) ?_
        try simp only [Act.put, List.getElem_toArray, List.getElem_cons_zero, List.getElem_cons_succ, List.setIfInBounds_toArray, List.set_cons_zero, List.set_cons_succ]
        refine wpAnyH_take (i := 7) (v := undef) rfl (by kernel_rfl) (by kernel_rfl) (by kernel_rfl) (fun _ _ _ h => h) (Or.inr ⟨by rfl, rfl⟩) (by assumption) ?_
        try simp only [Act.put, List.getElem_toArray, List.getElem_cons_zero, List.getElem_cons_succ, List.setIfInBounds_toArray, List.set_cons_zero, List.set_cons_succ]
        refine wpAnyH_take (i := 8) (v := undef) rfl (by kernel_rfl) (by kernel_rfl) (by kernel_rfl) (fun _ _ _ h => h) (Or.inr ⟨by rfl, rfl⟩) (by assumption) ?_
        try simp only [Act.put, List.getElem_toArray, List.getElem_cons_zero, List.getElem_cons_succ, List.setIfInBounds_toArray, List.set_cons_zero, List.set_cons_succ]
        refine wpAnyH_take (i := 9) (v := undef) rfl (by kernel_rfl) (by kernel_rfl) (by kernel_rfl) (fun _ _ _ h => h) (Or.inr ⟨by rfl, rfl⟩) (by assumption) ?_
        try simp only [Act.put, List.getElem_toArray, List.getElem_cons_zero, List.getElem_cons_succ, List.setIfInBounds_toArray, List.set_cons_zero, List.set_cons_succ]
        refine wpAnyH_take (i := 10) (v := undef) rfl (by kernel_rfl) (by kernel_rfl) (by kernel_rfl) (fun _ _ _ h => h) (Or.inr ⟨by rfl, rfl⟩) (by assumption) ?_
        try simp only [Act.put, List.getElem_toArray, List.getElem_cons_zero, List.getElem_cons_succ, List.setIfInBounds_toArray, List.set_cons_zero, List.set_cons_succ]
        refine wpAnyH_take (i := 11) (v := ?v11_3) rfl (by kernel_rfl) (by kernel_rfl) (by kernel_rfl) (fun _ _ _ h => h) (Or.inl ⟨by rfl, ?hy11_3⟩) (by assumption) ?_
        case hy11_3 => (intro W hSw; (try dsimp only at hSw); go_simp; (try with_reducible rfl))
        try simp only [Act.put, List.getElem_toArray, List.getElem_cons_zero, List.getElem_cons_succ, List.setIfInBounds_toArray, List.set_cons_zero, List.set_cons_succ]
        refine wpAnyH_take (i := 12) (v := ?v12_3) rfl (by kernel_rfl) (by kernel_rfl) (by kernel_rfl) (fun _ _ _ h => h) (Or.inl ⟨by rfl, ?hy12_3⟩) (by assumption) ?_
        case hy12_3 => (intro W hSw; (try dsimp only at hSw); go_simp; (try with_reducible rfl))
        try simp only [Act.put, List.getElem_toArray, List.getElem_cons_zero, List.getElem_cons_succ, List.setIfInBounds_toArray, List.set_cons_zero, List.set_cons_succ]
        refine wpAnyH_take (i := 13) (v := ?v13_3) rfl (by kernel_rfl) (by kernel_rfl) (by kernel_rfl) (fun _ _ _ h => h) (Or.inl ⟨by rfl, ?hy13_3⟩) (by assumption) ?_
        case hy13_3 => (intro W hSw; have p0 : W.cell? ⟨wb, 0, none⟩ = some (.string (str x.f)) := hSw.k.cell 0; have p1 : W.cell? ⟨wb, 1, none⟩ = some (.string (str x.t)) := hSw.k.cell 1; have p2 : W.cell? ⟨wb, 2, none⟩ = some (.int .i64 x.r) := hSw.k.cell 2; (try dsimp only at hSw); go_simp; (try with_reducible rfl))
        try simp only [Act.put, List.getElem_toArray, List.getElem_cons_zero, List.getElem_cons_succ, List.setIfInBounds_toArray, List.set_cons_zero, List.set_cons_succ]
        refine wpAnyH_take (i := 14) (v := ?v14_3) rfl (by kernel_rfl) (by kernel_rfl) (by kernel_rfl) (fun _ _ _ h => h) (Or.inl ⟨by rfl, ?hy14_3⟩) (by assumption) ?_
        case hy14_3 => (intro W hSw; (try dsimp only at hSw); go_simp; (try with_reducible rfl))
        try simp only [Act.put, List.getElem_toArray, List.getElem_cons_zero, List.getElem_cons_succ, List.setIfInBounds_toArray, List.set_cons_zero, List.set_cons_succ]
        refine wpAnyH_ready (rs := [15]) (by kernel_rfl) (by simp) ?_
        refine AllReadyH.cons rfl (fun K hK => ?_) AllReadyH.nil
        go_simp
        refine (HME.out x _ hHeld.nd hHeld.hB).mono ?_
        rintro e wa ⟨rfl, hb1⟩
        refine hK.out _ _ ?_ (fun hHeld2 => ?_)
        · exact hHeld.call hb1
        clear hK K hHeld hb1
        have hHeld := hHeld2
        clear hHeld2
        try simp only [Act.put, List.getElem_toArray, List.getElem_cons_zero, List.getElem_cons_succ, List.setIfInBounds_toArray, List.set_cons_zero, List.set_cons_succ]
        refine wpAnyH_take (i := 16) (v := ?v16_3) rfl (by kernel_rfl) (by kernel_rfl) (by kernel_rfl) (fun _ _ _ h => h) (Or.inl ⟨by rfl, ?hy16_3⟩) (by assumption) ?_
        case hy16_3 => (intro W hSw; (try dsimp only at hSw); go_simp; (try with_reducible rfl))
        try simp only [Act.put, List.getElem_toArray, List.getElem_cons_zero, List.getElem_cons_succ, List.setIfInBounds_toArray, List.set_cons_zero, List.set_cons_succ]
        refine wpAnyH_take (i := 17) (v := ?v17_3) rfl (by kernel_rfl) (by kernel_rfl) (by kernel_rfl) (fun _ _ _ h => h) (Or.inl ⟨by rfl, ?hy17_3⟩) (by assumption) ?_
        case hy17_3 => (intro W hSw; (try dsimp only at hSw); go_simp; (try with_reducible rfl))
        try simp only [Act.put, List.getElem_toArray, List.getElem_cons_zero, List.getElem_cons_succ, List.setIfInBounds_toArray, List.set_cons_zero, List.set_cons_succ]
        refine wpAnyH_done (by kernel_rfl) ?_ _
        have HB9 := Lib.hid hHeld.below
        clear hHeld HR
        by_cases hg : goodE ns x
        · have HG := Lib.hid hg
          rw [decide_eq_true hg]
          clear hg
          have HU2 := Lib.hid (hUp.out.snoc HX.out HG.out (fun z hz hzz => absurd hz h0))
          go_wp2_with fail
          go_roundw
          case rel => exact ⟨k + 1, by omega, by go_num, HB9, HU2⟩
          case measure => simp [intOf]; omega
        · have HG := Lib.hid hg
          rw [decide_eq_false hg]
          clear hg
          go_wp2_with fail
          go_ret
          exact ⟨false, rfl, ⟨fun h => (by cases h), fun h => absurd h (EdUp.no HX.out HG.out)⟩, HB9.out⟩
    · obtain rfl : k = m := by omega
      go_wp2_with fail
      go_ret
      exact ⟨true, rfl, ⟨fun _ => by rw [hLm]; exact hUp.out, fun _ => rfl⟩, hb.out⟩
theorem may_iff {ns : List Nd} {es : List Ed} : MayG kT ns es ↔ NdsOk ns ∧ EdUp ns es es.length := by
  refine ⟨fun h => ⟨⟨h.few, fun i x hi hx => ⟨?_, fun y h0 hy => ?_⟩⟩, fun i x hi hx => ⟨?_, fun y h0 hy => ?_⟩⟩, fun ⟨h1, h2⟩ => may_of h1.1 h1.2 h2⟩
  · exact Classical.byContradiction fun k => no_node hx k h
  · exact Classical.byContradiction fun k => no_rise h0 hx hy k h
  · exact Classical.byContradiction fun k => no_edge hx k h
  · exact Classical.byContradiction fun k => no_riseE h0 hx hy k h
set_option maxRecDepth 10000 in
set_option maxHeartbeats 8000000 in
theorem may_any (g : Array Value) (ns : List Nd) (es : List Ed) (B : Nat) (w : World) (h : GrAt w B g ns es) (hB : B ≤ w.heap.size) (hS : ∀ x ∈ ns, x.n.length ≤ maxLen) :
    Calls Tryz.prog 16 #[.agg g] w (MayPost ns es w) := by
  obtain ⟨NA, nc, EA, ec, rfl, _, _, _, _, hE, hG⟩ := h.form
  clear h
  have hbw : Below w.heap.size w (w.alloc (.cells #[.slice NA ns.length nc, .slice EA es.length ec] 29)) := (Below.refl _ w).alloc (Nat.le_refl _) _
  have hk : Blk (w.alloc (.cells #[.slice NA ns.length nc, .slice EA es.length ec] 29)) w.heap.size 29 #[.slice NA ns.length nc, .slice EA es.length ec] := Blk.new _ _ _
  have e0 : (w.alloc (.cells #[.slice NA ns.length nc, .slice EA es.length ec] 29)).cell? ⟨w.heap.size, 0, none⟩ = some (.slice NA ns.length nc) := hk.cell 0
  have HN := Lib.hid (mayNodes_any NA ns.length nc B ns _ (hE.below (hbw.mono hB)) (Nat.le_trans hB hbw.size) hS)
  have HE := Lib.hid hE
  have HG := Lib.hid hG
  have HK := Lib.hid hk
  have HB := Lib.hid hbw
  clear hE hG hk hbw
  unfold MayPost
  go_enter Tryz.func16, Tryz.ntmps16
  go_wp2_with fail
  obtain ⟨w0, hw0⟩ : ∃ w0, w.alloc (.cells #[.slice NA ns.length nc, .slice EA es.length ec] 29) = w0 := ⟨_, rfl⟩
  rw [hw0] at HN HK HB
  rw [hw0]
  clear e0 hw0
  unfold OkPost at HN
  refine HN.out.mono ?_
  rintro e w1 ⟨r, rfl, hr, hb1⟩
  have hbn : Below w.heap.size w w1 := more3 HB.out HB.out.size hb1
  have hk1 := HK.out.below hb1 HK.out.lt
  have HB1 := Lib.hid hbn
  have HR := Lib.hid hr
  cases r
  · have HNO : Hid (¬ MayG kT ns es) := fun m => by have := HR.out.2 (may_iff.1 m).1; cases this
    clear hr hbn hk1 hb1
    go_wp2_with fail
    go_ret
    exact ⟨false, rfl, ⟨fun h => (by cases h), fun h => absurd h HNO.out⟩, HB1.out⟩
  · have hok : NdsOk ns := HR.out.1 rfl
    have HO := Lib.hid hok
    have HM := Lib.hid (mayEdges_any EA es.length ec NA ns.length nc B ns es w1 (HE.out.below (hbn.mono hB)) (HG.out.below (hbn.mono hB)) (Nat.le_trans hB hbn.size) hok)
    have f0 : w1.cell? ⟨w.heap.size, 0, none⟩ = some (.slice NA ns.length nc) := hk1.cell 0
    have f1 : w1.cell? ⟨w.heap.size, 1, none⟩ = some (.slice EA es.length ec) := hk1.cell 1
    clear hr hbn hk1 hb1 hok
    unfold OkPost at HM
    go_wp2_with fail
    refine HM.out.mono ?_
    rintro e w2 ⟨r, rfl, hr, hb2⟩
    have HB2 := Lib.hid (more3 HB1.out HB1.out.size hb2)
    have HR2 := Lib.hid hr
    clear hr hb2 f0 f1
    go_wp2_with fail
    go_ret
    exact ⟨r, rfl, ⟨fun k => may_iff.2 ⟨HO.out, HR2.out.1 k⟩, fun k => HR2.out.2 (may_iff.1 k).2⟩, HB2.out⟩
end Go.Proofs.YtcoepioahabbdaaGreat
