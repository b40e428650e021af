/- The walk of the document's May. -/
import Derived.Test.YtcoepioahabbdaaGreatGyax
import Derived.Test.YtcoepioahabbdaaGreatGyar
import Derived.Test.YtcoepioahabbdaaGreatGyam
import Derived.Test.YtcoepioahabbdaaGreatGyae
import Derived.Test.YtcoepioahabbdaaGreatGyaa
import Derived.Test.YtcoepioahabbdaaGreatGyab
import Derived.Test.YtcoepioahabbdaaGreatGyad
import Derived.Test.YtcoepioahabbdaaGreatGyac
import Derived.Test.YtcoepioahabbdaaGreatGxaa
import Derived.Test.YtcoepioahabbdaaGreatGyaf
import Derived.Test.YtcoepioahabbdaaGreatGyag
import Derived.Test.YtcoepioahabbdaaGreatGxab
import Derived.Test.YtcoepioahabbdaaGreatGyal
import Derived.Test.YtcoepioahabbdaaGreatGyak
import Derived.Test.YtcoepioahabbdaaGreatGyah
import Derived.Test.YtcoepioahabbdaaGreatGyai
import Derived.Test.YtcoepioahabbdaaGreatGyao
import Derived.Test.YtcoepioahabbdaaGreatGyan
import Derived.Test.YtcoepioahabbdaaGreatGyaq
import Derived.Test.YtcoepioahabbdaaGreatGyap
namespace Go.Proofs.YtcoepioahabbdaaGreat
open Go.RowKit
abbrev pA.{u} := @List.getElem_toArray.{u}
abbrev pB.{u} := @List.getElem_cons_zero.{u}
abbrev pC.{u} := @List.getElem_cons_succ.{u}
abbrev pD.{u} := @List.setIfInBounds_toArray.{u}
abbrev pE.{u} := @List.set_cons_zero.{u}
abbrev pF.{u} := @List.set_cons_succ.{u}
theorem mayNo {ns : List Nd} {es : List Ed} {w w' : World} (h : ¬ MayG kT ns es) (hb : Below w.heap.size w w') : MayPost ns es w (.returned (.bool false)) w' := ⟨false, rfl, by simp [h], hb⟩
set_option maxRecDepth 10000 in
set_option maxHeartbeats 32000000 in
theorem gMay_any (g : Array Value) (ns : List Nd) (es : List Ed) (B : Nat) (w : World) (h : GrAt w B g ns es) (hB : B ≤ w.heap.size) (hS : ∀ x ∈ ns, x.n.length ≤ maxLen) :
    Calls Tryz.prog 17 #[.agg g] w (MayPost ns es w) := by
  have HGR := Lib.hid h
  obtain ⟨NA, nc, EA, ec, rfl, h2, h3, h4, h5, h6, h7⟩ := h.form
  have hm1 := h6.2.1
  have hm2 := h7.2.1
  unfold maxLen at hm1 hm2
  have HN := Lib.hid h6
  have HE := Lib.hid h7
  have HB0 : Hid (Below w.heap.size w (w.alloc (.cells #[.slice NA ns.length nc, .slice EA es.length ec] 29))) := (Below.refl _ w).alloc (Nat.le_refl _) _
  have HK := Lib.hid (Blk.new w 29 #[.slice NA ns.length nc, .slice EA es.length ec])
  have e0 : (w.alloc (.cells #[.slice NA ns.length nc, .slice EA es.length ec] 29)).cell? ⟨w.heap.size, 0, none⟩ = some (.slice NA ns.length nc) := HK.out.cell 0
  clear h h2 h3 h4 h5 h6 h7
  by_cases h64 : 64 < ns.length
  · have d1 : (64 : Int) < (ns.length : Int) := by omega
    go_enter Tryz.func17, Tryz.ntmps17
    go_wp2_with fail
    go_ret
    exact mayNo (fun m => by have := m.few; omega) HB0.out
  · have d1 : (ns.length : Int) ≤ 64 := by omega
    go_enter Tryz.func17, Tryz.ntmps17
    go_wp2_with fail
    obtain ⟨w0, hw0⟩ : ∃ w0, w.alloc (.cells #[.slice NA ns.length nc, .slice EA es.length ec] 29) = w0 := ⟨_, rfl⟩
    rw [hw0]
    rw [hw0] at e0 HB0 HK
    obtain ⟨b, hb⟩ : ∃ b, w.heap.size = b := ⟨_, rfl⟩
    have hbl : b < w0.heap.size := by rw [← hb]; exact HK.out.lt
    rw [hb] at e0 HK hB
    rw [hb]
    have HX0 := Lib.hid e0
    have E0 : Hid (w0.cell? ⟨b, 0, none⟩ = some (.slice NA ns.length nc)) := HX0.out
    have E1 : Hid (w0.cell? ⟨b, 1, none⟩ = some (.slice EA es.length ec)) := HK.out.cell 1
    have HGR0 : Hid (GrAt w0 b #[.slice NA ns.length nc, .slice EA es.length ec] ns es) := (HGR.out.below (HB0.out.mono (by omega))).wide hB
    have HNW : Hid (SlAt ndLay w0 b NA ns.length ns) := (HN.out.below (HB0.out.mono (by omega))).wide hB
    have HEW : Hid (SlAt edLay w0 b EA es.length es) := (HE.out.below (HB0.out.mono (by omega))).wide hB
    clear hw0 HGR HN HE HK
    have HU0 : Hid (NdUp ns 0) := NdUp.zero ns
    have HB00 : Hid (Below w0.heap.size w0 w0) := Below.refl _ _
    go_loopw [18] (fun i wr => ∃ k : Nat, k ≤ ns.length ∧ i = .int .i64 k ∧ Hid (NdUp ns k) ∧ Hid (Below w0.heap.size w0 wr)) (fun i wr => ns.length - (intOf i).toNat)
    case atStart => exact ⟨0, Nat.zero_le _, rfl, HU0, HB00⟩
    case round =>
      clear HU0 HB00 e0
      obtain ⟨k, hk, rfl, hU, hW⟩ := hrel
      by_cases hlt : k < ns.length
      · have b0 : (0 : Int) ≤ (k : Int) := by omega
        have b1 : (k : Int) < (ns.length : Int) := by omega
        have HNr := Lib.hid ((HNW.out.below (hW.out.mono (Nat.le_of_lt hbl))))
        obtain ⟨ad, x, rfl, hab, hx, q0, q1, q2⟩ := nds_at HNr.out hlt
        have HX := Lib.hid hx
        have hxm := hS x (List.mem_of_getElem? hx)
        have hsz : (str x.n).size ≤ maxLen := by rw [str_size]; exact hxm
        clear hx
        go_wp2_with fail
        have hwb : Below w0.heap.size w0 (wr.alloc (.cells #[.string (str x.n), .int .i64 x.k, .int .i64 x.s] 32)) := hW.out.alloc hW.out.size _
        have hk1 : Blk (wr.alloc (.cells #[.string (str x.n), .int .i64 x.k, .int .i64 x.s] 32)) wr.heap.size 32 #[.string (str x.n), .int .i64 x.k, .int .i64 x.s] := Blk.new _ _ _
        obtain ⟨wn, hwn⟩ : ∃ wn, wr.alloc (.cells #[.string (str x.n), .int .i64 x.k, .int .i64 x.s] 32) = wn := ⟨_, rfl⟩
        rw [hwn] at hwb hk1
        rw [hwn]
        obtain ⟨xb, hxb⟩ : ∃ xb, wr.heap.size = xb := ⟨_, rfl⟩
        rw [hxb] at hk1
        rw [hxb]
        have HWB := Lib.hid hwb
        have hxl := hk1.lt
        have x0 : wn.cell? ⟨xb, 0, none⟩ = some (.string (str x.n)) := hk1.cell 0
        have x1 : wn.cell? ⟨xb, 1, none⟩ = some (.int .i64 x.k) := hk1.cell 1
        have x2 : wn.cell? ⟨xb, 2, none⟩ = some (.int .i64 x.s) := hk1.cell 2
        have y0 : wn.cell? ⟨b, 0, none⟩ = some (.slice (some ad) ns.length nc) := (Below.cell hwb (p := ⟨b, 0, none⟩) hbl).trans E0.out
        have hbn : b < wn.heap.size := Nat.lt_of_lt_of_le hbl hwb.size
        have HNn := Lib.hid ((HNW.out.below (hwb.mono (Nat.le_of_lt hbl))))
        have HBX : Hid (Below w0.heap.size w0 wr) := hW.out
        clear hwn hxb hk1 hwb q0 q1 q2 hW HNr
        have f0 := fun w => Nm.fld0 (Nm.kindP (str x.n)) (Nm.preP (str x.n)) (Nm.instP (str x.n)) (Nm.atP (str x.n)) w
        by_cases k1 : Nm.kindP (str x.n) = x.k
        · have d2 : (Nm.kindP (str x.n) != x.k) = false := by simpa using k1
          have K1 := Lib.hid k1
          clear k1
          by_cases k2 : x.k = 0
          · have d3 : (x.k == 0) = true := by simpa using k2
            have K2 := Lib.hid k2
            clear k2
            have HNO : Hid (¬ MayG kT ns es) := no_node HX.out (fun h => h.2.1 K2.out)
            refine wp_region_held_drew (S := fun W => Below wn.heap.size wn W) (by kernel_rfl) ?_ (fun hHeld => ?_)
            · exact (Below.refl _ _).drew
            refine wpAnyH_take (i := 0) (v := ?v0_1) rfl (by kernel_rfl) (by kernel_rfl) (by kernel_rfl) (fun _ _ _ h => h) (Or.inl ⟨by rfl, ?hy0_1⟩) (by assumption) ?_
            case hy0_1 => (intro W hSw; (try dsimp only at hSw); go_simp; (try with_reducible rfl))
            try simp only [Act.put, pA, pB, pD, pE, pF]
            refine wpAnyH_take (i := 1) (v := ?v1_1) rfl (by kernel_rfl) (by kernel_rfl) (by kernel_rfl) (fun _ _ _ h => h) (Or.inl ⟨by rfl, ?hy1_1⟩) (by assumption) ?_
            case hy1_1 => (intro W hSw; have p0 := (Below.cell hSw (p := ⟨xb, 0, none⟩) hxl).trans x0; (try dsimp only at hSw); go_simp; (try with_reducible rfl))
            try simp only [Act.put, pA, pB, pC, pD, pE, pF]
            refine wpAnyH_take (i := 4) (v := ?v4_1) rfl (by kernel_rfl) (by kernel_rfl) (by kernel_rfl) (fun _ _ _ h => h) (Or.inl ⟨by rfl, ?hy4_1⟩) (by assumption) ?_
            case hy4_1 => (intro W hSw; (try dsimp only at hSw); go_simp; (try with_reducible rfl))
            try simp only [Act.put, pA, pB, pC, pD, pE, pF]
            refine wpAnyH_take (i := 5) (v := ?v5_1) rfl (by kernel_rfl) (by kernel_rfl) (by kernel_rfl) (fun _ _ _ h => h) (Or.inl ⟨by rfl, ?hy5_1⟩) (by assumption) ?_
            case hy5_1 => (intro W hSw; have p1 := (Below.cell hSw (p := ⟨xb, 1, none⟩) hxl).trans x1; (try dsimp only at hSw); go_simp; (try with_reducible rfl))
            try simp only [Act.put, pA, pB, pC, pD, pE, pF]
            refine wpAnyH_ready (rs := [2]) (by kernel_rfl) (by simp) ?_
            refine AllReadyH.cons rfl (fun K hK => ?_) AllReadyH.nil
            go_simp
            refine (Nm.Of_any (str x.n) hsz _).mono ?_
            rintro e wq ⟨rfl, hbq⟩
            refine hK.out _ _ ?_ (fun hHeld2 => ?_)
            · exact more3 hHeld hHeld.size hbq
            clear hK K hHeld hbq
            have hHeld := hHeld2
            clear hHeld2
            try simp only [Act.put, pA, pB, pC, pD, pE, pF]
            refine wpAnyH_take (i := 3) (v := ?v3_1) rfl (by kernel_rfl) (by kernel_rfl) (by kernel_rfl) (fun _ _ _ h => h) (Or.inl ⟨by rfl, ?hy3_1⟩) (by assumption) ?_
            case hy3_1 => (intro W hSw; (try dsimp only at hSw); go_simp; (try with_reducible rfl))
            try simp only [Act.put, pA, pB, pC, pD, pE, pF]
            refine wpAnyH_take (i := 6) (v := ?v6_1) rfl (by kernel_rfl) (by kernel_rfl) (by kernel_rfl) (fun _ _ _ h => h) (Or.inl ⟨by rfl, ?hy6_1⟩) (by assumption) ?_
            case hy6_1 => (intro W hSw; (try dsimp only at hSw); go_simp; (try with_reducible rfl))
            try simp only [Act.put, pA, pB, pC, pD, pE, pF]
            refine wpAnyH_take (i := 7) (v := ?v7_1) rfl (by kernel_rfl) (by kernel_rfl) (by kernel_rfl) (fun _ _ _ h => h) (Or.inl ⟨by rfl, ?hy7_1⟩) (by assumption) ?_
            case hy7_1 => (intro W hSw; (try dsimp only at hSw); go_simp; (try with_reducible rfl))
            try simp only [Act.put, pA, pB, pC, pD, pE, pF]
            refine wpAnyH_take (i := 8) (v := ?v8_1) rfl (by kernel_rfl) (by kernel_rfl) (by kernel_rfl) (fun _ _ _ h => h) (Or.inl ⟨by rfl, ?hy8_1⟩) (by assumption) ?_
            case hy8_1 => (intro W hSw; (try dsimp only at hSw); go_simp; (try with_reducible rfl))
            try simp only [Act.put, pA, pB, pC, pD, pE, pF]
            refine wpAnyH_take (i := 9) (v := ?v9_1) rfl (by kernel_rfl) (by kernel_rfl) (by kernel_rfl) (fun _ _ _ h => h) (Or.inl ⟨by rfl, ?hy9_1⟩) (by assumption) ?_
            case hy9_1 => (intro W hSw; have p1 := (Below.cell hSw (p := ⟨xb, 1, none⟩) hxl).trans x1; (try dsimp only at hSw); go_simp; (try with_reducible rfl))
            try simp only [Act.put, pA, pB, pC, pD, pE, pF]
            refine wpAnyH_take (i := 10) (v := ?v10_1) rfl (by kernel_rfl) (by kernel_rfl) (by kernel_rfl) (fun _ _ _ h => h) (Or.inl ⟨by rfl, ?hy10_1⟩) (by assumption) ?_
            case hy10_1 => (intro W hSw; (try dsimp only at hSw); go_simp; (try with_reducible rfl))
            try simp only [Act.put, pA, pB, pC, pD, pE, pF]
            refine wpAnyH_take (i := 11) (v := ?v11_1) rfl (by kernel_rfl) (by kernel_rfl) (by kernel_rfl) (fun _ _ _ h => h) (Or.inl ⟨by rfl, ?hy11_1⟩) (by assumption) ?_
            case hy11_1 => (intro W hSw; (try dsimp only at hSw); go_simp; (try with_reducible rfl))
            try simp only [Act.put, pA, pB, pC, pD, pE, pF]
            refine wpAnyH_take (i := 12) (v := ?v12_1) rfl (by kernel_rfl) (by kernel_rfl) (by kernel_rfl) (fun _ _ _ h => h) (Or.inl ⟨by rfl, ?hy12_1⟩) (by assumption) ?_
            case hy12_1 => (intro W hSw; (try dsimp only at hSw); go_simp; (try with_reducible rfl))
            try simp only [Act.put, pA, pB, pC, pD, pE, pF]
            refine wpAnyH_take (i := 13) (v := undef) rfl (by kernel_rfl) (by kernel_rfl) (by kernel_rfl) (fun _ _ _ h => h) (Or.inr ⟨by rfl, rfl⟩) (by assumption) ?_
            try simp only [Act.put, pA, pB, pC, pD, pE, pF]
            refine wpAnyH_take (i := 14) (v := undef) rfl (by kernel_rfl) (by kernel_rfl) (by kernel_rfl) (fun _ _ _ h => h) (Or.inr ⟨by rfl, rfl⟩) (by assumption) ?_
            try simp only [Act.put, pA, pB, pC, pD, pE, pF]
            refine wpAnyH_take (i := 15) (v := undef) rfl (by kernel_rfl) (by kernel_rfl) (by kernel_rfl) (fun _ _ _ h => h) (Or.inr ⟨by rfl, rfl⟩) (by assumption) ?_
            try simp only [Act.put, pA, pB, pC, pD, pE, pF]
            refine wpAnyH_take (i := 16) (v := ?v16_1) rfl (by kernel_rfl) (by kernel_rfl) (by kernel_rfl) (fun _ _ _ h => h) (Or.inl ⟨by rfl, ?hy16_1⟩) (by assumption) ?_
            case hy16_1 => (intro W hSw; (try dsimp only at hSw); go_simp; (try with_reducible rfl))
            try simp only [Act.put, pA, pB, pC, pD, pE, pF]
            refine wpAnyH_take (i := 17) (v := ?v17_1) rfl (by kernel_rfl) (by kernel_rfl) (by kernel_rfl) (fun _ _ _ h => h) (Or.inl ⟨by rfl, ?hy17_1⟩) (by assumption) ?_
            case hy17_1 => (intro W hSw; (try dsimp only at hSw); go_simp; (try with_reducible rfl))
            try simp only [Act.put, pA, pB, pC, pD, pE, pF]
            refine wpAnyH_take (i := 18) (v := undef) rfl (by kernel_rfl) (by kernel_rfl) (by kernel_rfl) (fun _ _ _ h => h) (Or.inr ⟨by rfl, rfl⟩) (by assumption) ?_
            try simp only [Act.put, pA, pB, pC, pD, pE, pF]
            refine wpAnyH_take (i := 19) (v := undef) rfl (by kernel_rfl) (by kernel_rfl) (by kernel_rfl) (fun _ _ _ h => h) (Or.inr ⟨by rfl, rfl⟩) (by assumption) ?_
            try simp only [Act.put, pA, pB, pC, pD, pE, pF]
            refine wpAnyH_take (i := 20) (v := undef) rfl (by kernel_rfl) (by kernel_rfl) (by kernel_rfl) (fun _ _ _ h => h) (Or.inr ⟨by rfl, rfl⟩) (by assumption) ?_
            try simp only [Act.put, pA, pB, pC, pD, pE, pF]
            refine wpAnyH_take (i := 21) (v := ?v21_1) rfl (by kernel_rfl) (by kernel_rfl) (by kernel_rfl) (fun _ _ _ h => h) (Or.inl ⟨by rfl, ?hy21_1⟩) (by assumption) ?_
            case hy21_1 => (intro W hSw; (try dsimp only at hSw); go_simp; (try with_reducible rfl))
            try simp only [Act.put, pA, pB, pC, pD, pE, pF]
            refine wpAnyH_take (i := 22) (v := ?v22_1) rfl (by kernel_rfl) (by kernel_rfl) (by kernel_rfl) (fun _ _ _ h => h) (Or.inl ⟨by rfl, ?hy22_1⟩) (by assumption) ?_
            case hy22_1 => (intro W hSw; (try dsimp only at hSw); go_simp; (try with_reducible rfl))
            try simp only [Act.put, pA, pB, pC, pD, pE, pF]
            refine wpAnyH_take (i := 23) (v := undef) rfl (by kernel_rfl) (by kernel_rfl) (by kernel_rfl) (fun _ _ _ h => h) (Or.inr ⟨by rfl, rfl⟩) (by assumption) ?_
            try simp only [Act.put, pA, pB, pC, pD, pE, pF]
            refine wpAnyH_take (i := 24) (v := undef) rfl (by kernel_rfl) (by kernel_rfl) (by kernel_rfl) (fun _ _ _ h => h) (Or.inr ⟨by rfl, rfl⟩) (by assumption) ?_
            try simp only [Act.put, pA, pB, pC, pD, pE, pF]
            refine wpAnyH_take (i := 25) (v := undef) rfl (by kernel_rfl) (by kernel_rfl) (by kernel_rfl) (fun _ _ _ h => h) (Or.inr ⟨by rfl, rfl⟩) (by assumption) ?_
            try simp only [Act.put, pA, pB, pC, pD, pE, pF]
            refine wpAnyH_take (i := 26) (v := undef) rfl (by kernel_rfl) (by kernel_rfl) (by kernel_rfl) (fun _ _ _ h => h) (Or.inr ⟨by rfl, rfl⟩) (by assumption) ?_
            try simp only [Act.put, pA, pB, pC, pD, pE, pF]
            refine wpAnyH_take (i := 27) (v := undef) rfl (by kernel_rfl) (by kernel_rfl) (by kernel_rfl) (fun _ _ _ h => h) (Or.inr ⟨by rfl, rfl⟩) (by assumption) ?_
            try simp only [Act.put, pA, pB, pC, pD, pE, pF]
            refine wpAnyH_take (i := 28) (v := undef) rfl (by kernel_rfl) (by kernel_rfl) (by kernel_rfl) (fun _ _ _ h => h) (Or.inr ⟨by rfl, rfl⟩) (by assumption) ?_
            try simp only [Act.put, pA, pB, pC, pD, pE, pF]
            refine wpAnyH_take (i := 29) (v := undef) rfl (by kernel_rfl) (by kernel_rfl) (by kernel_rfl) (fun _ _ _ h => h) (Or.inr ⟨by rfl, rfl⟩) (by assumption) ?_
            try simp only [Act.put, pA, pB, pC, pD, pE, pF]
            refine wpAnyH_take (i := 30) (v := undef) rfl (by kernel_rfl) (by kernel_rfl) (by kernel_rfl) (fun _ _ _ h => h) (Or.inr ⟨by rfl, rfl⟩) (by assumption) ?_
            try simp only [Act.put, pA, pB, pC, pD, pE, pF]
            refine wpAnyH_take (i := 31) (v := undef) rfl (by kernel_rfl) (by kernel_rfl) (by kernel_rfl) (fun _ _ _ h => h) (Or.inr ⟨by rfl, rfl⟩) (by assumption) ?_
            try simp only [Act.put, pA, pB, pC, pD, pE, pF]
            refine wpAnyH_take (i := 32) (v := undef) rfl (by kernel_rfl) (by kernel_rfl) (by kernel_rfl) (fun _ _ _ h => h) (Or.inr ⟨by rfl, rfl⟩) (by assumption) ?_
            try simp only [Act.put, pA, pB, pC, pD, pE, pF]
            refine wpAnyH_take (i := 33) (v := undef) rfl (by kernel_rfl) (by kernel_rfl) (by kernel_rfl) (fun _ _ _ h => h) (Or.inr ⟨by rfl, rfl⟩) (by assumption) ?_
            try simp only [Act.put, pA, pB, pC, pD, pE, pF]
            refine wpAnyH_take (i := 34) (v := undef) rfl (by kernel_rfl) (by kernel_rfl) (by kernel_rfl) (fun _ _ _ h => h) (Or.inr ⟨by rfl, rfl⟩) (by assumption) ?_
            try simp only [Act.put, pA, pB, pC, pD, pE, pF]
            refine wpAnyH_take (i := 35) (v := undef) rfl (by kernel_rfl) (by kernel_rfl) (by kernel_rfl) (fun _ _ _ h => h) (Or.inr ⟨by rfl, rfl⟩) (by assumption) ?_
            try simp only [Act.put, pA, pB, pC, pD, pE, pF]
            refine wpAnyH_take (i := 36) (v := undef) rfl (by kernel_rfl) (by kernel_rfl) (by kernel_rfl) (fun _ _ _ h => h) (Or.inr ⟨by rfl, rfl⟩) (by assumption) ?_
            try simp only [Act.put, pA, pB, pC, pD, pE, pF]
            refine wpAnyH_take (i := 37) (v := ?v37_1) rfl (by kernel_rfl) (by kernel_rfl) (by kernel_rfl) (fun _ _ _ h => h) (Or.inl ⟨by rfl, ?hy37_1⟩) (by assumption) ?_
            case hy37_1 => (intro W hSw; (try dsimp only at hSw); go_simp; (try with_reducible rfl))
            try simp only [Act.put, pA, pB, pC, pD, pE, pF]
            refine wpAnyH_done (by kernel_rfl) ?_ _
            have HZ : Hid (Below w.heap.size w _) := HB0.out.trans ((HWB.out.trans (hHeld.mono HWB.out.size)).mono HB0.out.size)
            go_wp2_with fail
            go_ret
            exact mayNo HNO.out HZ.out
          · have d3 : (x.k == 0) = false := by simpa using k2
            by_cases k3 : x.s < 1
            · have HNO : Hid (¬ MayG kT ns es) := no_node HX.out (fun h => by have := h.2.2.1; omega)
              refine wp_region_held_drew (S := fun W => Below wn.heap.size wn W) (by kernel_rfl) ?_ (fun hHeld => ?_)
              · exact (Below.refl _ _).drew
              refine wpAnyH_take (i := 0) (v := ?v0_2) rfl (by kernel_rfl) (by kernel_rfl) (by kernel_rfl) (fun _ _ _ h => h) (Or.inl ⟨by rfl, ?hy0_2⟩) (by assumption) ?_
              case hy0_2 => (intro W hSw; (try dsimp only at hSw); go_simp; (try with_reducible rfl))
              try simp only [Act.put, pA, pB, pD, pE, pF]
              refine wpAnyH_take (i := 1) (v := ?v1_2) rfl (by kernel_rfl) (by kernel_rfl) (by kernel_rfl) (fun _ _ _ h => h) (Or.inl ⟨by rfl, ?hy1_2⟩) (by assumption) ?_
              case hy1_2 => (intro W hSw; have p0 := (Below.cell hSw (p := ⟨xb, 0, none⟩) hxl).trans x0; (try dsimp only at hSw); go_simp; (try with_reducible rfl))
              try simp only [Act.put, pA, pB, pC, pD, pE, pF]
              refine wpAnyH_take (i := 4) (v := ?v4_2) rfl (by kernel_rfl) (by kernel_rfl) (by kernel_rfl) (fun _ _ _ h => h) (Or.inl ⟨by rfl, ?hy4_2⟩) (by assumption) ?_
              case hy4_2 => (intro W hSw; (try dsimp only at hSw); go_simp; (try with_reducible rfl))
              try simp only [Act.put, pA, pB, pC, pD, pE, pF]
              refine wpAnyH_take (i := 5) (v := ?v5_2) rfl (by kernel_rfl) (by kernel_rfl) (by kernel_rfl) (fun _ _ _ h => h) (Or.inl ⟨by rfl, ?hy5_2⟩) (by assumption) ?_
              case hy5_2 => (intro W hSw; have p1 := (Below.cell hSw (p := ⟨xb, 1, none⟩) hxl).trans x1; (try dsimp only at hSw); go_simp; (try with_reducible rfl))
              try simp only [Act.put, pA, pB, pC, pD, pE, pF]
              refine wpAnyH_ready (rs := [2]) (by kernel_rfl) (by simp) ?_
              refine AllReadyH.cons rfl (fun K hK => ?_) AllReadyH.nil
              go_simp
              refine (Nm.Of_any (str x.n) hsz _).mono ?_
              rintro e wq ⟨rfl, hbq⟩
              refine hK.out _ _ ?_ (fun hHeld2 => ?_)
              · exact more3 hHeld hHeld.size hbq
              clear hK K hHeld hbq
              have hHeld := hHeld2
              clear hHeld2
              try simp only [Act.put, pA, pB, pC, pD, pE, pF]
              refine wpAnyH_take (i := 3) (v := ?v3_2) rfl (by kernel_rfl) (by kernel_rfl) (by kernel_rfl) (fun _ _ _ h => h) (Or.inl ⟨by rfl, ?hy3_2⟩) (by assumption) ?_
              case hy3_2 => (intro W hSw; (try dsimp only at hSw); go_simp; (try with_reducible rfl))
              try simp only [Act.put, pA, pB, pC, pD, pE, pF]
              refine wpAnyH_take (i := 6) (v := ?v6_2) rfl (by kernel_rfl) (by kernel_rfl) (by kernel_rfl) (fun _ _ _ h => h) (Or.inl ⟨by rfl, ?hy6_2⟩) (by assumption) ?_
              case hy6_2 => (intro W hSw; (try dsimp only at hSw); go_simp; (try with_reducible rfl))
              try simp only [Act.put, pA, pB, pC, pD, pE, pF]
              refine wpAnyH_take (i := 7) (v := ?v7_2) rfl (by kernel_rfl) (by kernel_rfl) (by kernel_rfl) (fun _ _ _ h => h) (Or.inl ⟨by rfl, ?hy7_2⟩) (by assumption) ?_
              case hy7_2 => (intro W hSw; (try dsimp only at hSw); go_simp; (try with_reducible rfl))
              try simp only [Act.put, pA, pB, pC, pD, pE, pF]
              refine wpAnyH_take (i := 8) (v := ?v8_2) rfl (by kernel_rfl) (by kernel_rfl) (by kernel_rfl) (fun _ _ _ h => h) (Or.inl ⟨by rfl, ?hy8_2⟩) (by assumption) ?_
              case hy8_2 => (intro W hSw; (try dsimp only at hSw); go_simp; (try with_reducible rfl))
              try simp only [Act.put, pA, pB, pC, pD, pE, pF]
              refine wpAnyH_take (i := 9) (v := ?v9_2) rfl (by kernel_rfl) (by kernel_rfl) (by kernel_rfl) (fun _ _ _ h => h) (Or.inl ⟨by rfl, ?hy9_2⟩) (by assumption) ?_
              case hy9_2 => (intro W hSw; have p1 := (Below.cell hSw (p := ⟨xb, 1, none⟩) hxl).trans x1; (try dsimp only at hSw); go_simp; (try with_reducible rfl))
              try simp only [Act.put, pA, pB, pC, pD, pE, pF]
              refine wpAnyH_take (i := 10) (v := ?v10_2) rfl (by kernel_rfl) (by kernel_rfl) (by kernel_rfl) (fun _ _ _ h => h) (Or.inl ⟨by rfl, ?hy10_2⟩) (by assumption) ?_
              case hy10_2 => (intro W hSw; (try dsimp only at hSw); go_simp; (try with_reducible rfl))
              try simp only [Act.put, pA, pB, pC, pD, pE, pF]
              refine wpAnyH_take (i := 11) (v := ?v11_2) rfl (by kernel_rfl) (by kernel_rfl) (by kernel_rfl) (fun _ _ _ h => h) (Or.inl ⟨by rfl, ?hy11_2⟩) (by assumption) ?_
              case hy11_2 => (intro W hSw; (try dsimp only at hSw); go_simp; (try with_reducible rfl))
              try simp only [Act.put, pA, pB, pC, pD, pE, pF]
              refine wpAnyH_take (i := 12) (v := ?v12_2) rfl (by kernel_rfl) (by kernel_rfl) (by kernel_rfl) (fun _ _ _ h => h) (Or.inl ⟨by rfl, ?hy12_2⟩) (by assumption) ?_
              case hy12_2 => (intro W hSw; (try dsimp only at hSw); go_simp; (try with_reducible rfl))
              try simp only [Act.put, pA, pB, pC, pD, pE, pF]
              refine wpAnyH_take (i := 13) (v := ?v13_2) rfl (by kernel_rfl) (by kernel_rfl) (by kernel_rfl) (fun _ _ _ h => h) (Or.inl ⟨by rfl, ?hy13_2⟩) (by assumption) ?_
              case hy13_2 => (intro W hSw; (try dsimp only at hSw); go_simp; (try with_reducible rfl))
              try simp only [Act.put, pA, pB, pC, pD, pE, pF]
              refine wpAnyH_take (i := 14) (v := ?v14_2) rfl (by kernel_rfl) (by kernel_rfl) (by kernel_rfl) (fun _ _ _ h => h) (Or.inl ⟨by rfl, ?hy14_2⟩) (by assumption) ?_
              case hy14_2 => (intro W hSw; have p2 := (Below.cell hSw (p := ⟨xb, 2, none⟩) hxl).trans x2; (try dsimp only at hSw); go_simp; (try with_reducible rfl))
              try simp only [Act.put, pA, pB, pC, pD, pE, pF]
              refine wpAnyH_take (i := 15) (v := ?v15_2) rfl (by kernel_rfl) (by kernel_rfl) (by kernel_rfl) (fun _ _ _ h => h) (Or.inl ⟨by rfl, ?hy15_2⟩) (by assumption) ?_
              case hy15_2 => (intro W hSw; (try dsimp only at hSw); go_simp; (try with_reducible rfl))
              try simp only [Act.put, pA, pB, pC, pD, pE, pF]
              refine wpAnyH_take (i := 16) (v := ?v16_2) rfl (by kernel_rfl) (by kernel_rfl) (by kernel_rfl) (fun _ _ _ h => h) (Or.inl ⟨by rfl, ?hy16_2⟩) (by assumption) ?_
              case hy16_2 => (intro W hSw; (try dsimp only at hSw); go_simp; (try with_reducible rfl))
              try simp only [Act.put, pA, pB, pC, pD, pE, pF]
              refine wpAnyH_take (i := 17) (v := ?v17_2) rfl (by kernel_rfl) (by kernel_rfl) (by kernel_rfl) (fun _ _ _ h => h) (Or.inl ⟨by rfl, ?hy17_2⟩) (by assumption) ?_
              case hy17_2 => (intro W hSw; (try dsimp only at hSw); go_simp; (try with_reducible rfl))
              try simp only [Act.put, pA, pB, pC, pD, pE, pF]
              refine wpAnyH_take (i := 18) (v := undef) rfl (by kernel_rfl) (by kernel_rfl) (by kernel_rfl) (fun _ _ _ h => h) (Or.inr ⟨by rfl, rfl⟩) (by assumption) ?_
              try simp only [Act.put, pA, pB, pC, pD, pE, pF]
              refine wpAnyH_take (i := 19) (v := undef) rfl (by kernel_rfl) (by kernel_rfl) (by kernel_rfl) (fun _ _ _ h => h) (Or.inr ⟨by rfl, rfl⟩) (by assumption) ?_
              try simp only [Act.put, pA, pB, pC, pD, pE, pF]
              refine wpAnyH_take (i := 20) (v := undef) rfl (by kernel_rfl) (by kernel_rfl) (by kernel_rfl) (fun _ _ _ h => h) (Or.inr ⟨by rfl, rfl⟩) (by assumption) ?_
              try simp only [Act.put, pA, pB, pC, pD, pE, pF]
              refine wpAnyH_take (i := 21) (v := ?v21_2) rfl (by kernel_rfl) (by kernel_rfl) (by kernel_rfl) (fun _ _ _ h => h) (Or.inl ⟨by rfl, ?hy21_2⟩) (by assumption) ?_
              case hy21_2 => (intro W hSw; (try dsimp only at hSw); go_simp; (try with_reducible rfl))
              try simp only [Act.put, pA, pB, pC, pD, pE, pF]
              refine wpAnyH_take (i := 22) (v := ?v22_2) rfl (by kernel_rfl) (by kernel_rfl) (by kernel_rfl) (fun _ _ _ h => h) (Or.inl ⟨by rfl, ?hy22_2⟩) (by assumption) ?_
              case hy22_2 => (intro W hSw; (try dsimp only at hSw); go_simp; (try with_reducible rfl))
              try simp only [Act.put, pA, pB, pC, pD, pE, pF]
              refine wpAnyH_take (i := 23) (v := undef) rfl (by kernel_rfl) (by kernel_rfl) (by kernel_rfl) (fun _ _ _ h => h) (Or.inr ⟨by rfl, rfl⟩) (by assumption) ?_
              try simp only [Act.put, pA, pB, pC, pD, pE, pF]
              refine wpAnyH_take (i := 24) (v := undef) rfl (by kernel_rfl) (by kernel_rfl) (by kernel_rfl) (fun _ _ _ h => h) (Or.inr ⟨by rfl, rfl⟩) (by assumption) ?_
              try simp only [Act.put, pA, pB, pC, pD, pE, pF]
              refine wpAnyH_take (i := 25) (v := undef) rfl (by kernel_rfl) (by kernel_rfl) (by kernel_rfl) (fun _ _ _ h => h) (Or.inr ⟨by rfl, rfl⟩) (by assumption) ?_
              try simp only [Act.put, pA, pB, pC, pD, pE, pF]
              refine wpAnyH_take (i := 26) (v := undef) rfl (by kernel_rfl) (by kernel_rfl) (by kernel_rfl) (fun _ _ _ h => h) (Or.inr ⟨by rfl, rfl⟩) (by assumption) ?_
              try simp only [Act.put, pA, pB, pC, pD, pE, pF]
              refine wpAnyH_take (i := 27) (v := undef) rfl (by kernel_rfl) (by kernel_rfl) (by kernel_rfl) (fun _ _ _ h => h) (Or.inr ⟨by rfl, rfl⟩) (by assumption) ?_
              try simp only [Act.put, pA, pB, pC, pD, pE, pF]
              refine wpAnyH_take (i := 28) (v := undef) rfl (by kernel_rfl) (by kernel_rfl) (by kernel_rfl) (fun _ _ _ h => h) (Or.inr ⟨by rfl, rfl⟩) (by assumption) ?_
              try simp only [Act.put, pA, pB, pC, pD, pE, pF]
              refine wpAnyH_take (i := 29) (v := undef) rfl (by kernel_rfl) (by kernel_rfl) (by kernel_rfl) (fun _ _ _ h => h) (Or.inr ⟨by rfl, rfl⟩) (by assumption) ?_
              try simp only [Act.put, pA, pB, pC, pD, pE, pF]
              refine wpAnyH_take (i := 30) (v := undef) rfl (by kernel_rfl) (by kernel_rfl) (by kernel_rfl) (fun _ _ _ h => h) (Or.inr ⟨by rfl, rfl⟩) (by assumption) ?_
              try simp only [Act.put, pA, pB, pC, pD, pE, pF]
              refine wpAnyH_take (i := 31) (v := undef) rfl (by kernel_rfl) (by kernel_rfl) (by kernel_rfl) (fun _ _ _ h => h) (Or.inr ⟨by rfl, rfl⟩) (by assumption) ?_
              try simp only [Act.put, pA, pB, pC, pD, pE, pF]
              refine wpAnyH_take (i := 32) (v := undef) rfl (by kernel_rfl) (by kernel_rfl) (by kernel_rfl) (fun _ _ _ h => h) (Or.inr ⟨by rfl, rfl⟩) (by assumption) ?_
              try simp only [Act.put, pA, pB, pC, pD, pE, pF]
              refine wpAnyH_take (i := 33) (v := undef) rfl (by kernel_rfl) (by kernel_rfl) (by kernel_rfl) (fun _ _ _ h => h) (Or.inr ⟨by rfl, rfl⟩) (by assumption) ?_
              try simp only [Act.put, pA, pB, pC, pD, pE, pF]
              refine wpAnyH_take (i := 34) (v := undef) rfl (by kernel_rfl) (by kernel_rfl) (by kernel_rfl) (fun _ _ _ h => h) (Or.inr ⟨by rfl, rfl⟩) (by assumption) ?_
              try simp only [Act.put, pA, pB, pC, pD, pE, pF]
              refine wpAnyH_take (i := 35) (v := undef) rfl (by kernel_rfl) (by kernel_rfl) (by kernel_rfl) (fun _ _ _ h => h) (Or.inr ⟨by rfl, rfl⟩) (by assumption) ?_
              try simp only [Act.put, pA, pB, pC, pD, pE, pF]
              refine wpAnyH_take (i := 36) (v := undef) rfl (by kernel_rfl) (by kernel_rfl) (by kernel_rfl) (fun _ _ _ h => h) (Or.inr ⟨by rfl, rfl⟩) (by assumption) ?_
              try simp only [Act.put, pA, pB, pC, pD, pE, pF]
              refine wpAnyH_take (i := 37) (v := ?v37_2) rfl (by kernel_rfl) (by kernel_rfl) (by kernel_rfl) (fun _ _ _ h => h) (Or.inl ⟨by rfl, ?hy37_2⟩) (by assumption) ?_
              case hy37_2 => (intro W hSw; (try dsimp only at hSw); go_simp; (try with_reducible rfl))
              try simp only [Act.put, pA, pB, pC, pD, pE, pF]
              refine wpAnyH_done (by kernel_rfl) ?_ _
              have HZ : Hid (Below w.heap.size w _) := HB0.out.trans ((HWB.out.trans (hHeld.mono HWB.out.size)).mono HB0.out.size)
              go_wp2_with fail
              go_ret
              exact mayNo HNO.out HZ.out
            · have k3' : 1 ≤ x.s := by omega
              by_cases k4 : 4 < x.s
              · have HNO : Hid (¬ MayG kT ns es) := no_node HX.out (fun h => by have := h.2.2.2; omega)
                refine wp_region_held_drew (S := fun W => Below wn.heap.size wn W) (by kernel_rfl) ?_ (fun hHeld => ?_)
                · exact (Below.refl _ _).drew
                refine wpAnyH_take (i := 0) (v := ?v0_3) rfl (by kernel_rfl) (by kernel_rfl) (by kernel_rfl) (fun _ _ _ h => h) (Or.inl ⟨by rfl, ?hy0_3⟩) (by assumption) ?_
                case hy0_3 => (intro W hSw; (try dsimp only at hSw); go_simp; (try with_reducible rfl))
                try simp only [Act.put, pA, pB, pD, pE, pF]
                refine wpAnyH_take (i := 1) (v := ?v1_3) rfl (by kernel_rfl) (by kernel_rfl) (by kernel_rfl) (fun _ _ _ h => h) (Or.inl ⟨by rfl, ?hy1_3⟩) (by assumption) ?_
                case hy1_3 => (intro W hSw; have p0 := (Below.cell hSw (p := ⟨xb, 0, none⟩) hxl).trans x0; (try dsimp only at hSw); go_simp; (try with_reducible rfl))
                try simp only [Act.put, pA, pB, pC, pD, pE, pF]
                refine wpAnyH_take (i := 4) (v := ?v4_3) rfl (by kernel_rfl) (by kernel_rfl) (by kernel_rfl) (fun _ _ _ h => h) (Or.inl ⟨by rfl, ?hy4_3⟩) (by assumption) ?_
                case hy4_3 => (intro W hSw; (try dsimp only at hSw); go_simp; (try with_reducible rfl))
                try simp only [Act.put, pA, pB, pC, pD, pE, pF]
                refine wpAnyH_take (i := 5) (v := ?v5_3) rfl (by kernel_rfl) (by kernel_rfl) (by kernel_rfl) (fun _ _ _ h => h) (Or.inl ⟨by rfl, ?hy5_3⟩) (by assumption) ?_
                case hy5_3 => (intro W hSw; have p1 := (Below.cell hSw (p := ⟨xb, 1, none⟩) hxl).trans x1; (try dsimp only at hSw); go_simp; (try with_reducible rfl))
                try simp only [Act.put, pA, pB, pC, pD, pE, pF]
                refine wpAnyH_ready (rs := [2]) (by kernel_rfl) (by simp) ?_
                refine AllReadyH.cons rfl (fun K hK => ?_) AllReadyH.nil
                go_simp
                refine (Nm.Of_any (str x.n) hsz _).mono ?_
                rintro e wq ⟨rfl, hbq⟩
                refine hK.out _ _ ?_ (fun hHeld2 => ?_)
                · exact more3 hHeld hHeld.size hbq
                clear hK K hHeld hbq
                have hHeld := hHeld2
                clear hHeld2
                try simp only [Act.put, pA, pB, pC, pD, pE, pF]
                refine wpAnyH_take (i := 3) (v := ?v3_3) rfl (by kernel_rfl) (by kernel_rfl) (by kernel_rfl) (fun _ _ _ h => h) (Or.inl ⟨by rfl, ?hy3_3⟩) (by assumption) ?_
                case hy3_3 => (intro W hSw; (try dsimp only at hSw); go_simp; (try with_reducible rfl))
                try simp only [Act.put, pA, pB, pC, pD, pE, pF]
                refine wpAnyH_take (i := 6) (v := ?v6_3) rfl (by kernel_rfl) (by kernel_rfl) (by kernel_rfl) (fun _ _ _ h => h) (Or.inl ⟨by rfl, ?hy6_3⟩) (by assumption) ?_
                case hy6_3 => (intro W hSw; (try dsimp only at hSw); go_simp; (try with_reducible rfl))
                try simp only [Act.put, pA, pB, pC, pD, pE, pF]
                refine wpAnyH_take (i := 7) (v := ?v7_3) rfl (by kernel_rfl) (by kernel_rfl) (by kernel_rfl) (fun _ _ _ h => h) (Or.inl ⟨by rfl, ?hy7_3⟩) (by assumption) ?_
                case hy7_3 => (intro W hSw; (try dsimp only at hSw); go_simp; (try with_reducible rfl))
                try simp only [Act.put, pA, pB, pC, pD, pE, pF]
                refine wpAnyH_take (i := 8) (v := ?v8_3) rfl (by kernel_rfl) (by kernel_rfl) (by kernel_rfl) (fun _ _ _ h => h) (Or.inl ⟨by rfl, ?hy8_3⟩) (by assumption) ?_
                case hy8_3 => (intro W hSw; (try dsimp only at hSw); go_simp; (try with_reducible rfl))
                try simp only [Act.put, pA, pB, pC, pD, pE, pF]
                refine wpAnyH_take (i := 9) (v := ?v9_3) rfl (by kernel_rfl) (by kernel_rfl) (by kernel_rfl) (fun _ _ _ h => h) (Or.inl ⟨by rfl, ?hy9_3⟩) (by assumption) ?_
                case hy9_3 => (intro W hSw; have p1 := (Below.cell hSw (p := ⟨xb, 1, none⟩) hxl).trans x1; (try dsimp only at hSw); go_simp; (try with_reducible rfl))
                try simp only [Act.put, pA, pB, pC, pD, pE, pF]
                refine wpAnyH_take (i := 10) (v := ?v10_3) rfl (by kernel_rfl) (by kernel_rfl) (by kernel_rfl) (fun _ _ _ h => h) (Or.inl ⟨by rfl, ?hy10_3⟩) (by assumption) ?_
                case hy10_3 => (intro W hSw; (try dsimp only at hSw); go_simp; (try with_reducible rfl))
                try simp only [Act.put, pA, pB, pC, pD, pE, pF]
                refine wpAnyH_take (i := 11) (v := ?v11_3) rfl (by kernel_rfl) (by kernel_rfl) (by kernel_rfl) (fun _ _ _ h => h) (Or.inl ⟨by rfl, ?hy11_3⟩) (by assumption) ?_
                case hy11_3 => (intro W hSw; (try dsimp only at hSw); go_simp; (try with_reducible rfl))
                try simp only [Act.put, pA, pB, pC, pD, pE, pF]
                refine wpAnyH_take (i := 12) (v := ?v12_3) rfl (by kernel_rfl) (by kernel_rfl) (by kernel_rfl) (fun _ _ _ h => h) (Or.inl ⟨by rfl, ?hy12_3⟩) (by assumption) ?_
                case hy12_3 => (intro W hSw; (try dsimp only at hSw); go_simp; (try with_reducible rfl))
                try simp only [Act.put, pA, pB, pC, pD, pE, pF]
                refine wpAnyH_take (i := 13) (v := ?v13_3) rfl (by kernel_rfl) (by kernel_rfl) (by kernel_rfl) (fun _ _ _ h => h) (Or.inl ⟨by rfl, ?hy13_3⟩) (by assumption) ?_
                case hy13_3 => (intro W hSw; (try dsimp only at hSw); go_simp; (try with_reducible rfl))
                try simp only [Act.put, pA, pB, pC, pD, pE, pF]
                refine wpAnyH_take (i := 14) (v := ?v14_3) rfl (by kernel_rfl) (by kernel_rfl) (by kernel_rfl) (fun _ _ _ h => h) (Or.inl ⟨by rfl, ?hy14_3⟩) (by assumption) ?_
                case hy14_3 => (intro W hSw; have p2 := (Below.cell hSw (p := ⟨xb, 2, none⟩) hxl).trans x2; (try dsimp only at hSw); go_simp; (try with_reducible rfl))
                try simp only [Act.put, pA, pB, pC, pD, pE, pF]
                refine wpAnyH_take (i := 15) (v := ?v15_3) rfl (by kernel_rfl) (by kernel_rfl) (by kernel_rfl) (fun _ _ _ h => h) (Or.inl ⟨by rfl, ?hy15_3⟩) (by assumption) ?_
                case hy15_3 => (intro W hSw; (try dsimp only at hSw); go_simp; (try with_reducible rfl))
                try simp only [Act.put, pA, pB, pC, pD, pE, pF]
                refine wpAnyH_take (i := 16) (v := ?v16_3) rfl (by kernel_rfl) (by kernel_rfl) (by kernel_rfl) (fun _ _ _ h => h) (Or.inl ⟨by rfl, ?hy16_3⟩) (by assumption) ?_
                case hy16_3 => (intro W hSw; (try dsimp only at hSw); go_simp; (try with_reducible rfl))
                try simp only [Act.put, pA, pB, pC, pD, pE, pF]
                refine wpAnyH_take (i := 17) (v := ?v17_3) rfl (by kernel_rfl) (by kernel_rfl) (by kernel_rfl) (fun _ _ _ h => h) (Or.inl ⟨by rfl, ?hy17_3⟩) (by assumption) ?_
                case hy17_3 => (intro W hSw; (try dsimp only at hSw); go_simp; (try with_reducible rfl))
                try simp only [Act.put, pA, pB, pC, pD, pE, pF]
                refine wpAnyH_take (i := 18) (v := ?v18_3) rfl (by kernel_rfl) (by kernel_rfl) (by kernel_rfl) (fun _ _ _ h => h) (Or.inl ⟨by rfl, ?hy18_3⟩) (by assumption) ?_
                case hy18_3 => (intro W hSw; (try dsimp only at hSw); go_simp; (try with_reducible rfl))
                try simp only [Act.put, pA, pB, pC, pD, pE, pF]
                refine wpAnyH_take (i := 19) (v := ?v19_3) rfl (by kernel_rfl) (by kernel_rfl) (by kernel_rfl) (fun _ _ _ h => h) (Or.inl ⟨by rfl, ?hy19_3⟩) (by assumption) ?_
                case hy19_3 => (intro W hSw; have p2 := (Below.cell hSw (p := ⟨xb, 2, none⟩) hxl).trans x2; (try dsimp only at hSw); go_simp; (try with_reducible rfl))
                try simp only [Act.put, pA, pB, pC, pD, pE, pF]
                refine wpAnyH_take (i := 20) (v := ?v20_3) rfl (by kernel_rfl) (by kernel_rfl) (by kernel_rfl) (fun _ _ _ h => h) (Or.inl ⟨by rfl, ?hy20_3⟩) (by assumption) ?_
                case hy20_3 => (intro W hSw; (try dsimp only at hSw); go_simp; (try with_reducible rfl))
                try simp only [Act.put, pA, pB, pC, pD, pE, pF]
                refine wpAnyH_take (i := 21) (v := ?v21_3) rfl (by kernel_rfl) (by kernel_rfl) (by kernel_rfl) (fun _ _ _ h => h) (Or.inl ⟨by rfl, ?hy21_3⟩) (by assumption) ?_
                case hy21_3 => (intro W hSw; (try dsimp only at hSw); go_simp; (try with_reducible rfl))
                try simp only [Act.put, pA, pB, pC, pD, pE, pF]
                refine wpAnyH_take (i := 22) (v := ?v22_3) rfl (by kernel_rfl) (by kernel_rfl) (by kernel_rfl) (fun _ _ _ h => h) (Or.inl ⟨by rfl, ?hy22_3⟩) (by assumption) ?_
                case hy22_3 => (intro W hSw; (try dsimp only at hSw); go_simp; (try with_reducible rfl))
                try simp only [Act.put, pA, pB, pC, pD, pE, pF]
                refine wpAnyH_take (i := 23) (v := undef) rfl (by kernel_rfl) (by kernel_rfl) (by kernel_rfl) (fun _ _ _ h => h) (Or.inr ⟨by rfl, rfl⟩) (by assumption) ?_
                try simp only [Act.put, pA, pB, pC, pD, pE, pF]
                refine wpAnyH_take (i := 24) (v := undef) rfl (by kernel_rfl) (by kernel_rfl) (by kernel_rfl) (fun _ _ _ h => h) (Or.inr ⟨by rfl, rfl⟩) (by assumption) ?_
                try simp only [Act.put, pA, pB, pC, pD, pE, pF]
                refine wpAnyH_take (i := 25) (v := undef) rfl (by kernel_rfl) (by kernel_rfl) (by kernel_rfl) (fun _ _ _ h => h) (Or.inr ⟨by rfl, rfl⟩) (by assumption) ?_
                try simp only [Act.put, pA, pB, pC, pD, pE, pF]
                refine wpAnyH_take (i := 26) (v := undef) rfl (by kernel_rfl) (by kernel_rfl) (by kernel_rfl) (fun _ _ _ h => h) (Or.inr ⟨by rfl, rfl⟩) (by assumption) ?_
                try simp only [Act.put, pA, pB, pC, pD, pE, pF]
                refine wpAnyH_take (i := 27) (v := undef) rfl (by kernel_rfl) (by kernel_rfl) (by kernel_rfl) (fun _ _ _ h => h) (Or.inr ⟨by rfl, rfl⟩) (by assumption) ?_
                try simp only [Act.put, pA, pB, pC, pD, pE, pF]
                refine wpAnyH_take (i := 28) (v := undef) rfl (by kernel_rfl) (by kernel_rfl) (by kernel_rfl) (fun _ _ _ h => h) (Or.inr ⟨by rfl, rfl⟩) (by assumption) ?_
                try simp only [Act.put, pA, pB, pC, pD, pE, pF]
                refine wpAnyH_take (i := 29) (v := undef) rfl (by kernel_rfl) (by kernel_rfl) (by kernel_rfl) (fun _ _ _ h => h) (Or.inr ⟨by rfl, rfl⟩) (by assumption) ?_
                try simp only [Act.put, pA, pB, pC, pD, pE, pF]
                refine wpAnyH_take (i := 30) (v := undef) rfl (by kernel_rfl) (by kernel_rfl) (by kernel_rfl) (fun _ _ _ h => h) (Or.inr ⟨by rfl, rfl⟩) (by assumption) ?_
                try simp only [Act.put, pA, pB, pC, pD, pE, pF]
                refine wpAnyH_take (i := 31) (v := undef) rfl (by kernel_rfl) (by kernel_rfl) (by kernel_rfl) (fun _ _ _ h => h) (Or.inr ⟨by rfl, rfl⟩) (by assumption) ?_
                try simp only [Act.put, pA, pB, pC, pD, pE, pF]
                refine wpAnyH_take (i := 32) (v := undef) rfl (by kernel_rfl) (by kernel_rfl) (by kernel_rfl) (fun _ _ _ h => h) (Or.inr ⟨by rfl, rfl⟩) (by assumption) ?_
                try simp only [Act.put, pA, pB, pC, pD, pE, pF]
                refine wpAnyH_take (i := 33) (v := undef) rfl (by kernel_rfl) (by kernel_rfl) (by kernel_rfl) (fun _ _ _ h => h) (Or.inr ⟨by rfl, rfl⟩) (by assumption) ?_
                try simp only [Act.put, pA, pB, pC, pD, pE, pF]
                refine wpAnyH_take (i := 34) (v := undef) rfl (by kernel_rfl) (by kernel_rfl) (by kernel_rfl) (fun _ _ _ h => h) (Or.inr ⟨by rfl, rfl⟩) (by assumption) ?_
                try simp only [Act.put, pA, pB, pC, pD, pE, pF]
                refine wpAnyH_take (i := 35) (v := undef) rfl (by kernel_rfl) (by kernel_rfl) (by kernel_rfl) (fun _ _ _ h => h) (Or.inr ⟨by rfl, rfl⟩) (by assumption) ?_
                try simp only [Act.put, pA, pB, pC, pD, pE, pF]
                refine wpAnyH_take (i := 36) (v := undef) rfl (by kernel_rfl) (by kernel_rfl) (by kernel_rfl) (fun _ _ _ h => h) (Or.inr ⟨by rfl, rfl⟩) (by assumption) ?_
                try simp only [Act.put, pA, pB, pC, pD, pE, pF]
                refine wpAnyH_take (i := 37) (v := ?v37_3) rfl (by kernel_rfl) (by kernel_rfl) (by kernel_rfl) (fun _ _ _ h => h) (Or.inl ⟨by rfl, ?hy37_3⟩) (by assumption) ?_
                case hy37_3 => (intro W hSw; (try dsimp only at hSw); go_simp; (try with_reducible rfl))
                try simp only [Act.put, pA, pB, pC, pD, pE, pF]
                refine wpAnyH_done (by kernel_rfl) ?_ _
                have HZ : Hid (Below w.heap.size w _) := HB0.out.trans ((HWB.out.trans (hHeld.mono HWB.out.size)).mono HB0.out.size)
                go_wp2_with fail
                go_ret
                exact mayNo HNO.out HZ.out
              · have k4' : x.s ≤ 4 := by omega
                have HGD : Hid (goodN kT x) := ⟨K1.out, k2, k3', k4'⟩
                by_cases k5 : 0 < k
                · have k5' : (0 : Int) < (k : Int) := by omega
                  obtain ⟨ad', y, hA, hab', hy, z0, z1, z2⟩ := nds_at HNn.out (by omega : k - 1 < ns.length)
                  injection hA with hA
                  subst hA
                  have hpb : (ad.add ((k - 1) * 3)).block < wn.heap.size := by rw [addA_block]; omega
                  have k6 : (k : Int) - 1 = ((k - 1 : Nat) : Int) := by omega
                  have k7 : IntKind.i64.wrap ((k - 1 : Nat) : Int) = ((k - 1 : Nat) : Int) := IntWalk.i64_in _ (by omega)
                  have k8 : ((k - 1 : Nat) : Int) < (ns.length : Int) := by omega
                  have k9 : (0 : Int) ≤ ((k - 1 : Nat) : Int) := by omega
                  have hgq := geqT y.n x.n
                  have HY := Lib.hid hy
                  clear hy z1 z2
                  by_cases k10 : y.n < x.n
                  · rw [decide_eq_true k10] at hgq
                    refine wp_region_held_drew (S := fun W => Below wn.heap.size wn W) (by kernel_rfl) ?_ (fun hHeld => ?_)
                    · exact (Below.refl _ _).drew
                    refine wpAnyH_take (i := 0) (v := ?v0_4) rfl (by kernel_rfl) (by kernel_rfl) (by kernel_rfl) (fun _ _ _ h => h) (Or.inl ⟨by rfl, ?hy0_4⟩) (by assumption) ?_
                    case hy0_4 => (intro W hSw; (try dsimp only at hSw); go_simp; (try with_reducible rfl))
                    try simp only [Act.put, pA, pB, pD, pE, pF]
                    refine wpAnyH_take (i := 1) (v := ?v1_4) rfl (by kernel_rfl) (by kernel_rfl) (by kernel_rfl) (fun _ _ _ h => h) (Or.inl ⟨by rfl, ?hy1_4⟩) (by assumption) ?_
                    case hy1_4 => (intro W hSw; have p0 := (Below.cell hSw (p := ⟨xb, 0, none⟩) hxl).trans x0; (try dsimp only at hSw); go_simp; (try with_reducible rfl))
                    try simp only [Act.put, pA, pB, pC, pD, pE, pF]
                    refine wpAnyH_take (i := 4) (v := ?v4_4) rfl (by kernel_rfl) (by kernel_rfl) (by kernel_rfl) (fun _ _ _ h => h) (Or.inl ⟨by rfl, ?hy4_4⟩) (by assumption) ?_
                    case hy4_4 => (intro W hSw; (try dsimp only at hSw); go_simp; (try with_reducible rfl))
                    try simp only [Act.put, pA, pB, pC, pD, pE, pF]
                    refine wpAnyH_take (i := 5) (v := ?v5_4) rfl (by kernel_rfl) (by kernel_rfl) (by kernel_rfl) (fun _ _ _ h => h) (Or.inl ⟨by rfl, ?hy5_4⟩) (by assumption) ?_
                    case hy5_4 => (intro W hSw; have p1 := (Below.cell hSw (p := ⟨xb, 1, none⟩) hxl).trans x1; (try dsimp only at hSw); go_simp; (try with_reducible rfl))
                    try simp only [Act.put, pA, pB, pC, pD, pE, pF]
                    refine wpAnyH_ready (rs := [2]) (by kernel_rfl) (by simp) ?_
                    refine AllReadyH.cons rfl (fun K hK => ?_) AllReadyH.nil
                    go_simp
                    refine (Nm.Of_any (str x.n) hsz _).mono ?_
                    rintro e wq ⟨rfl, hbq⟩
                    refine hK.out _ _ ?_ (fun hHeld2 => ?_)
                    · exact more3 hHeld hHeld.size hbq
                    clear hK K hHeld hbq
                    have hHeld := hHeld2
                    clear hHeld2
                    try simp only [Act.put, pA, pB, pC, pD, pE, pF]
                    refine wpAnyH_take (i := 3) (v := ?v3_4) rfl (by kernel_rfl) (by kernel_rfl) (by kernel_rfl) (fun _ _ _ h => h) (Or.inl ⟨by rfl, ?hy3_4⟩) (by assumption) ?_
                    case hy3_4 => (intro W hSw; (try dsimp only at hSw); go_simp; (try with_reducible rfl))
                    try simp only [Act.put, pA, pB, pC, pD, pE, pF]
                    refine wpAnyH_take (i := 6) (v := ?v6_4) rfl (by kernel_rfl) (by kernel_rfl) (by kernel_rfl) (fun _ _ _ h => h) (Or.inl ⟨by rfl, ?hy6_4⟩) (by assumption) ?_
                    case hy6_4 => (intro W hSw; (try dsimp only at hSw); go_simp; (try with_reducible rfl))
                    try simp only [Act.put, pA, pB, pC, pD, pE, pF]
                    refine wpAnyH_take (i := 7) (v := ?v7_4) rfl (by kernel_rfl) (by kernel_rfl) (by kernel_rfl) (fun _ _ _ h => h) (Or.inl ⟨by rfl, ?hy7_4⟩) (by assumption) ?_
                    case hy7_4 => (intro W hSw; (try dsimp only at hSw); go_simp; (try with_reducible rfl))
                    try simp only [Act.put, pA, pB, pC, pD, pE, pF]
                    refine wpAnyH_take (i := 8) (v := ?v8_4) rfl (by kernel_rfl) (by kernel_rfl) (by kernel_rfl) (fun _ _ _ h => h) (Or.inl ⟨by rfl, ?hy8_4⟩) (by assumption) ?_
                    case hy8_4 => (intro W hSw; (try dsimp only at hSw); go_simp; (try with_reducible rfl))
                    try simp only [Act.put, pA, pB, pC, pD, pE, pF]
                    refine wpAnyH_take (i := 9) (v := ?v9_4) rfl (by kernel_rfl) (by kernel_rfl) (by kernel_rfl) (fun _ _ _ h => h) (Or.inl ⟨by rfl, ?hy9_4⟩) (by assumption) ?_
                    case hy9_4 => (intro W hSw; have p1 := (Below.cell hSw (p := ⟨xb, 1, none⟩) hxl).trans x1; (try dsimp only at hSw); go_simp; (try with_reducible rfl))
                    try simp only [Act.put, pA, pB, pC, pD, pE, pF]
                    refine wpAnyH_take (i := 10) (v := ?v10_4) rfl (by kernel_rfl) (by kernel_rfl) (by kernel_rfl) (fun _ _ _ h => h) (Or.inl ⟨by rfl, ?hy10_4⟩) (by assumption) ?_
                    case hy10_4 => (intro W hSw; (try dsimp only at hSw); go_simp; (try with_reducible rfl))
                    try simp only [Act.put, pA, pB, pC, pD, pE, pF]
                    refine wpAnyH_take (i := 11) (v := ?v11_4) rfl (by kernel_rfl) (by kernel_rfl) (by kernel_rfl) (fun _ _ _ h => h) (Or.inl ⟨by rfl, ?hy11_4⟩) (by assumption) ?_
                    case hy11_4 => (intro W hSw; (try dsimp only at hSw); go_simp; (try with_reducible rfl))
                    try simp only [Act.put, pA, pB, pC, pD, pE, pF]
                    refine wpAnyH_take (i := 12) (v := ?v12_4) rfl (by kernel_rfl) (by kernel_rfl) (by kernel_rfl) (fun _ _ _ h => h) (Or.inl ⟨by rfl, ?hy12_4⟩) (by assumption) ?_
                    case hy12_4 => (intro W hSw; (try dsimp only at hSw); go_simp; (try with_reducible rfl))
                    try simp only [Act.put, pA, pB, pC, pD, pE, pF]
                    refine wpAnyH_take (i := 13) (v := ?v13_4) rfl (by kernel_rfl) (by kernel_rfl) (by kernel_rfl) (fun _ _ _ h => h) (Or.inl ⟨by rfl, ?hy13_4⟩) (by assumption) ?_
                    case hy13_4 => (intro W hSw; (try dsimp only at hSw); go_simp; (try with_reducible rfl))
                    try simp only [Act.put, pA, pB, pC, pD, pE, pF]
                    refine wpAnyH_take (i := 14) (v := ?v14_4) rfl (by kernel_rfl) (by kernel_rfl) (by kernel_rfl) (fun _ _ _ h => h) (Or.inl ⟨by rfl, ?hy14_4⟩) (by assumption) ?_
                    case hy14_4 => (intro W hSw; have p2 := (Below.cell hSw (p := ⟨xb, 2, none⟩) hxl).trans x2; (try dsimp only at hSw); go_simp; (try with_reducible rfl))
                    try simp only [Act.put, pA, pB, pC, pD, pE, pF]
                    refine wpAnyH_take (i := 15) (v := ?v15_4) rfl (by kernel_rfl) (by kernel_rfl) (by kernel_rfl) (fun _ _ _ h => h) (Or.inl ⟨by rfl, ?hy15_4⟩) (by assumption) ?_
                    case hy15_4 => (intro W hSw; (try dsimp only at hSw); go_simp; (try with_reducible rfl))
                    try simp only [Act.put, pA, pB, pC, pD, pE, pF]
                    refine wpAnyH_take (i := 16) (v := ?v16_4) rfl (by kernel_rfl) (by kernel_rfl) (by kernel_rfl) (fun _ _ _ h => h) (Or.inl ⟨by rfl, ?hy16_4⟩) (by assumption) ?_
                    case hy16_4 => (intro W hSw; (try dsimp only at hSw); go_simp; (try with_reducible rfl))
                    try simp only [Act.put, pA, pB, pC, pD, pE, pF]
                    refine wpAnyH_take (i := 17) (v := ?v17_4) rfl (by kernel_rfl) (by kernel_rfl) (by kernel_rfl) (fun _ _ _ h => h) (Or.inl ⟨by rfl, ?hy17_4⟩) (by assumption) ?_
                    case hy17_4 => (intro W hSw; (try dsimp only at hSw); go_simp; (try with_reducible rfl))
                    try simp only [Act.put, pA, pB, pC, pD, pE, pF]
                    refine wpAnyH_take (i := 18) (v := ?v18_4) rfl (by kernel_rfl) (by kernel_rfl) (by kernel_rfl) (fun _ _ _ h => h) (Or.inl ⟨by rfl, ?hy18_4⟩) (by assumption) ?_
                    case hy18_4 => (intro W hSw; (try dsimp only at hSw); go_simp; (try with_reducible rfl))
                    try simp only [Act.put, pA, pB, pC, pD, pE, pF]
                    refine wpAnyH_take (i := 19) (v := ?v19_4) rfl (by kernel_rfl) (by kernel_rfl) (by kernel_rfl) (fun _ _ _ h => h) (Or.inl ⟨by rfl, ?hy19_4⟩) (by assumption) ?_
                    case hy19_4 => (intro W hSw; have p2 := (Below.cell hSw (p := ⟨xb, 2, none⟩) hxl).trans x2; (try dsimp only at hSw); go_simp; (try with_reducible rfl))
                    try simp only [Act.put, pA, pB, pC, pD, pE, pF]
                    refine wpAnyH_take (i := 20) (v := ?v20_4) rfl (by kernel_rfl) (by kernel_rfl) (by kernel_rfl) (fun _ _ _ h => h) (Or.inl ⟨by rfl, ?hy20_4⟩) (by assumption) ?_
                    case hy20_4 => (intro W hSw; (try dsimp only at hSw); go_simp; (try with_reducible rfl))
                    try simp only [Act.put, pA, pB, pC, pD, pE, pF]
                    refine wpAnyH_take (i := 21) (v := ?v21_4) rfl (by kernel_rfl) (by kernel_rfl) (by kernel_rfl) (fun _ _ _ h => h) (Or.inl ⟨by rfl, ?hy21_4⟩) (by assumption) ?_
                    case hy21_4 => (intro W hSw; (try dsimp only at hSw); go_simp; (try with_reducible rfl))
                    try simp only [Act.put, pA, pB, pC, pD, pE, pF]
                    refine wpAnyH_take (i := 22) (v := ?v22_4) rfl (by kernel_rfl) (by kernel_rfl) (by kernel_rfl) (fun _ _ _ h => h) (Or.inl ⟨by rfl, ?hy22_4⟩) (by assumption) ?_
                    case hy22_4 => (intro W hSw; (try dsimp only at hSw); go_simp; (try with_reducible rfl))
                    try simp only [Act.put, pA, pB, pC, pD, pE, pF]
                    refine wpAnyH_take (i := 23) (v := ?v23_4) rfl (by kernel_rfl) (by kernel_rfl) (by kernel_rfl) (fun _ _ _ h => h) (Or.inl ⟨by rfl, ?hy23_4⟩) (by assumption) ?_
                    case hy23_4 => (intro W hSw; (try dsimp only at hSw); go_simp; (try with_reducible rfl))
                    try simp only [Act.put, pA, pB, pC, pD, pE, pF]
                    refine wpAnyH_take (i := 24) (v := ?v24_4) rfl (by kernel_rfl) (by kernel_rfl) (by kernel_rfl) (fun _ _ _ h => h) (Or.inl ⟨by rfl, ?hy24_4⟩) (by assumption) ?_
                    case hy24_4 => (intro W hSw; (try dsimp only at hSw); go_simp; (try with_reducible rfl))
                    try simp only [Act.put, pA, pB, pC, pD, pE, pF]
                    refine wpAnyH_take (i := 25) (v := ?v25_4) rfl (by kernel_rfl) (by kernel_rfl) (by kernel_rfl) (fun _ _ _ h => h) (Or.inl ⟨by rfl, ?hy25_4⟩) (by assumption) ?_
                    case hy25_4 => (intro W hSw; (try dsimp only at hSw); go_simp; (try with_reducible rfl))
                    try simp only [Act.put, pA, pB, pC, pD, pE, pF]
                    refine wpAnyH_take (i := 26) (v := ?v26_4) rfl (by kernel_rfl) (by kernel_rfl) (by kernel_rfl) (fun _ _ _ h => h) (Or.inl ⟨by rfl, ?hy26_4⟩) (by assumption) ?_
                    case hy26_4 => (intro W hSw; (try dsimp only at hSw); go_simp; (try with_reducible rfl))
                    try simp only [Act.put, pA, pB, pC, pD, pE, pF]
                    refine wpAnyH_take (i := 27) (v := ?v27_4) rfl (by kernel_rfl) (by kernel_rfl) (by kernel_rfl) (fun _ _ _ h => h) (Or.inl ⟨by rfl, ?hy27_4⟩) (by assumption) ?_
                    case hy27_4 => (intro W hSw; have p0 := (Below.cell hSw (p := ⟨b, 0, none⟩) hbn).trans y0; (try dsimp only at hSw); go_simp; (try with_reducible rfl))
                    try simp only [Act.put, pA, pB, pC, pD, pE, pF]
                    refine wpAnyH_take (i := 28) (v := ?v28_4) rfl (by kernel_rfl) (by kernel_rfl) (by kernel_rfl) (fun _ _ _ h => h) (Or.inl ⟨by rfl, ?hy28_4⟩) (by assumption) ?_
                    case hy28_4 => (intro W hSw; (try dsimp only at hSw); go_simp; (try with_reducible rfl))
                    try simp only [Act.put, pA, pB, pC, pD, pE, pF]
                    refine wpAnyH_take (i := 29) (v := ?v29_4) rfl (by kernel_rfl) (by kernel_rfl) (by kernel_rfl) (fun _ _ _ h => h) (Or.inl ⟨by rfl, ?hy29_4⟩) (by assumption) ?_
                    case hy29_4 => (intro W hSw; (try dsimp only at hSw); go_simp; (try with_reducible rfl))
                    try simp only [Act.put, pA, pB, pC, pD, pE, pF]
                    refine wpAnyH_take (i := 30) (v := ?v30_4) rfl (by kernel_rfl) (by kernel_rfl) (by kernel_rfl) (fun _ _ _ h => h) (Or.inl ⟨by rfl, ?hy30_4⟩) (by assumption) ?_
                    case hy30_4 => (intro W hSw; (try dsimp only at hSw); go_simp; (try with_reducible rfl))
                    try simp only [Act.put, pA, pB, pC, pD, pE, pF]
                    refine wpAnyH_take (i := 31) (v := ?v31_4) rfl (by kernel_rfl) (by kernel_rfl) (by kernel_rfl) (fun _ _ _ h => h) (Or.inl ⟨by rfl, ?hy31_4⟩) (by assumption) ?_
                    case hy31_4 => (intro W hSw; (try dsimp only at hSw); go_simp; (try with_reducible rfl))
                    try simp only [Act.put, pA, pB, pC, pD, pE, pF]
                    refine wpAnyH_take (i := 32) (v := ?v32_4) rfl (by kernel_rfl) (by kernel_rfl) (by kernel_rfl) (fun _ _ _ h => h) (Or.inl ⟨by rfl, ?hy32_4⟩) (by assumption) ?_
                    case hy32_4 => (intro W hSw; have p0 := (Below.cell hSw hpb).trans z0; (try dsimp only at hSw); go_simp; (try with_reducible rfl))
                    try simp only [Act.put, pA, pB, pC, pD, pE, pF]
                    refine wpAnyH_take (i := 33) (v := ?v33_4) rfl (by kernel_rfl) (by kernel_rfl) (by kernel_rfl) (fun _ _ _ h => h) (Or.inl ⟨by rfl, ?hy33_4⟩) (by assumption) ?_
                    case hy33_4 => (intro W hSw; (try dsimp only at hSw); go_simp; (try with_reducible rfl))
                    try simp only [Act.put, pA, pB, pC, pD, pE, pF]
                    refine wpAnyH_take (i := 34) (v := ?v34_4) rfl (by kernel_rfl) (by kernel_rfl) (by kernel_rfl) (fun _ _ _ h => h) (Or.inl ⟨by rfl, ?hy34_4⟩) (by assumption) ?_
                    case hy34_4 => (intro W hSw; have p0 := (Below.cell hSw (p := ⟨xb, 0, none⟩) hxl).trans x0; (try dsimp only at hSw); go_simp; (try with_reducible rfl))
                    try simp only [Act.put, pA, pB, pC, pD, pE, pF]
                    refine wpAnyH_take (i := 35) (v := ?v35_4) rfl (by kernel_rfl) (by kernel_rfl) (by kernel_rfl) (fun _ _ _ h => h) (Or.inl ⟨by rfl, ?hy35_4⟩) (by assumption) ?_
                    case hy35_4 => (intro W hSw; (try dsimp only at hSw); go_simp; (try with_reducible rfl))
                    try simp only [Act.put, pA, pB, pC, pD, pE, pF]
                    refine wpAnyH_take (i := 36) (v := ?v36_4) rfl (by kernel_rfl) (by kernel_rfl) (by kernel_rfl) (fun _ _ _ h => h) (Or.inl ⟨by rfl, ?hy36_4⟩) (by assumption) ?_
                    case hy36_4 => (intro W hSw; (try dsimp only at hSw); go_simp; (try with_reducible rfl))
                    try simp only [Act.put, pA, pB, pC, pD, pE, pF]
                    refine wpAnyH_take (i := 37) (v := ?v37_4) rfl (by kernel_rfl) (by kernel_rfl) (by kernel_rfl) (fun _ _ _ h => h) (Or.inl ⟨by rfl, ?hy37_4⟩) (by assumption) ?_
                    case hy37_4 => (intro W hSw; (try dsimp only at hSw); go_simp; (try with_reducible rfl))
                    try simp only [Act.put, pA, pB, pC, pD, pE, pF]
                    refine wpAnyH_done (by kernel_rfl) ?_ _
                    have HZ : Hid (Below w0.heap.size w0 _) := HWB.out.trans (hHeld.mono HWB.out.size)
                    have HUP : Hid (NdUp ns (k + 1)) := hU.out.snoc HX.out HGD.out (fun y' _ hy' => by rw [HY.out] at hy'; injection hy' with hy'; subst hy'; exact k10)
                    clear hHeld
                    go_wp2_with fail
                    go_roundw
                    case rel => exact ⟨k + 1, by omega, by go_num, HUP, HZ⟩
                    case measure => simp [intOf]; omega
                  · rw [decide_eq_false k10] at hgq
                    have HNO : Hid (¬ MayG kT ns es) := no_rise k5 HX.out HY.out k10
                    refine wp_region_held_drew (S := fun W => Below wn.heap.size wn W) (by kernel_rfl) ?_ (fun hHeld => ?_)
                    · exact (Below.refl _ _).drew
                    refine wpAnyH_take (i := 0) (v := ?v0_5) rfl (by kernel_rfl) (by kernel_rfl) (by kernel_rfl) (fun _ _ _ h => h) (Or.inl ⟨by rfl, ?hy0_5⟩) (by assumption) ?_
                    case hy0_5 => (intro W hSw; (try dsimp only at hSw); go_simp; (try with_reducible rfl))
                    try simp only [Act.put, pA, pB, pD, pE, pF]
                    refine wpAnyH_take (i := 1) (v := ?v1_5) rfl (by kernel_rfl) (by kernel_rfl) (by kernel_rfl) (fun _ _ _ h => h) (Or.inl ⟨by rfl, ?hy1_5⟩) (by assumption) ?_
                    case hy1_5 => (intro W hSw; have p0 := (Below.cell hSw (p := ⟨xb, 0, none⟩) hxl).trans x0; (try dsimp only at hSw); go_simp; (try with_reducible rfl))
                    try simp only [Act.put, pA, pB, pC, pD, pE, pF]
                    refine wpAnyH_take (i := 4) (v := ?v4_5) rfl (by kernel_rfl) (by kernel_rfl) (by kernel_rfl) (fun _ _ _ h => h) (Or.inl ⟨by rfl, ?hy4_5⟩) (by assumption) ?_
                    case hy4_5 => (intro W hSw; (try dsimp only at hSw); go_simp; (try with_reducible rfl))
                    try simp only [Act.put, pA, pB, pC, pD, pE, pF]
                    refine wpAnyH_take (i := 5) (v := ?v5_5) rfl (by kernel_rfl) (by kernel_rfl) (by kernel_rfl) (fun _ _ _ h => h) (Or.inl ⟨by rfl, ?hy5_5⟩) (by assumption) ?_
                    case hy5_5 => (intro W hSw; have p1 := (Below.cell hSw (p := ⟨xb, 1, none⟩) hxl).trans x1; (try dsimp only at hSw); go_simp; (try with_reducible rfl))
                    try simp only [Act.put, pA, pB, pC, pD, pE, pF]
                    refine wpAnyH_ready (rs := [2]) (by kernel_rfl) (by simp) ?_
                    refine AllReadyH.cons rfl (fun K hK => ?_) AllReadyH.nil
                    go_simp
                    refine (Nm.Of_any (str x.n) hsz _).mono ?_
                    rintro e wq ⟨rfl, hbq⟩
                    refine hK.out _ _ ?_ (fun hHeld2 => ?_)
                    · exact more3 hHeld hHeld.size hbq
                    clear hK K hHeld hbq
                    have hHeld := hHeld2
                    clear hHeld2
                    try simp only [Act.put, pA, pB, pC, pD, pE, pF]
                    refine wpAnyH_take (i := 3) (v := ?v3_5) rfl (by kernel_rfl) (by kernel_rfl) (by kernel_rfl) (fun _ _ _ h => h) (Or.inl ⟨by rfl, ?hy3_5⟩) (by assumption) ?_
                    case hy3_5 => (intro W hSw; (try dsimp only at hSw); go_simp; (try with_reducible rfl))
                    try simp only [Act.put, pA, pB, pC, pD, pE, pF]
                    refine wpAnyH_take (i := 6) (v := ?v6_5) rfl (by kernel_rfl) (by kernel_rfl) (by kernel_rfl) (fun _ _ _ h => h) (Or.inl ⟨by rfl, ?hy6_5⟩) (by assumption) ?_
                    case hy6_5 => (intro W hSw; (try dsimp only at hSw); go_simp; (try with_reducible rfl))
                    try simp only [Act.put, pA, pB, pC, pD, pE, pF]
                    refine wpAnyH_take (i := 7) (v := ?v7_5) rfl (by kernel_rfl) (by kernel_rfl) (by kernel_rfl) (fun _ _ _ h => h) (Or.inl ⟨by rfl, ?hy7_5⟩) (by assumption) ?_
                    case hy7_5 => (intro W hSw; (try dsimp only at hSw); go_simp; (try with_reducible rfl))
                    try simp only [Act.put, pA, pB, pC, pD, pE, pF]
                    refine wpAnyH_take (i := 8) (v := ?v8_5) rfl (by kernel_rfl) (by kernel_rfl) (by kernel_rfl) (fun _ _ _ h => h) (Or.inl ⟨by rfl, ?hy8_5⟩) (by assumption) ?_
                    case hy8_5 => (intro W hSw; (try dsimp only at hSw); go_simp; (try with_reducible rfl))
                    try simp only [Act.put, pA, pB, pC, pD, pE, pF]
                    refine wpAnyH_take (i := 9) (v := ?v9_5) rfl (by kernel_rfl) (by kernel_rfl) (by kernel_rfl) (fun _ _ _ h => h) (Or.inl ⟨by rfl, ?hy9_5⟩) (by assumption) ?_
                    case hy9_5 => (intro W hSw; have p1 := (Below.cell hSw (p := ⟨xb, 1, none⟩) hxl).trans x1; (try dsimp only at hSw); go_simp; (try with_reducible rfl))
                    try simp only [Act.put, pA, pB, pC, pD, pE, pF]
                    refine wpAnyH_take (i := 10) (v := ?v10_5) rfl (by kernel_rfl) (by kernel_rfl) (by kernel_rfl) (fun _ _ _ h => h) (Or.inl ⟨by rfl, ?hy10_5⟩) (by assumption) ?_
                    case hy10_5 => (intro W hSw; (try dsimp only at hSw); go_simp; (try with_reducible rfl))
                    try simp only [Act.put, pA, pB, pC, pD, pE, pF]
                    refine wpAnyH_take (i := 11) (v := ?v11_5) rfl (by kernel_rfl) (by kernel_rfl) (by kernel_rfl) (fun _ _ _ h => h) (Or.inl ⟨by rfl, ?hy11_5⟩) (by assumption) ?_
                    case hy11_5 => (intro W hSw; (try dsimp only at hSw); go_simp; (try with_reducible rfl))
                    try simp only [Act.put, pA, pB, pC, pD, pE, pF]
                    refine wpAnyH_take (i := 12) (v := ?v12_5) rfl (by kernel_rfl) (by kernel_rfl) (by kernel_rfl) (fun _ _ _ h => h) (Or.inl ⟨by rfl, ?hy12_5⟩) (by assumption) ?_
                    case hy12_5 => (intro W hSw; (try dsimp only at hSw); go_simp; (try with_reducible rfl))
                    try simp only [Act.put, pA, pB, pC, pD, pE, pF]
                    refine wpAnyH_take (i := 13) (v := ?v13_5) rfl (by kernel_rfl) (by kernel_rfl) (by kernel_rfl) (fun _ _ _ h => h) (Or.inl ⟨by rfl, ?hy13_5⟩) (by assumption) ?_
                    case hy13_5 => (intro W hSw; (try dsimp only at hSw); go_simp; (try with_reducible rfl))
                    try simp only [Act.put, pA, pB, pC, pD, pE, pF]
                    refine wpAnyH_take (i := 14) (v := ?v14_5) rfl (by kernel_rfl) (by kernel_rfl) (by kernel_rfl) (fun _ _ _ h => h) (Or.inl ⟨by rfl, ?hy14_5⟩) (by assumption) ?_
                    case hy14_5 => (intro W hSw; have p2 := (Below.cell hSw (p := ⟨xb, 2, none⟩) hxl).trans x2; (try dsimp only at hSw); go_simp; (try with_reducible rfl))
                    try simp only [Act.put, pA, pB, pC, pD, pE, pF]
                    refine wpAnyH_take (i := 15) (v := ?v15_5) rfl (by kernel_rfl) (by kernel_rfl) (by kernel_rfl) (fun _ _ _ h => h) (Or.inl ⟨by rfl, ?hy15_5⟩) (by assumption) ?_
                    case hy15_5 => (intro W hSw; (try dsimp only at hSw); go_simp; (try with_reducible rfl))
                    try simp only [Act.put, pA, pB, pC, pD, pE, pF]
                    refine wpAnyH_take (i := 16) (v := ?v16_5) rfl (by kernel_rfl) (by kernel_rfl) (by kernel_rfl) (fun _ _ _ h => h) (Or.inl ⟨by rfl, ?hy16_5⟩) (by assumption) ?_
                    case hy16_5 => (intro W hSw; (try dsimp only at hSw); go_simp; (try with_reducible rfl))
                    try simp only [Act.put, pA, pB, pC, pD, pE, pF]
                    refine wpAnyH_take (i := 17) (v := ?v17_5) rfl (by kernel_rfl) (by kernel_rfl) (by kernel_rfl) (fun _ _ _ h => h) (Or.inl ⟨by rfl, ?hy17_5⟩) (by assumption) ?_
                    case hy17_5 => (intro W hSw; (try dsimp only at hSw); go_simp; (try with_reducible rfl))
                    try simp only [Act.put, pA, pB, pC, pD, pE, pF]
                    refine wpAnyH_take (i := 18) (v := ?v18_5) rfl (by kernel_rfl) (by kernel_rfl) (by kernel_rfl) (fun _ _ _ h => h) (Or.inl ⟨by rfl, ?hy18_5⟩) (by assumption) ?_
                    case hy18_5 => (intro W hSw; (try dsimp only at hSw); go_simp; (try with_reducible rfl))
                    try simp only [Act.put, pA, pB, pC, pD, pE, pF]
                    refine wpAnyH_take (i := 19) (v := ?v19_5) rfl (by kernel_rfl) (by kernel_rfl) (by kernel_rfl) (fun _ _ _ h => h) (Or.inl ⟨by rfl, ?hy19_5⟩) (by assumption) ?_
                    case hy19_5 => (intro W hSw; have p2 := (Below.cell hSw (p := ⟨xb, 2, none⟩) hxl).trans x2; (try dsimp only at hSw); go_simp; (try with_reducible rfl))
                    try simp only [Act.put, pA, pB, pC, pD, pE, pF]
                    refine wpAnyH_take (i := 20) (v := ?v20_5) rfl (by kernel_rfl) (by kernel_rfl) (by kernel_rfl) (fun _ _ _ h => h) (Or.inl ⟨by rfl, ?hy20_5⟩) (by assumption) ?_
                    case hy20_5 => (intro W hSw; (try dsimp only at hSw); go_simp; (try with_reducible rfl))
                    try simp only [Act.put, pA, pB, pC, pD, pE, pF]
                    refine wpAnyH_take (i := 21) (v := ?v21_5) rfl (by kernel_rfl) (by kernel_rfl) (by kernel_rfl) (fun _ _ _ h => h) (Or.inl ⟨by rfl, ?hy21_5⟩) (by assumption) ?_
                    case hy21_5 => (intro W hSw; (try dsimp only at hSw); go_simp; (try with_reducible rfl))
                    try simp only [Act.put, pA, pB, pC, pD, pE, pF]
                    refine wpAnyH_take (i := 22) (v := ?v22_5) rfl (by kernel_rfl) (by kernel_rfl) (by kernel_rfl) (fun _ _ _ h => h) (Or.inl ⟨by rfl, ?hy22_5⟩) (by assumption) ?_
                    case hy22_5 => (intro W hSw; (try dsimp only at hSw); go_simp; (try with_reducible rfl))
                    try simp only [Act.put, pA, pB, pC, pD, pE, pF]
                    refine wpAnyH_take (i := 23) (v := ?v23_5) rfl (by kernel_rfl) (by kernel_rfl) (by kernel_rfl) (fun _ _ _ h => h) (Or.inl ⟨by rfl, ?hy23_5⟩) (by assumption) ?_
                    case hy23_5 => (intro W hSw; (try dsimp only at hSw); go_simp; (try with_reducible rfl))
                    try simp only [Act.put, pA, pB, pC, pD, pE, pF]
                    refine wpAnyH_take (i := 24) (v := ?v24_5) rfl (by kernel_rfl) (by kernel_rfl) (by kernel_rfl) (fun _ _ _ h => h) (Or.inl ⟨by rfl, ?hy24_5⟩) (by assumption) ?_
                    case hy24_5 => (intro W hSw; (try dsimp only at hSw); go_simp; (try with_reducible rfl))
                    try simp only [Act.put, pA, pB, pC, pD, pE, pF]
                    refine wpAnyH_take (i := 25) (v := ?v25_5) rfl (by kernel_rfl) (by kernel_rfl) (by kernel_rfl) (fun _ _ _ h => h) (Or.inl ⟨by rfl, ?hy25_5⟩) (by assumption) ?_
                    case hy25_5 => (intro W hSw; (try dsimp only at hSw); go_simp; (try with_reducible rfl))
                    try simp only [Act.put, pA, pB, pC, pD, pE, pF]
                    refine wpAnyH_take (i := 26) (v := ?v26_5) rfl (by kernel_rfl) (by kernel_rfl) (by kernel_rfl) (fun _ _ _ h => h) (Or.inl ⟨by rfl, ?hy26_5⟩) (by assumption) ?_
                    case hy26_5 => (intro W hSw; (try dsimp only at hSw); go_simp; (try with_reducible rfl))
                    try simp only [Act.put, pA, pB, pC, pD, pE, pF]
                    refine wpAnyH_take (i := 27) (v := ?v27_5) rfl (by kernel_rfl) (by kernel_rfl) (by kernel_rfl) (fun _ _ _ h => h) (Or.inl ⟨by rfl, ?hy27_5⟩) (by assumption) ?_
                    case hy27_5 => (intro W hSw; have p0 := (Below.cell hSw (p := ⟨b, 0, none⟩) hbn).trans y0; (try dsimp only at hSw); go_simp; (try with_reducible rfl))
                    try simp only [Act.put, pA, pB, pC, pD, pE, pF]
                    refine wpAnyH_take (i := 28) (v := ?v28_5) rfl (by kernel_rfl) (by kernel_rfl) (by kernel_rfl) (fun _ _ _ h => h) (Or.inl ⟨by rfl, ?hy28_5⟩) (by assumption) ?_
                    case hy28_5 => (intro W hSw; (try dsimp only at hSw); go_simp; (try with_reducible rfl))
                    try simp only [Act.put, pA, pB, pC, pD, pE, pF]
                    refine wpAnyH_take (i := 29) (v := ?v29_5) rfl (by kernel_rfl) (by kernel_rfl) (by kernel_rfl) (fun _ _ _ h => h) (Or.inl ⟨by rfl, ?hy29_5⟩) (by assumption) ?_
                    case hy29_5 => (intro W hSw; (try dsimp only at hSw); go_simp; (try with_reducible rfl))
                    try simp only [Act.put, pA, pB, pC, pD, pE, pF]
                    refine wpAnyH_take (i := 30) (v := ?v30_5) rfl (by kernel_rfl) (by kernel_rfl) (by kernel_rfl) (fun _ _ _ h => h) (Or.inl ⟨by rfl, ?hy30_5⟩) (by assumption) ?_
                    case hy30_5 => (intro W hSw; (try dsimp only at hSw); go_simp; (try with_reducible rfl))
                    try simp only [Act.put, pA, pB, pC, pD, pE, pF]
                    refine wpAnyH_take (i := 31) (v := ?v31_5) rfl (by kernel_rfl) (by kernel_rfl) (by kernel_rfl) (fun _ _ _ h => h) (Or.inl ⟨by rfl, ?hy31_5⟩) (by assumption) ?_
                    case hy31_5 => (intro W hSw; (try dsimp only at hSw); go_simp; (try with_reducible rfl))
                    try simp only [Act.put, pA, pB, pC, pD, pE, pF]
                    refine wpAnyH_take (i := 32) (v := ?v32_5) rfl (by kernel_rfl) (by kernel_rfl) (by kernel_rfl) (fun _ _ _ h => h) (Or.inl ⟨by rfl, ?hy32_5⟩) (by assumption) ?_
                    case hy32_5 => (intro W hSw; have p0 := (Below.cell hSw hpb).trans z0; (try dsimp only at hSw); go_simp; (try with_reducible rfl))
                    try simp only [Act.put, pA, pB, pC, pD, pE, pF]
                    refine wpAnyH_take (i := 33) (v := ?v33_5) rfl (by kernel_rfl) (by kernel_rfl) (by kernel_rfl) (fun _ _ _ h => h) (Or.inl ⟨by rfl, ?hy33_5⟩) (by assumption) ?_
                    case hy33_5 => (intro W hSw; (try dsimp only at hSw); go_simp; (try with_reducible rfl))
                    try simp only [Act.put, pA, pB, pC, pD, pE, pF]
                    refine wpAnyH_take (i := 34) (v := ?v34_5) rfl (by kernel_rfl) (by kernel_rfl) (by kernel_rfl) (fun _ _ _ h => h) (Or.inl ⟨by rfl, ?hy34_5⟩) (by assumption) ?_
                    case hy34_5 => (intro W hSw; have p0 := (Below.cell hSw (p := ⟨xb, 0, none⟩) hxl).trans x0; (try dsimp only at hSw); go_simp; (try with_reducible rfl))
                    try simp only [Act.put, pA, pB, pC, pD, pE, pF]
                    refine wpAnyH_take (i := 35) (v := ?v35_5) rfl (by kernel_rfl) (by kernel_rfl) (by kernel_rfl) (fun _ _ _ h => h) (Or.inl ⟨by rfl, ?hy35_5⟩) (by assumption) ?_
                    case hy35_5 => (intro W hSw; (try dsimp only at hSw); go_simp; (try with_reducible rfl))
                    try simp only [Act.put, pA, pB, pC, pD, pE, pF]
                    refine wpAnyH_take (i := 36) (v := ?v36_5) rfl (by kernel_rfl) (by kernel_rfl) (by kernel_rfl) (fun _ _ _ h => h) (Or.inl ⟨by rfl, ?hy36_5⟩) (by assumption) ?_
                    case hy36_5 => (intro W hSw; (try dsimp only at hSw); go_simp; (try with_reducible rfl))
                    try simp only [Act.put, pA, pB, pC, pD, pE, pF]
                    refine wpAnyH_take (i := 37) (v := ?v37_5) rfl (by kernel_rfl) (by kernel_rfl) (by kernel_rfl) (fun _ _ _ h => h) (Or.inl ⟨by rfl, ?hy37_5⟩) (by assumption) ?_
                    case hy37_5 => (intro W hSw; (try dsimp only at hSw); go_simp; (try with_reducible rfl))
                    try simp only [Act.put, pA, pB, pC, pD, pE, pF]
                    refine wpAnyH_done (by kernel_rfl) ?_ _
                    have HZ : Hid (Below w.heap.size w _) := HB0.out.trans ((HWB.out.trans (hHeld.mono HWB.out.size)).mono HB0.out.size)
                    go_wp2_with fail
                    go_ret
                    exact mayNo HNO.out HZ.out
                · have k6 : (k : Int) ≤ 0 := by omega
                  refine wp_region_held_drew (S := fun W => Below wn.heap.size wn W) (by kernel_rfl) ?_ (fun hHeld => ?_)
                  · exact (Below.refl _ _).drew
                  refine wpAnyH_take (i := 0) (v := ?v0_6) rfl (by kernel_rfl) (by kernel_rfl) (by kernel_rfl) (fun _ _ _ h => h) (Or.inl ⟨by rfl, ?hy0_6⟩) (by assumption) ?_
                  case hy0_6 => (intro W hSw; (try dsimp only at hSw); go_simp; (try with_reducible rfl))
                  try simp only [Act.put, pA, pB, pD, pE, pF]
                  refine wpAnyH_take (i := 1) (v := ?v1_6) rfl (by kernel_rfl) (by kernel_rfl) (by kernel_rfl) (fun _ _ _ h => h) (Or.inl ⟨by rfl, ?hy1_6⟩) (by assumption) ?_
                  case hy1_6 => (intro W hSw; have p0 := (Below.cell hSw (p := ⟨xb, 0, none⟩) hxl).trans x0; (try dsimp only at hSw); go_simp; (try with_reducible rfl))
                  try simp only [Act.put, pA, pB, pC, pD, pE, pF]
                  refine wpAnyH_take (i := 4) (v := ?v4_6) rfl (by kernel_rfl) (by kernel_rfl) (by kernel_rfl) (fun _ _ _ h => h) (Or.inl ⟨by rfl, ?hy4_6⟩) (by assumption) ?_
                  case hy4_6 => (intro W hSw; (try dsimp only at hSw); go_simp; (try with_reducible rfl))
                  try simp only [Act.put, pA, pB, pC, pD, pE, pF]
                  refine wpAnyH_take (i := 5) (v := ?v5_6) rfl (by kernel_rfl) (by kernel_rfl) (by kernel_rfl) (fun _ _ _ h => h) (Or.inl ⟨by rfl, ?hy5_6⟩) (by assumption) ?_
                  case hy5_6 => (intro W hSw; have p1 := (Below.cell hSw (p := ⟨xb, 1, none⟩) hxl).trans x1; (try dsimp only at hSw); go_simp; (try with_reducible rfl))
                  try simp only [Act.put, pA, pB, pC, pD, pE, pF]
                  refine wpAnyH_ready (rs := [2]) (by kernel_rfl) (by simp) ?_
                  refine AllReadyH.cons rfl (fun K hK => ?_) AllReadyH.nil
                  go_simp
                  refine (Nm.Of_any (str x.n) hsz _).mono ?_
                  rintro e wq ⟨rfl, hbq⟩
                  refine hK.out _ _ ?_ (fun hHeld2 => ?_)
                  · exact more3 hHeld hHeld.size hbq
                  clear hK K hHeld hbq
                  have hHeld := hHeld2
                  clear hHeld2
                  try simp only [Act.put, pA, pB, pC, pD, pE, pF]
                  refine wpAnyH_take (i := 3) (v := ?v3_6) rfl (by kernel_rfl) (by kernel_rfl) (by kernel_rfl) (fun _ _ _ h => h) (Or.inl ⟨by rfl, ?hy3_6⟩) (by assumption) ?_
                  case hy3_6 => (intro W hSw; (try dsimp only at hSw); go_simp; (try with_reducible rfl))
                  try simp only [Act.put, pA, pB, pC, pD, pE, pF]
                  refine wpAnyH_take (i := 6) (v := ?v6_6) rfl (by kernel_rfl) (by kernel_rfl) (by kernel_rfl) (fun _ _ _ h => h) (Or.inl ⟨by rfl, ?hy6_6⟩) (by assumption) ?_
                  case hy6_6 => (intro W hSw; (try dsimp only at hSw); go_simp; (try with_reducible rfl))
                  try simp only [Act.put, pA, pB, pC, pD, pE, pF]
                  refine wpAnyH_take (i := 7) (v := ?v7_6) rfl (by kernel_rfl) (by kernel_rfl) (by kernel_rfl) (fun _ _ _ h => h) (Or.inl ⟨by rfl, ?hy7_6⟩) (by assumption) ?_
                  case hy7_6 => (intro W hSw; (try dsimp only at hSw); go_simp; (try with_reducible rfl))
                  try simp only [Act.put, pA, pB, pC, pD, pE, pF]
                  refine wpAnyH_take (i := 8) (v := ?v8_6) rfl (by kernel_rfl) (by kernel_rfl) (by kernel_rfl) (fun _ _ _ h => h) (Or.inl ⟨by rfl, ?hy8_6⟩) (by assumption) ?_
                  case hy8_6 => (intro W hSw; (try dsimp only at hSw); go_simp; (try with_reducible rfl))
                  try simp only [Act.put, pA, pB, pC, pD, pE, pF]
                  refine wpAnyH_take (i := 9) (v := ?v9_6) rfl (by kernel_rfl) (by kernel_rfl) (by kernel_rfl) (fun _ _ _ h => h) (Or.inl ⟨by rfl, ?hy9_6⟩) (by assumption) ?_
                  case hy9_6 => (intro W hSw; have p1 := (Below.cell hSw (p := ⟨xb, 1, none⟩) hxl).trans x1; (try dsimp only at hSw); go_simp; (try with_reducible rfl))
                  try simp only [Act.put, pA, pB, pC, pD, pE, pF]
                  refine wpAnyH_take (i := 10) (v := ?v10_6) rfl (by kernel_rfl) (by kernel_rfl) (by kernel_rfl) (fun _ _ _ h => h) (Or.inl ⟨by rfl, ?hy10_6⟩) (by assumption) ?_
                  case hy10_6 => (intro W hSw; (try dsimp only at hSw); go_simp; (try with_reducible rfl))
                  try simp only [Act.put, pA, pB, pC, pD, pE, pF]
                  refine wpAnyH_take (i := 11) (v := ?v11_6) rfl (by kernel_rfl) (by kernel_rfl) (by kernel_rfl) (fun _ _ _ h => h) (Or.inl ⟨by rfl, ?hy11_6⟩) (by assumption) ?_
                  case hy11_6 => (intro W hSw; (try dsimp only at hSw); go_simp; (try with_reducible rfl))
                  try simp only [Act.put, pA, pB, pC, pD, pE, pF]
                  refine wpAnyH_take (i := 12) (v := ?v12_6) rfl (by kernel_rfl) (by kernel_rfl) (by kernel_rfl) (fun _ _ _ h => h) (Or.inl ⟨by rfl, ?hy12_6⟩) (by assumption) ?_
                  case hy12_6 => (intro W hSw; (try dsimp only at hSw); go_simp; (try with_reducible rfl))
                  try simp only [Act.put, pA, pB, pC, pD, pE, pF]
                  refine wpAnyH_take (i := 13) (v := ?v13_6) rfl (by kernel_rfl) (by kernel_rfl) (by kernel_rfl) (fun _ _ _ h => h) (Or.inl ⟨by rfl, ?hy13_6⟩) (by assumption) ?_
                  case hy13_6 => (intro W hSw; (try dsimp only at hSw); go_simp; (try with_reducible rfl))
                  try simp only [Act.put, pA, pB, pC, pD, pE, pF]
                  refine wpAnyH_take (i := 14) (v := ?v14_6) rfl (by kernel_rfl) (by kernel_rfl) (by kernel_rfl) (fun _ _ _ h => h) (Or.inl ⟨by rfl, ?hy14_6⟩) (by assumption) ?_
                  case hy14_6 => (intro W hSw; have p2 := (Below.cell hSw (p := ⟨xb, 2, none⟩) hxl).trans x2; (try dsimp only at hSw); go_simp; (try with_reducible rfl))
                  try simp only [Act.put, pA, pB, pC, pD, pE, pF]
                  refine wpAnyH_take (i := 15) (v := ?v15_6) rfl (by kernel_rfl) (by kernel_rfl) (by kernel_rfl) (fun _ _ _ h => h) (Or.inl ⟨by rfl, ?hy15_6⟩) (by assumption) ?_
                  case hy15_6 => (intro W hSw; (try dsimp only at hSw); go_simp; (try with_reducible rfl))
                  try simp only [Act.put, pA, pB, pC, pD, pE, pF]
                  refine wpAnyH_take (i := 16) (v := ?v16_6) rfl (by kernel_rfl) (by kernel_rfl) (by kernel_rfl) (fun _ _ _ h => h) (Or.inl ⟨by rfl, ?hy16_6⟩) (by assumption) ?_
                  case hy16_6 => (intro W hSw; (try dsimp only at hSw); go_simp; (try with_reducible rfl))
                  try simp only [Act.put, pA, pB, pC, pD, pE, pF]
                  refine wpAnyH_take (i := 17) (v := ?v17_6) rfl (by kernel_rfl) (by kernel_rfl) (by kernel_rfl) (fun _ _ _ h => h) (Or.inl ⟨by rfl, ?hy17_6⟩) (by assumption) ?_
                  case hy17_6 => (intro W hSw; (try dsimp only at hSw); go_simp; (try with_reducible rfl))
                  try simp only [Act.put, pA, pB, pC, pD, pE, pF]
                  refine wpAnyH_take (i := 18) (v := ?v18_6) rfl (by kernel_rfl) (by kernel_rfl) (by kernel_rfl) (fun _ _ _ h => h) (Or.inl ⟨by rfl, ?hy18_6⟩) (by assumption) ?_
                  case hy18_6 => (intro W hSw; (try dsimp only at hSw); go_simp; (try with_reducible rfl))
                  try simp only [Act.put, pA, pB, pC, pD, pE, pF]
                  refine wpAnyH_take (i := 19) (v := ?v19_6) rfl (by kernel_rfl) (by kernel_rfl) (by kernel_rfl) (fun _ _ _ h => h) (Or.inl ⟨by rfl, ?hy19_6⟩) (by assumption) ?_
                  case hy19_6 => (intro W hSw; have p2 := (Below.cell hSw (p := ⟨xb, 2, none⟩) hxl).trans x2; (try dsimp only at hSw); go_simp; (try with_reducible rfl))
                  try simp only [Act.put, pA, pB, pC, pD, pE, pF]
                  refine wpAnyH_take (i := 20) (v := ?v20_6) rfl (by kernel_rfl) (by kernel_rfl) (by kernel_rfl) (fun _ _ _ h => h) (Or.inl ⟨by rfl, ?hy20_6⟩) (by assumption) ?_
                  case hy20_6 => (intro W hSw; (try dsimp only at hSw); go_simp; (try with_reducible rfl))
                  try simp only [Act.put, pA, pB, pC, pD, pE, pF]
                  refine wpAnyH_take (i := 21) (v := ?v21_6) rfl (by kernel_rfl) (by kernel_rfl) (by kernel_rfl) (fun _ _ _ h => h) (Or.inl ⟨by rfl, ?hy21_6⟩) (by assumption) ?_
                  case hy21_6 => (intro W hSw; (try dsimp only at hSw); go_simp; (try with_reducible rfl))
                  try simp only [Act.put, pA, pB, pC, pD, pE, pF]
                  refine wpAnyH_take (i := 22) (v := ?v22_6) rfl (by kernel_rfl) (by kernel_rfl) (by kernel_rfl) (fun _ _ _ h => h) (Or.inl ⟨by rfl, ?hy22_6⟩) (by assumption) ?_
                  case hy22_6 => (intro W hSw; (try dsimp only at hSw); go_simp; (try with_reducible rfl))
                  try simp only [Act.put, pA, pB, pC, pD, pE, pF]
                  refine wpAnyH_take (i := 23) (v := ?v23_6) rfl (by kernel_rfl) (by kernel_rfl) (by kernel_rfl) (fun _ _ _ h => h) (Or.inl ⟨by rfl, ?hy23_6⟩) (by assumption) ?_
                  case hy23_6 => (intro W hSw; (try dsimp only at hSw); go_simp; (try with_reducible rfl))
                  try simp only [Act.put, pA, pB, pC, pD, pE, pF]
                  refine wpAnyH_take (i := 24) (v := ?v24_6) rfl (by kernel_rfl) (by kernel_rfl) (by kernel_rfl) (fun _ _ _ h => h) (Or.inl ⟨by rfl, ?hy24_6⟩) (by assumption) ?_
                  case hy24_6 => (intro W hSw; (try dsimp only at hSw); go_simp; (try with_reducible rfl))
                  try simp only [Act.put, pA, pB, pC, pD, pE, pF]
                  refine wpAnyH_take (i := 25) (v := ?v25_6) rfl (by kernel_rfl) (by kernel_rfl) (by kernel_rfl) (fun _ _ _ h => h) (Or.inl ⟨by rfl, ?hy25_6⟩) (by assumption) ?_
                  case hy25_6 => (intro W hSw; (try dsimp only at hSw); go_simp; (try with_reducible rfl))
                  try simp only [Act.put, pA, pB, pC, pD, pE, pF]
                  refine wpAnyH_take (i := 26) (v := undef) rfl (by kernel_rfl) (by kernel_rfl) (by kernel_rfl) (fun _ _ _ h => h) (Or.inr ⟨by rfl, rfl⟩) (by assumption) ?_
                  try simp only [Act.put, pA, pB, pC, pD, pE, pF]
                  refine wpAnyH_take (i := 27) (v := undef) rfl (by kernel_rfl) (by kernel_rfl) (by kernel_rfl) (fun _ _ _ h => h) (Or.inr ⟨by rfl, rfl⟩) (by assumption) ?_
                  try simp only [Act.put, pA, pB, pC, pD, pE, pF]
                  refine wpAnyH_take (i := 28) (v := undef) rfl (by kernel_rfl) (by kernel_rfl) (by kernel_rfl) (fun _ _ _ h => h) (Or.inr ⟨by rfl, rfl⟩) (by assumption) ?_
                  try simp only [Act.put, pA, pB, pC, pD, pE, pF]
                  refine wpAnyH_take (i := 29) (v := undef) rfl (by kernel_rfl) (by kernel_rfl) (by kernel_rfl) (fun _ _ _ h => h) (Or.inr ⟨by rfl, rfl⟩) (by assumption) ?_
                  try simp only [Act.put, pA, pB, pC, pD, pE, pF]
                  refine wpAnyH_take (i := 30) (v := undef) rfl (by kernel_rfl) (by kernel_rfl) (by kernel_rfl) (fun _ _ _ h => h) (Or.inr ⟨by rfl, rfl⟩) (by assumption) ?_
                  try simp only [Act.put, pA, pB, pC, pD, pE, pF]
                  refine wpAnyH_take (i := 31) (v := undef) rfl (by kernel_rfl) (by kernel_rfl) (by kernel_rfl) (fun _ _ _ h => h) (Or.inr ⟨by rfl, rfl⟩) (by assumption) ?_
                  try simp only [Act.put, pA, pB, pC, pD, pE, pF]
                  refine wpAnyH_take (i := 32) (v := undef) rfl (by kernel_rfl) (by kernel_rfl) (by kernel_rfl) (fun _ _ _ h => h) (Or.inr ⟨by rfl, rfl⟩) (by assumption) ?_
                  try simp only [Act.put, pA, pB, pC, pD, pE, pF]
                  refine wpAnyH_take (i := 33) (v := undef) rfl (by kernel_rfl) (by kernel_rfl) (by kernel_rfl) (fun _ _ _ h => h) (Or.inr ⟨by rfl, rfl⟩) (by assumption) ?_
                  try simp only [Act.put, pA, pB, pC, pD, pE, pF]
                  refine wpAnyH_take (i := 34) (v := undef) rfl (by kernel_rfl) (by kernel_rfl) (by kernel_rfl) (fun _ _ _ h => h) (Or.inr ⟨by rfl, rfl⟩) (by assumption) ?_
                  try simp only [Act.put, pA, pB, pC, pD, pE, pF]
                  refine wpAnyH_take (i := 35) (v := undef) rfl (by kernel_rfl) (by kernel_rfl) (by kernel_rfl) (fun _ _ _ h => h) (Or.inr ⟨by rfl, rfl⟩) (by assumption) ?_
                  try simp only [Act.put, pA, pB, pC, pD, pE, pF]
                  refine wpAnyH_take (i := 36) (v := ?v36_6) rfl (by kernel_rfl) (by kernel_rfl) (by kernel_rfl) (fun _ _ _ h => h) (Or.inl ⟨by rfl, ?hy36_6⟩) (by assumption) ?_
                  case hy36_6 => (intro W hSw; (try dsimp only at hSw); go_simp; (try with_reducible rfl))
                  try simp only [Act.put, pA, pB, pC, pD, pE, pF]
                  refine wpAnyH_take (i := 37) (v := ?v37_6) rfl (by kernel_rfl) (by kernel_rfl) (by kernel_rfl) (fun _ _ _ h => h) (Or.inl ⟨by rfl, ?hy37_6⟩) (by assumption) ?_
                  case hy37_6 => (intro W hSw; (try dsimp only at hSw); go_simp; (try with_reducible rfl))
                  try simp only [Act.put, pA, pB, pC, pD, pE, pF]
                  refine wpAnyH_done (by kernel_rfl) ?_ _
                  have HZ : Hid (Below w0.heap.size w0 _) := HWB.out.trans (hHeld.mono HWB.out.size)
                  have HUP : Hid (NdUp ns (k + 1)) := hU.out.snoc HX.out HGD.out (fun y' h _ => by omega)
                  clear hHeld
                  go_wp2_with fail
                  go_roundw
                  case rel => exact ⟨k + 1, by omega, by go_num, HUP, HZ⟩
                  case measure => simp [intOf]; omega
        · have d2 : (Nm.kindP (str x.n) != x.k) = true := by simpa using k1
          have HNO : Hid (¬ MayG kT ns es) := no_node HX.out (fun h => k1 h.1)
          refine wp_region_held_drew (S := fun W => Below wn.heap.size wn W) (by kernel_rfl) ?_ (fun hHeld => ?_)
          · exact (Below.refl _ _).drew
          refine wpAnyH_take (i := 0) (v := ?v0_7) rfl (by kernel_rfl) (by kernel_rfl) (by kernel_rfl) (fun _ _ _ h => h) (Or.inl ⟨by rfl, ?hy0_7⟩) (by assumption) ?_
          case hy0_7 => (intro W hSw; (try dsimp only at hSw); go_simp; (try with_reducible rfl))
          try simp only [Act.put, pA, pB, pD, pE, pF]
          refine wpAnyH_take (i := 1) (v := ?v1_7) rfl (by kernel_rfl) (by kernel_rfl) (by kernel_rfl) (fun _ _ _ h => h) (Or.inl ⟨by rfl, ?hy1_7⟩) (by assumption) ?_
          case hy1_7 => (intro W hSw; have p0 := (Below.cell hSw (p := ⟨xb, 0, none⟩) hxl).trans x0; (try dsimp only at hSw); go_simp; (try with_reducible rfl))
          try simp only [Act.put, pA, pB, pC, pD, pE, pF]
          refine wpAnyH_take (i := 4) (v := ?v4_7) rfl (by kernel_rfl) (by kernel_rfl) (by kernel_rfl) (fun _ _ _ h => h) (Or.inl ⟨by rfl, ?hy4_7⟩) (by assumption) ?_
          case hy4_7 => (intro W hSw; (try dsimp only at hSw); go_simp; (try with_reducible rfl))
          try simp only [Act.put, pA, pB, pC, pD, pE, pF]
          refine wpAnyH_take (i := 5) (v := ?v5_7) rfl (by kernel_rfl) (by kernel_rfl) (by kernel_rfl) (fun _ _ _ h => h) (Or.inl ⟨by rfl, ?hy5_7⟩) (by assumption) ?_
          case hy5_7 => (intro W hSw; have p1 := (Below.cell hSw (p := ⟨xb, 1, none⟩) hxl).trans x1; (try dsimp only at hSw); go_simp; (try with_reducible rfl))
          try simp only [Act.put, pA, pB, pC, pD, pE, pF]
          refine wpAnyH_ready (rs := [2]) (by kernel_rfl) (by simp) ?_
          refine AllReadyH.cons rfl (fun K hK => ?_) AllReadyH.nil
          go_simp
          refine (Nm.Of_any (str x.n) hsz _).mono ?_
          rintro e wq ⟨rfl, hbq⟩
          refine hK.out _ _ ?_ (fun hHeld2 => ?_)
          · exact more3 hHeld hHeld.size hbq
          clear hK K hHeld hbq
          have hHeld := hHeld2
          clear hHeld2
          try simp only [Act.put, pA, pB, pC, pD, pE, pF]
          refine wpAnyH_take (i := 3) (v := ?v3_7) rfl (by kernel_rfl) (by kernel_rfl) (by kernel_rfl) (fun _ _ _ h => h) (Or.inl ⟨by rfl, ?hy3_7⟩) (by assumption) ?_
          case hy3_7 => (intro W hSw; (try dsimp only at hSw); go_simp; (try with_reducible rfl))
          try simp only [Act.put, pA, pB, pC, pD, pE, pF]
          refine wpAnyH_take (i := 6) (v := ?v6_7) rfl (by kernel_rfl) (by kernel_rfl) (by kernel_rfl) (fun _ _ _ h => h) (Or.inl ⟨by rfl, ?hy6_7⟩) (by assumption) ?_
          case hy6_7 => (intro W hSw; (try dsimp only at hSw); go_simp; (try with_reducible rfl))
          try simp only [Act.put, pA, pB, pC, pD, pE, pF]
          refine wpAnyH_take (i := 7) (v := ?v7_7) rfl (by kernel_rfl) (by kernel_rfl) (by kernel_rfl) (fun _ _ _ h => h) (Or.inl ⟨by rfl, ?hy7_7⟩) (by assumption) ?_
          case hy7_7 => (intro W hSw; (try dsimp only at hSw); go_simp; (try with_reducible rfl))
          try simp only [Act.put, pA, pB, pC, pD, pE, pF]
          refine wpAnyH_take (i := 8) (v := undef) rfl (by kernel_rfl) (by kernel_rfl) (by kernel_rfl) (fun _ _ _ h => h) (Or.inr ⟨by rfl, rfl⟩) (by assumption) ?_
          try simp only [Act.put, pA, pB, pC, pD, pE, pF]
          refine wpAnyH_take (i := 9) (v := undef) rfl (by kernel_rfl) (by kernel_rfl) (by kernel_rfl) (fun _ _ _ h => h) (Or.inr ⟨by rfl, rfl⟩) (by assumption) ?_
          try simp only [Act.put, pA, pB, pC, pD, pE, pF]
          refine wpAnyH_take (i := 10) (v := undef) rfl (by kernel_rfl) (by kernel_rfl) (by kernel_rfl) (fun _ _ _ h => h) (Or.inr ⟨by rfl, rfl⟩) (by assumption) ?_
          try simp only [Act.put, pA, pB, pC, pD, pE, pF]
          refine wpAnyH_take (i := 11) (v := ?v11_7) rfl (by kernel_rfl) (by kernel_rfl) (by kernel_rfl) (fun _ _ _ h => h) (Or.inl ⟨by rfl, ?hy11_7⟩) (by assumption) ?_
          case hy11_7 => (intro W hSw; (try dsimp only at hSw); go_simp; (try with_reducible rfl))
          try simp only [Act.put, pA, pB, pC, pD, pE, pF]
          refine wpAnyH_take (i := 12) (v := ?v12_7) rfl (by kernel_rfl) (by kernel_rfl) (by kernel_rfl) (fun _ _ _ h => h) (Or.inl ⟨by rfl, ?hy12_7⟩) (by assumption) ?_
          case hy12_7 => (intro W hSw; (try dsimp only at hSw); go_simp; (try with_reducible rfl))
          try simp only [Act.put, pA, pB, pC, pD, pE, pF]
          refine wpAnyH_take (i := 13) (v := undef) rfl (by kernel_rfl) (by kernel_rfl) (by kernel_rfl) (fun _ _ _ h => h) (Or.inr ⟨by rfl, rfl⟩) (by assumption) ?_
          try simp only [Act.put, pA, pB, pC, pD, pE, pF]
          refine wpAnyH_take (i := 14) (v := undef) rfl (by kernel_rfl) (by kernel_rfl) (by kernel_rfl) (fun _ _ _ h => h) (Or.inr ⟨by rfl, rfl⟩) (by assumption) ?_
          try simp only [Act.put, pA, pB, pC, pD, pE, pF]
          refine wpAnyH_take (i := 15) (v := undef) rfl (by kernel_rfl) (by kernel_rfl) (by kernel_rfl) (fun _ _ _ h => h) (Or.inr ⟨by rfl, rfl⟩) (by assumption) ?_
          try simp only [Act.put, pA, pB, pC, pD, pE, pF]
          refine wpAnyH_take (i := 16) (v := ?v16_7) rfl (by kernel_rfl) (by kernel_rfl) (by kernel_rfl) (fun _ _ _ h => h) (Or.inl ⟨by rfl, ?hy16_7⟩) (by assumption) ?_
          case hy16_7 => (intro W hSw; (try dsimp only at hSw); go_simp; (try with_reducible rfl))
          try simp only [Act.put, pA, pB, pC, pD, pE, pF]
          refine wpAnyH_take (i := 17) (v := ?v17_7) rfl (by kernel_rfl) (by kernel_rfl) (by kernel_rfl) (fun _ _ _ h => h) (Or.inl ⟨by rfl, ?hy17_7⟩) (by assumption) ?_
          case hy17_7 => (intro W hSw; (try dsimp only at hSw); go_simp; (try with_reducible rfl))
          try simp only [Act.put, pA, pB, pC, pD, pE, pF]
          refine wpAnyH_take (i := 18) (v := undef) rfl (by kernel_rfl) (by kernel_rfl) (by kernel_rfl) (fun _ _ _ h => h) (Or.inr ⟨by rfl, rfl⟩) (by assumption) ?_
          try simp only [Act.put, pA, pB, pC, pD, pE, pF]
          refine wpAnyH_take (i := 19) (v := undef) rfl (by kernel_rfl) (by kernel_rfl) (by kernel_rfl) (fun _ _ _ h => h) (Or.inr ⟨by rfl, rfl⟩) (by assumption) ?_
          try simp only [Act.put, pA, pB, pC, pD, pE, pF]
          refine wpAnyH_take (i := 20) (v := undef) rfl (by kernel_rfl) (by kernel_rfl) (by kernel_rfl) (fun _ _ _ h => h) (Or.inr ⟨by rfl, rfl⟩) (by assumption) ?_
          try simp only [Act.put, pA, pB, pC, pD, pE, pF]
          refine wpAnyH_take (i := 21) (v := ?v21_7) rfl (by kernel_rfl) (by kernel_rfl) (by kernel_rfl) (fun _ _ _ h => h) (Or.inl ⟨by rfl, ?hy21_7⟩) (by assumption) ?_
          case hy21_7 => (intro W hSw; (try dsimp only at hSw); go_simp; (try with_reducible rfl))
          try simp only [Act.put, pA, pB, pC, pD, pE, pF]
          refine wpAnyH_take (i := 22) (v := ?v22_7) rfl (by kernel_rfl) (by kernel_rfl) (by kernel_rfl) (fun _ _ _ h => h) (Or.inl ⟨by rfl, ?hy22_7⟩) (by assumption) ?_
          case hy22_7 => (intro W hSw; (try dsimp only at hSw); go_simp; (try with_reducible rfl))
          try simp only [Act.put, pA, pB, pC, pD, pE, pF]
          refine wpAnyH_take (i := 23) (v := undef) rfl (by kernel_rfl) (by kernel_rfl) (by kernel_rfl) (fun _ _ _ h => h) (Or.inr ⟨by rfl, rfl⟩) (by assumption) ?_
          try simp only [Act.put, pA, pB, pC, pD, pE, pF]
          refine wpAnyH_take (i := 24) (v := undef) rfl (by kernel_rfl) (by kernel_rfl) (by kernel_rfl) (fun _ _ _ h => h) (Or.inr ⟨by rfl, rfl⟩) (by assumption) ?_
          try simp only [Act.put, pA, pB, pC, pD, pE, pF]
          refine wpAnyH_take (i := 25) (v := undef) rfl (by kernel_rfl) (by kernel_rfl) (by kernel_rfl) (fun _ _ _ h => h) (Or.inr ⟨by rfl, rfl⟩) (by assumption) ?_
          try simp only [Act.put, pA, pB, pC, pD, pE, pF]
          refine wpAnyH_take (i := 26) (v := undef) rfl (by kernel_rfl) (by kernel_rfl) (by kernel_rfl) (fun _ _ _ h => h) (Or.inr ⟨by rfl, rfl⟩) (by assumption) ?_
          try simp only [Act.put, pA, pB, pC, pD, pE, pF]
          refine wpAnyH_take (i := 27) (v := undef) rfl (by kernel_rfl) (by kernel_rfl) (by kernel_rfl) (fun _ _ _ h => h) (Or.inr ⟨by rfl, rfl⟩) (by assumption) ?_
          try simp only [Act.put, pA, pB, pC, pD, pE, pF]
          refine wpAnyH_take (i := 28) (v := undef) rfl (by kernel_rfl) (by kernel_rfl) (by kernel_rfl) (fun _ _ _ h => h) (Or.inr ⟨by rfl, rfl⟩) (by assumption) ?_
          try simp only [Act.put, pA, pB, pC, pD, pE, pF]
          refine wpAnyH_take (i := 29) (v := undef) rfl (by kernel_rfl) (by kernel_rfl) (by kernel_rfl) (fun _ _ _ h => h) (Or.inr ⟨by rfl, rfl⟩) (by assumption) ?_
          try simp only [Act.put, pA, pB, pC, pD, pE, pF]
          refine wpAnyH_take (i := 30) (v := undef) rfl (by kernel_rfl) (by kernel_rfl) (by kernel_rfl) (fun _ _ _ h => h) (Or.inr ⟨by rfl, rfl⟩) (by assumption) ?_
          try simp only [Act.put, pA, pB, pC, pD, pE, pF]
          refine wpAnyH_take (i := 31) (v := undef) rfl (by kernel_rfl) (by kernel_rfl) (by kernel_rfl) (fun _ _ _ h => h) (Or.inr ⟨by rfl, rfl⟩) (by assumption) ?_
          try simp only [Act.put, pA, pB, pC, pD, pE, pF]
          refine wpAnyH_take (i := 32) (v := undef) rfl (by kernel_rfl) (by kernel_rfl) (by kernel_rfl) (fun _ _ _ h => h) (Or.inr ⟨by rfl, rfl⟩) (by assumption) ?_
          try simp only [Act.put, pA, pB, pC, pD, pE, pF]
          refine wpAnyH_take (i := 33) (v := undef) rfl (by kernel_rfl) (by kernel_rfl) (by kernel_rfl) (fun _ _ _ h => h) (Or.inr ⟨by rfl, rfl⟩) (by assumption) ?_
          try simp only [Act.put, pA, pB, pC, pD, pE, pF]
          refine wpAnyH_take (i := 34) (v := undef) rfl (by kernel_rfl) (by kernel_rfl) (by kernel_rfl) (fun _ _ _ h => h) (Or.inr ⟨by rfl, rfl⟩) (by assumption) ?_
          try simp only [Act.put, pA, pB, pC, pD, pE, pF]
          refine wpAnyH_take (i := 35) (v := undef) rfl (by kernel_rfl) (by kernel_rfl) (by kernel_rfl) (fun _ _ _ h => h) (Or.inr ⟨by rfl, rfl⟩) (by assumption) ?_
          try simp only [Act.put, pA, pB, pC, pD, pE, pF]
          refine wpAnyH_take (i := 36) (v := undef) rfl (by kernel_rfl) (by kernel_rfl) (by kernel_rfl) (fun _ _ _ h => h) (Or.inr ⟨by rfl, rfl⟩) (by assumption) ?_
          try simp only [Act.put, pA, pB, pC, pD, pE, pF]
          refine wpAnyH_take (i := 37) (v := ?v37_7) rfl (by kernel_rfl) (by kernel_rfl) (by kernel_rfl) (fun _ _ _ h => h) (Or.inl ⟨by rfl, ?hy37_7⟩) (by assumption) ?_
          case hy37_7 => (intro W hSw; (try dsimp only at hSw); go_simp; (try with_reducible rfl))
          try simp only [Act.put, pA, pB, pC, pD, pE, pF]
          refine wpAnyH_done (by kernel_rfl) ?_ _
          have HZ : Hid (Below w.heap.size w _) := HB0.out.trans ((HWB.out.trans (hHeld.mono HWB.out.size)).mono HB0.out.size)
          go_wp2_with fail
          go_ret
          exact mayNo HNO.out HZ.out
      · obtain rfl : k = ns.length := by omega
        have HUN := Lib.hid hU.out
        obtain ⟨wm, hren⟩ : ∃ wm, wm = wr := ⟨wr, rfl⟩
        subst hren
        have HWM := Lib.hid hW.out
        have e1 : wm.cell? ⟨b, 1, none⟩ = some (.slice EA es.length ec) := (Below.cell hW.out (p := ⟨b, 1, none⟩) hbl).trans E1.out
        have HV0 : Hid (EdUp ns es 0) := EdUp.zero ns es
        clear hU hW hlt
        go_wp2_with fail
        clear e1
        go_loopw [65] (fun i wr => ∃ k : Nat, k ≤ es.length ∧ i = .int .i64 k ∧ Hid (EdUp ns es k) ∧ Hid (Below w0.heap.size w0 wr)) (fun i wr => es.length - (intOf i).toNat)
        case atStart => exact ⟨0, Nat.zero_le _, rfl, HV0, HWM⟩
        case round =>
          clear HV0 HWM
          obtain ⟨k, hk, rfl, hU, hW⟩ := hrel
          by_cases hlt : k < es.length
          · have b0 : (0 : Int) ≤ (k : Int) := by omega
            have b1 : (k : Int) < (es.length : Int) := by omega
            have HEr := Lib.hid ((HEW.out.below (hW.out.mono (Nat.le_of_lt hbl))))
            obtain ⟨ad, x, rfl, hab, hx, q0, q1, q2⟩ := eds_at HEr.out hlt
            have HX := Lib.hid hx
            clear hx
            have hbx : Below w0.heap.size w0 (wr.alloc (.cells #[.string (str x.f), .string (str x.t), .int .i64 x.r] 58)) := hW.out.alloc hW.out.size _
            have g0 : (wr.alloc (.cells #[.string (str x.f), .string (str x.t), .int .i64 x.r] 58)).cell? ⟨b, 0, none⟩ = some (.slice NA ns.length nc) := (Below.cell hbx (p := ⟨b, 0, none⟩) hbl).trans E0.out
            have g1 : (wr.alloc (.cells #[.string (str x.f), .string (str x.t), .int .i64 x.r] 58)).cell? ⟨b, 1, none⟩ = some (.slice (some ad) es.length ec) := (Below.cell hbx (p := ⟨b, 1, none⟩) hbl).trans E1.out
            have HXB : Hid (Blk (wr.alloc (.cells #[.string (str x.f), .string (str x.t), .int .i64 x.r] 58)) wr.heap.size 58 #[.string (str x.f), .string (str x.t), .int .i64 x.r]) := Blk.new _ _ _
            have hcall := gNode_any _ ns es x.f b _ (HGR0.out.below (hbx.mono (Nat.le_of_lt hbl))) (Nat.le_trans (Nat.le_of_lt hbl) hbx.size)
            rw [nodeV_eq] at hcall
            have HBX := Lib.hid hbx
            clear hbx
            go_wp2_with fail
            refine hcall.mono ?_
            clear hcall
            rintro e w5 ⟨rfl, hb5⟩
            obtain ⟨a, ha⟩ : ∃ a, (nodeG ns x.f).getD noNd = a := ⟨_, rfl⟩
            rw [ha]
            have hb6 : Below w0.heap.size w0 (w5.alloc (.cells #[.string (str a.n), .int .i64 a.k, .int .i64 a.s] 32)) := (HBX.out.trans (hb5.mono HBX.out.size)).alloc (by have := HBX.out.size; have := hb5.size; omega) _
            have g3 : (w5.alloc (.cells #[.string (str a.n), .int .i64 a.k, .int .i64 a.s] 32)).cell? ⟨b, 0, none⟩ = some (.slice NA ns.length nc) := (Below.cell hb6 (p := ⟨b, 0, none⟩) hbl).trans E0.out
            have g4 : (w5.alloc (.cells #[.string (str a.n), .int .i64 a.k, .int .i64 a.s] 32)).cell? ⟨b, 1, none⟩ = some (.slice (some ad) es.length ec) := (Below.cell hb6 (p := ⟨b, 1, none⟩) hbl).trans E1.out
            have HXB6 : Hid (Blk (w5.alloc (.cells #[.string (str a.n), .int .i64 a.k, .int .i64 a.s] 32)) wr.heap.size 58 #[.string (str x.f), .string (str x.t), .int .i64 x.r]) := (HXB.out.below hb5 HXB.out.lt).alloc _
            have HAB : Hid (Blk (w5.alloc (.cells #[.string (str a.n), .int .i64 a.k, .int .i64 a.s] 32)) w5.heap.size 32 #[.string (str a.n), .int .i64 a.k, .int .i64 a.s]) := Blk.new _ _ _
            have g5 : (w5.alloc (.cells #[.string (str a.n), .int .i64 a.k, .int .i64 a.s] 32)).cell? ⟨wr.heap.size, 1, none⟩ = some (.string (str x.t)) := HXB6.out.cell 1
            have hcall := gNode_any _ ns es x.t b _ (HGR0.out.below (hb6.mono (Nat.le_of_lt hbl))) (Nat.le_trans (Nat.le_of_lt hbl) hb6.size)
            rw [nodeV_eq] at hcall
            have HB6 := Lib.hid hb6
            clear hb6 hb5 HXB g0 g1
            go_wp2_with fail
            refine hcall.mono ?_
            clear hcall
            rintro e w7 ⟨rfl, hb7⟩
            obtain ⟨c, hc⟩ : ∃ c, (nodeG ns x.t).getD noNd = c := ⟨_, rfl⟩
            rw [hc]
            have hb8 : Below w0.heap.size w0 (w7.alloc (.cells #[.string (str c.n), .int .i64 c.k, .int .i64 c.s] 32)) := (HB6.out.trans (hb7.mono HB6.out.size)).alloc (by have := HB6.out.size; have := hb7.size; omega) _
            have HXB8 := ((HXB6.out.below hb7 HXB6.out.lt).alloc (.cells #[.string (str c.n), .int .i64 c.k, .int .i64 c.s] 32))
            have HAB8 := ((HAB.out.below hb7 HAB.out.lt).alloc (.cells #[.string (str c.n), .int .i64 c.k, .int .i64 c.s] 32))
            have HA := Lib.hid ha
            clear hb7 hc ha HXB6 HAB g3 g4 g5
            rcases hok : nodeB ns x.f with _ | _
            all_goals rcases his : nodeB ns x.t with _ | _
            all_goals
              go_wp2_with fail
              obtain ⟨wn, hwn⟩ : ∃ wn, w7.alloc (.cells #[.string (str c.n), .int .i64 c.k, .int .i64 c.s] 32) = wn := ⟨_, rfl⟩
              rw [hwn] at hb8 HXB8 HAB8
              rw [hwn]
              obtain ⟨xb, hxb⟩ : ∃ xb, wr.heap.size = xb := ⟨_, rfl⟩
              rw [hxb] at HXB8
              rw [hxb]
              obtain ⟨nb, hnb⟩ : ∃ nb, w5.heap.size = nb := ⟨_, rfl⟩
              rw [hnb] at HAB8
              rw [hnb]
              have HWB := Lib.hid hb8
              have hxl := HXB8.lt
              have hnl := HAB8.lt
              have x0 : wn.cell? ⟨xb, 0, none⟩ = some (.string (str x.f)) := HXB8.cell 0
              have x1 : wn.cell? ⟨xb, 1, none⟩ = some (.string (str x.t)) := HXB8.cell 1
              have x2 : wn.cell? ⟨xb, 2, none⟩ = some (.int .i64 x.r) := HXB8.cell 2
              have n2 : wn.cell? ⟨nb, 2, none⟩ = some (.int .i64 a.s) := HAB8.cell 2
              have y0 : wn.cell? ⟨b, 1, none⟩ = some (.slice (some ad) es.length ec) := (Below.cell hb8 (p := ⟨b, 1, none⟩) hbl).trans E1.out
              have hbn : b < wn.heap.size := Nat.lt_of_lt_of_le hbl hb8.size
              have HNn := Lib.hid ((HEW.out.below (hb8.mono (Nat.le_of_lt hbl))))
              clear hwn hxb hnb HXB8 HAB8 hb8 q0 q1 q2 hW HEr HB6 HBX
            · skip
              have HNO : Hid (¬ MayG kT ns es) := no_edge HX.out (fun h => by obtain ⟨a', h1, _⟩ := h.1; unfold nodeB at hok; rw [h1] at hok; cases hok)
              refine wp_region_held_drew (S := fun W => Below wn.heap.size wn W) (by kernel_rfl) ?_ (fun hHeld => ?_)
              · exact (Below.refl _ _).drew
              refine wpAnyH_take (i := 0) (v := ?v0_8) rfl (by kernel_rfl) (by kernel_rfl) (by kernel_rfl) (fun _ _ _ h => h) (Or.inl ⟨by rfl, ?hy0_8⟩) (by assumption) ?_
              case hy0_8 => (intro W hSw; (try dsimp only at hSw); go_simp; (try with_reducible rfl))
              try simp only [Act.put, pA, pB, pD, pE, pF]
              refine wpAnyH_take (i := 1) (v := ?v1_8) rfl (by kernel_rfl) (by kernel_rfl) (by kernel_rfl) (fun _ _ _ h => h) (Or.inl ⟨by rfl, ?hy1_8⟩) (by assumption) ?_
              case hy1_8 => (intro W hSw; (try dsimp only at hSw); go_simp; (try with_reducible rfl))
              try simp only [Act.put, pA, pB, pC, pD, pE, pF]
              refine wpAnyH_take (i := 2) (v := ?v2_8) rfl (by kernel_rfl) (by kernel_rfl) (by kernel_rfl) (fun _ _ _ h => h) (Or.inl ⟨by rfl, ?hy2_8⟩) (by assumption) ?_
              case hy2_8 => (intro W hSw; (try dsimp only at hSw); go_simp; (try with_reducible rfl))
              try simp only [Act.put, pA, pB, pC, pD, pE, pF]
              refine wpAnyH_take (i := 3) (v := undef) rfl (by kernel_rfl) (by kernel_rfl) (by kernel_rfl) (fun _ _ _ h => h) (Or.inr ⟨by rfl, rfl⟩) (by assumption) ?_
              try simp only [Act.put, pA, pB, pC, pD, pE, pF]
              refine wpAnyH_take (i := 4) (v := undef) rfl (by kernel_rfl) (by kernel_rfl) (by kernel_rfl) (fun _ _ _ h => h) (Or.inr ⟨by rfl, rfl⟩) (by assumption) ?_
              try simp only [Act.put, pA, pB, pC, pD, pE, pF]
              refine wpAnyH_take (i := 5) (v := ?v5_8) rfl (by kernel_rfl) (by kernel_rfl) (by kernel_rfl) (fun _ _ _ h => h) (Or.inl ⟨by rfl, ?hy5_8⟩) (by assumption) ?_
              case hy5_8 => (intro W hSw; (try dsimp only at hSw); go_simp; (try with_reducible rfl))
              try simp only [Act.put, pA, pB, pC, pD, pE, pF]
              refine wpAnyH_take (i := 6) (v := ?v6_8) rfl (by kernel_rfl) (by kernel_rfl) (by kernel_rfl) (fun _ _ _ h => h) (Or.inl ⟨by rfl, ?hy6_8⟩) (by assumption) ?_
              case hy6_8 => (intro W hSw; (try dsimp only at hSw); go_simp; (try with_reducible rfl))
              try simp only [Act.put, pA, pB, pC, pD, pE, pF]
              refine wpAnyH_take (i := 7) (v := undef) rfl (by kernel_rfl) (by kernel_rfl) (by kernel_rfl) (fun _ _ _ h => h) (Or.inr ⟨by rfl, rfl⟩) (by assumption) ?_
              try simp only [Act.put, pA, pB, pC, pD, pE, pF]
              refine wpAnyH_take (i := 8) (v := undef) rfl (by kernel_rfl) (by kernel_rfl) (by kernel_rfl) (fun _ _ _ h => h) (Or.inr ⟨by rfl, rfl⟩) (by assumption) ?_
              try simp only [Act.put, pA, pB, pC, pD, pE, pF]
              refine wpAnyH_take (i := 9) (v := undef) rfl (by kernel_rfl) (by kernel_rfl) (by kernel_rfl) (fun _ _ _ h => h) (Or.inr ⟨by rfl, rfl⟩) (by assumption) ?_
              try simp only [Act.put, pA, pB, pC, pD, pE, pF]
              refine wpAnyH_take (i := 10) (v := ?v10_8) rfl (by kernel_rfl) (by kernel_rfl) (by kernel_rfl) (fun _ _ _ h => h) (Or.inl ⟨by rfl, ?hy10_8⟩) (by assumption) ?_
              case hy10_8 => (intro W hSw; (try dsimp only at hSw); go_simp; (try with_reducible rfl))
              try simp only [Act.put, pA, pB, pC, pD, pE, pF]
              refine wpAnyH_take (i := 11) (v := ?v11_8) rfl (by kernel_rfl) (by kernel_rfl) (by kernel_rfl) (fun _ _ _ h => h) (Or.inl ⟨by rfl, ?hy11_8⟩) (by assumption) ?_
              case hy11_8 => (intro W hSw; (try dsimp only at hSw); go_simp; (try with_reducible rfl))
              try simp only [Act.put, pA, pB, pC, pD, pE, pF]
              refine wpAnyH_take (i := 12) (v := undef) rfl (by kernel_rfl) (by kernel_rfl) (by kernel_rfl) (fun _ _ _ h => h) (Or.inr ⟨by rfl, rfl⟩) (by assumption) ?_
              try simp only [Act.put, pA, pB, pC, pD, pE, pF]
              refine wpAnyH_take (i := 13) (v := undef) rfl (by kernel_rfl) (by kernel_rfl) (by kernel_rfl) (fun _ _ _ h => h) (Or.inr ⟨by rfl, rfl⟩) (by assumption) ?_
              try simp only [Act.put, pA, pB, pC, pD, pE, pF]
              refine wpAnyH_take (i := 14) (v := undef) rfl (by kernel_rfl) (by kernel_rfl) (by kernel_rfl) (fun _ _ _ h => h) (Or.inr ⟨by rfl, rfl⟩) (by assumption) ?_
              try simp only [Act.put, pA, pB, pC, pD, pE, pF]
              refine wpAnyH_take (i := 15) (v := undef) rfl (by kernel_rfl) (by kernel_rfl) (by kernel_rfl) (fun _ _ _ h => h) (Or.inr ⟨by rfl, rfl⟩) (by assumption) ?_
              try simp only [Act.put, pA, pB, pC, pD, pE, pF]
              refine wpAnyH_take (i := 16) (v := undef) rfl (by kernel_rfl) (by kernel_rfl) (by kernel_rfl) (fun _ _ _ h => h) (Or.inr ⟨by rfl, rfl⟩) (by assumption) ?_
              try simp only [Act.put, pA, pB, pC, pD, pE, pF]
              refine wpAnyH_take (i := 17) (v := ?v17_8) rfl (by kernel_rfl) (by kernel_rfl) (by kernel_rfl) (fun _ _ _ h => h) (Or.inl ⟨by rfl, ?hy17_8⟩) (by assumption) ?_
              case hy17_8 => (intro W hSw; (try dsimp only at hSw); go_simp; (try with_reducible rfl))
              try simp only [Act.put, pA, pB, pC, pD, pE, pF]
              refine wpAnyH_take (i := 18) (v := ?v18_8) rfl (by kernel_rfl) (by kernel_rfl) (by kernel_rfl) (fun _ _ _ h => h) (Or.inl ⟨by rfl, ?hy18_8⟩) (by assumption) ?_
              case hy18_8 => (intro W hSw; (try dsimp only at hSw); go_simp; (try with_reducible rfl))
              try simp only [Act.put, pA, pB, pC, pD, pE, pF]
              refine wpAnyH_take (i := 19) (v := undef) rfl (by kernel_rfl) (by kernel_rfl) (by kernel_rfl) (fun _ _ _ h => h) (Or.inr ⟨by rfl, rfl⟩) (by assumption) ?_
              try simp only [Act.put, pA, pB, pC, pD, pE, pF]
              refine wpAnyH_take (i := 20) (v := undef) rfl (by kernel_rfl) (by kernel_rfl) (by kernel_rfl) (fun _ _ _ h => h) (Or.inr ⟨by rfl, rfl⟩) (by assumption) ?_
              try simp only [Act.put, pA, pB, pC, pD, pE, pF]
              refine wpAnyH_take (i := 21) (v := undef) rfl (by kernel_rfl) (by kernel_rfl) (by kernel_rfl) (fun _ _ _ h => h) (Or.inr ⟨by rfl, rfl⟩) (by assumption) ?_
              try simp only [Act.put, pA, pB, pC, pD, pE, pF]
              refine wpAnyH_take (i := 22) (v := ?v22_8) rfl (by kernel_rfl) (by kernel_rfl) (by kernel_rfl) (fun _ _ _ h => h) (Or.inl ⟨by rfl, ?hy22_8⟩) (by assumption) ?_
              case hy22_8 => (intro W hSw; (try dsimp only at hSw); go_simp; (try with_reducible rfl))
              try simp only [Act.put, pA, pB, pC, pD, pE, pF]
              refine wpAnyH_take (i := 23) (v := ?v23_8) rfl (by kernel_rfl) (by kernel_rfl) (by kernel_rfl) (fun _ _ _ h => h) (Or.inl ⟨by rfl, ?hy23_8⟩) (by assumption) ?_
              case hy23_8 => (intro W hSw; (try dsimp only at hSw); go_simp; (try with_reducible rfl))
              try simp only [Act.put, pA, pB, pC, pD, pE, pF]
              refine wpAnyH_take (i := 24) (v := undef) rfl (by kernel_rfl) (by kernel_rfl) (by kernel_rfl) (fun _ _ _ h => h) (Or.inr ⟨by rfl, rfl⟩) (by assumption) ?_
              try simp only [Act.put, pA, pB, pC, pD, pE, pF]
              refine wpAnyH_take (i := 25) (v := undef) rfl (by kernel_rfl) (by kernel_rfl) (by kernel_rfl) (fun _ _ _ h => h) (Or.inr ⟨by rfl, rfl⟩) (by assumption) ?_
              try simp only [Act.put, pA, pB, pC, pD, pE, pF]
              refine wpAnyH_take (i := 26) (v := undef) rfl (by kernel_rfl) (by kernel_rfl) (by kernel_rfl) (fun _ _ _ h => h) (Or.inr ⟨by rfl, rfl⟩) (by assumption) ?_
              try simp only [Act.put, pA, pB, pC, pD, pE, pF]
              refine wpAnyH_take (i := 27) (v := ?v27_8) rfl (by kernel_rfl) (by kernel_rfl) (by kernel_rfl) (fun _ _ _ h => h) (Or.inl ⟨by rfl, ?hy27_8⟩) (by assumption) ?_
              case hy27_8 => (intro W hSw; (try dsimp only at hSw); go_simp; (try with_reducible rfl))
              try simp only [Act.put, pA, pB, pC, pD, pE, pF]
              refine wpAnyH_take (i := 28) (v := ?v28_8) rfl (by kernel_rfl) (by kernel_rfl) (by kernel_rfl) (fun _ _ _ h => h) (Or.inl ⟨by rfl, ?hy28_8⟩) (by assumption) ?_
              case hy28_8 => (intro W hSw; (try dsimp only at hSw); go_simp; (try with_reducible rfl))
              try simp only [Act.put, pA, pB, pC, pD, pE, pF]
              refine wpAnyH_take (i := 29) (v := undef) rfl (by kernel_rfl) (by kernel_rfl) (by kernel_rfl) (fun _ _ _ h => h) (Or.inr ⟨by rfl, rfl⟩) (by assumption) ?_
              try simp only [Act.put, pA, pB, pC, pD, pE, pF]
              refine wpAnyH_take (i := 30) (v := undef) rfl (by kernel_rfl) (by kernel_rfl) (by kernel_rfl) (fun _ _ _ h => h) (Or.inr ⟨by rfl, rfl⟩) (by assumption) ?_
              try simp only [Act.put, pA, pB, pC, pD, pE, pF]
              refine wpAnyH_take (i := 31) (v := undef) rfl (by kernel_rfl) (by kernel_rfl) (by kernel_rfl) (fun _ _ _ h => h) (Or.inr ⟨by rfl, rfl⟩) (by assumption) ?_
              try simp only [Act.put, pA, pB, pC, pD, pE, pF]
              refine wpAnyH_take (i := 32) (v := undef) rfl (by kernel_rfl) (by kernel_rfl) (by kernel_rfl) (fun _ _ _ h => h) (Or.inr ⟨by rfl, rfl⟩) (by assumption) ?_
              try simp only [Act.put, pA, pB, pC, pD, pE, pF]
              refine wpAnyH_take (i := 33) (v := undef) rfl (by kernel_rfl) (by kernel_rfl) (by kernel_rfl) (fun _ _ _ h => h) (Or.inr ⟨by rfl, rfl⟩) (by assumption) ?_
              try simp only [Act.put, pA, pB, pC, pD, pE, pF]
              refine wpAnyH_take (i := 34) (v := undef) rfl (by kernel_rfl) (by kernel_rfl) (by kernel_rfl) (fun _ _ _ h => h) (Or.inr ⟨by rfl, rfl⟩) (by assumption) ?_
              try simp only [Act.put, pA, pB, pC, pD, pE, pF]
              refine wpAnyH_take (i := 35) (v := undef) rfl (by kernel_rfl) (by kernel_rfl) (by kernel_rfl) (fun _ _ _ h => h) (Or.inr ⟨by rfl, rfl⟩) (by assumption) ?_
              try simp only [Act.put, pA, pB, pC, pD, pE, pF]
              refine wpAnyH_take (i := 36) (v := undef) rfl (by kernel_rfl) (by kernel_rfl) (by kernel_rfl) (fun _ _ _ h => h) (Or.inr ⟨by rfl, rfl⟩) (by assumption) ?_
              try simp only [Act.put, pA, pB, pC, pD, pE, pF]
              refine wpAnyH_take (i := 37) (v := undef) rfl (by kernel_rfl) (by kernel_rfl) (by kernel_rfl) (fun _ _ _ h => h) (Or.inr ⟨by rfl, rfl⟩) (by assumption) ?_
              try simp only [Act.put, pA, pB, pC, pD, pE, pF]
              refine wpAnyH_take (i := 38) (v := undef) rfl (by kernel_rfl) (by kernel_rfl) (by kernel_rfl) (fun _ _ _ h => h) (Or.inr ⟨by rfl, rfl⟩) (by assumption) ?_
              try simp only [Act.put, pA, pB, pC, pD, pE, pF]
              refine wpAnyH_take (i := 39) (v := undef) rfl (by kernel_rfl) (by kernel_rfl) (by kernel_rfl) (fun _ _ _ h => h) (Or.inr ⟨by rfl, rfl⟩) (by assumption) ?_
              try simp only [Act.put, pA, pB, pC, pD, pE, pF]
              refine wpAnyH_take (i := 40) (v := undef) rfl (by kernel_rfl) (by kernel_rfl) (by kernel_rfl) (fun _ _ _ h => h) (Or.inr ⟨by rfl, rfl⟩) (by assumption) ?_
              try simp only [Act.put, pA, pB, pC, pD, pE, pF]
              refine wpAnyH_take (i := 41) (v := undef) rfl (by kernel_rfl) (by kernel_rfl) (by kernel_rfl) (fun _ _ _ h => h) (Or.inr ⟨by rfl, rfl⟩) (by assumption) ?_
              try simp only [Act.put, pA, pB, pC, pD, pE, pF]
              refine wpAnyH_take (i := 42) (v := ?v42_8) rfl (by kernel_rfl) (by kernel_rfl) (by kernel_rfl) (fun _ _ _ h => h) (Or.inl ⟨by rfl, ?hy42_8⟩) (by assumption) ?_
              case hy42_8 => (intro W hSw; (try dsimp only at hSw); go_simp; (try with_reducible rfl))
              try simp only [Act.put, pA, pB, pC, pD, pE, pF]
              refine wpAnyH_done (by kernel_rfl) ?_ _
              have HZ : Hid (Below w.heap.size w _) := HB0.out.trans ((HWB.out.trans (hHeld.mono HWB.out.size)).mono HB0.out.size)
              go_wp2_with fail
              go_ret
              exact mayNo HNO.out HZ.out
            · skip
              have HNO : Hid (¬ MayG kT ns es) := no_edge HX.out (fun h => by obtain ⟨a', h1, _⟩ := h.1; unfold nodeB at hok; rw [h1] at hok; cases hok)
              refine wp_region_held_drew (S := fun W => Below wn.heap.size wn W) (by kernel_rfl) ?_ (fun hHeld => ?_)
              · exact (Below.refl _ _).drew
              refine wpAnyH_take (i := 0) (v := ?v0_9) rfl (by kernel_rfl) (by kernel_rfl) (by kernel_rfl) (fun _ _ _ h => h) (Or.inl ⟨by rfl, ?hy0_9⟩) (by assumption) ?_
              case hy0_9 => (intro W hSw; (try dsimp only at hSw); go_simp; (try with_reducible rfl))
              try simp only [Act.put, pA, pB, pD, pE, pF]
              refine wpAnyH_take (i := 1) (v := ?v1_9) rfl (by kernel_rfl) (by kernel_rfl) (by kernel_rfl) (fun _ _ _ h => h) (Or.inl ⟨by rfl, ?hy1_9⟩) (by assumption) ?_
              case hy1_9 => (intro W hSw; (try dsimp only at hSw); go_simp; (try with_reducible rfl))
              try simp only [Act.put, pA, pB, pC, pD, pE, pF]
              refine wpAnyH_take (i := 2) (v := ?v2_9) rfl (by kernel_rfl) (by kernel_rfl) (by kernel_rfl) (fun _ _ _ h => h) (Or.inl ⟨by rfl, ?hy2_9⟩) (by assumption) ?_
              case hy2_9 => (intro W hSw; (try dsimp only at hSw); go_simp; (try with_reducible rfl))
              try simp only [Act.put, pA, pB, pC, pD, pE, pF]
              refine wpAnyH_take (i := 3) (v := undef) rfl (by kernel_rfl) (by kernel_rfl) (by kernel_rfl) (fun _ _ _ h => h) (Or.inr ⟨by rfl, rfl⟩) (by assumption) ?_
              try simp only [Act.put, pA, pB, pC, pD, pE, pF]
              refine wpAnyH_take (i := 4) (v := undef) rfl (by kernel_rfl) (by kernel_rfl) (by kernel_rfl) (fun _ _ _ h => h) (Or.inr ⟨by rfl, rfl⟩) (by assumption) ?_
              try simp only [Act.put, pA, pB, pC, pD, pE, pF]
              refine wpAnyH_take (i := 5) (v := ?v5_9) rfl (by kernel_rfl) (by kernel_rfl) (by kernel_rfl) (fun _ _ _ h => h) (Or.inl ⟨by rfl, ?hy5_9⟩) (by assumption) ?_
              case hy5_9 => (intro W hSw; (try dsimp only at hSw); go_simp; (try with_reducible rfl))
              try simp only [Act.put, pA, pB, pC, pD, pE, pF]
              refine wpAnyH_take (i := 6) (v := ?v6_9) rfl (by kernel_rfl) (by kernel_rfl) (by kernel_rfl) (fun _ _ _ h => h) (Or.inl ⟨by rfl, ?hy6_9⟩) (by assumption) ?_
              case hy6_9 => (intro W hSw; (try dsimp only at hSw); go_simp; (try with_reducible rfl))
              try simp only [Act.put, pA, pB, pC, pD, pE, pF]
              refine wpAnyH_take (i := 7) (v := undef) rfl (by kernel_rfl) (by kernel_rfl) (by kernel_rfl) (fun _ _ _ h => h) (Or.inr ⟨by rfl, rfl⟩) (by assumption) ?_
              try simp only [Act.put, pA, pB, pC, pD, pE, pF]
              refine wpAnyH_take (i := 8) (v := undef) rfl (by kernel_rfl) (by kernel_rfl) (by kernel_rfl) (fun _ _ _ h => h) (Or.inr ⟨by rfl, rfl⟩) (by assumption) ?_
              try simp only [Act.put, pA, pB, pC, pD, pE, pF]
              refine wpAnyH_take (i := 9) (v := undef) rfl (by kernel_rfl) (by kernel_rfl) (by kernel_rfl) (fun _ _ _ h => h) (Or.inr ⟨by rfl, rfl⟩) (by assumption) ?_
              try simp only [Act.put, pA, pB, pC, pD, pE, pF]
              refine wpAnyH_take (i := 10) (v := ?v10_9) rfl (by kernel_rfl) (by kernel_rfl) (by kernel_rfl) (fun _ _ _ h => h) (Or.inl ⟨by rfl, ?hy10_9⟩) (by assumption) ?_
              case hy10_9 => (intro W hSw; (try dsimp only at hSw); go_simp; (try with_reducible rfl))
              try simp only [Act.put, pA, pB, pC, pD, pE, pF]
              refine wpAnyH_take (i := 11) (v := ?v11_9) rfl (by kernel_rfl) (by kernel_rfl) (by kernel_rfl) (fun _ _ _ h => h) (Or.inl ⟨by rfl, ?hy11_9⟩) (by assumption) ?_
              case hy11_9 => (intro W hSw; (try dsimp only at hSw); go_simp; (try with_reducible rfl))
              try simp only [Act.put, pA, pB, pC, pD, pE, pF]
              refine wpAnyH_take (i := 12) (v := undef) rfl (by kernel_rfl) (by kernel_rfl) (by kernel_rfl) (fun _ _ _ h => h) (Or.inr ⟨by rfl, rfl⟩) (by assumption) ?_
              try simp only [Act.put, pA, pB, pC, pD, pE, pF]
              refine wpAnyH_take (i := 13) (v := undef) rfl (by kernel_rfl) (by kernel_rfl) (by kernel_rfl) (fun _ _ _ h => h) (Or.inr ⟨by rfl, rfl⟩) (by assumption) ?_
              try simp only [Act.put, pA, pB, pC, pD, pE, pF]
              refine wpAnyH_take (i := 14) (v := undef) rfl (by kernel_rfl) (by kernel_rfl) (by kernel_rfl) (fun _ _ _ h => h) (Or.inr ⟨by rfl, rfl⟩) (by assumption) ?_
              try simp only [Act.put, pA, pB, pC, pD, pE, pF]
              refine wpAnyH_take (i := 15) (v := undef) rfl (by kernel_rfl) (by kernel_rfl) (by kernel_rfl) (fun _ _ _ h => h) (Or.inr ⟨by rfl, rfl⟩) (by assumption) ?_
              try simp only [Act.put, pA, pB, pC, pD, pE, pF]
              refine wpAnyH_take (i := 16) (v := undef) rfl (by kernel_rfl) (by kernel_rfl) (by kernel_rfl) (fun _ _ _ h => h) (Or.inr ⟨by rfl, rfl⟩) (by assumption) ?_
              try simp only [Act.put, pA, pB, pC, pD, pE, pF]
              refine wpAnyH_take (i := 17) (v := ?v17_9) rfl (by kernel_rfl) (by kernel_rfl) (by kernel_rfl) (fun _ _ _ h => h) (Or.inl ⟨by rfl, ?hy17_9⟩) (by assumption) ?_
              case hy17_9 => (intro W hSw; (try dsimp only at hSw); go_simp; (try with_reducible rfl))
              try simp only [Act.put, pA, pB, pC, pD, pE, pF]
              refine wpAnyH_take (i := 18) (v := ?v18_9) rfl (by kernel_rfl) (by kernel_rfl) (by kernel_rfl) (fun _ _ _ h => h) (Or.inl ⟨by rfl, ?hy18_9⟩) (by assumption) ?_
              case hy18_9 => (intro W hSw; (try dsimp only at hSw); go_simp; (try with_reducible rfl))
              try simp only [Act.put, pA, pB, pC, pD, pE, pF]
              refine wpAnyH_take (i := 19) (v := undef) rfl (by kernel_rfl) (by kernel_rfl) (by kernel_rfl) (fun _ _ _ h => h) (Or.inr ⟨by rfl, rfl⟩) (by assumption) ?_
              try simp only [Act.put, pA, pB, pC, pD, pE, pF]
              refine wpAnyH_take (i := 20) (v := undef) rfl (by kernel_rfl) (by kernel_rfl) (by kernel_rfl) (fun _ _ _ h => h) (Or.inr ⟨by rfl, rfl⟩) (by assumption) ?_
              try simp only [Act.put, pA, pB, pC, pD, pE, pF]
              refine wpAnyH_take (i := 21) (v := undef) rfl (by kernel_rfl) (by kernel_rfl) (by kernel_rfl) (fun _ _ _ h => h) (Or.inr ⟨by rfl, rfl⟩) (by assumption) ?_
              try simp only [Act.put, pA, pB, pC, pD, pE, pF]
              refine wpAnyH_take (i := 22) (v := ?v22_9) rfl (by kernel_rfl) (by kernel_rfl) (by kernel_rfl) (fun _ _ _ h => h) (Or.inl ⟨by rfl, ?hy22_9⟩) (by assumption) ?_
              case hy22_9 => (intro W hSw; (try dsimp only at hSw); go_simp; (try with_reducible rfl))
              try simp only [Act.put, pA, pB, pC, pD, pE, pF]
              refine wpAnyH_take (i := 23) (v := ?v23_9) rfl (by kernel_rfl) (by kernel_rfl) (by kernel_rfl) (fun _ _ _ h => h) (Or.inl ⟨by rfl, ?hy23_9⟩) (by assumption) ?_
              case hy23_9 => (intro W hSw; (try dsimp only at hSw); go_simp; (try with_reducible rfl))
              try simp only [Act.put, pA, pB, pC, pD, pE, pF]
              refine wpAnyH_take (i := 24) (v := undef) rfl (by kernel_rfl) (by kernel_rfl) (by kernel_rfl) (fun _ _ _ h => h) (Or.inr ⟨by rfl, rfl⟩) (by assumption) ?_
              try simp only [Act.put, pA, pB, pC, pD, pE, pF]
              refine wpAnyH_take (i := 25) (v := undef) rfl (by kernel_rfl) (by kernel_rfl) (by kernel_rfl) (fun _ _ _ h => h) (Or.inr ⟨by rfl, rfl⟩) (by assumption) ?_
              try simp only [Act.put, pA, pB, pC, pD, pE, pF]
              refine wpAnyH_take (i := 26) (v := undef) rfl (by kernel_rfl) (by kernel_rfl) (by kernel_rfl) (fun _ _ _ h => h) (Or.inr ⟨by rfl, rfl⟩) (by assumption) ?_
              try simp only [Act.put, pA, pB, pC, pD, pE, pF]
              refine wpAnyH_take (i := 27) (v := ?v27_9) rfl (by kernel_rfl) (by kernel_rfl) (by kernel_rfl) (fun _ _ _ h => h) (Or.inl ⟨by rfl, ?hy27_9⟩) (by assumption) ?_
              case hy27_9 => (intro W hSw; (try dsimp only at hSw); go_simp; (try with_reducible rfl))
              try simp only [Act.put, pA, pB, pC, pD, pE, pF]
              refine wpAnyH_take (i := 28) (v := ?v28_9) rfl (by kernel_rfl) (by kernel_rfl) (by kernel_rfl) (fun _ _ _ h => h) (Or.inl ⟨by rfl, ?hy28_9⟩) (by assumption) ?_
              case hy28_9 => (intro W hSw; (try dsimp only at hSw); go_simp; (try with_reducible rfl))
              try simp only [Act.put, pA, pB, pC, pD, pE, pF]
              refine wpAnyH_take (i := 29) (v := undef) rfl (by kernel_rfl) (by kernel_rfl) (by kernel_rfl) (fun _ _ _ h => h) (Or.inr ⟨by rfl, rfl⟩) (by assumption) ?_
              try simp only [Act.put, pA, pB, pC, pD, pE, pF]
              refine wpAnyH_take (i := 30) (v := undef) rfl (by kernel_rfl) (by kernel_rfl) (by kernel_rfl) (fun _ _ _ h => h) (Or.inr ⟨by rfl, rfl⟩) (by assumption) ?_
              try simp only [Act.put, pA, pB, pC, pD, pE, pF]
              refine wpAnyH_take (i := 31) (v := undef) rfl (by kernel_rfl) (by kernel_rfl) (by kernel_rfl) (fun _ _ _ h => h) (Or.inr ⟨by rfl, rfl⟩) (by assumption) ?_
              try simp only [Act.put, pA, pB, pC, pD, pE, pF]
              refine wpAnyH_take (i := 32) (v := undef) rfl (by kernel_rfl) (by kernel_rfl) (by kernel_rfl) (fun _ _ _ h => h) (Or.inr ⟨by rfl, rfl⟩) (by assumption) ?_
              try simp only [Act.put, pA, pB, pC, pD, pE, pF]
              refine wpAnyH_take (i := 33) (v := undef) rfl (by kernel_rfl) (by kernel_rfl) (by kernel_rfl) (fun _ _ _ h => h) (Or.inr ⟨by rfl, rfl⟩) (by assumption) ?_
              try simp only [Act.put, pA, pB, pC, pD, pE, pF]
              refine wpAnyH_take (i := 34) (v := undef) rfl (by kernel_rfl) (by kernel_rfl) (by kernel_rfl) (fun _ _ _ h => h) (Or.inr ⟨by rfl, rfl⟩) (by assumption) ?_
              try simp only [Act.put, pA, pB, pC, pD, pE, pF]
              refine wpAnyH_take (i := 35) (v := undef) rfl (by kernel_rfl) (by kernel_rfl) (by kernel_rfl) (fun _ _ _ h => h) (Or.inr ⟨by rfl, rfl⟩) (by assumption) ?_
              try simp only [Act.put, pA, pB, pC, pD, pE, pF]
              refine wpAnyH_take (i := 36) (v := undef) rfl (by kernel_rfl) (by kernel_rfl) (by kernel_rfl) (fun _ _ _ h => h) (Or.inr ⟨by rfl, rfl⟩) (by assumption) ?_
              try simp only [Act.put, pA, pB, pC, pD, pE, pF]
              refine wpAnyH_take (i := 37) (v := undef) rfl (by kernel_rfl) (by kernel_rfl) (by kernel_rfl) (fun _ _ _ h => h) (Or.inr ⟨by rfl, rfl⟩) (by assumption) ?_
              try simp only [Act.put, pA, pB, pC, pD, pE, pF]
              refine wpAnyH_take (i := 38) (v := undef) rfl (by kernel_rfl) (by kernel_rfl) (by kernel_rfl) (fun _ _ _ h => h) (Or.inr ⟨by rfl, rfl⟩) (by assumption) ?_
              try simp only [Act.put, pA, pB, pC, pD, pE, pF]
              refine wpAnyH_take (i := 39) (v := undef) rfl (by kernel_rfl) (by kernel_rfl) (by kernel_rfl) (fun _ _ _ h => h) (Or.inr ⟨by rfl, rfl⟩) (by assumption) ?_
              try simp only [Act.put, pA, pB, pC, pD, pE, pF]
              refine wpAnyH_take (i := 40) (v := undef) rfl (by kernel_rfl) (by kernel_rfl) (by kernel_rfl) (fun _ _ _ h => h) (Or.inr ⟨by rfl, rfl⟩) (by assumption) ?_
              try simp only [Act.put, pA, pB, pC, pD, pE, pF]
              refine wpAnyH_take (i := 41) (v := undef) rfl (by kernel_rfl) (by kernel_rfl) (by kernel_rfl) (fun _ _ _ h => h) (Or.inr ⟨by rfl, rfl⟩) (by assumption) ?_
              try simp only [Act.put, pA, pB, pC, pD, pE, pF]
              refine wpAnyH_take (i := 42) (v := ?v42_9) rfl (by kernel_rfl) (by kernel_rfl) (by kernel_rfl) (fun _ _ _ h => h) (Or.inl ⟨by rfl, ?hy42_9⟩) (by assumption) ?_
              case hy42_9 => (intro W hSw; (try dsimp only at hSw); go_simp; (try with_reducible rfl))
              try simp only [Act.put, pA, pB, pC, pD, pE, pF]
              refine wpAnyH_done (by kernel_rfl) ?_ _
              have HZ : Hid (Below w.heap.size w _) := HB0.out.trans ((HWB.out.trans (hHeld.mono HWB.out.size)).mono HB0.out.size)
              go_wp2_with fail
              go_ret
              exact mayNo HNO.out HZ.out
            · skip
              have HNO : Hid (¬ MayG kT ns es) := no_edge HX.out (fun h => by have := h.2.1; unfold nodeB at his; rw [his] at this; cases this)
              refine wp_region_held_drew (S := fun W => Below wn.heap.size wn W) (by kernel_rfl) ?_ (fun hHeld => ?_)
              · exact (Below.refl _ _).drew
              refine wpAnyH_take (i := 0) (v := ?v0_10) rfl (by kernel_rfl) (by kernel_rfl) (by kernel_rfl) (fun _ _ _ h => h) (Or.inl ⟨by rfl, ?hy0_10⟩) (by assumption) ?_
              case hy0_10 => (intro W hSw; (try dsimp only at hSw); go_simp; (try with_reducible rfl))
              try simp only [Act.put, pA, pB, pD, pE, pF]
              refine wpAnyH_take (i := 1) (v := ?v1_10) rfl (by kernel_rfl) (by kernel_rfl) (by kernel_rfl) (fun _ _ _ h => h) (Or.inl ⟨by rfl, ?hy1_10⟩) (by assumption) ?_
              case hy1_10 => (intro W hSw; (try dsimp only at hSw); go_simp; (try with_reducible rfl))
              try simp only [Act.put, pA, pB, pC, pD, pE, pF]
              refine wpAnyH_take (i := 2) (v := ?v2_10) rfl (by kernel_rfl) (by kernel_rfl) (by kernel_rfl) (fun _ _ _ h => h) (Or.inl ⟨by rfl, ?hy2_10⟩) (by assumption) ?_
              case hy2_10 => (intro W hSw; (try dsimp only at hSw); go_simp; (try with_reducible rfl))
              try simp only [Act.put, pA, pB, pC, pD, pE, pF]
              refine wpAnyH_take (i := 3) (v := ?v3_10) rfl (by kernel_rfl) (by kernel_rfl) (by kernel_rfl) (fun _ _ _ h => h) (Or.inl ⟨by rfl, ?hy3_10⟩) (by assumption) ?_
              case hy3_10 => (intro W hSw; (try dsimp only at hSw); go_simp; (try with_reducible rfl))
              try simp only [Act.put, pA, pB, pC, pD, pE, pF]
              refine wpAnyH_take (i := 4) (v := ?v4_10) rfl (by kernel_rfl) (by kernel_rfl) (by kernel_rfl) (fun _ _ _ h => h) (Or.inl ⟨by rfl, ?hy4_10⟩) (by assumption) ?_
              case hy4_10 => (intro W hSw; (try dsimp only at hSw); go_simp; (try with_reducible rfl))
              try simp only [Act.put, pA, pB, pC, pD, pE, pF]
              refine wpAnyH_take (i := 5) (v := ?v5_10) rfl (by kernel_rfl) (by kernel_rfl) (by kernel_rfl) (fun _ _ _ h => h) (Or.inl ⟨by rfl, ?hy5_10⟩) (by assumption) ?_
              case hy5_10 => (intro W hSw; (try dsimp only at hSw); go_simp; (try with_reducible rfl))
              try simp only [Act.put, pA, pB, pC, pD, pE, pF]
              refine wpAnyH_take (i := 6) (v := ?v6_10) rfl (by kernel_rfl) (by kernel_rfl) (by kernel_rfl) (fun _ _ _ h => h) (Or.inl ⟨by rfl, ?hy6_10⟩) (by assumption) ?_
              case hy6_10 => (intro W hSw; (try dsimp only at hSw); go_simp; (try with_reducible rfl))
              try simp only [Act.put, pA, pB, pC, pD, pE, pF]
              refine wpAnyH_take (i := 7) (v := undef) rfl (by kernel_rfl) (by kernel_rfl) (by kernel_rfl) (fun _ _ _ h => h) (Or.inr ⟨by rfl, rfl⟩) (by assumption) ?_
              try simp only [Act.put, pA, pB, pC, pD, pE, pF]
              refine wpAnyH_take (i := 8) (v := undef) rfl (by kernel_rfl) (by kernel_rfl) (by kernel_rfl) (fun _ _ _ h => h) (Or.inr ⟨by rfl, rfl⟩) (by assumption) ?_
              try simp only [Act.put, pA, pB, pC, pD, pE, pF]
              refine wpAnyH_take (i := 9) (v := undef) rfl (by kernel_rfl) (by kernel_rfl) (by kernel_rfl) (fun _ _ _ h => h) (Or.inr ⟨by rfl, rfl⟩) (by assumption) ?_
              try simp only [Act.put, pA, pB, pC, pD, pE, pF]
              refine wpAnyH_take (i := 10) (v := ?v10_10) rfl (by kernel_rfl) (by kernel_rfl) (by kernel_rfl) (fun _ _ _ h => h) (Or.inl ⟨by rfl, ?hy10_10⟩) (by assumption) ?_
              case hy10_10 => (intro W hSw; (try dsimp only at hSw); go_simp; (try with_reducible rfl))
              try simp only [Act.put, pA, pB, pC, pD, pE, pF]
              refine wpAnyH_take (i := 11) (v := ?v11_10) rfl (by kernel_rfl) (by kernel_rfl) (by kernel_rfl) (fun _ _ _ h => h) (Or.inl ⟨by rfl, ?hy11_10⟩) (by assumption) ?_
              case hy11_10 => (intro W hSw; (try dsimp only at hSw); go_simp; (try with_reducible rfl))
              try simp only [Act.put, pA, pB, pC, pD, pE, pF]
              refine wpAnyH_take (i := 12) (v := undef) rfl (by kernel_rfl) (by kernel_rfl) (by kernel_rfl) (fun _ _ _ h => h) (Or.inr ⟨by rfl, rfl⟩) (by assumption) ?_
              try simp only [Act.put, pA, pB, pC, pD, pE, pF]
              refine wpAnyH_take (i := 13) (v := undef) rfl (by kernel_rfl) (by kernel_rfl) (by kernel_rfl) (fun _ _ _ h => h) (Or.inr ⟨by rfl, rfl⟩) (by assumption) ?_
              try simp only [Act.put, pA, pB, pC, pD, pE, pF]
              refine wpAnyH_take (i := 14) (v := undef) rfl (by kernel_rfl) (by kernel_rfl) (by kernel_rfl) (fun _ _ _ h => h) (Or.inr ⟨by rfl, rfl⟩) (by assumption) ?_
              try simp only [Act.put, pA, pB, pC, pD, pE, pF]
              refine wpAnyH_take (i := 15) (v := undef) rfl (by kernel_rfl) (by kernel_rfl) (by kernel_rfl) (fun _ _ _ h => h) (Or.inr ⟨by rfl, rfl⟩) (by assumption) ?_
              try simp only [Act.put, pA, pB, pC, pD, pE, pF]
              refine wpAnyH_take (i := 16) (v := undef) rfl (by kernel_rfl) (by kernel_rfl) (by kernel_rfl) (fun _ _ _ h => h) (Or.inr ⟨by rfl, rfl⟩) (by assumption) ?_
              try simp only [Act.put, pA, pB, pC, pD, pE, pF]
              refine wpAnyH_take (i := 17) (v := ?v17_10) rfl (by kernel_rfl) (by kernel_rfl) (by kernel_rfl) (fun _ _ _ h => h) (Or.inl ⟨by rfl, ?hy17_10⟩) (by assumption) ?_
              case hy17_10 => (intro W hSw; (try dsimp only at hSw); go_simp; (try with_reducible rfl))
              try simp only [Act.put, pA, pB, pC, pD, pE, pF]
              refine wpAnyH_take (i := 18) (v := ?v18_10) rfl (by kernel_rfl) (by kernel_rfl) (by kernel_rfl) (fun _ _ _ h => h) (Or.inl ⟨by rfl, ?hy18_10⟩) (by assumption) ?_
              case hy18_10 => (intro W hSw; (try dsimp only at hSw); go_simp; (try with_reducible rfl))
              try simp only [Act.put, pA, pB, pC, pD, pE, pF]
              refine wpAnyH_take (i := 19) (v := undef) rfl (by kernel_rfl) (by kernel_rfl) (by kernel_rfl) (fun _ _ _ h => h) (Or.inr ⟨by rfl, rfl⟩) (by assumption) ?_
              try simp only [Act.put, pA, pB, pC, pD, pE, pF]
              refine wpAnyH_take (i := 20) (v := undef) rfl (by kernel_rfl) (by kernel_rfl) (by kernel_rfl) (fun _ _ _ h => h) (Or.inr ⟨by rfl, rfl⟩) (by assumption) ?_
              try simp only [Act.put, pA, pB, pC, pD, pE, pF]
              refine wpAnyH_take (i := 21) (v := undef) rfl (by kernel_rfl) (by kernel_rfl) (by kernel_rfl) (fun _ _ _ h => h) (Or.inr ⟨by rfl, rfl⟩) (by assumption) ?_
              try simp only [Act.put, pA, pB, pC, pD, pE, pF]
              refine wpAnyH_take (i := 22) (v := ?v22_10) rfl (by kernel_rfl) (by kernel_rfl) (by kernel_rfl) (fun _ _ _ h => h) (Or.inl ⟨by rfl, ?hy22_10⟩) (by assumption) ?_
              case hy22_10 => (intro W hSw; (try dsimp only at hSw); go_simp; (try with_reducible rfl))
              try simp only [Act.put, pA, pB, pC, pD, pE, pF]
              refine wpAnyH_take (i := 23) (v := ?v23_10) rfl (by kernel_rfl) (by kernel_rfl) (by kernel_rfl) (fun _ _ _ h => h) (Or.inl ⟨by rfl, ?hy23_10⟩) (by assumption) ?_
              case hy23_10 => (intro W hSw; (try dsimp only at hSw); go_simp; (try with_reducible rfl))
              try simp only [Act.put, pA, pB, pC, pD, pE, pF]
              refine wpAnyH_take (i := 24) (v := undef) rfl (by kernel_rfl) (by kernel_rfl) (by kernel_rfl) (fun _ _ _ h => h) (Or.inr ⟨by rfl, rfl⟩) (by assumption) ?_
              try simp only [Act.put, pA, pB, pC, pD, pE, pF]
              refine wpAnyH_take (i := 25) (v := undef) rfl (by kernel_rfl) (by kernel_rfl) (by kernel_rfl) (fun _ _ _ h => h) (Or.inr ⟨by rfl, rfl⟩) (by assumption) ?_
              try simp only [Act.put, pA, pB, pC, pD, pE, pF]
              refine wpAnyH_take (i := 26) (v := undef) rfl (by kernel_rfl) (by kernel_rfl) (by kernel_rfl) (fun _ _ _ h => h) (Or.inr ⟨by rfl, rfl⟩) (by assumption) ?_
              try simp only [Act.put, pA, pB, pC, pD, pE, pF]
              refine wpAnyH_take (i := 27) (v := ?v27_10) rfl (by kernel_rfl) (by kernel_rfl) (by kernel_rfl) (fun _ _ _ h => h) (Or.inl ⟨by rfl, ?hy27_10⟩) (by assumption) ?_
              case hy27_10 => (intro W hSw; (try dsimp only at hSw); go_simp; (try with_reducible rfl))
              try simp only [Act.put, pA, pB, pC, pD, pE, pF]
              refine wpAnyH_take (i := 28) (v := ?v28_10) rfl (by kernel_rfl) (by kernel_rfl) (by kernel_rfl) (fun _ _ _ h => h) (Or.inl ⟨by rfl, ?hy28_10⟩) (by assumption) ?_
              case hy28_10 => (intro W hSw; (try dsimp only at hSw); go_simp; (try with_reducible rfl))
              try simp only [Act.put, pA, pB, pC, pD, pE, pF]
              refine wpAnyH_take (i := 29) (v := undef) rfl (by kernel_rfl) (by kernel_rfl) (by kernel_rfl) (fun _ _ _ h => h) (Or.inr ⟨by rfl, rfl⟩) (by assumption) ?_
              try simp only [Act.put, pA, pB, pC, pD, pE, pF]
              refine wpAnyH_take (i := 30) (v := undef) rfl (by kernel_rfl) (by kernel_rfl) (by kernel_rfl) (fun _ _ _ h => h) (Or.inr ⟨by rfl, rfl⟩) (by assumption) ?_
              try simp only [Act.put, pA, pB, pC, pD, pE, pF]
              refine wpAnyH_take (i := 31) (v := undef) rfl (by kernel_rfl) (by kernel_rfl) (by kernel_rfl) (fun _ _ _ h => h) (Or.inr ⟨by rfl, rfl⟩) (by assumption) ?_
              try simp only [Act.put, pA, pB, pC, pD, pE, pF]
              refine wpAnyH_take (i := 32) (v := undef) rfl (by kernel_rfl) (by kernel_rfl) (by kernel_rfl) (fun _ _ _ h => h) (Or.inr ⟨by rfl, rfl⟩) (by assumption) ?_
              try simp only [Act.put, pA, pB, pC, pD, pE, pF]
              refine wpAnyH_take (i := 33) (v := undef) rfl (by kernel_rfl) (by kernel_rfl) (by kernel_rfl) (fun _ _ _ h => h) (Or.inr ⟨by rfl, rfl⟩) (by assumption) ?_
              try simp only [Act.put, pA, pB, pC, pD, pE, pF]
              refine wpAnyH_take (i := 34) (v := undef) rfl (by kernel_rfl) (by kernel_rfl) (by kernel_rfl) (fun _ _ _ h => h) (Or.inr ⟨by rfl, rfl⟩) (by assumption) ?_
              try simp only [Act.put, pA, pB, pC, pD, pE, pF]
              refine wpAnyH_take (i := 35) (v := undef) rfl (by kernel_rfl) (by kernel_rfl) (by kernel_rfl) (fun _ _ _ h => h) (Or.inr ⟨by rfl, rfl⟩) (by assumption) ?_
              try simp only [Act.put, pA, pB, pC, pD, pE, pF]
              refine wpAnyH_take (i := 36) (v := undef) rfl (by kernel_rfl) (by kernel_rfl) (by kernel_rfl) (fun _ _ _ h => h) (Or.inr ⟨by rfl, rfl⟩) (by assumption) ?_
              try simp only [Act.put, pA, pB, pC, pD, pE, pF]
              refine wpAnyH_take (i := 37) (v := undef) rfl (by kernel_rfl) (by kernel_rfl) (by kernel_rfl) (fun _ _ _ h => h) (Or.inr ⟨by rfl, rfl⟩) (by assumption) ?_
              try simp only [Act.put, pA, pB, pC, pD, pE, pF]
              refine wpAnyH_take (i := 38) (v := undef) rfl (by kernel_rfl) (by kernel_rfl) (by kernel_rfl) (fun _ _ _ h => h) (Or.inr ⟨by rfl, rfl⟩) (by assumption) ?_
              try simp only [Act.put, pA, pB, pC, pD, pE, pF]
              refine wpAnyH_take (i := 39) (v := undef) rfl (by kernel_rfl) (by kernel_rfl) (by kernel_rfl) (fun _ _ _ h => h) (Or.inr ⟨by rfl, rfl⟩) (by assumption) ?_
              try simp only [Act.put, pA, pB, pC, pD, pE, pF]
              refine wpAnyH_take (i := 40) (v := undef) rfl (by kernel_rfl) (by kernel_rfl) (by kernel_rfl) (fun _ _ _ h => h) (Or.inr ⟨by rfl, rfl⟩) (by assumption) ?_
              try simp only [Act.put, pA, pB, pC, pD, pE, pF]
              refine wpAnyH_take (i := 41) (v := undef) rfl (by kernel_rfl) (by kernel_rfl) (by kernel_rfl) (fun _ _ _ h => h) (Or.inr ⟨by rfl, rfl⟩) (by assumption) ?_
              try simp only [Act.put, pA, pB, pC, pD, pE, pF]
              refine wpAnyH_take (i := 42) (v := ?v42_10) rfl (by kernel_rfl) (by kernel_rfl) (by kernel_rfl) (fun _ _ _ h => h) (Or.inl ⟨by rfl, ?hy42_10⟩) (by assumption) ?_
              case hy42_10 => (intro W hSw; (try dsimp only at hSw); go_simp; (try with_reducible rfl))
              try simp only [Act.put, pA, pB, pC, pD, pE, pF]
              refine wpAnyH_done (by kernel_rfl) ?_ _
              have HZ : Hid (Below w.heap.size w _) := HB0.out.trans ((HWB.out.trans (hHeld.mono HWB.out.size)).mono HB0.out.size)
              go_wp2_with fail
              go_ret
              exact mayNo HNO.out HZ.out
            · have HA1 : Hid (nodeG ns x.f = some a) := by
                have h1 := HA.out
                unfold nodeB at hok
                obtain ⟨a', h2⟩ := Option.isSome_iff_exists.1 hok
                rw [h2] at h1
                show nodeG ns x.f = some a
                rw [h2, ← h1]; rfl
              have hq := eqT_str x.f x.t
              by_cases k3 : a.s = 1
              · have d3 : (a.s != 1) = false := by simpa using k3
                have K3 := Lib.hid k3
                clear k3
                by_cases k4 : x.f = x.t
                · rw [decide_eq_true k4] at hq
                  have K4 := Lib.hid k4
                  clear k4
                  have HNO : Hid (¬ MayG kT ns es) := no_edge HX.out (fun h => h.2.2.1 K4.out)
                  refine wp_region_held_drew (S := fun W => Below wn.heap.size wn W) (by kernel_rfl) ?_ (fun hHeld => ?_)
                  · exact (Below.refl _ _).drew
                  refine wpAnyH_take (i := 0) (v := ?v0_11) rfl (by kernel_rfl) (by kernel_rfl) (by kernel_rfl) (fun _ _ _ h => h) (Or.inl ⟨by rfl, ?hy0_11⟩) (by assumption) ?_
                  case hy0_11 => (intro W hSw; (try dsimp only at hSw); go_simp; (try with_reducible rfl))
                  try simp only [Act.put, pA, pB, pD, pE, pF]
                  refine wpAnyH_take (i := 1) (v := ?v1_11) rfl (by kernel_rfl) (by kernel_rfl) (by kernel_rfl) (fun _ _ _ h => h) (Or.inl ⟨by rfl, ?hy1_11⟩) (by assumption) ?_
                  case hy1_11 => (intro W hSw; (try dsimp only at hSw); go_simp; (try with_reducible rfl))
                  try simp only [Act.put, pA, pB, pC, pD, pE, pF]
                  refine wpAnyH_take (i := 2) (v := ?v2_11) rfl (by kernel_rfl) (by kernel_rfl) (by kernel_rfl) (fun _ _ _ h => h) (Or.inl ⟨by rfl, ?hy2_11⟩) (by assumption) ?_
                  case hy2_11 => (intro W hSw; (try dsimp only at hSw); go_simp; (try with_reducible rfl))
                  try simp only [Act.put, pA, pB, pC, pD, pE, pF]
                  refine wpAnyH_take (i := 3) (v := ?v3_11) rfl (by kernel_rfl) (by kernel_rfl) (by kernel_rfl) (fun _ _ _ h => h) (Or.inl ⟨by rfl, ?hy3_11⟩) (by assumption) ?_
                  case hy3_11 => (intro W hSw; (try dsimp only at hSw); go_simp; (try with_reducible rfl))
                  try simp only [Act.put, pA, pB, pC, pD, pE, pF]
                  refine wpAnyH_take (i := 4) (v := ?v4_11) rfl (by kernel_rfl) (by kernel_rfl) (by kernel_rfl) (fun _ _ _ h => h) (Or.inl ⟨by rfl, ?hy4_11⟩) (by assumption) ?_
                  case hy4_11 => (intro W hSw; (try dsimp only at hSw); go_simp; (try with_reducible rfl))
                  try simp only [Act.put, pA, pB, pC, pD, pE, pF]
                  refine wpAnyH_take (i := 5) (v := ?v5_11) rfl (by kernel_rfl) (by kernel_rfl) (by kernel_rfl) (fun _ _ _ h => h) (Or.inl ⟨by rfl, ?hy5_11⟩) (by assumption) ?_
                  case hy5_11 => (intro W hSw; (try dsimp only at hSw); go_simp; (try with_reducible rfl))
                  try simp only [Act.put, pA, pB, pC, pD, pE, pF]
                  refine wpAnyH_take (i := 6) (v := ?v6_11) rfl (by kernel_rfl) (by kernel_rfl) (by kernel_rfl) (fun _ _ _ h => h) (Or.inl ⟨by rfl, ?hy6_11⟩) (by assumption) ?_
                  case hy6_11 => (intro W hSw; (try dsimp only at hSw); go_simp; (try with_reducible rfl))
                  try simp only [Act.put, pA, pB, pC, pD, pE, pF]
                  refine wpAnyH_take (i := 7) (v := ?v7_11) rfl (by kernel_rfl) (by kernel_rfl) (by kernel_rfl) (fun _ _ _ h => h) (Or.inl ⟨by rfl, ?hy7_11⟩) (by assumption) ?_
                  case hy7_11 => (intro W hSw; (try dsimp only at hSw); go_simp; (try with_reducible rfl))
                  try simp only [Act.put, pA, pB, pC, pD, pE, pF]
                  refine wpAnyH_take (i := 8) (v := ?v8_11) rfl (by kernel_rfl) (by kernel_rfl) (by kernel_rfl) (fun _ _ _ h => h) (Or.inl ⟨by rfl, ?hy8_11⟩) (by assumption) ?_
                  case hy8_11 => (intro W hSw; have p0 := (Below.cell hSw (p := ⟨nb, 2, none⟩) hnl).trans n2; (try dsimp only at hSw); go_simp; (try with_reducible rfl))
                  try simp only [Act.put, pA, pB, pC, pD, pE, pF]
                  refine wpAnyH_take (i := 9) (v := ?v9_11) rfl (by kernel_rfl) (by kernel_rfl) (by kernel_rfl) (fun _ _ _ h => h) (Or.inl ⟨by rfl, ?hy9_11⟩) (by assumption) ?_
                  case hy9_11 => (intro W hSw; (try dsimp only at hSw); go_simp; (try with_reducible rfl))
                  try simp only [Act.put, pA, pB, pC, pD, pE, pF]
                  refine wpAnyH_take (i := 10) (v := ?v10_11) rfl (by kernel_rfl) (by kernel_rfl) (by kernel_rfl) (fun _ _ _ h => h) (Or.inl ⟨by rfl, ?hy10_11⟩) (by assumption) ?_
                  case hy10_11 => (intro W hSw; (try dsimp only at hSw); go_simp; (try with_reducible rfl))
                  try simp only [Act.put, pA, pB, pC, pD, pE, pF]
                  refine wpAnyH_take (i := 11) (v := ?v11_11) rfl (by kernel_rfl) (by kernel_rfl) (by kernel_rfl) (fun _ _ _ h => h) (Or.inl ⟨by rfl, ?hy11_11⟩) (by assumption) ?_
                  case hy11_11 => (intro W hSw; (try dsimp only at hSw); go_simp; (try with_reducible rfl))
                  try simp only [Act.put, pA, pB, pC, pD, pE, pF]
                  refine wpAnyH_take (i := 12) (v := ?v12_11) rfl (by kernel_rfl) (by kernel_rfl) (by kernel_rfl) (fun _ _ _ h => h) (Or.inl ⟨by rfl, ?hy12_11⟩) (by assumption) ?_
                  case hy12_11 => (intro W hSw; (try dsimp only at hSw); go_simp; (try with_reducible rfl))
                  try simp only [Act.put, pA, pB, pC, pD, pE, pF]
                  refine wpAnyH_take (i := 13) (v := ?v13_11) rfl (by kernel_rfl) (by kernel_rfl) (by kernel_rfl) (fun _ _ _ h => h) (Or.inl ⟨by rfl, ?hy13_11⟩) (by assumption) ?_
                  case hy13_11 => (intro W hSw; have p0 := (Below.cell hSw (p := ⟨xb, 0, none⟩) hxl).trans x0; (try dsimp only at hSw); go_simp; (try with_reducible rfl))
                  try simp only [Act.put, pA, pB, pC, pD, pE, pF]
                  refine wpAnyH_take (i := 14) (v := ?v14_11) rfl (by kernel_rfl) (by kernel_rfl) (by kernel_rfl) (fun _ _ _ h => h) (Or.inl ⟨by rfl, ?hy14_11⟩) (by assumption) ?_
                  case hy14_11 => (intro W hSw; (try dsimp only at hSw); go_simp; (try with_reducible rfl))
                  try simp only [Act.put, pA, pB, pC, pD, pE, pF]
                  refine wpAnyH_take (i := 15) (v := ?v15_11) rfl (by kernel_rfl) (by kernel_rfl) (by kernel_rfl) (fun _ _ _ h => h) (Or.inl ⟨by rfl, ?hy15_11⟩) (by assumption) ?_
                  case hy15_11 => (intro W hSw; have p1 := (Below.cell hSw (p := ⟨xb, 1, none⟩) hxl).trans x1; (try dsimp only at hSw); go_simp; (try with_reducible rfl))
                  try simp only [Act.put, pA, pB, pC, pD, pE, pF]
                  refine wpAnyH_take (i := 16) (v := ?v16_11) rfl (by kernel_rfl) (by kernel_rfl) (by kernel_rfl) (fun _ _ _ h => h) (Or.inl ⟨by rfl, ?hy16_11⟩) (by assumption) ?_
                  case hy16_11 => (intro W hSw; (try dsimp only at hSw); go_simp; (try with_reducible rfl))
                  try simp only [Act.put, pA, pB, pC, pD, pE, pF]
                  refine wpAnyH_take (i := 17) (v := ?v17_11) rfl (by kernel_rfl) (by kernel_rfl) (by kernel_rfl) (fun _ _ _ h => h) (Or.inl ⟨by rfl, ?hy17_11⟩) (by assumption) ?_
                  case hy17_11 => (intro W hSw; (try dsimp only at hSw); go_simp; (try with_reducible rfl))
                  try simp only [Act.put, pA, pB, pC, pD, pE, pF]
                  refine wpAnyH_take (i := 18) (v := ?v18_11) rfl (by kernel_rfl) (by kernel_rfl) (by kernel_rfl) (fun _ _ _ h => h) (Or.inl ⟨by rfl, ?hy18_11⟩) (by assumption) ?_
                  case hy18_11 => (intro W hSw; (try dsimp only at hSw); go_simp; (try with_reducible rfl))
                  try simp only [Act.put, pA, pB, pC, pD, pE, pF]
                  refine wpAnyH_take (i := 19) (v := undef) rfl (by kernel_rfl) (by kernel_rfl) (by kernel_rfl) (fun _ _ _ h => h) (Or.inr ⟨by rfl, rfl⟩) (by assumption) ?_
                  try simp only [Act.put, pA, pB, pC, pD, pE, pF]
                  refine wpAnyH_take (i := 20) (v := undef) rfl (by kernel_rfl) (by kernel_rfl) (by kernel_rfl) (fun _ _ _ h => h) (Or.inr ⟨by rfl, rfl⟩) (by assumption) ?_
                  try simp only [Act.put, pA, pB, pC, pD, pE, pF]
                  refine wpAnyH_take (i := 21) (v := undef) rfl (by kernel_rfl) (by kernel_rfl) (by kernel_rfl) (fun _ _ _ h => h) (Or.inr ⟨by rfl, rfl⟩) (by assumption) ?_
                  try simp only [Act.put, pA, pB, pC, pD, pE, pF]
                  refine wpAnyH_take (i := 22) (v := ?v22_11) rfl (by kernel_rfl) (by kernel_rfl) (by kernel_rfl) (fun _ _ _ h => h) (Or.inl ⟨by rfl, ?hy22_11⟩) (by assumption) ?_
                  case hy22_11 => (intro W hSw; (try dsimp only at hSw); go_simp; (try with_reducible rfl))
                  try simp only [Act.put, pA, pB, pC, pD, pE, pF]
                  refine wpAnyH_take (i := 23) (v := ?v23_11) rfl (by kernel_rfl) (by kernel_rfl) (by kernel_rfl) (fun _ _ _ h => h) (Or.inl ⟨by rfl, ?hy23_11⟩) (by assumption) ?_
                  case hy23_11 => (intro W hSw; (try dsimp only at hSw); go_simp; (try with_reducible rfl))
                  try simp only [Act.put, pA, pB, pC, pD, pE, pF]
                  refine wpAnyH_take (i := 24) (v := undef) rfl (by kernel_rfl) (by kernel_rfl) (by kernel_rfl) (fun _ _ _ h => h) (Or.inr ⟨by rfl, rfl⟩) (by assumption) ?_
                  try simp only [Act.put, pA, pB, pC, pD, pE, pF]
                  refine wpAnyH_take (i := 25) (v := undef) rfl (by kernel_rfl) (by kernel_rfl) (by kernel_rfl) (fun _ _ _ h => h) (Or.inr ⟨by rfl, rfl⟩) (by assumption) ?_
                  try simp only [Act.put, pA, pB, pC, pD, pE, pF]
                  refine wpAnyH_take (i := 26) (v := undef) rfl (by kernel_rfl) (by kernel_rfl) (by kernel_rfl) (fun _ _ _ h => h) (Or.inr ⟨by rfl, rfl⟩) (by assumption) ?_
                  try simp only [Act.put, pA, pB, pC, pD, pE, pF]
                  refine wpAnyH_take (i := 27) (v := ?v27_11) rfl (by kernel_rfl) (by kernel_rfl) (by kernel_rfl) (fun _ _ _ h => h) (Or.inl ⟨by rfl, ?hy27_11⟩) (by assumption) ?_
                  case hy27_11 => (intro W hSw; (try dsimp only at hSw); go_simp; (try with_reducible rfl))
                  try simp only [Act.put, pA, pB, pC, pD, pE, pF]
                  refine wpAnyH_take (i := 28) (v := ?v28_11) rfl (by kernel_rfl) (by kernel_rfl) (by kernel_rfl) (fun _ _ _ h => h) (Or.inl ⟨by rfl, ?hy28_11⟩) (by assumption) ?_
                  case hy28_11 => (intro W hSw; (try dsimp only at hSw); go_simp; (try with_reducible rfl))
                  try simp only [Act.put, pA, pB, pC, pD, pE, pF]
                  refine wpAnyH_take (i := 29) (v := undef) rfl (by kernel_rfl) (by kernel_rfl) (by kernel_rfl) (fun _ _ _ h => h) (Or.inr ⟨by rfl, rfl⟩) (by assumption) ?_
                  try simp only [Act.put, pA, pB, pC, pD, pE, pF]
                  refine wpAnyH_take (i := 30) (v := undef) rfl (by kernel_rfl) (by kernel_rfl) (by kernel_rfl) (fun _ _ _ h => h) (Or.inr ⟨by rfl, rfl⟩) (by assumption) ?_
                  try simp only [Act.put, pA, pB, pC, pD, pE, pF]
                  refine wpAnyH_take (i := 31) (v := undef) rfl (by kernel_rfl) (by kernel_rfl) (by kernel_rfl) (fun _ _ _ h => h) (Or.inr ⟨by rfl, rfl⟩) (by assumption) ?_
                  try simp only [Act.put, pA, pB, pC, pD, pE, pF]
                  refine wpAnyH_take (i := 32) (v := undef) rfl (by kernel_rfl) (by kernel_rfl) (by kernel_rfl) (fun _ _ _ h => h) (Or.inr ⟨by rfl, rfl⟩) (by assumption) ?_
                  try simp only [Act.put, pA, pB, pC, pD, pE, pF]
                  refine wpAnyH_take (i := 33) (v := undef) rfl (by kernel_rfl) (by kernel_rfl) (by kernel_rfl) (fun _ _ _ h => h) (Or.inr ⟨by rfl, rfl⟩) (by assumption) ?_
                  try simp only [Act.put, pA, pB, pC, pD, pE, pF]
                  refine wpAnyH_take (i := 34) (v := undef) rfl (by kernel_rfl) (by kernel_rfl) (by kernel_rfl) (fun _ _ _ h => h) (Or.inr ⟨by rfl, rfl⟩) (by assumption) ?_
                  try simp only [Act.put, pA, pB, pC, pD, pE, pF]
                  refine wpAnyH_take (i := 35) (v := undef) rfl (by kernel_rfl) (by kernel_rfl) (by kernel_rfl) (fun _ _ _ h => h) (Or.inr ⟨by rfl, rfl⟩) (by assumption) ?_
                  try simp only [Act.put, pA, pB, pC, pD, pE, pF]
                  refine wpAnyH_take (i := 36) (v := undef) rfl (by kernel_rfl) (by kernel_rfl) (by kernel_rfl) (fun _ _ _ h => h) (Or.inr ⟨by rfl, rfl⟩) (by assumption) ?_
                  try simp only [Act.put, pA, pB, pC, pD, pE, pF]
                  refine wpAnyH_take (i := 37) (v := undef) rfl (by kernel_rfl) (by kernel_rfl) (by kernel_rfl) (fun _ _ _ h => h) (Or.inr ⟨by rfl, rfl⟩) (by assumption) ?_
                  try simp only [Act.put, pA, pB, pC, pD, pE, pF]
                  refine wpAnyH_take (i := 38) (v := undef) rfl (by kernel_rfl) (by kernel_rfl) (by kernel_rfl) (fun _ _ _ h => h) (Or.inr ⟨by rfl, rfl⟩) (by assumption) ?_
                  try simp only [Act.put, pA, pB, pC, pD, pE, pF]
                  refine wpAnyH_take (i := 39) (v := undef) rfl (by kernel_rfl) (by kernel_rfl) (by kernel_rfl) (fun _ _ _ h => h) (Or.inr ⟨by rfl, rfl⟩) (by assumption) ?_
                  try simp only [Act.put, pA, pB, pC, pD, pE, pF]
                  refine wpAnyH_take (i := 40) (v := undef) rfl (by kernel_rfl) (by kernel_rfl) (by kernel_rfl) (fun _ _ _ h => h) (Or.inr ⟨by rfl, rfl⟩) (by assumption) ?_
                  try simp only [Act.put, pA, pB, pC, pD, pE, pF]
                  refine wpAnyH_take (i := 41) (v := undef) rfl (by kernel_rfl) (by kernel_rfl) (by kernel_rfl) (fun _ _ _ h => h) (Or.inr ⟨by rfl, rfl⟩) (by assumption) ?_
                  try simp only [Act.put, pA, pB, pC, pD, pE, pF]
                  refine wpAnyH_take (i := 42) (v := ?v42_11) rfl (by kernel_rfl) (by kernel_rfl) (by kernel_rfl) (fun _ _ _ h => h) (Or.inl ⟨by rfl, ?hy42_11⟩) (by assumption) ?_
                  case hy42_11 => (intro W hSw; (try dsimp only at hSw); go_simp; (try with_reducible rfl))
                  try simp only [Act.put, pA, pB, pC, pD, pE, pF]
                  refine wpAnyH_done (by kernel_rfl) ?_ _
                  have HZ : Hid (Below w.heap.size w _) := HB0.out.trans ((HWB.out.trans (hHeld.mono HWB.out.size)).mono HB0.out.size)
                  go_wp2_with fail
                  go_ret
                  exact mayNo HNO.out HZ.out
                · rw [decide_eq_false k4] at hq
                  have K4 := Lib.hid k4
                  clear k4
                  by_cases k5 : x.r < 1
                  · skip
                    have HNO : Hid (¬ MayG kT ns es) := no_edge HX.out (fun h => by have := h.2.2.2.1; omega)
                    refine wp_region_held_drew (S := fun W => Below wn.heap.size wn W) (by kernel_rfl) ?_ (fun hHeld => ?_)
                    · exact (Below.refl _ _).drew
                    refine wpAnyH_take (i := 0) (v := ?v0_12) rfl (by kernel_rfl) (by kernel_rfl) (by kernel_rfl) (fun _ _ _ h => h) (Or.inl ⟨by rfl, ?hy0_12⟩) (by assumption) ?_
                    case hy0_12 => (intro W hSw; (try dsimp only at hSw); go_simp; (try with_reducible rfl))
                    try simp only [Act.put, pA, pB, pD, pE, pF]
                    refine wpAnyH_take (i := 1) (v := ?v1_12) rfl (by kernel_rfl) (by kernel_rfl) (by kernel_rfl) (fun _ _ _ h => h) (Or.inl ⟨by rfl, ?hy1_12⟩) (by assumption) ?_
                    case hy1_12 => (intro W hSw; (try dsimp only at hSw); go_simp; (try with_reducible rfl))
                    try simp only [Act.put, pA, pB, pC, pD, pE, pF]
                    refine wpAnyH_take (i := 2) (v := ?v2_12) rfl (by kernel_rfl) (by kernel_rfl) (by kernel_rfl) (fun _ _ _ h => h) (Or.inl ⟨by rfl, ?hy2_12⟩) (by assumption) ?_
                    case hy2_12 => (intro W hSw; (try dsimp only at hSw); go_simp; (try with_reducible rfl))
                    try simp only [Act.put, pA, pB, pC, pD, pE, pF]
                    refine wpAnyH_take (i := 3) (v := ?v3_12) rfl (by kernel_rfl) (by kernel_rfl) (by kernel_rfl) (fun _ _ _ h => h) (Or.inl ⟨by rfl, ?hy3_12⟩) (by assumption) ?_
                    case hy3_12 => (intro W hSw; (try dsimp only at hSw); go_simp; (try with_reducible rfl))
                    try simp only [Act.put, pA, pB, pC, pD, pE, pF]
                    refine wpAnyH_take (i := 4) (v := ?v4_12) rfl (by kernel_rfl) (by kernel_rfl) (by kernel_rfl) (fun _ _ _ h => h) (Or.inl ⟨by rfl, ?hy4_12⟩) (by assumption) ?_
                    case hy4_12 => (intro W hSw; (try dsimp only at hSw); go_simp; (try with_reducible rfl))
                    try simp only [Act.put, pA, pB, pC, pD, pE, pF]
                    refine wpAnyH_take (i := 5) (v := ?v5_12) rfl (by kernel_rfl) (by kernel_rfl) (by kernel_rfl) (fun _ _ _ h => h) (Or.inl ⟨by rfl, ?hy5_12⟩) (by assumption) ?_
                    case hy5_12 => (intro W hSw; (try dsimp only at hSw); go_simp; (try with_reducible rfl))
                    try simp only [Act.put, pA, pB, pC, pD, pE, pF]
                    refine wpAnyH_take (i := 6) (v := ?v6_12) rfl (by kernel_rfl) (by kernel_rfl) (by kernel_rfl) (fun _ _ _ h => h) (Or.inl ⟨by rfl, ?hy6_12⟩) (by assumption) ?_
                    case hy6_12 => (intro W hSw; (try dsimp only at hSw); go_simp; (try with_reducible rfl))
                    try simp only [Act.put, pA, pB, pC, pD, pE, pF]
                    refine wpAnyH_take (i := 7) (v := ?v7_12) rfl (by kernel_rfl) (by kernel_rfl) (by kernel_rfl) (fun _ _ _ h => h) (Or.inl ⟨by rfl, ?hy7_12⟩) (by assumption) ?_
                    case hy7_12 => (intro W hSw; (try dsimp only at hSw); go_simp; (try with_reducible rfl))
                    try simp only [Act.put, pA, pB, pC, pD, pE, pF]
                    refine wpAnyH_take (i := 8) (v := ?v8_12) rfl (by kernel_rfl) (by kernel_rfl) (by kernel_rfl) (fun _ _ _ h => h) (Or.inl ⟨by rfl, ?hy8_12⟩) (by assumption) ?_
                    case hy8_12 => (intro W hSw; have p0 := (Below.cell hSw (p := ⟨nb, 2, none⟩) hnl).trans n2; (try dsimp only at hSw); go_simp; (try with_reducible rfl))
                    try simp only [Act.put, pA, pB, pC, pD, pE, pF]
                    refine wpAnyH_take (i := 9) (v := ?v9_12) rfl (by kernel_rfl) (by kernel_rfl) (by kernel_rfl) (fun _ _ _ h => h) (Or.inl ⟨by rfl, ?hy9_12⟩) (by assumption) ?_
                    case hy9_12 => (intro W hSw; (try dsimp only at hSw); go_simp; (try with_reducible rfl))
                    try simp only [Act.put, pA, pB, pC, pD, pE, pF]
                    refine wpAnyH_take (i := 10) (v := ?v10_12) rfl (by kernel_rfl) (by kernel_rfl) (by kernel_rfl) (fun _ _ _ h => h) (Or.inl ⟨by rfl, ?hy10_12⟩) (by assumption) ?_
                    case hy10_12 => (intro W hSw; (try dsimp only at hSw); go_simp; (try with_reducible rfl))
                    try simp only [Act.put, pA, pB, pC, pD, pE, pF]
                    refine wpAnyH_take (i := 11) (v := ?v11_12) rfl (by kernel_rfl) (by kernel_rfl) (by kernel_rfl) (fun _ _ _ h => h) (Or.inl ⟨by rfl, ?hy11_12⟩) (by assumption) ?_
                    case hy11_12 => (intro W hSw; (try dsimp only at hSw); go_simp; (try with_reducible rfl))
                    try simp only [Act.put, pA, pB, pC, pD, pE, pF]
                    refine wpAnyH_take (i := 12) (v := ?v12_12) rfl (by kernel_rfl) (by kernel_rfl) (by kernel_rfl) (fun _ _ _ h => h) (Or.inl ⟨by rfl, ?hy12_12⟩) (by assumption) ?_
                    case hy12_12 => (intro W hSw; (try dsimp only at hSw); go_simp; (try with_reducible rfl))
                    try simp only [Act.put, pA, pB, pC, pD, pE, pF]
                    refine wpAnyH_take (i := 13) (v := ?v13_12) rfl (by kernel_rfl) (by kernel_rfl) (by kernel_rfl) (fun _ _ _ h => h) (Or.inl ⟨by rfl, ?hy13_12⟩) (by assumption) ?_
                    case hy13_12 => (intro W hSw; have p0 := (Below.cell hSw (p := ⟨xb, 0, none⟩) hxl).trans x0; (try dsimp only at hSw); go_simp; (try with_reducible rfl))
                    try simp only [Act.put, pA, pB, pC, pD, pE, pF]
                    refine wpAnyH_take (i := 14) (v := ?v14_12) rfl (by kernel_rfl) (by kernel_rfl) (by kernel_rfl) (fun _ _ _ h => h) (Or.inl ⟨by rfl, ?hy14_12⟩) (by assumption) ?_
                    case hy14_12 => (intro W hSw; (try dsimp only at hSw); go_simp; (try with_reducible rfl))
                    try simp only [Act.put, pA, pB, pC, pD, pE, pF]
                    refine wpAnyH_take (i := 15) (v := ?v15_12) rfl (by kernel_rfl) (by kernel_rfl) (by kernel_rfl) (fun _ _ _ h => h) (Or.inl ⟨by rfl, ?hy15_12⟩) (by assumption) ?_
                    case hy15_12 => (intro W hSw; have p1 := (Below.cell hSw (p := ⟨xb, 1, none⟩) hxl).trans x1; (try dsimp only at hSw); go_simp; (try with_reducible rfl))
                    try simp only [Act.put, pA, pB, pC, pD, pE, pF]
                    refine wpAnyH_take (i := 16) (v := ?v16_12) rfl (by kernel_rfl) (by kernel_rfl) (by kernel_rfl) (fun _ _ _ h => h) (Or.inl ⟨by rfl, ?hy16_12⟩) (by assumption) ?_
                    case hy16_12 => (intro W hSw; (try dsimp only at hSw); go_simp; (try with_reducible rfl))
                    try simp only [Act.put, pA, pB, pC, pD, pE, pF]
                    refine wpAnyH_take (i := 17) (v := ?v17_12) rfl (by kernel_rfl) (by kernel_rfl) (by kernel_rfl) (fun _ _ _ h => h) (Or.inl ⟨by rfl, ?hy17_12⟩) (by assumption) ?_
                    case hy17_12 => (intro W hSw; (try dsimp only at hSw); go_simp; (try with_reducible rfl))
                    try simp only [Act.put, pA, pB, pC, pD, pE, pF]
                    refine wpAnyH_take (i := 18) (v := ?v18_12) rfl (by kernel_rfl) (by kernel_rfl) (by kernel_rfl) (fun _ _ _ h => h) (Or.inl ⟨by rfl, ?hy18_12⟩) (by assumption) ?_
                    case hy18_12 => (intro W hSw; (try dsimp only at hSw); go_simp; (try with_reducible rfl))
                    try simp only [Act.put, pA, pB, pC, pD, pE, pF]
                    refine wpAnyH_take (i := 19) (v := ?v19_12) rfl (by kernel_rfl) (by kernel_rfl) (by kernel_rfl) (fun _ _ _ h => h) (Or.inl ⟨by rfl, ?hy19_12⟩) (by assumption) ?_
                    case hy19_12 => (intro W hSw; (try dsimp only at hSw); go_simp; (try with_reducible rfl))
                    try simp only [Act.put, pA, pB, pC, pD, pE, pF]
                    refine wpAnyH_take (i := 20) (v := ?v20_12) rfl (by kernel_rfl) (by kernel_rfl) (by kernel_rfl) (fun _ _ _ h => h) (Or.inl ⟨by rfl, ?hy20_12⟩) (by assumption) ?_
                    case hy20_12 => (intro W hSw; have p2 := (Below.cell hSw (p := ⟨xb, 2, none⟩) hxl).trans x2; (try dsimp only at hSw); go_simp; (try with_reducible rfl))
                    try simp only [Act.put, pA, pB, pC, pD, pE, pF]
                    refine wpAnyH_take (i := 21) (v := ?v21_12) rfl (by kernel_rfl) (by kernel_rfl) (by kernel_rfl) (fun _ _ _ h => h) (Or.inl ⟨by rfl, ?hy21_12⟩) (by assumption) ?_
                    case hy21_12 => (intro W hSw; (try dsimp only at hSw); go_simp; (try with_reducible rfl))
                    try simp only [Act.put, pA, pB, pC, pD, pE, pF]
                    refine wpAnyH_take (i := 22) (v := ?v22_12) rfl (by kernel_rfl) (by kernel_rfl) (by kernel_rfl) (fun _ _ _ h => h) (Or.inl ⟨by rfl, ?hy22_12⟩) (by assumption) ?_
                    case hy22_12 => (intro W hSw; (try dsimp only at hSw); go_simp; (try with_reducible rfl))
                    try simp only [Act.put, pA, pB, pC, pD, pE, pF]
                    refine wpAnyH_take (i := 23) (v := ?v23_12) rfl (by kernel_rfl) (by kernel_rfl) (by kernel_rfl) (fun _ _ _ h => h) (Or.inl ⟨by rfl, ?hy23_12⟩) (by assumption) ?_
                    case hy23_12 => (intro W hSw; (try dsimp only at hSw); go_simp; (try with_reducible rfl))
                    try simp only [Act.put, pA, pB, pC, pD, pE, pF]
                    refine wpAnyH_take (i := 24) (v := undef) rfl (by kernel_rfl) (by kernel_rfl) (by kernel_rfl) (fun _ _ _ h => h) (Or.inr ⟨by rfl, rfl⟩) (by assumption) ?_
                    try simp only [Act.put, pA, pB, pC, pD, pE, pF]
                    refine wpAnyH_take (i := 25) (v := undef) rfl (by kernel_rfl) (by kernel_rfl) (by kernel_rfl) (fun _ _ _ h => h) (Or.inr ⟨by rfl, rfl⟩) (by assumption) ?_
                    try simp only [Act.put, pA, pB, pC, pD, pE, pF]
                    refine wpAnyH_take (i := 26) (v := undef) rfl (by kernel_rfl) (by kernel_rfl) (by kernel_rfl) (fun _ _ _ h => h) (Or.inr ⟨by rfl, rfl⟩) (by assumption) ?_
                    try simp only [Act.put, pA, pB, pC, pD, pE, pF]
                    refine wpAnyH_take (i := 27) (v := ?v27_12) rfl (by kernel_rfl) (by kernel_rfl) (by kernel_rfl) (fun _ _ _ h => h) (Or.inl ⟨by rfl, ?hy27_12⟩) (by assumption) ?_
                    case hy27_12 => (intro W hSw; (try dsimp only at hSw); go_simp; (try with_reducible rfl))
                    try simp only [Act.put, pA, pB, pC, pD, pE, pF]
                    refine wpAnyH_take (i := 28) (v := ?v28_12) rfl (by kernel_rfl) (by kernel_rfl) (by kernel_rfl) (fun _ _ _ h => h) (Or.inl ⟨by rfl, ?hy28_12⟩) (by assumption) ?_
                    case hy28_12 => (intro W hSw; (try dsimp only at hSw); go_simp; (try with_reducible rfl))
                    try simp only [Act.put, pA, pB, pC, pD, pE, pF]
                    refine wpAnyH_take (i := 29) (v := undef) rfl (by kernel_rfl) (by kernel_rfl) (by kernel_rfl) (fun _ _ _ h => h) (Or.inr ⟨by rfl, rfl⟩) (by assumption) ?_
                    try simp only [Act.put, pA, pB, pC, pD, pE, pF]
                    refine wpAnyH_take (i := 30) (v := undef) rfl (by kernel_rfl) (by kernel_rfl) (by kernel_rfl) (fun _ _ _ h => h) (Or.inr ⟨by rfl, rfl⟩) (by assumption) ?_
                    try simp only [Act.put, pA, pB, pC, pD, pE, pF]
                    refine wpAnyH_take (i := 31) (v := undef) rfl (by kernel_rfl) (by kernel_rfl) (by kernel_rfl) (fun _ _ _ h => h) (Or.inr ⟨by rfl, rfl⟩) (by assumption) ?_
                    try simp only [Act.put, pA, pB, pC, pD, pE, pF]
                    refine wpAnyH_take (i := 32) (v := undef) rfl (by kernel_rfl) (by kernel_rfl) (by kernel_rfl) (fun _ _ _ h => h) (Or.inr ⟨by rfl, rfl⟩) (by assumption) ?_
                    try simp only [Act.put, pA, pB, pC, pD, pE, pF]
                    refine wpAnyH_take (i := 33) (v := undef) rfl (by kernel_rfl) (by kernel_rfl) (by kernel_rfl) (fun _ _ _ h => h) (Or.inr ⟨by rfl, rfl⟩) (by assumption) ?_
                    try simp only [Act.put, pA, pB, pC, pD, pE, pF]
                    refine wpAnyH_take (i := 34) (v := undef) rfl (by kernel_rfl) (by kernel_rfl) (by kernel_rfl) (fun _ _ _ h => h) (Or.inr ⟨by rfl, rfl⟩) (by assumption) ?_
                    try simp only [Act.put, pA, pB, pC, pD, pE, pF]
                    refine wpAnyH_take (i := 35) (v := undef) rfl (by kernel_rfl) (by kernel_rfl) (by kernel_rfl) (fun _ _ _ h => h) (Or.inr ⟨by rfl, rfl⟩) (by assumption) ?_
                    try simp only [Act.put, pA, pB, pC, pD, pE, pF]
                    refine wpAnyH_take (i := 36) (v := undef) rfl (by kernel_rfl) (by kernel_rfl) (by kernel_rfl) (fun _ _ _ h => h) (Or.inr ⟨by rfl, rfl⟩) (by assumption) ?_
                    try simp only [Act.put, pA, pB, pC, pD, pE, pF]
                    refine wpAnyH_take (i := 37) (v := undef) rfl (by kernel_rfl) (by kernel_rfl) (by kernel_rfl) (fun _ _ _ h => h) (Or.inr ⟨by rfl, rfl⟩) (by assumption) ?_
                    try simp only [Act.put, pA, pB, pC, pD, pE, pF]
                    refine wpAnyH_take (i := 38) (v := undef) rfl (by kernel_rfl) (by kernel_rfl) (by kernel_rfl) (fun _ _ _ h => h) (Or.inr ⟨by rfl, rfl⟩) (by assumption) ?_
                    try simp only [Act.put, pA, pB, pC, pD, pE, pF]
                    refine wpAnyH_take (i := 39) (v := undef) rfl (by kernel_rfl) (by kernel_rfl) (by kernel_rfl) (fun _ _ _ h => h) (Or.inr ⟨by rfl, rfl⟩) (by assumption) ?_
                    try simp only [Act.put, pA, pB, pC, pD, pE, pF]
                    refine wpAnyH_take (i := 40) (v := undef) rfl (by kernel_rfl) (by kernel_rfl) (by kernel_rfl) (fun _ _ _ h => h) (Or.inr ⟨by rfl, rfl⟩) (by assumption) ?_
                    try simp only [Act.put, pA, pB, pC, pD, pE, pF]
                    refine wpAnyH_take (i := 41) (v := undef) rfl (by kernel_rfl) (by kernel_rfl) (by kernel_rfl) (fun _ _ _ h => h) (Or.inr ⟨by rfl, rfl⟩) (by assumption) ?_
                    try simp only [Act.put, pA, pB, pC, pD, pE, pF]
                    refine wpAnyH_take (i := 42) (v := ?v42_12) rfl (by kernel_rfl) (by kernel_rfl) (by kernel_rfl) (fun _ _ _ h => h) (Or.inl ⟨by rfl, ?hy42_12⟩) (by assumption) ?_
                    case hy42_12 => (intro W hSw; (try dsimp only at hSw); go_simp; (try with_reducible rfl))
                    try simp only [Act.put, pA, pB, pC, pD, pE, pF]
                    refine wpAnyH_done (by kernel_rfl) ?_ _
                    have HZ : Hid (Below w.heap.size w _) := HB0.out.trans ((HWB.out.trans (hHeld.mono HWB.out.size)).mono HB0.out.size)
                    go_wp2_with fail
                    go_ret
                    exact mayNo HNO.out HZ.out
                  · have k5' : 1 ≤ x.r := by omega
                    by_cases k6 : 10 < x.r
                    · skip
                      have HNO : Hid (¬ MayG kT ns es) := no_edge HX.out (fun h => by have := h.2.2.2.2; omega)
                      refine wp_region_held_drew (S := fun W => Below wn.heap.size wn W) (by kernel_rfl) ?_ (fun hHeld => ?_)
                      · exact (Below.refl _ _).drew
                      refine wpAnyH_take (i := 0) (v := ?v0_13) rfl (by kernel_rfl) (by kernel_rfl) (by kernel_rfl) (fun _ _ _ h => h) (Or.inl ⟨by rfl, ?hy0_13⟩) (by assumption) ?_
                      case hy0_13 => (intro W hSw; (try dsimp only at hSw); go_simp; (try with_reducible rfl))
                      try simp only [Act.put, pA, pB, pD, pE, pF]
                      refine wpAnyH_take (i := 1) (v := ?v1_13) rfl (by kernel_rfl) (by kernel_rfl) (by kernel_rfl) (fun _ _ _ h => h) (Or.inl ⟨by rfl, ?hy1_13⟩) (by assumption) ?_
                      case hy1_13 => (intro W hSw; (try dsimp only at hSw); go_simp; (try with_reducible rfl))
                      try simp only [Act.put, pA, pB, pC, pD, pE, pF]
                      refine wpAnyH_take (i := 2) (v := ?v2_13) rfl (by kernel_rfl) (by kernel_rfl) (by kernel_rfl) (fun _ _ _ h => h) (Or.inl ⟨by rfl, ?hy2_13⟩) (by assumption) ?_
                      case hy2_13 => (intro W hSw; (try dsimp only at hSw); go_simp; (try with_reducible rfl))
                      try simp only [Act.put, pA, pB, pC, pD, pE, pF]
                      refine wpAnyH_take (i := 3) (v := ?v3_13) rfl (by kernel_rfl) (by kernel_rfl) (by kernel_rfl) (fun _ _ _ h => h) (Or.inl ⟨by rfl, ?hy3_13⟩) (by assumption) ?_
                      case hy3_13 => (intro W hSw; (try dsimp only at hSw); go_simp; (try with_reducible rfl))
                      try simp only [Act.put, pA, pB, pC, pD, pE, pF]
                      refine wpAnyH_take (i := 4) (v := ?v4_13) rfl (by kernel_rfl) (by kernel_rfl) (by kernel_rfl) (fun _ _ _ h => h) (Or.inl ⟨by rfl, ?hy4_13⟩) (by assumption) ?_
                      case hy4_13 => (intro W hSw; (try dsimp only at hSw); go_simp; (try with_reducible rfl))
                      try simp only [Act.put, pA, pB, pC, pD, pE, pF]
                      refine wpAnyH_take (i := 5) (v := ?v5_13) rfl (by kernel_rfl) (by kernel_rfl) (by kernel_rfl) (fun _ _ _ h => h) (Or.inl ⟨by rfl, ?hy5_13⟩) (by assumption) ?_
                      case hy5_13 => (intro W hSw; (try dsimp only at hSw); go_simp; (try with_reducible rfl))
                      try simp only [Act.put, pA, pB, pC, pD, pE, pF]
                      refine wpAnyH_take (i := 6) (v := ?v6_13) rfl (by kernel_rfl) (by kernel_rfl) (by kernel_rfl) (fun _ _ _ h => h) (Or.inl ⟨by rfl, ?hy6_13⟩) (by assumption) ?_
                      case hy6_13 => (intro W hSw; (try dsimp only at hSw); go_simp; (try with_reducible rfl))
                      try simp only [Act.put, pA, pB, pC, pD, pE, pF]
                      refine wpAnyH_take (i := 7) (v := ?v7_13) rfl (by kernel_rfl) (by kernel_rfl) (by kernel_rfl) (fun _ _ _ h => h) (Or.inl ⟨by rfl, ?hy7_13⟩) (by assumption) ?_
                      case hy7_13 => (intro W hSw; (try dsimp only at hSw); go_simp; (try with_reducible rfl))
                      try simp only [Act.put, pA, pB, pC, pD, pE, pF]
                      refine wpAnyH_take (i := 8) (v := ?v8_13) rfl (by kernel_rfl) (by kernel_rfl) (by kernel_rfl) (fun _ _ _ h => h) (Or.inl ⟨by rfl, ?hy8_13⟩) (by assumption) ?_
                      case hy8_13 => (intro W hSw; have p0 := (Below.cell hSw (p := ⟨nb, 2, none⟩) hnl).trans n2; (try dsimp only at hSw); go_simp; (try with_reducible rfl))
                      try simp only [Act.put, pA, pB, pC, pD, pE, pF]
                      refine wpAnyH_take (i := 9) (v := ?v9_13) rfl (by kernel_rfl) (by kernel_rfl) (by kernel_rfl) (fun _ _ _ h => h) (Or.inl ⟨by rfl, ?hy9_13⟩) (by assumption) ?_
                      case hy9_13 => (intro W hSw; (try dsimp only at hSw); go_simp; (try with_reducible rfl))
                      try simp only [Act.put, pA, pB, pC, pD, pE, pF]
                      refine wpAnyH_take (i := 10) (v := ?v10_13) rfl (by kernel_rfl) (by kernel_rfl) (by kernel_rfl) (fun _ _ _ h => h) (Or.inl ⟨by rfl, ?hy10_13⟩) (by assumption) ?_
                      case hy10_13 => (intro W hSw; (try dsimp only at hSw); go_simp; (try with_reducible rfl))
                      try simp only [Act.put, pA, pB, pC, pD, pE, pF]
                      refine wpAnyH_take (i := 11) (v := ?v11_13) rfl (by kernel_rfl) (by kernel_rfl) (by kernel_rfl) (fun _ _ _ h => h) (Or.inl ⟨by rfl, ?hy11_13⟩) (by assumption) ?_
                      case hy11_13 => (intro W hSw; (try dsimp only at hSw); go_simp; (try with_reducible rfl))
                      try simp only [Act.put, pA, pB, pC, pD, pE, pF]
                      refine wpAnyH_take (i := 12) (v := ?v12_13) rfl (by kernel_rfl) (by kernel_rfl) (by kernel_rfl) (fun _ _ _ h => h) (Or.inl ⟨by rfl, ?hy12_13⟩) (by assumption) ?_
                      case hy12_13 => (intro W hSw; (try dsimp only at hSw); go_simp; (try with_reducible rfl))
                      try simp only [Act.put, pA, pB, pC, pD, pE, pF]
                      refine wpAnyH_take (i := 13) (v := ?v13_13) rfl (by kernel_rfl) (by kernel_rfl) (by kernel_rfl) (fun _ _ _ h => h) (Or.inl ⟨by rfl, ?hy13_13⟩) (by assumption) ?_
                      case hy13_13 => (intro W hSw; have p0 := (Below.cell hSw (p := ⟨xb, 0, none⟩) hxl).trans x0; (try dsimp only at hSw); go_simp; (try with_reducible rfl))
                      try simp only [Act.put, pA, pB, pC, pD, pE, pF]
                      refine wpAnyH_take (i := 14) (v := ?v14_13) rfl (by kernel_rfl) (by kernel_rfl) (by kernel_rfl) (fun _ _ _ h => h) (Or.inl ⟨by rfl, ?hy14_13⟩) (by assumption) ?_
                      case hy14_13 => (intro W hSw; (try dsimp only at hSw); go_simp; (try with_reducible rfl))
                      try simp only [Act.put, pA, pB, pC, pD, pE, pF]
                      refine wpAnyH_take (i := 15) (v := ?v15_13) rfl (by kernel_rfl) (by kernel_rfl) (by kernel_rfl) (fun _ _ _ h => h) (Or.inl ⟨by rfl, ?hy15_13⟩) (by assumption) ?_
                      case hy15_13 => (intro W hSw; have p1 := (Below.cell hSw (p := ⟨xb, 1, none⟩) hxl).trans x1; (try dsimp only at hSw); go_simp; (try with_reducible rfl))
                      try simp only [Act.put, pA, pB, pC, pD, pE, pF]
                      refine wpAnyH_take (i := 16) (v := ?v16_13) rfl (by kernel_rfl) (by kernel_rfl) (by kernel_rfl) (fun _ _ _ h => h) (Or.inl ⟨by rfl, ?hy16_13⟩) (by assumption) ?_
                      case hy16_13 => (intro W hSw; (try dsimp only at hSw); go_simp; (try with_reducible rfl))
                      try simp only [Act.put, pA, pB, pC, pD, pE, pF]
                      refine wpAnyH_take (i := 17) (v := ?v17_13) rfl (by kernel_rfl) (by kernel_rfl) (by kernel_rfl) (fun _ _ _ h => h) (Or.inl ⟨by rfl, ?hy17_13⟩) (by assumption) ?_
                      case hy17_13 => (intro W hSw; (try dsimp only at hSw); go_simp; (try with_reducible rfl))
                      try simp only [Act.put, pA, pB, pC, pD, pE, pF]
                      refine wpAnyH_take (i := 18) (v := ?v18_13) rfl (by kernel_rfl) (by kernel_rfl) (by kernel_rfl) (fun _ _ _ h => h) (Or.inl ⟨by rfl, ?hy18_13⟩) (by assumption) ?_
                      case hy18_13 => (intro W hSw; (try dsimp only at hSw); go_simp; (try with_reducible rfl))
                      try simp only [Act.put, pA, pB, pC, pD, pE, pF]
                      refine wpAnyH_take (i := 19) (v := ?v19_13) rfl (by kernel_rfl) (by kernel_rfl) (by kernel_rfl) (fun _ _ _ h => h) (Or.inl ⟨by rfl, ?hy19_13⟩) (by assumption) ?_
                      case hy19_13 => (intro W hSw; (try dsimp only at hSw); go_simp; (try with_reducible rfl))
                      try simp only [Act.put, pA, pB, pC, pD, pE, pF]
                      refine wpAnyH_take (i := 20) (v := ?v20_13) rfl (by kernel_rfl) (by kernel_rfl) (by kernel_rfl) (fun _ _ _ h => h) (Or.inl ⟨by rfl, ?hy20_13⟩) (by assumption) ?_
                      case hy20_13 => (intro W hSw; have p2 := (Below.cell hSw (p := ⟨xb, 2, none⟩) hxl).trans x2; (try dsimp only at hSw); go_simp; (try with_reducible rfl))
                      try simp only [Act.put, pA, pB, pC, pD, pE, pF]
                      refine wpAnyH_take (i := 21) (v := ?v21_13) rfl (by kernel_rfl) (by kernel_rfl) (by kernel_rfl) (fun _ _ _ h => h) (Or.inl ⟨by rfl, ?hy21_13⟩) (by assumption) ?_
                      case hy21_13 => (intro W hSw; (try dsimp only at hSw); go_simp; (try with_reducible rfl))
                      try simp only [Act.put, pA, pB, pC, pD, pE, pF]
                      refine wpAnyH_take (i := 22) (v := ?v22_13) rfl (by kernel_rfl) (by kernel_rfl) (by kernel_rfl) (fun _ _ _ h => h) (Or.inl ⟨by rfl, ?hy22_13⟩) (by assumption) ?_
                      case hy22_13 => (intro W hSw; (try dsimp only at hSw); go_simp; (try with_reducible rfl))
                      try simp only [Act.put, pA, pB, pC, pD, pE, pF]
                      refine wpAnyH_take (i := 23) (v := ?v23_13) rfl (by kernel_rfl) (by kernel_rfl) (by kernel_rfl) (fun _ _ _ h => h) (Or.inl ⟨by rfl, ?hy23_13⟩) (by assumption) ?_
                      case hy23_13 => (intro W hSw; (try dsimp only at hSw); go_simp; (try with_reducible rfl))
                      try simp only [Act.put, pA, pB, pC, pD, pE, pF]
                      refine wpAnyH_take (i := 24) (v := ?v24_13) rfl (by kernel_rfl) (by kernel_rfl) (by kernel_rfl) (fun _ _ _ h => h) (Or.inl ⟨by rfl, ?hy24_13⟩) (by assumption) ?_
                      case hy24_13 => (intro W hSw; (try dsimp only at hSw); go_simp; (try with_reducible rfl))
                      try simp only [Act.put, pA, pB, pC, pD, pE, pF]
                      refine wpAnyH_take (i := 25) (v := ?v25_13) rfl (by kernel_rfl) (by kernel_rfl) (by kernel_rfl) (fun _ _ _ h => h) (Or.inl ⟨by rfl, ?hy25_13⟩) (by assumption) ?_
                      case hy25_13 => (intro W hSw; have p2 := (Below.cell hSw (p := ⟨xb, 2, none⟩) hxl).trans x2; (try dsimp only at hSw); go_simp; (try with_reducible rfl))
                      try simp only [Act.put, pA, pB, pC, pD, pE, pF]
                      refine wpAnyH_take (i := 26) (v := ?v26_13) rfl (by kernel_rfl) (by kernel_rfl) (by kernel_rfl) (fun _ _ _ h => h) (Or.inl ⟨by rfl, ?hy26_13⟩) (by assumption) ?_
                      case hy26_13 => (intro W hSw; (try dsimp only at hSw); go_simp; (try with_reducible rfl))
                      try simp only [Act.put, pA, pB, pC, pD, pE, pF]
                      refine wpAnyH_take (i := 27) (v := ?v27_13) rfl (by kernel_rfl) (by kernel_rfl) (by kernel_rfl) (fun _ _ _ h => h) (Or.inl ⟨by rfl, ?hy27_13⟩) (by assumption) ?_
                      case hy27_13 => (intro W hSw; (try dsimp only at hSw); go_simp; (try with_reducible rfl))
                      try simp only [Act.put, pA, pB, pC, pD, pE, pF]
                      refine wpAnyH_take (i := 28) (v := ?v28_13) rfl (by kernel_rfl) (by kernel_rfl) (by kernel_rfl) (fun _ _ _ h => h) (Or.inl ⟨by rfl, ?hy28_13⟩) (by assumption) ?_
                      case hy28_13 => (intro W hSw; (try dsimp only at hSw); go_simp; (try with_reducible rfl))
                      try simp only [Act.put, pA, pB, pC, pD, pE, pF]
                      refine wpAnyH_take (i := 29) (v := undef) rfl (by kernel_rfl) (by kernel_rfl) (by kernel_rfl) (fun _ _ _ h => h) (Or.inr ⟨by rfl, rfl⟩) (by assumption) ?_
                      try simp only [Act.put, pA, pB, pC, pD, pE, pF]
                      refine wpAnyH_take (i := 30) (v := undef) rfl (by kernel_rfl) (by kernel_rfl) (by kernel_rfl) (fun _ _ _ h => h) (Or.inr ⟨by rfl, rfl⟩) (by assumption) ?_
                      try simp only [Act.put, pA, pB, pC, pD, pE, pF]
                      refine wpAnyH_take (i := 31) (v := undef) rfl (by kernel_rfl) (by kernel_rfl) (by kernel_rfl) (fun _ _ _ h => h) (Or.inr ⟨by rfl, rfl⟩) (by assumption) ?_
                      try simp only [Act.put, pA, pB, pC, pD, pE, pF]
                      refine wpAnyH_take (i := 32) (v := undef) rfl (by kernel_rfl) (by kernel_rfl) (by kernel_rfl) (fun _ _ _ h => h) (Or.inr ⟨by rfl, rfl⟩) (by assumption) ?_
                      try simp only [Act.put, pA, pB, pC, pD, pE, pF]
                      refine wpAnyH_take (i := 33) (v := undef) rfl (by kernel_rfl) (by kernel_rfl) (by kernel_rfl) (fun _ _ _ h => h) (Or.inr ⟨by rfl, rfl⟩) (by assumption) ?_
                      try simp only [Act.put, pA, pB, pC, pD, pE, pF]
                      refine wpAnyH_take (i := 34) (v := undef) rfl (by kernel_rfl) (by kernel_rfl) (by kernel_rfl) (fun _ _ _ h => h) (Or.inr ⟨by rfl, rfl⟩) (by assumption) ?_
                      try simp only [Act.put, pA, pB, pC, pD, pE, pF]
                      refine wpAnyH_take (i := 35) (v := undef) rfl (by kernel_rfl) (by kernel_rfl) (by kernel_rfl) (fun _ _ _ h => h) (Or.inr ⟨by rfl, rfl⟩) (by assumption) ?_
                      try simp only [Act.put, pA, pB, pC, pD, pE, pF]
                      refine wpAnyH_take (i := 36) (v := undef) rfl (by kernel_rfl) (by kernel_rfl) (by kernel_rfl) (fun _ _ _ h => h) (Or.inr ⟨by rfl, rfl⟩) (by assumption) ?_
                      try simp only [Act.put, pA, pB, pC, pD, pE, pF]
                      refine wpAnyH_take (i := 37) (v := undef) rfl (by kernel_rfl) (by kernel_rfl) (by kernel_rfl) (fun _ _ _ h => h) (Or.inr ⟨by rfl, rfl⟩) (by assumption) ?_
                      try simp only [Act.put, pA, pB, pC, pD, pE, pF]
                      refine wpAnyH_take (i := 38) (v := undef) rfl (by kernel_rfl) (by kernel_rfl) (by kernel_rfl) (fun _ _ _ h => h) (Or.inr ⟨by rfl, rfl⟩) (by assumption) ?_
                      try simp only [Act.put, pA, pB, pC, pD, pE, pF]
                      refine wpAnyH_take (i := 39) (v := undef) rfl (by kernel_rfl) (by kernel_rfl) (by kernel_rfl) (fun _ _ _ h => h) (Or.inr ⟨by rfl, rfl⟩) (by assumption) ?_
                      try simp only [Act.put, pA, pB, pC, pD, pE, pF]
                      refine wpAnyH_take (i := 40) (v := undef) rfl (by kernel_rfl) (by kernel_rfl) (by kernel_rfl) (fun _ _ _ h => h) (Or.inr ⟨by rfl, rfl⟩) (by assumption) ?_
                      try simp only [Act.put, pA, pB, pC, pD, pE, pF]
                      refine wpAnyH_take (i := 41) (v := undef) rfl (by kernel_rfl) (by kernel_rfl) (by kernel_rfl) (fun _ _ _ h => h) (Or.inr ⟨by rfl, rfl⟩) (by assumption) ?_
                      try simp only [Act.put, pA, pB, pC, pD, pE, pF]
                      refine wpAnyH_take (i := 42) (v := ?v42_13) rfl (by kernel_rfl) (by kernel_rfl) (by kernel_rfl) (fun _ _ _ h => h) (Or.inl ⟨by rfl, ?hy42_13⟩) (by assumption) ?_
                      case hy42_13 => (intro W hSw; (try dsimp only at hSw); go_simp; (try with_reducible rfl))
                      try simp only [Act.put, pA, pB, pC, pD, pE, pF]
                      refine wpAnyH_done (by kernel_rfl) ?_ _
                      have HZ : Hid (Below w.heap.size w _) := HB0.out.trans ((HWB.out.trans (hHeld.mono HWB.out.size)).mono HB0.out.size)
                      go_wp2_with fail
                      go_ret
                      exact mayNo HNO.out HZ.out
                    · have k6' : x.r ≤ 10 := by omega
                      have HGD : Hid (goodE ns x) := ⟨⟨a, HA1.out, K3.out⟩, his, K4.out, k5', k6'⟩
                      by_cases k7 : 0 < k
                      · have k7' : (0 : Int) < (k : Int) := by omega
                        obtain ⟨ad', y, hA, hab', hy, z0, z1, z2⟩ := eds_at HNn.out (by omega : k - 1 < es.length)
                        injection hA with hA
                        subst hA
                        have hpb : (ad.add ((k - 1) * 3)).block < wn.heap.size := by rw [addA_block]; omega
                        have k8 : (k : Int) - 1 = ((k - 1 : Nat) : Int) := by omega
                        have k9 : IntKind.i64.wrap ((k - 1 : Nat) : Int) = ((k - 1 : Nat) : Int) := IntWalk.i64_in _ (by omega)
                        have k10 : ((k - 1 : Nat) : Int) < (es.length : Int) := by omega
                        have k11 : (0 : Int) ≤ ((k - 1 : Nat) : Int) := by omega
                        have HY := Lib.hid hy
                        clear hy
                        rcases hls : decide (ltE y x) with _ | _
                        · have k12 : ¬ ltE y x := of_decide_eq_false hls
                          have K12 := Lib.hid k12
                          clear k12
                          have HNO : Hid (¬ MayG kT ns es) := no_riseE k7 HX.out HY.out K12.out
                          refine wp_region_held_drew (S := fun W => Below wn.heap.size wn W) (by kernel_rfl) ?_ (fun hHeld => ?_)
                          · exact (Below.refl _ _).drew
                          refine wpAnyH_take (i := 0) (v := ?v0_14) rfl (by kernel_rfl) (by kernel_rfl) (by kernel_rfl) (fun _ _ _ h => h) (Or.inl ⟨by rfl, ?hy0_14⟩) (by assumption) ?_
                          case hy0_14 => (intro W hSw; (try dsimp only at hSw); go_simp; (try with_reducible rfl))
                          try simp only [Act.put, pA, pB, pD, pE, pF]
                          refine wpAnyH_take (i := 1) (v := ?v1_14) rfl (by kernel_rfl) (by kernel_rfl) (by kernel_rfl) (fun _ _ _ h => h) (Or.inl ⟨by rfl, ?hy1_14⟩) (by assumption) ?_
                          case hy1_14 => (intro W hSw; (try dsimp only at hSw); go_simp; (try with_reducible rfl))
                          try simp only [Act.put, pA, pB, pC, pD, pE, pF]
                          refine wpAnyH_take (i := 2) (v := ?v2_14) rfl (by kernel_rfl) (by kernel_rfl) (by kernel_rfl) (fun _ _ _ h => h) (Or.inl ⟨by rfl, ?hy2_14⟩) (by assumption) ?_
                          case hy2_14 => (intro W hSw; (try dsimp only at hSw); go_simp; (try with_reducible rfl))
                          try simp only [Act.put, pA, pB, pC, pD, pE, pF]
                          refine wpAnyH_take (i := 3) (v := ?v3_14) rfl (by kernel_rfl) (by kernel_rfl) (by kernel_rfl) (fun _ _ _ h => h) (Or.inl ⟨by rfl, ?hy3_14⟩) (by assumption) ?_
                          case hy3_14 => (intro W hSw; (try dsimp only at hSw); go_simp; (try with_reducible rfl))
                          try simp only [Act.put, pA, pB, pC, pD, pE, pF]
                          refine wpAnyH_take (i := 4) (v := ?v4_14) rfl (by kernel_rfl) (by kernel_rfl) (by kernel_rfl) (fun _ _ _ h => h) (Or.inl ⟨by rfl, ?hy4_14⟩) (by assumption) ?_
                          case hy4_14 => (intro W hSw; (try dsimp only at hSw); go_simp; (try with_reducible rfl))
                          try simp only [Act.put, pA, pB, pC, pD, pE, pF]
                          refine wpAnyH_take (i := 5) (v := ?v5_14) rfl (by kernel_rfl) (by kernel_rfl) (by kernel_rfl) (fun _ _ _ h => h) (Or.inl ⟨by rfl, ?hy5_14⟩) (by assumption) ?_
                          case hy5_14 => (intro W hSw; (try dsimp only at hSw); go_simp; (try with_reducible rfl))
                          try simp only [Act.put, pA, pB, pC, pD, pE, pF]
                          refine wpAnyH_take (i := 6) (v := ?v6_14) rfl (by kernel_rfl) (by kernel_rfl) (by kernel_rfl) (fun _ _ _ h => h) (Or.inl ⟨by rfl, ?hy6_14⟩) (by assumption) ?_
                          case hy6_14 => (intro W hSw; (try dsimp only at hSw); go_simp; (try with_reducible rfl))
                          try simp only [Act.put, pA, pB, pC, pD, pE, pF]
                          refine wpAnyH_take (i := 7) (v := ?v7_14) rfl (by kernel_rfl) (by kernel_rfl) (by kernel_rfl) (fun _ _ _ h => h) (Or.inl ⟨by rfl, ?hy7_14⟩) (by assumption) ?_
                          case hy7_14 => (intro W hSw; (try dsimp only at hSw); go_simp; (try with_reducible rfl))
                          try simp only [Act.put, pA, pB, pC, pD, pE, pF]
                          refine wpAnyH_take (i := 8) (v := ?v8_14) rfl (by kernel_rfl) (by kernel_rfl) (by kernel_rfl) (fun _ _ _ h => h) (Or.inl ⟨by rfl, ?hy8_14⟩) (by assumption) ?_
                          case hy8_14 => (intro W hSw; have p0 := (Below.cell hSw (p := ⟨nb, 2, none⟩) hnl).trans n2; (try dsimp only at hSw); go_simp; (try with_reducible rfl))
                          try simp only [Act.put, pA, pB, pC, pD, pE, pF]
                          refine wpAnyH_take (i := 9) (v := ?v9_14) rfl (by kernel_rfl) (by kernel_rfl) (by kernel_rfl) (fun _ _ _ h => h) (Or.inl ⟨by rfl, ?hy9_14⟩) (by assumption) ?_
                          case hy9_14 => (intro W hSw; (try dsimp only at hSw); go_simp; (try with_reducible rfl))
                          try simp only [Act.put, pA, pB, pC, pD, pE, pF]
                          refine wpAnyH_take (i := 10) (v := ?v10_14) rfl (by kernel_rfl) (by kernel_rfl) (by kernel_rfl) (fun _ _ _ h => h) (Or.inl ⟨by rfl, ?hy10_14⟩) (by assumption) ?_
                          case hy10_14 => (intro W hSw; (try dsimp only at hSw); go_simp; (try with_reducible rfl))
                          try simp only [Act.put, pA, pB, pC, pD, pE, pF]
                          refine wpAnyH_take (i := 11) (v := ?v11_14) rfl (by kernel_rfl) (by kernel_rfl) (by kernel_rfl) (fun _ _ _ h => h) (Or.inl ⟨by rfl, ?hy11_14⟩) (by assumption) ?_
                          case hy11_14 => (intro W hSw; (try dsimp only at hSw); go_simp; (try with_reducible rfl))
                          try simp only [Act.put, pA, pB, pC, pD, pE, pF]
                          refine wpAnyH_take (i := 12) (v := ?v12_14) rfl (by kernel_rfl) (by kernel_rfl) (by kernel_rfl) (fun _ _ _ h => h) (Or.inl ⟨by rfl, ?hy12_14⟩) (by assumption) ?_
                          case hy12_14 => (intro W hSw; (try dsimp only at hSw); go_simp; (try with_reducible rfl))
                          try simp only [Act.put, pA, pB, pC, pD, pE, pF]
                          refine wpAnyH_take (i := 13) (v := ?v13_14) rfl (by kernel_rfl) (by kernel_rfl) (by kernel_rfl) (fun _ _ _ h => h) (Or.inl ⟨by rfl, ?hy13_14⟩) (by assumption) ?_
                          case hy13_14 => (intro W hSw; have p0 := (Below.cell hSw (p := ⟨xb, 0, none⟩) hxl).trans x0; (try dsimp only at hSw); go_simp; (try with_reducible rfl))
                          try simp only [Act.put, pA, pB, pC, pD, pE, pF]
                          refine wpAnyH_take (i := 14) (v := ?v14_14) rfl (by kernel_rfl) (by kernel_rfl) (by kernel_rfl) (fun _ _ _ h => h) (Or.inl ⟨by rfl, ?hy14_14⟩) (by assumption) ?_
                          case hy14_14 => (intro W hSw; (try dsimp only at hSw); go_simp; (try with_reducible rfl))
                          try simp only [Act.put, pA, pB, pC, pD, pE, pF]
                          refine wpAnyH_take (i := 15) (v := ?v15_14) rfl (by kernel_rfl) (by kernel_rfl) (by kernel_rfl) (fun _ _ _ h => h) (Or.inl ⟨by rfl, ?hy15_14⟩) (by assumption) ?_
                          case hy15_14 => (intro W hSw; have p1 := (Below.cell hSw (p := ⟨xb, 1, none⟩) hxl).trans x1; (try dsimp only at hSw); go_simp; (try with_reducible rfl))
                          try simp only [Act.put, pA, pB, pC, pD, pE, pF]
                          refine wpAnyH_take (i := 16) (v := ?v16_14) rfl (by kernel_rfl) (by kernel_rfl) (by kernel_rfl) (fun _ _ _ h => h) (Or.inl ⟨by rfl, ?hy16_14⟩) (by assumption) ?_
                          case hy16_14 => (intro W hSw; (try dsimp only at hSw); go_simp; (try with_reducible rfl))
                          try simp only [Act.put, pA, pB, pC, pD, pE, pF]
                          refine wpAnyH_take (i := 17) (v := ?v17_14) rfl (by kernel_rfl) (by kernel_rfl) (by kernel_rfl) (fun _ _ _ h => h) (Or.inl ⟨by rfl, ?hy17_14⟩) (by assumption) ?_
                          case hy17_14 => (intro W hSw; (try dsimp only at hSw); go_simp; (try with_reducible rfl))
                          try simp only [Act.put, pA, pB, pC, pD, pE, pF]
                          refine wpAnyH_take (i := 18) (v := ?v18_14) rfl (by kernel_rfl) (by kernel_rfl) (by kernel_rfl) (fun _ _ _ h => h) (Or.inl ⟨by rfl, ?hy18_14⟩) (by assumption) ?_
                          case hy18_14 => (intro W hSw; (try dsimp only at hSw); go_simp; (try with_reducible rfl))
                          try simp only [Act.put, pA, pB, pC, pD, pE, pF]
                          refine wpAnyH_take (i := 19) (v := ?v19_14) rfl (by kernel_rfl) (by kernel_rfl) (by kernel_rfl) (fun _ _ _ h => h) (Or.inl ⟨by rfl, ?hy19_14⟩) (by assumption) ?_
                          case hy19_14 => (intro W hSw; (try dsimp only at hSw); go_simp; (try with_reducible rfl))
                          try simp only [Act.put, pA, pB, pC, pD, pE, pF]
                          refine wpAnyH_take (i := 20) (v := ?v20_14) rfl (by kernel_rfl) (by kernel_rfl) (by kernel_rfl) (fun _ _ _ h => h) (Or.inl ⟨by rfl, ?hy20_14⟩) (by assumption) ?_
                          case hy20_14 => (intro W hSw; have p2 := (Below.cell hSw (p := ⟨xb, 2, none⟩) hxl).trans x2; (try dsimp only at hSw); go_simp; (try with_reducible rfl))
                          try simp only [Act.put, pA, pB, pC, pD, pE, pF]
                          refine wpAnyH_take (i := 21) (v := ?v21_14) rfl (by kernel_rfl) (by kernel_rfl) (by kernel_rfl) (fun _ _ _ h => h) (Or.inl ⟨by rfl, ?hy21_14⟩) (by assumption) ?_
                          case hy21_14 => (intro W hSw; (try dsimp only at hSw); go_simp; (try with_reducible rfl))
                          try simp only [Act.put, pA, pB, pC, pD, pE, pF]
                          refine wpAnyH_take (i := 22) (v := ?v22_14) rfl (by kernel_rfl) (by kernel_rfl) (by kernel_rfl) (fun _ _ _ h => h) (Or.inl ⟨by rfl, ?hy22_14⟩) (by assumption) ?_
                          case hy22_14 => (intro W hSw; (try dsimp only at hSw); go_simp; (try with_reducible rfl))
                          try simp only [Act.put, pA, pB, pC, pD, pE, pF]
                          refine wpAnyH_take (i := 23) (v := ?v23_14) rfl (by kernel_rfl) (by kernel_rfl) (by kernel_rfl) (fun _ _ _ h => h) (Or.inl ⟨by rfl, ?hy23_14⟩) (by assumption) ?_
                          case hy23_14 => (intro W hSw; (try dsimp only at hSw); go_simp; (try with_reducible rfl))
                          try simp only [Act.put, pA, pB, pC, pD, pE, pF]
                          refine wpAnyH_take (i := 24) (v := ?v24_14) rfl (by kernel_rfl) (by kernel_rfl) (by kernel_rfl) (fun _ _ _ h => h) (Or.inl ⟨by rfl, ?hy24_14⟩) (by assumption) ?_
                          case hy24_14 => (intro W hSw; (try dsimp only at hSw); go_simp; (try with_reducible rfl))
                          try simp only [Act.put, pA, pB, pC, pD, pE, pF]
                          refine wpAnyH_take (i := 25) (v := ?v25_14) rfl (by kernel_rfl) (by kernel_rfl) (by kernel_rfl) (fun _ _ _ h => h) (Or.inl ⟨by rfl, ?hy25_14⟩) (by assumption) ?_
                          case hy25_14 => (intro W hSw; have p2 := (Below.cell hSw (p := ⟨xb, 2, none⟩) hxl).trans x2; (try dsimp only at hSw); go_simp; (try with_reducible rfl))
                          try simp only [Act.put, pA, pB, pC, pD, pE, pF]
                          refine wpAnyH_take (i := 26) (v := ?v26_14) rfl (by kernel_rfl) (by kernel_rfl) (by kernel_rfl) (fun _ _ _ h => h) (Or.inl ⟨by rfl, ?hy26_14⟩) (by assumption) ?_
                          case hy26_14 => (intro W hSw; (try dsimp only at hSw); go_simp; (try with_reducible rfl))
                          try simp only [Act.put, pA, pB, pC, pD, pE, pF]
                          refine wpAnyH_take (i := 27) (v := ?v27_14) rfl (by kernel_rfl) (by kernel_rfl) (by kernel_rfl) (fun _ _ _ h => h) (Or.inl ⟨by rfl, ?hy27_14⟩) (by assumption) ?_
                          case hy27_14 => (intro W hSw; (try dsimp only at hSw); go_simp; (try with_reducible rfl))
                          try simp only [Act.put, pA, pB, pC, pD, pE, pF]
                          refine wpAnyH_take (i := 28) (v := ?v28_14) rfl (by kernel_rfl) (by kernel_rfl) (by kernel_rfl) (fun _ _ _ h => h) (Or.inl ⟨by rfl, ?hy28_14⟩) (by assumption) ?_
                          case hy28_14 => (intro W hSw; (try dsimp only at hSw); go_simp; (try with_reducible rfl))
                          try simp only [Act.put, pA, pB, pC, pD, pE, pF]
                          refine wpAnyH_take (i := 29) (v := ?v29_14) rfl (by kernel_rfl) (by kernel_rfl) (by kernel_rfl) (fun _ _ _ h => h) (Or.inl ⟨by rfl, ?hy29_14⟩) (by assumption) ?_
                          case hy29_14 => (intro W hSw; (try dsimp only at hSw); go_simp; (try with_reducible rfl))
                          try simp only [Act.put, pA, pB, pC, pD, pE, pF]
                          refine wpAnyH_take (i := 30) (v := ?v30_14) rfl (by kernel_rfl) (by kernel_rfl) (by kernel_rfl) (fun _ _ _ h => h) (Or.inl ⟨by rfl, ?hy30_14⟩) (by assumption) ?_
                          case hy30_14 => (intro W hSw; (try dsimp only at hSw); go_simp; (try with_reducible rfl))
                          try simp only [Act.put, pA, pB, pC, pD, pE, pF]
                          refine wpAnyH_take (i := 31) (v := ?v31_14) rfl (by kernel_rfl) (by kernel_rfl) (by kernel_rfl) (fun _ _ _ h => h) (Or.inl ⟨by rfl, ?hy31_14⟩) (by assumption) ?_
                          case hy31_14 => (intro W hSw; (try dsimp only at hSw); go_simp; (try with_reducible rfl))
                          try simp only [Act.put, pA, pB, pC, pD, pE, pF]
                          refine wpAnyH_take (i := 32) (v := ?v32_14) rfl (by kernel_rfl) (by kernel_rfl) (by kernel_rfl) (fun _ _ _ h => h) (Or.inl ⟨by rfl, ?hy32_14⟩) (by assumption) ?_
                          case hy32_14 => (intro W hSw; (try dsimp only at hSw); go_simp; (try with_reducible rfl))
                          try simp only [Act.put, pA, pB, pC, pD, pE, pF]
                          refine wpAnyH_take (i := 33) (v := ?v33_14) rfl (by kernel_rfl) (by kernel_rfl) (by kernel_rfl) (fun _ _ _ h => h) (Or.inl ⟨by rfl, ?hy33_14⟩) (by assumption) ?_
                          case hy33_14 => (intro W hSw; have p0 := (Below.cell hSw (p := ⟨b, 1, none⟩) hbn).trans y0; (try dsimp only at hSw); go_simp; (try with_reducible rfl))
                          try simp only [Act.put, pA, pB, pC, pD, pE, pF]
                          refine wpAnyH_take (i := 34) (v := ?v34_14) rfl (by kernel_rfl) (by kernel_rfl) (by kernel_rfl) (fun _ _ _ h => h) (Or.inl ⟨by rfl, ?hy34_14⟩) (by assumption) ?_
                          case hy34_14 => (intro W hSw; (try dsimp only at hSw); go_simp; (try with_reducible rfl))
                          try simp only [Act.put, pA, pB, pC, pD, pE, pF]
                          refine wpAnyH_take (i := 35) (v := ?v35_14) rfl (by kernel_rfl) (by kernel_rfl) (by kernel_rfl) (fun _ _ _ h => h) (Or.inl ⟨by rfl, ?hy35_14⟩) (by assumption) ?_
                          case hy35_14 => (intro W hSw; (try dsimp only at hSw); go_simp; (try with_reducible rfl))
                          try simp only [Act.put, pA, pB, pC, pD, pE, pF]
                          refine wpAnyH_take (i := 36) (v := ?v36_14) rfl (by kernel_rfl) (by kernel_rfl) (by kernel_rfl) (fun _ _ _ h => h) (Or.inl ⟨by rfl, ?hy36_14⟩) (by assumption) ?_
                          case hy36_14 => (intro W hSw; (try dsimp only at hSw); go_simp; (try with_reducible rfl))
                          try simp only [Act.put, pA, pB, pC, pD, pE, pF]
                          refine wpAnyH_take (i := 37) (v := ?v37_14) rfl (by kernel_rfl) (by kernel_rfl) (by kernel_rfl) (fun _ _ _ h => h) (Or.inl ⟨by rfl, ?hy37_14⟩) (by assumption) ?_
                          case hy37_14 => (intro W hSw; have p0 := (Below.cell hSw hpb).trans z0; have p1 := (Below.cell hSw (p := ⟨(ad.add ((k - 1) * 3)).block, (ad.add ((k - 1) * 3)).off + 1, none⟩) hpb).trans z1; have p2 := (Below.cell hSw (p := ⟨(ad.add ((k - 1) * 3)).block, (ad.add ((k - 1) * 3)).off + 2, none⟩) hpb).trans z2; (try dsimp only at hSw); go_simp; (try with_reducible rfl))
                          try simp only [Act.put, pA, pB, pC, pD, pE, pF]
                          refine wpAnyH_take (i := 38) (v := ?v38_14) rfl (by kernel_rfl) (by kernel_rfl) (by kernel_rfl) (fun _ _ _ h => h) (Or.inl ⟨by rfl, ?hy38_14⟩) (by assumption) ?_
                          case hy38_14 => (intro W hSw; have p0 := (Below.cell hSw (p := ⟨xb, 0, none⟩) hxl).trans x0; have p1 := (Below.cell hSw (p := ⟨xb, 1, none⟩) hxl).trans x1; have p2 := (Below.cell hSw (p := ⟨xb, 2, none⟩) hxl).trans x2; (try dsimp only at hSw); go_simp; (try with_reducible rfl))
                          try simp only [Act.put, pA, pB, pC, pD, pE, pF]
                          refine wpAnyH_ready (rs := [39]) (by kernel_rfl) (by simp) ?_
                          refine AllReadyH.cons rfl (fun K hK => ?_) AllReadyH.nil
                          go_simp
                          refine (gLess_any y x _).mono ?_
                          rintro e wq ⟨rfl, hbq⟩
                          rw [hls]
                          refine hK.out _ _ ?_ (fun hHeld2 => ?_)
                          · exact more3 hHeld hHeld.size hbq
                          clear hK K hHeld hbq
                          have hHeld := hHeld2
                          clear hHeld2
                          try simp only [Act.put, pA, pB, pC, pD, pE, pF]
                          refine wpAnyH_take (i := 40) (v := ?v40_14) rfl (by kernel_rfl) (by kernel_rfl) (by kernel_rfl) (fun _ _ _ h => h) (Or.inl ⟨by rfl, ?hy40_14⟩) (by assumption) ?_
                          case hy40_14 => (intro W hSw; (try dsimp only at hSw); go_simp; (try with_reducible rfl))
                          try simp only [Act.put, pA, pB, pC, pD, pE, pF]
                          refine wpAnyH_take (i := 41) (v := ?v41_14) rfl (by kernel_rfl) (by kernel_rfl) (by kernel_rfl) (fun _ _ _ h => h) (Or.inl ⟨by rfl, ?hy41_14⟩) (by assumption) ?_
                          case hy41_14 => (intro W hSw; (try dsimp only at hSw); go_simp; (try with_reducible rfl))
                          try simp only [Act.put, pA, pB, pC, pD, pE, pF]
                          refine wpAnyH_take (i := 42) (v := ?v42_14) rfl (by kernel_rfl) (by kernel_rfl) (by kernel_rfl) (fun _ _ _ h => h) (Or.inl ⟨by rfl, ?hy42_14⟩) (by assumption) ?_
                          case hy42_14 => (intro W hSw; (try dsimp only at hSw); go_simp; (try with_reducible rfl))
                          try simp only [Act.put, pA, pB, pC, pD, pE, pF]
                          refine wpAnyH_done (by kernel_rfl) ?_ _
                          have HZ : Hid (Below w.heap.size w _) := HB0.out.trans ((HWB.out.trans (hHeld.mono HWB.out.size)).mono HB0.out.size)
                          go_wp2_with fail
                          go_ret
                          exact mayNo HNO.out HZ.out
                        · have k12 : ltE y x := of_decide_eq_true hls
                          have K12 := Lib.hid k12
                          clear k12
                          refine wp_region_held_drew (S := fun W => Below wn.heap.size wn W) (by kernel_rfl) ?_ (fun hHeld => ?_)
                          · exact (Below.refl _ _).drew
                          refine wpAnyH_take (i := 0) (v := ?v0_15) rfl (by kernel_rfl) (by kernel_rfl) (by kernel_rfl) (fun _ _ _ h => h) (Or.inl ⟨by rfl, ?hy0_15⟩) (by assumption) ?_
                          case hy0_15 => (intro W hSw; (try dsimp only at hSw); go_simp; (try with_reducible rfl))
                          try simp only [Act.put, pA, pB, pD, pE, pF]
                          refine wpAnyH_take (i := 1) (v := ?v1_15) rfl (by kernel_rfl) (by kernel_rfl) (by kernel_rfl) (fun _ _ _ h => h) (Or.inl ⟨by rfl, ?hy1_15⟩) (by assumption) ?_
                          case hy1_15 => (intro W hSw; (try dsimp only at hSw); go_simp; (try with_reducible rfl))
                          try simp only [Act.put, pA, pB, pC, pD, pE, pF]
                          refine wpAnyH_take (i := 2) (v := ?v2_15) rfl (by kernel_rfl) (by kernel_rfl) (by kernel_rfl) (fun _ _ _ h => h) (Or.inl ⟨by rfl, ?hy2_15⟩) (by assumption) ?_
                          case hy2_15 => (intro W hSw; (try dsimp only at hSw); go_simp; (try with_reducible rfl))
                          try simp only [Act.put, pA, pB, pC, pD, pE, pF]
                          refine wpAnyH_take (i := 3) (v := ?v3_15) rfl (by kernel_rfl) (by kernel_rfl) (by kernel_rfl) (fun _ _ _ h => h) (Or.inl ⟨by rfl, ?hy3_15⟩) (by assumption) ?_
                          case hy3_15 => (intro W hSw; (try dsimp only at hSw); go_simp; (try with_reducible rfl))
                          try simp only [Act.put, pA, pB, pC, pD, pE, pF]
                          refine wpAnyH_take (i := 4) (v := ?v4_15) rfl (by kernel_rfl) (by kernel_rfl) (by kernel_rfl) (fun _ _ _ h => h) (Or.inl ⟨by rfl, ?hy4_15⟩) (by assumption) ?_
                          case hy4_15 => (intro W hSw; (try dsimp only at hSw); go_simp; (try with_reducible rfl))
                          try simp only [Act.put, pA, pB, pC, pD, pE, pF]
                          refine wpAnyH_take (i := 5) (v := ?v5_15) rfl (by kernel_rfl) (by kernel_rfl) (by kernel_rfl) (fun _ _ _ h => h) (Or.inl ⟨by rfl, ?hy5_15⟩) (by assumption) ?_
                          case hy5_15 => (intro W hSw; (try dsimp only at hSw); go_simp; (try with_reducible rfl))
                          try simp only [Act.put, pA, pB, pC, pD, pE, pF]
                          refine wpAnyH_take (i := 6) (v := ?v6_15) rfl (by kernel_rfl) (by kernel_rfl) (by kernel_rfl) (fun _ _ _ h => h) (Or.inl ⟨by rfl, ?hy6_15⟩) (by assumption) ?_
                          case hy6_15 => (intro W hSw; (try dsimp only at hSw); go_simp; (try with_reducible rfl))
                          try simp only [Act.put, pA, pB, pC, pD, pE, pF]
                          refine wpAnyH_take (i := 7) (v := ?v7_15) rfl (by kernel_rfl) (by kernel_rfl) (by kernel_rfl) (fun _ _ _ h => h) (Or.inl ⟨by rfl, ?hy7_15⟩) (by assumption) ?_
                          case hy7_15 => (intro W hSw; (try dsimp only at hSw); go_simp; (try with_reducible rfl))
                          try simp only [Act.put, pA, pB, pC, pD, pE, pF]
                          refine wpAnyH_take (i := 8) (v := ?v8_15) rfl (by kernel_rfl) (by kernel_rfl) (by kernel_rfl) (fun _ _ _ h => h) (Or.inl ⟨by rfl, ?hy8_15⟩) (by assumption) ?_
                          case hy8_15 => (intro W hSw; have p0 := (Below.cell hSw (p := ⟨nb, 2, none⟩) hnl).trans n2; (try dsimp only at hSw); go_simp; (try with_reducible rfl))
                          try simp only [Act.put, pA, pB, pC, pD, pE, pF]
                          refine wpAnyH_take (i := 9) (v := ?v9_15) rfl (by kernel_rfl) (by kernel_rfl) (by kernel_rfl) (fun _ _ _ h => h) (Or.inl ⟨by rfl, ?hy9_15⟩) (by assumption) ?_
                          case hy9_15 => (intro W hSw; (try dsimp only at hSw); go_simp; (try with_reducible rfl))
                          try simp only [Act.put, pA, pB, pC, pD, pE, pF]
                          refine wpAnyH_take (i := 10) (v := ?v10_15) rfl (by kernel_rfl) (by kernel_rfl) (by kernel_rfl) (fun _ _ _ h => h) (Or.inl ⟨by rfl, ?hy10_15⟩) (by assumption) ?_
                          case hy10_15 => (intro W hSw; (try dsimp only at hSw); go_simp; (try with_reducible rfl))
                          try simp only [Act.put, pA, pB, pC, pD, pE, pF]
                          refine wpAnyH_take (i := 11) (v := ?v11_15) rfl (by kernel_rfl) (by kernel_rfl) (by kernel_rfl) (fun _ _ _ h => h) (Or.inl ⟨by rfl, ?hy11_15⟩) (by assumption) ?_
                          case hy11_15 => (intro W hSw; (try dsimp only at hSw); go_simp; (try with_reducible rfl))
                          try simp only [Act.put, pA, pB, pC, pD, pE, pF]
                          refine wpAnyH_take (i := 12) (v := ?v12_15) rfl (by kernel_rfl) (by kernel_rfl) (by kernel_rfl) (fun _ _ _ h => h) (Or.inl ⟨by rfl, ?hy12_15⟩) (by assumption) ?_
                          case hy12_15 => (intro W hSw; (try dsimp only at hSw); go_simp; (try with_reducible rfl))
                          try simp only [Act.put, pA, pB, pC, pD, pE, pF]
                          refine wpAnyH_take (i := 13) (v := ?v13_15) rfl (by kernel_rfl) (by kernel_rfl) (by kernel_rfl) (fun _ _ _ h => h) (Or.inl ⟨by rfl, ?hy13_15⟩) (by assumption) ?_
                          case hy13_15 => (intro W hSw; have p0 := (Below.cell hSw (p := ⟨xb, 0, none⟩) hxl).trans x0; (try dsimp only at hSw); go_simp; (try with_reducible rfl))
                          try simp only [Act.put, pA, pB, pC, pD, pE, pF]
                          refine wpAnyH_take (i := 14) (v := ?v14_15) rfl (by kernel_rfl) (by kernel_rfl) (by kernel_rfl) (fun _ _ _ h => h) (Or.inl ⟨by rfl, ?hy14_15⟩) (by assumption) ?_
                          case hy14_15 => (intro W hSw; (try dsimp only at hSw); go_simp; (try with_reducible rfl))
                          try simp only [Act.put, pA, pB, pC, pD, pE, pF]
                          refine wpAnyH_take (i := 15) (v := ?v15_15) rfl (by kernel_rfl) (by kernel_rfl) (by kernel_rfl) (fun _ _ _ h => h) (Or.inl ⟨by rfl, ?hy15_15⟩) (by assumption) ?_
                          case hy15_15 => (intro W hSw; have p1 := (Below.cell hSw (p := ⟨xb, 1, none⟩) hxl).trans x1; (try dsimp only at hSw); go_simp; (try with_reducible rfl))
                          try simp only [Act.put, pA, pB, pC, pD, pE, pF]
                          refine wpAnyH_take (i := 16) (v := ?v16_15) rfl (by kernel_rfl) (by kernel_rfl) (by kernel_rfl) (fun _ _ _ h => h) (Or.inl ⟨by rfl, ?hy16_15⟩) (by assumption) ?_
                          case hy16_15 => (intro W hSw; (try dsimp only at hSw); go_simp; (try with_reducible rfl))
                          try simp only [Act.put, pA, pB, pC, pD, pE, pF]
                          refine wpAnyH_take (i := 17) (v := ?v17_15) rfl (by kernel_rfl) (by kernel_rfl) (by kernel_rfl) (fun _ _ _ h => h) (Or.inl ⟨by rfl, ?hy17_15⟩) (by assumption) ?_
                          case hy17_15 => (intro W hSw; (try dsimp only at hSw); go_simp; (try with_reducible rfl))
                          try simp only [Act.put, pA, pB, pC, pD, pE, pF]
                          refine wpAnyH_take (i := 18) (v := ?v18_15) rfl (by kernel_rfl) (by kernel_rfl) (by kernel_rfl) (fun _ _ _ h => h) (Or.inl ⟨by rfl, ?hy18_15⟩) (by assumption) ?_
                          case hy18_15 => (intro W hSw; (try dsimp only at hSw); go_simp; (try with_reducible rfl))
                          try simp only [Act.put, pA, pB, pC, pD, pE, pF]
                          refine wpAnyH_take (i := 19) (v := ?v19_15) rfl (by kernel_rfl) (by kernel_rfl) (by kernel_rfl) (fun _ _ _ h => h) (Or.inl ⟨by rfl, ?hy19_15⟩) (by assumption) ?_
                          case hy19_15 => (intro W hSw; (try dsimp only at hSw); go_simp; (try with_reducible rfl))
                          try simp only [Act.put, pA, pB, pC, pD, pE, pF]
                          refine wpAnyH_take (i := 20) (v := ?v20_15) rfl (by kernel_rfl) (by kernel_rfl) (by kernel_rfl) (fun _ _ _ h => h) (Or.inl ⟨by rfl, ?hy20_15⟩) (by assumption) ?_
                          case hy20_15 => (intro W hSw; have p2 := (Below.cell hSw (p := ⟨xb, 2, none⟩) hxl).trans x2; (try dsimp only at hSw); go_simp; (try with_reducible rfl))
                          try simp only [Act.put, pA, pB, pC, pD, pE, pF]
                          refine wpAnyH_take (i := 21) (v := ?v21_15) rfl (by kernel_rfl) (by kernel_rfl) (by kernel_rfl) (fun _ _ _ h => h) (Or.inl ⟨by rfl, ?hy21_15⟩) (by assumption) ?_
                          case hy21_15 => (intro W hSw; (try dsimp only at hSw); go_simp; (try with_reducible rfl))
                          try simp only [Act.put, pA, pB, pC, pD, pE, pF]
                          refine wpAnyH_take (i := 22) (v := ?v22_15) rfl (by kernel_rfl) (by kernel_rfl) (by kernel_rfl) (fun _ _ _ h => h) (Or.inl ⟨by rfl, ?hy22_15⟩) (by assumption) ?_
                          case hy22_15 => (intro W hSw; (try dsimp only at hSw); go_simp; (try with_reducible rfl))
                          try simp only [Act.put, pA, pB, pC, pD, pE, pF]
                          refine wpAnyH_take (i := 23) (v := ?v23_15) rfl (by kernel_rfl) (by kernel_rfl) (by kernel_rfl) (fun _ _ _ h => h) (Or.inl ⟨by rfl, ?hy23_15⟩) (by assumption) ?_
                          case hy23_15 => (intro W hSw; (try dsimp only at hSw); go_simp; (try with_reducible rfl))
                          try simp only [Act.put, pA, pB, pC, pD, pE, pF]
                          refine wpAnyH_take (i := 24) (v := ?v24_15) rfl (by kernel_rfl) (by kernel_rfl) (by kernel_rfl) (fun _ _ _ h => h) (Or.inl ⟨by rfl, ?hy24_15⟩) (by assumption) ?_
                          case hy24_15 => (intro W hSw; (try dsimp only at hSw); go_simp; (try with_reducible rfl))
                          try simp only [Act.put, pA, pB, pC, pD, pE, pF]
                          refine wpAnyH_take (i := 25) (v := ?v25_15) rfl (by kernel_rfl) (by kernel_rfl) (by kernel_rfl) (fun _ _ _ h => h) (Or.inl ⟨by rfl, ?hy25_15⟩) (by assumption) ?_
                          case hy25_15 => (intro W hSw; have p2 := (Below.cell hSw (p := ⟨xb, 2, none⟩) hxl).trans x2; (try dsimp only at hSw); go_simp; (try with_reducible rfl))
                          try simp only [Act.put, pA, pB, pC, pD, pE, pF]
                          refine wpAnyH_take (i := 26) (v := ?v26_15) rfl (by kernel_rfl) (by kernel_rfl) (by kernel_rfl) (fun _ _ _ h => h) (Or.inl ⟨by rfl, ?hy26_15⟩) (by assumption) ?_
                          case hy26_15 => (intro W hSw; (try dsimp only at hSw); go_simp; (try with_reducible rfl))
                          try simp only [Act.put, pA, pB, pC, pD, pE, pF]
                          refine wpAnyH_take (i := 27) (v := ?v27_15) rfl (by kernel_rfl) (by kernel_rfl) (by kernel_rfl) (fun _ _ _ h => h) (Or.inl ⟨by rfl, ?hy27_15⟩) (by assumption) ?_
                          case hy27_15 => (intro W hSw; (try dsimp only at hSw); go_simp; (try with_reducible rfl))
                          try simp only [Act.put, pA, pB, pC, pD, pE, pF]
                          refine wpAnyH_take (i := 28) (v := ?v28_15) rfl (by kernel_rfl) (by kernel_rfl) (by kernel_rfl) (fun _ _ _ h => h) (Or.inl ⟨by rfl, ?hy28_15⟩) (by assumption) ?_
                          case hy28_15 => (intro W hSw; (try dsimp only at hSw); go_simp; (try with_reducible rfl))
                          try simp only [Act.put, pA, pB, pC, pD, pE, pF]
                          refine wpAnyH_take (i := 29) (v := ?v29_15) rfl (by kernel_rfl) (by kernel_rfl) (by kernel_rfl) (fun _ _ _ h => h) (Or.inl ⟨by rfl, ?hy29_15⟩) (by assumption) ?_
                          case hy29_15 => (intro W hSw; (try dsimp only at hSw); go_simp; (try with_reducible rfl))
                          try simp only [Act.put, pA, pB, pC, pD, pE, pF]
                          refine wpAnyH_take (i := 30) (v := ?v30_15) rfl (by kernel_rfl) (by kernel_rfl) (by kernel_rfl) (fun _ _ _ h => h) (Or.inl ⟨by rfl, ?hy30_15⟩) (by assumption) ?_
                          case hy30_15 => (intro W hSw; (try dsimp only at hSw); go_simp; (try with_reducible rfl))
                          try simp only [Act.put, pA, pB, pC, pD, pE, pF]
                          refine wpAnyH_take (i := 31) (v := ?v31_15) rfl (by kernel_rfl) (by kernel_rfl) (by kernel_rfl) (fun _ _ _ h => h) (Or.inl ⟨by rfl, ?hy31_15⟩) (by assumption) ?_
                          case hy31_15 => (intro W hSw; (try dsimp only at hSw); go_simp; (try with_reducible rfl))
                          try simp only [Act.put, pA, pB, pC, pD, pE, pF]
                          refine wpAnyH_take (i := 32) (v := ?v32_15) rfl (by kernel_rfl) (by kernel_rfl) (by kernel_rfl) (fun _ _ _ h => h) (Or.inl ⟨by rfl, ?hy32_15⟩) (by assumption) ?_
                          case hy32_15 => (intro W hSw; (try dsimp only at hSw); go_simp; (try with_reducible rfl))
                          try simp only [Act.put, pA, pB, pC, pD, pE, pF]
                          refine wpAnyH_take (i := 33) (v := ?v33_15) rfl (by kernel_rfl) (by kernel_rfl) (by kernel_rfl) (fun _ _ _ h => h) (Or.inl ⟨by rfl, ?hy33_15⟩) (by assumption) ?_
                          case hy33_15 => (intro W hSw; have p0 := (Below.cell hSw (p := ⟨b, 1, none⟩) hbn).trans y0; (try dsimp only at hSw); go_simp; (try with_reducible rfl))
                          try simp only [Act.put, pA, pB, pC, pD, pE, pF]
                          refine wpAnyH_take (i := 34) (v := ?v34_15) rfl (by kernel_rfl) (by kernel_rfl) (by kernel_rfl) (fun _ _ _ h => h) (Or.inl ⟨by rfl, ?hy34_15⟩) (by assumption) ?_
                          case hy34_15 => (intro W hSw; (try dsimp only at hSw); go_simp; (try with_reducible rfl))
                          try simp only [Act.put, pA, pB, pC, pD, pE, pF]
                          refine wpAnyH_take (i := 35) (v := ?v35_15) rfl (by kernel_rfl) (by kernel_rfl) (by kernel_rfl) (fun _ _ _ h => h) (Or.inl ⟨by rfl, ?hy35_15⟩) (by assumption) ?_
                          case hy35_15 => (intro W hSw; (try dsimp only at hSw); go_simp; (try with_reducible rfl))
                          try simp only [Act.put, pA, pB, pC, pD, pE, pF]
                          refine wpAnyH_take (i := 36) (v := ?v36_15) rfl (by kernel_rfl) (by kernel_rfl) (by kernel_rfl) (fun _ _ _ h => h) (Or.inl ⟨by rfl, ?hy36_15⟩) (by assumption) ?_
                          case hy36_15 => (intro W hSw; (try dsimp only at hSw); go_simp; (try with_reducible rfl))
                          try simp only [Act.put, pA, pB, pC, pD, pE, pF]
                          refine wpAnyH_take (i := 37) (v := ?v37_15) rfl (by kernel_rfl) (by kernel_rfl) (by kernel_rfl) (fun _ _ _ h => h) (Or.inl ⟨by rfl, ?hy37_15⟩) (by assumption) ?_
                          case hy37_15 => (intro W hSw; have p0 := (Below.cell hSw hpb).trans z0; have p1 := (Below.cell hSw (p := ⟨(ad.add ((k - 1) * 3)).block, (ad.add ((k - 1) * 3)).off + 1, none⟩) hpb).trans z1; have p2 := (Below.cell hSw (p := ⟨(ad.add ((k - 1) * 3)).block, (ad.add ((k - 1) * 3)).off + 2, none⟩) hpb).trans z2; (try dsimp only at hSw); go_simp; (try with_reducible rfl))
                          try simp only [Act.put, pA, pB, pC, pD, pE, pF]
                          refine wpAnyH_take (i := 38) (v := ?v38_15) rfl (by kernel_rfl) (by kernel_rfl) (by kernel_rfl) (fun _ _ _ h => h) (Or.inl ⟨by rfl, ?hy38_15⟩) (by assumption) ?_
                          case hy38_15 => (intro W hSw; have p0 := (Below.cell hSw (p := ⟨xb, 0, none⟩) hxl).trans x0; have p1 := (Below.cell hSw (p := ⟨xb, 1, none⟩) hxl).trans x1; have p2 := (Below.cell hSw (p := ⟨xb, 2, none⟩) hxl).trans x2; (try dsimp only at hSw); go_simp; (try with_reducible rfl))
                          try simp only [Act.put, pA, pB, pC, pD, pE, pF]
                          refine wpAnyH_ready (rs := [39]) (by kernel_rfl) (by simp) ?_
                          refine AllReadyH.cons rfl (fun K hK => ?_) AllReadyH.nil
                          go_simp
                          refine (gLess_any y x _).mono ?_
                          rintro e wq ⟨rfl, hbq⟩
                          rw [hls]
                          refine hK.out _ _ ?_ (fun hHeld2 => ?_)
                          · exact more3 hHeld hHeld.size hbq
                          clear hK K hHeld hbq
                          have hHeld := hHeld2
                          clear hHeld2
                          try simp only [Act.put, pA, pB, pC, pD, pE, pF]
                          refine wpAnyH_take (i := 40) (v := ?v40_15) rfl (by kernel_rfl) (by kernel_rfl) (by kernel_rfl) (fun _ _ _ h => h) (Or.inl ⟨by rfl, ?hy40_15⟩) (by assumption) ?_
                          case hy40_15 => (intro W hSw; (try dsimp only at hSw); go_simp; (try with_reducible rfl))
                          try simp only [Act.put, pA, pB, pC, pD, pE, pF]
                          refine wpAnyH_take (i := 41) (v := ?v41_15) rfl (by kernel_rfl) (by kernel_rfl) (by kernel_rfl) (fun _ _ _ h => h) (Or.inl ⟨by rfl, ?hy41_15⟩) (by assumption) ?_
                          case hy41_15 => (intro W hSw; (try dsimp only at hSw); go_simp; (try with_reducible rfl))
                          try simp only [Act.put, pA, pB, pC, pD, pE, pF]
                          refine wpAnyH_take (i := 42) (v := ?v42_15) rfl (by kernel_rfl) (by kernel_rfl) (by kernel_rfl) (fun _ _ _ h => h) (Or.inl ⟨by rfl, ?hy42_15⟩) (by assumption) ?_
                          case hy42_15 => (intro W hSw; (try dsimp only at hSw); go_simp; (try with_reducible rfl))
                          try simp only [Act.put, pA, pB, pC, pD, pE, pF]
                          refine wpAnyH_done (by kernel_rfl) ?_ _
                          have HZ : Hid (Below w0.heap.size w0 _) := HWB.out.trans (hHeld.mono HWB.out.size)
                          have HUP : Hid (EdUp ns es (k + 1)) := hU.out.snoc HX.out HGD.out (fun y' _ hy' => by rw [HY.out] at hy'; injection hy' with hy'; subst hy'; exact K12.out)
                          clear hHeld
                          go_wp2_with fail
                          go_roundw
                          case rel => exact ⟨k + 1, by omega, by go_num, HUP, HZ⟩
                          case measure => simp [intOf]; omega
                      · have k8 : (k : Int) ≤ 0 := by omega
                        refine wp_region_held_drew (S := fun W => Below wn.heap.size wn W) (by kernel_rfl) ?_ (fun hHeld => ?_)
                        · exact (Below.refl _ _).drew
                        refine wpAnyH_take (i := 0) (v := ?v0_16) rfl (by kernel_rfl) (by kernel_rfl) (by kernel_rfl) (fun _ _ _ h => h) (Or.inl ⟨by rfl, ?hy0_16⟩) (by assumption) ?_
                        case hy0_16 => (intro W hSw; (try dsimp only at hSw); go_simp; (try with_reducible rfl))
                        try simp only [Act.put, pA, pB, pD, pE, pF]
                        refine wpAnyH_take (i := 1) (v := ?v1_16) rfl (by kernel_rfl) (by kernel_rfl) (by kernel_rfl) (fun _ _ _ h => h) (Or.inl ⟨by rfl, ?hy1_16⟩) (by assumption) ?_
                        case hy1_16 => (intro W hSw; (try dsimp only at hSw); go_simp; (try with_reducible rfl))
                        try simp only [Act.put, pA, pB, pC, pD, pE, pF]
                        refine wpAnyH_take (i := 2) (v := ?v2_16) rfl (by kernel_rfl) (by kernel_rfl) (by kernel_rfl) (fun _ _ _ h => h) (Or.inl ⟨by rfl, ?hy2_16⟩) (by assumption) ?_
                        case hy2_16 => (intro W hSw; (try dsimp only at hSw); go_simp; (try with_reducible rfl))
                        try simp only [Act.put, pA, pB, pC, pD, pE, pF]
                        refine wpAnyH_take (i := 3) (v := ?v3_16) rfl (by kernel_rfl) (by kernel_rfl) (by kernel_rfl) (fun _ _ _ h => h) (Or.inl ⟨by rfl, ?hy3_16⟩) (by assumption) ?_
                        case hy3_16 => (intro W hSw; (try dsimp only at hSw); go_simp; (try with_reducible rfl))
                        try simp only [Act.put, pA, pB, pC, pD, pE, pF]
                        refine wpAnyH_take (i := 4) (v := ?v4_16) rfl (by kernel_rfl) (by kernel_rfl) (by kernel_rfl) (fun _ _ _ h => h) (Or.inl ⟨by rfl, ?hy4_16⟩) (by assumption) ?_
                        case hy4_16 => (intro W hSw; (try dsimp only at hSw); go_simp; (try with_reducible rfl))
                        try simp only [Act.put, pA, pB, pC, pD, pE, pF]
                        refine wpAnyH_take (i := 5) (v := ?v5_16) rfl (by kernel_rfl) (by kernel_rfl) (by kernel_rfl) (fun _ _ _ h => h) (Or.inl ⟨by rfl, ?hy5_16⟩) (by assumption) ?_
                        case hy5_16 => (intro W hSw; (try dsimp only at hSw); go_simp; (try with_reducible rfl))
                        try simp only [Act.put, pA, pB, pC, pD, pE, pF]
                        refine wpAnyH_take (i := 6) (v := ?v6_16) rfl (by kernel_rfl) (by kernel_rfl) (by kernel_rfl) (fun _ _ _ h => h) (Or.inl ⟨by rfl, ?hy6_16⟩) (by assumption) ?_
                        case hy6_16 => (intro W hSw; (try dsimp only at hSw); go_simp; (try with_reducible rfl))
                        try simp only [Act.put, pA, pB, pC, pD, pE, pF]
                        refine wpAnyH_take (i := 7) (v := ?v7_16) rfl (by kernel_rfl) (by kernel_rfl) (by kernel_rfl) (fun _ _ _ h => h) (Or.inl ⟨by rfl, ?hy7_16⟩) (by assumption) ?_
                        case hy7_16 => (intro W hSw; (try dsimp only at hSw); go_simp; (try with_reducible rfl))
                        try simp only [Act.put, pA, pB, pC, pD, pE, pF]
                        refine wpAnyH_take (i := 8) (v := ?v8_16) rfl (by kernel_rfl) (by kernel_rfl) (by kernel_rfl) (fun _ _ _ h => h) (Or.inl ⟨by rfl, ?hy8_16⟩) (by assumption) ?_
                        case hy8_16 => (intro W hSw; have p0 := (Below.cell hSw (p := ⟨nb, 2, none⟩) hnl).trans n2; (try dsimp only at hSw); go_simp; (try with_reducible rfl))
                        try simp only [Act.put, pA, pB, pC, pD, pE, pF]
                        refine wpAnyH_take (i := 9) (v := ?v9_16) rfl (by kernel_rfl) (by kernel_rfl) (by kernel_rfl) (fun _ _ _ h => h) (Or.inl ⟨by rfl, ?hy9_16⟩) (by assumption) ?_
                        case hy9_16 => (intro W hSw; (try dsimp only at hSw); go_simp; (try with_reducible rfl))
                        try simp only [Act.put, pA, pB, pC, pD, pE, pF]
                        refine wpAnyH_take (i := 10) (v := ?v10_16) rfl (by kernel_rfl) (by kernel_rfl) (by kernel_rfl) (fun _ _ _ h => h) (Or.inl ⟨by rfl, ?hy10_16⟩) (by assumption) ?_
                        case hy10_16 => (intro W hSw; (try dsimp only at hSw); go_simp; (try with_reducible rfl))
                        try simp only [Act.put, pA, pB, pC, pD, pE, pF]
                        refine wpAnyH_take (i := 11) (v := ?v11_16) rfl (by kernel_rfl) (by kernel_rfl) (by kernel_rfl) (fun _ _ _ h => h) (Or.inl ⟨by rfl, ?hy11_16⟩) (by assumption) ?_
                        case hy11_16 => (intro W hSw; (try dsimp only at hSw); go_simp; (try with_reducible rfl))
                        try simp only [Act.put, pA, pB, pC, pD, pE, pF]
                        refine wpAnyH_take (i := 12) (v := ?v12_16) rfl (by kernel_rfl) (by kernel_rfl) (by kernel_rfl) (fun _ _ _ h => h) (Or.inl ⟨by rfl, ?hy12_16⟩) (by assumption) ?_
                        case hy12_16 => (intro W hSw; (try dsimp only at hSw); go_simp; (try with_reducible rfl))
                        try simp only [Act.put, pA, pB, pC, pD, pE, pF]
                        refine wpAnyH_take (i := 13) (v := ?v13_16) rfl (by kernel_rfl) (by kernel_rfl) (by kernel_rfl) (fun _ _ _ h => h) (Or.inl ⟨by rfl, ?hy13_16⟩) (by assumption) ?_
                        case hy13_16 => (intro W hSw; have p0 := (Below.cell hSw (p := ⟨xb, 0, none⟩) hxl).trans x0; (try dsimp only at hSw); go_simp; (try with_reducible rfl))
                        try simp only [Act.put, pA, pB, pC, pD, pE, pF]
                        refine wpAnyH_take (i := 14) (v := ?v14_16) rfl (by kernel_rfl) (by kernel_rfl) (by kernel_rfl) (fun _ _ _ h => h) (Or.inl ⟨by rfl, ?hy14_16⟩) (by assumption) ?_
                        case hy14_16 => (intro W hSw; (try dsimp only at hSw); go_simp; (try with_reducible rfl))
                        try simp only [Act.put, pA, pB, pC, pD, pE, pF]
                        refine wpAnyH_take (i := 15) (v := ?v15_16) rfl (by kernel_rfl) (by kernel_rfl) (by kernel_rfl) (fun _ _ _ h => h) (Or.inl ⟨by rfl, ?hy15_16⟩) (by assumption) ?_
                        case hy15_16 => (intro W hSw; have p1 := (Below.cell hSw (p := ⟨xb, 1, none⟩) hxl).trans x1; (try dsimp only at hSw); go_simp; (try with_reducible rfl))
                        try simp only [Act.put, pA, pB, pC, pD, pE, pF]
                        refine wpAnyH_take (i := 16) (v := ?v16_16) rfl (by kernel_rfl) (by kernel_rfl) (by kernel_rfl) (fun _ _ _ h => h) (Or.inl ⟨by rfl, ?hy16_16⟩) (by assumption) ?_
                        case hy16_16 => (intro W hSw; (try dsimp only at hSw); go_simp; (try with_reducible rfl))
                        try simp only [Act.put, pA, pB, pC, pD, pE, pF]
                        refine wpAnyH_take (i := 17) (v := ?v17_16) rfl (by kernel_rfl) (by kernel_rfl) (by kernel_rfl) (fun _ _ _ h => h) (Or.inl ⟨by rfl, ?hy17_16⟩) (by assumption) ?_
                        case hy17_16 => (intro W hSw; (try dsimp only at hSw); go_simp; (try with_reducible rfl))
                        try simp only [Act.put, pA, pB, pC, pD, pE, pF]
                        refine wpAnyH_take (i := 18) (v := ?v18_16) rfl (by kernel_rfl) (by kernel_rfl) (by kernel_rfl) (fun _ _ _ h => h) (Or.inl ⟨by rfl, ?hy18_16⟩) (by assumption) ?_
                        case hy18_16 => (intro W hSw; (try dsimp only at hSw); go_simp; (try with_reducible rfl))
                        try simp only [Act.put, pA, pB, pC, pD, pE, pF]
                        refine wpAnyH_take (i := 19) (v := ?v19_16) rfl (by kernel_rfl) (by kernel_rfl) (by kernel_rfl) (fun _ _ _ h => h) (Or.inl ⟨by rfl, ?hy19_16⟩) (by assumption) ?_
                        case hy19_16 => (intro W hSw; (try dsimp only at hSw); go_simp; (try with_reducible rfl))
                        try simp only [Act.put, pA, pB, pC, pD, pE, pF]
                        refine wpAnyH_take (i := 20) (v := ?v20_16) rfl (by kernel_rfl) (by kernel_rfl) (by kernel_rfl) (fun _ _ _ h => h) (Or.inl ⟨by rfl, ?hy20_16⟩) (by assumption) ?_
                        case hy20_16 => (intro W hSw; have p2 := (Below.cell hSw (p := ⟨xb, 2, none⟩) hxl).trans x2; (try dsimp only at hSw); go_simp; (try with_reducible rfl))
                        try simp only [Act.put, pA, pB, pC, pD, pE, pF]
                        refine wpAnyH_take (i := 21) (v := ?v21_16) rfl (by kernel_rfl) (by kernel_rfl) (by kernel_rfl) (fun _ _ _ h => h) (Or.inl ⟨by rfl, ?hy21_16⟩) (by assumption) ?_
                        case hy21_16 => (intro W hSw; (try dsimp only at hSw); go_simp; (try with_reducible rfl))
                        try simp only [Act.put, pA, pB, pC, pD, pE, pF]
                        refine wpAnyH_take (i := 22) (v := ?v22_16) rfl (by kernel_rfl) (by kernel_rfl) (by kernel_rfl) (fun _ _ _ h => h) (Or.inl ⟨by rfl, ?hy22_16⟩) (by assumption) ?_
                        case hy22_16 => (intro W hSw; (try dsimp only at hSw); go_simp; (try with_reducible rfl))
                        try simp only [Act.put, pA, pB, pC, pD, pE, pF]
                        refine wpAnyH_take (i := 23) (v := ?v23_16) rfl (by kernel_rfl) (by kernel_rfl) (by kernel_rfl) (fun _ _ _ h => h) (Or.inl ⟨by rfl, ?hy23_16⟩) (by assumption) ?_
                        case hy23_16 => (intro W hSw; (try dsimp only at hSw); go_simp; (try with_reducible rfl))
                        try simp only [Act.put, pA, pB, pC, pD, pE, pF]
                        refine wpAnyH_take (i := 24) (v := ?v24_16) rfl (by kernel_rfl) (by kernel_rfl) (by kernel_rfl) (fun _ _ _ h => h) (Or.inl ⟨by rfl, ?hy24_16⟩) (by assumption) ?_
                        case hy24_16 => (intro W hSw; (try dsimp only at hSw); go_simp; (try with_reducible rfl))
                        try simp only [Act.put, pA, pB, pC, pD, pE, pF]
                        refine wpAnyH_take (i := 25) (v := ?v25_16) rfl (by kernel_rfl) (by kernel_rfl) (by kernel_rfl) (fun _ _ _ h => h) (Or.inl ⟨by rfl, ?hy25_16⟩) (by assumption) ?_
                        case hy25_16 => (intro W hSw; have p2 := (Below.cell hSw (p := ⟨xb, 2, none⟩) hxl).trans x2; (try dsimp only at hSw); go_simp; (try with_reducible rfl))
                        try simp only [Act.put, pA, pB, pC, pD, pE, pF]
                        refine wpAnyH_take (i := 26) (v := ?v26_16) rfl (by kernel_rfl) (by kernel_rfl) (by kernel_rfl) (fun _ _ _ h => h) (Or.inl ⟨by rfl, ?hy26_16⟩) (by assumption) ?_
                        case hy26_16 => (intro W hSw; (try dsimp only at hSw); go_simp; (try with_reducible rfl))
                        try simp only [Act.put, pA, pB, pC, pD, pE, pF]
                        refine wpAnyH_take (i := 27) (v := ?v27_16) rfl (by kernel_rfl) (by kernel_rfl) (by kernel_rfl) (fun _ _ _ h => h) (Or.inl ⟨by rfl, ?hy27_16⟩) (by assumption) ?_
                        case hy27_16 => (intro W hSw; (try dsimp only at hSw); go_simp; (try with_reducible rfl))
                        try simp only [Act.put, pA, pB, pC, pD, pE, pF]
                        refine wpAnyH_take (i := 28) (v := ?v28_16) rfl (by kernel_rfl) (by kernel_rfl) (by kernel_rfl) (fun _ _ _ h => h) (Or.inl ⟨by rfl, ?hy28_16⟩) (by assumption) ?_
                        case hy28_16 => (intro W hSw; (try dsimp only at hSw); go_simp; (try with_reducible rfl))
                        try simp only [Act.put, pA, pB, pC, pD, pE, pF]
                        refine wpAnyH_take (i := 29) (v := ?v29_16) rfl (by kernel_rfl) (by kernel_rfl) (by kernel_rfl) (fun _ _ _ h => h) (Or.inl ⟨by rfl, ?hy29_16⟩) (by assumption) ?_
                        case hy29_16 => (intro W hSw; (try dsimp only at hSw); go_simp; (try with_reducible rfl))
                        try simp only [Act.put, pA, pB, pC, pD, pE, pF]
                        refine wpAnyH_take (i := 30) (v := ?v30_16) rfl (by kernel_rfl) (by kernel_rfl) (by kernel_rfl) (fun _ _ _ h => h) (Or.inl ⟨by rfl, ?hy30_16⟩) (by assumption) ?_
                        case hy30_16 => (intro W hSw; (try dsimp only at hSw); go_simp; (try with_reducible rfl))
                        try simp only [Act.put, pA, pB, pC, pD, pE, pF]
                        refine wpAnyH_take (i := 31) (v := ?v31_16) rfl (by kernel_rfl) (by kernel_rfl) (by kernel_rfl) (fun _ _ _ h => h) (Or.inl ⟨by rfl, ?hy31_16⟩) (by assumption) ?_
                        case hy31_16 => (intro W hSw; (try dsimp only at hSw); go_simp; (try with_reducible rfl))
                        try simp only [Act.put, pA, pB, pC, pD, pE, pF]
                        refine wpAnyH_take (i := 32) (v := undef) rfl (by kernel_rfl) (by kernel_rfl) (by kernel_rfl) (fun _ _ _ h => h) (Or.inr ⟨by rfl, rfl⟩) (by assumption) ?_
                        try simp only [Act.put, pA, pB, pC, pD, pE, pF]
                        refine wpAnyH_take (i := 33) (v := undef) rfl (by kernel_rfl) (by kernel_rfl) (by kernel_rfl) (fun _ _ _ h => h) (Or.inr ⟨by rfl, rfl⟩) (by assumption) ?_
                        try simp only [Act.put, pA, pB, pC, pD, pE, pF]
                        refine wpAnyH_take (i := 34) (v := undef) rfl (by kernel_rfl) (by kernel_rfl) (by kernel_rfl) (fun _ _ _ h => h) (Or.inr ⟨by rfl, rfl⟩) (by assumption) ?_
                        try simp only [Act.put, pA, pB, pC, pD, pE, pF]
                        refine wpAnyH_take (i := 35) (v := undef) rfl (by kernel_rfl) (by kernel_rfl) (by kernel_rfl) (fun _ _ _ h => h) (Or.inr ⟨by rfl, rfl⟩) (by assumption) ?_
                        try simp only [Act.put, pA, pB, pC, pD, pE, pF]
                        refine wpAnyH_take (i := 36) (v := undef) rfl (by kernel_rfl) (by kernel_rfl) (by kernel_rfl) (fun _ _ _ h => h) (Or.inr ⟨by rfl, rfl⟩) (by assumption) ?_
                        try simp only [Act.put, pA, pB, pC, pD, pE, pF]
                        refine wpAnyH_take (i := 37) (v := undef) rfl (by kernel_rfl) (by kernel_rfl) (by kernel_rfl) (fun _ _ _ h => h) (Or.inr ⟨by rfl, rfl⟩) (by assumption) ?_
                        try simp only [Act.put, pA, pB, pC, pD, pE, pF]
                        refine wpAnyH_take (i := 38) (v := undef) rfl (by kernel_rfl) (by kernel_rfl) (by kernel_rfl) (fun _ _ _ h => h) (Or.inr ⟨by rfl, rfl⟩) (by assumption) ?_
                        try simp only [Act.put, pA, pB, pC, pD, pE, pF]
                        refine wpAnyH_take (i := 39) (v := undef) rfl (by kernel_rfl) (by kernel_rfl) (by kernel_rfl) (fun _ _ _ h => h) (Or.inr ⟨by rfl, rfl⟩) (by assumption) ?_
                        try simp only [Act.put, pA, pB, pC, pD, pE, pF]
                        refine wpAnyH_take (i := 40) (v := undef) rfl (by kernel_rfl) (by kernel_rfl) (by kernel_rfl) (fun _ _ _ h => h) (Or.inr ⟨by rfl, rfl⟩) (by assumption) ?_
                        try simp only [Act.put, pA, pB, pC, pD, pE, pF]
                        refine wpAnyH_take (i := 41) (v := ?v41_16) rfl (by kernel_rfl) (by kernel_rfl) (by kernel_rfl) (fun _ _ _ h => h) (Or.inl ⟨by rfl, ?hy41_16⟩) (by assumption) ?_
                        case hy41_16 => (intro W hSw; (try dsimp only at hSw); go_simp; (try with_reducible rfl))
                        try simp only [Act.put, pA, pB, pC, pD, pE, pF]
                        refine wpAnyH_take (i := 42) (v := ?v42_16) rfl (by kernel_rfl) (by kernel_rfl) (by kernel_rfl) (fun _ _ _ h => h) (Or.inl ⟨by rfl, ?hy42_16⟩) (by assumption) ?_
                        case hy42_16 => (intro W hSw; (try dsimp only at hSw); go_simp; (try with_reducible rfl))
                        try simp only [Act.put, pA, pB, pC, pD, pE, pF]
                        refine wpAnyH_done (by kernel_rfl) ?_ _
                        have HZ : Hid (Below w0.heap.size w0 _) := HWB.out.trans (hHeld.mono HWB.out.size)
                        have HUP : Hid (EdUp ns es (k + 1)) := hU.out.snoc HX.out HGD.out (fun y' h _ => by omega)
                        clear hHeld
                        go_wp2_with fail
                        go_roundw
                        case rel => exact ⟨k + 1, by omega, by go_num, HUP, HZ⟩
                        case measure => simp [intOf]; omega
              · have d3 : (a.s != 1) = true := by simpa using k3
                have K3 := Lib.hid k3
                clear k3
                have HNO : Hid (¬ MayG kT ns es) := no_edge HX.out (fun h => by obtain ⟨a', h1, h2⟩ := h.1; rw [HA1.out] at h1; injection h1 with h1; subst h1; exact K3.out h2)
                refine wp_region_held_drew (S := fun W => Below wn.heap.size wn W) (by kernel_rfl) ?_ (fun hHeld => ?_)
                · exact (Below.refl _ _).drew
                refine wpAnyH_take (i := 0) (v := ?v0_17) rfl (by kernel_rfl) (by kernel_rfl) (by kernel_rfl) (fun _ _ _ h => h) (Or.inl ⟨by rfl, ?hy0_17⟩) (by assumption) ?_
                case hy0_17 => (intro W hSw; (try dsimp only at hSw); go_simp; (try with_reducible rfl))
                try simp only [Act.put, pA, pB, pD, pE, pF]
                refine wpAnyH_take (i := 1) (v := ?v1_17) rfl (by kernel_rfl) (by kernel_rfl) (by kernel_rfl) (fun _ _ _ h => h) (Or.inl ⟨by rfl, ?hy1_17⟩) (by assumption) ?_
                case hy1_17 => (intro W hSw; (try dsimp only at hSw); go_simp; (try with_reducible rfl))
                try simp only [Act.put, pA, pB, pC, pD, pE, pF]
                refine wpAnyH_take (i := 2) (v := ?v2_17) rfl (by kernel_rfl) (by kernel_rfl) (by kernel_rfl) (fun _ _ _ h => h) (Or.inl ⟨by rfl, ?hy2_17⟩) (by assumption) ?_
                case hy2_17 => (intro W hSw; (try dsimp only at hSw); go_simp; (try with_reducible rfl))
                try simp only [Act.put, pA, pB, pC, pD, pE, pF]
                refine wpAnyH_take (i := 3) (v := ?v3_17) rfl (by kernel_rfl) (by kernel_rfl) (by kernel_rfl) (fun _ _ _ h => h) (Or.inl ⟨by rfl, ?hy3_17⟩) (by assumption) ?_
                case hy3_17 => (intro W hSw; (try dsimp only at hSw); go_simp; (try with_reducible rfl))
                try simp only [Act.put, pA, pB, pC, pD, pE, pF]
                refine wpAnyH_take (i := 4) (v := ?v4_17) rfl (by kernel_rfl) (by kernel_rfl) (by kernel_rfl) (fun _ _ _ h => h) (Or.inl ⟨by rfl, ?hy4_17⟩) (by assumption) ?_
                case hy4_17 => (intro W hSw; (try dsimp only at hSw); go_simp; (try with_reducible rfl))
                try simp only [Act.put, pA, pB, pC, pD, pE, pF]
                refine wpAnyH_take (i := 5) (v := ?v5_17) rfl (by kernel_rfl) (by kernel_rfl) (by kernel_rfl) (fun _ _ _ h => h) (Or.inl ⟨by rfl, ?hy5_17⟩) (by assumption) ?_
                case hy5_17 => (intro W hSw; (try dsimp only at hSw); go_simp; (try with_reducible rfl))
                try simp only [Act.put, pA, pB, pC, pD, pE, pF]
                refine wpAnyH_take (i := 6) (v := ?v6_17) rfl (by kernel_rfl) (by kernel_rfl) (by kernel_rfl) (fun _ _ _ h => h) (Or.inl ⟨by rfl, ?hy6_17⟩) (by assumption) ?_
                case hy6_17 => (intro W hSw; (try dsimp only at hSw); go_simp; (try with_reducible rfl))
                try simp only [Act.put, pA, pB, pC, pD, pE, pF]
                refine wpAnyH_take (i := 7) (v := ?v7_17) rfl (by kernel_rfl) (by kernel_rfl) (by kernel_rfl) (fun _ _ _ h => h) (Or.inl ⟨by rfl, ?hy7_17⟩) (by assumption) ?_
                case hy7_17 => (intro W hSw; (try dsimp only at hSw); go_simp; (try with_reducible rfl))
                try simp only [Act.put, pA, pB, pC, pD, pE, pF]
                refine wpAnyH_take (i := 8) (v := ?v8_17) rfl (by kernel_rfl) (by kernel_rfl) (by kernel_rfl) (fun _ _ _ h => h) (Or.inl ⟨by rfl, ?hy8_17⟩) (by assumption) ?_
                case hy8_17 => (intro W hSw; have p0 := (Below.cell hSw (p := ⟨nb, 2, none⟩) hnl).trans n2; (try dsimp only at hSw); go_simp; (try with_reducible rfl))
                try simp only [Act.put, pA, pB, pC, pD, pE, pF]
                refine wpAnyH_take (i := 9) (v := ?v9_17) rfl (by kernel_rfl) (by kernel_rfl) (by kernel_rfl) (fun _ _ _ h => h) (Or.inl ⟨by rfl, ?hy9_17⟩) (by assumption) ?_
                case hy9_17 => (intro W hSw; (try dsimp only at hSw); go_simp; (try with_reducible rfl))
                try simp only [Act.put, pA, pB, pC, pD, pE, pF]
                refine wpAnyH_take (i := 10) (v := ?v10_17) rfl (by kernel_rfl) (by kernel_rfl) (by kernel_rfl) (fun _ _ _ h => h) (Or.inl ⟨by rfl, ?hy10_17⟩) (by assumption) ?_
                case hy10_17 => (intro W hSw; (try dsimp only at hSw); go_simp; (try with_reducible rfl))
                try simp only [Act.put, pA, pB, pC, pD, pE, pF]
                refine wpAnyH_take (i := 11) (v := ?v11_17) rfl (by kernel_rfl) (by kernel_rfl) (by kernel_rfl) (fun _ _ _ h => h) (Or.inl ⟨by rfl, ?hy11_17⟩) (by assumption) ?_
                case hy11_17 => (intro W hSw; (try dsimp only at hSw); go_simp; (try with_reducible rfl))
                try simp only [Act.put, pA, pB, pC, pD, pE, pF]
                refine wpAnyH_take (i := 12) (v := undef) rfl (by kernel_rfl) (by kernel_rfl) (by kernel_rfl) (fun _ _ _ h => h) (Or.inr ⟨by rfl, rfl⟩) (by assumption) ?_
                try simp only [Act.put, pA, pB, pC, pD, pE, pF]
                refine wpAnyH_take (i := 13) (v := undef) rfl (by kernel_rfl) (by kernel_rfl) (by kernel_rfl) (fun _ _ _ h => h) (Or.inr ⟨by rfl, rfl⟩) (by assumption) ?_
                try simp only [Act.put, pA, pB, pC, pD, pE, pF]
                refine wpAnyH_take (i := 14) (v := undef) rfl (by kernel_rfl) (by kernel_rfl) (by kernel_rfl) (fun _ _ _ h => h) (Or.inr ⟨by rfl, rfl⟩) (by assumption) ?_
                try simp only [Act.put, pA, pB, pC, pD, pE, pF]
                refine wpAnyH_take (i := 15) (v := undef) rfl (by kernel_rfl) (by kernel_rfl) (by kernel_rfl) (fun _ _ _ h => h) (Or.inr ⟨by rfl, rfl⟩) (by assumption) ?_
                try simp only [Act.put, pA, pB, pC, pD, pE, pF]
                refine wpAnyH_take (i := 16) (v := undef) rfl (by kernel_rfl) (by kernel_rfl) (by kernel_rfl) (fun _ _ _ h => h) (Or.inr ⟨by rfl, rfl⟩) (by assumption) ?_
                try simp only [Act.put, pA, pB, pC, pD, pE, pF]
                refine wpAnyH_take (i := 17) (v := ?v17_17) rfl (by kernel_rfl) (by kernel_rfl) (by kernel_rfl) (fun _ _ _ h => h) (Or.inl ⟨by rfl, ?hy17_17⟩) (by assumption) ?_
                case hy17_17 => (intro W hSw; (try dsimp only at hSw); go_simp; (try with_reducible rfl))
                try simp only [Act.put, pA, pB, pC, pD, pE, pF]
                refine wpAnyH_take (i := 18) (v := ?v18_17) rfl (by kernel_rfl) (by kernel_rfl) (by kernel_rfl) (fun _ _ _ h => h) (Or.inl ⟨by rfl, ?hy18_17⟩) (by assumption) ?_
                case hy18_17 => (intro W hSw; (try dsimp only at hSw); go_simp; (try with_reducible rfl))
                try simp only [Act.put, pA, pB, pC, pD, pE, pF]
                refine wpAnyH_take (i := 19) (v := undef) rfl (by kernel_rfl) (by kernel_rfl) (by kernel_rfl) (fun _ _ _ h => h) (Or.inr ⟨by rfl, rfl⟩) (by assumption) ?_
                try simp only [Act.put, pA, pB, pC, pD, pE, pF]
                refine wpAnyH_take (i := 20) (v := undef) rfl (by kernel_rfl) (by kernel_rfl) (by kernel_rfl) (fun _ _ _ h => h) (Or.inr ⟨by rfl, rfl⟩) (by assumption) ?_
                try simp only [Act.put, pA, pB, pC, pD, pE, pF]
                refine wpAnyH_take (i := 21) (v := undef) rfl (by kernel_rfl) (by kernel_rfl) (by kernel_rfl) (fun _ _ _ h => h) (Or.inr ⟨by rfl, rfl⟩) (by assumption) ?_
                try simp only [Act.put, pA, pB, pC, pD, pE, pF]
                refine wpAnyH_take (i := 22) (v := ?v22_17) rfl (by kernel_rfl) (by kernel_rfl) (by kernel_rfl) (fun _ _ _ h => h) (Or.inl ⟨by rfl, ?hy22_17⟩) (by assumption) ?_
                case hy22_17 => (intro W hSw; (try dsimp only at hSw); go_simp; (try with_reducible rfl))
                try simp only [Act.put, pA, pB, pC, pD, pE, pF]
                refine wpAnyH_take (i := 23) (v := ?v23_17) rfl (by kernel_rfl) (by kernel_rfl) (by kernel_rfl) (fun _ _ _ h => h) (Or.inl ⟨by rfl, ?hy23_17⟩) (by assumption) ?_
                case hy23_17 => (intro W hSw; (try dsimp only at hSw); go_simp; (try with_reducible rfl))
                try simp only [Act.put, pA, pB, pC, pD, pE, pF]
                refine wpAnyH_take (i := 24) (v := undef) rfl (by kernel_rfl) (by kernel_rfl) (by kernel_rfl) (fun _ _ _ h => h) (Or.inr ⟨by rfl, rfl⟩) (by assumption) ?_
                try simp only [Act.put, pA, pB, pC, pD, pE, pF]
                refine wpAnyH_take (i := 25) (v := undef) rfl (by kernel_rfl) (by kernel_rfl) (by kernel_rfl) (fun _ _ _ h => h) (Or.inr ⟨by rfl, rfl⟩) (by assumption) ?_
                try simp only [Act.put, pA, pB, pC, pD, pE, pF]
                refine wpAnyH_take (i := 26) (v := undef) rfl (by kernel_rfl) (by kernel_rfl) (by kernel_rfl) (fun _ _ _ h => h) (Or.inr ⟨by rfl, rfl⟩) (by assumption) ?_
                try simp only [Act.put, pA, pB, pC, pD, pE, pF]
                refine wpAnyH_take (i := 27) (v := ?v27_17) rfl (by kernel_rfl) (by kernel_rfl) (by kernel_rfl) (fun _ _ _ h => h) (Or.inl ⟨by rfl, ?hy27_17⟩) (by assumption) ?_
                case hy27_17 => (intro W hSw; (try dsimp only at hSw); go_simp; (try with_reducible rfl))
                try simp only [Act.put, pA, pB, pC, pD, pE, pF]
                refine wpAnyH_take (i := 28) (v := ?v28_17) rfl (by kernel_rfl) (by kernel_rfl) (by kernel_rfl) (fun _ _ _ h => h) (Or.inl ⟨by rfl, ?hy28_17⟩) (by assumption) ?_
                case hy28_17 => (intro W hSw; (try dsimp only at hSw); go_simp; (try with_reducible rfl))
                try simp only [Act.put, pA, pB, pC, pD, pE, pF]
                refine wpAnyH_take (i := 29) (v := undef) rfl (by kernel_rfl) (by kernel_rfl) (by kernel_rfl) (fun _ _ _ h => h) (Or.inr ⟨by rfl, rfl⟩) (by assumption) ?_
                try simp only [Act.put, pA, pB, pC, pD, pE, pF]
                refine wpAnyH_take (i := 30) (v := undef) rfl (by kernel_rfl) (by kernel_rfl) (by kernel_rfl) (fun _ _ _ h => h) (Or.inr ⟨by rfl, rfl⟩) (by assumption) ?_
                try simp only [Act.put, pA, pB, pC, pD, pE, pF]
                refine wpAnyH_take (i := 31) (v := undef) rfl (by kernel_rfl) (by kernel_rfl) (by kernel_rfl) (fun _ _ _ h => h) (Or.inr ⟨by rfl, rfl⟩) (by assumption) ?_
                try simp only [Act.put, pA, pB, pC, pD, pE, pF]
                refine wpAnyH_take (i := 32) (v := undef) rfl (by kernel_rfl) (by kernel_rfl) (by kernel_rfl) (fun _ _ _ h => h) (Or.inr ⟨by rfl, rfl⟩) (by assumption) ?_
                try simp only [Act.put, pA, pB, pC, pD, pE, pF]
                refine wpAnyH_take (i := 33) (v := undef) rfl (by kernel_rfl) (by kernel_rfl) (by kernel_rfl) (fun _ _ _ h => h) (Or.inr ⟨by rfl, rfl⟩) (by assumption) ?_
                try simp only [Act.put, pA, pB, pC, pD, pE, pF]
                refine wpAnyH_take (i := 34) (v := undef) rfl (by kernel_rfl) (by kernel_rfl) (by kernel_rfl) (fun _ _ _ h => h) (Or.inr ⟨by rfl, rfl⟩) (by assumption) ?_
                try simp only [Act.put, pA, pB, pC, pD, pE, pF]
                refine wpAnyH_take (i := 35) (v := undef) rfl (by kernel_rfl) (by kernel_rfl) (by kernel_rfl) (fun _ _ _ h => h) (Or.inr ⟨by rfl, rfl⟩) (by assumption) ?_
                try simp only [Act.put, pA, pB, pC, pD, pE, pF]
                refine wpAnyH_take (i := 36) (v := undef) rfl (by kernel_rfl) (by kernel_rfl) (by kernel_rfl) (fun _ _ _ h => h) (Or.inr ⟨by rfl, rfl⟩) (by assumption) ?_
                try simp only [Act.put, pA, pB, pC, pD, pE, pF]
                refine wpAnyH_take (i := 37) (v := undef) rfl (by kernel_rfl) (by kernel_rfl) (by kernel_rfl) (fun _ _ _ h => h) (Or.inr ⟨by rfl, rfl⟩) (by assumption) ?_
                try simp only [Act.put, pA, pB, pC, pD, pE, pF]
                refine wpAnyH_take (i := 38) (v := undef) rfl (by kernel_rfl) (by kernel_rfl) (by kernel_rfl) (fun _ _ _ h => h) (Or.inr ⟨by rfl, rfl⟩) (by assumption) ?_
                try simp only [Act.put, pA, pB, pC, pD, pE, pF]
                refine wpAnyH_take (i := 39) (v := undef) rfl (by kernel_rfl) (by kernel_rfl) (by kernel_rfl) (fun _ _ _ h => h) (Or.inr ⟨by rfl, rfl⟩) (by assumption) ?_
                try simp only [Act.put, pA, pB, pC, pD, pE, pF]
                refine wpAnyH_take (i := 40) (v := undef) rfl (by kernel_rfl) (by kernel_rfl) (by kernel_rfl) (fun _ _ _ h => h) (Or.inr ⟨by rfl, rfl⟩) (by assumption) ?_
                try simp only [Act.put, pA, pB, pC, pD, pE, pF]
                refine wpAnyH_take (i := 41) (v := undef) rfl (by kernel_rfl) (by kernel_rfl) (by kernel_rfl) (fun _ _ _ h => h) (Or.inr ⟨by rfl, rfl⟩) (by assumption) ?_
                try simp only [Act.put, pA, pB, pC, pD, pE, pF]
                refine wpAnyH_take (i := 42) (v := ?v42_17) rfl (by kernel_rfl) (by kernel_rfl) (by kernel_rfl) (fun _ _ _ h => h) (Or.inl ⟨by rfl, ?hy42_17⟩) (by assumption) ?_
                case hy42_17 => (intro W hSw; (try dsimp only at hSw); go_simp; (try with_reducible rfl))
                try simp only [Act.put, pA, pB, pC, pD, pE, pF]
                refine wpAnyH_done (by kernel_rfl) ?_ _
                have HZ : Hid (Below w.heap.size w _) := HB0.out.trans ((HWB.out.trans (hHeld.mono HWB.out.size)).mono HB0.out.size)
                go_wp2_with fail
                go_ret
                exact mayNo HNO.out HZ.out
          · obtain rfl : k = es.length := by omega
            go_wp2_with fail
            go_ret
            exact ⟨true, rfl, by simp; exact may_of (by omega) HUN.out hU.out, HB0.out.trans (hW.out.mono HB0.out.size)⟩
end Go.Proofs.YtcoepioahabbdaaGreat
