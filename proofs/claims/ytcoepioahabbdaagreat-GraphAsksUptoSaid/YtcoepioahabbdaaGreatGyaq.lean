/- The walk of the document's edge. -/
import Derived.Test.YtcoepioahabbdaaGreatGyam
import Derived.Deep.RegionHeld3
import Derived.Test.YtcoepioahabbdaaGreatGyap
namespace Go.Proofs.YtcoepioahabbdaaGreat
open Go.RowKit
def nodeB (ns : List Nd) (t : Tx) : Bool := (nodeG ns t).isSome
theorem nodeV_eq (ns : List Nd) (t : Tx) : nodeV (nodeG ns t) = .tuple #[.agg #[.string (str ((nodeG ns t).getD noNd).n), .int .i64 ((nodeG ns t).getD noNd).k, .int .i64 ((nodeG ns t).getD noNd).s], .bool (nodeB ns t)] := rfl
theorem graph_cells (NA EA : Option Addr) (a b c d : Nat) : (#[.slice NA a b, .slice EA c d] : Array Value).all (·.oneCell') = true := by simp [Value.oneCell']
def EdgePost (g : Nat) (ns : List Nd) (es : List Ed) (w : World) (e : Ending) (w' : World) : Prop := e = .returned (.tuple #[]) ∧ GBox w' g ns es ∧ w.grownBy w' (some g)
theorem grown_of_below {w w' : World} {g : Nat} (h : Below w.heap.size w w') : w.grownBy w' (some g) := ⟨h.os, h.tape, h.output, h.size, fun i hi _ => h.block i hi⟩
theorem grown_below {w w' : World} {g : Nat} (h : w.grownBy w' (some g)) (hg : g ≤ w.heap.size) : Below g w w' := (Below.refl g w).grown h hg (fun k hk => by injection hk with hk; omega)
theorem grown_setCell (w : World) (a : Addr) (u : Value) : w.grownBy (w.setCell a u) (some a.block) :=
  ⟨rfl, rfl, rfl, by simp, fun i _ hi => Below.heap_setCell w a u i (fun e => hi (by rw [e]))⟩
theorem grown_trans {a b c : World} {g : Nat} (h : a.grownBy b (some g)) (k : b.grownBy c (some g)) : a.grownBy c (some g) :=
  ⟨k.os.trans h.os, k.tape.trans h.tape, k.output.trans h.output, Nat.le_trans h.size k.size, fun i hi hne => (k.block i (Nat.lt_of_lt_of_le hi h.size) hne).trans (h.block i hi hne)⟩
theorem gbox_put {w : World} {g : Nat} {ns : List Nd} {es' : List Ed} {N E v : Value} (hB : Blk w g 29 #[N, E]) (hN : OwnG ndLay 32 w (g + 1) N ns) (hE : OwnG edLay 58 w (g + 1) v es') : GBox (w.setCell ⟨g, 1, none⟩ v) g ns es' :=
  ⟨N, v, hB.setCell 1 v, hN.kept (grown_setCell w ⟨g, 1, none⟩ v) (fun b hb e => by have := (hN.lt hb).1; injection e with e; subst e; show False; exact absurd this (by simp)), hE.kept (grown_setCell w ⟨g, 1, none⟩ v) (fun b hb e => by have := (hE.lt hb).1; injection e with e; subst e; exact absurd this (by simp))⟩
theorem edge_end {w wq wr2 : World} {g : Nat} {ns : List Nd} {es' : List Ed} {N E v : Value} {b : Nat} (h1 : Below w.heap.size w wq) (hg : g < w.heap.size) (h2 : Below wq.heap.size wq wr2) (hB : Blk wr2 g 29 #[N, E]) (hN : OwnG ndLay 32 wq (g + 1) N ns) (hE : OwnG edLay 58 wr2 b v es') (hb : wq.heap.size ≤ b) : GBox (wr2.setCell ⟨g, 1, none⟩ v) g ns es' ∧ w.grownBy (wr2.setCell ⟨g, 1, none⟩ v) (some g) := by
  have hs := h1.size
  exact ⟨gbox_put hB (hN.below h2) (hE.base_le (by omega)), grown_trans (grown_of_below (h1.trans (h2.mono hs))) (grown_setCell wr2 ⟨g, 1, none⟩ v)⟩
set_option maxHeartbeats 16000000 in
theorem gEdge_any (g : Nat) (ns : List Nd) (es : List Ed) (f t : Tx) (r : Int) (w : World) (h : GBox w g ns es) (hr : risesG ltE es) (hes : es.length ≤ 524288) (hns : ns.length ≤ 1048576) :
    Calls Tryz.prog 57 #[.pointer (some ⟨g, 0, none⟩), .string (str f), .string (str t), .int .i64 r] w (EdgePost g ns (edgeL (nodeB ns) f es (t, r)) w) := by
  have hgl := h.lt
  obtain ⟨NA, nc, EA, ec, hB, hG, hON, hOE⟩ := h.at_ (by unfold maxLen; omega) (by unfold maxLen; omega)
  have HB := Lib.hid hB
  have HG := Lib.hid hG
  have HON := Lib.hid hON
  have HOE := Lib.hid hOE
  have HR := Lib.hid hr
  have HGB := Lib.hid h
  have c0 := hB.cell 0
  have c1 := hB.cell 1
  have hq1 := eqT_str f t
  have hcall := gNode_any _ ns es t w.heap.size w hG (Nat.le_refl _)
  rw [nodeV_eq] at hcall
  have HC := Lib.hid hcall
  clear hB hG hON hOE hr h hcall
  go_enter Tryz.func57, Tryz.ntmps57
  go_wp2_with fail
  refine HC.out.mono ?_
  rintro e w1 ⟨rfl, hb1⟩
  have HB1 := Lib.hid hb1
  have hs1 := hb1.size
  clear hb1 HC
  rcases hok : nodeB ns t with _ | _
  · have HE : Hid (edgeL (nodeB ns) f es (t, r) = es) := edgeL_same HR.out (.inl hok)
    go_wp2_with fail
    refine bodyPost_ret (results_none rfl _ _ _) rfl ?_
    exact ⟨rfl, by rw [HE.out]; exact HGB.out.below (HB1.out.alloc (by omega) _), grown_of_below (HB1.out.alloc (by omega) _)⟩
  · by_cases hft : f = t
    · have HE : Hid (edgeL (nodeB ns) f es (t, r) = es) := edgeL_same HR.out (.inr (.inl hft))
      rw [decide_eq_true hft] at hq1
      clear hft
      go_wp2_with fail
      refine bodyPost_ret (results_none rfl _ _ _) rfl ?_
      exact ⟨rfl, by rw [HE.out]; exact HGB.out.below (HB1.out.alloc (by omega) _), grown_of_below (HB1.out.alloc (by omega) _)⟩
    · rw [decide_eq_false hft] at hq1
      have HFT := Lib.hid hft
      clear hft
      have HBX := Lib.hid (HB1.out.alloc (by omega) (.cells #[.string (str ((nodeG ns t).getD noNd).n), .int .i64 ((nodeG ns t).getD noNd).k, .int .i64 ((nodeG ns t).getD noNd).s] 32))
      have c2 := (HBX.out.cell (p := ⟨g, 0, none⟩) hgl).trans c0
      have c3 := (HBX.out.cell (p := ⟨g, 1, none⟩) hgl).trans c1
      clear c0 c1
      go_wp2_with fail
      obtain ⟨wx, hwx⟩ : ∃ wx, w1.alloc (.cells #[.string (str ((nodeG ns t).getD noNd).n), .int .i64 ((nodeG ns t).getD noNd).k, .int .i64 ((nodeG ns t).getD noNd).s] 32) = wx := ⟨_, rfl⟩
      rw [hwx] at HBX c2 c3
      rw [hwx]
      clear hwx HB1
      have hsx := HBX.out.size
      refine (gHas_any _ ns es f t r w.heap.size wx (HG.out.below HBX.out) hsx).mono ?_
      rintro e w2 ⟨rfl, hb2⟩
      have HB2 := Lib.hid (more3 HBX.out hsx hb2)
      clear hb2 HBX c2 c3 hsx hs1
      rcases hhas : hasG es f t r with _ | _
      · have HNI : Hid ((⟨f, t, r⟩ : Ed) ∉ es) := by unfold hasG at hhas; exact of_decide_eq_false hhas
        clear hhas
        have HBE := Lib.hid (HB2.out.alloc HB2.out.size (.cells #[.string (str f), .string (str t), .int .i64 r] 58))
        have HEB : Hid (Blk (w2.alloc (.cells #[.string (str f), .string (str t), .int .i64 r] 58)) w2.heap.size 58 #[.string (str f), .string (str t), .int .i64 r]) := Blk.new _ _ _
        go_wp2_with fail
        obtain ⟨w3, hw3⟩ : ∃ w3, w2.alloc (.cells #[.string (str f), .string (str t), .int .i64 r] 58) = w3 := ⟨_, rfl⟩
        rw [hw3] at HBE HEB
        rw [hw3]
        obtain ⟨eb, heb⟩ : ∃ eb, w2.heap.size = eb := ⟨_, rfl⟩
        rw [heb] at HEB
        rw [heb]
        clear hw3 heb HB2
        have hs3 := HBE.out.size
        have hebl := HEB.out.lt
        have HB3 := Lib.hid (HB.out.below HBE.out hgl)
        have HON3 := Lib.hid (HON.out.below HBE.out)
        have HOE3 := Lib.hid (HOE.out.below HBE.out)
        obtain ⟨_, _, hv3, hcc, hno, had, hrow⟩ := HOE3.out.slice (by unfold maxLen; omega)
        injection hv3 with hv1 hv2 hv3
        subst hv1 hv3
        have HL := Lib.hid hrow
        have HAD := Lib.hid had
        clear hrow had hv2
        have hm := HL.out.2.1
        unfold maxLen at hm
        have c0 : w3.cell? ⟨g, 1, none⟩ = some (.slice EA es.length ec) := HB3.out.cell 1
        have e0 : w3.cell? ⟨eb, 0, none⟩ = some (.string (str f)) := HEB.out.cell 0
        have e1 : w3.cell? ⟨eb, 1, none⟩ = some (.string (str t)) := HEB.out.cell 1
        have e2 : w3.cell? ⟨eb, 2, none⟩ = some (.int .i64 r) := HEB.out.cell 2
        have hgl3 : g < w3.heap.size := by omega
        have HN0 : Hid (∀ i x, i < 0 → es[i]? = some x → ltE x ⟨f, t, r⟩) := fun i x hi => by omega
        have HB30 : Hid (Below w3.heap.size w3 w3) := Below.refl _ _
        go_loopw [11] (fun i wr => ∃ k : Nat, k ≤ es.length ∧ i = .int .i64 k ∧ Hid (Below w3.heap.size w3 wr) ∧ Hid (∀ i x, i < k → es[i]? = some x → ltE x ⟨f, t, r⟩)) (fun i wr => es.length - (intOf i).toNat)
        case atStart => exact ⟨0, Nat.zero_le _, rfl, HB30, HN0⟩
        case round =>
          obtain ⟨k, hk, rfl, hb, hN⟩ := hrel
          by_cases hlt : k < es.length
          · have b0 : (0 : Int) ≤ (k : Int) := by omega
            have b1 : (k : Int) < (es.length : Int) := by omega
            obtain ⟨ad, x, rfl, hab, hx, q0, q1, q2⟩ := eds_at HL.out hlt
            have hab3 : (ad.add (k * 3)).block < w3.heap.size := by rw [addA_block]; exact hab
            have HX := Lib.hid hx
            clear hx
            go_wp2_with fail
            refine wp_region_held_drew (S := fun W => Below w3.heap.size w3 W) (by kernel_rfl) ?_ (fun hHeld => ?_)
            · exact hb.out.drew
            refine wpAnyH_take (i := 0) (v := ?v0_1) rfl (by kernel_rfl) (by kernel_rfl) (by kernel_rfl) (fun _ _ _ h => h) (Or.inl ⟨by rfl, ?hy0_1⟩) (by assumption) ?_
            case hy0_1 => (intro W hSw; (try dsimp only at hSw); go_simp; (try with_reducible rfl))
            try simp only [Act.put, List.getElem_toArray, List.getElem_cons_zero, List.setIfInBounds_toArray, List.set_cons_zero, List.set_cons_succ]
            refine wpAnyH_take (i := 1) (v := ?v1_1) rfl (by kernel_rfl) (by kernel_rfl) (by kernel_rfl) (fun _ _ _ h => h) (Or.inl ⟨by rfl, ?hy1_1⟩) (by assumption) ?_
            case hy1_1 => (intro W hSw; (try dsimp only at hSw); go_simp; (try with_reducible rfl))
            try simp only [Act.put, List.getElem_toArray, List.getElem_cons_zero, List.getElem_cons_succ, List.setIfInBounds_toArray, List.set_cons_zero, List.set_cons_succ]
            refine wpAnyH_take (i := 2) (v := ?v2_1) rfl (by kernel_rfl) (by kernel_rfl) (by kernel_rfl) (fun _ _ _ h => h) (Or.inl ⟨by rfl, ?hy2_1⟩) (by assumption) ?_
            case hy2_1 => (intro W hSw; (try dsimp only at hSw); go_simp; (try with_reducible rfl))
            try simp only [Act.put, List.getElem_toArray, List.getElem_cons_zero, List.getElem_cons_succ, List.setIfInBounds_toArray, List.set_cons_zero, List.set_cons_succ]
            refine wpAnyH_take (i := 3) (v := ?v3_1) rfl (by kernel_rfl) (by kernel_rfl) (by kernel_rfl) (fun _ _ _ h => h) (Or.inl ⟨by rfl, ?hy3_1⟩) (by assumption) ?_
            case hy3_1 => (intro W hSw; (try dsimp only at hSw); go_simp; (try with_reducible rfl))
            try simp only [Act.put, List.getElem_toArray, List.getElem_cons_zero, List.getElem_cons_succ, List.setIfInBounds_toArray, List.set_cons_zero, List.set_cons_succ]
            refine wpAnyH_take (i := 4) (v := ?v4_1) rfl (by kernel_rfl) (by kernel_rfl) (by kernel_rfl) (fun _ _ _ h => h) (Or.inl ⟨by rfl, ?hy4_1⟩) (by assumption) ?_
            case hy4_1 => (intro W hSw; have p1 := (Below.cell hSw (p := ⟨g, 1, none⟩) hgl3).trans c0; (try dsimp only at hSw); go_simp; (try with_reducible rfl))
            try simp only [Act.put, List.getElem_toArray, List.getElem_cons_zero, List.getElem_cons_succ, List.setIfInBounds_toArray, List.set_cons_zero, List.set_cons_succ]
            refine wpAnyH_take (i := 5) (v := ?v5_1) rfl (by kernel_rfl) (by kernel_rfl) (by kernel_rfl) (fun _ _ _ h => h) (Or.inl ⟨by rfl, ?hy5_1⟩) (by assumption) ?_
            case hy5_1 => (intro W hSw; (try dsimp only at hSw); go_simp; (try with_reducible rfl))
            try simp only [Act.put, List.getElem_toArray, List.getElem_cons_zero, List.getElem_cons_succ, List.setIfInBounds_toArray, List.set_cons_zero, List.set_cons_succ]
            refine wpAnyH_take (i := 6) (v := ?v6_1) rfl (by kernel_rfl) (by kernel_rfl) (by kernel_rfl) (fun _ _ _ h => h) (Or.inl ⟨by rfl, ?hy6_1⟩) (by assumption) ?_
            case hy6_1 => (intro W hSw; (try dsimp only at hSw); go_simp; (try with_reducible rfl))
            try simp only [Act.put, List.getElem_toArray, List.getElem_cons_zero, List.getElem_cons_succ, List.setIfInBounds_toArray, List.set_cons_zero, List.set_cons_succ]
            refine wpAnyH_take (i := 7) (v := ?v7_1) rfl (by kernel_rfl) (by kernel_rfl) (by kernel_rfl) (fun _ _ _ h => h) (Or.inl ⟨by rfl, ?hy7_1⟩) (by assumption) ?_
            case hy7_1 => (intro W hSw; (try dsimp only at hSw); go_simp; (try with_reducible rfl))
            try simp only [Act.put, List.getElem_toArray, List.getElem_cons_zero, List.getElem_cons_succ, List.setIfInBounds_toArray, List.set_cons_zero, List.set_cons_succ]
            refine wpAnyH_take (i := 8) (v := ?v8_1) rfl (by kernel_rfl) (by kernel_rfl) (by kernel_rfl) (fun _ _ _ h => h) (Or.inl ⟨by rfl, ?hy8_1⟩) (by assumption) ?_
            case hy8_1 => (intro W hSw; (try dsimp only at hSw); go_simp; (try with_reducible rfl))
            try simp only [Act.put, List.getElem_toArray, List.getElem_cons_zero, List.getElem_cons_succ, List.setIfInBounds_toArray, List.set_cons_zero, List.set_cons_succ]
            refine wpAnyH_take (i := 9) (v := ?v9_1) rfl (by kernel_rfl) (by kernel_rfl) (by kernel_rfl) (fun _ _ _ h => h) (Or.inl ⟨by rfl, ?hy9_1⟩) (by assumption) ?_
            case hy9_1 => (intro W hSw; (try dsimp only at hSw); go_simp; (try with_reducible rfl))
            try simp only [Act.put, List.getElem_toArray, List.getElem_cons_zero, List.getElem_cons_succ, List.setIfInBounds_toArray, List.set_cons_zero, List.set_cons_succ]
            refine wpAnyH_take (i := 10) (v := ?v10_1) rfl (by kernel_rfl) (by kernel_rfl) (by kernel_rfl) (fun _ _ _ h => h) (Or.inl ⟨by rfl, ?hy10_1⟩) (by assumption) ?_
            case hy10_1 => (intro W hSw; (try dsimp only at hSw); go_simp; (try with_reducible rfl))
            try simp only [Act.put, List.getElem_toArray, List.getElem_cons_zero, List.getElem_cons_succ, List.setIfInBounds_toArray, List.set_cons_zero, List.set_cons_succ]
            refine wpAnyH_take (i := 11) (v := ?v11_1) rfl (by kernel_rfl) (by kernel_rfl) (by kernel_rfl) (fun _ _ _ h => h) (Or.inl ⟨by rfl, ?hy11_1⟩) (by assumption) ?_
            case hy11_1 => (intro W hSw; have p1 := (Below.cell hSw (p := ⟨g, 1, none⟩) hgl3).trans c0; (try dsimp only at hSw); go_simp; (try with_reducible rfl))
            try simp only [Act.put, List.getElem_toArray, List.getElem_cons_zero, List.getElem_cons_succ, List.setIfInBounds_toArray, List.set_cons_zero, List.set_cons_succ]
            refine wpAnyH_take (i := 12) (v := ?v12_1) rfl (by kernel_rfl) (by kernel_rfl) (by kernel_rfl) (fun _ _ _ h => h) (Or.inl ⟨by rfl, ?hy12_1⟩) (by assumption) ?_
            case hy12_1 => (intro W hSw; (try dsimp only at hSw); go_simp; (try with_reducible rfl))
            try simp only [Act.put, List.getElem_toArray, List.getElem_cons_zero, List.getElem_cons_succ, List.setIfInBounds_toArray, List.set_cons_zero, List.set_cons_succ]
            refine wpAnyH_take (i := 13) (v := ?v13_1) rfl (by kernel_rfl) (by kernel_rfl) (by kernel_rfl) (fun _ _ _ h => h) (Or.inl ⟨by rfl, ?hy13_1⟩) (by assumption) ?_
            case hy13_1 => (intro W hSw; (try dsimp only at hSw); go_simp; (try with_reducible rfl))
            try simp only [Act.put, List.getElem_toArray, List.getElem_cons_zero, List.getElem_cons_succ, List.setIfInBounds_toArray, List.set_cons_zero, List.set_cons_succ]
            refine wpAnyH_take (i := 14) (v := ?v14_1) rfl (by kernel_rfl) (by kernel_rfl) (by kernel_rfl) (fun _ _ _ h => h) (Or.inl ⟨by rfl, ?hy14_1⟩) (by assumption) ?_
            case hy14_1 => (intro W hSw; have p0 := (Below.cell hSw hab3).trans q0; have p1 := (Below.cell hSw (p := ⟨(ad.add (k * 3)).block, (ad.add (k * 3)).off + 1, none⟩) hab3).trans q1; have p2 := (Below.cell hSw (p := ⟨(ad.add (k * 3)).block, (ad.add (k * 3)).off + 2, none⟩) hab3).trans q2; (try dsimp only at hSw); go_simp; (try with_reducible rfl))
            try simp only [Act.put, List.getElem_toArray, List.getElem_cons_zero, List.getElem_cons_succ, List.setIfInBounds_toArray, List.set_cons_zero, List.set_cons_succ]
            refine wpAnyH_take (i := 15) (v := ?v15_1) rfl (by kernel_rfl) (by kernel_rfl) (by kernel_rfl) (fun _ _ _ h => h) (Or.inl ⟨by rfl, ?hy15_1⟩) (by assumption) ?_
            case hy15_1 => (intro W hSw; have p0 := (Below.cell hSw (p := ⟨eb, 0, none⟩) hebl).trans e0; have p1 := (Below.cell hSw (p := ⟨eb, 1, none⟩) hebl).trans e1; have p2 := (Below.cell hSw (p := ⟨eb, 2, none⟩) hebl).trans e2; (try dsimp only at hSw); go_simp; (try with_reducible rfl))
            try simp only [Act.put, List.getElem_toArray, List.getElem_cons_zero, List.getElem_cons_succ, List.setIfInBounds_toArray, List.set_cons_zero, List.set_cons_succ]
            refine wpAnyH_ready (rs := [16]) (by kernel_rfl) (by simp) ?_
            refine AllReadyH.cons rfl (fun K hK => ?_) AllReadyH.nil
            go_simp
            (refine (gLess_any x ⟨f, t, r⟩ _).mono ?_; rintro e wq ⟨rfl, hbq⟩)
            refine hK.out _ _ ?_ (fun hHeld2 => ?_)
            · exact more3 hHeld hHeld.size hbq
            clear hK K hHeld hbq
            have hHeld := hHeld2
            clear hHeld2
            try simp only [Act.put, List.getElem_toArray, List.getElem_cons_zero, List.getElem_cons_succ, List.setIfInBounds_toArray, List.set_cons_zero, List.set_cons_succ]
            refine wpAnyH_take (i := 17) (v := ?v17_1) rfl (by kernel_rfl) (by kernel_rfl) (by kernel_rfl) (fun _ _ _ h => h) (Or.inl ⟨by rfl, ?hy17_1⟩) (by assumption) ?_
            case hy17_1 => (intro W hSw; (try dsimp only at hSw); go_simp; (try with_reducible rfl))
            try simp only [Act.put, List.getElem_toArray, List.getElem_cons_zero, List.getElem_cons_succ, List.setIfInBounds_toArray, List.set_cons_zero, List.set_cons_succ]
            refine wpAnyH_done (by kernel_rfl) ?_ _
            have HH := Lib.hid hHeld
            clear hHeld
            by_cases hlx : ltE x ⟨f, t, r⟩
            · have HF : Hid (∀ i x, i < k + 1 → es[i]? = some x → ltE x ⟨f, t, r⟩) := fun i y hi hy => by
                rcases Nat.lt_succ_iff_lt_or_eq.1 hi with h' | h'
                · exact hN.out i y h' hy
                · subst h'; rw [HX.out] at hy; injection hy with hy; subst hy; exact hlx
              rw [decide_eq_true hlx]
              clear hlx
              go_wp2_with fail
              go_roundw
              case rel => exact ⟨k + 1, by omega, by go_num, HH, HF⟩
              case measure => simp [intOf]; omega
            · have HP : Hid (edgeL (nodeB ns) f es (t, r) = es.take k ++ ([(⟨f, t, r⟩ : Ed)] ++ es.drop k)) := by
                show _ = _
                unfold edgeL
                rw [if_pos ⟨hok, HFT.out⟩, putG_at (by omega) hN.out (fun y hy => by rw [HX.out] at hy; injection hy with hy; subst hy; exact hlx), if_neg (by rw [HX.out]; intro e; injection e with e; exact HNI.out (by rw [← e]; exact List.mem_of_getElem? HX.out))]
                rfl
              rw [decide_eq_false hlx]
              clear hlx
              have hsq := HH.out.size
              have HBQ : Hid (Blk wq g 29 #[.slice NA ns.length nc, .slice (some ad) es.length ec]) := HB3.out.below HH.out hgl3
              have HEQ : Hid (Blk wq eb 58 #[.string (str f), .string (str t), .int .i64 r]) := HEB.out.below HH.out hebl
              have HONQ := Lib.hid (HON3.out.below HH.out)
              have HLQ := Lib.hid ((HL.out.below HH.out).wide HH.out.size)
              have d0 : wq.cell? ⟨g, 1, none⟩ = some (.slice (some ad) es.length ec) := HBQ.out.cell 1
              have f0 : wq.cell? ⟨eb, 0, none⟩ = some (.string (str f)) := HEQ.out.cell 0
              have f1 : wq.cell? ⟨eb, 1, none⟩ = some (.string (str t)) := HEQ.out.cell 1
              have f2 : wq.cell? ⟨eb, 2, none⟩ = some (.int .i64 r) := HEQ.out.cell 2
              obtain ⟨had1, had2, had3, had4⟩ := HAD.out ad rfl
              obtain ⟨ga, rfl⟩ : ∃ ga, ad = ⟨ga, 0, none⟩ := ⟨_, had4⟩
              clear had4 q0 q1 q2 c0 e0 e1 e2
              have hga : ga < wq.heap.size := by have : ga < w3.heap.size := had2; omega
              have HNEW : Hid (OwnG edLay 58 (wq.alloc (.cells #[.string (str f), .string (str t), .int .i64 r] 58)).drew wq.heap.size (.slice (some ⟨wq.heap.size, 0, none⟩) 1 1) [(⟨f, t, r⟩ : Ed)]) := OwnG.new wq [(⟨f, t, r⟩ : Ed)] (by simp) (by simp [maxLen])
              have hck : ¬ ec = k := by omega
              have HD : Hid (∀ i u, (edLay.all (es.drop k))[i]? = some u → (wq.alloc (.cells #[.string (str f), .string (str t), .int .i64 r] 58)).drew.cell? ((⟨ga, k * 3, none⟩ : Addr).add i) = some u) := fun i u hi => by
                have := (HLQ.out.below (((Below.refl _ wq).alloc (Nat.le_refl _) (.cells #[.string (str f), .string (str t), .int .i64 r] 58)).drew)).drop (by omega : k ≤ es.length)
                rw [show edLay.sz = 3 from rfl, add_g0] at this
                exact this.cells _ rfl i u hi
              have hld : (es.drop k).length = es.length - k := List.length_drop ..
              have b2 : (k : Int) ≤ (es.length : Int) := by omega
              have b3 : (k : Int) ≤ (ec : Int) := by omega
              have hgq : g < wq.heap.size := by omega
              have hebq : eb < wq.heap.size := by omega
              have hlz : (es.take k ++ ([(⟨f, t, r⟩ : Ed)] ++ es.drop k)).length ≤ maxLen := by simp [maxLen]; omega
              go_wp2_with fail
              refine wp_region_Z (S := fun W => Below wq.heap.size wq W) (z := 20) (by kernel_rfl) ?_ (fun hHeld => ?_)
              · exact (Below.refl _ _).drew
              refine wpAnyZ_take (i := 0) (v := ?vz0_1) (by kernel_rfl) rfl (by kernel_rfl) (by kernel_rfl) (by kernel_rfl) (fun _ _ _ h => h) (Or.inl ⟨by rfl, ?hz0_1⟩) (by assumption) ?_
              case hz0_1 => (intro W hSw; (try dsimp only at hSw); go_simp; (try with_reducible rfl))
              try simp only [Act.put, List.getElem_toArray, List.getElem_cons_zero, List.setIfInBounds_toArray, List.set_cons_zero, List.set_cons_succ]
              refine wpAnyZ_take (i := 1) (v := ?vz1_1) (by kernel_rfl) rfl (by kernel_rfl) (by kernel_rfl) (by kernel_rfl) (fun _ _ _ h => h) (Or.inl ⟨by rfl, ?hz1_1⟩) (by assumption) ?_
              case hz1_1 => (intro W hSw; (try dsimp only at hSw); go_simp; (try with_reducible rfl))
              try simp only [Act.put, List.getElem_toArray, List.getElem_cons_zero, List.getElem_cons_succ, List.setIfInBounds_toArray, List.set_cons_zero, List.set_cons_succ]
              refine wpAnyZ_take (i := 2) (v := ?vz2_1) (by kernel_rfl) rfl (by kernel_rfl) (by kernel_rfl) (by kernel_rfl) (fun _ _ _ h => h) (Or.inl ⟨by rfl, ?hz2_1⟩) (by assumption) ?_
              case hz2_1 => (intro W hSw; (try dsimp only at hSw); go_simp; (try with_reducible rfl))
              try simp only [Act.put, List.getElem_toArray, List.getElem_cons_zero, List.getElem_cons_succ, List.setIfInBounds_toArray, List.set_cons_zero, List.set_cons_succ]
              refine wpAnyZ_take (i := 3) (v := ?vz3_1) (by kernel_rfl) rfl (by kernel_rfl) (by kernel_rfl) (by kernel_rfl) (fun _ _ _ h => h) (Or.inl ⟨by rfl, ?hz3_1⟩) (by assumption) ?_
              case hz3_1 => (intro W hSw; (try dsimp only at hSw); go_simp; (try with_reducible rfl))
              try simp only [Act.put, List.getElem_toArray, List.getElem_cons_zero, List.getElem_cons_succ, List.setIfInBounds_toArray, List.set_cons_zero, List.set_cons_succ]
              refine wpAnyZ_take (i := 4) (v := ?vz4_1) (by kernel_rfl) rfl (by kernel_rfl) (by kernel_rfl) (by kernel_rfl) (fun _ _ _ h => h) (Or.inl ⟨by rfl, ?hz4_1⟩) (by assumption) ?_
              case hz4_1 => (intro W hSw; have p1 := (Below.cell hSw (p := ⟨g, 1, none⟩) hgq).trans d0; (try dsimp only at hSw); go_simp; (try with_reducible rfl))
              try simp only [Act.put, List.getElem_toArray, List.getElem_cons_zero, List.getElem_cons_succ, List.setIfInBounds_toArray, List.set_cons_zero, List.set_cons_succ]
              refine wpAnyZ_take (i := 5) (v := ?vz5_1) (by kernel_rfl) rfl (by kernel_rfl) (by kernel_rfl) (by kernel_rfl) (fun _ _ _ h => h) (Or.inl ⟨by rfl, ?hz5_1⟩) (by assumption) ?_
              case hz5_1 => (intro W hSw; (try dsimp only at hSw); go_simp; (try with_reducible rfl))
              try simp only [Act.put, List.getElem_toArray, List.getElem_cons_zero, List.getElem_cons_succ, List.setIfInBounds_toArray, List.set_cons_zero, List.set_cons_succ]
              refine wpAnyZ_take (i := 6) (v := ?vz6_1) (by kernel_rfl) rfl (by kernel_rfl) (by kernel_rfl) (by kernel_rfl) (fun _ _ _ h => h) (Or.inl ⟨by rfl, ?hz6_1⟩) (by assumption) ?_
              case hz6_1 => (intro W hSw; (try dsimp only at hSw); go_simp; (try with_reducible rfl))
              try simp only [Act.put, List.getElem_toArray, List.getElem_cons_zero, List.getElem_cons_succ, List.setIfInBounds_toArray, List.set_cons_zero, List.set_cons_succ]
              refine wpAnyZ_take (i := 7) (v := ?vz7_1) (by kernel_rfl) rfl (by kernel_rfl) (by kernel_rfl) (by kernel_rfl) (fun _ _ _ h => h) (Or.inl ⟨by rfl, ?hz7_1⟩) (by assumption) ?_
              case hz7_1 => (intro W hSw; (try dsimp only at hSw); go_simp; (try with_reducible rfl))
              try simp only [Act.put, List.getElem_toArray, List.getElem_cons_zero, List.getElem_cons_succ, List.setIfInBounds_toArray, List.set_cons_zero, List.set_cons_succ]
              refine wpAnyZ_take (i := 8) (v := ?vz8_1) (by kernel_rfl) rfl (by kernel_rfl) (by kernel_rfl) (by kernel_rfl) (fun _ _ _ h => h) (Or.inl ⟨by rfl, ?hz8_1⟩) (by assumption) ?_
              case hz8_1 => (intro W hSw; have p0 := (Below.cell hSw (p := ⟨eb, 0, none⟩) hebq).trans f0; have p1 := (Below.cell hSw (p := ⟨eb, 1, none⟩) hebq).trans f1; have p2 := (Below.cell hSw (p := ⟨eb, 2, none⟩) hebq).trans f2; (try dsimp only at hSw); go_simp; (try with_reducible rfl))
              try simp only [Act.put, List.getElem_toArray, List.getElem_cons_zero, List.getElem_cons_succ, List.setIfInBounds_toArray, List.set_cons_zero, List.set_cons_succ]
              refine wpAnyZ_take (i := 10) (v := ?vz10_1) (by kernel_rfl) rfl (by kernel_rfl) (by kernel_rfl) (by kernel_rfl) (fun _ _ _ h => h) (Or.inl ⟨by rfl, ?hz10_1⟩) (by assumption) ?_
              case hz10_1 => (intro W hSw; (try dsimp only at hSw); go_simp; (try with_reducible rfl))
              try simp only [Act.put, List.getElem_toArray, List.getElem_cons_zero, List.getElem_cons_succ, List.setIfInBounds_toArray, List.set_cons_zero, List.set_cons_succ]
              refine wpAnyZ_take (i := 11) (v := ?vz11_1) (by kernel_rfl) rfl (by kernel_rfl) (by kernel_rfl) (by kernel_rfl) (fun _ _ _ h => h) (Or.inl ⟨by rfl, ?hz11_1⟩) (by assumption) ?_
              case hz11_1 => (intro W hSw; (try dsimp only at hSw); go_simp; (try with_reducible rfl))
              try simp only [Act.put, List.getElem_toArray, List.getElem_cons_zero, List.getElem_cons_succ, List.setIfInBounds_toArray, List.set_cons_zero, List.set_cons_succ]
              refine wpAnyZ_take (i := 12) (v := ?vz12_1) (by kernel_rfl) rfl (by kernel_rfl) (by kernel_rfl) (by kernel_rfl) (fun _ _ _ h => h) (Or.inl ⟨by rfl, ?hz12_1⟩) (by assumption) ?_
              case hz12_1 => (intro W hSw; (try dsimp only at hSw); go_simp; (try with_reducible rfl))
              try simp only [Act.put, List.getElem_toArray, List.getElem_cons_zero, List.getElem_cons_succ, List.setIfInBounds_toArray, List.set_cons_zero, List.set_cons_succ]
              refine wpAnyZ_take (i := 13) (v := ?vz13_1) (by kernel_rfl) rfl (by kernel_rfl) (by kernel_rfl) (by kernel_rfl) (fun _ _ _ h => h) (Or.inl ⟨by rfl, ?hz13_1⟩) (by assumption) ?_
              case hz13_1 => (intro W hSw; have p1 := (Below.cell hSw (p := ⟨g, 1, none⟩) hgq).trans d0; (try dsimp only at hSw); go_simp; (try with_reducible rfl))
              try simp only [Act.put, List.getElem_toArray, List.getElem_cons_zero, List.getElem_cons_succ, List.setIfInBounds_toArray, List.set_cons_zero, List.set_cons_succ]
              refine wpAnyZ_take (i := 14) (v := ?vz14_1) (by kernel_rfl) rfl (by kernel_rfl) (by kernel_rfl) (by kernel_rfl) (fun _ _ _ h => h) (Or.inl ⟨by rfl, ?hz14_1⟩) (by assumption) ?_
              case hz14_1 => (intro W hSw; (try dsimp only at hSw); go_simp; (try with_reducible rfl))
              try simp only [Act.put, List.getElem_toArray, List.getElem_cons_zero, List.getElem_cons_succ, List.setIfInBounds_toArray, List.set_cons_zero, List.set_cons_succ]
              refine wpAnyZ_take (i := 15) (v := ?vz15_1) (by kernel_rfl) rfl (by kernel_rfl) (by kernel_rfl) (by kernel_rfl) (fun _ _ _ h => h) (Or.inl ⟨by rfl, ?hz15_1⟩) (by assumption) ?_
              case hz15_1 => (intro W hSw; (try dsimp only at hSw); go_simp; (try with_reducible rfl))
              try simp only [Act.put, List.getElem_toArray, List.getElem_cons_zero, List.getElem_cons_succ, List.setIfInBounds_toArray, List.set_cons_zero, List.set_cons_succ]
              refine wpAnyZ_one (i := 9) (by kernel_rfl) rfl (fun K hK => ?_)
              go_simp
              refine hK.out _ _ (.inr ?_) (fun hHeld2 => ?_)
              · exact hHeld.alloc hHeld.size _
              clear hK K hHeld 
              have hHeld := hHeld2.resolve_left (by decide)
              clear hHeld2
              try simp only [Act.put, List.getElem_toArray, List.getElem_cons_zero, List.getElem_cons_succ, List.setIfInBounds_toArray, List.set_cons_zero, List.set_cons_succ]
              refine wpAnyZ_one (i := 16) (by kernel_rfl) rfl (fun K hK => ?_)
              refine step_appendO edTy rfl (.tmp 69) (.tmp 75) (by rfl) wq.heap.size (.slice (some ⟨wq.heap.size, 0, none⟩) 1 1) [(⟨f, t, r⟩ : Ed)] (es.drop k) (by rfl) HNEW.out ⟨ga, k * 3, none⟩ (es.length - k) (ec - k) (by rfl) hld HD.out (by simp; omega) (by simp) ?_
              intro v1 wr1 ho1 hg1 _
              have hbw1 := Lib.hid (put_below _ hg1 rfl)
              obtain ⟨g1, c5, hv1, _, _, _, _, hs1⟩ := ho1.some (by simp) (by simp [maxLen]; omega)
              subst hv1
              have HS1 := Lib.hid hs1
              have hl1 : ([(⟨f, t, r⟩ : Ed)] ++ es.drop k).length = es.length - k + 1 := by simp
              have HR1 : Hid (SlAt edLay wr1 wr1.heap.size (some ⟨ga, 0, none⟩) k (es.take k)) := ((HLQ.out.take (by omega : k ≤ es.length)).below hbw1.out).wide hbw1.out.size
              rw [hl1]
              refine hK.out _ _ (.inr ?_) (fun hHeld2 => ?_)
              · exact hbw1.out
              clear hK K hHeld ho1 hg1 hs1
              have hHeld := hHeld2.resolve_left (by decide)
              clear hHeld2
              try simp only [Act.put, List.getElem_toArray, List.getElem_cons_zero, List.getElem_cons_succ, List.setIfInBounds_toArray, List.set_cons_zero, List.set_cons_succ]
              refine wpAnyZ_one (i := 17) (by kernel_rfl) rfl (fun K hK => ?_)
              refine step_appendN edTy rfl (.tmp 67) (.tmp 76) (by rfl) wr1.heap.size (some ⟨ga, 0, none⟩) k k (es.take k) ([(⟨f, t, r⟩ : Ed)] ++ es.drop k) (by rfl) (by intro h; cases h) HR1.out ⟨g1, 0, none⟩ (es.length - k + 1) c5 (by rfl) hl1 (HS1.out.cells _ rfl) (by omega) (by omega) ?_
              intro v2 wr2 ho2 hg2
              obtain ⟨A5, c6, hv5, hz1, hz2, hz3, hz4⟩ := ho2.slice hlz
              subst hv5
              have HO2 := Lib.hid ho2
              have hbw2 : Hid (Below wq.heap.size wq wr2) := hbw1.out.trans (((Below.refl _ wr1).grown hg2 (Nat.le_refl _) (fun k hk => by cases hk)).mono hbw1.out.size)
              have HBZ : Hid (Blk wr2 g 29 #[.slice NA ns.length nc, .slice (some ⟨ga, 0, none⟩) es.length ec]) := HBQ.out.below hbw2.out hgq
              have st0 : wr2.cell? ⟨g, 1, none⟩ = some (.slice (some ⟨ga, 0, none⟩) es.length ec) := HBZ.out.cell 1
              have st1 := HBZ.out.frozen 1
              have hlen5 : (es.take k ++ ([(⟨f, t, r⟩ : Ed)] ++ es.drop k)).length = k + (es.length - k + 1) := by simp; omega
              rw [hlen5] at HO2 ⊢
              refine hK.out _ _ (.inr ?_) (fun hHeld2 => ?_)
              · exact hbw2.out
              clear hK K hHeld ho2 hg2 hz1 hz2 hz3 hz4
              have hHeld := hHeld2.resolve_left (by decide)
              clear hHeld2
              try simp only [Act.put, List.getElem_toArray, List.getElem_cons_zero, List.getElem_cons_succ, List.setIfInBounds_toArray, List.set_cons_zero, List.set_cons_succ]
              refine wpAnyZ_take (i := 18) (v := ?vz18_1) (by kernel_rfl) rfl (by kernel_rfl) (by kernel_rfl) (by kernel_rfl) (fun _ _ _ h => h) (Or.inl ⟨by rfl, ?hz18_1⟩) (by assumption) ?_
              case hz18_1 => (intro W hSw; (try dsimp only at hSw); go_simp; (try with_reducible rfl))
              try simp only [Act.put, List.getElem_toArray, List.getElem_cons_zero, List.getElem_cons_succ, List.setIfInBounds_toArray, List.set_cons_zero, List.set_cons_succ]
              refine wpAnyZ_take (i := 19) (v := ?vz19_1) (by kernel_rfl) rfl (by kernel_rfl) (by kernel_rfl) (by kernel_rfl) (fun _ _ _ h => h) (Or.inl ⟨by rfl, ?hz19_1⟩) (by assumption) ?_
              case hz19_1 => (intro W hSw; (try dsimp only at hSw); go_simp; (try with_reducible rfl))
              try simp only [Act.put, List.getElem_toArray, List.getElem_cons_zero, List.getElem_cons_succ, List.setIfInBounds_toArray, List.set_cons_zero, List.set_cons_succ]
              refine wpAnyZ_one (i := 20) (by kernel_rfl) rfl (fun K hK => ?_)
              go_simp
              refine hK.out _ _ (.inl rfl) (fun _ => ?_)
              clear hK K hHeld 
              try simp only [Act.put, List.getElem_toArray, List.getElem_cons_zero, List.getElem_cons_succ, List.setIfInBounds_toArray, List.set_cons_zero, List.set_cons_succ]
              refine wpAnyZ_done (by kernel_rfl) ?_ _
              have HWQ : Hid (Below w.heap.size w wq) := HBE.out.trans (HH.out.mono hs3)
              refine bodyPost_ret (results_none rfl _ _ _) rfl ?_
              have hend := edge_end HWQ.out hgl hbw2.out HBZ.out HONQ.out HO2.out hbw1.out.size
              exact ⟨rfl, by rw [HP.out]; exact hend.1, hend.2⟩
          · obtain rfl : k = es.length := by omega
            have HP : Hid (edgeL (nodeB ns) f es (t, r) = es.take es.length ++ [(⟨f, t, r⟩ : Ed)]) := by
              show _ = _
              unfold edgeL
              rw [if_pos ⟨hok, HFT.out⟩, putG_at (Nat.le_refl _) hN.out (fun y hy => by simp at hy), if_neg (by simp), List.drop_of_length_le (Nat.le_refl _)]
            go_wp2_with fail
            refine wp_region_held_drew (S := fun W => Below w3.heap.size w3 W) (by kernel_rfl) ?_ (fun hHeld => ?_)
            · exact hb.out.drew
            refine wpAnyH_take (i := 0) (v := ?v0_2) rfl (by kernel_rfl) (by kernel_rfl) (by kernel_rfl) (fun _ _ _ h => h) (Or.inl ⟨by rfl, ?hy0_2⟩) (by assumption) ?_
            case hy0_2 => (intro W hSw; (try dsimp only at hSw); go_simp; (try with_reducible rfl))
            try simp only [Act.put, List.getElem_toArray, List.getElem_cons_zero, List.setIfInBounds_toArray, List.set_cons_zero, List.set_cons_succ]
            refine wpAnyH_take (i := 1) (v := ?v1_2) rfl (by kernel_rfl) (by kernel_rfl) (by kernel_rfl) (fun _ _ _ h => h) (Or.inl ⟨by rfl, ?hy1_2⟩) (by assumption) ?_
            case hy1_2 => (intro W hSw; (try dsimp only at hSw); go_simp; (try with_reducible rfl))
            try simp only [Act.put, List.getElem_toArray, List.getElem_cons_zero, List.getElem_cons_succ, List.setIfInBounds_toArray, List.set_cons_zero, List.set_cons_succ]
            refine wpAnyH_take (i := 2) (v := ?v2_2) rfl (by kernel_rfl) (by kernel_rfl) (by kernel_rfl) (fun _ _ _ h => h) (Or.inl ⟨by rfl, ?hy2_2⟩) (by assumption) ?_
            case hy2_2 => (intro W hSw; (try dsimp only at hSw); go_simp; (try with_reducible rfl))
            try simp only [Act.put, List.getElem_toArray, List.getElem_cons_zero, List.getElem_cons_succ, List.setIfInBounds_toArray, List.set_cons_zero, List.set_cons_succ]
            refine wpAnyH_take (i := 3) (v := ?v3_2) rfl (by kernel_rfl) (by kernel_rfl) (by kernel_rfl) (fun _ _ _ h => h) (Or.inl ⟨by rfl, ?hy3_2⟩) (by assumption) ?_
            case hy3_2 => (intro W hSw; (try dsimp only at hSw); go_simp; (try with_reducible rfl))
            try simp only [Act.put, List.getElem_toArray, List.getElem_cons_zero, List.getElem_cons_succ, List.setIfInBounds_toArray, List.set_cons_zero, List.set_cons_succ]
            refine wpAnyH_take (i := 4) (v := ?v4_2) rfl (by kernel_rfl) (by kernel_rfl) (by kernel_rfl) (fun _ _ _ h => h) (Or.inl ⟨by rfl, ?hy4_2⟩) (by assumption) ?_
            case hy4_2 => (intro W hSw; have p1 := (Below.cell hSw (p := ⟨g, 1, none⟩) hgl3).trans c0; (try dsimp only at hSw); go_simp; (try with_reducible rfl))
            try simp only [Act.put, List.getElem_toArray, List.getElem_cons_zero, List.getElem_cons_succ, List.setIfInBounds_toArray, List.set_cons_zero, List.set_cons_succ]
            refine wpAnyH_take (i := 5) (v := ?v5_2) rfl (by kernel_rfl) (by kernel_rfl) (by kernel_rfl) (fun _ _ _ h => h) (Or.inl ⟨by rfl, ?hy5_2⟩) (by assumption) ?_
            case hy5_2 => (intro W hSw; (try dsimp only at hSw); go_simp; (try with_reducible rfl))
            try simp only [Act.put, List.getElem_toArray, List.getElem_cons_zero, List.getElem_cons_succ, List.setIfInBounds_toArray, List.set_cons_zero, List.set_cons_succ]
            refine wpAnyH_take (i := 6) (v := ?v6_2) rfl (by kernel_rfl) (by kernel_rfl) (by kernel_rfl) (fun _ _ _ h => h) (Or.inl ⟨by rfl, ?hy6_2⟩) (by assumption) ?_
            case hy6_2 => (intro W hSw; (try dsimp only at hSw); go_simp; (try with_reducible rfl))
            try simp only [Act.put, List.getElem_toArray, List.getElem_cons_zero, List.getElem_cons_succ, List.setIfInBounds_toArray, List.set_cons_zero, List.set_cons_succ]
            refine wpAnyH_take (i := 7) (v := ?v7_2) rfl (by kernel_rfl) (by kernel_rfl) (by kernel_rfl) (fun _ _ _ h => h) (Or.inl ⟨by rfl, ?hy7_2⟩) (by assumption) ?_
            case hy7_2 => (intro W hSw; (try dsimp only at hSw); go_simp; (try with_reducible rfl))
            try simp only [Act.put, List.getElem_toArray, List.getElem_cons_zero, List.getElem_cons_succ, List.setIfInBounds_toArray, List.set_cons_zero, List.set_cons_succ]
            refine wpAnyH_take (i := 8) (v := undef) rfl (by kernel_rfl) (by kernel_rfl) (by kernel_rfl) (fun _ _ _ h => h) (Or.inr ⟨by rfl, rfl⟩) (by assumption) ?_
            try simp only [Act.put, List.getElem_toArray, List.getElem_cons_zero, List.getElem_cons_succ, List.setIfInBounds_toArray, List.set_cons_zero, List.set_cons_succ]
            refine wpAnyH_take (i := 9) (v := undef) rfl (by kernel_rfl) (by kernel_rfl) (by kernel_rfl) (fun _ _ _ h => h) (Or.inr ⟨by rfl, rfl⟩) (by assumption) ?_
            try simp only [Act.put, List.getElem_toArray, List.getElem_cons_zero, List.getElem_cons_succ, List.setIfInBounds_toArray, List.set_cons_zero, List.set_cons_succ]
            refine wpAnyH_take (i := 10) (v := undef) rfl (by kernel_rfl) (by kernel_rfl) (by kernel_rfl) (fun _ _ _ h => h) (Or.inr ⟨by rfl, rfl⟩) (by assumption) ?_
            try simp only [Act.put, List.getElem_toArray, List.getElem_cons_zero, List.getElem_cons_succ, List.setIfInBounds_toArray, List.set_cons_zero, List.set_cons_succ]
            refine wpAnyH_take (i := 11) (v := undef) rfl (by kernel_rfl) (by kernel_rfl) (by kernel_rfl) (fun _ _ _ h => h) (Or.inr ⟨by rfl, rfl⟩) (by assumption) ?_
            try simp only [Act.put, List.getElem_toArray, List.getElem_cons_zero, List.getElem_cons_succ, List.setIfInBounds_toArray, List.set_cons_zero, List.set_cons_succ]
            refine wpAnyH_take (i := 12) (v := undef) rfl (by kernel_rfl) (by kernel_rfl) (by kernel_rfl) (fun _ _ _ h => h) (Or.inr ⟨by rfl, rfl⟩) (by assumption) ?_
            try simp only [Act.put, List.getElem_toArray, List.getElem_cons_zero, List.getElem_cons_succ, List.setIfInBounds_toArray, List.set_cons_zero, List.set_cons_succ]
            refine wpAnyH_take (i := 13) (v := undef) rfl (by kernel_rfl) (by kernel_rfl) (by kernel_rfl) (fun _ _ _ h => h) (Or.inr ⟨by rfl, rfl⟩) (by assumption) ?_
            try simp only [Act.put, List.getElem_toArray, List.getElem_cons_zero, List.getElem_cons_succ, List.setIfInBounds_toArray, List.set_cons_zero, List.set_cons_succ]
            refine wpAnyH_take (i := 14) (v := undef) rfl (by kernel_rfl) (by kernel_rfl) (by kernel_rfl) (fun _ _ _ h => h) (Or.inr ⟨by rfl, rfl⟩) (by assumption) ?_
            try simp only [Act.put, List.getElem_toArray, List.getElem_cons_zero, List.getElem_cons_succ, List.setIfInBounds_toArray, List.set_cons_zero, List.set_cons_succ]
            refine wpAnyH_take (i := 15) (v := undef) rfl (by kernel_rfl) (by kernel_rfl) (by kernel_rfl) (fun _ _ _ h => h) (Or.inr ⟨by rfl, rfl⟩) (by assumption) ?_
            try simp only [Act.put, List.getElem_toArray, List.getElem_cons_zero, List.getElem_cons_succ, List.setIfInBounds_toArray, List.set_cons_zero, List.set_cons_succ]
            refine wpAnyH_take (i := 16) (v := undef) rfl (by kernel_rfl) (by kernel_rfl) (by kernel_rfl) (fun _ _ _ h => h) (Or.inr ⟨by rfl, rfl⟩) (by assumption) ?_
            try simp only [Act.put, List.getElem_toArray, List.getElem_cons_zero, List.getElem_cons_succ, List.setIfInBounds_toArray, List.set_cons_zero, List.set_cons_succ]
            refine wpAnyH_take (i := 17) (v := ?v17_2) rfl (by kernel_rfl) (by kernel_rfl) (by kernel_rfl) (fun _ _ _ h => h) (Or.inl ⟨by rfl, ?hy17_2⟩) (by assumption) ?_
            case hy17_2 => (intro W hSw; (try dsimp only at hSw); go_simp; (try with_reducible rfl))
            try simp only [Act.put, List.getElem_toArray, List.getElem_cons_zero, List.getElem_cons_succ, List.setIfInBounds_toArray, List.set_cons_zero, List.set_cons_succ]
            refine wpAnyH_done (by kernel_rfl) ?_ _
            obtain ⟨wq, hwq⟩ : ∃ wq, wr.drew = wq := ⟨_, rfl⟩
            rw [hwq] at hHeld
            rw [hwq]
            clear hwq
            have HH := Lib.hid hHeld
            clear hHeld
            have hsq := HH.out.size
            have HBQ : Hid (Blk wq g 29 #[.slice NA ns.length nc, .slice EA es.length ec]) := HB3.out.below HH.out hgl3
            have HEQ : Hid (Blk wq eb 58 #[.string (str f), .string (str t), .int .i64 r]) := HEB.out.below HH.out hebl
            have HONQ := Lib.hid (HON3.out.below HH.out)
            have HLQ := Lib.hid ((HL.out.below HH.out).wide HH.out.size)
            have d0 : wq.cell? ⟨g, 1, none⟩ = some (.slice EA es.length ec) := HBQ.out.cell 1
            have f0 : wq.cell? ⟨eb, 0, none⟩ = some (.string (str f)) := HEQ.out.cell 0
            have f1 : wq.cell? ⟨eb, 1, none⟩ = some (.string (str t)) := HEQ.out.cell 1
            have f2 : wq.cell? ⟨eb, 2, none⟩ = some (.int .i64 r) := HEQ.out.cell 2
            have hgq : g < wq.heap.size := by omega
            have hebq : eb < wq.heap.size := by omega
            have hlz : (es.take es.length ++ [(⟨f, t, r⟩ : Ed)]).length ≤ maxLen := by simp [maxLen]; omega
            have hlen5 : (es.take es.length ++ [(⟨f, t, r⟩ : Ed)]).length = es.length + 1 := by simp
            have HNEW : Hid (OwnG edLay 58 (wq.alloc (.cells #[.string (str f), .string (str t), .int .i64 r] 58)).drew wq.heap.size (.slice (some ⟨wq.heap.size, 0, none⟩) 1 1) [(⟨f, t, r⟩ : Ed)]) := OwnG.new wq [(⟨f, t, r⟩ : Ed)] (by simp) (by simp [maxLen])
            have HNC : Hid (∀ i u, (edLay.all [(⟨f, t, r⟩ : Ed)])[i]? = some u → (wq.alloc (.cells #[.string (str f), .string (str t), .int .i64 r] 58)).drew.cell? ((⟨wq.heap.size, 0, none⟩ : Addr).add i) = some u) := fun i u hi => by
              obtain ⟨ga, c, e, _, _, _, _, hs⟩ := HNEW.out.some (by simp) (by simp [maxLen])
              injection e with e1 e2 e3
              injection e1 with e1
              injection e1 with e1
              rw [e1]
              exact hs.cells _ rfl i u hi
            have HBW2 : Hid (Below wq.heap.size wq (wq.alloc (.cells #[.string (str f), .string (str t), .int .i64 r] 58)).drew) := ((Below.refl _ wq).alloc (Nat.le_refl _) _).drew
            have HWQ : Hid (Below w.heap.size w wq) := HBE.out.trans (HH.out.mono hs3)
            have z2 : (es.length : Int) ≤ (es.length : Int) := by omega
            have z3 : (es.length : Int) ≤ (ec : Int) := by omega
            cases EA with
            | none =>
              obtain rfl : ec = 0 := hno rfl
              have hl0 : es.length = 0 := by omega
              have HT : Hid (SlAt edLay (wq.alloc (.cells #[.string (str f), .string (str t), .int .i64 r] 58)).drew (wq.alloc (.cells #[.string (str f), .string (str t), .int .i64 r] 58)).drew.heap.size none 0 (es.take es.length)) := by
                have : es.take es.length = [] := by rw [hl0]; rfl
                rw [this]
                exact SlAt.none_
              clear hno HAD
              have hlen5 : (es.take es.length ++ [(⟨f, t, r⟩ : Ed)]).length = 1 := by simp [hl0]
              go_wp2_with fail
              refine wp_region_Z (S := fun W => Below wq.heap.size wq W) (z := 20) (by kernel_rfl) ?_ (fun hHeld => ?_)
              · exact (Below.refl _ _).drew
              refine wpAnyZ_take (i := 0) (v := ?vz0_3) (by kernel_rfl) rfl (by kernel_rfl) (by kernel_rfl) (by kernel_rfl) (fun _ _ _ h => h) (Or.inl ⟨by rfl, ?hz0_3⟩) (by assumption) ?_
              case hz0_3 => (intro W hSw; (try dsimp only at hSw); go_simp; (try with_reducible rfl))
              try simp only [Act.put, List.getElem_toArray, List.getElem_cons_zero, List.setIfInBounds_toArray, List.set_cons_zero, List.set_cons_succ]
              refine wpAnyZ_take (i := 1) (v := ?vz1_3) (by kernel_rfl) rfl (by kernel_rfl) (by kernel_rfl) (by kernel_rfl) (fun _ _ _ h => h) (Or.inl ⟨by rfl, ?hz1_3⟩) (by assumption) ?_
              case hz1_3 => (intro W hSw; (try dsimp only at hSw); go_simp; (try with_reducible rfl))
              try simp only [Act.put, List.getElem_toArray, List.getElem_cons_zero, List.getElem_cons_succ, List.setIfInBounds_toArray, List.set_cons_zero, List.set_cons_succ]
              refine wpAnyZ_take (i := 2) (v := ?vz2_3) (by kernel_rfl) rfl (by kernel_rfl) (by kernel_rfl) (by kernel_rfl) (fun _ _ _ h => h) (Or.inl ⟨by rfl, ?hz2_3⟩) (by assumption) ?_
              case hz2_3 => (intro W hSw; (try dsimp only at hSw); go_simp; (try with_reducible rfl))
              try simp only [Act.put, List.getElem_toArray, List.getElem_cons_zero, List.getElem_cons_succ, List.setIfInBounds_toArray, List.set_cons_zero, List.set_cons_succ]
              refine wpAnyZ_take (i := 3) (v := ?vz3_3) (by kernel_rfl) rfl (by kernel_rfl) (by kernel_rfl) (by kernel_rfl) (fun _ _ _ h => h) (Or.inl ⟨by rfl, ?hz3_3⟩) (by assumption) ?_
              case hz3_3 => (intro W hSw; (try dsimp only at hSw); go_simp; (try with_reducible rfl))
              try simp only [Act.put, List.getElem_toArray, List.getElem_cons_zero, List.getElem_cons_succ, List.setIfInBounds_toArray, List.set_cons_zero, List.set_cons_succ]
              refine wpAnyZ_take (i := 4) (v := ?vz4_3) (by kernel_rfl) rfl (by kernel_rfl) (by kernel_rfl) (by kernel_rfl) (fun _ _ _ h => h) (Or.inl ⟨by rfl, ?hz4_3⟩) (by assumption) ?_
              case hz4_3 => (intro W hSw; have p1 := (Below.cell hSw (p := ⟨g, 1, none⟩) hgq).trans d0; (try dsimp only at hSw); go_simp; (try with_reducible rfl))
              try simp only [Act.put, List.getElem_toArray, List.getElem_cons_zero, List.getElem_cons_succ, List.setIfInBounds_toArray, List.set_cons_zero, List.set_cons_succ]
              refine wpAnyZ_take (i := 5) (v := ?vz5_3) (by kernel_rfl) rfl (by kernel_rfl) (by kernel_rfl) (by kernel_rfl) (fun _ _ _ h => h) (Or.inl ⟨by rfl, ?hz5_3⟩) (by assumption) ?_
              case hz5_3 => (intro W hSw; (try dsimp only at hSw); go_simp; (try with_reducible rfl))
              try simp only [Act.put, List.getElem_toArray, List.getElem_cons_zero, List.getElem_cons_succ, List.setIfInBounds_toArray, List.set_cons_zero, List.set_cons_succ]
              refine wpAnyZ_take (i := 6) (v := ?vz6_3) (by kernel_rfl) rfl (by kernel_rfl) (by kernel_rfl) (by kernel_rfl) (fun _ _ _ h => h) (Or.inl ⟨by rfl, ?hz6_3⟩) (by assumption) ?_
              case hz6_3 => (intro W hSw; (try dsimp only at hSw); go_simp; (try with_reducible rfl))
              try simp only [Act.put, List.getElem_toArray, List.getElem_cons_zero, List.getElem_cons_succ, List.setIfInBounds_toArray, List.set_cons_zero, List.set_cons_succ]
              refine wpAnyZ_take (i := 7) (v := ?vz7_3) (by kernel_rfl) rfl (by kernel_rfl) (by kernel_rfl) (by kernel_rfl) (fun _ _ _ h => h) (Or.inl ⟨by rfl, ?hz7_3⟩) (by assumption) ?_
              case hz7_3 => (intro W hSw; (try dsimp only at hSw); go_simp; (try with_reducible rfl))
              try simp only [Act.put, List.getElem_toArray, List.getElem_cons_zero, List.getElem_cons_succ, List.setIfInBounds_toArray, List.set_cons_zero, List.set_cons_succ]
              refine wpAnyZ_take (i := 8) (v := ?vz8_3) (by kernel_rfl) rfl (by kernel_rfl) (by kernel_rfl) (by kernel_rfl) (fun _ _ _ h => h) (Or.inl ⟨by rfl, ?hz8_3⟩) (by assumption) ?_
              case hz8_3 => (intro W hSw; have p0 := (Below.cell hSw (p := ⟨eb, 0, none⟩) hebq).trans f0; have p1 := (Below.cell hSw (p := ⟨eb, 1, none⟩) hebq).trans f1; have p2 := (Below.cell hSw (p := ⟨eb, 2, none⟩) hebq).trans f2; (try dsimp only at hSw); go_simp; (try with_reducible rfl))
              try simp only [Act.put, List.getElem_toArray, List.getElem_cons_zero, List.getElem_cons_succ, List.setIfInBounds_toArray, List.set_cons_zero, List.set_cons_succ]
              refine wpAnyZ_take (i := 10) (v := ?vz10_3) (by kernel_rfl) rfl (by kernel_rfl) (by kernel_rfl) (by kernel_rfl) (fun _ _ _ h => h) (Or.inl ⟨by rfl, ?hz10_3⟩) (by assumption) ?_
              case hz10_3 => (intro W hSw; (try dsimp only at hSw); go_simp; (try with_reducible rfl))
              try simp only [Act.put, List.getElem_toArray, List.getElem_cons_zero, List.getElem_cons_succ, List.setIfInBounds_toArray, List.set_cons_zero, List.set_cons_succ]
              refine wpAnyZ_take (i := 11) (v := ?vz11_3) (by kernel_rfl) rfl (by kernel_rfl) (by kernel_rfl) (by kernel_rfl) (fun _ _ _ h => h) (Or.inl ⟨by rfl, ?hz11_3⟩) (by assumption) ?_
              case hz11_3 => (intro W hSw; (try dsimp only at hSw); go_simp; (try with_reducible rfl))
              try simp only [Act.put, List.getElem_toArray, List.getElem_cons_zero, List.getElem_cons_succ, List.setIfInBounds_toArray, List.set_cons_zero, List.set_cons_succ]
              refine wpAnyZ_take (i := 12) (v := ?vz12_3) (by kernel_rfl) rfl (by kernel_rfl) (by kernel_rfl) (by kernel_rfl) (fun _ _ _ h => h) (Or.inl ⟨by rfl, ?hz12_3⟩) (by assumption) ?_
              case hz12_3 => (intro W hSw; (try dsimp only at hSw); go_simp; (try with_reducible rfl))
              try simp only [Act.put, List.getElem_toArray, List.getElem_cons_zero, List.getElem_cons_succ, List.setIfInBounds_toArray, List.set_cons_zero, List.set_cons_succ]
              refine wpAnyZ_take (i := 13) (v := ?vz13_3) (by kernel_rfl) rfl (by kernel_rfl) (by kernel_rfl) (by kernel_rfl) (fun _ _ _ h => h) (Or.inl ⟨by rfl, ?hz13_3⟩) (by assumption) ?_
              case hz13_3 => (intro W hSw; have p1 := (Below.cell hSw (p := ⟨g, 1, none⟩) hgq).trans d0; (try dsimp only at hSw); go_simp; (try with_reducible rfl))
              try simp only [Act.put, List.getElem_toArray, List.getElem_cons_zero, List.getElem_cons_succ, List.setIfInBounds_toArray, List.set_cons_zero, List.set_cons_succ]
              refine wpAnyZ_take (i := 14) (v := ?vz14_3) (by kernel_rfl) rfl (by kernel_rfl) (by kernel_rfl) (by kernel_rfl) (fun _ _ _ h => h) (Or.inl ⟨by rfl, ?hz14_3⟩) (by assumption) ?_
              case hz14_3 => (intro W hSw; (try dsimp only at hSw); go_simp; (try with_reducible rfl))
              try simp only [Act.put, List.getElem_toArray, List.getElem_cons_zero, List.getElem_cons_succ, List.setIfInBounds_toArray, List.set_cons_zero, List.set_cons_succ]
              refine wpAnyZ_take (i := 15) (v := ?vz15_3) (by kernel_rfl) rfl (by kernel_rfl) (by kernel_rfl) (by kernel_rfl) (fun _ _ _ h => h) (Or.inl ⟨by rfl, ?hz15_3⟩) (by assumption) ?_
              case hz15_3 => (intro W hSw; (try dsimp only at hSw); go_simp; (try with_reducible rfl))
              try simp only [Act.put, List.getElem_toArray, List.getElem_cons_zero, List.getElem_cons_succ, List.setIfInBounds_toArray, List.set_cons_zero, List.set_cons_succ]
              refine wpAnyZ_one (i := 9) (by kernel_rfl) rfl (fun K hK => ?_)
              go_simp
              refine hK.out _ _ (.inr ?_) (fun hHeld2 => ?_)
              · exact hHeld.alloc hHeld.size _
              clear hK K hHeld 
              have hHeld := hHeld2.resolve_left (by decide)
              clear hHeld2
              try simp only [Act.put, List.getElem_toArray, List.getElem_cons_zero, List.getElem_cons_succ, List.setIfInBounds_toArray, List.set_cons_zero, List.set_cons_succ]
              refine wpAnyZ_take (i := 16) (v := ?vz16_3) (by kernel_rfl) rfl (by kernel_rfl) (by kernel_rfl) (by kernel_rfl) (fun _ _ _ h => h) (Or.inl ⟨by rfl, ?hz16_3⟩) (by assumption) ?_
              case hz16_3 => (intro W hSw; (try dsimp only at hSw); go_simp; (try with_reducible rfl))
              try simp only [Act.put, List.getElem_toArray, List.getElem_cons_zero, List.getElem_cons_succ, List.setIfInBounds_toArray, List.set_cons_zero, List.set_cons_succ]
              refine wpAnyZ_one (i := 17) (by kernel_rfl) rfl (fun K hK => ?_)
              refine step_appendN edTy rfl (.tmp 67) (.tmp 76) (by rfl) (wq.alloc (.cells #[.string (str f), .string (str t), .int .i64 r] 58)).drew.heap.size none 0 0 (es.take es.length) [(⟨f, t, r⟩ : Ed)] (by rfl) (fun _ => ⟨rfl, rfl⟩) HT.out ⟨wq.heap.size, 0, none⟩ 1 1 (by rfl) rfl (HNC.out) (by omega) (by omega) ?_
              intro v2 wr2 ho2 hg2
              obtain ⟨A5, c6, hv5, hz1, hz2, hz3, hz4⟩ := ho2.slice hlz
              subst hv5
              have HO2 := Lib.hid ho2
              have hbw2 : Hid (Below wq.heap.size wq wr2) := HBW2.out.trans (((Below.refl _ _).grown hg2 (Nat.le_refl _) (fun k hk => by cases hk)).mono HBW2.out.size)
              have HBZ : Hid (Blk wr2 g 29 #[.slice NA ns.length nc, .slice none es.length 0]) := HBQ.out.below hbw2.out hgq
              have st0 : wr2.cell? ⟨g, 1, none⟩ = some (.slice none es.length 0) := HBZ.out.cell 1
              have st1 := HBZ.out.frozen 1
              rw [hlen5] at HO2 ⊢
              refine hK.out _ _ (.inr ?_) (fun hHeld2 => ?_)
              · exact hbw2.out
              clear hK K hHeld ho2 hg2 hz1 hz2 hz3 hz4
              have hHeld := hHeld2.resolve_left (by decide)
              clear hHeld2
              try simp only [Act.put, List.getElem_toArray, List.getElem_cons_zero, List.getElem_cons_succ, List.setIfInBounds_toArray, List.set_cons_zero, List.set_cons_succ]
              refine wpAnyZ_take (i := 18) (v := ?vz18_3) (by kernel_rfl) rfl (by kernel_rfl) (by kernel_rfl) (by kernel_rfl) (fun _ _ _ h => h) (Or.inl ⟨by rfl, ?hz18_3⟩) (by assumption) ?_
              case hz18_3 => (intro W hSw; (try dsimp only at hSw); go_simp; (try with_reducible rfl))
              try simp only [Act.put, List.getElem_toArray, List.getElem_cons_zero, List.getElem_cons_succ, List.setIfInBounds_toArray, List.set_cons_zero, List.set_cons_succ]
              refine wpAnyZ_take (i := 19) (v := ?vz19_3) (by kernel_rfl) rfl (by kernel_rfl) (by kernel_rfl) (by kernel_rfl) (fun _ _ _ h => h) (Or.inl ⟨by rfl, ?hz19_3⟩) (by assumption) ?_
              case hz19_3 => (intro W hSw; (try dsimp only at hSw); go_simp; (try with_reducible rfl))
              try simp only [Act.put, List.getElem_toArray, List.getElem_cons_zero, List.getElem_cons_succ, List.setIfInBounds_toArray, List.set_cons_zero, List.set_cons_succ]
              refine wpAnyZ_one (i := 20) (by kernel_rfl) rfl (fun K hK => ?_)
              go_simp
              refine hK.out _ _ (.inl rfl) (fun _ => ?_)
              clear hK K hHeld 
              try simp only [Act.put, List.getElem_toArray, List.getElem_cons_zero, List.getElem_cons_succ, List.setIfInBounds_toArray, List.set_cons_zero, List.set_cons_succ]
              refine wpAnyZ_done (by kernel_rfl) ?_ _
              refine bodyPost_ret (results_none rfl _ _ _) rfl ?_
              have hend := edge_end HWQ.out hgl hbw2.out HBZ.out HONQ.out HO2.out HBW2.out.size
              exact ⟨rfl, by rw [HP.out]; exact hend.1, hend.2⟩
            | some ad =>
              obtain ⟨had1, had2, had3, had4⟩ := HAD.out ad rfl
              obtain ⟨ga, rfl⟩ : ∃ ga, ad = ⟨ga, 0, none⟩ := ⟨_, had4⟩
              have HT : Hid (SlAt edLay (wq.alloc (.cells #[.string (str f), .string (str t), .int .i64 r] 58)).drew (wq.alloc (.cells #[.string (str f), .string (str t), .int .i64 r] 58)).drew.heap.size (some ⟨ga, 0, none⟩) es.length (es.take es.length)) := ((HLQ.out.take (Nat.le_refl _)).below HBW2.out).wide HBW2.out.size
              clear had4 hno HAD
              by_cases hck : ec = es.length
              · subst hck
                go_wp2_with fail
                refine wp_region_Z (S := fun W => Below wq.heap.size wq W) (z := 20) (by kernel_rfl) ?_ (fun hHeld => ?_)
                · exact (Below.refl _ _).drew
                refine wpAnyZ_take (i := 0) (v := ?vz0_2) (by kernel_rfl) rfl (by kernel_rfl) (by kernel_rfl) (by kernel_rfl) (fun _ _ _ h => h) (Or.inl ⟨by rfl, ?hz0_2⟩) (by assumption) ?_
                case hz0_2 => (intro W hSw; (try dsimp only at hSw); go_simp; (try with_reducible rfl))
                try simp only [Act.put, List.getElem_toArray, List.getElem_cons_zero, List.setIfInBounds_toArray, List.set_cons_zero, List.set_cons_succ]
                refine wpAnyZ_take (i := 1) (v := ?vz1_2) (by kernel_rfl) rfl (by kernel_rfl) (by kernel_rfl) (by kernel_rfl) (fun _ _ _ h => h) (Or.inl ⟨by rfl, ?hz1_2⟩) (by assumption) ?_
                case hz1_2 => (intro W hSw; (try dsimp only at hSw); go_simp; (try with_reducible rfl))
                try simp only [Act.put, List.getElem_toArray, List.getElem_cons_zero, List.getElem_cons_succ, List.setIfInBounds_toArray, List.set_cons_zero, List.set_cons_succ]
                refine wpAnyZ_take (i := 2) (v := ?vz2_2) (by kernel_rfl) rfl (by kernel_rfl) (by kernel_rfl) (by kernel_rfl) (fun _ _ _ h => h) (Or.inl ⟨by rfl, ?hz2_2⟩) (by assumption) ?_
                case hz2_2 => (intro W hSw; (try dsimp only at hSw); go_simp; (try with_reducible rfl))
                try simp only [Act.put, List.getElem_toArray, List.getElem_cons_zero, List.getElem_cons_succ, List.setIfInBounds_toArray, List.set_cons_zero, List.set_cons_succ]
                refine wpAnyZ_take (i := 3) (v := ?vz3_2) (by kernel_rfl) rfl (by kernel_rfl) (by kernel_rfl) (by kernel_rfl) (fun _ _ _ h => h) (Or.inl ⟨by rfl, ?hz3_2⟩) (by assumption) ?_
                case hz3_2 => (intro W hSw; (try dsimp only at hSw); go_simp; (try with_reducible rfl))
                try simp only [Act.put, List.getElem_toArray, List.getElem_cons_zero, List.getElem_cons_succ, List.setIfInBounds_toArray, List.set_cons_zero, List.set_cons_succ]
                refine wpAnyZ_take (i := 4) (v := ?vz4_2) (by kernel_rfl) rfl (by kernel_rfl) (by kernel_rfl) (by kernel_rfl) (fun _ _ _ h => h) (Or.inl ⟨by rfl, ?hz4_2⟩) (by assumption) ?_
                case hz4_2 => (intro W hSw; have p1 := (Below.cell hSw (p := ⟨g, 1, none⟩) hgq).trans d0; (try dsimp only at hSw); go_simp; (try with_reducible rfl))
                try simp only [Act.put, List.getElem_toArray, List.getElem_cons_zero, List.getElem_cons_succ, List.setIfInBounds_toArray, List.set_cons_zero, List.set_cons_succ]
                refine wpAnyZ_take (i := 5) (v := ?vz5_2) (by kernel_rfl) rfl (by kernel_rfl) (by kernel_rfl) (by kernel_rfl) (fun _ _ _ h => h) (Or.inl ⟨by rfl, ?hz5_2⟩) (by assumption) ?_
                case hz5_2 => (intro W hSw; (try dsimp only at hSw); go_simp; (try with_reducible rfl))
                try simp only [Act.put, List.getElem_toArray, List.getElem_cons_zero, List.getElem_cons_succ, List.setIfInBounds_toArray, List.set_cons_zero, List.set_cons_succ]
                refine wpAnyZ_take (i := 6) (v := ?vz6_2) (by kernel_rfl) rfl (by kernel_rfl) (by kernel_rfl) (by kernel_rfl) (fun _ _ _ h => h) (Or.inl ⟨by rfl, ?hz6_2⟩) (by assumption) ?_
                case hz6_2 => (intro W hSw; (try dsimp only at hSw); go_simp; (try with_reducible rfl))
                try simp only [Act.put, List.getElem_toArray, List.getElem_cons_zero, List.getElem_cons_succ, List.setIfInBounds_toArray, List.set_cons_zero, List.set_cons_succ]
                refine wpAnyZ_take (i := 7) (v := ?vz7_2) (by kernel_rfl) rfl (by kernel_rfl) (by kernel_rfl) (by kernel_rfl) (fun _ _ _ h => h) (Or.inl ⟨by rfl, ?hz7_2⟩) (by assumption) ?_
                case hz7_2 => (intro W hSw; (try dsimp only at hSw); go_simp; (try with_reducible rfl))
                try simp only [Act.put, List.getElem_toArray, List.getElem_cons_zero, List.getElem_cons_succ, List.setIfInBounds_toArray, List.set_cons_zero, List.set_cons_succ]
                refine wpAnyZ_take (i := 8) (v := ?vz8_2) (by kernel_rfl) rfl (by kernel_rfl) (by kernel_rfl) (by kernel_rfl) (fun _ _ _ h => h) (Or.inl ⟨by rfl, ?hz8_2⟩) (by assumption) ?_
                case hz8_2 => (intro W hSw; have p0 := (Below.cell hSw (p := ⟨eb, 0, none⟩) hebq).trans f0; have p1 := (Below.cell hSw (p := ⟨eb, 1, none⟩) hebq).trans f1; have p2 := (Below.cell hSw (p := ⟨eb, 2, none⟩) hebq).trans f2; (try dsimp only at hSw); go_simp; (try with_reducible rfl))
                try simp only [Act.put, List.getElem_toArray, List.getElem_cons_zero, List.getElem_cons_succ, List.setIfInBounds_toArray, List.set_cons_zero, List.set_cons_succ]
                refine wpAnyZ_take (i := 10) (v := ?vz10_2) (by kernel_rfl) rfl (by kernel_rfl) (by kernel_rfl) (by kernel_rfl) (fun _ _ _ h => h) (Or.inl ⟨by rfl, ?hz10_2⟩) (by assumption) ?_
                case hz10_2 => (intro W hSw; (try dsimp only at hSw); go_simp; (try with_reducible rfl))
                try simp only [Act.put, List.getElem_toArray, List.getElem_cons_zero, List.getElem_cons_succ, List.setIfInBounds_toArray, List.set_cons_zero, List.set_cons_succ]
                refine wpAnyZ_take (i := 11) (v := ?vz11_2) (by kernel_rfl) rfl (by kernel_rfl) (by kernel_rfl) (by kernel_rfl) (fun _ _ _ h => h) (Or.inl ⟨by rfl, ?hz11_2⟩) (by assumption) ?_
                case hz11_2 => (intro W hSw; (try dsimp only at hSw); go_simp; (try with_reducible rfl))
                try simp only [Act.put, List.getElem_toArray, List.getElem_cons_zero, List.getElem_cons_succ, List.setIfInBounds_toArray, List.set_cons_zero, List.set_cons_succ]
                refine wpAnyZ_take (i := 12) (v := ?vz12_2) (by kernel_rfl) rfl (by kernel_rfl) (by kernel_rfl) (by kernel_rfl) (fun _ _ _ h => h) (Or.inl ⟨by rfl, ?hz12_2⟩) (by assumption) ?_
                case hz12_2 => (intro W hSw; (try dsimp only at hSw); go_simp; (try with_reducible rfl))
                try simp only [Act.put, List.getElem_toArray, List.getElem_cons_zero, List.getElem_cons_succ, List.setIfInBounds_toArray, List.set_cons_zero, List.set_cons_succ]
                refine wpAnyZ_take (i := 13) (v := ?vz13_2) (by kernel_rfl) rfl (by kernel_rfl) (by kernel_rfl) (by kernel_rfl) (fun _ _ _ h => h) (Or.inl ⟨by rfl, ?hz13_2⟩) (by assumption) ?_
                case hz13_2 => (intro W hSw; have p1 := (Below.cell hSw (p := ⟨g, 1, none⟩) hgq).trans d0; (try dsimp only at hSw); go_simp; (try with_reducible rfl))
                try simp only [Act.put, List.getElem_toArray, List.getElem_cons_zero, List.getElem_cons_succ, List.setIfInBounds_toArray, List.set_cons_zero, List.set_cons_succ]
                refine wpAnyZ_take (i := 14) (v := ?vz14_2) (by kernel_rfl) rfl (by kernel_rfl) (by kernel_rfl) (by kernel_rfl) (fun _ _ _ h => h) (Or.inl ⟨by rfl, ?hz14_2⟩) (by assumption) ?_
                case hz14_2 => (intro W hSw; (try dsimp only at hSw); go_simp; (try with_reducible rfl))
                try simp only [Act.put, List.getElem_toArray, List.getElem_cons_zero, List.getElem_cons_succ, List.setIfInBounds_toArray, List.set_cons_zero, List.set_cons_succ]
                refine wpAnyZ_take (i := 15) (v := ?vz15_2) (by kernel_rfl) rfl (by kernel_rfl) (by kernel_rfl) (by kernel_rfl) (fun _ _ _ h => h) (Or.inl ⟨by rfl, ?hz15_2⟩) (by assumption) ?_
                case hz15_2 => (intro W hSw; (try dsimp only at hSw); go_simp; (try with_reducible rfl))
                try simp only [Act.put, List.getElem_toArray, List.getElem_cons_zero, List.getElem_cons_succ, List.setIfInBounds_toArray, List.set_cons_zero, List.set_cons_succ]
                refine wpAnyZ_one (i := 9) (by kernel_rfl) rfl (fun K hK => ?_)
                go_simp
                refine hK.out _ _ (.inr ?_) (fun hHeld2 => ?_)
                · exact hHeld.alloc hHeld.size _
                clear hK K hHeld 
                have hHeld := hHeld2.resolve_left (by decide)
                clear hHeld2
                try simp only [Act.put, List.getElem_toArray, List.getElem_cons_zero, List.getElem_cons_succ, List.setIfInBounds_toArray, List.set_cons_zero, List.set_cons_succ]
                refine wpAnyZ_take (i := 16) (v := ?vz16_2) (by kernel_rfl) rfl (by kernel_rfl) (by kernel_rfl) (by kernel_rfl) (fun _ _ _ h => h) (Or.inl ⟨by rfl, ?hz16_2⟩) (by assumption) ?_
                case hz16_2 => (intro W hSw; (try dsimp only at hSw); go_simp; (try with_reducible rfl))
                try simp only [Act.put, List.getElem_toArray, List.getElem_cons_zero, List.getElem_cons_succ, List.setIfInBounds_toArray, List.set_cons_zero, List.set_cons_succ]
                refine wpAnyZ_one (i := 17) (by kernel_rfl) rfl (fun K hK => ?_)
                refine step_appendN edTy rfl (.tmp 67) (.tmp 76) (by rfl) (wq.alloc (.cells #[.string (str f), .string (str t), .int .i64 r] 58)).drew.heap.size (some ⟨ga, 0, none⟩) es.length es.length (es.take es.length) [(⟨f, t, r⟩ : Ed)] (by rfl) (by intro h; cases h) HT.out ⟨wq.heap.size, 0, none⟩ 1 1 (by rfl) rfl (HNC.out) (by omega) (by omega) ?_
                intro v2 wr2 ho2 hg2
                obtain ⟨A5, c6, hv5, hz1, hz2, hz3, hz4⟩ := ho2.slice hlz
                subst hv5
                have HO2 := Lib.hid ho2
                have hbw2 : Hid (Below wq.heap.size wq wr2) := HBW2.out.trans (((Below.refl _ _).grown hg2 (Nat.le_refl _) (fun k hk => by cases hk)).mono HBW2.out.size)
                have HBZ : Hid (Blk wr2 g 29 #[.slice NA ns.length nc, .slice (some ⟨ga, 0, none⟩) es.length es.length]) := HBQ.out.below hbw2.out hgq
                have st0 : wr2.cell? ⟨g, 1, none⟩ = some (.slice (some ⟨ga, 0, none⟩) es.length es.length) := HBZ.out.cell 1
                have st1 := HBZ.out.frozen 1
                rw [hlen5] at HO2 ⊢
                refine hK.out _ _ (.inr ?_) (fun hHeld2 => ?_)
                · exact hbw2.out
                clear hK K hHeld ho2 hg2 hz1 hz2 hz3 hz4
                have hHeld := hHeld2.resolve_left (by decide)
                clear hHeld2
                try simp only [Act.put, List.getElem_toArray, List.getElem_cons_zero, List.getElem_cons_succ, List.setIfInBounds_toArray, List.set_cons_zero, List.set_cons_succ]
                refine wpAnyZ_take (i := 18) (v := ?vz18_2) (by kernel_rfl) rfl (by kernel_rfl) (by kernel_rfl) (by kernel_rfl) (fun _ _ _ h => h) (Or.inl ⟨by rfl, ?hz18_2⟩) (by assumption) ?_
                case hz18_2 => (intro W hSw; (try dsimp only at hSw); go_simp; (try with_reducible rfl))
                try simp only [Act.put, List.getElem_toArray, List.getElem_cons_zero, List.getElem_cons_succ, List.setIfInBounds_toArray, List.set_cons_zero, List.set_cons_succ]
                refine wpAnyZ_take (i := 19) (v := ?vz19_2) (by kernel_rfl) rfl (by kernel_rfl) (by kernel_rfl) (by kernel_rfl) (fun _ _ _ h => h) (Or.inl ⟨by rfl, ?hz19_2⟩) (by assumption) ?_
                case hz19_2 => (intro W hSw; (try dsimp only at hSw); go_simp; (try with_reducible rfl))
                try simp only [Act.put, List.getElem_toArray, List.getElem_cons_zero, List.getElem_cons_succ, List.setIfInBounds_toArray, List.set_cons_zero, List.set_cons_succ]
                refine wpAnyZ_one (i := 20) (by kernel_rfl) rfl (fun K hK => ?_)
                go_simp
                refine hK.out _ _ (.inl rfl) (fun _ => ?_)
                clear hK K hHeld 
                try simp only [Act.put, List.getElem_toArray, List.getElem_cons_zero, List.getElem_cons_succ, List.setIfInBounds_toArray, List.set_cons_zero, List.set_cons_succ]
                refine wpAnyZ_done (by kernel_rfl) ?_ _
                refine bodyPost_ret (results_none rfl _ _ _) rfl ?_
                have hend := edge_end HWQ.out hgl hbw2.out HBZ.out HONQ.out HO2.out HBW2.out.size
                exact ⟨rfl, by rw [HP.out]; exact hend.1, hend.2⟩
              · go_wp2_with fail
                refine wp_region_Z (S := fun W => Below wq.heap.size wq W) (z := 20) (by kernel_rfl) ?_ (fun hHeld => ?_)
                · exact (Below.refl _ _).drew
                refine wpAnyZ_take (i := 0) (v := ?vz0_4) (by kernel_rfl) rfl (by kernel_rfl) (by kernel_rfl) (by kernel_rfl) (fun _ _ _ h => h) (Or.inl ⟨by rfl, ?hz0_4⟩) (by assumption) ?_
                case hz0_4 => (intro W hSw; (try dsimp only at hSw); go_simp; (try with_reducible rfl))
                try simp only [Act.put, List.getElem_toArray, List.getElem_cons_zero, List.setIfInBounds_toArray, List.set_cons_zero, List.set_cons_succ]
                refine wpAnyZ_take (i := 1) (v := ?vz1_4) (by kernel_rfl) rfl (by kernel_rfl) (by kernel_rfl) (by kernel_rfl) (fun _ _ _ h => h) (Or.inl ⟨by rfl, ?hz1_4⟩) (by assumption) ?_
                case hz1_4 => (intro W hSw; (try dsimp only at hSw); go_simp; (try with_reducible rfl))
                try simp only [Act.put, List.getElem_toArray, List.getElem_cons_zero, List.getElem_cons_succ, List.setIfInBounds_toArray, List.set_cons_zero, List.set_cons_succ]
                refine wpAnyZ_take (i := 2) (v := ?vz2_4) (by kernel_rfl) rfl (by kernel_rfl) (by kernel_rfl) (by kernel_rfl) (fun _ _ _ h => h) (Or.inl ⟨by rfl, ?hz2_4⟩) (by assumption) ?_
                case hz2_4 => (intro W hSw; (try dsimp only at hSw); go_simp; (try with_reducible rfl))
                try simp only [Act.put, List.getElem_toArray, List.getElem_cons_zero, List.getElem_cons_succ, List.setIfInBounds_toArray, List.set_cons_zero, List.set_cons_succ]
                refine wpAnyZ_take (i := 3) (v := ?vz3_4) (by kernel_rfl) rfl (by kernel_rfl) (by kernel_rfl) (by kernel_rfl) (fun _ _ _ h => h) (Or.inl ⟨by rfl, ?hz3_4⟩) (by assumption) ?_
                case hz3_4 => (intro W hSw; (try dsimp only at hSw); go_simp; (try with_reducible rfl))
                try simp only [Act.put, List.getElem_toArray, List.getElem_cons_zero, List.getElem_cons_succ, List.setIfInBounds_toArray, List.set_cons_zero, List.set_cons_succ]
                refine wpAnyZ_take (i := 4) (v := ?vz4_4) (by kernel_rfl) rfl (by kernel_rfl) (by kernel_rfl) (by kernel_rfl) (fun _ _ _ h => h) (Or.inl ⟨by rfl, ?hz4_4⟩) (by assumption) ?_
                case hz4_4 => (intro W hSw; have p1 := (Below.cell hSw (p := ⟨g, 1, none⟩) hgq).trans d0; (try dsimp only at hSw); go_simp; (try with_reducible rfl))
                try simp only [Act.put, List.getElem_toArray, List.getElem_cons_zero, List.getElem_cons_succ, List.setIfInBounds_toArray, List.set_cons_zero, List.set_cons_succ]
                refine wpAnyZ_take (i := 5) (v := ?vz5_4) (by kernel_rfl) rfl (by kernel_rfl) (by kernel_rfl) (by kernel_rfl) (fun _ _ _ h => h) (Or.inl ⟨by rfl, ?hz5_4⟩) (by assumption) ?_
                case hz5_4 => (intro W hSw; (try dsimp only at hSw); go_simp; (try with_reducible rfl))
                try simp only [Act.put, List.getElem_toArray, List.getElem_cons_zero, List.getElem_cons_succ, List.setIfInBounds_toArray, List.set_cons_zero, List.set_cons_succ]
                refine wpAnyZ_take (i := 6) (v := ?vz6_4) (by kernel_rfl) rfl (by kernel_rfl) (by kernel_rfl) (by kernel_rfl) (fun _ _ _ h => h) (Or.inl ⟨by rfl, ?hz6_4⟩) (by assumption) ?_
                case hz6_4 => (intro W hSw; (try dsimp only at hSw); go_simp; (try with_reducible rfl))
                try simp only [Act.put, List.getElem_toArray, List.getElem_cons_zero, List.getElem_cons_succ, List.setIfInBounds_toArray, List.set_cons_zero, List.set_cons_succ]
                refine wpAnyZ_take (i := 7) (v := ?vz7_4) (by kernel_rfl) rfl (by kernel_rfl) (by kernel_rfl) (by kernel_rfl) (fun _ _ _ h => h) (Or.inl ⟨by rfl, ?hz7_4⟩) (by assumption) ?_
                case hz7_4 => (intro W hSw; (try dsimp only at hSw); go_simp; (try with_reducible rfl))
                try simp only [Act.put, List.getElem_toArray, List.getElem_cons_zero, List.getElem_cons_succ, List.setIfInBounds_toArray, List.set_cons_zero, List.set_cons_succ]
                refine wpAnyZ_take (i := 8) (v := ?vz8_4) (by kernel_rfl) rfl (by kernel_rfl) (by kernel_rfl) (by kernel_rfl) (fun _ _ _ h => h) (Or.inl ⟨by rfl, ?hz8_4⟩) (by assumption) ?_
                case hz8_4 => (intro W hSw; have p0 := (Below.cell hSw (p := ⟨eb, 0, none⟩) hebq).trans f0; have p1 := (Below.cell hSw (p := ⟨eb, 1, none⟩) hebq).trans f1; have p2 := (Below.cell hSw (p := ⟨eb, 2, none⟩) hebq).trans f2; (try dsimp only at hSw); go_simp; (try with_reducible rfl))
                try simp only [Act.put, List.getElem_toArray, List.getElem_cons_zero, List.getElem_cons_succ, List.setIfInBounds_toArray, List.set_cons_zero, List.set_cons_succ]
                refine wpAnyZ_take (i := 10) (v := ?vz10_4) (by kernel_rfl) rfl (by kernel_rfl) (by kernel_rfl) (by kernel_rfl) (fun _ _ _ h => h) (Or.inl ⟨by rfl, ?hz10_4⟩) (by assumption) ?_
                case hz10_4 => (intro W hSw; (try dsimp only at hSw); go_simp; (try with_reducible rfl))
                try simp only [Act.put, List.getElem_toArray, List.getElem_cons_zero, List.getElem_cons_succ, List.setIfInBounds_toArray, List.set_cons_zero, List.set_cons_succ]
                refine wpAnyZ_take (i := 11) (v := ?vz11_4) (by kernel_rfl) rfl (by kernel_rfl) (by kernel_rfl) (by kernel_rfl) (fun _ _ _ h => h) (Or.inl ⟨by rfl, ?hz11_4⟩) (by assumption) ?_
                case hz11_4 => (intro W hSw; (try dsimp only at hSw); go_simp; (try with_reducible rfl))
                try simp only [Act.put, List.getElem_toArray, List.getElem_cons_zero, List.getElem_cons_succ, List.setIfInBounds_toArray, List.set_cons_zero, List.set_cons_succ]
                refine wpAnyZ_take (i := 12) (v := ?vz12_4) (by kernel_rfl) rfl (by kernel_rfl) (by kernel_rfl) (by kernel_rfl) (fun _ _ _ h => h) (Or.inl ⟨by rfl, ?hz12_4⟩) (by assumption) ?_
                case hz12_4 => (intro W hSw; (try dsimp only at hSw); go_simp; (try with_reducible rfl))
                try simp only [Act.put, List.getElem_toArray, List.getElem_cons_zero, List.getElem_cons_succ, List.setIfInBounds_toArray, List.set_cons_zero, List.set_cons_succ]
                refine wpAnyZ_take (i := 13) (v := ?vz13_4) (by kernel_rfl) rfl (by kernel_rfl) (by kernel_rfl) (by kernel_rfl) (fun _ _ _ h => h) (Or.inl ⟨by rfl, ?hz13_4⟩) (by assumption) ?_
                case hz13_4 => (intro W hSw; have p1 := (Below.cell hSw (p := ⟨g, 1, none⟩) hgq).trans d0; (try dsimp only at hSw); go_simp; (try with_reducible rfl))
                try simp only [Act.put, List.getElem_toArray, List.getElem_cons_zero, List.getElem_cons_succ, List.setIfInBounds_toArray, List.set_cons_zero, List.set_cons_succ]
                refine wpAnyZ_take (i := 14) (v := ?vz14_4) (by kernel_rfl) rfl (by kernel_rfl) (by kernel_rfl) (by kernel_rfl) (fun _ _ _ h => h) (Or.inl ⟨by rfl, ?hz14_4⟩) (by assumption) ?_
                case hz14_4 => (intro W hSw; (try dsimp only at hSw); go_simp; (try with_reducible rfl))
                try simp only [Act.put, List.getElem_toArray, List.getElem_cons_zero, List.getElem_cons_succ, List.setIfInBounds_toArray, List.set_cons_zero, List.set_cons_succ]
                refine wpAnyZ_take (i := 15) (v := ?vz15_4) (by kernel_rfl) rfl (by kernel_rfl) (by kernel_rfl) (by kernel_rfl) (fun _ _ _ h => h) (Or.inl ⟨by rfl, ?hz15_4⟩) (by assumption) ?_
                case hz15_4 => (intro W hSw; (try dsimp only at hSw); go_simp; (try with_reducible rfl))
                try simp only [Act.put, List.getElem_toArray, List.getElem_cons_zero, List.getElem_cons_succ, List.setIfInBounds_toArray, List.set_cons_zero, List.set_cons_succ]
                refine wpAnyZ_one (i := 9) (by kernel_rfl) rfl (fun K hK => ?_)
                go_simp
                refine hK.out _ _ (.inr ?_) (fun hHeld2 => ?_)
                · exact hHeld.alloc hHeld.size _
                clear hK K hHeld 
                have hHeld := hHeld2.resolve_left (by decide)
                clear hHeld2
                try simp only [Act.put, List.getElem_toArray, List.getElem_cons_zero, List.getElem_cons_succ, List.setIfInBounds_toArray, List.set_cons_zero, List.set_cons_succ]
                refine wpAnyZ_take (i := 16) (v := ?vz16_4) (by kernel_rfl) rfl (by kernel_rfl) (by kernel_rfl) (by kernel_rfl) (fun _ _ _ h => h) (Or.inl ⟨by rfl, ?hz16_4⟩) (by assumption) ?_
                case hz16_4 => (intro W hSw; (try dsimp only at hSw); go_simp; (try with_reducible rfl))
                try simp only [Act.put, List.getElem_toArray, List.getElem_cons_zero, List.getElem_cons_succ, List.setIfInBounds_toArray, List.set_cons_zero, List.set_cons_succ]
                refine wpAnyZ_one (i := 17) (by kernel_rfl) rfl (fun K hK => ?_)
                refine step_appendN edTy rfl (.tmp 67) (.tmp 76) (by rfl) (wq.alloc (.cells #[.string (str f), .string (str t), .int .i64 r] 58)).drew.heap.size (some ⟨ga, 0, none⟩) es.length es.length (es.take es.length) [(⟨f, t, r⟩ : Ed)] (by rfl) (by intro h; cases h) HT.out ⟨wq.heap.size, 0, none⟩ 1 1 (by rfl) rfl (HNC.out) (by omega) (by omega) ?_
                intro v2 wr2 ho2 hg2
                obtain ⟨A5, c6, hv5, hz1, hz2, hz3, hz4⟩ := ho2.slice hlz
                subst hv5
                have HO2 := Lib.hid ho2
                have hbw2 : Hid (Below wq.heap.size wq wr2) := HBW2.out.trans (((Below.refl _ _).grown hg2 (Nat.le_refl _) (fun k hk => by cases hk)).mono HBW2.out.size)
                have HBZ : Hid (Blk wr2 g 29 #[.slice NA ns.length nc, .slice (some ⟨ga, 0, none⟩) es.length ec]) := HBQ.out.below hbw2.out hgq
                have st0 : wr2.cell? ⟨g, 1, none⟩ = some (.slice (some ⟨ga, 0, none⟩) es.length ec) := HBZ.out.cell 1
                have st1 := HBZ.out.frozen 1
                rw [hlen5] at HO2 ⊢
                refine hK.out _ _ (.inr ?_) (fun hHeld2 => ?_)
                · exact hbw2.out
                clear hK K hHeld ho2 hg2 hz1 hz2 hz3 hz4
                have hHeld := hHeld2.resolve_left (by decide)
                clear hHeld2
                try simp only [Act.put, List.getElem_toArray, List.getElem_cons_zero, List.getElem_cons_succ, List.setIfInBounds_toArray, List.set_cons_zero, List.set_cons_succ]
                refine wpAnyZ_take (i := 18) (v := ?vz18_4) (by kernel_rfl) rfl (by kernel_rfl) (by kernel_rfl) (by kernel_rfl) (fun _ _ _ h => h) (Or.inl ⟨by rfl, ?hz18_4⟩) (by assumption) ?_
                case hz18_4 => (intro W hSw; (try dsimp only at hSw); go_simp; (try with_reducible rfl))
                try simp only [Act.put, List.getElem_toArray, List.getElem_cons_zero, List.getElem_cons_succ, List.setIfInBounds_toArray, List.set_cons_zero, List.set_cons_succ]
                refine wpAnyZ_take (i := 19) (v := ?vz19_4) (by kernel_rfl) rfl (by kernel_rfl) (by kernel_rfl) (by kernel_rfl) (fun _ _ _ h => h) (Or.inl ⟨by rfl, ?hz19_4⟩) (by assumption) ?_
                case hz19_4 => (intro W hSw; (try dsimp only at hSw); go_simp; (try with_reducible rfl))
                try simp only [Act.put, List.getElem_toArray, List.getElem_cons_zero, List.getElem_cons_succ, List.setIfInBounds_toArray, List.set_cons_zero, List.set_cons_succ]
                refine wpAnyZ_one (i := 20) (by kernel_rfl) rfl (fun K hK => ?_)
                go_simp
                refine hK.out _ _ (.inl rfl) (fun _ => ?_)
                clear hK K hHeld 
                try simp only [Act.put, List.getElem_toArray, List.getElem_cons_zero, List.getElem_cons_succ, List.setIfInBounds_toArray, List.set_cons_zero, List.set_cons_succ]
                refine wpAnyZ_done (by kernel_rfl) ?_ _
                refine bodyPost_ret (results_none rfl _ _ _) rfl ?_
                have hend := edge_end HWQ.out hgl hbw2.out HBZ.out HONQ.out HO2.out HBW2.out.size
                exact ⟨rfl, by rw [HP.out]; exact hend.1, hend.2⟩
      · have HE : Hid (edgeL (nodeB ns) f es (t, r) = es) := edgeL_same HR.out (.inr (.inr (by unfold hasG at hhas; exact of_decide_eq_true hhas)))
        clear hhas
        go_wp2_with fail
        refine bodyPost_ret (results_none rfl _ _ _) rfl ?_
        exact ⟨rfl, by rw [HE.out]; exact HGB.out.below HB2.out, grown_of_below HB2.out⟩
end Go.Proofs.YtcoepioahabbdaaGreat
