/- The walk of Of. The program's own Of, May, Node, Out, In to the document's words. -/
import Derived.Test.YtcoepioahabbdaaGreatGybi
import Derived.Test.YtcoepioahabbdaaGreatGybm
import Derived.Test.YtcoepioahabbdaaGreatGyan
import Derived.Test.YtcoepioahabbdaaGreatGyaw
import Derived.Test.YtcoepioahabbdaaGreatGyar
import Derived.Test.YtcoepioahabbdaaGreatGyax
import Derived.Test.YtcoepioahabbdaaGreatGybj
import Derived.Test.YtcoepioahabbdaaGreatGybn
namespace Go.Proofs.YtcoepioahabbdaaGreat
open Go.RowKit
theorem kT_range (t : Tx) : kT t = 0 ∨ kT t = 1 ∨ kT t = 2 ∨ kT t = 3 ∨ kT t = 4 := by
  unfold kT Nm.kindP
  split
  · have := Nm.kindL_cases (Nm.tailP (str t)).data.toList
    have e : Nm.kindS (Nm.tailP (str t)) = Nm.kindL (Nm.tailP (str t)).data.toList := rfl
    omega
  · exact .inl rfl
theorem weave_len (U : List Ld) {x : Ld} (h : Small x) : (weaveP U kT x).length ≤ 8388608 := by
  have h1 := h.rows
  have h2 := h.socks
  have h3 := addC_len (hasU U) x.n (sayP U (kT x.n) x)
  have h4 := namedP_len x
  have h5 : (kindP' (kT x.n) x).length ≤ 2 * x.socks.length + 2 := by
    unfold kindP'
    split
    · have := sockK_len x x.socks.length
      unfold sockK at this
      rw [List.take_of_length_le (Nat.le_refl _)] at this
      omega
    · split
      · simp
      · simp
  have h6 : (dfltP U (kT x.n) x).length ≤ x.rels.length + x.wants.length + x.reqs.length + 4 := by
    unfold dfltP
    split
    · have := putAll_few (lt := fun a b : Tx => a < b) (namesC x)
      have h7 := namesK_len x x.rels.length
      rw [namesK_all] at h7
      have h8 := List.length_filter_le (fun t => !saysP U t x.n) (pullP x)
      unfold targP
      rw [List.length_map]
      unfold pullP at h8 ⊢
      omega
    · unfold sysP
      split <;> simp <;> omega
  have h7 : (sayP U (kT x.n) x).length ≤ 8388608 := by
    unfold sayP
    rw [List.length_append, List.length_append]
    split
    · omega
    · simp; omega
  unfold weaveP
  omega
theorem flat_le {α β : Type} (l : List α) (f : α → List β) (n : Nat) (h : ∀ a ∈ l, (f a).length ≤ n) : (l.flatMap f).length ≤ l.length * n := by
  induction l with
  | nil => simp
  | cons x l ih =>
    rw [List.flatMap_cons, List.length_append, List.length_cons, Nat.add_mul]
    have h1 := h x (by simp)
    have h2 := ih (fun a ha => h a (by simp [ha]))
    omega
def rawF (U : List LdR) (r : LdR) : List Ed := if r.x.s = 1 then weaveP (U.map (·.x)) kT r.x else []
def rawK (U : List LdR) (k : Nat) : List Ed := (U.take k).flatMap (rawF U)
theorem rawK_succ {U : List LdR} {k : Nat} {r : LdR} (h : U[k]? = some r) : rawK U (k + 1) = rawK U k ++ rawF U r := flat_take_succ h _
theorem rawK_len {U : List LdR} (k : Nat) (hk : k ≤ 64) (hS : ∀ r ∈ U, Small r.x) : (rawK U k).length ≤ 536870912 := by
  have h1 := flat_le (U.take k) (rawF U) 8388608 (fun a ha => by
    unfold rawF
    split
    · exact weave_len _ (hS a (List.mem_of_mem_take ha))
    · simp)
  have h2 : (U.take k).length ≤ 64 := by rw [List.length_take]; omega
  have h3 : (U.take k).length * 8388608 ≤ 64 * 8388608 := Nat.mul_le_mul_right _ h2
  unfold rawK
  omega
theorem rawK_all {U : List LdR} : rawK U U.length = rawP (U.map (·.x)) kT := by
  unfold rawK rawP
  rw [List.take_of_length_le (Nat.le_refl _), List.flatMap_map]
  rfl
theorem chR_x (L : List LdR) : (chR L).map (·.x) = chooseK (fun x : Ld => x.n) kT (L.map (·.x)) := chooseK_comap (fun r : LdR => r.x) (fun x : Ld => x.n) kT L
theorem of_nodes (L : List LdR) : (chR L).map nodeR = nodesL kT (L.map (·.x)) := by
  rw [← choose_nodes, ← chR_x, List.map_map]
  rfl
theorem of_edges {L : List LdR} {l : List Ed} (hm : ∀ e, e ∈ l ↔ e ∈ rawK (chR L) (chR L).length) (hw : weakE l) : cptE l = ofE kT (L.map (·.x)) := by
  refine graph_eq kT_range (L.map (·.x)) _ (cpt_rises l hw) fun e => ?_
  rw [cpt_mem, hm, rawK_all, chR_x]
set_option maxRecDepth 10000 in
set_option maxHeartbeats 16000000 in
theorem of_any (A : Option Addr) (n c B : Nat) (L : List LdR) (w : World) (hL : LdsAt w B A n L) (hB : B ≤ w.heap.size) (hS : ∀ r ∈ L, Small r.x) (hn : n ≤ 1048576) :
    Calls Tryz.prog 12 #[.slice A n c] w (OfPost L w) := by
  have hbA : Below w.heap.size w (w.alloc (.cells #[.slice none 0 0, .slice none 0 0] 29)) := (Below.refl _ w).alloc (Nat.le_refl _) _
  have HLA := Lib.hid (hL.below (hbA.mono hB))
  have hch := choose_any A n c B L _ HLA.out (by have := hbA.size; omega) (fun r hr => (hS r hr).n) hn
  have HRA : Hid (Blk (w.alloc (.cells #[.slice none 0 0, .slice none 0 0] 29)) w.heap.size 29 #[.slice none 0 0, .slice none 0 0]) := Blk.new _ _ _
  clear hL
  go_enter Tryz.func12, Tryz.ntmps12
  go_wp2_with fail
  obtain ⟨wA, hwA⟩ : ∃ wA, w.alloc (.cells #[.slice none 0 0, .slice none 0 0] 29) = wA := ⟨_, rfl⟩
  obtain ⟨b, hb⟩ : ∃ b, w.heap.size = b := ⟨_, rfl⟩
  have hAs : wA.heap.size = b + 1 := by rw [← hwA, ← hb]; simp
  rw [hwA] at hbA HLA hch HRA
  rw [hb] at hbA HRA
  rw [hwA, hb]
  have HBA := Lib.hid hbA
  clear hwA hbA
  refine hch.mono ?_
  rintro e w1 ⟨UA, uc, rfl, ho1, hb1⟩
  have hU64 := chR_len L
  have hlu := own_lds ho1 hU64 rfl HLA.out (hb1.mono (by rw [hAs]; omega)) (by have := hb1.size; omega) (fun r hr => chR_sub r hr)
  have hUr : risesK nmR (chR L) := chooseK_rises L
  have HUS := Lib.hid (fun r (hr : r ∈ chR L) => hS r (chR_sub r hr))
  have HR1 := Lib.hid (HRA.out.below hb1 HRA.out.lt)
  have HB1 : Hid (Below b w w1) := HBA.out.trans (hb1.mono (by omega))
  have h1s := hb1.size
  obtain ⟨U, hU⟩ : ∃ U, chR L = U := ⟨_, rfl⟩
  have HUU := Lib.hid hU
  rw [hU] at hU64 hlu hUr HUS
  rw [hU]
  obtain ⟨m, hm⟩ : ∃ m, U.length = m := ⟨_, rfl⟩
  have HMM := Lib.hid hm
  rw [hm] at hU64 hlu
  rw [hm]
  have HLU := Lib.hid hlu
  have HUR := Lib.hid hUr
  clear ho1 hb1 hlu hUr hch HLA HBA HRA hS hU hm
  go_upto_region 2 with fail
  obtain ⟨g, hg⟩ : ∃ g, w1.heap.size = g := ⟨_, rfl⟩
  have hW2 : Wb (w1.alloc (.cells #[.slice UA m uc, .slice none 0 0] 67)) w1.heap.size UA m uc (.slice none 0 0) [] := ⟨Blk.new _ _ _, OwnG.nil _ _⟩
  have hU2 : Us (w1.alloc (.cells #[.slice UA m uc, .slice none 0 0] 67)) w1.heap.size UA m U := ⟨HLU.out.below ((Below.refl _ w1).alloc (Nat.le_refl _) _), HUR.out, hU64⟩
  have HR2 := HR1.out.alloc (.cells #[.slice UA m uc, .slice none 0 0] 67)
  have HB2 := HB1.out.alloc (by omega) (.cells #[.slice UA m uc, .slice none 0 0] 67)
  obtain ⟨w2, hw2⟩ : ∃ w2, w1.alloc (.cells #[.slice UA m uc, .slice none 0 0] 67) = w2 := ⟨_, rfl⟩
  rw [hw2, hg] at hW2 hU2
  rw [hw2] at HR2 HB2
  rw [hw2, hg]
  have HW2 := Lib.hid hW2
  have HU2 := Lib.hid hU2
  have HR3 := Lib.hid HR2
  have HB3 := Lib.hid HB2
  have hbg : b < g := by omega
  have d0 : w2.cell? ⟨g, 0, none⟩ = some (.slice UA m uc) := hW2.box.cell 0
  clear HR2 HB2 hW2 hU2 hw2 HR1 HB1 HLU h1s hg
  go_wp2_with fail
  clear d0
  go_loopw [12] (fun i wr => ∃ (k : Nat) (E' : Value), k ≤ m ∧ i = .int .i64 k ∧ Hid (Wb wr g UA m uc E' (rawK U k)) ∧ Hid (FrE g w2 (.slice none 0 0) wr E')) (fun i wr => m - (intOf i).toNat)
  case atStart => exact ⟨0, _, Nat.zero_le _, rfl, HW2.out, FrE.refl _ _ _⟩
  case round =>
    obtain ⟨k, E', hk, rfl, hW, hF⟩ := hrel
    have HUk := Lib.hid (HU2.out.fr HW2.out hF.out)
    have hgl := hW.out.lt
    by_cases hlt : k < m
    · have b0 : (0 : Int) ≤ (k : Int) := by omega
      have b1 : (k : Int) < (m : Int) := by omega
      obtain ⟨ad, r, rfl, hab, hx, hld⟩ := load_row HUk.out.lds.row hlt
      have HLD := Lib.hid (hld wr (Below.refl _ _))
      have HI := Lib.hid (HUk.out.lds.is r (List.mem_of_getElem? hx))
      have HSM := Lib.hid (HUS.out r (List.mem_of_getElem? hx))
      have HT := Lib.hid (rawK_succ hx)
      have hlen := rawK_len k (by omega) HUS.out
      obtain ⟨es1, hes1⟩ : ∃ es1, rawK U k = es1 := ⟨_, rfl⟩
      rw [hes1] at hW HT hlen
      have hba : Below wr.heap.size wr (wr.alloc (.cells r.a 53)) := (Below.refl _ wr).alloc (Nat.le_refl _) _
      have HWa := Lib.hid (hW.out.below hba)
      have HUa := Lib.hid (HUk.out.below hba (Nat.le_of_lt hgl))
      have HFa := Lib.hid (hF.out.trans (FrE.of_below E' hba))
      have HIa := Lib.hid (HI.out.below (hba.mono (Nat.le_of_lt hgl)))
      have hbk : Blk (wr.alloc (.cells r.a 53)) wr.heap.size 53 r.a := Blk.new _ _ _
      have c1 : (wr.alloc (.cells r.a 53)).cell? ⟨wr.heap.size, 1, none⟩ = some (.int .i64 r.x.s) := box_cell hbk HI.out.state
      have HLB := Lib.hid (load_box r hbk)
      clear hx hld hes1 hbk hba HUk hW hF
      by_cases hs : r.x.s = 1
      · have HT2 : Hid (rawK U (k + 1) = es1 ++ weaveP (U.map (·.x)) kT r.x) := by show _ = _; rw [HT.out]; unfold rawF; rw [if_pos hs]
        have hs1 : (r.x.s == 1) = true := by simpa using hs
        have hwv := weave_any g (some ad) m uc E' es1 U r _ HWa.out HUa.out ⟨HIa.out, HSM.out⟩ (by omega)
        clear hs HT
        go_wp2_with (first
          | (refine wpList_load_part rfl 53 (.tmp 14) (by rfl) (ad.add (k * 42)) (by rfl) (.agg r.a) HLD.out ?_)
          | (refine wpList_store_row rfl 53 (.tmp 5) (.tmp 15) (by rfl) wr.heap.size r.a (by rfl) (by rfl) 53 _ (by exact heap_alloc_new _ _) (infoL r) (by rw [r.size]; rfl) r.all ?_
             rw [heap_alloc_setRow])
          | (refine wpList_load_part rfl 53 (.tmp 5) (by rfl) ⟨wr.heap.size, 0, none⟩ (by rfl) (.agg r.a) HLB.out ?_)
          | fail)
        refine hwv.mono ?_
        rintro e w5 ⟨rfl, E5, h5, h6⟩
        have H5 : Hid (Wb w5 g (some ad) m uc E5 (rawK U (k + 1))) := by show Wb _ _ _ _ _ _ _; rw [HT2.out]; exact h5
        have H6 := Lib.hid (HFa.out.trans h6)
        clear h5 h6 hwv
        go_wp2_with fail
        go_roundw
        case rel => exact ⟨k + 1, E5, by omega, by go_num, H5, H6⟩
        case measure => simp [intOf]; omega
      · have HT2 : Hid (rawK U (k + 1) = es1) := by show _ = _; rw [HT.out]; unfold rawF; rw [if_neg hs, List.append_nil]
        have hs1 : (r.x.s == 1) = false := by simpa using hs
        clear hs HT
        go_wp2_with (first
          | (refine wpList_load_part rfl 53 (.tmp 14) (by rfl) (ad.add (k * 42)) (by rfl) (.agg r.a) HLD.out ?_)
          | (refine wpList_store_row rfl 53 (.tmp 5) (.tmp 15) (by rfl) wr.heap.size r.a (by rfl) (by rfl) 53 _ (by exact heap_alloc_new _ _) (infoL r) (by rw [r.size]; rfl) r.all ?_
             rw [heap_alloc_setRow])
          | fail)
        go_roundw
        case rel => exact ⟨k + 1, E', by omega, by go_num, by rw [HT2.out]; exact HWa, HFa⟩
        case measure => simp [intOf]; omega
    · obtain rfl : k = m := by omega
      have hlen := rawK_len (U := U) k (by omega) HUS.out
      have hBg : Below g w2 wr := HW2.out.fr hF.out
      have HRr := Lib.hid (HR3.out.below hBg hbg)
      have HBr : Hid (Below b w wr) := HB3.out.trans (hBg.mono (by omega))
      have c1 : wr.cell? ⟨g, 1, none⟩ = some E' := hW.out.box.cell 1
      have hst := sortE_any (g + 1) E' (rawK U k) wr hW.out.own (by omega)
      have hEl := fun (x : Nat) (hx : E'.ownBlock = some x) => hW.out.own.lt hx
      have HBX := Lib.hid hW.out.box
      clear hBg hF
      go_wp2_with fail
      refine hst.mono ?_
      rintro e w8 ⟨rfl, l8, hl8, hm8, hk8, ho8, hg8⟩
      have hlen8 : l8.length ≤ 536870912 := by omega
      have hUV : Us w8 g UA k U := ⟨HUk.out.lds.below ((Below.refl g wr).grown hg8 (Nat.le_of_lt hgl) (fun x hx => by have := (hEl x hx).1; omega)), HUk.out.rise, HUk.out.few⟩
      have HU8 := Lib.hid hUV
      have hbx8 : Blk w8 g 67 #[.slice UA k uc, E'] := (hg8.block g hgl (fun e => by have := (hEl g e.symm).1; omega)).trans HBX.out
      have HBX8 := Lib.hid hbx8
      have HR8 : Hid (Blk w8 b 29 #[.slice none 0 0, .slice none 0 0]) := (hg8.block b HRr.out.lt (fun e => by have := (hEl b e.symm).1; omega)).trans HRr.out
      have HB8 : Hid (Below b w w8) := HBr.out.grown hg8 (by omega) (fun x hx => by have := (hEl x hx).1; omega)
      have HO8 := Lib.hid ho8
      have HK8 := Lib.hid hk8
      have HM8 := Lib.hid hm8
      have hg8s := hg8.size
      have hEl8 : ∀ x, E'.ownBlock = some x → x < w8.heap.size := fun x hx => by have := (hEl x hx).2; omega
      have hEg : ∀ x, E'.ownBlock = some x → g + 1 ≤ x := fun x hx => (hEl x hx).1
      have HSU := Lib.hid (fun r (hr : r ∈ U) => (HUS.out r hr).n)
      clear hst ho8 hg8 hk8 hm8 hUV hbx8 HBX HRr HBr c1 HUk hEl hl8 hlen
      go_wp2_with fail
      refine wp_region_Z (S := fun W => Blk W g 67 #[.slice UA k uc, E']) (z := 7) (by kernel_rfl) ?_ (fun hHeld => ?_)
      · exact HBX8.out.drew
      refine wpAnyZ_takeF (i := 0) (v := ?vz0_1) (by kernel_rfl) rfl (by kernel_rfl) (by kernel_rfl) (by kernel_rfl) (fun _ _ _ h => h) (Or.inl ⟨by rfl, ?hz0_1⟩) (by assumption) ?_
      case hz0_1 => (intro W hSw; (try dsimp only at hSw); go_simp; (try with_reducible rfl))
      try simp only [Act.put, List.getElem_toArray, List.getElem_cons_zero, List.setIfInBounds_toArray, List.set_cons_zero, List.set_cons_succ]
      refine wpAnyZ_takeF (i := 1) (v := ?vz1_1) (by kernel_rfl) rfl (by kernel_rfl) (by kernel_rfl) (by kernel_rfl) (fun _ _ _ h => h) (Or.inl ⟨by rfl, ?hz1_1⟩) (by assumption) ?_
      case hz1_1 => (intro W hSw; have p0 : W.cell? ⟨g, 0, none⟩ = some (.slice UA k uc) := Blk.cell hSw 0; (try dsimp only at hSw); go_simp; (try with_reducible rfl))
      try simp only [Act.put, List.getElem_toArray, List.getElem_cons_zero, List.getElem_cons_succ, List.setIfInBounds_toArray, List.set_cons_zero, List.set_cons_succ]
      refine wpAnyZ_takeF (i := 3) (v := ?vz3_1) (by kernel_rfl) rfl (by kernel_rfl) (by kernel_rfl) (by kernel_rfl) (fun _ _ _ h => h) (Or.inl ⟨by rfl, ?hz3_1⟩) (by assumption) ?_
      case hz3_1 => (intro W hSw; (try dsimp only at hSw); go_simp; (try with_reducible rfl))
      try simp only [Act.put, List.getElem_toArray, List.getElem_cons_zero, List.getElem_cons_succ, List.setIfInBounds_toArray, List.set_cons_zero, List.set_cons_succ]
      refine wpAnyZ_takeF (i := 4) (v := ?vz4_1) (by kernel_rfl) rfl (by kernel_rfl) (by kernel_rfl) (by kernel_rfl) (fun _ _ _ h => h) (Or.inl ⟨by rfl, ?hz4_1⟩) (by assumption) ?_
      case hz4_1 => (intro W hSw; have p0 : W.cell? ⟨g, 1, none⟩ = some (E') := Blk.cell hSw 1; (try dsimp only at hSw); go_simp; (try with_reducible rfl))
      try simp only [Act.put, List.getElem_toArray, List.getElem_cons_zero, List.getElem_cons_succ, List.setIfInBounds_toArray, List.set_cons_zero, List.set_cons_succ]
      refine wpAnyZ_one (i := 2) (by kernel_rfl) rfl (fun K hK => ?_)
      go_simp
      refine (nodesOf_any UA k uc g U w8.drew (HU8.out.lds.below (Below.refl g w8).drew) (by show g ≤ w8.heap.size; omega) HSU.out (by omega)).mono ?_
      rintro e wa ⟨va, rfl, hoa, hba⟩
      refine hK.out _ _ (.inr ?_) (fun hHeld2 => ?_)
      · exact hHeld.below hba hHeld.lt
      clear hK K hHeld 
      have hHeld := hHeld2.resolve_left (by decide)
      clear hHeld2
      try simp only [Act.put, List.getElem_toArray, List.getElem_cons_zero, List.getElem_cons_succ, List.setIfInBounds_toArray, List.set_cons_zero, List.set_cons_succ]
      refine wpAnyZ_one (i := 5) (by kernel_rfl) rfl (fun K hK => ?_)
      go_simp
      have hEa : OwnG edLay 58 wa (g + 1) E' l8 := OwnG.below (w := w8.drew) HO8.out hba
      refine (compE_any (g + 1) E' l8 wa hEa (by omega) (by have := hba.size; have : g + 1 ≤ w8.drew.heap.size := (by show g + 1 ≤ w8.heap.size; omega); omega)).mono ?_
      rintro e wb ⟨vb, rfl, hob, hgb⟩
      refine hK.out _ _ (.inr ?_) (fun hHeld2 => ?_)
      · exact (hgb.block g hHeld.lt (fun e => by have := hEg g e.symm; omega)).trans hHeld
      clear hK K hHeld 
      have hHeld := hHeld2.resolve_left (by decide)
      clear hHeld2
      try simp only [Act.put, List.getElem_toArray, List.getElem_cons_zero, List.getElem_cons_succ, List.setIfInBounds_toArray, List.set_cons_zero, List.set_cons_succ]
      have hna : OwnG ndLay 32 wb w8.drew.heap.size va (U.map nodeR) := hoa.kept hgb (fun x hx e => by have h1 := (hoa.lt hx).1; have h2 := hEl8 x e.symm; have : w8.drew.heap.size = w8.heap.size := rfl; omega)
      have hRb : Blk wb b 29 #[.slice none 0 0, .slice none 0 0] := (hgb.block b (by have := hba.size; have := HR8.out.lt; have : w8.drew.heap.size = w8.heap.size := rfl; omega) (fun e => by have := hEg b e.symm; omega)).trans (Blk.below (w := w8.drew) HR8.out hba HR8.out.lt)
      have hBb : Below b w wb := (Below.trans HB8.out.drew (hba.mono (by show b ≤ w8.heap.size; omega))).grown hgb (by have := hba.size; have : w8.drew.heap.size = w8.heap.size := rfl; omega) (fun x hx => by have := hEg x hx; omega)
      obtain ⟨NA, nc, rfl, _, _, _, _⟩ := hna.slice (by rw [List.length_map, HMM.out]; unfold maxLen; omega)
      obtain ⟨nl, hnl⟩ : ∃ nl, (U.map nodeR).length = nl := ⟨_, rfl⟩
      rw [hnl] at hna hoa
      rw [hnl]
      clear hnl
      have hcl : (cptE l8).length ≤ maxLen := by have h := of_edges (L := L) (l := l8) (by rw [HUU.out]; intro e; rw [HMM.out]; exact HM8.out e) HK8.out; rw [h]; have := ofE_few (K := kT) (L.map (·.x)); unfold maxLen; omega
      obtain ⟨EA, ec, rfl, _, _, _, _⟩ := hob.slice hcl
      obtain ⟨el, hel⟩ : ∃ el, (cptE l8).length = el := ⟨_, rfl⟩
      have hcl2 := hcl
      rw [hel] at hob
      rw [hel]
      clear hel
      have HEQ : Hid (cptE l8 = ofE kT (L.map (·.x))) := of_edges (by rw [HUU.out]; intro e; rw [HMM.out]; exact HM8.out e) HK8.out
      have HNQ : Hid (U.map nodeR = nodesL kT (L.map (·.x))) := by show _ = _; rw [← HUU.out]; exact of_nodes L
      refine wpAnyZ_takeF (i := 6) (v := ?vb6) (by kernel_rfl) rfl (by kernel_rfl) (by kernel_rfl) (by kernel_rfl) (fun _ _ _ h => h) (Or.inl ⟨by rfl, ?hb6⟩) (by assumption) ?_
      case hb6 => (intro W hSw; (try dsimp only at hSw); go_simp; (try with_reducible rfl))
      try simp only [Act.put, List.getElem_toArray, List.getElem_cons_zero, List.getElem_cons_succ, List.setIfInBounds_toArray, List.set_cons_zero, List.set_cons_succ]
      refine wpAnyZ_one (i := 7) (by kernel_rfl) rfl (fun K hK => ?_)
      rw [if_pos (by rfl)]
      refine wp_store_row 29 (.tmp 2) (.tmp 31) (by rfl) b #[.slice NA nl nc, .slice EA el ec] (by rfl) (by rfl) 29 _ hRb (by kernel_rfl) rfl (by simp [Value.oneCell']) ?_
      have HRF := Blk.row hRb #[.slice NA nl nc, .slice EA el ec]
      have hbf := below_setRow hBb (Nat.le_refl b) #[.slice NA nl nc, .slice EA el ec]
      have hga := grAt_own ((hna.base_le (show g + 1 ≤ _ by show g + 1 ≤ w8.heap.size; omega)).kept (grown_setRow wb b #[.slice NA nl nc, .slice EA el ec]) (fun x hx e => by have := (hna.lt hx).1; injection e with e; have : w8.drew.heap.size = w8.heap.size := rfl; omega)) (hob.kept (grown_setRow wb b #[.slice NA nl nc, .slice EA el ec]) (fun x hx e => by have := (hob.lt hx).1; injection e with e; omega)) (by rw [List.length_map, HMM.out]; unfold maxLen; omega) hcl
      rw [HEQ.out, HNQ.out] at hga
      change K (Act.put _ none undef) _
      rw [show ∀ a : Act, a.put none undef = a from fun _ => rfl]
      refine hK.out _ _ (.inl rfl) (fun _ => ?_)
      clear hK K
      try simp only [Act.put, List.getElem_toArray, List.getElem_cons_zero, List.getElem_cons_succ, List.setIfInBounds_toArray, List.set_cons_zero, List.set_cons_succ]
      refine wpAnyZ_done (by kernel_rfl) ?_ _
      have HGA := Lib.hid hga
      have HBF := Lib.hid hbf
      go_wp2_with fail
      refine bodyPost_ret (results_cellG (p := 2) rfl _ _ b 29 _ _ rfl HRF Tryz.underlying29 rfl (by kernel_rfl)) rfl ⟨_, rfl, HGA.out, ?_⟩
      rw [hb]
      exact HBF.out
end Go.Proofs.YtcoepioahabbdaaGreat
namespace Go.Proofs.YtcoepioahabbdaaGreat
open Go.RowKit
set_option maxHeartbeats 4000000 in
theorem oOf_any (A : Option Addr) (n c B : Nat) (L : List LdR) (w : World) (hL : LdsAt w B A n L) (hB : B ≤ w.heap.size) (hS : ∀ r ∈ L, Small r.x) (hn : n ≤ 1048576) :
    Calls Tryz.prog 12 #[.slice A n c] w (OfPost L w) := 
  of_any A n c B L w hL hB hS hn
set_option maxHeartbeats 4000000 in
theorem oMay15_any (g : Array Value) (ns : List Nd) (es : List Ed) (B : Nat) (w : World) (h : GrAt w B g ns es) (hB : B ≤ w.heap.size) (hS : ∀ x ∈ ns, x.n.length ≤ maxLen) :
    Calls Tryz.prog 16 #[.agg g] w (MayPost ns es w) := 
  may_any g ns es B w h hB hS
set_option maxHeartbeats 4000000 in
theorem oOut_any (g : Array Value) (ns : List Nd) (es : List Ed) (u : Tx) (r : Int) (B : Nat) (w : World) (h : GrAt w B g ns es) (hB : B ≤ w.heap.size) (hes : es.length ≤ 524288) :
    Calls Tryz.prog 19 #[.agg g, .string (str u), .int .i64 r] w (PutPost w.heap.size (outG es u r) w) := 
  out_any g ns es u r B w h hB hes
set_option maxHeartbeats 4000000 in
theorem oIn_any (g : Array Value) (ns : List Nd) (es : List Ed) (u : Tx) (r : Int) (B : Nat) (w : World) (h : GrAt w B g ns es) (hB : B ≤ w.heap.size) (hes : es.length ≤ 524288) :
    Calls Tryz.prog 21 #[.agg g, .string (str u), .int .i64 r] w (PutPost w.heap.size (inG es u r) w) := 
  in_any g ns es u r B w h hB hes
set_option maxHeartbeats 4000000 in
theorem oNode15_any (g : Array Value) (ns : List Nd) (es : List Ed) (u : Tx) (B : Nat) (w : World) (h : GrAt w B g ns es) (hB : B ≤ w.heap.size) :
    Calls Tryz.prog 14 #[.agg g, .string (str u)] w (fun e w' => e = .returned (nodeV (nodeG ns u)) ∧ Below w.heap.size w w') := 
  node_any g ns es u B w h hB
end Go.Proofs.YtcoepioahabbdaaGreat
