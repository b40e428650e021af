/- The walk of package disk's ownFile, with slices.IndexFunc at its closure. The walks of package disk's ownFile, fileOf, l -/
import Derived.Test.YthodbeeglkedcaaGreatDzbi
import Derived.Test.YthodbeeglkedcaaGreatDzay
namespace Go.Proofs.YthodbeeglkedcaaGreat
open Go.RowKit
def idxP (l : List Fi) (p : List UInt8) : Int := match l.findIdx? (fun f => decide (f.p = p)) with
  | some i => (i : Int)
  | none => -1
theorem idx_take {l : List Fi} {p : List UInt8} {k : Nat} {x : Fi} (h : atL (l.take k) p = none) (hx : l[k]? = some x) (e : x.p = p) : idxP l p = k := by
  obtain ⟨hk, he⟩ := List.getElem?_eq_some_iff.1 hx
  unfold idxP
  have : l.findIdx? (fun f => decide (f.p = p)) = some k := by
    rw [List.findIdx?_eq_some_iff_getElem]
    refine ⟨hk, by rw [he]; simp [e], fun j hj => ?_⟩
    have hn := at_none.1 h (l[j]) (List.mem_iff_getElem.2 ⟨j, by rw [List.length_take]; omega, by rw [List.getElem_take]⟩)
    simp [hn]
  rw [this]
theorem idx_none {l : List Fi} {p : List UInt8} (h : atL l p = none) : idxP l p = -1 := by
  unfold idxP
  have : l.findIdx? (fun f => decide (f.p = p)) = none := by
    rw [List.findIdx?_eq_none_iff]
    intro x hx
    have := at_none.1 h x hx
    simp [this]
  rw [this]
theorem idx_at (l : List Fi) (p : List UInt8) : (idxP l p = -1 ∧ atL l p = none) ∨ ∃ (k : Nat) (x : Fi), idxP l p = (k : Int) ∧ k < l.length ∧ l[k]? = some x ∧ atL l p = some x := by
  rcases h : atL l p with _ | x
  · exact .inl ⟨idx_none h, rfl⟩
  · right
    obtain ⟨h1, h2⟩ := at_mem h
    unfold atL at h
    rw [List.find?_eq_some_iff_getElem] at h
    obtain ⟨h3, i, hi, h4, h5⟩ := h
    refine ⟨i, x, ?_, hi, by rw [List.getElem?_eq_getElem hi, h4], rfl⟩
    refine idx_take (x := x) ?_ (by rw [List.getElem?_eq_getElem hi, h4]) h2
    rw [at_none]
    intro f hf
    obtain ⟨j, hj, e⟩ := List.mem_iff_getElem.1 hf
    rw [List.length_take] at hj
    rw [List.getElem_take] at e
    have := h5 j (by omega)
    rw [e] at this
    simpa using this
theorem own1_any (x : Fi) (p : List UInt8) (g : Nat) (w : World) (hg : w.cell? ⟨g, 0, none⟩ = some (.string (str p))) (hl : g < w.heap.size) :
    Calls Tryz.prog 57 #[.agg #[.string (str x.p), .string (str x.t), .string (str x.l)], .pointer (some ⟨g, 0, none⟩)] w fun e w' => e = .returned (.bool (decide (x.p = p))) ∧ Below w.heap.size w w' := by
  have hq : ((str x.p).toList == (str p).toList) = decide (x.p = p) := by
    rw [Lib.toList_data, Lib.toList_data, str_list, str_list, Bool.eq_iff_iff, decide_eq_true_eq, beq_iff_eq]
  have HB0 : Hid (Below w.heap.size w (w.alloc (.cells #[.string (str x.p), .string (str x.t), .string (str x.l)] 34))) := (Below.refl _ w).alloc (Nat.le_refl _) _
  have c0 : (w.alloc (.cells #[.string (str x.p), .string (str x.t), .string (str x.l)] 34)).cell? ⟨g, 0, none⟩ = some (.string (str p)) := (HB0.out.cell hl).trans hg
  generalize decide (x.p = p) = r at *
  clear hg
  go_enter Tryz.func57, Tryz.ntmps57
  go_wp2_with fail
  go_ret
  exact ⟨rfl, HB0.out⟩
set_option maxHeartbeats 8000000 in
theorem idxFunc_any (A : Option Addr) (n c B : Nat) (l : List Fi) (p : List UInt8) (g : Nat) (w : World) (h : FisAt w B A n l) (hB : B ≤ w.heap.size) (hg : w.cell? ⟨g, 0, none⟩ = some (.string (str p))) (hgl : g < w.heap.size) :
    Calls Tryz.prog 56 #[.slice A n c, .func (.func 57) #[] #[.pointer (some ⟨g, 0, none⟩)]] w fun e w' => e = .returned (.int .i64 (idxP l p)) ∧ Below w.heap.size w w' := by
  have hl := h.1
  have hm := h.2.1
  unfold maxLen at hm
  have HL := Lib.hid h
  have HN0 : Hid (atL (l.take 0) p = none) := rfl
  have HG := Lib.hid (fun (x : Fi) (W : World) (hb : Below w.heap.size w W) => own1_any x p g W ((hb.cell hgl).trans hg) (Nat.lt_of_lt_of_le hgl hb.size))
  clear h hg hgl
  go_enter Tryz.func56, Tryz.ntmps56
  go_wp2_with fail
  go_loopw [8] (fun i wr => ∃ k : Nat, k ≤ n ∧ i = .int .i64 k ∧ Hid (Below w.heap.size w wr) ∧ Hid (atL (l.take k) p = none)) (fun i wr => n - (intOf i).toNat)
  case atStart => exact ⟨0, Nat.zero_le _, rfl, Below.refl _ _, HN0⟩
  case round =>
    obtain ⟨k, hk, rfl, hb, hN⟩ := hrel
    by_cases hlt : k < n
    · have b0 : (0 : Int) ≤ (k : Int) := by omega
      have b1 : (k : Int) < (n : Int) := by omega
      obtain ⟨ad, x, rfl, hab, hx, q0, q1, q2⟩ := (HL.out.below (hb.out.mono hB)).at_ hlt
      have z1 : (ad.add (k * 3)).block < wr.heap.size := by rw [block_addR]; have := hb.out.size; omega
      obtain ⟨n1, n2⟩ := at_take hN.out hx
      have HX := Lib.hid hx
      clear hx
      go_wp2_with fail
      refine (HG.out x _ hb.out).mono ?_
      rintro e2 w2 ⟨rfl, hb2⟩
      have HB2 := Lib.hid (more3 hb.out hb.out.size hb2)
      clear hb2 q0 q1 q2
      by_cases hxp : x.p = p
      · have HF := Lib.hid (idx_take hN.out HX.out hxp)
        rw [decide_eq_true hxp]
        clear hxp n1 n2
        go_wp2_with fail
        go_ret
        exact ⟨by rw [HF.out]; rfl, HB2.out⟩
      · have HF := Lib.hid (n2 hxp)
        rw [decide_eq_false hxp]
        clear hxp n1 n2
        go_wp2_with fail
        go_roundw
        case rel => exact ⟨k + 1, by omega, by go_num, HB2, HF⟩
        case measure => simp [intOf]; omega
    · obtain rfl : k = n := by omega
      have HF : Hid (idxP l p = -1) := by
        have := hN.out
        rw [List.take_of_length_le (by omega)] at this
        exact idx_none this
      clear hlt
      go_wp2_with fail
      go_ret
      exact ⟨by rw [HF.out]; rfl, hb.out⟩
end Go.Proofs.YthodbeeglkedcaaGreat
namespace Go.Proofs.YthodbeeglkedcaaGreat
open Go.RowKit
theorem cat_slash (a u : List UInt8) : str a ++ (⟨#[47]⟩ : ByteArray) ++ str u = str (a ++ 47 :: u) := by
  apply Nm.ext_list
  rw [own_list, str_list, str_list]
set_option maxHeartbeats 8000000 in
theorem ownFile_any (A : Option Addr) (n c B : Nat) (l : List Fi) (u : List UInt8) (hu : u.length ≤ 4194304) (w : World) (h : FisAt w B A n l) (hB : B ≤ w.heap.size) :
    Calls Tryz.prog 30 #[.slice A n c, .string (str u)] w fun e w' => e = .returned (atV (firstL l u)) ∧ Below w.heap.size w w' := by
  have hl := h.1
  have hm := h.2.1
  unfold maxLen at hm
  have hus : (str u).size ≤ 4194304 := by rw [str_size]; exact hu
  have HL := Lib.hid h
  clear h hu
  have HR0 : Hid (Blk (w.alloc (.cells #[.string ⟨#[]⟩, .string ⟨#[]⟩, .string ⟨#[]⟩] 34)) w.heap.size 34 (fiA noFi)) := Blk.new w _ _
  have HB0 : Hid (Below w.heap.size w (w.alloc (.cells #[.string ⟨#[]⟩, .string ⟨#[]⟩, .string ⟨#[]⟩] 34))) := (Below.refl _ w).alloc (Nat.le_refl _) _
  have HN0 : Hid (firstTo l u 0 = none) := rfl
  go_enter Tryz.func30, Tryz.ntmps30
  go_wp2_with fail
  generalize w.alloc (.cells #[.string ⟨#[]⟩, .string ⟨#[]⟩, .string ⟨#[]⟩] 34) = w0 at *
  refine (dPlaces_any _).mono ?_
  rintro e1 w1 ⟨PA, pc, rfl, hp, hb1⟩
  have HR1 := Lib.hid (HR0.out.below hb1 HR0.out.lt)
  have HB1 := Lib.hid (more3 HB0.out HB0.out.size hb1)
  have HP := Lib.hid hp
  clear hb1 hp HR0 HB0
  go_wp2_with fail
  go_loopw [12] (fun i wr => ∃ k : Nat, k ≤ 3 ∧ i = .int .i64 k ∧ Hid (Below w1.heap.size w1 wr) ∧ Hid (firstTo l u k = none)) (fun i wr => 3 - (intOf i).toNat)
  case atStart => exact ⟨0, by omega, rfl, Below.refl _ _, HN0⟩
  case round =>
    obtain ⟨k, hk, rfl, hb, hN⟩ := hrel
    have hb' : Hid (Below w.heap.size w wr) := more3 HB1.out HB1.out.size hb.out
    have hR : Hid (Blk wr w.heap.size 34 (fiA noFi)) := HR1.out.below hb.out HR1.out.lt
    have hRl : w.heap.size < wr.heap.size := hR.out.lt
    by_cases hlt : k < 3
    · have b0 : (0 : Int) ≤ (k : Int) := by omega
      have b1 : (k : Int) < 3 := by omega
      obtain ⟨ad, a, rfl, hab, ha, q0⟩ := (HP.out.below hb.out).at_ hlt
      have hal := plc_len ha
      have hsz : (str a).size = 3 := by rw [str_size]; exact hal
      obtain ⟨n1, n2⟩ := first_take hN.out ha
      have HN1 := Lib.hid n1
      have HN2 := Lib.hid n2
      have hs1 : (str a).size + 1 ≤ 9223372036854775807 := by omega
      have hs2 : (str a).size + 1 + (str u).size ≤ 9223372036854775807 := by omega
      clear n1 n2 ha hsz hal
      have HWa : Hid (Below wr.heap.size wr (wr.alloc (.cells #[.string (str a ++ (⟨#[47]⟩ : ByteArray) ++ str u)] 9))) := (Below.refl _ wr).alloc (Nat.le_refl _) _
      have HWc : Hid ((wr.alloc (.cells #[.string (str a ++ (⟨#[47]⟩ : ByteArray) ++ str u)] 9)).cell? ⟨wr.heap.size, 0, none⟩ = some (.string (str (a ++ 47 :: u)))) := by
        show _ = _
        rw [← cat_slash]
        exact (Blk.new wr 9 #[.string (str a ++ (⟨#[47]⟩ : ByteArray) ++ str u)]).cell 0
      have hWs : wr.heap.size < (wr.alloc (.cells #[.string (str a ++ (⟨#[47]⟩ : ByteArray) ++ str u)] 9)).heap.size := by simp
      go_wp2_with fail
      generalize wr.alloc (.cells #[.string (str a ++ (⟨#[47]⟩ : ByteArray) ++ str u)] 9) = wa at *
      have hba := HWa.out.size
      have HLa := Lib.hid (HL.out.below ((more3 hb'.out hb'.out.size HWa.out).mono hB))
      refine (idxFunc_any A n c B l (a ++ 47 :: u) _ wa HLa.out (by have := hb'.out.size; omega) HWc.out hWs).mono ?_
      rintro e2 w2 ⟨rfl, hb2⟩
      have HB2 := Lib.hid (more3 (more3 hb.out hb.out.size HWa.out) (by have := hb.out.size; omega) hb2)
      have HL2 := Lib.hid (HLa.out.below (hb2.mono (by have := hb'.out.size; omega)))
      have HR2 := Lib.hid ((hR.out.below HWa.out hR.out.lt).below hb2 (by omega))
      have hb2s := hb2.size
      clear hb2 HWa HWc HLa q0
      rcases idx_at l (a ++ 47 :: u) with ⟨i1, i2⟩ | ⟨j, x, i1, i2, i3, i4⟩
      · have HN3 : Hid (firstTo l u (k + 1) = none) := by show _ = _; rw [HN1.out, i2]
        rw [i1]
        clear i1 i2
        go_wp2_with fail
        go_roundw
        case rel => exact ⟨k + 1, by omega, by go_num, HB2, HN3⟩
        case measure => simp [intOf]; omega
      · have HF := Lib.hid (HN2.out x i4)
        rw [i1]
        have d0 : (0 : Int) ≤ (j : Int) := by omega
        have d1 : (j : Int) < (n : Int) := by omega
        obtain ⟨ad2, y, hA, hab2, hy, r0, r1, r2⟩ := HL2.out.at_ (k := j) (by omega)
        obtain rfl : x = y := by rw [i3] at hy; exact Option.some.inj hy
        subst hA
        have hadb : (ad2.add (j * 3)).block < w2.heap.size := by rw [block_addR]; have := hb'.out.size; omega
        clear i1 i2 i3 i4 hy HN1 HN2
        have HBw := Lib.hid (more3 HB1.out HB1.out.size HB2.out)
        go_wp2_with (refine wpList_store_row rfl 34 (.tmp 4) (.tmp 28) (by rfl) w.heap.size (fiA x) (by rfl) (by rfl) 34 (fiA noFi) HR2.out (by kernel_rfl) rfl (fiA_all _) ?_)
        refine bodyPost_ret (results_cell_tmp (p := 4) (q := 5) rfl _ _ w.heap.size 34 (fiA x) _ _ rfl rfl (Blk.row HR2.out _) Tryz.underlying34 rfl (by kernel_rfl)) rfl ⟨by rw [HF.out]; rfl, below_setRow HBw.out (Nat.le_refl _) _⟩
    · obtain rfl : k = 3 := by omega
      have HF : Hid (firstL l u = none) := hN.out
      clear hlt
      go_wp2_with (refine wpList_store_row rfl 34 (.tmp 4) (.tmp 30) (by rfl) w.heap.size (fiA noFi) (by rfl) (by rfl) 34 (fiA noFi) hR.out (by kernel_rfl) rfl (fiA_all _) ?_)
      refine bodyPost_ret (results_cell_tmp (p := 4) (q := 5) rfl _ _ w.heap.size 34 (fiA noFi) _ _ rfl rfl (Blk.row hR.out _) Tryz.underlying34 rfl (by kernel_rfl)) rfl ⟨by rw [HF.out]; rfl, below_setRow hb'.out (Nat.le_refl _) _⟩
end Go.Proofs.YthodbeeglkedcaaGreat
namespace Go.Proofs.YthodbeeglkedcaaGreat
open Go.RowKit Go.WideMaps Go.Maps
set_option maxRecDepth 100000 in
theorem MapS.look {w : World} {b n : Nat} {f : List UInt8 → Bool} (h : MapS w b n f) (p : List UInt8) (hp : p.length ≤ maxLen) :
    (Instr.lookup 52 (.map (some b)) (.string (str p)) false).run Tryz.prog w = .ok (.bool (f p)) w := by
  obtain ⟨D, hD, hat⟩ := h
  have hkey : keyOf Tryz.prog 9 (.string (str p)) = some (.string p) := keyOf_string_mk Tryz.underlying9 hp
  obtain ⟨v, ps, hrun, hv⟩ := hD.lookup keyLawS Tryz.underlying52 (zeroBoolS _) (plainElem_bool Tryz.underlying4 false) hkey
  obtain ⟨d, rfl, hd⟩ := plainElem_bool_invS Tryz.underlying4 hv
  simp only [Prod.mk.injEq] at hd
  have hd' := hd.1
  rw [hat p hp] at hd'
  injection hd' with h1
  injection h1 with h1
  rw [hrun, h1]
set_option maxHeartbeats 8000000 in
theorem dMay_any (A : Option Addr) (n c B : Nat) (l : List Fi) (w : World) (h : FisAt w B A n l) (hB : B ≤ w.heap.size) (hs : ∀ x ∈ l, SizeF x) :
    Calls Tryz.prog 8 #[.slice A n c] w fun e w' => e = .returned (.bool (mayL nmsP l)) ∧ Below w.heap.size w w' := by
  have hl := h.1
  have HL := Lib.hid h
  have HS := Lib.hid hs
  clear h hs
  by_cases h120 : 120 < n
  · have HV := Lib.hid (may_long (l := l) (by omega))
    have t1 : (120 : Int) < (n : Int) := by omega
    clear h120
    go_enter Tryz.func8, Tryz.ntmps8
    go_wp2_with fail
    go_ret
    exact ⟨ret_bool HV.out.symm, Below.refl _ _⟩
  have t1 : (n : Int) ≤ 120 := by omega
  have u1 : (0 : Nat) ≤ 1 := Nat.zero_le _
  have HM0 : Hid (MapS (w.alloc (.map #[] 0)) w.heap.size 0 (seenF l 0)) := (mapS_made w).same (fun p => rfl)
  have HB0 : Hid (Below w.heap.size w (w.alloc (.map #[] 0))) := (Below.refl _ w).alloc (Nat.le_refl _) _
  have HT0 := Lib.hid (mayTo_zero l)
  have hmm := @run_makeMap Tryz.prog
  go_enter Tryz.func8, Tryz.ntmps8
  go_wp2_with fail
  go_loopw [12] (fun i wr => ∃ k : Nat, k ≤ n ∧ i = .int .i64 k ∧ Hid (Below w.heap.size w wr) ∧ Hid (MapS wr w.heap.size k (seenF l k)) ∧ Hid (mayTo l k)) (fun i wr => n - (intOf i).toNat)
  case atStart => exact ⟨0, Nat.zero_le _, rfl, HB0, HM0, HT0⟩
  case round =>
    obtain ⟨k, hk, rfl, hb, hM, hT⟩ := hrel
    have hMl := hM.out.lt
    by_cases hlt : k < n
    · have b0 : (0 : Int) ≤ (k : Int) := by omega
      have b1 : (k : Int) < (n : Int) := by omega
      obtain ⟨ad, x, rfl, hab, hx, q0, q1, q2⟩ := (HL.out.below (hb.out.mono hB)).at_ hlt
      have z1 : (ad.add (k * 3)).block < wr.heap.size := by rw [block_addR]; have := hb.out.size; omega
      have hsx := HS.out x (List.mem_of_getElem? hx)
      have hpl : x.p.length ≤ maxLen := by unfold maxLen; have := hsx.1; omega
      have HX := Lib.hid hx
      have HC := Lib.hid (fun W => isSound_any x hsx W)
      clear hx hsx
      have HM1 : Hid (MapS (wr.alloc (.cells #[.string (str x.p), .string (str x.t), .string (str x.l)] 34)) w.heap.size k (seenF l k)) := hM.out.below ((Below.refl _ wr).alloc (Nat.le_refl _) _)
      have HB1 : Hid (Below w.heap.size w (wr.alloc (.cells #[.string (str x.p), .string (str x.t), .string (str x.l)] 34))) := hb.out.alloc hb.out.size _
      have HK1 : Hid (Blk (wr.alloc (.cells #[.string (str x.p), .string (str x.t), .string (str x.l)] 34)) wr.heap.size 34 (fiA x)) := Blk.new wr _ _
      go_wp2_with fail
      generalize wr.alloc (.cells #[.string (str x.p), .string (str x.t), .string (str x.l)] 34) = wa at *
      refine (HC.out _).mono ?_
      rintro e2 w2 ⟨rfl, hb2⟩
      have HM2 := Lib.hid (HM1.out.below hb2)
      have HB2 := Lib.hid (more3 HB1.out HB1.out.size hb2)
      have q02 : w2.cell? ⟨wr.heap.size, 0, none⟩ = some (.string (str x.p)) := (HK1.out.below hb2 HK1.out.lt).cell 0
      clear hb2 HM1 HB1 HK1 HC q0 q1 q2
      rcases hme : mayF nmsP x with _ | _
      · have HV := Lib.hid (may_bad HX.out hme)
        clear hme
        go_wp2_with fail
        go_ret
        exact ⟨ret_bool HV.out.symm, HB2.out⟩
      have hlk := HM2.out.look x.p hpl
      rcases hse : seenF l k x.p with _ | _
      · rw [hse] at hlk
        have HT1 := Lib.hid (mayTo_succ hT.out HX.out hse hme)
        clear hme hse
        have HSN := Lib.hid (fun p => seen_succ HX.out p)
        have hkm : k < maxLen := by unfold maxLen; omega
        go_wp2_with (refine wpList_markS rfl (.tmp 25) (.tmp 27) (.const (.bool true)) rfl w.heap.size k (seenF l k) rfl HM2.out hkm x.p hpl rfl rfl ?_; intro w3 hM3 hg3)
        have HM3 : Hid (MapS w3 w.heap.size (k + 1) (seenF l (k + 1))) := hM3.same HSN.out
        have HB3 : Hid (Below w.heap.size w w3) := below_only HB2.out hg3 (Nat.le_refl _) HB2.out.size
        clear hM3 hg3
        go_wp2_with fail
        go_roundw
        case rel => exact ⟨k + 1, by omega, by go_num, HB3, HM3, HT1⟩
        case measure => simp [intOf]; omega
      · rw [hse] at hlk
        have HV := Lib.hid (may_seen HX.out hse)
        clear hse hme
        go_wp2_with fail
        go_ret
        exact ⟨ret_bool HV.out.symm, HB2.out⟩
    · obtain rfl : k = n := by omega
      have HV := Lib.hid (may_all (l := l) (by omega) (by omega) hT.out)
      clear hlt
      go_wp2_with fail
      go_ret
      exact ⟨ret_bool HV.out.symm, hb.out⟩
end Go.Proofs.YthodbeeglkedcaaGreat
