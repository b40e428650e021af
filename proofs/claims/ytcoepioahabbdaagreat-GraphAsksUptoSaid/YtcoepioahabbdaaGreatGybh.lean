/- The walks of addDefault and weave. -/
import Derived.Test.YtcoepioahabbdaaGreatGybg
import Derived.Test.YtcoepioahabbdaaGreatGyap
namespace Go.Proofs.YtcoepioahabbdaaGreat
open Go.RowKit
section
variable {P : Program} {ops : Array Oper} {Q : Exit → Act → World → Prop} {md : Region.Mode} {S : World → Prop} {z : Nat}
theorem wpAnyZ_two {i j : Nat} {oi oj : Oper} {fuel : Nat} {listed : Array Bool} {a : Act} {w : World} (hr : Region.ready md ops listed = [i, j]) (hoi : ops[i]? = some oi) (hoj : ops[j]? = some oj)
    (hi : ∀ K' : Act → World → Prop, Shut (∀ a w, (i = z ∨ S w) → ((i = z ∨ S w) → wpAnyZ P md ops Q S z fuel (listed.setIfInBounds i true) a w) → K' a w) → if Region.wanted oi (yielded ops a.tmps) = true then Oper.wp P oi a w K' Q else K' (a.put oi.dst undef) w)
    (hj : ∀ K' : Act → World → Prop, Shut (∀ a w, (j = z ∨ S w) → ((j = z ∨ S w) → wpAnyZ P md ops Q S z fuel (listed.setIfInBounds j true) a w) → K' a w) → if Region.wanted oj (yielded ops a.tmps) = true then Oper.wp P oj a w K' Q else K' (a.put oj.dst undef) w) : wpAnyZ P md ops Q S z (fuel + 1) listed a w :=
  ⟨fun h0 => (by rw [hr] at h0; cases h0), fun k hk => by
    rw [hr] at hk
    rcases List.mem_cons.1 hk with rfl | hk
    · exact wpOp_step hoi (fun K' hK => hi K' (fun a w hS hW => hK a w ⟨hS, hW hS⟩))
    · obtain rfl := List.mem_singleton.1 hk
      exact wpOp_step hoj (fun K' hK => hj K' (fun a w hS hW => hK a w ⟨hS, hW hS⟩))⟩
end
theorem Wk.addB {w0 W : World} {g : Nat} {UA : Option Addr} {n uc : Nat} {E0 E : Value} {es : List Ed} {U : List LdR} {b rb : Nat} {r : LdR} (h : Wk w0 W g UA n uc E0 E es U b r) (t : Tx) (rs : List Int) (cs : Array Value) (hR : Bx W g E rb 3 cs) (k : Nat) (hcs : cs = intsV rs) (hk : rs.length = k) (hr : k ≤ 8) (hl : es.length ≤ 549755813888) :
    Calls Tryz.prog 49 #[.pointer (some ⟨g, 0, none⟩), .string (str r.x.n), .string (str t), .slice (some ⟨rb, 0, none⟩) k k] W fun e w' => e = .returned (.tuple #[]) ∧ ∃ E', Wk w0 w' g UA n uc E0 E' (es ++ addC (hasN U) r.x.n (rs.map (fun r => (t, r)))) U b r := by
  subst hcs hk
  exact (add_any g UA n uc E es U r.x.n t rs rb W h.wb h.us hR hr hl).mono fun e w' hp => h.post hp
set_option maxRecDepth 10000 in
set_option maxHeartbeats 16000000 in
theorem addDefault_any (g : Nat) (UA : Option Addr) (n uc : Nat) (E : Value) (es : List Ed) (U : List LdR) (r : LdR) (w : World) (hw : Wb w g UA n uc E es) (hU : Us w g UA n U) (hM : MineP w g r) (hl : es.length ≤ 274877906944) :
    Calls Tryz.prog 50 #[.pointer (some ⟨g, 0, none⟩), .agg r.a] w (WbPost g UA n uc E (es ++ addC (hasN U) r.x.n (dfltP (U.map (·.x)) (kT r.x.n) r.x)) w) := by
  have hk0 := wk_start hw hU r
  have HW := Lib.hid hw
  have HN0 := Lib.hid hM.is.name
  have hsz : (str r.x.n).size ≤ maxLen := by rw [str_size]; exact hM.small.n
  have c0 := hk0.cell hM.is.name
  have HM := Lib.hid hM
  have HK0 := Lib.hid hk0
  clear hw hU hM hk0
  go_enter Tryz.func50, Tryz.ntmps50
  go_wp2_with fail
  obtain ⟨b, hb⟩ : ∃ b, w.heap.size = b := ⟨_, rfl⟩
  obtain ⟨w1, hw1⟩ : ∃ w1, w.alloc (.cells r.a 53) = w1 := ⟨_, rfl⟩
  rw [hb, hw1] at HK0 c0
  rw [hb, hw1]
  clear hw1
  refine (Nm.Kind_any (str r.x.n) hsz w1).mono ?_
  rintro e w2 ⟨rfl, hb2⟩
  have HK2 := Lib.hid (HK0.out.below hb2)
  have e0 := HK2.out.cell HN0.out
  clear hb2 HK0 c0
  rw [show Nm.kindP (str r.x.n) = kT r.x.n from rfl]
  obtain ⟨k, hk⟩ : ∃ k, kT r.x.n = k := ⟨_, rfl⟩
  rw [hk]
  have HKK := Lib.hid hk
  have hd : ∀ k, dfltP (U.map (·.x)) k r.x = if k = 4 then targP (U.map (·.x)) r.x else sysP k := fun _ => rfl
  have HD := Lib.hid (hd k)
  clear hd
  by_cases h4 : k = 4
  · have HD4 : Hid (dfltP (U.map (·.x)) k r.x = targP (U.map (·.x)) r.x) := by show _ = _; rw [HD.out, if_pos h4]
    have k4 : (k == 4) = true := by simpa using h4
    have HLB := Lib.hid (load_box r HK2.out.bx.blk)
    have hat := addTarget_any g UA n uc E es U r w2 HK2.out.wb HK2.out.us ⟨HM.out.is.below (HK2.out.belowg HW.out), HM.out.small⟩ hl
    clear HD h4 hk
    go_wp2_with (refine wpList_load_part rfl 53 (.tmp 3) (by rfl) ⟨b, 0, none⟩ (by rfl) (.agg r.a) HLB.out ?_)
    refine hat.mono ?_
    rintro e w5 ⟨rfl, E5, h5, h6⟩
    have H5 := Lib.hid h5
    have H6 := Lib.hid (HK2.out.fr.trans h6)
    clear h5 h6 hat
    go_wp2_with fail
    refine bodyPost_ret (results_none rfl _ _ _) rfl ?_
    rw [HKK.out, HD4.out]
    exact ⟨rfl, E5, H5.out, H6.out⟩
  · have k4 : (k == 4) = false := by simpa using h4
    have HD4 : Hid (dfltP (U.map (·.x)) k r.x = sysP k) := by show _ = _; rw [HD.out, if_neg h4]
    clear HD h4 hk
    by_cases h1 : k = 1
    · have k1 : (k == 1) = true := by simpa using h1
      have HD1 : Hid (dfltP (U.map (·.x)) k r.x = [(sysT, 1), (sysT, 8)] ++ [(shutT, 6), (shutT, 7)]) := by show _ = _; rw [HD4.out]; unfold sysP; rw [if_pos h1]
      clear HD4 h1
      have hadd := HK2.out.add sysT [1, 8] #[.int .i64 1, .int .i64 8] 2 rfl rfl (by decide) (by omega)
      go_wp2_with fail
      refine hadd.mono ?_
      rintro e w3 ⟨rfl, E3, h3⟩
      have H3 := Lib.hid h3
      have hl3 : (es ++ addC (hasN U) r.x.n ([1, 8].map (fun r => (sysT, r)))).length ≤ 549755813888 := by
        have := addC_len (hasN U) r.x.n ([1, 8].map (fun r => (sysT, r)))
        rw [List.length_append]
        simp only [List.length_map, List.length_cons, List.length_nil] at this
        omega
      have hadd2 := h3.add shutT [6, 7] #[.int .i64 6, .int .i64 7] 2 rfl rfl (by decide) hl3
      have e3 := h3.cell HN0.out
      clear h3 hadd e0 hl3
      go_wp2_with fail
      refine hadd2.mono ?_
      rintro e w4 ⟨rfl, E4, h4⟩
      have H4 := Lib.hid h4.back
      clear h4 hadd2 e3
      go_wp2_with fail
      refine bodyPost_ret (results_none rfl _ _ _) rfl ?_
      rw [HKK.out, HD1.out, addC_app, ← List.append_assoc]
      exact H4.out
    · have k1 : (k == 1) = false := by simpa using h1
      have HD1 : Hid (dfltP (U.map (·.x)) k r.x = [(sysT, 8)] ++ [(shutT, 6), (shutT, 7)]) := by show _ = _; rw [HD4.out]; unfold sysP; rw [if_neg h1]
      clear HD4 h1
      have hadd := HK2.out.add sysT [8] #[.int .i64 8] 1 rfl rfl (by decide) (by omega)
      go_wp2_with fail
      refine hadd.mono ?_
      rintro e w3 ⟨rfl, E3, h3⟩
      have H3 := Lib.hid h3
      have hl3 : (es ++ addC (hasN U) r.x.n ([8].map (fun r => (sysT, r)))).length ≤ 549755813888 := by
        have := addC_len (hasN U) r.x.n ([8].map (fun r => (sysT, r)))
        rw [List.length_append]
        simp only [List.length_map, List.length_cons, List.length_nil] at this
        omega
      have hadd2 := h3.add shutT [6, 7] #[.int .i64 6, .int .i64 7] 2 rfl rfl (by decide) hl3
      have e3 := h3.cell HN0.out
      clear h3 hadd e0 hl3
      go_wp2_with fail
      refine hadd2.mono ?_
      rintro e w4 ⟨rfl, E4, h4⟩
      have H4 := Lib.hid h4.back
      clear h4 hadd2 e3
      go_wp2_with fail
      refine bodyPost_ret (results_none rfl _ _ _) rfl ?_
      rw [HKK.out, HD1.out, addC_app, ← List.append_assoc]
      exact H4.out
theorem namedP_len (x : Ld) : (namedP x).length ≤ x.rels.length + x.wants.length + x.reqs.length := by
  unfold namedP relsC wantsC reqsC
  rw [List.length_append, List.length_append, List.length_map, List.length_map, List.length_map]
  have := List.length_filter_le (fun r : Int × Tx => decide (1 ≤ r.1 ∧ r.1 ≤ 9)) x.rels
  omega
def sockK (x : Ld) (k : Nat) : List (Tx × Int) := (x.socks.take k).flatMap (fun s => [(s, 2), (s, 8)])
theorem sockK_len (x : Ld) (k : Nat) : (sockK x k).length ≤ 2 * x.socks.length := by
  unfold sockK
  have key : ∀ l : List Tx, (l.flatMap (fun s => [(s, (2 : Int)), (s, 8)])).length = 2 * l.length := fun l => by
    induction l with
    | nil => rfl
    | cons a l ih => rw [List.flatMap_cons, List.length_append, ih]; simp; omega
  rw [key, List.length_take]
  omega
theorem sockK_succ {x : Ld} {k : Nat} {t : Tx} (h : x.socks[k]? = some t) : sockK x (k + 1) = sockK x k ++ [2, 8].map (fun r : Int => (t, r)) := flat_take_succ h _
theorem ld_uis {w : World} {B : Nat} {r : LdR} (h : LdIs w B r) : ∃ t, UIs r.u r.x.un t r.x.uk ∧ r.x.wk = wakeT r.x.uk t r.x.un := by
  obtain ⟨t, h1, h2⟩ := h.wake
  exact ⟨t, ⟨(r.uat 0 (by decide)).trans h.un, (r.uat 1 (by decide)).trans h.uk, (r.uat 24 (by decide)).trans h1⟩, h2⟩
theorem kindP_two {k : Int} {x : Ld} (h : k = 2 ∨ k = 3) : kindP' k x = [10, 7].map (fun q : Int => (x.wk, q)) := by
  unfold kindP'
  rw [if_neg (by omega), if_pos h]
  rfl
theorem kindP_no {k : Int} {x : Ld} (h1 : k ≠ 1) (h2 : k ≠ 2) (h3 : k ≠ 3) : kindP' k x = [] := by
  unfold kindP'
  rw [if_neg h1, if_neg (by omega)]
set_option maxRecDepth 10000 in
set_option maxHeartbeats 16000000 in
theorem weave_any (g : Nat) (UA : Option Addr) (n uc : Nat) (E : Value) (es : List Ed) (U : List LdR) (r : LdR) (w : World) (hw : Wb w g UA n uc E es) (hU : Us w g UA n U) (hM : MineP w g r) (hl : es.length ≤ 137438953472) :
    Calls Tryz.prog 29 #[.pointer (some ⟨g, 0, none⟩), .agg r.a] w (WbPost g UA n uc E (es ++ weaveP (U.map (·.x)) kT r.x) w) := by
  have hk0 := wk_start hw hU r
  have HW := Lib.hid hw
  have HN0 := Lib.hid hM.is.name
  have HC8 := Lib.hid hM.is.dflt
  have hsz : (str r.x.n).size ≤ maxLen := by rw [str_size]; exact hM.small.n
  have hrows := hM.small.rows
  have hsocks := hM.small.socks
  have HM := Lib.hid hM
  obtain ⟨SA, sc, hs1, hs2, hs3, hs4⟩ := hM.is.socks
  have HC25 := Lib.hid hs1
  have HS4 := Lib.hid hs4
  have hnm := addNamed_any g UA n uc E es U r _ hk0.wb hk0.us ⟨hM.is.below (hk0.belowg hw), hM.small⟩ (by omega)
  have HLB := Lib.hid (load_box r hk0.bx.blk)
  have HP : Hid (weaveP (U.map (·.x)) kT r.x = addC (hasN U) r.x.n (sayP (U.map (·.x)) (kT r.x.n) r.x)) := by
    show _ = _
    unfold weaveP
    congr 1
    funext t
    unfold hasU hasN hasK nmR
    rw [List.map_map]
    rfl
  have HK0 := Lib.hid hk0
  clear hw hU hM hk0 hs1 hs3 hs4
  go_enter Tryz.func29, Tryz.ntmps29
  go_wp2_with (refine wpList_load_part rfl 53 (.tmp 3) (by rfl) ⟨w.heap.size, 0, none⟩ (by rfl) (.agg r.a) HLB.out ?_)
  obtain ⟨b, hb⟩ : ∃ b, w.heap.size = b := ⟨_, rfl⟩
  obtain ⟨w1, hw1⟩ : ∃ w1, w.alloc (.cells r.a 53) = w1 := ⟨_, rfl⟩
  rw [hb, hw1] at HK0
  rw [hw1] at hnm
  rw [hb, hw1]
  clear hw1 HLB
  refine hnm.mono ?_
  intro e w2 hp2
  obtain ⟨rfl, E2, h2⟩ := HK0.out.post hp2
  have HK2 := Lib.hid h2
  have e2 := h2.cell HN0.out
  have hl2 : (es ++ addC (hasN U) r.x.n (namedP r.x)).length ≤ es.length + 1048576 := by
    have := addC_len (hasN U) r.x.n (namedP r.x)
    have := namedP_len r.x
    rw [List.length_append]
    omega
  obtain ⟨es2, hes2⟩ : ∃ es2, es ++ addC (hasN U) r.x.n (namedP r.x) = es2 := ⟨_, rfl⟩
  rw [hes2] at HK2 hl2
  have HE2 := Lib.hid hes2
  clear hp2 h2 hnm HK0 hes2
  go_wp2_with fail
  refine (Nm.Kind_any (str r.x.n) hsz w2).mono ?_
  rintro e w3 ⟨rfl, hb3⟩
  have HK3 := Lib.hid (HK2.out.below hb3)
  clear hb3 HK2 e2
  rw [show Nm.kindP (str r.x.n) = kT r.x.n from rfl]
  obtain ⟨k, hk⟩ : ∃ k, kT r.x.n = k := ⟨_, rfl⟩
  rw [hk]
  have HKK := Lib.hid hk
  clear hk
  by_cases h1 : k = 1
  · have k1 : (k == 1) = true := by simpa using h1
    have HKP : Hid (kindP' k r.x = r.x.socks.flatMap (fun s => [(s, 2), (s, 8)])) := by show _ = _; unfold kindP'; rw [if_pos h1]
    have c25 := HK3.out.cell HC25.out
    clear h1
    go_wp2_with fail
    clear c25
    go_loopw [18] (fun i wr => ∃ (q : Nat) (E' : Value), q ≤ r.x.socks.length ∧ i = .int .i64 q ∧ Hid (Wk w wr g UA n uc E E' (es2 ++ addC (hasN U) r.x.n (sockK r.x q)) U b r)) (fun i wr => r.x.socks.length - (intOf i).toNat)
    case atStart => exact ⟨0, _, Nat.zero_le _, rfl, by show Wk _ _ _ _ _ _ _ _ _ _ _ _; rw [show sockK r.x 0 = [] from rfl, addC_nil, List.append_nil]; exact HK3.out⟩
    case round =>
      clear HK3
      obtain ⟨q, E', hq, rfl, hK⟩ := hrel
      by_cases hlt : q < r.x.socks.length
      · have b0 : (0 : Int) ≤ (q : Int) := by omega
        have b1 : (q : Int) < (r.x.socks.length : Int) := by omega
        obtain ⟨ad, et, rfl, hab, hx, q0⟩ := txs_at (HS4.out.below (hK.out.belowg HW.out)) hlt
        have HT := Lib.hid (sockK_succ hx)
        have hlen : (es2 ++ addC (hasN U) r.x.n (sockK r.x q)).length ≤ 549755813888 := by
          have h1 := addC_len (hasN U) r.x.n (sockK r.x q)
          have h2 := sockK_len r.x q
          rw [List.length_append]
          omega
        clear hx
        obtain ⟨es3, hes3⟩ : ∃ es3, es2 ++ addC (hasN U) r.x.n (sockK r.x q) = es3 := ⟨_, rfl⟩
        have HT2 : Hid (es2 ++ addC (hasN U) r.x.n (sockK r.x (q + 1)) = es3 ++ addC (hasN U) r.x.n ([2, 8].map (fun r : Int => (et, r)))) := by show _ = _; rw [HT.out, addC_app, ← List.append_assoc, hes3]
        rw [hes3] at hK hlen
        have e0 := hK.out.cell HN0.out
        have hadd := hK.out.add et [2, 8] #[.int .i64 2, .int .i64 8] 2 rfl rfl (by decide) hlen
        clear hes3 HT
        go_wp2_with fail
        refine hadd.mono ?_
        rintro e w5 ⟨rfl, E5, h5⟩
        have H5 : Hid (Wk w w5 g UA n uc E E5 (es2 ++ addC (hasN U) r.x.n (sockK r.x (q + 1))) U b r) := by show Wk _ _ _ _ _ _ _ _ _ _ _ _; rw [HT2.out]; exact h5
        clear h5 hadd e0 hK
        go_wp2_with fail
        go_roundw
        case rel => exact ⟨q + 1, E5, by omega, by go_num, H5⟩
        case measure => simp [intOf]; omega
      · obtain rfl : q = r.x.socks.length := by omega
        have HKS : Hid (Wk w wr g UA n uc E E' (es2 ++ addC (hasN U) r.x.n (kindP' k r.x)) U b r) := by
          have := hK.out
          unfold sockK at this
          rw [List.take_of_length_le (Nat.le_refl _)] at this
          show Wk _ _ _ _ _ _ _ _ _ _ _ _
          rw [HKP.out]
          exact this
        have hls : (es2 ++ addC (hasN U) r.x.n (kindP' k r.x)).length ≤ 274877906944 := by
          have h1 := addC_len (hasN U) r.x.n (sockK r.x r.x.socks.length)
          have h2 := sockK_len r.x r.x.socks.length
          rw [HKP.out]
          unfold sockK at h1 h2
          rw [List.take_of_length_le (Nat.le_refl _)] at h1 h2
          rw [List.length_append]
          omega
        clear hK hlt
        obtain ⟨es4, hes4⟩ : ∃ es4, es2 ++ addC (hasN U) r.x.n (kindP' k r.x) = es4 := ⟨_, rfl⟩
        rw [hes4] at HKS hls
        have HE4 := Lib.hid hes4
        clear hes4
        have c8 := HKS.out.cell HC8.out
        have HLB2 := Lib.hid (load_box r HKS.out.bx.blk)
        cases hd : r.x.dflt with
        | false =>
          rw [hd] at c8
          have HFN : Hid (es ++ weaveP (U.map (·.x)) kT r.x = es4) := by
            show _ = _
            rw [HP.out, HKK.out]
            unfold sayP
            rw [hd, if_neg (by simp), List.append_nil, addC_app, ← List.append_assoc, HE2.out, HE4.out]
          clear hd
          go_wp2_with fail
          refine bodyPost_ret (results_none rfl _ _ _) rfl ?_
          rw [HFN.out]
          exact HKS.out.back
        | true =>
          rw [hd] at c8
          have HFN : Hid (es ++ weaveP (U.map (·.x)) kT r.x = es4 ++ addC (hasN U) r.x.n (dfltP (U.map (·.x)) (kT r.x.n) r.x)) := by
            show _ = _
            rw [HP.out]
            unfold sayP
            rw [hd, if_pos rfl, addC_app, addC_app, ← List.append_assoc, ← List.append_assoc, HE2.out, HKK.out, HE4.out]
          have hdf := addDefault_any g UA n uc _ es4 U r _ HKS.out.wb HKS.out.us ⟨HM.out.is.below (HKS.out.belowg HW.out), HM.out.small⟩ hls
          clear hd
          go_wp2_with (refine wpList_load_part rfl 53 (.tmp 3) (by rfl) ⟨b, 0, none⟩ (by rfl) (.agg r.a) HLB2.out ?_)
          refine hdf.mono ?_
          intro e w7 hp7
          obtain ⟨rfl, E7, h7⟩ := HKS.out.post hp7
          have H7 := Lib.hid h7.back
          clear hp7 h7 hdf
          go_wp2_with fail
          refine bodyPost_ret (results_none rfl _ _ _) rfl ?_
          rw [HFN.out]
          exact H7.out
  · have k1 : (k == 1) = false := by simpa using h1
    by_cases h23 : k = 2 ∨ k = 3
    · have HKP : Hid (kindP' k r.x = [10, 7].map (fun q : Int => (r.x.wk, q))) := kindP_two h23
      have hls : (es2 ++ addC (hasN U) r.x.n (kindP' k r.x)).length ≤ 274877906944 := by
        have h1 := addC_len (hasN U) r.x.n (kindP' k r.x)
        rw [kindP_two h23] at h1 ⊢
        rw [List.length_append]
        simp only [List.length_map, List.length_cons, List.length_nil] at h1
        omega
      obtain ⟨ut, hui, huw⟩ := ld_uis HM.out.is
      have HUI := Lib.hid hui
      have HUW := Lib.hid huw
      have hul := HM.out.small.un
      have hl5 : es2.length ≤ 549755813888 := by omega
      clear hui huw
      have key : ∀ (hk2 : (k == 2) = true ∨ ((k == 2) = false ∧ (k == 3) = true)), True := fun _ => trivial
      rcases h23 with h2 | h3
      · have k2 : (k == 2) = true := by simpa using h2
        clear h1 h2 key
        go_wp2_with fail
        refine wp_region_Z (S := fun W => Wk w W g UA n uc E E2 es2 U b r) (z := 7) (by kernel_rfl) ?_ (fun hHeld => ?_)
        · exact HK3.out.below (Below.refl _ _).drew
        refine wpAnyZ_take (i := 0) (v := ?vz0_1) (by kernel_rfl) rfl (by kernel_rfl) (by kernel_rfl) (by kernel_rfl) (fun _ _ _ h => h) (Or.inl ⟨by rfl, ?hz0_1⟩) (by assumption) ?_
        case hz0_1 => (intro W hSw; (try dsimp only at hSw); go_simp; (try with_reducible rfl))
        try simp only [Act.put, List.getElem_toArray, List.getElem_cons_zero, List.setIfInBounds_toArray, List.set_cons_zero, List.set_cons_succ]
        refine wpAnyZ_take (i := 1) (v := ?vz1_1) (by kernel_rfl) rfl (by kernel_rfl) (by kernel_rfl) (by kernel_rfl) (fun _ _ _ h => h) (Or.inl ⟨by rfl, ?hz1_1⟩) (by assumption) ?_
        case hz1_1 => (intro W hSw; (try dsimp only at hSw); go_simp; (try with_reducible rfl))
        try simp only [Act.put, List.getElem_toArray, List.getElem_cons_zero, List.getElem_cons_succ, List.setIfInBounds_toArray, List.set_cons_zero, List.set_cons_succ]
        refine wpAnyZ_take (i := 2) (v := ?vz2_1) (by kernel_rfl) rfl (by kernel_rfl) (by kernel_rfl) (by kernel_rfl) (fun _ _ _ h => h) (Or.inl ⟨by rfl, ?hz2_1⟩) (by assumption) ?_
        case hz2_1 => (intro W hSw; have p0 := Wk.cell hSw HN0.out; (try dsimp only at hSw); go_simp; (try with_reducible rfl))
        try simp only [Act.put, List.getElem_toArray, List.getElem_cons_zero, List.getElem_cons_succ, List.setIfInBounds_toArray, List.set_cons_zero, List.set_cons_succ]
        refine wpAnyZ_takeF (i := 3) (v := ?vz3_1) (by kernel_rfl) rfl (by kernel_rfl) (by kernel_rfl) (by kernel_rfl) (fun _ _ _ h => h) (Or.inl ⟨by rfl, ?hz3_1⟩) (by assumption) ?_
        case hz3_1 => (intro W hSw; (try dsimp only at hSw); go_simp; (try with_reducible rfl))
        try simp only [Act.put, List.getElem_toArray, List.getElem_cons_zero, List.getElem_cons_succ, List.setIfInBounds_toArray, List.set_cons_zero, List.set_cons_succ]
        refine wpAnyZ_take (i := 4) (v := .agg r.u) (by kernel_rfl) rfl (by kernel_rfl) (by kernel_rfl) (by kernel_rfl) (fun _ _ _ h => h) (Or.inl ⟨by rfl, ?hz4_1⟩) (by assumption) ?_
        case hz4_1 => (intro W hSw; exact exec_load (by rfl) ⟨b, 5, none⟩ (by rfl) _ W (load_u (w := W) (b := b) r (fun k v hv => Wk.cell hSw hv)))
        try simp only [Act.put, List.getElem_toArray, List.getElem_cons_zero, List.getElem_cons_succ, List.setIfInBounds_toArray, List.set_cons_zero, List.set_cons_succ]
        refine wpAnyZ_two (i := 5) (j := 6) (by kernel_rfl) rfl rfl (fun K hK => ?_) (fun K hK => ?_)
        · go_simp
          refine (wakes_any r.u r.x.un ut r.x.uk HUI.out hul _).mono ?_
          rintro e wa ⟨rfl, hb⟩
          rw [← HUW.out]
          refine hK.out _ _ (.inr ?_) (fun hHeld2 => ?_)
          · exact hHeld.below hb
          clear hK K hHeld hb
          have hHeld := hHeld2.resolve_left (by decide)
          clear hHeld2
          try simp only [Act.put, List.getElem_toArray, List.getElem_cons_zero, List.getElem_cons_succ, List.setIfInBounds_toArray, List.set_cons_zero, List.set_cons_succ]
          refine wpAnyZ_one (i := 6) (by kernel_rfl) rfl (fun K hK => ?_)
          go_simp
          have hbx := hHeld.wb.bx 3 #[.int .i64 10, .int .i64 7]
          refine hK.out _ _ (.inr ?_) (fun hHeld2 => ?_)
          · exact hHeld.alloc _
          clear hK K hHeld
          have hHeld := hHeld2.resolve_left (by decide)
          clear hHeld2
          try simp only [Act.put, List.getElem_toArray, List.getElem_cons_zero, List.getElem_cons_succ, List.setIfInBounds_toArray, List.set_cons_zero, List.set_cons_succ]
          refine wpAnyZ_one (i := 7) (by kernel_rfl) rfl (fun K hK => ?_)
          go_simp
          refine (hHeld.addB r.x.wk [10, 7] _ hbx 2 rfl rfl (by decide) hl5).mono ?_
          rintro e w5 ⟨rfl, E5, h5⟩
          refine hK.out _ _ (.inl rfl) (fun _ => ?_)
          clear hK K hHeld hbx
          try simp only [Act.put, List.getElem_toArray, List.getElem_cons_zero, List.getElem_cons_succ, List.setIfInBounds_toArray, List.set_cons_zero, List.set_cons_succ]
          refine wpAnyZ_done (by kernel_rfl) ?_ _
          have HKS : Hid (Wk w w5 g UA n uc E E5 (es2 ++ addC (hasN U) r.x.n (kindP' k r.x)) U b r) := by show Wk _ _ _ _ _ _ _ _ _ _ _ _; rw [HKP.out]; exact h5
          clear h5
          obtain ⟨es4, hes4⟩ : ∃ es4, es2 ++ addC (hasN U) r.x.n (kindP' k r.x) = es4 := ⟨_, rfl⟩
          rw [hes4] at HKS hls
          have HE4 := Lib.hid hes4
          clear hes4
          have c8 := HKS.out.cell HC8.out
          have HLB2 := Lib.hid (load_box r HKS.out.bx.blk)
          cases hd : r.x.dflt with
          | false =>
            rw [hd] at c8
            have HFN : Hid (es ++ weaveP (U.map (·.x)) kT r.x = es4) := by
              show _ = _
              rw [HP.out, HKK.out]
              unfold sayP
              rw [hd, if_neg (by simp), List.append_nil, addC_app, ← List.append_assoc, HE2.out, HE4.out]
            clear hd
            go_wp2_with fail
            refine bodyPost_ret (results_none rfl _ _ _) rfl ?_
            rw [HFN.out]
            exact HKS.out.back
          | true =>
            rw [hd] at c8
            have HFN : Hid (es ++ weaveP (U.map (·.x)) kT r.x = es4 ++ addC (hasN U) r.x.n (dfltP (U.map (·.x)) (kT r.x.n) r.x)) := by
              show _ = _
              rw [HP.out]
              unfold sayP
              rw [hd, if_pos rfl, addC_app, addC_app, ← List.append_assoc, ← List.append_assoc, HE2.out, HKK.out, HE4.out]
            have hdf := addDefault_any g UA n uc _ es4 U r _ HKS.out.wb HKS.out.us ⟨HM.out.is.below (HKS.out.belowg HW.out), HM.out.small⟩ hls
            clear hd
            go_wp2_with (refine wpList_load_part rfl 53 (.tmp 3) (by rfl) ⟨b, 0, none⟩ (by rfl) (.agg r.a) HLB2.out ?_)
            refine hdf.mono ?_
            intro e w7 hp7
            obtain ⟨rfl, E7, h7⟩ := HKS.out.post hp7
            have H7 := Lib.hid h7.back
            clear hp7 h7 hdf
            go_wp2_with fail
            refine bodyPost_ret (results_none rfl _ _ _) rfl ?_
            rw [HFN.out]
            exact H7.out
        · go_simp
          have hbx := hHeld.wb.bx 3 #[.int .i64 10, .int .i64 7]
          refine hK.out _ _ (.inr ?_) (fun hHeld2 => ?_)
          · exact hHeld.alloc _
          clear hK K hHeld
          have hHeld := hHeld2.resolve_left (by decide)
          clear hHeld2
          try simp only [Act.put, List.getElem_toArray, List.getElem_cons_zero, List.getElem_cons_succ, List.setIfInBounds_toArray, List.set_cons_zero, List.set_cons_succ]
          refine wpAnyZ_one (i := 5) (by kernel_rfl) rfl (fun K hK => ?_)
          go_simp
          refine (wakes_any r.u r.x.un ut r.x.uk HUI.out hul _).mono ?_
          rintro e wa ⟨rfl, hb⟩
          rw [← HUW.out]
          have hbx := hbx.below hb
          refine hK.out _ _ (.inr ?_) (fun hHeld2 => ?_)
          · exact hHeld.below hb
          clear hK K hHeld hb
          have hHeld := hHeld2.resolve_left (by decide)
          clear hHeld2
          try simp only [Act.put, List.getElem_toArray, List.getElem_cons_zero, List.getElem_cons_succ, List.setIfInBounds_toArray, List.set_cons_zero, List.set_cons_succ]
          refine wpAnyZ_one (i := 7) (by kernel_rfl) rfl (fun K hK => ?_)
          go_simp
          refine (hHeld.addB r.x.wk [10, 7] _ hbx 2 rfl rfl (by decide) hl5).mono ?_
          rintro e w5 ⟨rfl, E5, h5⟩
          refine hK.out _ _ (.inl rfl) (fun _ => ?_)
          clear hK K hHeld hbx
          try simp only [Act.put, List.getElem_toArray, List.getElem_cons_zero, List.getElem_cons_succ, List.setIfInBounds_toArray, List.set_cons_zero, List.set_cons_succ]
          refine wpAnyZ_done (by kernel_rfl) ?_ _
          have HKS : Hid (Wk w w5 g UA n uc E E5 (es2 ++ addC (hasN U) r.x.n (kindP' k r.x)) U b r) := by show Wk _ _ _ _ _ _ _ _ _ _ _ _; rw [HKP.out]; exact h5
          clear h5
          obtain ⟨es4, hes4⟩ : ∃ es4, es2 ++ addC (hasN U) r.x.n (kindP' k r.x) = es4 := ⟨_, rfl⟩
          rw [hes4] at HKS hls
          have HE4 := Lib.hid hes4
          clear hes4
          have c8 := HKS.out.cell HC8.out
          have HLB2 := Lib.hid (load_box r HKS.out.bx.blk)
          cases hd : r.x.dflt with
          | false =>
            rw [hd] at c8
            have HFN : Hid (es ++ weaveP (U.map (·.x)) kT r.x = es4) := by
              show _ = _
              rw [HP.out, HKK.out]
              unfold sayP
              rw [hd, if_neg (by simp), List.append_nil, addC_app, ← List.append_assoc, HE2.out, HE4.out]
            clear hd
            go_wp2_with fail
            refine bodyPost_ret (results_none rfl _ _ _) rfl ?_
            rw [HFN.out]
            exact HKS.out.back
          | true =>
            rw [hd] at c8
            have HFN : Hid (es ++ weaveP (U.map (·.x)) kT r.x = es4 ++ addC (hasN U) r.x.n (dfltP (U.map (·.x)) (kT r.x.n) r.x)) := by
              show _ = _
              rw [HP.out]
              unfold sayP
              rw [hd, if_pos rfl, addC_app, addC_app, ← List.append_assoc, ← List.append_assoc, HE2.out, HKK.out, HE4.out]
            have hdf := addDefault_any g UA n uc _ es4 U r _ HKS.out.wb HKS.out.us ⟨HM.out.is.below (HKS.out.belowg HW.out), HM.out.small⟩ hls
            clear hd
            go_wp2_with (refine wpList_load_part rfl 53 (.tmp 3) (by rfl) ⟨b, 0, none⟩ (by rfl) (.agg r.a) HLB2.out ?_)
            refine hdf.mono ?_
            intro e w7 hp7
            obtain ⟨rfl, E7, h7⟩ := HKS.out.post hp7
            have H7 := Lib.hid h7.back
            clear hp7 h7 hdf
            go_wp2_with fail
            refine bodyPost_ret (results_none rfl _ _ _) rfl ?_
            rw [HFN.out]
            exact H7.out
      · have k2 : (k == 2) = false := by simp; omega
        have k3 : (k == 3) = true := by simpa using h3
        clear h1 h3 key
        go_wp2_with fail
        refine wp_region_Z (S := fun W => Wk w W g UA n uc E E2 es2 U b r) (z := 7) (by kernel_rfl) ?_ (fun hHeld => ?_)
        · exact HK3.out.below (Below.refl _ _).drew
        refine wpAnyZ_take (i := 0) (v := ?vz0_1) (by kernel_rfl) rfl (by kernel_rfl) (by kernel_rfl) (by kernel_rfl) (fun _ _ _ h => h) (Or.inl ⟨by rfl, ?hz0_1⟩) (by assumption) ?_
        case hz0_1 => (intro W hSw; (try dsimp only at hSw); go_simp; (try with_reducible rfl))
        try simp only [Act.put, List.getElem_toArray, List.getElem_cons_zero, List.setIfInBounds_toArray, List.set_cons_zero, List.set_cons_succ]
        refine wpAnyZ_take (i := 1) (v := ?vz1_1) (by kernel_rfl) rfl (by kernel_rfl) (by kernel_rfl) (by kernel_rfl) (fun _ _ _ h => h) (Or.inl ⟨by rfl, ?hz1_1⟩) (by assumption) ?_
        case hz1_1 => (intro W hSw; (try dsimp only at hSw); go_simp; (try with_reducible rfl))
        try simp only [Act.put, List.getElem_toArray, List.getElem_cons_zero, List.getElem_cons_succ, List.setIfInBounds_toArray, List.set_cons_zero, List.set_cons_succ]
        refine wpAnyZ_take (i := 2) (v := ?vz2_1) (by kernel_rfl) rfl (by kernel_rfl) (by kernel_rfl) (by kernel_rfl) (fun _ _ _ h => h) (Or.inl ⟨by rfl, ?hz2_1⟩) (by assumption) ?_
        case hz2_1 => (intro W hSw; have p0 := Wk.cell hSw HN0.out; (try dsimp only at hSw); go_simp; (try with_reducible rfl))
        try simp only [Act.put, List.getElem_toArray, List.getElem_cons_zero, List.getElem_cons_succ, List.setIfInBounds_toArray, List.set_cons_zero, List.set_cons_succ]
        refine wpAnyZ_takeF (i := 3) (v := ?vz3_1) (by kernel_rfl) rfl (by kernel_rfl) (by kernel_rfl) (by kernel_rfl) (fun _ _ _ h => h) (Or.inl ⟨by rfl, ?hz3_1⟩) (by assumption) ?_
        case hz3_1 => (intro W hSw; (try dsimp only at hSw); go_simp; (try with_reducible rfl))
        try simp only [Act.put, List.getElem_toArray, List.getElem_cons_zero, List.getElem_cons_succ, List.setIfInBounds_toArray, List.set_cons_zero, List.set_cons_succ]
        refine wpAnyZ_take (i := 4) (v := .agg r.u) (by kernel_rfl) rfl (by kernel_rfl) (by kernel_rfl) (by kernel_rfl) (fun _ _ _ h => h) (Or.inl ⟨by rfl, ?hz4_1⟩) (by assumption) ?_
        case hz4_1 => (intro W hSw; exact exec_load (by rfl) ⟨b, 5, none⟩ (by rfl) _ W (load_u (w := W) (b := b) r (fun k v hv => Wk.cell hSw hv)))
        try simp only [Act.put, List.getElem_toArray, List.getElem_cons_zero, List.getElem_cons_succ, List.setIfInBounds_toArray, List.set_cons_zero, List.set_cons_succ]
        refine wpAnyZ_two (i := 5) (j := 6) (by kernel_rfl) rfl rfl (fun K hK => ?_) (fun K hK => ?_)
        · go_simp
          refine (wakes_any r.u r.x.un ut r.x.uk HUI.out hul _).mono ?_
          rintro e wa ⟨rfl, hb⟩
          rw [← HUW.out]
          refine hK.out _ _ (.inr ?_) (fun hHeld2 => ?_)
          · exact hHeld.below hb
          clear hK K hHeld hb
          have hHeld := hHeld2.resolve_left (by decide)
          clear hHeld2
          try simp only [Act.put, List.getElem_toArray, List.getElem_cons_zero, List.getElem_cons_succ, List.setIfInBounds_toArray, List.set_cons_zero, List.set_cons_succ]
          refine wpAnyZ_one (i := 6) (by kernel_rfl) rfl (fun K hK => ?_)
          go_simp
          have hbx := hHeld.wb.bx 3 #[.int .i64 10, .int .i64 7]
          refine hK.out _ _ (.inr ?_) (fun hHeld2 => ?_)
          · exact hHeld.alloc _
          clear hK K hHeld
          have hHeld := hHeld2.resolve_left (by decide)
          clear hHeld2
          try simp only [Act.put, List.getElem_toArray, List.getElem_cons_zero, List.getElem_cons_succ, List.setIfInBounds_toArray, List.set_cons_zero, List.set_cons_succ]
          refine wpAnyZ_one (i := 7) (by kernel_rfl) rfl (fun K hK => ?_)
          go_simp
          refine (hHeld.addB r.x.wk [10, 7] _ hbx 2 rfl rfl (by decide) hl5).mono ?_
          rintro e w5 ⟨rfl, E5, h5⟩
          refine hK.out _ _ (.inl rfl) (fun _ => ?_)
          clear hK K hHeld hbx
          try simp only [Act.put, List.getElem_toArray, List.getElem_cons_zero, List.getElem_cons_succ, List.setIfInBounds_toArray, List.set_cons_zero, List.set_cons_succ]
          refine wpAnyZ_done (by kernel_rfl) ?_ _
          have HKS : Hid (Wk w w5 g UA n uc E E5 (es2 ++ addC (hasN U) r.x.n (kindP' k r.x)) U b r) := by show Wk _ _ _ _ _ _ _ _ _ _ _ _; rw [HKP.out]; exact h5
          clear h5
          obtain ⟨es4, hes4⟩ : ∃ es4, es2 ++ addC (hasN U) r.x.n (kindP' k r.x) = es4 := ⟨_, rfl⟩
          rw [hes4] at HKS hls
          have HE4 := Lib.hid hes4
          clear hes4
          have c8 := HKS.out.cell HC8.out
          have HLB2 := Lib.hid (load_box r HKS.out.bx.blk)
          cases hd : r.x.dflt with
          | false =>
            rw [hd] at c8
            have HFN : Hid (es ++ weaveP (U.map (·.x)) kT r.x = es4) := by
              show _ = _
              rw [HP.out, HKK.out]
              unfold sayP
              rw [hd, if_neg (by simp), List.append_nil, addC_app, ← List.append_assoc, HE2.out, HE4.out]
            clear hd
            go_wp2_with fail
            refine bodyPost_ret (results_none rfl _ _ _) rfl ?_
            rw [HFN.out]
            exact HKS.out.back
          | true =>
            rw [hd] at c8
            have HFN : Hid (es ++ weaveP (U.map (·.x)) kT r.x = es4 ++ addC (hasN U) r.x.n (dfltP (U.map (·.x)) (kT r.x.n) r.x)) := by
              show _ = _
              rw [HP.out]
              unfold sayP
              rw [hd, if_pos rfl, addC_app, addC_app, ← List.append_assoc, ← List.append_assoc, HE2.out, HKK.out, HE4.out]
            have hdf := addDefault_any g UA n uc _ es4 U r _ HKS.out.wb HKS.out.us ⟨HM.out.is.below (HKS.out.belowg HW.out), HM.out.small⟩ hls
            clear hd
            go_wp2_with (refine wpList_load_part rfl 53 (.tmp 3) (by rfl) ⟨b, 0, none⟩ (by rfl) (.agg r.a) HLB2.out ?_)
            refine hdf.mono ?_
            intro e w7 hp7
            obtain ⟨rfl, E7, h7⟩ := HKS.out.post hp7
            have H7 := Lib.hid h7.back
            clear hp7 h7 hdf
            go_wp2_with fail
            refine bodyPost_ret (results_none rfl _ _ _) rfl ?_
            rw [HFN.out]
            exact H7.out
        · go_simp
          have hbx := hHeld.wb.bx 3 #[.int .i64 10, .int .i64 7]
          refine hK.out _ _ (.inr ?_) (fun hHeld2 => ?_)
          · exact hHeld.alloc _
          clear hK K hHeld
          have hHeld := hHeld2.resolve_left (by decide)
          clear hHeld2
          try simp only [Act.put, List.getElem_toArray, List.getElem_cons_zero, List.getElem_cons_succ, List.setIfInBounds_toArray, List.set_cons_zero, List.set_cons_succ]
          refine wpAnyZ_one (i := 5) (by kernel_rfl) rfl (fun K hK => ?_)
          go_simp
          refine (wakes_any r.u r.x.un ut r.x.uk HUI.out hul _).mono ?_
          rintro e wa ⟨rfl, hb⟩
          rw [← HUW.out]
          have hbx := hbx.below hb
          refine hK.out _ _ (.inr ?_) (fun hHeld2 => ?_)
          · exact hHeld.below hb
          clear hK K hHeld hb
          have hHeld := hHeld2.resolve_left (by decide)
          clear hHeld2
          try simp only [Act.put, List.getElem_toArray, List.getElem_cons_zero, List.getElem_cons_succ, List.setIfInBounds_toArray, List.set_cons_zero, List.set_cons_succ]
          refine wpAnyZ_one (i := 7) (by kernel_rfl) rfl (fun K hK => ?_)
          go_simp
          refine (hHeld.addB r.x.wk [10, 7] _ hbx 2 rfl rfl (by decide) hl5).mono ?_
          rintro e w5 ⟨rfl, E5, h5⟩
          refine hK.out _ _ (.inl rfl) (fun _ => ?_)
          clear hK K hHeld hbx
          try simp only [Act.put, List.getElem_toArray, List.getElem_cons_zero, List.getElem_cons_succ, List.setIfInBounds_toArray, List.set_cons_zero, List.set_cons_succ]
          refine wpAnyZ_done (by kernel_rfl) ?_ _
          have HKS : Hid (Wk w w5 g UA n uc E E5 (es2 ++ addC (hasN U) r.x.n (kindP' k r.x)) U b r) := by show Wk _ _ _ _ _ _ _ _ _ _ _ _; rw [HKP.out]; exact h5
          clear h5
          obtain ⟨es4, hes4⟩ : ∃ es4, es2 ++ addC (hasN U) r.x.n (kindP' k r.x) = es4 := ⟨_, rfl⟩
          rw [hes4] at HKS hls
          have HE4 := Lib.hid hes4
          clear hes4
          have c8 := HKS.out.cell HC8.out
          have HLB2 := Lib.hid (load_box r HKS.out.bx.blk)
          cases hd : r.x.dflt with
          | false =>
            rw [hd] at c8
            have HFN : Hid (es ++ weaveP (U.map (·.x)) kT r.x = es4) := by
              show _ = _
              rw [HP.out, HKK.out]
              unfold sayP
              rw [hd, if_neg (by simp), List.append_nil, addC_app, ← List.append_assoc, HE2.out, HE4.out]
            clear hd
            go_wp2_with fail
            refine bodyPost_ret (results_none rfl _ _ _) rfl ?_
            rw [HFN.out]
            exact HKS.out.back
          | true =>
            rw [hd] at c8
            have HFN : Hid (es ++ weaveP (U.map (·.x)) kT r.x = es4 ++ addC (hasN U) r.x.n (dfltP (U.map (·.x)) (kT r.x.n) r.x)) := by
              show _ = _
              rw [HP.out]
              unfold sayP
              rw [hd, if_pos rfl, addC_app, addC_app, ← List.append_assoc, ← List.append_assoc, HE2.out, HKK.out, HE4.out]
            have hdf := addDefault_any g UA n uc _ es4 U r _ HKS.out.wb HKS.out.us ⟨HM.out.is.below (HKS.out.belowg HW.out), HM.out.small⟩ hls
            clear hd
            go_wp2_with (refine wpList_load_part rfl 53 (.tmp 3) (by rfl) ⟨b, 0, none⟩ (by rfl) (.agg r.a) HLB2.out ?_)
            refine hdf.mono ?_
            intro e w7 hp7
            obtain ⟨rfl, E7, h7⟩ := HKS.out.post hp7
            have H7 := Lib.hid h7.back
            clear hp7 h7 hdf
            go_wp2_with fail
            refine bodyPost_ret (results_none rfl _ _ _) rfl ?_
            rw [HFN.out]
            exact H7.out
    · have k2 : (k == 2) = false := by simp; omega
      have k3 : (k == 3) = false := by simp; omega
      have HKS : Hid (Wk w w3 g UA n uc E E2 (es2 ++ addC (hasN U) r.x.n (kindP' k r.x)) U b r) := by
        show Wk _ _ _ _ _ _ _ _ _ _ _ _
        rw [kindP_no h1 (by omega) (by omega), addC_nil, List.append_nil]
        exact HK3.out
      have hls : (es2 ++ addC (hasN U) r.x.n (kindP' k r.x)).length ≤ 274877906944 := by
        rw [kindP_no h1 (by omega) (by omega), addC_nil, List.append_nil]
        omega
      clear h1 h23 HK3
      obtain ⟨es4, hes4⟩ : ∃ es4, es2 ++ addC (hasN U) r.x.n (kindP' k r.x) = es4 := ⟨_, rfl⟩
      rw [hes4] at HKS hls
      have HE4 := Lib.hid hes4
      clear hes4
      have c8 := HKS.out.cell HC8.out
      have HLB2 := Lib.hid (load_box r HKS.out.bx.blk)
      cases hd : r.x.dflt with
      | false =>
        rw [hd] at c8
        have HFN : Hid (es ++ weaveP (U.map (·.x)) kT r.x = es4) := by
          show _ = _
          rw [HP.out, HKK.out]
          unfold sayP
          rw [hd, if_neg (by simp), List.append_nil, addC_app, ← List.append_assoc, HE2.out, HE4.out]
        clear hd
        go_wp2_with fail
        refine bodyPost_ret (results_none rfl _ _ _) rfl ?_
        rw [HFN.out]
        exact HKS.out.back
      | true =>
        rw [hd] at c8
        have HFN : Hid (es ++ weaveP (U.map (·.x)) kT r.x = es4 ++ addC (hasN U) r.x.n (dfltP (U.map (·.x)) (kT r.x.n) r.x)) := by
          show _ = _
          rw [HP.out]
          unfold sayP
          rw [hd, if_pos rfl, addC_app, addC_app, ← List.append_assoc, ← List.append_assoc, HE2.out, HKK.out, HE4.out]
        have hdf := addDefault_any g UA n uc _ es4 U r _ HKS.out.wb HKS.out.us ⟨HM.out.is.below (HKS.out.belowg HW.out), HM.out.small⟩ hls
        clear hd
        go_wp2_with (refine wpList_load_part rfl 53 (.tmp 3) (by rfl) ⟨b, 0, none⟩ (by rfl) (.agg r.a) HLB2.out ?_)
        refine hdf.mono ?_
        intro e w7 hp7
        obtain ⟨rfl, E7, h7⟩ := HKS.out.post hp7
        have H7 := Lib.hid h7.back
        clear hp7 h7 hdf
        go_wp2_with fail
        refine bodyPost_ret (results_none rfl _ _ _) rfl ?_
        rw [HFN.out]
        exact H7.out
end Go.Proofs.YtcoepioahabbdaaGreat
