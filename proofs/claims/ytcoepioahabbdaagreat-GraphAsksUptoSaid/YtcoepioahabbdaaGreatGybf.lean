/- The walks of Wakes and addNamed. -/
import Derived.Test.YtcoepioahabbdaaGreatGybe
import Derived.Test.YtcoepioahabbdaaGreatGyal
namespace Go.Proofs.YtcoepioahabbdaaGreat
open Go.RowKit
set_option maxHeartbeats 4000000 in
theorem wakes_any (u : Array Value) (un ut : Tx) (uk : Int) (h : UIs u un ut uk) (hs : un.length ≤ maxLen) (w : World) :
    Calls Tryz.prog 26 #[.agg u] w fun e w' => e = .returned (.string (str (wakeT uk ut un))) ∧ Below w.heap.size w w' := by
  have HB : Hid (Below w.heap.size w (w.alloc (.cells u 51))) := (Below.refl _ w).alloc (Nat.le_refl _) _
  have c0 : (w.alloc (.cells u 51)).cell? ⟨w.heap.size, 0, none⟩ = some (.string (str un)) := box_cell (Blk.new w _ u) h.n
  have c1 : (w.alloc (.cells u 51)).cell? ⟨w.heap.size, 1, none⟩ = some (.int .i64 uk) := box_cell (Blk.new w _ u) h.k
  have c2 : (w.alloc (.cells u 51)).cell? ⟨w.heap.size, 24, none⟩ = some (.string (str ut)) := box_cell (Blk.new w _ u) h.t
  have hl : (str un).size ≤ maxLen := by rw [str_size]; exact hs
  clear h
  have key : uk = 2 ∨ uk = 3 → Calls Tryz.prog 26 #[.agg u] w fun e w' => e = .returned (.string (str (wakeT uk ut un))) ∧ Below w.heap.size w w' := fun hk => by
    by_cases ht : ut = []
    · subst ht
      have HW : Hid (str (wakeT uk [] un) = Nm.chgS (str un) 1) := by
        show _ = _
        unfold wakeT
        rw [if_pos hk, if_pos rfl]
        exact str_data _
      have hq : (str []).toList.isEmpty = true := by rw [Lib.toList_data, str_list]; rfl
      rcases hk with rfl | rfl
      all_goals
        go_enter Tryz.func26, Tryz.ntmps26
        go_wp2_with fail
        refine (Nm.Change_any _ 1 hl _).mono ?_
        rintro e w1 ⟨rfl, hb1⟩
        have HB1 := Lib.hid (more3 HB.out HB.out.size hb1)
        clear hb1
        go_wp2_with fail
        go_ret
        exact ⟨(congrArg (fun x => Ending.returned (.string x)) HW.out).symm, HB1.out⟩
    · have hq : (str ut).toList.isEmpty = false := by
        rw [Lib.toList_data, str_list]
        cases ut with
        | nil => exact absurd rfl ht
        | cons _ _ => rfl
      have HW : Hid (wakeT uk ut un = ut) := by
        show _ = _
        unfold wakeT
        rw [if_pos hk, if_neg ht]
      clear ht
      rcases hk with rfl | rfl
      all_goals
        go_enter Tryz.func26, Tryz.ntmps26
        go_wp2_with fail
        go_ret
        exact ⟨ret_tx HW.out.symm, HB.out⟩
  by_cases h2 : uk = 2
  · exact key (.inl h2)
  · by_cases h3 : uk = 3
    · exact key (.inr h3)
    · have HW : Hid (wakeT uk ut un = []) := by
        show _ = _
        unfold wakeT
        rw [if_neg (by simp [h2, h3])]
      have d2 : (uk != 2) = true := by simpa using h2
      have d3 : (uk != 3) = true := by simpa using h3
      clear key h2 h3
      go_enter Tryz.func26, Tryz.ntmps26
      go_wp2_with fail
      go_ret
      exact ⟨ret_tx HW.out.symm, HB.out⟩
structure Wk (w0 W : World) (g : Nat) (UA : Option Addr) (n uc : Nat) (E0 E : Value) (es : List Ed) (U : List LdR) (b : Nat) (r : LdR) : Prop where
  wb : Wb W g UA n uc E es
  us : Us W g UA n U
  bx : Bx W g E b 53 r.a
  fr : FrE g w0 E0 W E
section
variable {w0 W W' : World} {g : Nat} {UA : Option Addr} {n uc : Nat} {E0 E : Value} {es : List Ed} {U : List LdR} {b : Nat} {r : LdR}
theorem Wk.below (h : Wk w0 W g UA n uc E0 E es U b r) (hb : Below W.heap.size W W') : Wk w0 W' g UA n uc E0 E es U b r :=
  ⟨h.wb.below hb, h.us.below hb (Nat.le_of_lt h.wb.lt), h.bx.below hb, h.fr.trans (.of_below E hb)⟩
theorem Wk.alloc (h : Wk w0 W g UA n uc E0 E es U b r) (o : Obj) : Wk w0 (W.alloc o) g UA n uc E0 E es U b r := h.below ((Below.refl _ W).alloc (Nat.le_refl _) o)
theorem Wk.post {es' : List Ed} {e : Ending} (h : Wk w0 W g UA n uc E0 E es U b r) (hp : WbPost g UA n uc E es' W e W') : e = .returned (.tuple #[]) ∧ ∃ E', Wk w0 W' g UA n uc E0 E' es' U b r := by
  obtain ⟨he, E', h1, h2⟩ := hp
  exact ⟨he, E', h1, h.us.fr h.wb h2, h.bx.fr h2, h.fr.trans h2⟩
theorem Wk.cell (h : Wk w0 W g UA n uc E0 E es U b r) {k : Nat} {v : Value} (hv : r.a[k]? = some v) : W.cell? ⟨b, k, none⟩ = some v := box_cell h.bx.blk hv
theorem Wk.add (h : Wk w0 W g UA n uc E0 E es U b r) (t : Tx) (rs : List Int) (cs : Array Value) (k : Nat) (hcs : cs = intsV rs) (hk : rs.length = k) (hr : k ≤ 8) (hl : es.length ≤ 549755813888) :
    Calls Tryz.prog 49 #[.pointer (some ⟨g, 0, none⟩), .string (str r.x.n), .string (str t), .slice (some ⟨W.heap.size, 0, none⟩) k k] (W.alloc (.cells cs 3)) fun e w' => e = .returned (.tuple #[]) ∧ ∃ E', Wk w0 w' g UA n uc E0 E' (es ++ addC (hasN U) r.x.n (rs.map (fun r => (t, r)))) U b r := by
  subst hcs hk
  have h2 := h.alloc (.cells (intsV rs) 3)
  exact (add_any g UA n uc E es U r.x.n t rs W.heap.size _ h2.wb h2.us (h.wb.bx _ _) hr hl).mono fun e w' hp => h2.post hp
theorem Wk.addF (h : Wk w0 W g UA n uc E0 E es U b r) (t : Tx) (rs : List Int) (cs : Array Value) (k : Nat) (hcs : cs = intsV rs) (hk : rs.length = k) (hr : k ≤ 8) (hl : es.length ≤ 549755813888) :
    Calls Tryz.prog 49 #[.pointer (some ⟨g, 0, none⟩), .string (str r.x.n), .string (str t), .slice (some ⟨W.heap.size, 0, none⟩) k k] (W.alloc (.cells cs 3)) fun e w' => e = .returned (.tuple #[]) ∧ ∃ E', Wk w0 w' g UA n uc E0 E' (es ++ addC (hasN U) r.x.n (rs.map (fun r => (t, r)))) U b r ∧ FrE g W E w' E' := by
  subst hcs hk
  have h2 := h.alloc (.cells (intsV rs) 3)
  refine (add_any g UA n uc E es U r.x.n t rs W.heap.size _ h2.wb h2.us (h.wb.bx _ _) hr hl).mono fun e w' hp => ?_
  obtain ⟨he, E', h3, h4⟩ := hp
  exact ⟨he, E', ⟨h3, h2.us.fr h2.wb h4, h2.bx.fr h4, h2.fr.trans h4⟩, (FrE.of_below E ((Below.refl _ W).alloc (Nat.le_refl _) _)).trans h4⟩
theorem Wk.back (h : Wk w0 W g UA n uc E0 E es U b r) : WbPost g UA n uc E0 es w0 (.returned (.tuple #[])) W := ⟨rfl, E, h.wb, h.fr⟩
end
structure MineP (w : World) (g : Nat) (r : LdR) : Prop where
  is : LdIs w g r
  small : Small r.x
theorem wk_start {w : World} {g : Nat} {UA : Option Addr} {n uc : Nat} {E : Value} {es : List Ed} {U : List LdR} (hw : Wb w g UA n uc E es) (hu : Us w g UA n U) (r : LdR) : Wk w (w.alloc (.cells r.a 53)) g UA n uc E E es U w.heap.size r :=
  have hb : Below w.heap.size w (w.alloc (.cells r.a 53)) := (Below.refl _ w).alloc (Nat.le_refl _) _
  ⟨hw.below hb, hu.below hb (Nat.le_of_lt hw.lt), hw.bx _ _, .of_below E hb⟩
theorem Wk.belowg {w0 W : World} {g : Nat} {UA : Option Addr} {n uc : Nat} {E0 E : Value} {es es0 : List Ed} {U : List LdR} {b : Nat} {r : LdR} (h : Wk w0 W g UA n uc E0 E es U b r) (hw : Wb w0 g UA n uc E0 es0) : Below g w0 W := hw.fr h.fr
set_option maxRecDepth 10000 in
set_option maxHeartbeats 16000000 in
theorem addNamed_any (g : Nat) (UA : Option Addr) (n uc : Nat) (E : Value) (es : List Ed) (U : List LdR) (r : LdR) (w : World) (hw : Wb w g UA n uc E es) (hU : Us w g UA n U) (hM : MineP w g r) (hl : es.length ≤ 274877906944) :
    Calls Tryz.prog 47 #[.pointer (some ⟨g, 0, none⟩), .agg r.a] w (WbPost g UA n uc E (es ++ addC (hasN U) r.x.n (namedP r.x)) w) := by
  have HW := Lib.hid hw
  have HK0 := Lib.hid (wk_start hw hU r)
  have HS := Lib.hid hM.small
  obtain ⟨WA, wc, hw1, hw2, hw3, hw4⟩ := hM.is.wants
  obtain ⟨QA, qc, hr1, hr2, hr3, hr4⟩ := hM.is.reqs
  obtain ⟨RA, rc, hl1, hl2, hl3, hl4⟩ := hM.is.rels
  have HW4 := Lib.hid hw4
  have HQ4 := Lib.hid hr4
  have HR4 := Lib.hid hl4
  have HN0 := Lib.hid hM.is.name
  have HC9 := Lib.hid hl1
  have HC40 := Lib.hid hw1
  have HC41 := Lib.hid hr1
  have hrows := hM.small.rows
  have c9 : (w.alloc (.cells r.a 53)).cell? ⟨w.heap.size, 9, none⟩ = some (.slice RA r.x.rels.length rc) := HK0.out.cell hl1
  clear hw hU hM hw1 hw3 hw4 hr1 hr3 hr4 hl1 hl3 hl4
  go_enter Tryz.func47, Tryz.ntmps47
  go_wp2_with fail
  obtain ⟨b, hb⟩ : ∃ b, w.heap.size = b := ⟨_, rfl⟩
  rw [hb] at HK0
  rw [hb]
  go_loopw [14] (fun i wr => ∃ (k : Nat) (E' : Value), k ≤ r.x.rels.length ∧ i = .int .i64 k ∧ Hid (Wk w wr g UA n uc E E' (es ++ addC (hasN U) r.x.n (relsK r.x k)) U b r)) (fun i wr => r.x.rels.length - (intOf i).toNat)
  case atStart => exact ⟨0, E, Nat.zero_le _, rfl, by show Wk _ _ _ _ _ _ _ _ _ _ _ _; rw [show relsK r.x 0 = [] from rfl, addC_nil, List.append_nil]; exact HK0.out⟩
  case round =>
    clear HK0 c9
    obtain ⟨k, E', hk, rfl, hK⟩ := hrel
    by_cases hlt : k < r.x.rels.length
    · have b0 : (0 : Int) ≤ (k : Int) := by omega
      have b1 : (k : Int) < (r.x.rels.length : Int) := by omega
      obtain ⟨ad, e, rfl, hab, hx, q0, q1⟩ := rls_at (HR4.out.below (hK.out.belowg HW.out)) hlt
      have HT := Lib.hid (relsK_succ hx)
      obtain ⟨ek, et⟩ := e
      have hlen : (es ++ addC (hasN U) r.x.n (relsK r.x k)).length ≤ 549755813888 := by
        have h1 := addC_len (hasN U) r.x.n (relsK r.x k)
        have h2 : (relsK r.x k).length ≤ r.x.rels.length := by
          unfold relsK
          rw [List.length_map]
          exact Nat.le_trans (List.length_filter_le _ _) (List.take_sublist _ _).length_le
        rw [List.length_append]
        omega
      clear hx
      obtain ⟨es1, hes1⟩ : ∃ es1, es ++ addC (hasN U) r.x.n (relsK r.x k) = es1 := ⟨_, rfl⟩
      have HT2 : Hid (es ++ addC (hasN U) r.x.n (relsK r.x (k + 1)) = es1 ++ addC (hasN U) r.x.n (if 1 ≤ ek ∧ ek ≤ 9 then [(et, ek)] else [])) := by show _ = _; rw [HT.out, addC_app, ← List.append_assoc, hes1]
      rw [hes1] at hK hlen
      have hKa := hK.out.alloc (.cells #[.int .i64 ek, .string (str et)] 56)
      have HKa := Lib.hid hKa
      have e0 := hKa.cell HN0.out
      clear hes1 HT hK
      by_cases h1 : 1 ≤ ek
      · by_cases h9 : ek ≤ 9
        · rw [if_pos ⟨h1, h9⟩] at HT2
          have hadd := HKa.out.add et [ek] #[.int .i64 ek] 1 rfl rfl (by decide) hlen
          rw [show (wr.alloc (.cells #[.int .i64 ek, .string (str et)] 56)).heap.size = wr.heap.size + 1 by simp] at hadd
          go_wp2_with fail
          refine hadd.mono ?_
          rintro e w5 ⟨rfl, E5, h5⟩
          have H5 : Hid (Wk w w5 g UA n uc E E5 (es ++ addC (hasN U) r.x.n (relsK r.x (k + 1))) U b r) := by show Wk _ _ _ _ _ _ _ _ _ _ _ _; rw [HT2.out]; exact h5
          clear h5 hadd e0
          go_wp2_with fail
          go_roundw
          case rel => exact ⟨k + 1, E5, by omega, by go_num, H5⟩
          case measure => simp [intOf]; omega
        · have H5 : Hid (Wk w (wr.alloc (.cells #[.int .i64 ek, .string (str et)] 56)) g UA n uc E E' (es ++ addC (hasN U) r.x.n (relsK r.x (k + 1))) U b r) := by show Wk _ _ _ _ _ _ _ _ _ _ _ _; rw [HT2.out, if_neg (by simp; intro; omega), addC_nil, List.append_nil]; exact HKa.out
          clear HT2
          go_wp2_with fail
          go_roundw
          case rel => exact ⟨k + 1, E', by omega, by go_num, H5⟩
          case measure => simp [intOf]; omega
      · have H5 : Hid (Wk w (wr.alloc (.cells #[.int .i64 ek, .string (str et)] 56)) g UA n uc E E' (es ++ addC (hasN U) r.x.n (relsK r.x (k + 1))) U b r) := by show Wk _ _ _ _ _ _ _ _ _ _ _ _; rw [HT2.out, if_neg (by simp; intro; omega), addC_nil, List.append_nil]; exact HKa.out
        clear HT2
        go_wp2_with fail
        go_roundw
        case rel => exact ⟨k + 1, E', by omega, by go_num, H5⟩
        case measure => simp [intOf]; omega
    · obtain rfl : k = r.x.rels.length := by omega
      rw [relsK_all] at hK
      have hlen1 : (es ++ addC (hasN U) r.x.n (relsC r.x)).length ≤ es.length + r.x.rels.length := by
        have h1 := addC_len (hasN U) r.x.n (relsC r.x)
        have h2 : (relsC r.x).length ≤ r.x.rels.length := by
          unfold relsC
          rw [List.length_map]
          exact List.length_filter_le _ _
        rw [List.length_append]
        omega
      have c40 := hK.out.cell HC40.out
      go_wp2_with fail
      clear c40
      obtain ⟨E1, hE1⟩ : ∃ E1, E1 = E' := ⟨_, rfl⟩
      subst hE1
      obtain ⟨es1, hes1⟩ : ∃ es1, es ++ addC (hasN U) r.x.n (relsC r.x) = es1 := ⟨_, rfl⟩
      rw [hes1] at hK hlen1
      have HE1 := Lib.hid hes1
      clear hes1
      have hK1 := hK
      clear hK
      go_loopw [39] (fun i wr => ∃ (k : Nat) (E' : Value), k ≤ r.x.wants.length ∧ i = .int .i64 k ∧ Hid (Wk w wr g UA n uc E E' (es1 ++ addC (hasN U) r.x.n ((r.x.wants.take k).map (·, 2))) U b r)) (fun i wr => r.x.wants.length - (intOf i).toNat)
      case atStart => exact ⟨0, _, Nat.zero_le _, rfl, by show Wk _ _ _ _ _ _ _ _ _ _ _ _; rw [List.take_zero, List.map_nil, addC_nil, List.append_nil]; exact hK1.out⟩
      case round =>
        clear hK1
        obtain ⟨k, E', hk, rfl, hK⟩ := hrel
        by_cases hlt : k < r.x.wants.length
        · have b0 : (0 : Int) ≤ (k : Int) := by omega
          have b1 : (k : Int) < (r.x.wants.length : Int) := by omega
          obtain ⟨ad, et, rfl, hab, hx, q0⟩ := txs_at (HW4.out.below (hK.out.belowg HW.out)) hlt
          have HT := Lib.hid (map_take_succ hx (fun t : Tx => (t, (2 : Int))))
          have hlen : (es1 ++ addC (hasN U) r.x.n ((r.x.wants.take k).map (·, 2))).length ≤ 549755813888 := by
            have h1 := addC_len (hasN U) r.x.n ((r.x.wants.take k).map (·, 2))
            rw [List.length_map, List.length_take] at h1
            rw [List.length_append]
            omega
          clear hx
          obtain ⟨es2, hes2⟩ : ∃ es2, es1 ++ addC (hasN U) r.x.n ((r.x.wants.take k).map (·, 2)) = es2 := ⟨_, rfl⟩
          have HT2 : Hid (es1 ++ addC (hasN U) r.x.n ((r.x.wants.take (k + 1)).map (·, 2)) = es2 ++ addC (hasN U) r.x.n [(et, 2)]) := by show _ = _; rw [HT.out, addC_app, ← List.append_assoc, hes2]
          rw [hes2] at hK hlen
          have e0 := hK.out.cell HN0.out
          have hadd := hK.out.add et [2] #[.int .i64 2] 1 rfl rfl (by decide) hlen
          clear hes2 HT
          go_wp2_with fail
          refine hadd.mono ?_
          rintro e w5 ⟨rfl, E5, h5⟩
          have H5 : Hid (Wk w w5 g UA n uc E E5 (es1 ++ addC (hasN U) r.x.n ((r.x.wants.take (k + 1)).map (·, 2))) U b r) := by show Wk _ _ _ _ _ _ _ _ _ _ _ _; rw [HT2.out]; exact h5
          clear h5 hadd e0 hK
          go_wp2_with fail
          go_roundw
          case rel => exact ⟨k + 1, E5, by omega, by go_num, H5⟩
          case measure => simp [intOf]; omega
        · obtain rfl : k = r.x.wants.length := by omega
          rw [List.take_of_length_le (Nat.le_refl _)] at hK
          have hlen2 : (es1 ++ addC (hasN U) r.x.n (r.x.wants.map (·, 2))).length ≤ es.length + r.x.rels.length + r.x.wants.length := by
            have h1 := addC_len (hasN U) r.x.n (r.x.wants.map (·, 2))
            rw [List.length_map] at h1
            rw [List.length_append]
            omega
          have c41 := hK.out.cell HC41.out
          go_wp2_with fail
          clear c41
          obtain ⟨es2, hes2⟩ : ∃ es2, es1 ++ addC (hasN U) r.x.n (r.x.wants.map (·, 2)) = es2 := ⟨_, rfl⟩
          rw [hes2] at hK hlen2
          have HE2 := Lib.hid hes2
          have hK1 := hK
          clear hes2 hK
          go_loopw [53] (fun i wr => ∃ (k : Nat) (E' : Value), k ≤ r.x.reqs.length ∧ i = .int .i64 k ∧ Hid (Wk w wr g UA n uc E E' (es2 ++ addC (hasN U) r.x.n ((r.x.reqs.take k).map (·, 1))) U b r)) (fun i wr => r.x.reqs.length - (intOf i).toNat)
          case atStart => exact ⟨0, _, Nat.zero_le _, rfl, by show Wk _ _ _ _ _ _ _ _ _ _ _ _; rw [List.take_zero, List.map_nil, addC_nil, List.append_nil]; exact hK1.out⟩
          case round =>
            clear hK1
            obtain ⟨k, E', hk, rfl, hK⟩ := hrel
            by_cases hlt : k < r.x.reqs.length
            · have b0 : (0 : Int) ≤ (k : Int) := by omega
              have b1 : (k : Int) < (r.x.reqs.length : Int) := by omega
              obtain ⟨ad, et, rfl, hab, hx, q0⟩ := txs_at (HQ4.out.below (hK.out.belowg HW.out)) hlt
              have HT := Lib.hid (map_take_succ hx (fun t : Tx => (t, (1 : Int))))
              have hlen : (es2 ++ addC (hasN U) r.x.n ((r.x.reqs.take k).map (·, 1))).length ≤ 549755813888 := by
                have h1 := addC_len (hasN U) r.x.n ((r.x.reqs.take k).map (·, 1))
                rw [List.length_map, List.length_take] at h1
                rw [List.length_append]
                omega
              clear hx
              obtain ⟨es9, hes9⟩ : ∃ es9, es2 ++ addC (hasN U) r.x.n ((r.x.reqs.take k).map (·, 1)) = es9 := ⟨_, rfl⟩
              have HT2 : Hid (es2 ++ addC (hasN U) r.x.n ((r.x.reqs.take (k + 1)).map (·, 1)) = es9 ++ addC (hasN U) r.x.n [(et, 1)]) := by show _ = _; rw [HT.out, addC_app, ← List.append_assoc, hes9]
              rw [hes9] at hK hlen
              have e0 := hK.out.cell HN0.out
              have hadd := hK.out.add et [1] #[.int .i64 1] 1 rfl rfl (by decide) hlen
              clear hes9 HT
              go_wp2_with fail
              refine hadd.mono ?_
              rintro e w5 ⟨rfl, E5, h5⟩
              have H5 : Hid (Wk w w5 g UA n uc E E5 (es2 ++ addC (hasN U) r.x.n ((r.x.reqs.take (k + 1)).map (·, 1))) U b r) := by show Wk _ _ _ _ _ _ _ _ _ _ _ _; rw [HT2.out]; exact h5
              clear h5 hadd e0 hK
              go_wp2_with fail
              go_roundw
              case rel => exact ⟨k + 1, E5, by omega, by go_num, H5⟩
              case measure => simp [intOf]; omega
            · obtain rfl : k = r.x.reqs.length := by omega
              rw [List.take_of_length_le (Nat.le_refl _)] at hK
              have HF := Lib.hid (hK.out)
              go_wp2_with fail
              refine bodyPost_ret (results_none rfl _ _ _) rfl ?_
              have hfin : es2 ++ addC (hasN U) r.x.n (r.x.reqs.map (·, 1)) = es ++ addC (hasN U) r.x.n (namedP r.x) := by
                unfold namedP
                rw [← HE2.out, ← HE1.out, addC_app, addC_app]
                simp only [List.append_assoc]
                rfl
              rw [← hfin]
              exact HF.out.back
end Go.Proofs.YtcoepioahabbdaaGreat
