/- The document's Same at two calendars that read alike. -/
import Derived.Test.YteflddgcddcejaaGreatDoorCwai
import Derived.BigRegion
import Derived.RegionCalls
import Derived.Deep.RegionHeld3
import Derived.Laws.StructEq
namespace Go.Proofs.YteflddgcddcejaaGreatDoor
open Go.RowKit
theorem part_eqS (a b s : Int) (w : World) : (binOp .neq 35 (.agg #[.int .i64 a, .int .i64 b, .int .i64 s]) (.agg #[.int .i64 a, .int .i64 b, .int .i64 s])).run Tryz.prog w = .ok (.bool false) w := by
  simp [go_sem]
def TwoAt (w : World) (cs cs' : Array Value) (wr : World) : Prop := Blk wr w.heap.size 26 cs ∧ Blk wr (w.heap.size + 1) 26 cs' ∧ Below w.heap.size w wr
theorem cal_seven : (Tryz.prog.info? 26).map (·.size) = some 7 := by kernel_rfl
theorem load_yields {W : World} {g : Nat} {cs : Array Value} (o : Oper) (ev : Operand → Value) (x : Operand) (ho : o.op = .load 26 x) (hx : ev x = .pointer (some ⟨g, 0, none⟩)) (hB : Blk W g 26 cs) (hsz : cs.size = 7) : (execOp ev o).run Tryz.prog W = .ok (.value (.agg cs)) W := by
  unfold execOp
  simp only [ho, hx, Instr.loadAt, Instr.sureAddr, Sem.run_bind, Sem.run_pure, Result.andThen_ok, run_loadVar_row W g 26 26 cs (0, 0) _ hB Tryz.underlying26 rfl (by rw [hsz]; exact cal_seven)]
theorem TwoAt.drew {w wr : World} {cs cs' : Array Value} (h : TwoAt w cs cs' wr) : TwoAt w cs cs' wr.drew := ⟨h.1, h.2.1, h.2.2.drew⟩
theorem TwoAt.call {w wr wr' : World} {cs cs' : Array Value} (h : TwoAt w cs cs' wr) (hb : Below wr.heap.size wr wr') : TwoAt w cs cs' wr' := ⟨h.1.below hb h.1.lt, h.2.1.below hb h.2.1.lt, more3 h.2.2 h.2.2.size hb⟩
set_option maxRecDepth 100000 in
set_option maxHeartbeats 16000000 in
theorem Same_eq (c c' : Ch) (l : Cl) (w : World) (hc : CalAt w w.heap.size c l) (hc' : CalAt w w.heap.size c' l) :
    Calls Tryz.prog 10 #[.agg c.cells, .agg c'.cells] w fun e w' => e = .returned (.bool true) ∧ Below w.heap.size w w' := by
  have HC := Lib.hid hc
  have HC' := Lib.hid hc'
  have HF := Lib.hid (fun f hf W => field_any c f hf W)
  have HF' := Lib.hid (fun f hf W => field_any c' f hf W)
  have hn : c.d.n = l.ds.length := hc.1.1.symm
  have hn' : c'.d.n = l.ds.length := hc'.1.1.symm
  have hlen : l.ds.length ≤ 9223372036854775807 := by have := hc.1.2.1; rw [hn] at this; exact this
  obtain ⟨CS, hCS⟩ : ∃ CS, c.cells = CS := ⟨_, rfl⟩
  obtain ⟨CS', hCS'⟩ : ∃ CS', c'.cells = CS' := ⟨_, rfl⟩
  have HE0 : Hid (CS[0]? = some (.slice c.d.A l.ds.length c.d.c)) := by show _ = _; rw [← hCS, ← hn]; rfl
  have HE0' : Hid (CS'[0]? = some (.slice c'.d.A l.ds.length c'.d.c)) := by show _ = _; rw [← hCS', ← hn']; rfl
  have HSZ : Hid (CS.size = 7) := by show _ = _; rw [← hCS]; rfl
  have HSZ' : Hid (CS'.size = 7) := by show _ = _; rw [← hCS']; rfl
  rw [hCS, hCS']
  rw [hCS] at HF
  rw [hCS'] at HF'
  have HDS : Hid (IntsAt w w.heap.size c.d.A l.ds.length l.ds) := by have := hc.1; rwa [hn] at this
  have HDS' : Hid (IntsAt w w.heap.size c'.d.A l.ds.length l.ds) := by have := hc'.1; rwa [hn'] at this
  clear hc hc' hCS hCS' hn hn'
  generalize c.d.A = dA at *
  generalize c.d.c = dc at *
  generalize c'.d.A = dA' at *
  generalize c'.d.c = dc' at *
  have HW : Hid (TwoAt w CS CS' ((w.alloc (.cells CS 26)).alloc (.cells CS' 26))) := ⟨(Blk.new _ _ _).alloc _, by have := Blk.new (w.alloc (.cells CS 26)) 26 CS'; simpa using this, ((Below.refl _ _).alloc (Nat.le_refl _) _).alloc (by simp) _⟩
  go_enter Tryz.func10, Tryz.ntmps10
  have c0 : ((w.alloc (.cells CS 26)).alloc (.cells CS' 26)).cell? ⟨w.heap.size, 0, none⟩ = some (.slice dA l.ds.length dc) := (HW.out.1.cell 0).trans HE0.out
  have c0' : ((w.alloc (.cells CS 26)).alloc (.cells CS' 26)).cell? ⟨w.heap.size + 1, 0, none⟩ = some (.slice dA' l.ds.length dc') := (HW.out.2.1.cell 0).trans HE0'.out
  go_wp2_with fail
  go_loopw [20] (fun i wr => ∃ k : Nat, k ≤ l.ds.length ∧ i = .int .i64 k ∧ Hid (TwoAt w CS CS' wr)) (fun i wr => l.ds.length - (intOf i).toNat)
  case atStart => exact ⟨0, Nat.zero_le _, rfl, HW⟩
  case round =>
    obtain ⟨k, hk, rfl, hT⟩ := hrel
    have c1 : wr.cell? ⟨w.heap.size, 0, none⟩ = some (.slice dA l.ds.length dc) := (hT.out.1.cell 0).trans HE0.out
    have c1' : wr.cell? ⟨w.heap.size + 1, 0, none⟩ = some (.slice dA' l.ds.length dc') := (hT.out.2.1.cell 0).trans HE0'.out
    by_cases hlt : k < l.ds.length
    · have k0 : (0 : Int) ≤ (k : Int) := by omega
      have k1 : (k : Int) < (l.ds.length : Int) := by omega
      obtain ⟨ad, rfl, _, e1⟩ := (HDS.out.below hT.out.2.2).at_ hlt
      obtain ⟨ad', rfl, _, e1'⟩ := (HDS'.out.below hT.out.2.2).at_ hlt
      obtain ⟨x, hx⟩ : ∃ x, l.ds.getD k 0 = x := ⟨_, rfl⟩
      rw [hx] at e1 e1'
      have q1 : ((x : Int) != x) = false := by simp
      clear hx
      go_wp2_with fail
      go_region
      all_goals
        go_wp2_with fail
        go_roundw
        case rel => exact ⟨k + 1, by omega, by go_num, hT.out.drew⟩
        case measure => simp [intOf]; omega
    · have k1 : ¬ ((k : Int) < (l.ds.length : Int)) := by omega
      clear c1 c1'
      go_wp2_with fail
      go_loopw [6] (fun i wr => ∃ f : Nat, f ≤ 6 ∧ i = .int .i64 f ∧ Hid (TwoAt w CS CS' wr)) (fun i wr => 6 - (intOf i).toNat)
      case atStart => exact ⟨0, by omega, rfl, hT⟩
      case round =>
        clear hT
        obtain ⟨f, hf, rfl, hT⟩ := hrel
        by_cases hf6 : f < 6
        · have f0 : (f : Int) < 6 := by omega
          have HA := Lib.hid (HC.out.2 f)
          have HA' := Lib.hid (HC'.out.2 f)
          have hln := HA.out.1
          have hln' := HA'.out.1
          have HFf := Lib.hid (fun W => HF.out f (by omega) W)
          have HFf' := Lib.hid (fun W => HF'.out f (by omega) W)
          generalize c.fsl f = S1 at *
          generalize c'.fsl f = S2 at *
          obtain ⟨A1, n1, p1⟩ := S1
          obtain ⟨A2, n2, p2⟩ := S2
          dsimp only at hln hln' HA HA' HFf HFf'
          obtain rfl : n1 = n2 := by omega
          go_wp2_with fail
          refine wp_region_held_drew (S := fun w' => TwoAt w CS CS' w') (by kernel_rfl) ?_ (fun hHeld => ?_)
          · exact hT.out.drew
          refine wpAnyH_take (i := 0) (v := .agg CS) rfl (by kernel_rfl) (by kernel_rfl) (by kernel_rfl) (fun _ _ _ h => h) (Or.inl ⟨by rfl, ?hy0⟩) (by assumption) ?_
          case hy0 => (intro W hSw; exact load_yields _ _ (.tmp 2) (by rfl) (by rfl) hSw.1 HSZ.out)
          try simp only [Act.put, List.getElem_toArray, List.getElem_cons_zero, List.setIfInBounds_toArray, List.set_cons_zero, List.set_cons_succ]
          refine wpAnyH_take (i := 1) (v := ?v1) rfl (by kernel_rfl) (by kernel_rfl) (by kernel_rfl) (fun _ _ _ h => h) (Or.inl ⟨by rfl, ?hy1⟩) (by assumption) ?_
          case hy1 => (intro w hSw; (try dsimp only at hSw); go_simp; (try with_reducible rfl))
          try simp only [Act.put, List.getElem_toArray, List.getElem_cons_zero, List.getElem_cons_succ, List.setIfInBounds_toArray, List.set_cons_zero, List.set_cons_succ]
          refine wpAnyH_take (i := 3) (v := .agg CS') rfl (by kernel_rfl) (by kernel_rfl) (by kernel_rfl) (fun _ _ _ h => h) (Or.inl ⟨by rfl, ?hy3⟩) (by assumption) ?_
          case hy3 => (intro W hSw; exact load_yields _ _ (.tmp 3) (by rfl) (by rfl) hSw.2.1 HSZ'.out)
          try simp only [Act.put, List.getElem_toArray, List.getElem_cons_zero, List.getElem_cons_succ, List.setIfInBounds_toArray, List.set_cons_zero, List.set_cons_succ]
          refine wpAnyH_take (i := 4) (v := ?v4) rfl (by kernel_rfl) (by kernel_rfl) (by kernel_rfl) (fun _ _ _ h => h) (Or.inl ⟨by rfl, ?hy4⟩) (by assumption) ?_
          case hy4 => (intro w hSw; (try dsimp only at hSw); go_simp; (try with_reducible rfl))
          try simp only [Act.put, List.getElem_toArray, List.getElem_cons_zero, List.getElem_cons_succ, List.setIfInBounds_toArray, List.set_cons_zero, List.set_cons_succ]
          refine wpAnyH_ready (rs := [2]) (by kernel_rfl) (by simp) ?_
          refine AllReadyH.cons rfl (fun K hK => ?_) AllReadyH.nil
          go_simp
          (refine (HFf.out _).mono ?_; rintro e w3 ⟨rfl, hb3⟩)
          refine hK.out _ _ ?_ (fun hHeld2 => ?_)
          · exact hHeld.call hb3
          clear hK K hHeld
          have hHeld := hHeld2
          clear hHeld2
          try simp only [Act.put, List.getElem_toArray, List.getElem_cons_zero, List.getElem_cons_succ, List.setIfInBounds_toArray, List.set_cons_zero, List.set_cons_succ]
          refine wpAnyH_ready (rs := [5]) (by kernel_rfl) (by simp) ?_
          refine AllReadyH.cons rfl (fun K hK => ?_) AllReadyH.nil
          go_simp
          (refine (HFf'.out _).mono ?_; rintro e w4 ⟨rfl, hb4⟩)
          refine hK.out _ _ ?_ (fun hHeld2 => ?_)
          · exact hHeld.call hb4
          clear hK K hHeld
          have hHeld := hHeld2
          clear hHeld2
          try simp only [Act.put, List.getElem_toArray, List.getElem_cons_zero, List.getElem_cons_succ, List.setIfInBounds_toArray, List.set_cons_zero, List.set_cons_succ]
          refine wpAnyH_take (i := 6) (v := ?v6) rfl (by kernel_rfl) (by kernel_rfl) (by kernel_rfl) (fun _ _ _ h => h) (Or.inl ⟨by rfl, ?hy6⟩) (by assumption) ?_
          case hy6 => (intro w hSw; (try dsimp only at hSw); go_simp; (try with_reducible rfl))
          try simp only [Act.put, List.getElem_toArray, List.getElem_cons_zero, List.getElem_cons_succ, List.setIfInBounds_toArray, List.set_cons_zero, List.set_cons_succ]
          refine wpAnyH_take (i := 7) (v := ?v7) rfl (by kernel_rfl) (by kernel_rfl) (by kernel_rfl) (fun _ _ _ h => h) (Or.inl ⟨by rfl, ?hy7⟩) (by assumption) ?_
          case hy7 => (intro w hSw; (try dsimp only at hSw); go_simp; (try with_reducible rfl))
          try simp only [Act.put, List.getElem_toArray, List.getElem_cons_zero, List.getElem_cons_succ, List.setIfInBounds_toArray, List.set_cons_zero, List.set_cons_succ]
          refine wpAnyH_done (by kernel_rfl) ?_ _
          have hT4 := Lib.hid hHeld
          have HA4 := Lib.hid (HA.out.below hHeld.2.2)
          have HA4' := Lib.hid (HA'.out.below hHeld.2.2)
          clear hHeld hT
          have hnb := HA4.out.2.1
          unfold maxLen at hnb
          go_wp2_with fail
          go_loopw [52] (fun i wr => ∃ g : Nat, g ≤ n1 ∧ i = .int .i64 g ∧ Hid (TwoAt w CS CS' wr)) (fun i wr => n1 - (intOf i).toNat)
          case atStart => exact ⟨0, Nat.zero_le _, rfl, hT4⟩
          case round =>
            clear hT4 HA4 HA4'
            obtain ⟨g, hg, rfl, hT5⟩ := hrel
            by_cases hgl : g < n1
            · have g0 : (0 : Int) ≤ (g : Int) := by omega
              have g1 : (g : Int) < (n1 : Int) := by omega
              obtain ⟨ad1, q, rfl, _, hq, a0, a1, a2⟩ := (HA.out.below hT5.out.2.2).at_ hgl
              obtain ⟨ad2, q', rfl, _, hq', b0, b1, b2⟩ := (HA'.out.below hT5.out.2.2).at_ hgl
              rw [hq] at hq'
              obtain rfl : q = q' := Option.some.inj hq'
              clear hq hq'
              obtain ⟨qa, qb, qs⟩ := q
              dsimp only at a0 a1 a2 b0 b1 b2
              have hps := fun W => part_eqS qa qb qs W
              go_wp2_with fail
              go_region
              all_goals
                go_wp2_with fail
                go_roundw
                case rel => exact ⟨g + 1, by omega, by go_num, hT5.out.drew⟩
                case measure => simp [intOf]; omega
            · have g1 : ¬ ((g : Int) < (n1 : Int)) := by omega
              go_wp2_with fail
              go_roundw
              case rel => exact ⟨f + 1, by omega, by go_num, hT5⟩
              case measure => simp [intOf]; omega
        · obtain rfl : f = 6 := by omega
          clear hf6
          go_wp2_with fail
          go_ret
          exact ⟨rfl, hT.out.2.2⟩
end Go.Proofs.YteflddgcddcejaaGreatDoor
