/- The walk of the developers' May. -/
import Derived.Test.YtncolcjejgmhjaaGreatDoorCxao
namespace Go.Proofs.YtncolcjejgmhjaaGreatDoor
open Go.RowKit
theorem run_index_six (c : Ch) (f : Nat) (hf : f ≤ 5) (w : World) :
    (Instr.index 46 (.agg c.six) (.int .i64 (f : Int))).run Tryz.prog w = .ok (.slice (c.fsl f).A (c.fsl f).n (c.fsl f).c) w := by
  rcases f_cases hf with rfl | rfl | rfl | rfl | rfl | rfl <;>
  simp [Instr.index, run_underlying Tryz.underlying46, asIntOf, part, isAgg, run_underlying Tryz.underlying23, Ch.six, Ch.fsl]
set_option maxHeartbeats 8000000 in
theorem May_any (c : Ch) (l : Cl) (w : World) (ht : Tabs w) (hc : CalAt w w.heap.size c l) :
    Calls Tryz.prog 9 #[.agg c.cells] w fun e w' => e = .returned (.bool (mayC l)) ∧ Below w.heap.size w w' := by
  have HC := Lib.hid hc
  have HT := Lib.hid ht
  have HS := Lib.hid (mayC_split l)
  have HLi := Lib.hid (fun W => lists_any c W)
  have HIx := Lib.hid (run_index_six c)
  clear hc ht
  generalize c.six = SX at HLi HIx
  obtain ⟨⟨dA, dn, dc⟩, y, m, t, h, i, s⟩ := c
  have HD : Hid (IntsAt w w.heap.size dA dn l.ds) := HC.out.1
  unfold Ch.cells at HLi ⊢
  dsimp only at HLi ⊢
  go_enter Tryz.func9, Tryz.ntmps9
  go_wp2_with fail
  refine (HLi.out _).mono ?_
  rintro e w0 ⟨rfl, hb0⟩
  have HB0 : Hid (Blk w0 w.heap.size 25 #[.slice dA dn dc, .slice y.A y.n y.c, .slice m.A m.n m.c, .slice t.A t.n t.c, .slice h.A h.n h.c, .slice i.A i.n i.c, .slice s.A s.n s.c]) := ((Blk.new w _ _).below hb0 (by simp))
  have Hb0 := Lib.hid (more3 ((Below.refl w.heap.size w).alloc (Nat.le_refl _) _) (by simp) hb0)
  clear hb0
  go_wp2_with fail
  go_loopw [9] (fun x wr => ∃ f : Nat, f ≤ 6 ∧ x = .int .i64 f ∧ Hid (∀ g, g < f → mayF g (l.fld g) = true) ∧ Hid (Blk wr w.heap.size 25 #[.slice dA dn dc, .slice y.A y.n y.c, .slice m.A m.n m.c, .slice t.A t.n t.c, .slice h.A h.n h.c, .slice i.A i.n i.c, .slice s.A s.n s.c]) ∧ Hid (Below w.heap.size w wr)) (fun x wr => (6 - intOf x).toNat)
  case atStart => exact ⟨0, by omega, rfl, fun g hg => absurd hg (by omega), HB0, Hb0⟩
  case round =>
    obtain ⟨f, hf, rfl, hall, hB, hb⟩ := hrel
    by_cases hf6 : f < 6
    · have hf5 : f ≤ 5 := by omega
      have f0 : (0 : Int) ≤ (f : Int) := by omega
      have f6 : (f : Int) < 6 := by omega
      have hix := HIx.out f hf5
      have HP := Lib.hid (HC.out.2 f)
      generalize Ch.fsl ⟨⟨dA, dn, dc⟩, y, m, t, h, i, s⟩ f = S at HP hix
      obtain ⟨A, n, cc⟩ := S
      dsimp only at hix
      have HP : Hid (PtsAt w w.heap.size A n (l.fld f)) := HP
      have hlen := HP.out.1
      have HL := Lib.hid hlen
      clear hlen
      by_cases hs1 : n < 1
      · have HF := Lib.hid (fields_no hf5 (mayF_long (f := f) (.inl (by rw [HL.out]; exact hs1))))
        have hs1' : (n : Int) < 1 := by omega
        go_wp2_with fail
        go_ret
        exact ⟨ret_bool (by rw [HS.out, HF.out]; simp), hb.out⟩
      by_cases hs4 : 4 < n
      · have HF := Lib.hid (fields_no hf5 (mayF_long (f := f) (.inr (by rw [HL.out]; exact hs4))))
        have hs1' : (1 : Int) ≤ n := by omega
        have hs4' : (4 : Int) < n := by omega
        have u1 : (0 : Nat) ≤ 1 := Nat.zero_le _
        clear hs1 hs4
        go_wp2_with fail
        go_ret
        exact ⟨ret_bool (by rw [HS.out, HF.out]; simp), hb.out⟩
      have hs1' : (1 : Int) ≤ n := by omega
      have hs4' : (n : Int) ≤ 4 := by omega
      have hs5' : n ≤ 4 := by omega
      have hs6' : 1 ≤ n := by omega
      have u1 : (0 : Nat) ≤ 1 := Nat.zero_le _
      have u2 : (0 : Nat) ≤ 2 := Nat.zero_le _
      have u3 : (0 : Nat) ≤ 3 := Nat.zero_le _
      clear hs1 hs4
      go_wp2_with fail
      clear hix
      go_loopw [23] (fun x wr => ∃ j : Nat, j ≤ n ∧ x = .int .i64 j ∧ Hid (∀ g, g < j → ∀ p, (l.fld f)[g]? = some p → mayP f p = true) ∧ Hid (Blk wr w.heap.size 25 #[.slice dA dn dc, .slice y.A y.n y.c, .slice m.A m.n m.c, .slice t.A t.n t.c, .slice h.A h.n h.c, .slice i.A i.n i.c, .slice s.A s.n s.c]) ∧ Hid (Below w.heap.size w wr)) (fun x wr => n - (intOf x).toNat)
      case atStart => exact ⟨0, Nat.zero_le _, rfl, fun g hg => absurd hg (by omega), hB, hb⟩
      case round =>
        obtain ⟨j, hj, rfl, hpall, hB2, hb2⟩ := hrel
        by_cases hjn : j < n
        · obtain ⟨ad, p, rfl, hbl, hlk, e0, e1, e2⟩ := (HP.out.below hb2.out).at_ hjn
          have HLK := Lib.hid hlk
          have HTr := Lib.hid (HT.out.below hb2.out)
          obtain ⟨pa, pb, ps⟩ := p
          dsimp only at e0 e1 e2
          have HPc := Lib.hid (fun W => devPart_any ⟨pa, pb, ps⟩ f W)
          dsimp only at HPc
          have hz : w.heap.size < wr.heap.size := hB2.out.lt
          clear hlk
          go_wp2_with fail
          have q0 := (HTr.out.below ((Below.refl _ _).alloc (Nat.le_refl _) (.cells #[.int .i64 pa, .int .i64 pb, .int .i64 ps] 58))).rng0 hf5
          have q1 := (HTr.out.below ((Below.refl _ _).alloc (Nat.le_refl _) (.cells #[.int .i64 pa, .int .i64 pb, .int .i64 ps] 58))).rng1 hf5
          have HB1 := Lib.hid (hB2.out.alloc (.cells #[.int .i64 pa, .int .i64 pb, .int .i64 ps] 58))
          have Hb1 := Lib.hid (hb2.out.alloc hb2.out.size (.cells #[.int .i64 pa, .int .i64 pb, .int .i64 ps] 58))
          have HMP : ∃ mp, Hid (mayP f ⟨pa, pb, ps⟩ = mp) := ⟨_, rfl⟩
          go_region_with ((go_at_call 29; refine (HPc.out _).mono ?_; rintro e w2 ⟨rfl, hb3⟩; have HB3 : Hid (Blk w2 w.heap.size 25 #[.slice dA dn dc, .slice y.A y.n y.c, .slice m.A m.n m.c, .slice t.A t.n t.c, .slice h.A h.n h.c, .slice i.A i.n i.c, .slice s.A s.n s.c]) := (Blk.below (by exact HB1.out) hb3 (by exact HB1.out.lt)); (first | have Hb3 := Lib.hid (more3 Hb1.out Hb1.out.size hb3) | have Hb3 := Lib.hid (more3 Hb1.out.drew Hb1.out.size hb3) | have Hb3 := Lib.hid (more3 Hb1.out.drew.drew Hb1.out.size hb3) | have Hb3 := Lib.hid (more3 Hb1.out.drew.drew.drew Hb1.out.size hb3) | have Hb3 := Lib.hid (more3 (below_drewN Hb1.out _) Hb1.out.size hb3)); clear hb3))
          all_goals
            clear q0 q1
            rcases hmp : mayP f ⟨pa, pb, ps⟩ with _ | _
            · have HF := Lib.hid (fields_no hf5 (mayF_bad HLK.out hmp))
              clear hmp
              go_wp2_with fail
              go_ret
              exact ⟨ret_bool (by rw [HS.out, HF.out]; simp), Hb3.out⟩
            · have HN : Hid (∀ g, g < j + 1 → ∀ p, (l.fld f)[g]? = some p → mayP f p = true) := by
                intro g hg p hp
                by_cases e : g = j
                · rw [e, HLK.out] at hp
                  rw [← Option.some.inj hp]; exact hmp
                · exact hpall.out g (by omega) p hp
              clear hmp
              go_wp2_with fail
              go_roundw
              case rel => exact ⟨j + 1, by omega, by go_num, HN, HB3, Hb3⟩
              case measure => simp [intOf]; omega
        · obtain rfl : j = n := by omega
          have HN : Hid (∀ g, g < f + 1 → mayF g (l.fld g) = true) := by
            intro g hg
            by_cases e : g = f
            · rw [e]
              refine mayF_all (by rw [HL.out]; omega) (by rw [HL.out]; omega) fun j' hj' p hp => hpall.out j' (by rw [HL.out] at hj'; exact hj') p hp
            · exact hall.out g (by omega)
          clear hj hjn
          go_wp2_with fail
          go_roundw
          case rel => exact ⟨f + 1, by omega, by go_num, HN, hB2, hb2⟩
          case measure => simp [intOf]; omega
    · obtain rfl : f = 6 := by omega
      have HF := Lib.hid (fields_yes hall.out)
      obtain ⟨c0, c1, c2, c3, c4, c5, c6⟩ := cells7c hB.out
      have HDr := Lib.hid (HD.out.below hb.out)
      have HDw := Lib.hid (IntsAt.wide HDr.out hb.out.size)
      clear hf hf6
      go_wp2_with fail
      refine (mayDays_any _ _ _ _ _ HDw.out).mono ?_
      rintro e w2 ⟨rfl, rfl⟩
      go_wp2_with fail
      go_ret
      exact ⟨ret_bool (by rw [HS.out, HF.out, Bool.and_true]), hb.out⟩
end Go.Proofs.YtncolcjejgmhjaaGreatDoor
