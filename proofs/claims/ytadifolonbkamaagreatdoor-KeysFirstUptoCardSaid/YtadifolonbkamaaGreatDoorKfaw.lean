/- The walks of the developers' mayDays, lists. The walk of the developers' May. -/
import Derived.Test.YtadifolonbkamaaGreatDoorKfav
namespace Go.Proofs.YtadifolonbkamaaGreatDoor.Ca
open Go.RowKit
set_option maxHeartbeats 4000000 in
theorem mayDays_any (A : Option Addr) (n c : Nat) (ds : List Int) (w : World) (hd : IntsAt w w.heap.size A n ds) :
    Calls Tryz.prog 105 #[.slice A n c] w fun e w' => e = .returned (.bool (risesB 0 ds)) ∧ w = w' := by
  have HD := Lib.hid hd
  clear hd
  have hn := HD.out.2.1
  unfold maxLen at hn
  go_enter Tryz.func105, Tryz.ntmps105
  go_wp2_with fail
  go_loop [3, 5, 8] (fun x _ i => ∃ (k : Nat) (z : Int), k ≤ n ∧ i = .int .i64 k ∧ x = .int .i64 z ∧ Hid (risesB 0 ds = risesB z (ds.drop k))) (fun _ _ i => n - (intOf i).toNat)
  case atStart => exact ⟨0, 0, Nat.zero_le _, rfl, rfl, by show risesB 0 ds = _; rw [List.drop_zero]⟩
  case round =>
    obtain ⟨k, z, hk, rfl, rfl, hr⟩ := hrel
    by_cases hlt : k < n
    · obtain ⟨ad, rfl, hbl, hcell⟩ := HD.out.at_ hlt
      have hdr := drop_cons (l := ds) (k := k) (by rw [HD.out.1]; exact hlt)
      generalize ds.getD k 0 = d at hdr hcell
      have HR : Hid (risesB 0 ds = risesB z (d :: ds.drop (k + 1))) := by rw [← hdr]; exact hr
      clear hdr
      have hln : (n : Int) ≤ 9223372036854775807 := by omega
      by_cases h1 : d ≤ z
      · have HF := Lib.hid (rises_no (r := ds.drop (k + 1)) (.inl h1))
        go_wp2_with fail
        go_ret
        exact ⟨ret_bool (by rw [HR.out, HF.out]), rfl⟩
      · by_cases h7 : 7 < d
        · have HF := Lib.hid (rises_no (x := z) (r := ds.drop (k + 1)) (.inr h7))
          have h1' : z < d := by omega
          have u1 : (0 : Nat) ≤ 1 := Nat.zero_le _
          go_wp2_with fail
          go_ret
          exact ⟨ret_bool (by rw [HR.out, HF.out]), rfl⟩
        · have HF := Lib.hid (rises_yes (r := ds.drop (k + 1)) (show z < d by omega) (show d ≤ 7 by omega))
          have h1' : z < d := by omega
          have h7' : d ≤ 7 := by omega
          have HN : Hid (risesB 0 ds = risesB d (ds.drop (k + 1))) := by rw [HR.out, HF.out]; rfl
          have u1 : (0 : Nat) ≤ 1 := Nat.zero_le _
          have u2 : (0 : Nat) ≤ 2 := Nat.zero_le _
          clear h1 h7
          go_wp2_with fail
          go_round
          case rel => exact ⟨k + 1, d, by omega, by go_num, rfl, HN⟩
          case measure => simp [intOf]; omega
    · obtain rfl : k = n := by omega
      have HT : Hid (risesB 0 ds = true) := by
        show _ = true
        rw [hr.out, List.drop_of_length_le (by rw [HD.out.1]; exact Nat.le_refl _)]; rfl
      clear hr hlt
      go_wp2_with fail
      go_ret
      exact ⟨ret_bool HT.out.symm, rfl⟩
/-- The six lists as one value. -/
def Ch.six (c : Ch) : Array Value := #[.slice c.y.A c.y.n c.y.c, .slice c.m.A c.m.n c.m.c, .slice c.t.A c.t.n c.t.c, .slice c.h.A c.h.n c.h.c, .slice c.i.A c.i.n c.i.c, .slice c.s.A c.s.n c.s.c]
set_option maxHeartbeats 4000000 in
theorem lists_any (c : Ch) (w : World) :
    Calls Tryz.prog 103 #[.agg c.cells] w fun e w' => e = .returned (.agg c.six) ∧ Below w.heap.size w w' := by
  unfold Ch.cells Ch.six
  go_enter Tryz.func103, Tryz.ntmps103
  go_wp2_with fail
  refine bodyPost_ret (v := .agg #[.slice c.y.A c.y.n c.y.c, .slice c.m.A c.m.n c.m.c, .slice c.t.A c.t.n c.t.c, .slice c.h.A c.h.n c.h.c, .slice c.i.A c.i.n c.i.c, .slice c.s.A c.s.n c.s.c]) (by simp [results, Tryz.results103, go_sem]) rfl ⟨rfl, ?_⟩
  exact ((Below.refl _ _).alloc (Nat.le_refl _) _).alloc (by simp) _
end Go.Proofs.YtadifolonbkamaaGreatDoor.Ca
namespace Go.Proofs.YtadifolonbkamaaGreatDoor.Ca
open Go.RowKit
theorem run_index_six (c : Ch) (f : Nat) (hf : f ≤ 5) (w : World) :
    (Instr.index 126 (.agg c.six) (.int .i64 (f : Int))).run Tryz.prog w = .ok (.slice (c.fsl f).A (c.fsl f).n (c.fsl f).c) w := by
  rcases f_cases hf with rfl | rfl | rfl | rfl | rfl | rfl <;>
  simp [Instr.index, run_underlying Tryz.underlying126, asIntOf, part, isAgg, run_underlying Tryz.underlying61, Ch.six, Ch.fsl]
set_option maxHeartbeats 8000000 in
theorem May_any (c : Ch) (l : Cl) (w : World) (ht : Tabs w) (hc : CalAt w w.heap.size c l) :
    Calls Tryz.prog 79 #[.agg c.cells] w fun e w' => e = .returned (.bool (mayC l)) ∧ Below w.heap.size w w' := by
  have HC := Lib.hid hc
  have HT := Lib.hid ht
  have HS := Lib.hid (mayC_split l)
  have HLi := Lib.hid (fun W => lists_any c W)
  have HIx := Lib.hid (run_index_six c)
  clear hc ht
  generalize c.six = SX at HLi HIx
  obtain ⟨⟨dA, dn, dc⟩, y, m, t, h, i, s⟩ := c
  have HD : Hid (IntsAt w w.heap.size dA dn l.ds) := HC.out.1
  unfold Ch.cells at HLi ⊢
  dsimp only at HLi ⊢
  go_enter Tryz.func79, Tryz.ntmps79
  go_wp2_with fail
  refine (HLi.out _).mono ?_
  rintro e w0 ⟨rfl, hb0⟩
  have HB0 : Hid (Blk w0 w.heap.size 63 #[.slice dA dn dc, .slice y.A y.n y.c, .slice m.A m.n m.c, .slice t.A t.n t.c, .slice h.A h.n h.c, .slice i.A i.n i.c, .slice s.A s.n s.c]) := ((Blk.new w _ _).below hb0 (by simp))
  have Hb0 := Lib.hid (more3 ((Below.refl w.heap.size w).alloc (Nat.le_refl _) _) (by simp) hb0)
  clear hb0
  go_wp2_with fail
  go_loopw [9] (fun x wr => ∃ f : Nat, f ≤ 6 ∧ x = .int .i64 f ∧ Hid (∀ g, g < f → mayF g (l.fld g) = true) ∧ Hid (Blk wr w.heap.size 63 #[.slice dA dn dc, .slice y.A y.n y.c, .slice m.A m.n m.c, .slice t.A t.n t.c, .slice h.A h.n h.c, .slice i.A i.n i.c, .slice s.A s.n s.c]) ∧ Hid (Below w.heap.size w wr)) (fun x wr => (6 - intOf x).toNat)
  case atStart => exact ⟨0, by omega, rfl, fun g hg => absurd hg (by omega), HB0, Hb0⟩
  case round =>
    obtain ⟨f, hf, rfl, hall, hB, hb⟩ := hrel
    by_cases hf6 : f < 6
    · have hf5 : f ≤ 5 := by omega
      have f0 : (0 : Int) ≤ (f : Int) := by omega
      have f6 : (f : Int) < 6 := by omega
      have hix := HIx.out f hf5
      have HP := Lib.hid (HC.out.2 f)
      generalize Ch.fsl ⟨⟨dA, dn, dc⟩, y, m, t, h, i, s⟩ f = S at HP hix
      obtain ⟨A, n, cc⟩ := S
      dsimp only at hix
      have HP : Hid (PtsAt w w.heap.size A n (l.fld f)) := HP
      have hlen := HP.out.1
      have HL := Lib.hid hlen
      clear hlen
      by_cases hs1 : n < 1
      · have HF := Lib.hid (fields_no hf5 (mayF_long (f := f) (.inl (by rw [HL.out]; exact hs1))))
        have hs1' : (n : Int) < 1 := by omega
        go_wp2_with fail
        go_ret
        exact ⟨ret_bool (by rw [HS.out, HF.out]; simp), hb.out⟩
      by_cases hs4 : 4 < n
      · have HF := Lib.hid (fields_no hf5 (mayF_long (f := f) (.inr (by rw [HL.out]; exact hs4))))
        have hs1' : (1 : Int) ≤ n := by omega
        have hs4' : (4 : Int) < n := by omega
        have u1 : (0 : Nat) ≤ 1 := Nat.zero_le _
        clear hs1 hs4
        go_wp2_with fail
        go_ret
        exact ⟨ret_bool (by rw [HS.out, HF.out]; simp), hb.out⟩
      have hs1' : (1 : Int) ≤ n := by omega
      have hs4' : (n : Int) ≤ 4 := by omega
      have hs5' : n ≤ 4 := by omega
      have hs6' : 1 ≤ n := by omega
      have u1 : (0 : Nat) ≤ 1 := Nat.zero_le _
      have u2 : (0 : Nat) ≤ 2 := Nat.zero_le _
      have u3 : (0 : Nat) ≤ 3 := Nat.zero_le _
      clear hs1 hs4
      go_wp2_with fail
      clear hix
      go_loopw [23] (fun x wr => ∃ j : Nat, j ≤ n ∧ x = .int .i64 j ∧ Hid (∀ g, g < j → ∀ p, (l.fld f)[g]? = some p → mayP f p = true) ∧ Hid (Blk wr w.heap.size 63 #[.slice dA dn dc, .slice y.A y.n y.c, .slice m.A m.n m.c, .slice t.A t.n t.c, .slice h.A h.n h.c, .slice i.A i.n i.c, .slice s.A s.n s.c]) ∧ Hid (Below w.heap.size w wr)) (fun x wr => n - (intOf x).toNat)
      case atStart => exact ⟨0, Nat.zero_le _, rfl, fun g hg => absurd hg (by omega), hB, hb⟩
      case round =>
        obtain ⟨j, hj, rfl, hpall, hB2, hb2⟩ := hrel
        by_cases hjn : j < n
        · obtain ⟨ad, p, rfl, hbl, hlk, e0, e1, e2⟩ := (HP.out.below hb2.out).at_ hjn
          have HLK := Lib.hid hlk
          have HTr := Lib.hid (HT.out.below hb2.out)
          obtain ⟨pa, pb, ps⟩ := p
          dsimp only at e0 e1 e2
          have HPc := Lib.hid (fun W => devPart_any ⟨pa, pb, ps⟩ f W)
          dsimp only at HPc
          have hz : w.heap.size < wr.heap.size := hB2.out.lt
          clear hlk
          go_wp2_with fail
          have q0 := (HTr.out.below ((Below.refl _ _).alloc (Nat.le_refl _) (.cells #[.int .i64 pa, .int .i64 pb, .int .i64 ps] 111))).rng0 hf5
          have q1 := (HTr.out.below ((Below.refl _ _).alloc (Nat.le_refl _) (.cells #[.int .i64 pa, .int .i64 pb, .int .i64 ps] 111))).rng1 hf5
          have HB1 := Lib.hid (hB2.out.alloc (.cells #[.int .i64 pa, .int .i64 pb, .int .i64 ps] 111))
          have Hb1 := Lib.hid (hb2.out.alloc hb2.out.size (.cells #[.int .i64 pa, .int .i64 pb, .int .i64 ps] 111))
          have HMP : ∃ mp, Hid (mayP f ⟨pa, pb, ps⟩ = mp) := ⟨_, rfl⟩
          go_region_with ((go_at_call 104; refine (HPc.out _).mono ?_; rintro e w2 ⟨rfl, hb3⟩; have HB3 : Hid (Blk w2 w.heap.size 63 #[.slice dA dn dc, .slice y.A y.n y.c, .slice m.A m.n m.c, .slice t.A t.n t.c, .slice h.A h.n h.c, .slice i.A i.n i.c, .slice s.A s.n s.c]) := (Blk.below (by exact HB1.out) hb3 (by exact HB1.out.lt)); (first | have Hb3 := Lib.hid (more3 Hb1.out Hb1.out.size hb3) | have Hb3 := Lib.hid (more3 Hb1.out.drew Hb1.out.size hb3) | have Hb3 := Lib.hid (more3 Hb1.out.drew.drew Hb1.out.size hb3) | have Hb3 := Lib.hid (more3 Hb1.out.drew.drew.drew Hb1.out.size hb3) | have Hb3 := Lib.hid (more3 (below_drewN Hb1.out _) Hb1.out.size hb3)); clear hb3))
          all_goals
            clear q0 q1
            rcases hmp : mayP f ⟨pa, pb, ps⟩ with _ | _
            · have HF := Lib.hid (fields_no hf5 (mayF_bad HLK.out hmp))
              clear hmp
              go_wp2_with fail
              go_ret
              exact ⟨ret_bool (by rw [HS.out, HF.out]; simp), Hb3.out⟩
            · have HN : Hid (∀ g, g < j + 1 → ∀ p, (l.fld f)[g]? = some p → mayP f p = true) := by
                intro g hg p hp
                by_cases e : g = j
                · rw [e, HLK.out] at hp
                  rw [← Option.some.inj hp]; exact hmp
                · exact hpall.out g (by omega) p hp
              clear hmp
              go_wp2_with fail
              go_roundw
              case rel => exact ⟨j + 1, by omega, by go_num, HN, HB3, Hb3⟩
              case measure => simp [intOf]; omega
        · obtain rfl : j = n := by omega
          have HN : Hid (∀ g, g < f + 1 → mayF g (l.fld g) = true) := by
            intro g hg
            by_cases e : g = f
            · rw [e]
              refine mayF_all (by rw [HL.out]; omega) (by rw [HL.out]; omega) fun j' hj' p hp => hpall.out j' (by rw [HL.out] at hj'; exact hj') p hp
            · exact hall.out g (by omega)
          clear hj hjn
          go_wp2_with fail
          go_roundw
          case rel => exact ⟨f + 1, by omega, by go_num, HN, hB2, hb2⟩
          case measure => simp [intOf]; omega
    · obtain rfl : f = 6 := by omega
      have HF := Lib.hid (fields_yes hall.out)
      obtain ⟨c0, c1, c2, c3, c4, c5, c6⟩ := cells7c hB.out
      have HDr := Lib.hid (HD.out.below hb.out)
      have HDw := Lib.hid (IntsAt.wide HDr.out hb.out.size)
      clear hf hf6
      go_wp2_with fail
      refine (mayDays_any _ _ _ _ _ HDw.out).mono ?_
      rintro e w2 ⟨rfl, rfl⟩
      go_wp2_with fail
      go_ret
      exact ⟨ret_bool (by rw [HS.out, HF.out, Bool.and_true]), hb.out⟩
end Go.Proofs.YtadifolonbkamaaGreatDoor.Ca
