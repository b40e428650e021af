/- The walk of the law CalLess. -/
import Derived.Test.YtnbdcjohibfjaaaGreatDoorCqY
namespace Go.Proofs.YtnbdcjohibfjaaaGreatDoor
open Go.RowKit

/-- The cells of the calendar that is made: its day, its row of seconds v. -/
def lessC (c : Ch) (B2 : Nat) (v : Value) : Array Value := #[.slice (some ⟨B2, 0, none⟩) 1 1, .slice c.y.A c.y.n c.y.c, .slice c.m.A c.m.n c.m.c, .slice c.t.A c.t.n c.t.c, .slice c.h.A c.h.n c.h.c, .slice c.i.A c.i.n c.i.c, v]
def lessL (ps : List Pt) (k : Int) (n : Nat) : List Pt := (ps.take n).map (·.times k)
theorem lessL_succ {ps : List Pt} {k : Int} {n : Nat} {p : Pt} (h : ps[n]? = some p) : pts (lessL ps k (n + 1)) = pts (lessL ps k n) ++ [.int .i64 p.a, .int .i64 p.b, .int .i64 (p.s * k)] := by
  unfold lessL
  rw [List.take_add_one, h, List.map_append]
  unfold pts
  rw [List.flatMap_append]
  rfl
/-- What stands through the loop. -/
def LessAt (w : World) (c : Ch) (day k : Int) (l : Cl) (B1 B2 : Nat) (n : Nat) (v : Value) (wr : World) : Prop :=
  Blk wr w.heap.size 26 c.cells ∧ Blk wr B1 26 (lessC c B2 v) ∧ Blk wr B2 3 #[.int .i64 day] ∧ Below w.heap.size w wr ∧ wr.ownsRow (B2 + 1) 43 3 v n (pts (lessL l.se k n)) ∧ ∀ p ∈ l.se.take n, p.s * k ≤ 9999
theorem LessAt.below {w wr X : World} {c : Ch} {day k : Int} {l : Cl} {B1 B2 n : Nat} {v : Value} (h : LessAt w c day k l B1 B2 n v wr) (hb : Below wr.heap.size wr X) : LessAt w c day k l B1 B2 n v X :=
  ⟨h.1.below hb h.1.lt, h.2.1.below hb h.2.1.lt, h.2.2.1.below hb h.2.2.1.lt, more3 h.2.2.2.1 h.2.2.2.1.size hb, own_below h.2.2.2.2.1 hb, h.2.2.2.2.2⟩
theorem LessAt.made {w wr Y : World} {c : Ch} {day k : Int} {l : Cl} {B1 B2 n : Nat} {v : Value} (h : LessAt w c day k l B1 B2 n v wr) (h1 : B1 < B2) (hg : wr.grownBy Y v.ownBlock) : Blk Y B1 26 (lessC c B2 v) :=
  (hg.block B1 h.2.1.lt (fun e => by have := (h.2.2.2.2.1.lt B1 e.symm).1; omega)).trans h.2.1
theorem LessAt.put {w wr Y : World} {c : Ch} {day k : Int} {l : Cl} {B1 B2 n : Nat} {v v' : Value} {p : Pt} (h : LessAt w c day k l B1 B2 n v wr) (h0 : w.heap.size < B1) (h1 : B1 < B2) (hg : wr.grownBy Y v.ownBlock) (hp : l.se[n]? = some p) (hs : p.s * k ≤ 9999)
    (ho : Y.ownsRow (B2 + 1) 43 3 v' (n + 1) (pts (lessL l.se k n) ++ [.int .i64 p.a, .int .i64 p.b, .int .i64 (p.s * k)])) : LessAt w c day k l B1 B2 (n + 1) v' (Y.setCell ⟨B1, 6, none⟩ v') := by
  have hm := h.made h1 hg
  have far : ∀ g, g ≤ B2 → some g ≠ v.ownBlock := fun g hle e => by have := (h.2.2.2.2.1.lt g e.symm).1; omega
  obtain ⟨q1, q2, q3, q4, q5, q6⟩ := h
  have g1 : Blk Y w.heap.size 26 c.cells := (hg.block _ q1.lt (far _ (by omega))).trans q1
  have g3 : Blk Y B2 3 #[.int .i64 day] := (hg.block _ q3.lt (far _ (by omega))).trans q3
  have g4 : Below w.heap.size w Y := q4.grown hg q4.size (fun j hj => by have := (q5.lt j hj).1; omega)
  refine ⟨g1.setOther (a := ⟨B1, 6, none⟩) (by show w.heap.size ≠ B1; omega) _, hm.setCell 6 _, g3.setOther (a := ⟨B1, 6, none⟩) (by show B2 ≠ B1; omega) _, g4.setCell (p := ⟨B1, 6, none⟩) (by show w.heap.size ≤ B1; omega) _, own_set ?_ (by show B1 < B2 + 1; omega), ?_⟩
  · rw [lessL_succ hp]; exact ho
  · intro x hx
    rw [List.take_add_one, hp] at hx
    rcases List.mem_append.1 hx with hx | hx
    · exact q6 x hx
    · simp at hx; rw [hx]; exact hs
theorem LessAt.first {w wa w5 : World} {c : Ch} {day k : Int} {l : Cl} (h0 : w.heap.size < wa.heap.size) (h1 : wa.heap.size < w5.heap.size) (HK : Blk w5 w.heap.size 26 c.cells) (HE : Blk w5 wa.heap.size 26 c.cells) (HB : Below w.heap.size w w5) :
    LessAt w c day k l wa.heap.size w5.heap.size 0 (.slice none 0 0) (((w5.alloc (.cells #[.int .i64 day] 3)).setCell ⟨wa.heap.size, 0, none⟩ (.slice (some ⟨w5.heap.size, 0, none⟩) 1 1)).setCell ⟨wa.heap.size, 6, none⟩ (.slice none 0 0)) :=
  ⟨((HK.alloc _).setOther (a := ⟨wa.heap.size, 0, none⟩) (Nat.ne_of_lt h0) _).setOther (a := ⟨wa.heap.size, 6, none⟩) (Nat.ne_of_lt h0) _,
   ((HE.alloc _).setCell 0 _).setCell 6 _,
   ((Blk.new w5 _ _).setOther (a := ⟨wa.heap.size, 0, none⟩) (Nat.ne_of_gt h1) _).setOther (a := ⟨wa.heap.size, 6, none⟩) (Nat.ne_of_gt h1) _,
   ((HB.alloc HB.size _).setCell (p := ⟨wa.heap.size, 0, none⟩) (Nat.le_of_lt h0) _).setCell (p := ⟨wa.heap.size, 6, none⟩) (Nat.le_of_lt h0) _,
   World.ownsRow_nil _ _ _ _, fun p hp => by simp at hp⟩
theorem ints_one {W : World} {B : Nat} {x : Int} (h : Blk W B 3 #[.int .i64 x]) : IntsAt W W.heap.size (some ⟨B, 0, none⟩) 1 [x] := by
  refine ⟨rfl, by unfold maxLen; decide, rfl, fun _ => ⟨_, rfl, h.lt, fun j u hj => ?_⟩⟩
  have e : (⟨B, 0, none⟩ : Addr).add j = ⟨B, j, none⟩ := by unfold Addr.add; split <;> simp_all
  rw [e, h.cell j, ← hj]
  match j with
  | 0 => rfl
  | (j + 1) => rfl
theorem LessAt.cal {w W : World} {c : Ch} {day k : Int} {l : Cl} {B1 B2 n : Nat} {v : Value} (h : LessAt w c day k l B1 B2 n v W) (hn : n = l.se.length) (hc : CalAt W W.heap.size c l) (hm : n ≤ maxLen) :
    ∃ s : Sl, lessC c B2 v = ({ c with d := ⟨some ⟨B2, 0, none⟩, 1, 1⟩, s := s } : Ch).cells ∧ CalAt W W.heap.size { c with d := ⟨some ⟨B2, 0, none⟩, 1, 1⟩, s := s } { l with ds := [day], se := l.se.map (·.times k) } := by
  have e : lessL l.se k n = l.se.map (·.times k) := by unfold lessL; rw [List.take_of_length_le (by omega)]
  have ho := h.2.2.2.2.1
  rw [e] at ho
  obtain ⟨A, cc, hv, hP⟩ := PtsAt.of_own ho (by simp [hn]) hm
  refine ⟨⟨A, n, cc⟩, by rw [hv]; rfl, ints_one h.2.2.1, fun f => ?_⟩
  match f with
  | 0 => exact hc.2 0
  | 1 => exact hc.2 1
  | 2 => exact hc.2 2
  | 3 => exact hc.2 3
  | 4 => exact hc.2 4
  | (f + 5) => exact hP
theorem part_all (a b s : Int) : (#[Value.int .i64 a, .int .i64 b, .int .i64 s] : Array Value).all (·.oneCell') = true := by simp [Value.oneCell']
theorem se_bound {l : Cl} (h : mayC l = true) : ∀ p ∈ l.se, 0 ≤ p.s ∧ p.s ≤ 9999 := by
  obtain ⟨_, _, _, _, _, _, m6⟩ := (mayC_iff l).1 h
  intro p hp
  have := (mayP_iff 5 p).1 (((mayF_iff 5 l.se).1 m6).2 p hp)
  exact ⟨this.1, this.2.1⟩

set_option maxRecDepth 100000 in
set_option maxHeartbeats 40000000 in
theorem CalLess_any (c : Ch) (l : Cl) (day k after : Int) (w : World) (htab : TabM w) (hc : CalAt w w.heap.size c l) :
    Calls Tryz.prog 12 #[.agg c.cells, .int .i64 day, .int .i64 k, .int .i64 after] w fun e w' => e = .returned (.bool true) ∧ Below w.heap.size w w' := by
  obtain ⟨i0, hi, hz0, hz1, hz2⟩ := info_parts partInfo
  have HT := Lib.hid htab
  have HC := Lib.hid hc
  clear htab hc
  go_enter Tryz.func12, Tryz.ntmps12
  go_wp2_with fail
  refine (shown4_any _ (HT.out.below ((Below.refl _ _).alloc (Nat.le_refl _) _))).mono ?_
  rintro e w1 ⟨rfl, hq1⟩
  have HK1 : Hid (Blk w1 w.heap.size 26 c.cells) := (Blk.new w _ _).below hq1 (by simp)
  have HB1 := Lib.hid (more3 ((Below.refl w.heap.size w).alloc (Nat.le_refl _) _) (by simp) hq1)
  clear hq1
  go_wp2_with (refine wpList_load_row rfl 26 (.tmp 4) (by rfl) w.heap.size (by rfl) 26 c.cells (0, 0) _ HK1.out Tryz.underlying26 rfl (by kernel_rfl) ?_)
  refine (May_any c l _ (HT.out.below HB1.out).t (HC.out.at_ HB1.out)).mono ?_
  rintro e wa ⟨rfl, hq2⟩
  have HK := Lib.hid (HK1.out.below hq2 HK1.out.lt)
  have HB2 := Lib.hid (more3 HB1.out HB1.out.size hq2)
  clear hq2 HK1 HB1
  cases hm : mayC l with
  | false =>
    go_wp2_with fail
    all_goals (go_ret; exact ⟨rfl, HB2.out⟩)
  | true =>
    have HM := Lib.hid hm
    clear hm
    by_cases k1 : 1 ≤ k
    · by_cases k9 : k ≤ 9
      · by_cases d1 : 1 ≤ day
        · by_cases d7 : day ≤ 7
          · have d7d : decide (7 < day) = false := decide_eq_false (by omega)
            have HD0 : Hid (Blk (wa.alloc (.cells #[.slice none 0 0, .slice none 0 0, .slice none 0 0, .slice none 0 0, .slice none 0 0, .slice none 0 0, .slice none 0 0] 26)) wa.heap.size 26 nilCh.cells) := Blk.new wa _ _
            have hb1 : Below wa.heap.size wa ((wa.alloc (.cells #[.slice none 0 0, .slice none 0 0, .slice none 0 0, .slice none 0 0, .slice none 0 0, .slice none 0 0, .slice none 0 0] 26)).setRow wa.heap.size c.cells) := below_setRow ((Below.refl _ _).alloc (Nat.le_refl _) _) (Nat.le_refl _) _
            have HE1 : Hid (Blk ((wa.alloc (.cells #[.slice none 0 0, .slice none 0 0, .slice none 0 0, .slice none 0 0, .slice none 0 0, .slice none 0 0, .slice none 0 0] 26)).setRow wa.heap.size c.cells) wa.heap.size 26 c.cells) := HD0.out.row _
            have HK1 : Hid (Blk ((wa.alloc (.cells #[.slice none 0 0, .slice none 0 0, .slice none 0 0, .slice none 0 0, .slice none 0 0, .slice none 0 0, .slice none 0 0] 26)).setRow wa.heap.size c.cells) w.heap.size 26 c.cells) := HK.out.below hb1 HK.out.lt
            have HB5 : Hid (Below w.heap.size w ((wa.alloc (.cells #[.slice none 0 0, .slice none 0 0, .slice none 0 0, .slice none 0 0, .slice none 0 0, .slice none 0 0, .slice none 0 0] 26)).setRow wa.heap.size c.cells)) := more3 HB2.out HB2.out.size hb1
            have HS1 : Hid (((wa.alloc (.cells #[.slice none 0 0, .slice none 0 0, .slice none 0 0, .slice none 0 0, .slice none 0 0, .slice none 0 0, .slice none 0 0] 26)).setRow wa.heap.size c.cells).heap.size = wa.heap.size + 1) := by show _ = _; rw [size_row]; simp
            have h0a : w.heap.size < wa.heap.size := HK.out.lt
            obtain ⟨sA, hsA⟩ : ∃ x, c.s.A = x := ⟨_, rfl⟩
            obtain ⟨sn, hsn⟩ : ∃ x, c.s.n = x := ⟨_, rfl⟩
            clear hb1
            go_wp2_with (first
              | (refine wpList_load_row rfl 26 (.tmp 4) (by rfl) w.heap.size (by rfl) 26 c.cells (0, 0) _ HK.out Tryz.underlying26 rfl (by kernel_rfl) ?_)
              | (refine wpList_store_row rfl 26 (.tmp 9) (.tmp 37) (by rfl) wa.heap.size c.cells (by rfl) (by rfl) 26 nilCh.cells HD0.out (by kernel_rfl) rfl (ch_all _) ?_; generalize ((wa.alloc (.cells #[.slice none 0 0, .slice none 0 0, .slice none 0 0, .slice none 0 0, .slice none 0 0, .slice none 0 0, .slice none 0 0] 26)).setRow wa.heap.size c.cells) = w5 at *; have k50 : (w5.alloc (.cells #[.int .i64 day] 3)).cell? ⟨wa.heap.size, 0, none⟩ = some (.slice c.d.A c.d.n c.d.c) := (HE1.out.alloc _).cell 0; have f50 : (w5.alloc (.cells #[.int .i64 day] 3)).frozen? ⟨wa.heap.size, 0, none⟩ = false := (HE1.out.alloc _).frozen 0; have k56 : ((w5.alloc (.cells #[.int .i64 day] 3)).setCell ⟨wa.heap.size, 0, none⟩ (.slice (some ⟨w5.heap.size, 0, none⟩) 1 1)).cell? ⟨wa.heap.size, 6, none⟩ = some (.slice c.s.A c.s.n c.s.c) := ((HE1.out.alloc _).setCell 0 _).cell 6; have f56 : ((w5.alloc (.cells #[.int .i64 day] 3)).setCell ⟨wa.heap.size, 0, none⟩ (.slice (some ⟨w5.heap.size, 0, none⟩) 1 1)).frozen? ⟨wa.heap.size, 6, none⟩ = false := ((HE1.out.alloc _).setCell 0 _).frozen 6; have H1A : Hid (wa.heap.size < w5.heap.size) := (show _ < _ from by have := HS1.out; omega); have HL0 := Lib.hid (LessAt.first (day := day) (k := k) (l := l) h0a H1A.out HK1.out HE1.out HB5.out); have k66 : (((w5.alloc (.cells #[.int .i64 day] 3)).setCell ⟨wa.heap.size, 0, none⟩ (.slice (some ⟨w5.heap.size, 0, none⟩) 1 1)).setCell ⟨wa.heap.size, 6, none⟩ (.slice none 0 0)).cell? ⟨w.heap.size, 6, none⟩ = some (.slice sA sn c.s.c) := by
                  rw [← hsA, ← hsn]; exact (((HK1.out.alloc _).setOther (a := ⟨wa.heap.size, 0, none⟩) (Nat.ne_of_lt h0a) _).setOther (a := ⟨wa.heap.size, 6, none⟩) (Nat.ne_of_lt h0a) _).cell 6))
            clear k50 f50 k56 f56 k66
            have hsl : sn = l.se.length := by
              have := ((HC.out.at_ HB5.out).2 5).1
              rw [← hsn]; exact this.symm
            have hs4 : sn ≤ 4 := by
              have := ((mayF_iff 5 l.se).1 (((mayC_iff l).1 HM.out).2.2.2.2.2.2)).1.2
              omega
            have HSL := Lib.hid hsl
            clear hsl
            have HSB := Lib.hid (se_bound HM.out)
            clear HK1 HE1 HB5 HD0 HS1
            go_loopw [45] (fun x wr => ∃ (n : Nat) (v : Value), n ≤ sn ∧ x = .int .i64 n ∧ Hid (LessAt w c day k l wa.heap.size w5.heap.size n v wr)) (fun x wr => sn - (intOf x).toNat)
            case atStart => exact ⟨0, _, Nat.zero_le _, rfl, HL0⟩
            case round =>
              obtain ⟨n, v, hn, rfl, hL⟩ := hrel
              by_cases hlt : n < sn
              · have HPs : Hid (PtsAt wr wr.heap.size sA sn l.se) := by have := (HC.out.at_ hL.out.2.2.2.1).2 5; rw [← hsA, ← hsn]; exact this
                obtain ⟨ad, p, rfl, hbl, hlk, e0, e1, e2⟩ := HPs.out.at_ hlt
                have i0' : (0 : Int) ≤ (n : Int) := by omega
                have i1' : (n : Int) < (sn : Int) := by omega
                have HLK := Lib.hid hlk
                have hps := HSB.out p (List.mem_of_getElem? hlk)
                have u0 : 0 ≤ p.s * k := Int.mul_nonneg hps.1 (by omega)
                have u1 : p.s * k ≤ 9999 * 9 := Int.mul_le_mul hps.2 k9 (by omega) (by omega)
                obtain ⟨ao, n', cap, rfl⟩ : ∃ ao n' cap, v = .slice ao n' cap := by
                  rcases hL.out.2.2.2.2.1.2 with ⟨hv, _⟩ | ⟨g, cap, cur, hv, _⟩
                  · exact ⟨_, _, _, hv⟩
                  · exact ⟨_, _, _, hv⟩
                obtain ⟨pa, pb, ps⟩ := p
                dsimp only at e0 e1 e2 hps u0 u1
                have HP0 : Hid (Blk (wr.alloc (.cells #[.int .i64 0, .int .i64 0, .int .i64 0] 43)) wr.heap.size 43 #[.int .i64 0, .int .i64 0, .int .i64 0]) := Blk.new wr _ _
                have hb7 : Below wr.heap.size wr ((wr.alloc (.cells #[.int .i64 0, .int .i64 0, .int .i64 0] 43)).setRow wr.heap.size #[.int .i64 pa, .int .i64 pb, .int .i64 ps]) := below_setRow ((Below.refl _ _).alloc (Nat.le_refl _) _) (Nat.le_refl _) _
                have HPr : Hid (Blk ((wr.alloc (.cells #[.int .i64 0, .int .i64 0, .int .i64 0] 43)).setRow wr.heap.size #[.int .i64 pa, .int .i64 pb, .int .i64 ps]) wr.heap.size 43 #[.int .i64 pa, .int .i64 pb, .int .i64 ps]) := HP0.out.row _
                have HL7 : Hid (LessAt w c day k l wa.heap.size w5.heap.size n (.slice ao n' cap) ((wr.alloc (.cells #[.int .i64 0, .int .i64 0, .int .i64 0] 43)).setRow wr.heap.size #[.int .i64 pa, .int .i64 pb, .int .i64 ps])) := hL.out.below hb7
                have HL8 : Hid (LessAt w c day k l wa.heap.size w5.heap.size n (.slice ao n' cap) (((wr.alloc (.cells #[.int .i64 0, .int .i64 0, .int .i64 0] 43)).setRow wr.heap.size #[.int .i64 pa, .int .i64 pb, .int .i64 ps]).setCell ⟨wr.heap.size, 2, none⟩ (.int .i64 (ps * k)))) := hL.out.below (hb7.setCell (p := ⟨wr.heap.size, 2, none⟩) (Nat.le_refl _) _)
                have HP8 : Hid (Blk (((wr.alloc (.cells #[.int .i64 0, .int .i64 0, .int .i64 0] 43)).setRow wr.heap.size #[.int .i64 pa, .int .i64 pb, .int .i64 ps]).setCell ⟨wr.heap.size, 2, none⟩ (.int .i64 (ps * k))) wr.heap.size 43 #[.int .i64 pa, .int .i64 pb, .int .i64 (ps * k)]) := HPr.out.setCell 2 _
                clear hb7
                by_cases hbig : 9999 < ps * k
                · go_wp2_with (refine wpList_store_row rfl 43 (.tmp 11) (.tmp 48) (by rfl) wr.heap.size #[.int .i64 pa, .int .i64 pb, .int .i64 ps] (by rfl) (by rfl) 43 #[.int .i64 0, .int .i64 0, .int .i64 0] HP0.out (by kernel_rfl) rfl (part_all _ _ _) ?_; generalize ((wr.alloc (.cells #[.int .i64 0, .int .i64 0, .int .i64 0] 43)).setRow wr.heap.size #[.int .i64 pa, .int .i64 pb, .int .i64 ps]) = w7 at *; have kp : w7.cell? ⟨wr.heap.size, 2, none⟩ = some (.int .i64 ps) := HPr.out.cell 2)
                  go_ret
                  exact ⟨rfl, HL7.out.2.2.2.1⟩
                · go_wp2_with (first
                    | (refine wpList_store_row rfl 43 (.tmp 11) (.tmp 48) (by rfl) wr.heap.size #[.int .i64 pa, .int .i64 pb, .int .i64 ps] (by rfl) (by rfl) 43 #[.int .i64 0, .int .i64 0, .int .i64 0] HP0.out (by kernel_rfl) rfl (part_all _ _ _) ?_; generalize ((wr.alloc (.cells #[.int .i64 0, .int .i64 0, .int .i64 0] 43)).setRow wr.heap.size #[.int .i64 pa, .int .i64 pb, .int .i64 ps]) = w7 at *; have kp : w7.cell? ⟨wr.heap.size, 2, none⟩ = some (.int .i64 ps) := HPr.out.cell 2; have fp : w7.frozen? ⟨wr.heap.size, 2, none⟩ = false := HPr.out.frozen 2; have kb : (w7.setCell ⟨wr.heap.size, 2, none⟩ (.int .i64 (ps * k))).cell? ⟨wa.heap.size, 6, none⟩ = some (.slice ao n' cap) := HL8.out.2.1.cell 6)
                    | (refine wpList_load_row rfl 43 (.tmp 11) (by rfl) wr.heap.size (by rfl) 43 #[.int .i64 pa, .int .i64 pb, .int .i64 (ps * k)] (0, 0) _ HP8.out Tryz.underlying43 rfl (by kernel_rfl) ?_; generalize w7.setCell ⟨wr.heap.size, 2, none⟩ (.int .i64 (ps * k)) = w8 at *)
                    | (at_builtin; refine wpList_append_own _ rfl _ _ 24 rfl (w5.heap.size + 1) 43 i0 (.agg #[.int .i64 0, .int .i64 0, .int .i64 0]) 3 24 Tryz.underlying24 hi hz0 hz1 hz2 rfl (by decide) _ _ _ rfl ((HL8.out.below ((Below.refl _ _).alloc (Nat.le_refl _) _)).2.2.2.2.1) ⟨w8.heap.size, 0, none⟩ 1 1 [.int .i64 pa, .int .i64 pb, .int .i64 (ps * k)] rfl rfl ?c1 ?c2 ?c3 ?c4 ?c5 ?_))
                  case c2 => exact ⟨rfl, rfl, rfl⟩
                  case c3 => unfold maxLen; omega
                  case c4 => omega
                  case c5 => have := HL8.out.2.2.1.lt; simp; omega
                  intro v' w9 hown' hgrow _
                  have HB9 : Hid (LessAt w c day k l wa.heap.size w5.heap.size n (.slice ao n' cap) (w8.alloc (.cells #[.int .i64 pa, .int .i64 pb, .int .i64 (ps * k)] 43))) := HL8.out.below ((Below.refl _ _).alloc (Nat.le_refl _) _)
                  have HM9 : Hid (Blk w9 wa.heap.size 26 (lessC c w5.heap.size (.slice ao n' cap))) := HB9.out.made H1A.out hgrow
                  have HLn : Hid (LessAt w c day k l wa.heap.size w5.heap.size (n + 1) v' (w9.setCell ⟨wa.heap.size, 6, none⟩ v')) := HB9.out.put h0a H1A.out hgrow HLK.out hbig hown'
                  have k9c : w9.cell? ⟨wa.heap.size, 6, none⟩ = some (.slice ao n' cap) := HM9.out.cell 6
                  have f9c : w9.frozen? ⟨wa.heap.size, 6, none⟩ = false := HM9.out.frozen 6
                  obtain ⟨ao', n9, cap', rfl⟩ : ∃ ao n' cap, v' = .slice ao n' cap := by
                    rcases HLn.out.2.2.2.2.1.2 with ⟨hv, _⟩ | ⟨g, cap, cur, hv, _⟩
                    · exact ⟨_, _, _, hv⟩
                    · exact ⟨_, _, _, hv⟩
                  clear hown' hgrow kb fp kp hlk
                  go_wp2_with fail
                  go_roundw
                  case rel => exact ⟨n + 1, _, by omega, by go_num, HLn⟩
                  case measure => simp [intOf]; omega
              · have hnn : n = l.se.length := by have := HSL.out; omega
                obtain ⟨cs, hcd, hcal⟩ := hL.out.cal hnn (HC.out.at_ hL.out.2.2.2.1) (by unfold maxLen; omega)
                have i1' : ¬ ((n : Int) < (sn : Int)) := by omega
                have HKw := Lib.hid hL.out.1
                have HDw : Hid (Blk wr wa.heap.size 26 ({ c with d := ⟨some ⟨w5.heap.size, 0, none⟩, 1, 1⟩, s := cs } : Ch).cells) := by have := hL.out.2.1; rw [hcd] at this; exact this
                have HBw := Lib.hid hL.out.2.2.2.1
                have HCd := Lib.hid hcal
                have HSm : Hid (∀ p ∈ l.se, p.s * k ≤ 9999) := fun p hp => hL.out.2.2.2.2.2 p (by rw [List.take_of_length_le (by have := HSL.out; omega)]; exact hp)
                obtain ⟨dA, hdA⟩ : ∃ x, c.d.A = x := ⟨_, rfl⟩
                obtain ⟨dn, hdn⟩ : ∃ x, c.d.n = x := ⟨_, rfl⟩
                have k0 : wr.cell? ⟨w.heap.size, 0, none⟩ = some (.slice dA dn c.d.c) := by rw [← hdA, ← hdn]; exact HKw.out.cell 0
                have HI : Hid (IntsAt wr wr.heap.size dA dn l.ds) := by have := (HC.out.at_ HBw.out).1; rw [← hdA, ← hdn]; exact this
                have hdl : l.ds.length = dn := HI.out.1
                clear hcd hcal hL hdA hdn HL0 hsA hnn
                by_cases hz : dn = 0
                · subst hz
                  have hday : dayB l.ds day = true := by unfold dayB; rw [List.length_eq_zero_iff.1 hdl]; rfl
                  obtain ⟨hq1, hq2⟩ := less_match HM.out k1 d1 d7 hday HSm.out
                  have HNX : Hid (nextOk { l with ds := [day], se := l.se.map (·.times k) } after = true → nextOk l after = true ∧ nextN l after ≤ nextN { l with ds := [day], se := l.se.map (·.times k) } after) := fun h => less_next hq2 h
                  have HN1 := Lib.hid (fun W h1 h2 => Next_any c l after W h1 h2)
                  have HN2 := Lib.hid (fun c' W h1 h2 => Next_any c' { l with ds := [day], se := l.se.map (·.times k) } after W h1 h2)
                  have HN3 := Lib.hid (fun c' W h1 h2 => May_any c' { l with ds := [day], se := l.se.map (·.times k) } W h1 h2)
                  rw [hq1] at HN3
                  clear hq1 hq2
                  generalize ({ l with ds := [day], se := l.se.map (·.times k) } : Cl) = ld at *
                  generalize nextN l after = x at *
                  generalize nextN ld after = z at *
                  obtain ⟨ok, hok⟩ : ∃ b, nextOk l after = b := ⟨_, rfl⟩
                  rw [hok] at HN1 HNX
                  clear hok
                  rcases hnd : nextOk ld after with _ | _
                  · rw [hnd] at HN2
                    clear HNX hnd
                    go_wp2_with (refine wpList_load_row rfl 26 (.tmp 4) (by rfl) w.heap.size (by rfl) 26 c.cells (0, 0) _ HKw.out Tryz.underlying26 rfl (by kernel_rfl) ?_)
                    refine (HN1.out _ (HT.out.below HBw.out).t (HC.out.at_ HBw.out)).mono ?_
                    rintro e wb ⟨rfl, hbb⟩
                    have HDb := Lib.hid (HDw.out.below hbb HDw.out.lt)
                    have HBb := Lib.hid (more3 HBw.out HBw.out.size hbb)
                    have HCb := Lib.hid (HCd.out.at_ hbb)
                    clear hbb
                    go_wp2_with (refine wpList_load_row rfl 26 (.tmp 9) (by rfl) wa.heap.size (by rfl) 26 ({ c with d := ⟨some ⟨w5.heap.size, 0, none⟩, 1, 1⟩, s := cs } : Ch).cells (0, 0) _ HDb.out Tryz.underlying26 rfl (by kernel_rfl) ?_)
                    refine (HN2.out _ _ (HT.out.below HBb.out).t HCb.out).mono ?_
                    rintro e wc ⟨rfl, hbc⟩
                    have HDc := Lib.hid (HDb.out.below hbc HDb.out.lt)
                    have HBc := Lib.hid (more3 HBb.out HBb.out.size hbc)
                    have HCc := Lib.hid (HCb.out.at_ hbc)
                    clear hbc
                    go_wp2_with (refine wpList_load_row rfl 26 (.tmp 9) (by rfl) wa.heap.size (by rfl) 26 ({ c with d := ⟨some ⟨w5.heap.size, 0, none⟩, 1, 1⟩, s := cs } : Ch).cells (0, 0) _ HDc.out Tryz.underlying26 rfl (by kernel_rfl) ?_)
                    refine (HN3.out _ _ (HT.out.below HBc.out).t HCc.out).mono ?_
                    rintro e we ⟨rfl, hbe⟩
                    have HBe := Lib.hid (more3 HBc.out HBc.out.size hbe)
                    clear hbe
                    go_wp2_with fail
                    go_ret
                    exact ⟨rfl, HBe.out⟩
                  · rw [hnd] at HN2 HNX
                    obtain ⟨rfl, hle⟩ := HNX.out rfl
                    clear HNX hnd
                    go_wp2_with (refine wpList_load_row rfl 26 (.tmp 4) (by rfl) w.heap.size (by rfl) 26 c.cells (0, 0) _ HKw.out Tryz.underlying26 rfl (by kernel_rfl) ?_)
                    refine (HN1.out _ (HT.out.below HBw.out).t (HC.out.at_ HBw.out)).mono ?_
                    rintro e wb ⟨rfl, hbb⟩
                    have HDb := Lib.hid (HDw.out.below hbb HDw.out.lt)
                    have HBb := Lib.hid (more3 HBw.out HBw.out.size hbb)
                    have HCb := Lib.hid (HCd.out.at_ hbb)
                    clear hbb
                    go_wp2_with (refine wpList_load_row rfl 26 (.tmp 9) (by rfl) wa.heap.size (by rfl) 26 ({ c with d := ⟨some ⟨w5.heap.size, 0, none⟩, 1, 1⟩, s := cs } : Ch).cells (0, 0) _ HDb.out Tryz.underlying26 rfl (by kernel_rfl) ?_)
                    refine (HN2.out _ _ (HT.out.below HBb.out).t HCb.out).mono ?_
                    rintro e wc ⟨rfl, hbc⟩
                    have HDc := Lib.hid (HDb.out.below hbc HDb.out.lt)
                    have HBc := Lib.hid (more3 HBb.out HBb.out.size hbc)
                    have HCc := Lib.hid (HCb.out.at_ hbc)
                    clear hbc
                    go_wp2_with (refine wpList_load_row rfl 26 (.tmp 9) (by rfl) wa.heap.size (by rfl) 26 ({ c with d := ⟨some ⟨w5.heap.size, 0, none⟩, 1, 1⟩, s := cs } : Ch).cells (0, 0) _ HDc.out Tryz.underlying26 rfl (by kernel_rfl) ?_)
                    refine (HN3.out _ _ (HT.out.below HBc.out).t HCc.out).mono ?_
                    rintro e we ⟨rfl, hbe⟩
                    have HBe := Lib.hid (more3 HBc.out HBc.out.size hbe)
                    clear hbe
                    go_wp2_with fail
                    go_ret
                    exact ⟨rfl, HBe.out⟩
                · obtain ⟨ad, rfl, hbl, e1⟩ := HI.out.at_ (k := 0) (by omega)
                  have dpos : (0 : Int) < (dn : Int) := by omega
                  have dposN : 0 < dn := by omega
                  rw [Addr.add_zero'] at e1
                  have hge : l.ds[0]? = some (l.ds.getD 0 0) := by rw [List.getD_eq_getElem?_getD, List.getElem?_eq_getElem (by omega)]; rfl
                  obtain ⟨y, hy⟩ : ∃ y, l.ds.getD 0 0 = y := ⟨_, rfl⟩
                  rw [hy] at e1 hge
                  by_cases hyd : y = day
                  · have hday : dayB l.ds day = true := by
                      unfold dayB
                      rw [Bool.or_eq_true, List.contains_iff_mem, ← hyd]
                      exact .inr (List.mem_of_getElem? hge)
                    rw [hyd] at e1
                    clear hge hy hyd
                    obtain ⟨hq1, hq2⟩ := less_match HM.out k1 d1 d7 hday HSm.out
                    have HNX : Hid (nextOk { l with ds := [day], se := l.se.map (·.times k) } after = true → nextOk l after = true ∧ nextN l after ≤ nextN { l with ds := [day], se := l.se.map (·.times k) } after) := fun h => less_next hq2 h
                    have HN1 := Lib.hid (fun W h1 h2 => Next_any c l after W h1 h2)
                    have HN2 := Lib.hid (fun c' W h1 h2 => Next_any c' { l with ds := [day], se := l.se.map (·.times k) } after W h1 h2)
                    have HN3 := Lib.hid (fun c' W h1 h2 => May_any c' { l with ds := [day], se := l.se.map (·.times k) } W h1 h2)
                    rw [hq1] at HN3
                    clear hq1 hq2
                    generalize ({ l with ds := [day], se := l.se.map (·.times k) } : Cl) = ld at *
                    generalize nextN l after = x at *
                    generalize nextN ld after = z at *
                    obtain ⟨ok, hok⟩ : ∃ b, nextOk l after = b := ⟨_, rfl⟩
                    rw [hok] at HN1 HNX
                    clear hok
                    rcases hnd : nextOk ld after with _ | _
                    · rw [hnd] at HN2
                      clear HNX hnd
                      go_wp2_with (refine wpList_load_row rfl 26 (.tmp 4) (by rfl) w.heap.size (by rfl) 26 c.cells (0, 0) _ HKw.out Tryz.underlying26 rfl (by kernel_rfl) ?_)
                      refine (HN1.out _ (HT.out.below HBw.out).t (HC.out.at_ HBw.out)).mono ?_
                      rintro e wb ⟨rfl, hbb⟩
                      have HDb := Lib.hid (HDw.out.below hbb HDw.out.lt)
                      have HBb := Lib.hid (more3 HBw.out HBw.out.size hbb)
                      have HCb := Lib.hid (HCd.out.at_ hbb)
                      clear hbb
                      go_wp2_with (refine wpList_load_row rfl 26 (.tmp 9) (by rfl) wa.heap.size (by rfl) 26 ({ c with d := ⟨some ⟨w5.heap.size, 0, none⟩, 1, 1⟩, s := cs } : Ch).cells (0, 0) _ HDb.out Tryz.underlying26 rfl (by kernel_rfl) ?_)
                      refine (HN2.out _ _ (HT.out.below HBb.out).t HCb.out).mono ?_
                      rintro e wc ⟨rfl, hbc⟩
                      have HDc := Lib.hid (HDb.out.below hbc HDb.out.lt)
                      have HBc := Lib.hid (more3 HBb.out HBb.out.size hbc)
                      have HCc := Lib.hid (HCb.out.at_ hbc)
                      clear hbc
                      go_wp2_with (refine wpList_load_row rfl 26 (.tmp 9) (by rfl) wa.heap.size (by rfl) 26 ({ c with d := ⟨some ⟨w5.heap.size, 0, none⟩, 1, 1⟩, s := cs } : Ch).cells (0, 0) _ HDc.out Tryz.underlying26 rfl (by kernel_rfl) ?_)
                      refine (HN3.out _ _ (HT.out.below HBc.out).t HCc.out).mono ?_
                      rintro e we ⟨rfl, hbe⟩
                      have HBe := Lib.hid (more3 HBc.out HBc.out.size hbe)
                      clear hbe
                      go_wp2_with fail
                      go_ret
                      exact ⟨rfl, HBe.out⟩
                    · rw [hnd] at HN2 HNX
                      obtain ⟨rfl, hle⟩ := HNX.out rfl
                      clear HNX hnd
                      go_wp2_with (refine wpList_load_row rfl 26 (.tmp 4) (by rfl) w.heap.size (by rfl) 26 c.cells (0, 0) _ HKw.out Tryz.underlying26 rfl (by kernel_rfl) ?_)
                      refine (HN1.out _ (HT.out.below HBw.out).t (HC.out.at_ HBw.out)).mono ?_
                      rintro e wb ⟨rfl, hbb⟩
                      have HDb := Lib.hid (HDw.out.below hbb HDw.out.lt)
                      have HBb := Lib.hid (more3 HBw.out HBw.out.size hbb)
                      have HCb := Lib.hid (HCd.out.at_ hbb)
                      clear hbb
                      go_wp2_with (refine wpList_load_row rfl 26 (.tmp 9) (by rfl) wa.heap.size (by rfl) 26 ({ c with d := ⟨some ⟨w5.heap.size, 0, none⟩, 1, 1⟩, s := cs } : Ch).cells (0, 0) _ HDb.out Tryz.underlying26 rfl (by kernel_rfl) ?_)
                      refine (HN2.out _ _ (HT.out.below HBb.out).t HCb.out).mono ?_
                      rintro e wc ⟨rfl, hbc⟩
                      have HDc := Lib.hid (HDb.out.below hbc HDb.out.lt)
                      have HBc := Lib.hid (more3 HBb.out HBb.out.size hbc)
                      have HCc := Lib.hid (HCb.out.at_ hbc)
                      clear hbc
                      go_wp2_with (refine wpList_load_row rfl 26 (.tmp 9) (by rfl) wa.heap.size (by rfl) 26 ({ c with d := ⟨some ⟨w5.heap.size, 0, none⟩, 1, 1⟩, s := cs } : Ch).cells (0, 0) _ HDc.out Tryz.underlying26 rfl (by kernel_rfl) ?_)
                      refine (HN3.out _ _ (HT.out.below HBc.out).t HCc.out).mono ?_
                      rintro e we ⟨rfl, hbe⟩
                      have HBe := Lib.hid (more3 HBc.out HBc.out.size hbe)
                      clear hbe
                      go_wp2_with fail
                      go_ret
                      exact ⟨rfl, HBe.out⟩
                  · clear hge hy
                    go_wp2_with fail
                    go_ret
                    exact ⟨rfl, HBw.out⟩
          · go_wp2_with fail
            all_goals (go_ret; exact ⟨rfl, HB2.out⟩)
        · go_wp2_with fail
          all_goals (go_ret; exact ⟨rfl, HB2.out⟩)
      · go_wp2_with fail
        all_goals (go_ret; exact ⟨rfl, HB2.out⟩)
    · go_wp2_with fail
      all_goals (go_ret; exact ⟨rfl, HB2.out⟩)
end Go.Proofs.YtnbdcjohibfjaaaGreatDoor
