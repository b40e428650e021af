/- The walk of the document's Next. -/
import Derived.Test.YtncolcjejgmhjaaGreatDoorCxbp
import Derived.Test.YtncolcjejgmhjaaGreatDoorCxam
import Derived.Test.YtncolcjejgmhjaaGreatDoorCxbq
import Derived.Test.YtncolcjejgmhjaaGreatDoorCxbr
import Derived.Test.YtncolcjejgmhjaaGreatDoorCxau
import Derived.Deep.OwnRows
import Derived.Deep.MidRow
namespace Go.Proofs.YtncolcjejgmhjaaGreatDoor
open Go.RowKit
def marks (l : Cl) (k : Nat) : Nat → Value := fun j => .bool (decide (j < k * 2200) && inF (j / 2200) (l.fld (j / 2200)) ((j % 2200 : Nat) : Int))
theorem marks_at (l : Cl) {f n : Nat} (hf : f < 6) (hn : n < 2200) : marks l 6 (f * 2200 + n) = .bool (inF f (l.fld f) (n : Int)) := by
  unfold marks
  rw [show (f * 2200 + n) / 2200 = f by omega, show (f * 2200 + n) % 2200 = n by omega, decide_eq_true (by omega)]
  rfl
theorem rowIs_setCells {b : Nat} {t : TypeId} {n : Nat} (vs : List Value) : ∀ (o : Nat) (w : World) (g : Nat → Value), w.rowIs b t n g → (w.setCells b o vs).rowIs b t n (fun j => if o ≤ j ∧ j < o + vs.length then vs.getD (j - o) undef else g j) := by
  induction vs with
  | nil => intro o w g h; exact h.congr fun j _ => by rw [if_neg (fun c => by have := c.1; have := c.2; simp at this; omega)]
  | cons v r ih =>
    intro o w g h
    refine (ih (o + 1) _ _ (h.set o v)).congr fun j _ => ?_
    by_cases e : j = o
    · subst e
      rw [if_neg (by omega), if_pos rfl, if_pos (by simp)]
      simp
    · rw [if_neg e]
      by_cases c : o + 1 ≤ j ∧ j < o + 1 + r.length
      · rw [if_pos c, if_pos (by simp; omega), show j - o = (j - (o + 1)) + 1 by omega]
        rfl
      · rw [if_neg c, if_neg (by simp; omega)]
theorem marks_store {w : World} {b : Nat} {t : TypeId} {l : Cl} {f : Nat} {C : Array Value} (h : w.rowIs b t 13200 (marks l f)) (hC : C.size = 2200) (hc : ∀ j, j < 2200 → C[j]? = some (.bool (inF f (l.fld f) j))) :
    (w.setCells b (f * 2200) C.toList).rowIs b t 13200 (marks l (f + 1)) := by
  refine (rowIs_setCells C.toList (f * 2200) w _ h).congr fun j _ => ?_
  have hl : C.toList.length = 2200 := by simp [hC]
  rw [hl]
  by_cases c : f * 2200 ≤ j ∧ j < f * 2200 + 2200
  · rw [if_pos c]
    have h1 := hc (j - f * 2200) (by omega)
    rw [List.getD_eq_getElem?_getD, Array.getElem?_toList, h1]
    unfold marks
    rw [show j / 2200 = f by omega, show j % 2200 = j - f * 2200 by omega, decide_eq_true (by omega)]
    rfl
  · rw [if_neg c]
    unfold marks
    obtain ⟨p, hp⟩ : ∃ p, f * 2200 = p := ⟨_, rfl⟩
    obtain ⟨q, hq⟩ : ∃ q, (f + 1) * 2200 = q := ⟨_, rfl⟩
    rw [hp, hq]
    by_cases d : j < p
    · have e1 : decide (j < p) = true := decide_eq_true d
      have e2 : decide (j < q) = true := decide_eq_true (by omega)
      rw [e1, e2]
    · have e1 : decide (j < p) = false := decide_eq_false d
      have e2 : decide (j < q) = false := decide_eq_false (by omega)
      simp only [e1, e2, Bool.false_and]
theorem marks_there {w : World} {b : Nat} {t : TypeId} {g : Nat → Value} (h : w.rowIs b t 13200 g) {f : Nat} (hf : f < 6) : w.there b (f * 2200) 2200 := fun j hj => by
  have e := h.cell (i := f * 2200 + j) (by omega)
  exact ⟨by rw [e]; rfl, h.frozen (f * 2200 + j)⟩
set_option maxRecDepth 1000000 in
theorem marksZero : (Tryz.prog.info? 54).bind (·.zero) = some (.agg (Array.replicate 13200 (.bool false))) := by kernel_rfl
set_option maxRecDepth 1000000 in
theorem marks_new (l : Cl) (w : World) (t : TypeId) : (w.alloc (.cells (Array.replicate 13200 (.bool false)) t)).rowIs w.heap.size t 13200 (marks l 0) := by
  have h := World.rowIs_alloc w (Array.replicate 13200 (.bool false)) t (marks l 0) (fun i hi => by rw [Array.size_replicate] at hi; simp [hi, marks])
  rw [Array.size_replicate] at h
  exact h
def NextAt (w : World) (b : Nat) (c : Ch) (l : Cl) (k : Nat) (wr : World) : Prop := wr.rowIs b 54 13200 (marks l k) ∧ Blk wr w.heap.size 25 c.cells ∧ Below w.heap.size w wr ∧ w.heap.size < b
theorem NextAt.below {w : World} {b : Nat} {c : Ch} {l : Cl} {k : Nat} {wr w' : World} (h : NextAt w b c l k wr) (hb : Below wr.heap.size wr w') : NextAt w b c l k w' :=
  ⟨h.1.of_block (hb.block _ h.1.lt), h.2.1.below hb h.2.1.lt, more3 h.2.2.1 h.2.2.1.size hb, h.2.2.2⟩
theorem NextAt.store {w : World} {b : Nat} {c : Ch} {l : Cl} {f : Nat} {wr : World} {C : Array Value} (h : NextAt w b c l f wr) (hC : C.size = 2200) (hc : ∀ j, j < 2200 → C[j]? = some (.bool (inF f (l.fld f) j))) :
    NextAt w b c l (f + 1) (wr.setCells b (f * 2200) C.toList) :=
  ⟨marks_store h.1 hC hc, blk_setCells (Nat.ne_of_lt h.2.2.2) _ _ _ h.2.1, below_setCells (Nat.le_of_lt h.2.2.2) _ _ _ h.2.2.1, h.2.2.2⟩
theorem NextAt.setOther {w : World} {b : Nat} {c : Ch} {l : Cl} {k g : Nat} {wr : World} (h : NextAt w b c l k wr) (h1 : w.heap.size ≠ g) (h2 : b ≠ g) (i : Nat) (v : Value) (hg : w.heap.size ≤ g) : NextAt w b c l k (wr.setCell ⟨g, i, none⟩ v) :=
  ⟨h.1.setOther (a := ⟨g, i, none⟩) h2 v, h.2.1.setOther (a := ⟨g, i, none⟩) h1 v, h.2.2.1.setCell (p := ⟨g, i, none⟩) hg v, h.2.2.2⟩
theorem NextAt.at_ {w : World} {b : Nat} {c : Ch} {l : Cl} {wr : World} (h : NextAt w b c l 6 wr) {f n : Nat} (hf : f < 6) (hn : n < 2200) (o : Nat) (ho : f * 2200 + n = o) : wr.cell? ⟨b, o, none⟩ = some (.bool (inF f (l.fld f) (n : Int))) := by
  rw [← ho, h.1.cell (i := f * 2200 + n) (by omega), marks_at l hf hn]
theorem all7 (a b c d e f g : Int) : (#[.int .i64 a, .int .i64 b, .int .i64 c, .int .i64 d, .int .i64 e, .int .i64 f, .int .i64 g] : Array Value).all (·.oneCell') = true := by simp [Value.oneCell']
set_option maxRecDepth 1000000 in
set_option maxHeartbeats 8000000 in
theorem rNext_any (c : Ch) (l : Cl) (a : Int) (w : World) (ha : -9223372036854775808 ≤ a) (ha' : a ≤ 9223372036854775807) (hc : CalAt w w.heap.size c l) :
    Calls Tryz.prog 7 #[.agg c.cells, .int .i64 a] w fun e w' => e = .returned (.tuple #[.int .i64 (nextN l a), .bool (nextOk l a)]) ∧ Below w.heap.size w w' := by
  have HC := Lib.hid hc
  obtain ⟨x, hx⟩ : ∃ x, max a (-1) = x := ⟨_, rfl⟩
  have hx0 : -1 ≤ x := by omega
  have hx1 : x ≤ 9223372036854775807 := by omega
  have HX : Hid (nextN l x = nextN l a ∧ nextOk l x = nextOk l a) := by have := next_max l a; rw [hx] at this; exact this
  clear hc
  have HBX : Hid (Blk (w.alloc (.cells c.cells 25)) w.heap.size 25 c.cells) := Blk.new w _ _
  have HB0 : Hid (Below w.heap.size w (w.alloc (.cells c.cells 25))) := (Below.refl _ _).alloc (Nat.le_refl _) _
  have HC0 : Hid (CalAt (w.alloc (.cells c.cells 25)) (w.alloc (.cells c.cells 25)).heap.size c l) := HC.out.at_ HB0.out
  go_enter Tryz.func7, Tryz.ntmps7
  go_upto_region 1 with fail
  go_cut [1] (fun v wx => v = .int .i64 x ∧ wx = w.alloc (.cells c.cells 25))
  case first =>
    go_wp2_with fail
    all_goals (go_meet; exact ⟨by congr 1; omega, rfl⟩)
  case rest =>
    obtain ⟨rfl, rfl⟩ := hcut
    clear hx
    go_wp2_with (refine wpList_load_row rfl 25 (.tmp 2) (by rfl) w.heap.size (by rfl) 25 c.cells (0, 0) _ HBX.out Tryz.underlying25 rfl (by kernel_rfl) ?_)
    refine (MayCal_any c l _ HC0.out).mono ?_
    rintro e w1 ⟨rfl, hb⟩
    have HB1 := Lib.hid (more3 HB0.out HB0.out.size hb)
    have HX1 := Lib.hid (HBX.out.below hb HBX.out.lt)
    clear hb
    cases hm : mayC l with
    | false =>
      obtain ⟨e1, e2⟩ := next_may hm x
      have HR : Hid (nextN l a = 0 ∧ nextOk l a = false) := by rw [← HX.out.1, ← HX.out.2]; exact ⟨e1, e2⟩
      clear e1 e2
      go_wp2_with fail
      go_ret2
      exact ⟨by rw [HR.out.1, HR.out.2]; rfl, HB1.out⟩
    | true =>
      have HM := Lib.hid hm
      clear hm
      by_cases hl : 6311433599 ≤ x
      · have HR : Hid (nextN l a = 0 ∧ nextOk l a = false) := by rw [← HX.out.1, ← HX.out.2]; exact next_late l hl
        go_wp2_with fail
        go_ret2
        exact ⟨by rw [HR.out.1, HR.out.2]; rfl, HB1.out⟩
      · have hl' : x < 6311433599 := by omega
        have hl2 : decide ((6311433599 : Int) ≤ x) = false := decide_eq_false hl
        clear hl
        have HN0 : Hid (NextAt w w1.heap.size c l 0 (w1.alloc (.cells (Array.replicate 13200 (.bool false)) 54))) := ⟨marks_new l w1 _, HX1.out.alloc _, HB1.out.alloc HB1.out.size _, HX1.out.lt⟩
        go_wp2_with (refine wpList_alloc_big rfl 54 rfl (.agg (Array.replicate 13200 (.bool false))) marksZero ?_)
        generalize w1.heap.size = b at *
        go_loopw [7] (fun v wr => ∃ k : Nat, k ≤ 6 ∧ v = .int .i64 k ∧ Hid (NextAt w b c l k wr)) (fun v wr => 6 - (intOf v).toNat)
        case atStart => exact ⟨0, Nat.zero_le _, rfl, HN0⟩
        case round =>
          obtain ⟨k, hk, rfl, hN⟩ := hrel
          by_cases hlt : k < 6
          · have hk5 : k ≤ 5 := by omega
            have f0 : (0 : Int) ≤ (k : Int) := by omega
            have f1 : (k : Int) < 6 := by omega
            have HMF := Lib.hid (may_fld HM.out hk5)
            go_wp2_with (refine wpList_load_row rfl 25 (.tmp 2) (by rfl) w.heap.size (by rfl) 25 c.cells (0, 0) _ hN.out.2.1 Tryz.underlying25 rfl (by kernel_rfl) ?_)
            refine (field_any c k hk5 _).mono ?_
            rintro e w2 ⟨rfl, hb2⟩
            have HN2 := Lib.hid (hN.out.below hb2)
            have HP := Lib.hid (HC.out.2 k)
            generalize Ch.fsl c k = Sg at HP
            obtain ⟨A, n, cc⟩ := Sg
            dsimp only
            have HP : Hid (PtsAt w w.heap.size A n (l.fld k)) := HP
            clear hb2
            go_wp2_with fail
            refine (numbers_any A n cc k (l.fld k) hk5 HMF.out _ ((HP.out.below HN2.out.2.2.1).wide HN2.out.2.2.1.size)).mono ?_
            rintro e w3 ⟨C, rfl, hCs, hC, hb3⟩
            have HN3 := Lib.hid (HN2.out.below hb3)
            have HN4 := Lib.hid (HN3.out.store hCs hC)
            have HI : Hid ((Tryz.prog.info? 53).map (·.size) = some C.size) := by show _ = _; rw [sizeMarks, hCs]
            have HT : Hid (w3.there b (k * 2200) C.size) := by show World.there _ _ _ _; rw [hCs]; exact marks_there HN3.out.1 hlt
            have H1 : Hid (C.all (·.oneCell') = true) := by
              show _ = true
              rw [Array.all_eq_true_iff_forall_mem]
              intro v hv
              obtain ⟨j, hj, e⟩ := Array.getElem_of_mem hv
              have h2 := hC j (by rw [← hCs]; exact hj)
              rw [Array.getElem?_eq_getElem hj, e] at h2
              rw [Option.some.inj h2]; rfl
            clear hb3 hCs hC
            go_wp2_with (refine wpList_store_mid rfl 53 (.tmp 36) (.tmp 35) (by rfl) b (k * 2200) C (by rfl) (by rfl) HT.out HI.out H1.out ?_)
            go_roundw
            case rel => exact ⟨k + 1, by omega, by go_num, HN4⟩
            case measure => simp [intOf]; omega
          · have hk6 : k = 6 := by omega
            have hN6 : Hid (NextAt w b c l 6 wr) := hk6 ▸ hN
            have hd6 : decide ((k : Int) < 6) = false := decide_eq_false (by omega)
            clear hN hk6
            have q0 : (0 : Int) ≤ x + 1 := by omega
            have HS0 : Hid (NoneTo l x (((((x + 1) / 86400).toNat : Nat) : Int) * 86400)) := none_start l (by omega)
            clear hk hlt HX1 HB1 HBX HB0 HC0 HN0
            go_wp2_with fail
            go_loopw [8] (fun v wr => ∃ n : Nat, (n : Int) ≤ 73049 ∧ v = .int .i64 n ∧ Hid (NoneTo l x ((n : Int) * 86400)) ∧ Hid (NextAt w b c l 6 wr)) (fun v wr => 73049 - (intOf v).toNat)
            case atStart => exact ⟨((x + 1) / 86400).toNat, by omega, by congr 1; omega, HS0, hN6⟩
            case round =>
              clear HS0 hN6
              obtain ⟨n, hn, rfl, hNo, hN⟩ := hrel
              by_cases hlt : (n : Int) < 73049
              · have n0 : (0 : Int) ≤ (n : Int) := by omega
                have HD := Lib.hid (day_date n0 hlt)
                obtain ⟨y0, y1, m0, m1, d0, d1⟩ := day_bd n0 hlt
                obtain ⟨Y, hY⟩ : ∃ Y : Nat, dY n = Y := ⟨(dY n).toNat, by omega⟩
                obtain ⟨M, hM⟩ : ∃ M : Nat, dM n = M := ⟨(dM n).toNat, by omega⟩
                obtain ⟨D, hD⟩ : ∃ D : Nat, dD n = D := ⟨(dD n).toNat, by omega⟩
                obtain ⟨Wd, hW⟩ : ∃ z, dW n = z := ⟨_, rfl⟩
                obtain ⟨fh, hfh⟩ : ∃ z, fH ((n : Int) * 86400) = z := ⟨_, rfl⟩
                obtain ⟨fi, hfi⟩ : ∃ z, fI ((n : Int) * 86400) = z := ⟨_, rfl⟩
                obtain ⟨fs, hfs⟩ : ∃ z, fS ((n : Int) * 86400) = z := ⟨_, rfl⟩
                rw [hY] at y0 y1
                rw [hM] at m0 m1
                rw [hD] at d0 d1
                have HOf := Lib.hid (fun W => rOf_any ((n : Int) * 86400) W)
                rw [HD.out.1, HD.out.2.1, HD.out.2.2.1, HD.out.2.2.2.1, HD.out.2.2.2.2, hY, hM, hD, hW, hfh, hfi, hfs] at HOf
                have HY := Lib.hid hY
                have HMo := Lib.hid hM
                have HDa := Lib.hid hD
                have HWe := Lib.hid hW
                clear hY hM hD hW hfh hfi hfs HD
                go_wp2_with fail
                refine (HOf.out _).mono ?_
                rintro e w2 ⟨rfl, hb2⟩
                have HN2 := Lib.hid (hN.out.below hb2)
                clear hb2 HOf
                have HZ : Hid (Blk (w2.alloc (.cells #[.int .i64 0, .int .i64 0, .int .i64 0, .int .i64 0, .int .i64 0, .int .i64 0, .int .i64 0] 39)) w2.heap.size 39 #[.int .i64 0, .int .i64 0, .int .i64 0, .int .i64 0, .int .i64 0, .int .i64 0, .int .i64 0]) := Blk.new w2 _ _
                have HD3 : Hid (Blk ((w2.alloc (.cells #[.int .i64 0, .int .i64 0, .int .i64 0, .int .i64 0, .int .i64 0, .int .i64 0, .int .i64 0] 39)).setRow w2.heap.size #[.int .i64 (Y : Int), .int .i64 (M : Int), .int .i64 (D : Int), .int .i64 fh, .int .i64 fi, .int .i64 fs, .int .i64 Wd]) w2.heap.size 39 #[.int .i64 (Y : Int), .int .i64 (M : Int), .int .i64 (D : Int), .int .i64 fh, .int .i64 fi, .int .i64 fs, .int .i64 Wd]) := HZ.out.row _
                have HN3 : Hid (NextAt w b c l 6 ((w2.alloc (.cells #[.int .i64 0, .int .i64 0, .int .i64 0, .int .i64 0, .int .i64 0, .int .i64 0, .int .i64 0] 39)).setRow w2.heap.size #[.int .i64 (Y : Int), .int .i64 (M : Int), .int .i64 (D : Int), .int .i64 fh, .int .i64 fi, .int .i64 fs, .int .i64 Wd])) := HN2.out.below (below_setRow ((Below.refl _ _).alloc (Nat.le_refl _) _) (Nat.le_refl _) _)
                have hgw : w.heap.size ≠ w2.heap.size := by have := HN2.out.2.1.lt; omega
                have hgb : b ≠ w2.heap.size := by have := HN2.out.1.lt; omega
                go_upto_region 13 with (refine wpList_store_row rfl 39 (.tmp 9) (.tmp 48) (by rfl) w2.heap.size #[.int .i64 (Y : Int), .int .i64 (M : Int), .int .i64 (D : Int), .int .i64 fh, .int .i64 fi, .int .i64 fs, .int .i64 Wd] (by rfl) (by rfl) 39 #[.int .i64 0, .int .i64 0, .int .i64 0, .int .i64 0, .int .i64 0, .int .i64 0, .int .i64 0] HZ.out (by kernel_rfl) rfl (all7 _ _ _ _ _ _ _) ?_; have HBg : Hid (w.heap.size ≤ w2.heap.size) := HN2.out.2.2.1.size; generalize (w2.alloc (.cells #[.int .i64 0, .int .i64 0, .int .i64 0, .int .i64 0, .int .i64 0, .int .i64 0, .int .i64 0] 39)).setRow w2.heap.size #[.int .i64 (Y : Int), .int .i64 (M : Int), .int .i64 (D : Int), .int .i64 fh, .int .i64 fi, .int .i64 fs, .int .i64 Wd] = w3 at *; clear HZ; generalize w2.heap.size = g at *)
                obtain ⟨b0, hb0⟩ : ∃ z : Bool, inF 0 (l.fld 0) (Y : Int) = z := ⟨_, rfl⟩
                have k0 : w3.cell? ⟨b, Y, none⟩ = some (.bool b0) := by rw [HN3.out.at_ (f := 0) (by omega) (n := Y) (by omega) Y (by omega), hb0]
                have i0 : (0 : Int) ≤ (Y : Int) := by omega
                have i1 : (Y : Int) < 2200 := by omega
                obtain ⟨c0, c1, c2, c3, c4, c5, c6⟩ := cells7c HD3.out
                have HB0 := Lib.hid hb0
                clear hb0
                cases b0 with
                | false =>
                  have HSk : Hid (NoneTo l x ((num (dY n) 12 31 + 1) * 86400)) := skip_year n0 hlt hNo.out (by rw [HY.out]; exact HB0.out)
                  have HYe := year_end n0 hlt
                  rw [HY.out] at HYe HSk
                  have HTo := Lib.hid (fun W => rTo_any (Y : Int) 12 31 0 0 0 0 W)
                  rw [(year_ok y0 y1).1, (year_ok y0 y1).2] at HTo
                  obtain ⟨hz0, hz1, hz2, hz3, hz4, _⟩ := HYe
                  obtain ⟨E, hE⟩ : ∃ z, endT (Y : Int) = z := ⟨_, rfl⟩
                  obtain ⟨q, hq⟩ : ∃ z : Nat, num (Y : Int) 12 31 = z := ⟨(num (Y : Int) 12 31).toNat, by omega⟩
                  rw [hE] at HTo hz2 hz3 hz4
                  rw [hq] at hz0 hz1 hz3 HSk
                  have HEq := Lib.hid hz3
                  have f1 := HD3.out.frozen 1
                  have f2 := HD3.out.frozen 2
                  have HN4 : Hid (NextAt w b c l 6 ((w3.setCell ⟨g, 1, none⟩ (.int .i64 12)).setCell ⟨g, 2, none⟩ (.int .i64 31))) := (HN3.out.setOther hgw hgb _ _ HBg.out).setOther hgw hgb _ _ HBg.out
                  clear hE hq hz3
                  go_wp2_with fail
                  refine (HTo.out _).mono ?_
                  rintro e w5 ⟨rfl, hb5⟩
                  have HN5 := Lib.hid (HN4.out.below hb5)
                  clear hb5 HN4 HTo
                  go_wp2_with fail
                  go_roundw
                  case rel => exact ⟨q + 1, by omega, by have := HEq.out; congr 1; omega, by have h := HSk.out; rw [show (((q + 1 : Nat) : Int)) = (q : Int) + 1 by omega]; exact h, HN5⟩
                  case measure => have := HEq.out; simp [intOf]; omega
                | true =>
                  obtain ⟨b1, hb1⟩ : ∃ z : Bool, inF 1 (l.fld 1) (M : Int) = z := ⟨_, rfl⟩
                  have k1 : w3.cell? ⟨b, 2200 + M, none⟩ = some (.bool b1) := by rw [HN3.out.at_ (f := 1) (by omega) (n := M) (by omega) (2200 + M) (by omega), hb1]
                  have i2 : (0 : Int) ≤ (M : Int) := by omega
                  have i3 : (M : Int) < 2200 := by omega
                  have HB1 := Lib.hid hb1
                  clear hb1
                  cases b1 with
                  | false =>
                    have HSk : Hid (NoneTo l x (((n : Int) + 1) * 86400)) := skip_day n0 hlt hNo.out (by rw [HMo.out, show inF 1 l.mo (M : Int) = false from HB1.out]; rfl)
                    go_wp2_with fail
                    go_roundw
                    case rel => exact ⟨n + 1, by omega, by go_num, by rw [show (((n + 1 : Nat) : Int)) = (n : Int) + 1 by omega]; exact HSk, HN3⟩
                    case measure => simp [intOf]; omega
                  | true =>
                    obtain ⟨b2, hb2⟩ : ∃ z : Bool, inF 2 (l.fld 2) (D : Int) = z := ⟨_, rfl⟩
                    have k2 : w3.cell? ⟨b, 4400 + D, none⟩ = some (.bool b2) := by rw [HN3.out.at_ (f := 2) (by omega) (n := D) (by omega) (4400 + D) (by omega), hb2]
                    have i4 : (0 : Int) ≤ (D : Int) := by omega
                    have i5 : (D : Int) < 2200 := by omega
                    have HB2 := Lib.hid hb2
                    clear hb2
                    cases b2 with
                    | false =>
                      have HSk : Hid (NoneTo l x (((n : Int) + 1) * 86400)) := skip_day n0 hlt hNo.out (by rw [HMo.out, HDa.out, show inF 1 l.mo (M : Int) = true from HB1.out, show inF 2 l.dy (D : Int) = false from HB2.out]; rfl)
                      go_wp2_with fail
                      go_roundw
                      case rel => exact ⟨n + 1, by omega, by go_num, by rw [show (((n + 1 : Nat) : Int)) = (n : Int) + 1 by omega]; exact HSk, HN3⟩
                      case measure => simp [intOf]; omega
                    | true =>
                      have hXc : Blk w3 w.heap.size 25 #[.slice c.d.A c.d.n c.d.c, .slice c.y.A c.y.n c.y.c, .slice c.m.A c.m.n c.m.c, .slice c.t.A c.t.n c.t.c, .slice c.h.A c.h.n c.h.c, .slice c.i.A c.i.n c.i.c, .slice c.s.A c.s.n c.s.c] := HN3.out.2.1
                      obtain ⟨e0, e1, e2, e3, e4, e5, e6⟩ := cells7c hXc
                      clear hXc
                      go_wp2_with fail
                      refine (weekday_any c l Wd _ (HC.out.at_ HN3.out.2.2.1)).mono ?_
                      rintro e w5 ⟨rfl, hb5⟩
                      have HN5 := Lib.hid (HN3.out.below hb5)
                      obtain ⟨b3, hb3⟩ : ∃ z : Bool, dayB l.ds Wd = z := ⟨_, rfl⟩
                      rw [hb3]
                      have HB3 := Lib.hid hb3
                      clear hb3 hb5 e0 e1 e2 e3 e4 e5 e6 k0 k1 k2 c0 c1 c2 c3 c4 c5 c6 i0 i1 i2 i3 i4 i5 HD3 HN3 HN2 HBg hgw hgb
                      cases b3 with
                      | false =>
                        have HSk : Hid (NoneTo l x (((n : Int) + 1) * 86400)) := skip_day n0 hlt hNo.out (by rw [HMo.out, HDa.out, HWe.out, show inF 1 l.mo (M : Int) = true from HB1.out, show inF 2 l.dy (D : Int) = true from HB2.out, HB3.out]; rfl)
                        go_wp2_with fail
                        go_roundw
                        case rel => exact ⟨n + 1, by omega, by go_num, by rw [show (((n + 1 : Nat) : Int)) = (n : Int) + 1 by omega]; exact HSk, HN5⟩
                        case measure => simp [intOf]; omega
                      | true =>
                        have HG : Hid (GoodDay l n) := ⟨HM.out, by rw [HY.out]; exact HB0.out, by rw [HMo.out]; exact HB1.out, by rw [HDa.out]; exact HB2.out, by rw [HWe.out]; exact HB3.out⟩
                        have HNh : Hid (NoneTo l x ((n : Int) * 86400 + ((0 : Nat) : Int) * 3600)) := by have h := hNo.out; rw [show (n : Int) * 86400 + ((0 : Nat) : Int) * 3600 = (n : Int) * 86400 by omega]; exact h
                        clear HB0 HB1 HB2 HB3 HY HMo HDa HWe y0 y1 m0 m1 d0 d1 hN
                        go_wp2_with fail
                        go_loopw [13] (fun v wr => ∃ h : Nat, h ≤ 24 ∧ v = .int .i64 h ∧ Hid (NoneTo l x ((n : Int) * 86400 + (h : Int) * 3600)) ∧ Hid (NextAt w b c l 6 wr)) (fun v wr => 24 - (intOf v).toNat)
                        case atStart => exact ⟨0, Nat.zero_le _, rfl, HNh, HN5⟩
                        case round =>
                          clear HNh HN5
                          obtain ⟨h, hh, rfl, hNo, hN⟩ := hrel
                          by_cases hlh : h < 24
                          · have hlh' : (h : Int) < 24 := by omega
                            have h0 : (0 : Int) ≤ (h : Int) := by omega
                            have h1 : (h : Int) < 2200 := by omega
                            obtain ⟨b4, hb4⟩ : ∃ z : Bool, inF 3 (l.fld 3) (h : Int) = z := ⟨_, rfl⟩
                            have HB4 := Lib.hid hb4
                            have HNm : Hid (NoneTo l x ((n : Int) * 86400 + (h : Int) * 3600 + ((0 : Nat) : Int) * 60)) := by have e := hNo.out; rw [show (n : Int) * 86400 + (h : Int) * 3600 + ((0 : Nat) : Int) * 60 = (n : Int) * 86400 + (h : Int) * 3600 by omega]; exact e
                            clear hb4
                            go_wp2_with fail
                            go_loopw [14] (fun v wr => ∃ m : Nat, m ≤ 60 ∧ v = .int .i64 m ∧ Hid (NoneTo l x ((n : Int) * 86400 + (h : Int) * 3600 + (m : Int) * 60)) ∧ Hid (NextAt w b c l 6 wr)) (fun v wr => 60 - (intOf v).toNat)
                            case atStart => exact ⟨0, Nat.zero_le _, rfl, HNm, hN⟩
                            case round =>
                              clear HNm hN
                              obtain ⟨m, hm, rfl, hNm, hN⟩ := hrel
                              by_cases hlm : m < 60
                              · have hlm' : (m : Int) < 60 := by omega
                                have m0 : (0 : Int) ≤ (m : Int) := by omega
                                have m1 : (m : Int) < 2200 := by omega
                                have k3 : wr.cell? ⟨b, 6600 + h, none⟩ = some (.bool b4) := by rw [hN.out.at_ (f := 3) (by omega) (n := h) (by omega) (6600 + h) (by omega), HB4.out]
                                cases b4 with
                                | false =>
                                  have HSk : Hid (NoneTo l x ((n : Int) * 86400 + ((h + 1 : Nat) : Int) * 3600)) := by
                                    have e := skip_hour n0 hlt HG.out h0 hlh' (by omega) hNm.out HB4.out
                                    rw [show ((h + 1 : Nat) : Int) = (h : Int) + 1 by omega]; exact e
                                  go_wp2_with fail
                                  go_roundw
                                  case rel => exact ⟨h + 1, by omega, by go_num, HSk, hN⟩
                                  case measure => simp [intOf]; omega
                                | true =>
                                  obtain ⟨b5, hb5⟩ : ∃ z : Bool, inF 4 (l.fld 4) (m : Int) = z := ⟨_, rfl⟩
                                  have HB5 := Lib.hid hb5
                                  have HNk : Hid (NoneTo l x ((n : Int) * 86400 + (h : Int) * 3600 + (m : Int) * 60 + ((0 : Nat) : Int))) := by have e := hNm.out; rw [show (n : Int) * 86400 + (h : Int) * 3600 + (m : Int) * 60 + ((0 : Nat) : Int) = (n : Int) * 86400 + (h : Int) * 3600 + (m : Int) * 60 by omega]; exact e
                                  clear hb5
                                  go_wp2_with fail
                                  clear k3
                                  go_loopw [15] (fun v wr => ∃ k : Nat, k ≤ 60 ∧ v = .int .i64 k ∧ Hid (NoneTo l x ((n : Int) * 86400 + (h : Int) * 3600 + (m : Int) * 60 + (k : Int))) ∧ Hid (NextAt w b c l 6 wr)) (fun v wr => 60 - (intOf v).toNat)
                                  case atStart => exact ⟨0, Nat.zero_le _, rfl, HNk, hN⟩
                                  case round =>
                                    clear HNk hN
                                    obtain ⟨k, hk, rfl, hNk, hN⟩ := hrel
                                    by_cases hlk : k < 60
                                    · have hlk' : (k : Int) < 60 := by omega
                                      have s0 : (0 : Int) ≤ (k : Int) := by omega
                                      have s1 : (k : Int) < 2200 := by omega
                                      have k4 : wr.cell? ⟨b, 8800 + m, none⟩ = some (.bool b5) := by rw [hN.out.at_ (f := 4) (by omega) (n := m) (by omega) (8800 + m) (by omega), HB5.out]
                                      cases b5 with
                                      | false =>
                                        have HSk : Hid (NoneTo l x ((n : Int) * 86400 + (h : Int) * 3600 + ((m + 1 : Nat) : Int) * 60)) := by
                                          have e := skip_min n0 hlt HG.out h0 hlh' m0 hlm' (by omega) hNk.out HB5.out
                                          rw [show ((m + 1 : Nat) : Int) = (m : Int) + 1 by omega]; exact e
                                        go_wp2_with fail
                                        go_roundw
                                        case rel => exact ⟨m + 1, by omega, by go_num, HSk, hN⟩
                                        case measure => simp [intOf]; omega
                                      | true =>
                                        obtain ⟨b6, hb6⟩ : ∃ z : Bool, inF 5 (l.fld 5) (k : Int) = z := ⟨_, rfl⟩
                                        have k5 : wr.cell? ⟨b, 11000 + k, none⟩ = some (.bool b6) := by rw [hN.out.at_ (f := 5) (by omega) (n := k) (by omega) (11000 + k) (by omega), hb6]
                                        have HMA : Hid (matchB l ((n : Int) * 86400 + (h : Int) * 3600 + (m : Int) * 60 + (k : Int)) = b6) := by show _ = _; rw [match_at n0 hlt HG.out h0 hlh' m0 hlm' s0 hlk' HB4.out HB5.out]; exact hb6
                                        have HSS : Hid ((b6 = false ∨ (n : Int) * 86400 + (h : Int) * 3600 + (m : Int) * 60 + (k : Int) ≤ x) → NoneTo l x ((n : Int) * 86400 + (h : Int) * 3600 + (m : Int) * 60 + ((k + 1 : Nat) : Int))) := by
                                          intro e
                                          have e2 := skip_sec n0 hlt HG.out h0 hlh' m0 hlm' s0 hlk' HB4.out HB5.out hNk.out (by rcases e with e | e; exact .inl (hb6.trans e); exact .inr e)
                                          rw [show ((k + 1 : Nat) : Int) = (k : Int) + 1 by omega]; exact e2
                                        clear hb6
                                        cases b6 with
                                        | false =>
                                          go_wp2_with fail
                                          go_roundw
                                          case rel => exact ⟨k + 1, by omega, by go_num, HSS.out (.inl rfl), hN⟩
                                          case measure => simp [intOf]; omega
                                        | true =>
                                          by_cases hx2 : x < (n : Int) * 86400 + (h : Int) * 3600 + (m : Int) * 60 + (k : Int)
                                          · have HR : Hid (nextN l a = (n : Int) * 86400 + (h : Int) * 3600 + (m : Int) * 60 + (k : Int) ∧ nextOk l a = true) := by rw [← HX.out.1, ← HX.out.2]; exact next_here hNk.out hx2 HMA.out
                                            go_wp2_with fail
                                            go_ret2
                                            exact ⟨by rw [HR.out.1, HR.out.2]; rfl, hN.out.2.2.1⟩
                                          · have hx3 : (n : Int) * 86400 + (h : Int) * 3600 + (m : Int) * 60 + (k : Int) ≤ x := by omega
                                            clear hx2
                                            go_wp2_with fail
                                            go_roundw
                                            case rel => exact ⟨k + 1, by omega, by go_num, HSS.out (.inr hx3), hN⟩
                                            case measure => simp [intOf]; omega
                                    · have hk60 : Hid (k = 60) := by show k = 60; omega
                                      have hd : decide ((k : Int) < 60) = false := decide_eq_false (by omega)
                                      have HSk : Hid (NoneTo l x ((n : Int) * 86400 + (h : Int) * 3600 + ((m + 1 : Nat) : Int) * 60)) := by
                                        have e := hNk.out
                                        rw [show (n : Int) * 86400 + (h : Int) * 3600 + (m : Int) * 60 + (k : Int) = (n : Int) * 86400 + (h : Int) * 3600 + ((m + 1 : Nat) : Int) * 60 by have := hk60.out; omega] at e
                                        exact e
                                      clear hlk hk
                                      go_wp2_with fail
                                      go_roundw
                                      case rel => exact ⟨m + 1, by omega, by go_num, HSk, hN⟩
                                      case measure => simp [intOf]; omega
                              · have hd : decide ((m : Int) < 60) = false := decide_eq_false (by omega)
                                have HSk : Hid (NoneTo l x ((n : Int) * 86400 + ((h + 1 : Nat) : Int) * 3600)) := by
                                  have e := hNm.out
                                  rw [show (n : Int) * 86400 + (h : Int) * 3600 + (m : Int) * 60 = (n : Int) * 86400 + ((h + 1 : Nat) : Int) * 3600 by omega] at e
                                  exact e
                                clear hlm hm
                                go_wp2_with fail
                                go_roundw
                                case rel => exact ⟨h + 1, by omega, by go_num, HSk, hN⟩
                                case measure => simp [intOf]; omega
                          · have hd : decide ((h : Int) < 24) = false := decide_eq_false (by omega)
                            have HSk : Hid (NoneTo l x (((n + 1 : Nat) : Int) * 86400)) := by
                              have e := hNo.out
                              rw [show (n : Int) * 86400 + (h : Int) * 3600 = ((n + 1 : Nat) : Int) * 86400 by omega] at e
                              exact e
                            clear hlh hh
                            go_wp2_with fail
                            go_roundw
                            case rel => exact ⟨n + 1, by omega, by go_num, HSk, hN⟩
                            case measure => simp [intOf]; omega
              · have HE : Hid (nextN l a = 0 ∧ nextOk l a = false) := by rw [← HX.out.1, ← HX.out.2]; exact next_end hNo.out (by omega)
                go_wp2_with fail
                go_ret2
                exact ⟨by rw [HE.out.1, HE.out.2]; rfl, hN.out.2.2.1⟩
end Go.Proofs.YtncolcjejgmhjaaGreatDoor
