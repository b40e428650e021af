/- The walk of the developers' Parse. What the laws of chapter 4 show ahead of all, on plain lists. It speaks of no code. T -/
import Derived.Test.YtncolcjejgmhjaaGreatDoorCxbf
import Derived.Test.YtncolcjejgmhjaaGreatDoorCxbc
import Derived.Test.YtncolcjejgmhjaaGreatDoorCxar
import Derived.Test.YtncolcjejgmhjaaGreatDoorCxad
import Derived.Test.YtncolcjejgmhjaaGreatDoorCxbg
import Derived.Test.YtncolcjejgmhjaaGreatDoorCxbm
namespace Go.Proofs.YtncolcjejgmhjaaGreatDoor
open Go.RowKit
theorem wpList_wantN {P : Program} {ops : Array Oper} {rest : List Oper} {o : Oper} {a : Act} {w : World} {Q : Exit → Act → World → Prop} (hw : Region.wanted o (yielded ops a.tmps) = true) (h : o.wp P a w (wpList P ops Q rest) Q) : wpList P ops Q (o :: rest) a w := by
  rw [wpList, if_pos hw]
  exact .inl h
theorem shortL_small (l : List UInt8) (h : l.length ≤ 400) : (shortL l).length ≤ 400 := by
  unfold shortL
  repeat' split
  all_goals first | exact h | decide
def ParseP (l : List UInt8) (w : World) (e : Ending) (w' : World) : Prop :=
  ∃ c : Ch, e = .returned (.tuple #[.agg c.cells, .bool (parseC l).isSome]) ∧ (∀ cl, parseC l = some cl → CalAt w' w'.heap.size c cl) ∧ (parseC l = none → c = nilCh) ∧ Below w.heap.size w w'
theorem parseP_no {l : List UInt8} {w w' : World} (h : parseC l = none) (hb : Below w.heap.size w w') : ParseP l w (.returned (.tuple #[.agg nilCh.cells, .bool false])) w' :=
  ⟨nilCh, by rw [h]; rfl, (fun cl hf => by rw [h] at hf; cases hf), (fun _ => rfl), hb⟩
theorem cal_keepN {w w' : World} {B F : Nat} {t : TypeId} {cs : Array Value} {c : Ch} {l : Cl} (h : CalAt w B c l) (hF : Blk w F t cs) (hn : NoInt cs) (hk : ∀ i, i ≠ F → w'.heap[i]? = w.heap[i]?) : CalAt w' B c l :=
  ⟨ints_keepN h.1 hF hn hk, fun f => pts_keepN (h.2 f) hF hn hk⟩
theorem CalAt.wideM {w : World} {B B' : Nat} {c : Ch} {l : Cl} (h : CalAt w B c l) (hB : B ≤ B') : CalAt w B' c l := ⟨h.1.wide hB, fun f => (h.2 f).wide hB⟩
set_option maxRecDepth 100000 in
set_option maxHeartbeats 16000000 in
theorem Parse_any (s : ByteArray) (hs : s.size ≤ maxLen) (w : World) (htab : TabM w) :
    Calls Tryz.prog 10 #[.string s] w (ParseP s.data.toList w) := by
  unfold maxLen at hs
  have HT := Lib.hid htab
  clear htab
  have HB0 : Hid (Below w.heap.size w (w.alloc (.cells #[.slice none 0 0, .slice none 0 0, .slice none 0 0, .slice none 0 0, .slice none 0 0, .slice none 0 0, .slice none 0 0] 25))) := (Below.refl _ _).alloc (Nat.le_refl _) _
  have HR0 : Hid (Blk (w.alloc (.cells #[.slice none 0 0, .slice none 0 0, .slice none 0 0, .slice none 0 0, .slice none 0 0, .slice none 0 0, .slice none 0 0] 25)) w.heap.size 25 nilCh.cells) := Blk.new w _ _
  have HD : Hid (parseC s.data.toList = if 400 < s.data.toList.length then none else match exprD (shortL s.data.toList) with | some c => if mayC c = true then some c else none | none => none) := (parse_same s.data.toList).symm
  by_cases h4 : 400 < s.size
  · have HN : Hid (parseC s.data.toList = none) := by show _ = _; rw [HD.out, if_pos (by rw [size_list]; exact h4)]
    have t4 : (400 : Int) < (s.size : Int) := by omega
    have t4b : decide ((400 : Int) < (s.size : Int)) = true := by simp; omega
    clear HD h4
    go_enter Tryz.func10, Tryz.ntmps10
    go_wp2_with (refine wpList_store_row rfl 25 (.tmp 2) (.tmp 9) (by rfl) w.heap.size nilCh.cells (by rfl) (by rfl) 25 nilCh.cells HR0.out (by kernel_rfl) rfl (ch_all _) ?_)
    exact bodyPost_ret (results_cell_tmp (p := 2) (q := 3) rfl _ _ w.heap.size 25 nilCh.cells _ _ rfl rfl (Blk.row HR0.out _) Tryz.underlying25 rfl (by kernel_rfl)) rfl (parseP_no HN.out (below_setRow HB0.out (Nat.le_refl _) _))
  · have t4 : (s.size : Int) ≤ 400 := by omega
    have t4b : decide ((400 : Int) < (s.size : Int)) = false := by simp; omega
    have HD2 : Hid (parseC s.data.toList = match exprD (shortL s.data.toList) with | some c => if mayC c = true then some c else none | none => none) := by show _ = _; rw [HD.out, if_neg (by rw [size_list]; exact h4)]
    have hsl : (str (shortL s.data.toList)).size ≤ 4000 := by
      have := shortL_small s.data.toList (by rw [size_list]; omega)
      rw [str_size]; omega
    clear HD h4
    go_enter Tryz.func10, Tryz.ntmps10
    go_wp2_with fail
    generalize w.alloc (.cells #[.slice none 0 0, .slice none 0 0, .slice none 0 0, .slice none 0 0, .slice none 0 0, .slice none 0 0, .slice none 0 0] 25) = w0 at *
    refine (fullForm_any _ _).mono ?_
    rintro e w1 ⟨rfl, rfl⟩
    have HPE : Hid (Calls Tryz.prog 31 #[.string (str (shortL s.data.toList))] w0 (ExprP (shortL s.data.toList) w0)) := parseExpression_any _ hsl w0 (HT.out.below HB0.out)
    go_wp2_with fail
    refine HPE.out.mono ?_
    rintro e w2 ⟨c, rfl, hcal, hb2⟩
    have HB2 := Lib.hid (more3 HB0.out HB0.out.size hb2)
    have HR2 := Lib.hid (HR0.out.below hb2 HR0.out.lt)
    have HC2 := Lib.hid hcal
    clear hb2 hcal HPE HB0 HR0
    have HA3 : Hid (Blk (w2.alloc (.cells #[.slice none 0 0, .slice none 0 0, .slice none 0 0, .slice none 0 0, .slice none 0 0, .slice none 0 0, .slice none 0 0] 25)) w2.heap.size 25 nilCh.cells) := Blk.new w2 _ _
    have HR3 : Hid (Blk (w2.alloc (.cells #[.slice none 0 0, .slice none 0 0, .slice none 0 0, .slice none 0 0, .slice none 0 0, .slice none 0 0, .slice none 0 0] 25)) w.heap.size 25 nilCh.cells) := HR2.out.alloc _
    have HB3 : Hid (Below w.heap.size w (w2.alloc (.cells #[.slice none 0 0, .slice none 0 0, .slice none 0 0, .slice none 0 0, .slice none 0 0, .slice none 0 0, .slice none 0 0] 25))) := HB2.out.alloc HB2.out.size _
    have hRA : w.heap.size ≠ w2.heap.size := by have := HR2.out.lt; omega
    have HA4 : Hid (Blk ((w2.alloc (.cells #[.slice none 0 0, .slice none 0 0, .slice none 0 0, .slice none 0 0, .slice none 0 0, .slice none 0 0, .slice none 0 0] 25)).setRow w2.heap.size c.cells) w2.heap.size 25 c.cells) := Blk.row HA3.out _
    have HR4 : Hid (Blk ((w2.alloc (.cells #[.slice none 0 0, .slice none 0 0, .slice none 0 0, .slice none 0 0, .slice none 0 0, .slice none 0 0, .slice none 0 0] 25)).setRow w2.heap.size c.cells) w.heap.size 25 nilCh.cells) := (heap_row_other _ _ _ _ hRA).trans HR3.out
    have HB4 : Hid (Below w.heap.size w ((w2.alloc (.cells #[.slice none 0 0, .slice none 0 0, .slice none 0 0, .slice none 0 0, .slice none 0 0, .slice none 0 0, .slice none 0 0] 25)).setRow w2.heap.size c.cells)) := below_setRow HB3.out (by have := HR2.out.lt; omega) _
    have HS4 : Hid (((w2.alloc (.cells #[.slice none 0 0, .slice none 0 0, .slice none 0 0, .slice none 0 0, .slice none 0 0, .slice none 0 0, .slice none 0 0] 25)).setRow w2.heap.size c.cells).heap.size = w2.heap.size + 1) := by show _ = _; rw [size_row]; simp
    have HC4 : Hid (∀ cl, exprD (shortL s.data.toList) = some cl → CalAt ((w2.alloc (.cells #[.slice none 0 0, .slice none 0 0, .slice none 0 0, .slice none 0 0, .slice none 0 0, .slice none 0 0, .slice none 0 0] 25)).setRow w2.heap.size c.cells) (w2.heap.size + 1) c cl) := fun cl h =>
      cal_keepN ((((HC2.out cl h).below ((Below.refl _ _).alloc (Nat.le_refl _) _))).wideM (Nat.le_succ _)) HA3.out (noInt_ch _) (heap_row_other _ _ _)
    cases hx : exprD (shortL s.data.toList) with
    | none =>
      have HN : Hid (parseC s.data.toList = none) := by show _ = _; rw [HD2.out, hx]
      rw [show (none : Option Cl).isSome = false from rfl]
      clear HC4 HC2 hx HD2
      go_wp2_with (first | (refine wpList_store_row rfl 25 (.tmp 4) (.tmp 14) (by rfl) w2.heap.size c.cells (by rfl) (by rfl) 25 nilCh.cells HA3.out (by kernel_rfl) rfl (ch_all _) ?_; generalize (w2.alloc (.cells #[.slice none 0 0, .slice none 0 0, .slice none 0 0, .slice none 0 0, .slice none 0 0, .slice none 0 0, .slice none 0 0] 25)).setRow w2.heap.size c.cells = w4 at *) | (refine wpList_store_row rfl 25 (.tmp 2) (.tmp 23) (by rfl) w.heap.size nilCh.cells (by rfl) (by rfl) 25 nilCh.cells HR4.out (by kernel_rfl) rfl (ch_all _) ?_))
      exact bodyPost_ret (results_cell_tmp (p := 2) (q := 3) rfl _ _ w.heap.size 25 nilCh.cells _ _ rfl rfl (Blk.row HR4.out _) Tryz.underlying25 rfl (by kernel_rfl)) rfl (parseP_no HN.out (below_setRow HB4.out (Nat.le_refl _) _))
    | some cl =>
      have HC5 := Lib.hid (HC4.out cl hx)
      have HD5 : Hid (parseC s.data.toList = if mayC cl = true then some cl else none) := by show _ = _; rw [HD2.out, hx]
      rw [show (some cl : Option Cl).isSome = true from rfl]
      clear HC4 HC2 hx HD2
      have HT4 := Lib.hid (HT.out.below HB4.out)
      go_wp2_with (first | (refine wpList_store_row rfl 25 (.tmp 4) (.tmp 14) (by rfl) w2.heap.size c.cells (by rfl) (by rfl) 25 nilCh.cells HA3.out (by kernel_rfl) rfl (ch_all _) ?_; generalize (w2.alloc (.cells #[.slice none 0 0, .slice none 0 0, .slice none 0 0, .slice none 0 0, .slice none 0 0, .slice none 0 0, .slice none 0 0] 25)).setRow w2.heap.size c.cells = w4 at *) | (refine wpList_wantN (by rfl) ?_; refine wp_load_row 25 (.tmp 4) (by rfl) w2.heap.size (by rfl) 25 c.cells (0, 0) _ HA4.out Tryz.underlying25 rfl (by kernel_rfl) ?_))
      refine (May_any c cl _ HT4.out.t (by rw [HS4.out]; exact HC5.out)).mono ?_
      rintro e w5 ⟨rfl, hb5⟩
      have HA5 := Lib.hid (HA4.out.below hb5 HA4.out.lt)
      have HR5 := Lib.hid (HR4.out.below hb5 HR4.out.lt)
      have HB5 := Lib.hid (more3 HB4.out HB4.out.size hb5)
      have hC5 : CalAt w4 w4.heap.size c cl := by rw [HS4.out]; exact HC5.out
      have HC6 := Lib.hid ((hC5.below hb5).wideM hb5.size)
      clear hb5 hC5
      cases hmay : mayC cl with
      | true =>
        have HD6 : Hid (parseC s.data.toList = some cl) := by show _ = _; rw [HD5.out, if_pos hmay]
        clear hmay
        go_wp2_with (first | (refine wpList_load_row rfl 25 (.tmp 4) (by rfl) w2.heap.size (by rfl) 25 c.cells (0, 0) _ HA5.out Tryz.underlying25 rfl (by kernel_rfl) ?_) | (refine wpList_store_row rfl 25 (.tmp 2) (.tmp 24) (by rfl) w.heap.size c.cells (by rfl) (by rfl) 25 nilCh.cells HR5.out (by kernel_rfl) rfl (ch_all _) ?_))
        exact bodyPost_ret (results_cell_tmp (p := 2) (q := 3) rfl _ _ w.heap.size 25 c.cells _ _ rfl rfl (Blk.row HR5.out _) Tryz.underlying25 rfl (by kernel_rfl)) rfl
          ⟨c, by rw [HD6.out]; rfl, (fun cl' h => by rw [HD6.out] at h; injection h with h; subst h; rw [size_row]; exact cal_keepN HC6.out HR5.out (noInt_ch _) (heap_row_other _ _ _)), (fun h => by rw [HD6.out] at h; cases h), below_setRow HB5.out (Nat.le_refl _) _⟩
      | false =>
        have HN : Hid (parseC s.data.toList = none) := by show _ = _; rw [HD5.out, if_neg (by rw [hmay]; simp)]
        clear hmay
        go_wp2_with (refine wpList_store_row rfl 25 (.tmp 2) (.tmp 23) (by rfl) w.heap.size nilCh.cells (by rfl) (by rfl) 25 nilCh.cells HR5.out (by kernel_rfl) rfl (ch_all _) ?_)
        exact bodyPost_ret (results_cell_tmp (p := 2) (q := 3) rfl _ _ w.heap.size 25 nilCh.cells _ _ rfl rfl (Blk.row HR5.out _) Tryz.underlying25 rfl (by kernel_rfl)) rfl (parseP_no HN.out (below_setRow HB5.out (Nat.le_refl _) _))
end Go.Proofs.YtncolcjejgmhjaaGreatDoor
namespace Go.Proofs.YtncolcjejgmhjaaGreatDoor
def anyP : List Pt := [⟨-1, -1, 0⟩]
def atP1 (n : Int) : List Pt := [⟨n, -1, 0⟩]
def marC : Cl := ⟨[], anyP, atP1 3, atP1 1, atP1 0, atP1 0, atP1 0⟩
def dailyC : Cl := ⟨[], anyP, anyP, anyP, atP1 0, atP1 0, atP1 0⟩
def febC : Cl := ⟨[1, 3, 4, 5], anyP, atP1 2, [⟨28, -1, 0⟩, ⟨29, -1, 0⟩], atP1 23, [⟨59, -1, 30⟩], atP1 59⟩
theorem feb_parse : parseC [77, 111, 110, 44, 87, 101, 100, 46, 46, 70, 114, 105, 32, 42, 45, 48, 50, 45, 50, 56, 44, 50, 57, 32, 50, 51, 58, 53, 57, 47, 51, 48, 58, 53, 57] = some febC := by rfl
theorem daily_parse : parseC [100, 97, 105, 108, 121] = some dailyC := by rfl
theorem daily_print : printC dailyC = [42, 45, 42, 45, 42, 32, 48, 48, 58, 48, 48, 58, 48, 48] := by decide +kernel
theorem inP_any {f : Nat} {n : Int} (h1 : lo f ≤ n) (h2 : n ≤ hi f) : inF f anyP n = true := by
  unfold inF anyP
  simp only [List.any_cons, List.any_nil, Bool.or_false]
  rw [inP_iff]
  unfold ptA ptB ptS
  simp only [if_true]
  refine ⟨h1, h2, ?_⟩
  have : max (0 : Int) 1 = 1 := rfl
  rw [this]
  exact Int.emod_one _
theorem inP_at {f : Nat} {n m : Int} (hm : m ≠ -1) : inF f (atP1 m) n = decide (n = m) := by
  unfold inF atP1
  simp only [List.any_cons, List.any_nil, Bool.or_false]
  rw [Bool.eq_iff_iff, inP_iff, decide_eq_true_eq]
  unfold ptA ptB
  simp only [if_neg hm, if_true]
  constructor
  · rintro ⟨h1, h2, _⟩; omega
  · rintro rfl; exact ⟨Int.le_refl _, Int.le_refl _, by simp⟩
theorem mar_date : IsDate 5184000 2000 3 1 0 0 0 3 := by
  have l0 : leapB 2000 = true := by decide
  have n0 : num 2000 3 1 = 60 := by unfold num; rw [yst_2000]; simp [mst, lp, l0]
  refine ⟨⟨by omega, by omega, by omega, by omega, by omega, by simp [dim]⟩, by omega, by omega, by omega, by omega, by omega, by omega, by rw [n0]; rfl, by rw [n0]; rfl⟩
theorem second_date : IsDate 86400 2000 1 2 0 0 0 7 := by
  have n0 : num 2000 1 2 = 1 := by unfold num; rw [yst_2000, mst_1]; rfl
  refine ⟨⟨by omega, by omega, by omega, by omega, by omega, by simp [dim]⟩, by omega, by omega, by omega, by omega, by omega, by omega, by rw [n0]; rfl, by rw [n0]; rfl⟩
theorem mar_may : mayC marC = true := by rfl
theorem daily_may : mayC dailyC = true := by rfl
theorem mar_match : matchB marC 5184000 = true := by
  obtain ⟨e0, e1, e2, e3, e4, e5, e6, e7⟩ := date_eq mar_date
  rw [matchB_iff]
  refine ⟨mar_may, e0, rfl, ?_⟩
  unfold numsB
  rw [e1, e2, e3, e4, e5, e6]
  show (inF 0 anyP 2000 && (inF 1 (atP1 3) 3 && (inF 2 (atP1 1) 1 && (inF 3 (atP1 0) 0 && (inF 4 (atP1 0) 0 && inF 5 (atP1 0) 0))))) = true
  rw [inP_any (by decide) (by decide), inP_at (by decide), inP_at (by decide), inP_at (by decide), inP_at (by decide), inP_at (by decide)]
  rfl
theorem mar_before {s : Int} (h0 : 0 < s) (h1 : s < 5184000) : matchB marC s = false := by
  have ht : isT s = true := (isT_iff s).2 ⟨by omega, by omega⟩
  have hd := date_of ht
  have hm : fM s ≠ 3 := by
    intro e
    rw [e] at hd
    have hday := hd.1
    have hn : num (fY s) 3 (fD s) = s / 86400 := by
      have := (date_of ht)
      have h2 := to_of hd
      have hs := hd
      obtain ⟨_, a1, a2, a3, a4, a5, a6, a7, _⟩ := hs
      omega
    have y0 := hday.y0
    have d0 := hday.d0
    have hy : fY s = 2000 ∨ 2001 ≤ fY s := by omega
    rcases hy with hy | hy
    · have l0 : leapB 2000 = true := by decide
      rw [hy] at hn
      unfold num at hn
      rw [yst_2000] at hn
      simp [mst, lp, l0] at hn
      omega
    · have hm1 := yst_le (a := 2001) (b := fY s) hy
      have h21 : yst 2001 = 366 := by
        have := yst_succ 2000
        rw [yst_2000] at this
        have l0 : leapB 2000 = true := by decide
        simp [lp, l0] at this
        exact this
      unfold num at hn
      have hlp : 0 ≤ lp (fY s) := by unfold lp; split <;> omega
      simp only [mst] at hn
      rw [if_neg (by omega), if_neg (by omega), if_pos trivial] at hn
      omega
  unfold matchB
  rw [show numsB marC s = false by
    unfold numsB
    rw [show inF 1 marC.mo (fM s) = false by show inF 1 (atP1 3) (fM s) = false; rw [inP_at (by decide)]; simpa using hm]
    simp]
  simp
theorem mar_next : nextN marC 0 = 5184000 ∧ nextOk marC 0 = true := next_is (by omega) mar_match (fun s h1 h2 => mar_before h1 h2)
theorem daily_yes : matchB dailyC 86400 = true := by
  obtain ⟨e0, e1, e2, e3, e4, e5, e6, e7⟩ := date_eq second_date
  rw [matchB_iff]
  refine ⟨daily_may, e0, rfl, ?_⟩
  unfold numsB
  rw [e1, e2, e3, e4, e5, e6]
  show (inF 0 anyP 2000 && (inF 1 anyP 1 && (inF 2 anyP 2 && (inF 3 (atP1 0) 0 && (inF 4 (atP1 0) 0 && inF 5 (atP1 0) 0))))) = true
  rw [inP_any (by decide) (by decide), inP_any (by decide) (by decide), inP_any (by decide) (by decide), inP_at (by decide), inP_at (by decide), inP_at (by decide)]
  rfl
theorem daily_no : matchB dailyC 1 = false := by
  unfold matchB
  rw [show numsB dailyC 1 = false by
    unfold numsB
    rw [show inF 5 dailyC.se (fS 1) = false by show inF 5 (atP1 0) (fS 1) = false; rw [inP_at (by decide)]; rfl]
    simp]
  simp
end Go.Proofs.YtncolcjejgmhjaaGreatDoor
namespace Go.Proofs.YtncolcjejgmhjaaGreatDoor
open Go.RowKit
theorem all_any (w : World) : Calls Tryz.prog 11 #[] w fun e w' => e = .returned (.slice (some ⟨w.heap.size, 0, none⟩) 1 1) ∧ w' = w.alloc (.cells #[.int .i64 (-1), .int .i64 (-1), .int .i64 0] 58) := by
  go_enter Tryz.func11, Tryz.ntmps11
  go_wp2
  go_ret
  exact ⟨rfl, rfl⟩
theorem at_any (n : Int) (w : World) : Calls Tryz.prog 12 #[.int .i64 n] w fun e w' => e = .returned (.slice (some ⟨w.heap.size, 0, none⟩) 1 1) ∧ w' = w.alloc (.cells #[.int .i64 n, .int .i64 (-1), .int .i64 0] 58) := by
  go_enter Tryz.func12, Tryz.ntmps12
  go_wp2
  go_ret
  exact ⟨rfl, rfl⟩
theorem one_part {w : World} {g : Nat} {n m : Int} (h : Blk w g 58 #[.int .i64 n, .int .i64 m, .int .i64 0]) : PtsAt w w.heap.size (some ⟨g, 0, none⟩) 1 [⟨n, m, 0⟩] := by
  refine ⟨rfl, by unfold maxLen; omega, rfl, fun _ => ⟨_, rfl, h.lt, fun j u hj => ?_⟩⟩
  have e : (⟨g, 0, none⟩ : Addr).add j = ⟨g, j, none⟩ := by unfold Addr.add; split <;> simp_all
  rw [e, h.cell j]
  exact (by
    match j, hj with
    | 0, hj => exact hj
    | 1, hj => exact hj
    | 2, hj => exact hj
    | (j + 3), hj => simp [pts, ptCells] at hj)
end Go.Proofs.YtncolcjejgmhjaaGreatDoor
namespace Go.Proofs.YtncolcjejgmhjaaGreatDoor
open Go.RowKit
set_option maxRecDepth 100000 in
set_option maxHeartbeats 16000000 in
theorem shown4_any (w : World) (htab : TabM w) :
    Calls Tryz.prog 5 #[] w fun e w' => e = .returned (.bool true) ∧ Below w.heap.size w w' := by
  have HT := Lib.hid htab
  clear htab
  have HP1 := Lib.hid feb_parse
  have HP2 := Lib.hid daily_parse
  go_enter Tryz.func5, Tryz.ntmps5
  go_wp2_with fail
  refine (Parse_any _ (by decide) _ HT.out).mono ?_
  rintro e w1 ⟨c, rfl, hcal, _, hb1⟩
  rw [show ∀ l : List UInt8, l = [77, 111, 110, 44, 87, 101, 100, 46, 46, 70, 114, 105, 32, 42, 45, 48, 50, 45, 50, 56, 44, 50, 57, 32, 50, 51, 58, 53, 57, 47, 51, 48, 58, 53, 57] → (parseC l).isSome = true from fun l h => by rw [h, HP1.out]; rfl]
  rotate_left
  · rfl
  have HC1 := Lib.hid (hcal febC HP1.out)
  have HB1 := Lib.hid hb1
  clear hcal hb1
  have HA1 : Hid (Blk (w1.alloc (.cells #[.slice none 0 0, .slice none 0 0, .slice none 0 0, .slice none 0 0, .slice none 0 0, .slice none 0 0, .slice none 0 0] 25)) w1.heap.size 25 nilCh.cells) := Blk.new w1 _ _
  have HA2 : Hid (Blk ((w1.alloc (.cells #[.slice none 0 0, .slice none 0 0, .slice none 0 0, .slice none 0 0, .slice none 0 0, .slice none 0 0, .slice none 0 0] 25)).setRow w1.heap.size c.cells) w1.heap.size 25 c.cells) := Blk.row HA1.out _
  have HB2 : Hid (Below w.heap.size w ((w1.alloc (.cells #[.slice none 0 0, .slice none 0 0, .slice none 0 0, .slice none 0 0, .slice none 0 0, .slice none 0 0, .slice none 0 0] 25)).setRow w1.heap.size c.cells)) := below_setRow (HB1.out.alloc HB1.out.size _) HB1.out.size _
  have HC2 : Hid (CalAt ((w1.alloc (.cells #[.slice none 0 0, .slice none 0 0, .slice none 0 0, .slice none 0 0, .slice none 0 0, .slice none 0 0, .slice none 0 0] 25)).setRow w1.heap.size c.cells) (w1.heap.size + 1) c febC) := cal_keepN ((HC1.out.below ((Below.refl _ _).alloc (Nat.le_refl _) _)).wideM (Nat.le_succ _)) HA1.out (noInt_ch _) (heap_row_other _ _ _)
  have HS2 : Hid (((w1.alloc (.cells #[.slice none 0 0, .slice none 0 0, .slice none 0 0, .slice none 0 0, .slice none 0 0, .slice none 0 0, .slice none 0 0] 25)).setRow w1.heap.size c.cells).heap.size = w1.heap.size + 1) := by show _ = _; rw [size_row]; simp
  clear HC1
  go_wp2_with (refine wpList_store_row rfl 25 (.tmp 1) (.tmp 9) (by rfl) w1.heap.size c.cells (by rfl) (by rfl) 25 nilCh.cells HA1.out (by kernel_rfl) rfl (ch_all _) ?_; generalize (w1.alloc (.cells #[.slice none 0 0, .slice none 0 0, .slice none 0 0, .slice none 0 0, .slice none 0 0, .slice none 0 0, .slice none 0 0] 25)).setRow w1.heap.size c.cells = w2 at *)
  have HT2 := Lib.hid (HT.out.below HB2.out)
  refine (all_any _).mono ?_
  rintro e w3 ⟨rfl, hw3⟩
  have HW3 := Lib.hid hw3
  clear hw3
  go_wp2_with fail
  refine (at_any 3 _).mono ?_
  rintro e w4 ⟨rfl, hw4⟩
  have HW4 := Lib.hid hw4
  clear hw4
  go_wp2_with fail
  refine (at_any 1 _).mono ?_
  rintro e w5 ⟨rfl, hw5⟩
  have HW5 := Lib.hid hw5
  clear hw5
  go_wp2_with fail
  refine (at_any 0 _).mono ?_
  rintro e w6 ⟨rfl, hw6⟩
  have HW6 := Lib.hid hw6
  clear hw6
  go_wp2_with fail
  refine (at_any 0 _).mono ?_
  rintro e w7 ⟨rfl, hw7⟩
  have HW7 := Lib.hid hw7
  clear hw7
  go_wp2_with fail
  refine (at_any 0 _).mono ?_
  rintro e w8 ⟨rfl, hw8⟩
  have HW8 := Lib.hid hw8
  clear hw8
  go_wp2_with fail
  have hb0 : Blk w3 w2.heap.size 58 #[.int .i64 (-1), .int .i64 (-1), .int .i64 0] := by rw [HW3.out]; exact Blk.new _ _ _
  have hb0 : Blk w4 w2.heap.size 58 #[.int .i64 (-1), .int .i64 (-1), .int .i64 0] := by rw [HW4.out]; exact hb0.alloc _
  have hb0 : Blk w5 w2.heap.size 58 #[.int .i64 (-1), .int .i64 (-1), .int .i64 0] := by rw [HW5.out]; exact hb0.alloc _
  have hb0 : Blk w6 w2.heap.size 58 #[.int .i64 (-1), .int .i64 (-1), .int .i64 0] := by rw [HW6.out]; exact hb0.alloc _
  have hb0 : Blk w7 w2.heap.size 58 #[.int .i64 (-1), .int .i64 (-1), .int .i64 0] := by rw [HW7.out]; exact hb0.alloc _
  have hb0 : Blk w8 w2.heap.size 58 #[.int .i64 (-1), .int .i64 (-1), .int .i64 0] := by rw [HW8.out]; exact hb0.alloc _
  have hb1 : Blk w4 w3.heap.size 58 #[.int .i64 (3), .int .i64 (-1), .int .i64 0] := by rw [HW4.out]; exact Blk.new _ _ _
  have hb1 : Blk w5 w3.heap.size 58 #[.int .i64 (3), .int .i64 (-1), .int .i64 0] := by rw [HW5.out]; exact hb1.alloc _
  have hb1 : Blk w6 w3.heap.size 58 #[.int .i64 (3), .int .i64 (-1), .int .i64 0] := by rw [HW6.out]; exact hb1.alloc _
  have hb1 : Blk w7 w3.heap.size 58 #[.int .i64 (3), .int .i64 (-1), .int .i64 0] := by rw [HW7.out]; exact hb1.alloc _
  have hb1 : Blk w8 w3.heap.size 58 #[.int .i64 (3), .int .i64 (-1), .int .i64 0] := by rw [HW8.out]; exact hb1.alloc _
  have hb2 : Blk w5 w4.heap.size 58 #[.int .i64 (1), .int .i64 (-1), .int .i64 0] := by rw [HW5.out]; exact Blk.new _ _ _
  have hb2 : Blk w6 w4.heap.size 58 #[.int .i64 (1), .int .i64 (-1), .int .i64 0] := by rw [HW6.out]; exact hb2.alloc _
  have hb2 : Blk w7 w4.heap.size 58 #[.int .i64 (1), .int .i64 (-1), .int .i64 0] := by rw [HW7.out]; exact hb2.alloc _
  have hb2 : Blk w8 w4.heap.size 58 #[.int .i64 (1), .int .i64 (-1), .int .i64 0] := by rw [HW8.out]; exact hb2.alloc _
  have hb3 : Blk w6 w5.heap.size 58 #[.int .i64 (0), .int .i64 (-1), .int .i64 0] := by rw [HW6.out]; exact Blk.new _ _ _
  have hb3 : Blk w7 w5.heap.size 58 #[.int .i64 (0), .int .i64 (-1), .int .i64 0] := by rw [HW7.out]; exact hb3.alloc _
  have hb3 : Blk w8 w5.heap.size 58 #[.int .i64 (0), .int .i64 (-1), .int .i64 0] := by rw [HW8.out]; exact hb3.alloc _
  have hb4 : Blk w7 w6.heap.size 58 #[.int .i64 (0), .int .i64 (-1), .int .i64 0] := by rw [HW7.out]; exact Blk.new _ _ _
  have hb4 : Blk w8 w6.heap.size 58 #[.int .i64 (0), .int .i64 (-1), .int .i64 0] := by rw [HW8.out]; exact hb4.alloc _
  have hb5 : Blk w8 w7.heap.size 58 #[.int .i64 (0), .int .i64 (-1), .int .i64 0] := by rw [HW8.out]; exact Blk.new _ _ _
  have hz : w3.heap.size = w2.heap.size + 1 ∧ w4.heap.size = w3.heap.size + 1 ∧ w5.heap.size = w4.heap.size + 1 ∧ w6.heap.size = w5.heap.size + 1 ∧ w7.heap.size = w6.heap.size + 1 ∧ w8.heap.size = w7.heap.size + 1 := ⟨by rw [HW3.out]; simp, by rw [HW4.out]; simp, by rw [HW5.out]; simp, by rw [HW6.out]; simp, by rw [HW7.out]; simp, by rw [HW8.out]; simp⟩
  have hbw : Below w2.heap.size w2 w8 := by
    have h3 : Below w2.heap.size w2 w3 := by rw [HW3.out]; exact (Below.refl _ _).alloc (Nat.le_refl _) _
    have h4 : Below w2.heap.size w2 w4 := by rw [HW4.out]; exact h3.alloc h3.size _
    have h5 : Below w2.heap.size w2 w5 := by rw [HW5.out]; exact h4.alloc h4.size _
    have h6 : Below w2.heap.size w2 w6 := by rw [HW6.out]; exact h5.alloc h5.size _
    have h7 : Below w2.heap.size w2 w7 := by rw [HW7.out]; exact h6.alloc h6.size _
    have h8 : Below w2.heap.size w2 w8 := by rw [HW8.out]; exact h7.alloc h7.size _
    exact h8
  obtain ⟨z3, z4, z5, z6, z7, z8⟩ := hz
  have hsz28 : w2.heap.size ≤ w8.heap.size := hbw.size
  have HB8 := Lib.hid (more3 HB2.out HB2.out.size hbw)
  have HA8 := Lib.hid (HA2.out.below hbw HA2.out.lt)
  have HC8 := Lib.hid ((HC2.out.wideM (by rw [HS2.out]; exact Nat.le_refl _)).below hbw)
  have HT8 := Lib.hid (HT.out.below HB8.out)
  have HCM : Hid (CalAt w8 w8.heap.size ⟨⟨none, 0, 0⟩, ⟨some ⟨w2.heap.size, 0, none⟩, 1, 1⟩, ⟨some ⟨w3.heap.size, 0, none⟩, 1, 1⟩, ⟨some ⟨w4.heap.size, 0, none⟩, 1, 1⟩, ⟨some ⟨w5.heap.size, 0, none⟩, 1, 1⟩, ⟨some ⟨w6.heap.size, 0, none⟩, 1, 1⟩, ⟨some ⟨w7.heap.size, 0, none⟩, 1, 1⟩⟩ marC) := by
    refine ⟨⟨rfl, Nat.zero_le _, Reads.none_⟩, fun f => ?_⟩
    match f with
    | 0 => exact one_part hb0
    | 1 => exact one_part hb1
    | 2 => exact one_part hb2
    | 3 => exact one_part hb3
    | 4 => exact one_part hb4
    | 5 => exact one_part hb5
    | (f + 6) => exact one_part hb5
  clear hb0 hb1 hb2 hb3 hb4 hb5 hbw HW3 HW4 HW5 HW6 HW7 HW8 z3 z4 z5 z6 z7 z8 HA2 HB2 HC2 HT2
  refine (Next_any ⟨⟨none, 0, 0⟩, ⟨some ⟨w2.heap.size, 0, none⟩, 1, 1⟩, ⟨some ⟨w3.heap.size, 0, none⟩, 1, 1⟩, ⟨some ⟨w4.heap.size, 0, none⟩, 1, 1⟩, ⟨some ⟨w5.heap.size, 0, none⟩, 1, 1⟩, ⟨some ⟨w6.heap.size, 0, none⟩, 1, 1⟩, ⟨some ⟨w7.heap.size, 0, none⟩, 1, 1⟩⟩ marC 0 w8 HT8.out.t HCM.out).mono ?_
  rintro e w9 ⟨rfl, hb9⟩
  rw [mar_next.1, mar_next.2]
  have HB9 := Lib.hid (more3 HB8.out HB8.out.size hb9)
  have HA9 := Lib.hid (HA8.out.below hb9 HA8.out.lt)
  have HC9 := Lib.hid ((HC8.out.wideM hsz28).below hb9)
  have HC9L : Hid (IntsAt w9 w8.heap.size c.d.A c.d.n [1, 3, 4, 5]) := HC9.out.1
  have HT9 := Lib.hid (HT.out.below HB9.out)
  have hsz89 : w8.heap.size ≤ w9.heap.size := hb9.size
  clear hb9 HCM HB8 HA8 HC8
  go_wp2_with fail
  refine (Parse_any _ (by decide) _ HT9.out).mono ?_
  rintro e w10 ⟨c2, rfl, hcal2, _, hb10⟩
  rw [show ∀ l : List UInt8, l = [100, 97, 105, 108, 121] → (parseC l).isSome = true from fun l h => by rw [h, HP2.out]; rfl]
  rotate_left
  · rfl
  have HB10 := Lib.hid (more3 HB9.out HB9.out.size hb10)
  have HA10 := Lib.hid (HA9.out.below hb10 HA9.out.lt)
  have HL10 : Hid (IntsAt w10 w10.heap.size c.d.A c.d.n [1, 3, 4, 5]) := (HC9L.out.wide hsz89).below hb10 |>.wide hb10.size
  have HC10 := Lib.hid (hcal2 dailyC HP2.out)
  clear hcal2 hb10 HC9 HC9L HA9 HB9
  have hne : w1.heap.size ≠ w10.heap.size := by have := HA10.out.lt; omega
  have HD0 : Hid (Blk (w10.alloc (.cells #[.slice none 0 0, .slice none 0 0, .slice none 0 0, .slice none 0 0, .slice none 0 0, .slice none 0 0, .slice none 0 0] 25)) w10.heap.size 25 nilCh.cells) := Blk.new w10 _ _
  have HD11 : Hid (Blk ((w10.alloc (.cells #[.slice none 0 0, .slice none 0 0, .slice none 0 0, .slice none 0 0, .slice none 0 0, .slice none 0 0, .slice none 0 0] 25)).setRow w10.heap.size c2.cells) w10.heap.size 25 c2.cells) := Blk.row HD0.out _
  have HA11 : Hid (Blk ((w10.alloc (.cells #[.slice none 0 0, .slice none 0 0, .slice none 0 0, .slice none 0 0, .slice none 0 0, .slice none 0 0, .slice none 0 0] 25)).setRow w10.heap.size c2.cells) w1.heap.size 25 c.cells) := (heap_row_other _ _ _ _ hne).trans (HA10.out.alloc _)
  have HB11 : Hid (Below w.heap.size w ((w10.alloc (.cells #[.slice none 0 0, .slice none 0 0, .slice none 0 0, .slice none 0 0, .slice none 0 0, .slice none 0 0, .slice none 0 0] 25)).setRow w10.heap.size c2.cells)) := below_setRow (HB10.out.alloc HB10.out.size _) HB10.out.size _
  have HC11 : Hid (CalAt ((w10.alloc (.cells #[.slice none 0 0, .slice none 0 0, .slice none 0 0, .slice none 0 0, .slice none 0 0, .slice none 0 0, .slice none 0 0] 25)).setRow w10.heap.size c2.cells) (w10.heap.size + 1) c2 dailyC) := cal_keepN ((HC10.out.below ((Below.refl _ _).alloc (Nat.le_refl _) _)).wideM (Nat.le_succ _)) HD0.out (noInt_ch _) (heap_row_other _ _ _)
  have HL11 : Hid (IntsAt ((w10.alloc (.cells #[.slice none 0 0, .slice none 0 0, .slice none 0 0, .slice none 0 0, .slice none 0 0, .slice none 0 0, .slice none 0 0] 25)).setRow w10.heap.size c2.cells) (w10.heap.size + 1) c.d.A c.d.n [1, 3, 4, 5]) := ints_keepN ((HL10.out.below ((Below.refl _ _).alloc (Nat.le_refl _) _)).wide (Nat.le_succ _)) HD0.out (noInt_ch _) (heap_row_other _ _ _)
  have HS11 : Hid (((w10.alloc (.cells #[.slice none 0 0, .slice none 0 0, .slice none 0 0, .slice none 0 0, .slice none 0 0, .slice none 0 0, .slice none 0 0] 25)).setRow w10.heap.size c2.cells).heap.size = w10.heap.size + 1) := by show _ = _; rw [size_row]; simp
  clear HC10 HL10 HA10 HB10
  have hn4 : c.d.n = 4 := HL11.out.1.symm
  obtain ⟨ad, hA, _, hcell⟩ := HL11.out.at_ (k := 1) (by rw [hn4]; decide)
  have HK1 : Hid (((w10.alloc (.cells #[.slice none 0 0, .slice none 0 0, .slice none 0 0, .slice none 0 0, .slice none 0 0, .slice none 0 0, .slice none 0 0] 25)).setRow w10.heap.size c2.cells).cell? ⟨ad.block, ad.off + 1, none⟩ = some (.int .i64 3)) := hcell
  have HK0 : Hid (((w10.alloc (.cells #[.slice none 0 0, .slice none 0 0, .slice none 0 0, .slice none 0 0, .slice none 0 0, .slice none 0 0, .slice none 0 0] 25)).setRow w10.heap.size c2.cells).cell? ⟨w1.heap.size, 0, none⟩ = some (.slice (some ad) 4 c.d.c)) := by
    show _ = _
    rw [HA11.out.cell 0]
    unfold Ch.cells
    rw [hA, hn4]; rfl
  clear hcell hA hn4 HL11 HA11
  generalize c.d.c = dc at HK0
  go_wp2_with (first | (refine wpList_store_row rfl 25 (.tmp 5) (.tmp 24) (by rfl) w10.heap.size c2.cells (by rfl) (by rfl) 25 nilCh.cells HD0.out (by kernel_rfl) rfl (ch_all _) ?_; generalize ((w10.alloc (.cells #[.slice none 0 0, .slice none 0 0, .slice none 0 0, .slice none 0 0, .slice none 0 0, .slice none 0 0, .slice none 0 0] 25)).setRow w10.heap.size c2.cells) = w11 at *; have hk0 := HK0.out; have hk1 := HK1.out) | (refine wpList_wantN (by rfl) ?_; refine wp_load_row 25 (.tmp 5) (by rfl) w10.heap.size (by rfl) 25 c2.cells (0, 0) _ HD11.out Tryz.underlying25 rfl (by kernel_rfl) ?_))
  have hm12 := Match_any c2 dailyC 86400 w11 (HT.out.below HB11.out).t (by rw [HS11.out]; exact HC11.out)
  rw [daily_yes] at hm12
  refine hm12.mono ?_
  rintro e w12 ⟨rfl, hb12⟩
  have HB12 := Lib.hid (more3 HB11.out HB11.out.size hb12)
  have HD12 := Lib.hid (HD11.out.below hb12 HD11.out.lt)
  have HC12 : Hid (CalAt w12 w12.heap.size c2 dailyC) := by
    show CalAt _ _ _ _
    have h : CalAt w11 w11.heap.size c2 dailyC := by rw [HS11.out]; exact HC11.out
    exact (h.below hb12).wideM hb12.size
  clear hb12 hm12 hk0 hk1 HK0 HK1 HD0 HD11 HC11 HB11
  go_wp2_with (refine wpList_wantN (by rfl) ?_; refine wp_load_row 25 (.tmp 5) (by rfl) w10.heap.size (by rfl) 25 c2.cells (0, 0) _ HD12.out Tryz.underlying25 rfl (by kernel_rfl) ?_)
  have hm13 := Match_any c2 dailyC 1 w12 (HT.out.below HB12.out).t HC12.out
  rw [daily_no] at hm13
  refine hm13.mono ?_
  rintro e w13 ⟨rfl, hb13⟩
  have HB13 := Lib.hid (more3 HB12.out HB12.out.size hb13)
  have HD13 := Lib.hid (HD12.out.below hb13 HD12.out.lt)
  have HC13 : Hid (CalAt w13 w13.heap.size c2 dailyC) := (HC12.out.below hb13).wideM hb13.size
  clear hb13 hm13 HD12 HC12 HB12
  go_wp2_with (refine wpList_wantN (by rfl) ?_; refine wp_load_row 25 (.tmp 5) (by rfl) w10.heap.size (by rfl) 25 c2.cells (0, 0) _ HD13.out Tryz.underlying25 rfl (by kernel_rfl) ?_)
  have hp14 := Print_any c2 dailyC w13 (HT.out.below HB13.out).t HC13.out
  rw [daily_print] at hp14
  refine hp14.mono ?_
  rintro e w14 ⟨rfl, hb14⟩
  have HB14 := Lib.hid (more3 HB13.out HB13.out.size hb14)
  clear hb14 hp14 HD13 HC13 HB13
  rw [show str [42, 45, 42, 45, 42, 32, 48, 48, 58, 48, 48, 58, 48, 48] = (⟨#[42, 45, 42, 45, 42, 32, 48, 48, 58, 48, 48, 58, 48, 48]⟩ : ByteArray) from rfl]
  go_wp2_with fail
  go_ret
  exact ⟨rfl, HB14.out⟩
end Go.Proofs.YtncolcjejgmhjaaGreatDoor
