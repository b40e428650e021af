/- What the laws of chapter 8 show ahead of all: the walk of shown. The walk of the developers' isListOf at matins/keys.isN -/
import Derived.Test.YtadifolonbkamaaGreatDoorKvam
import Derived.Test.YtadifolonbkamaaGreatDoorKvaw
import Derived.Test.YtadifolonbkamaaGreatDoorKvaf
namespace Go.Proofs.YtadifolonbkamaaGreatDoor
open Go.RowKit
theorem takes_names (r : Kr) (v : ByteArray) (he : v.toList.isEmpty = false) (hv : v.size ≤ maxLen) (w : World) : TakesAt 6 r v (listS unitS v) w := by
  unfold TakesAt
  have HC := Lib.hid fun w => listG_any v hv w
  go_enter Tryz.func28, Tryz.ntmps28
  go_wp2_with fail
  refine (HC.out _).mono ?_
  rintro e w1 ⟨rfl, hb⟩
  go_wp2_with fail
  go_ret
  exact ⟨rfl, more ((Below.refl _ w).alloc (Nat.le_refl _) _) hb⟩
def valueB (x : Ky) (v : ByteArray) : Int :=
  if v.toList.isEmpty = true then (if x.l = true then 0 else 12) else if x.f = 6 then (if listS unitS v = true then 0 else 12) else (if x.w.any (fun y => decide (y = v.data.toList)) = true then 0 else 12)
theorem value_names (x : Ky) (hx : x.f = 6) (r : Kr) (v : ByteArray) (hv : v.size ≤ maxLen) (B : Nat) (w : World) (h : r.is w B x) :
    Calls Tryz.prog 15 #[.agg #[.string (str r.s), .string (str r.n), .int .i64 r.f, .bool r.l, .int .i64 r.k, .slice r.A r.m r.c], .string v] w fun e w' => e = .returned (.int .i64 (valueB x v)) ∧ Below w.heap.size w w' := by
  rw [h.2.2.1, hx]
  unfold valueB
  by_cases he : v.toList.isEmpty = true
  · rw [if_pos he]
    have := Value_of 6 (by decide) (by decide) r v r.l w (takes_empty 6 (by decide) r v he _)
    rw [h.2.2.2.1] at this
    rw [h.2.2.2.1]
    exact this
  · rw [if_neg he, if_pos hx]
    exact Value_of 6 (by decide) (by decide) r v _ w (takes_names r v (by simpa using he) hv _)
theorem value_word (x : Ky) (hx : x.f = 10) (r : Kr) (v : ByteArray) (B : Nat) (w : World) (h : r.is w B x) (hB : B ≤ w.heap.size) :
    Calls Tryz.prog 15 #[.agg #[.string (str r.s), .string (str r.n), .int .i64 r.f, .bool r.l, .int .i64 r.k, .slice r.A r.m r.c], .string v] w fun e w' => e = .returned (.int .i64 (valueB x v)) ∧ Below w.heap.size w w' := by
  have hw := h.2.2.2.2.2.1
  rw [h.2.2.1, hx]
  unfold valueB
  by_cases he : v.toList.isEmpty = true
  · rw [if_pos he]
    have := Value_of 10 (by decide) (by decide) r v r.l w (takes_empty 10 (by decide) r v he _)
    rw [h.2.2.2.1] at this
    rw [h.2.2.2.1]
    exact this
  · rw [if_neg he, if_neg (by rw [hx]; decide)]
    exact Value_of 10 (by decide) (by decide) r v _ w (takes_word r v (by simpa using he) _ B x.w (hw.below (((Below.refl _ w).alloc (Nat.le_refl _) _).mono hB)) (by simp; omega))
def lnA : Ln := ⟨nUnit, [65, 102, 116, 101, 114], [97, 46, 115, 101, 114, 118, 105, 99, 101], 2⟩
def lnB : Ln := ⟨nServ, [84, 121, 112, 101], [111, 100, 100], 4⟩
def kyA : Ky := ⟨nUnit, [65, 102, 116, 101, 114], 6, true, 30, []⟩
def kyB : Ky := ⟨nServ, [84, 121, 112, 101], 10, false, 2, [[115, 105, 109, 112, 108, 101], [111, 110, 101, 115, 104, 111, 116], [110, 111, 116, 105, 102, 121]]⟩
theorem find_A : findT lnA.s lnA.k = some kyA := by decide +kernel
theorem find_B : findT lnB.s lnB.k = some kyB := by decide +kernel
theorem val_A : valueB kyA (str lnA.v) = 0 := by decide +kernel
theorem val_B : valueB kyB (str lnB.v) = 12 := by decide +kernel
theorem val_N : valueB kyB ⟨#[110, 111, 116, 105, 102, 121]⟩ = 0 := by decide +kernel
theorem line_A (kind : Int) (h : oftenT lnA.s kind = true) : lineV valueB kind (str lnA.s) (str lnA.k) (str lnA.v) = 0 := by
  unfold lineV
  rw [str_list, str_list, if_pos h, find_A]
  exact val_A
theorem check_serv : checkV valueB 1 [lnA, lnB] = (12, 4) := by
  rw [checkV, line_A 1 (by decide +kernel), if_pos rfl, checkV]
  have : lineV valueB 1 (str lnB.s) (str lnB.k) (str lnB.v) = 12 := by
    unfold lineV
    rw [str_list, str_list, if_pos (by decide +kernel), find_B]
    exact val_B
  rw [this, if_neg (by decide)]
  rfl
theorem check_targ : checkV valueB 4 [lnA, lnB] = (10, 4) := by
  rw [checkV, line_A 4 (by decide +kernel), if_pos rfl, checkV]
  have : lineV valueB 4 (str lnB.s) (str lnB.k) (str lnB.v) = 10 := by
    unfold lineV
    rw [str_list, if_neg (by decide +kernel)]
  rw [this, if_neg (by decide)]
  rfl
theorem says_A (w0 : World) : ValueSays valueB lnA.s lnA.k (str lnA.v) w0 := by
  intro x r B w hw hr hB hf
  rw [find_A] at hf
  obtain rfl : kyA = x := Option.some.inj hf
  exact value_names kyA rfl r _ (by decide) B w hr
theorem says_B (w0 : World) : ValueSays valueB lnB.s lnB.k (str lnB.v) w0 := by
  intro x r B w hw hr hB hf
  rw [find_B] at hf
  obtain rfl : kyB = x := Option.some.inj hf
  exact value_word kyB rfl r _ B w hr hB
theorem LnsAt.of_blk {w : World} {g n : Nat} {l : List Ln} {t : TypeId} {cs : Array Value} (h : Blk w g t cs) (hcs : cs = (lns l).toArray) (hl : l.length = n) (hn : n ≤ maxLen) : LnsAt w w.heap.size (some ⟨g, 0, none⟩) n l := by
  subst hcs
  refine ⟨hl, hn, fun _ => ⟨⟨g, 0, none⟩, rfl, h.lt, fun j u hj => ?_⟩⟩
  have : (⟨g, 0, none⟩ : Addr).add j = ⟨g, j, none⟩ := by unfold Addr.add; split <;> simp_all
  rw [this, h.cell j]
  simpa using hj
theorem check_flt {V : Ky → ByteArray → Int} {kind a b : Int} {l : List Ln} (h : checkV V kind l = (a, b)) : Value.agg (fltA (checkV V kind l).1 (checkV V kind l).2) = .agg #[.int .i64 a, .int .i64 b] := by rw [h]; rfl
set_option maxRecDepth 100000 in
set_option maxHeartbeats 16000000 in
theorem shown_any (w : World) : Calls Tryz.prog 9 #[] w fun e w' => e = .returned (.bool true) ∧ Below w.heap.size w w' := by
  have HF := Lib.hid fun w => Find_any ⟨#[83, 101, 114, 118, 105, 99, 101]⟩ ⟨#[84, 121, 112, 101]⟩ w
  have hq1 : ∀ w : World, (binOp .eql 37 (.agg #[.int .i64 12, .int .i64 4]) (.agg #[.int .i64 12, .int .i64 4])).run Tryz.prog w = .ok (.bool true) w := fun w => run_eql_fault w 12 4 12 4
  have hq2 : ∀ w : World, (binOp .eql 37 (.agg #[.int .i64 10, .int .i64 4]) (.agg #[.int .i64 10, .int .i64 4])).run Tryz.prog w = .ok (.bool true) w := fun w => run_eql_fault w 10 4 10 4
  go_enter Tryz.func9, Tryz.ntmps9
  go_wp2_with fail
  refine (HF.out _).mono ?_
  rintro e1 w1 ⟨r, rfl, hr, hb1⟩
  change r.is w1 w1.heap.size kyB at hr
  rw [show (findT (⟨#[83, 101, 114, 118, 105, 99, 101]⟩ : ByteArray).data.toList (⟨#[84, 121, 112, 101]⟩ : ByteArray).data.toList).isSome = true from by decide +kernel]
  have hm : r.m = 3 := hr.2.2.2.2.2.1.1.symm
  have hff : r.f = 10 := hr.2.2.1
  have hll : r.l = false := hr.2.2.2.1
  obtain ⟨rs, rn, rf, rl, rk, rA, rm, rc⟩ := r
  simp only at hm hff hll
  subst hm hff hll
  have HB2 : Hid (Below w.heap.size w ((w1.alloc (.cells #[.string (str rs), .string (str rn), .int .i64 10, .bool false, .int .i64 rk, .slice rA 3 rc] 28)).alloc (.cells #[.string ⟨#[85, 110, 105, 116]⟩, .string ⟨#[65, 102, 116, 101, 114]⟩, .string ⟨#[97, 46, 115, 101, 114, 118, 105, 99, 101]⟩, .int .i64 2, .string ⟨#[83, 101, 114, 118, 105, 99, 101]⟩, .string ⟨#[84, 121, 112, 101]⟩, .string ⟨#[111, 100, 100]⟩, .int .i64 4] 44))) := (hb1.alloc hb1.size _).alloc (by simp; have := hb1.size; omega) _
  have HR2 : Hid (Kr.is ((w1.alloc (.cells #[.string (str rs), .string (str rn), .int .i64 10, .bool false, .int .i64 rk, .slice rA 3 rc] 28)).alloc (.cells #[.string ⟨#[85, 110, 105, 116]⟩, .string ⟨#[65, 102, 116, 101, 114]⟩, .string ⟨#[97, 46, 115, 101, 114, 118, 105, 99, 101]⟩, .int .i64 2, .string ⟨#[83, 101, 114, 118, 105, 99, 101]⟩, .string ⟨#[84, 121, 112, 101]⟩, .string ⟨#[111, 100, 100]⟩, .int .i64 4] 44)) w1.heap.size ⟨rs, rn, 10, false, rk, rA, 3, rc⟩ kyB) := hr.below (((Below.refl w1.heap.size w1).alloc (Nat.le_refl _) _).alloc (by simp) _)
  have HL2 : Hid (LnsAt ((w1.alloc (.cells #[.string (str rs), .string (str rn), .int .i64 10, .bool false, .int .i64 rk, .slice rA 3 rc] 28)).alloc (.cells #[.string ⟨#[85, 110, 105, 116]⟩, .string ⟨#[65, 102, 116, 101, 114]⟩, .string ⟨#[97, 46, 115, 101, 114, 118, 105, 99, 101]⟩, .int .i64 2, .string ⟨#[83, 101, 114, 118, 105, 99, 101]⟩, .string ⟨#[84, 121, 112, 101]⟩, .string ⟨#[111, 100, 100]⟩, .int .i64 4] 44)) ((w1.alloc (.cells #[.string (str rs), .string (str rn), .int .i64 10, .bool false, .int .i64 rk, .slice rA 3 rc] 28)).alloc (.cells #[.string ⟨#[85, 110, 105, 116]⟩, .string ⟨#[65, 102, 116, 101, 114]⟩, .string ⟨#[97, 46, 115, 101, 114, 118, 105, 99, 101]⟩, .int .i64 2, .string ⟨#[83, 101, 114, 118, 105, 99, 101]⟩, .string ⟨#[84, 121, 112, 101]⟩, .string ⟨#[111, 100, 100]⟩, .int .i64 4] 44)).heap.size (some ⟨w1.heap.size + 1, 0, none⟩) 2 [lnA, lnB]) := by
    have := Blk.new (w1.alloc (.cells #[.string (str rs), .string (str rn), .int .i64 10, .bool false, .int .i64 rk, .slice rA 3 rc] 28)) 44 #[.string ⟨#[85, 110, 105, 116]⟩, .string ⟨#[65, 102, 116, 101, 114]⟩, .string ⟨#[97, 46, 115, 101, 114, 118, 105, 99, 101]⟩, .int .i64 2, .string ⟨#[83, 101, 114, 118, 105, 99, 101]⟩, .string ⟨#[84, 121, 112, 101]⟩, .string ⟨#[111, 100, 100]⟩, .int .i64 4]
    rw [World.size_alloc] at this
    exact LnsAt.of_blk this (by kernel_rfl) rfl (by decide)
  have hz : w1.heap.size ≤ ((w1.alloc (.cells #[.string (str rs), .string (str rn), .int .i64 10, .bool false, .int .i64 rk, .slice rA 3 rc] 28)).alloc (.cells #[.string ⟨#[85, 110, 105, 116]⟩, .string ⟨#[65, 102, 116, 101, 114]⟩, .string ⟨#[97, 46, 115, 101, 114, 118, 105, 99, 101]⟩, .int .i64 2, .string ⟨#[83, 101, 114, 118, 105, 99, 101]⟩, .string ⟨#[84, 121, 112, 101]⟩, .string ⟨#[111, 100, 100]⟩, .int .i64 4] 44)).heap.size := by simp; omega
  have HV2 := Lib.hid (value_word kyB rfl _ ⟨#[110, 111, 116, 105, 102, 121]⟩ _ _ HR2.out hz)
  rw [val_N] at HV2
  have hbz := hb1.size
  clear hr hb1 HF
  unfold krA
  simp only
  go_wp2_with fail
  generalize ((w1.alloc (.cells #[.string (str rs), .string (str rn), .int .i64 10, .bool false, .int .i64 rk, .slice rA 3 rc] 28)).alloc (.cells #[.string ⟨#[85, 110, 105, 116]⟩, .string ⟨#[65, 102, 116, 101, 114]⟩, .string ⟨#[97, 46, 115, 101, 114, 118, 105, 99, 101]⟩, .int .i64 2, .string ⟨#[83, 101, 114, 118, 105, 99, 101]⟩, .string ⟨#[84, 121, 112, 101]⟩, .string ⟨#[111, 100, 100]⟩, .int .i64 4] 44)) = w2 at *
  refine HV2.out.mono ?_
  rintro e3 w3 ⟨rfl, hb3⟩
  have HB3 := Lib.hid (more3 HB2.out HB2.out.size hb3)
  have HL3 := Lib.hid (HL2.out.below hb3)
  have hz3 := hb3.size
  have hV : ∀ x ∈ [lnA, lnB], ValueSays valueB x.s x.k (str x.v) w := by
    intro x hx
    simp only [List.mem_cons, List.not_mem_nil, or_false] at hx
    rcases hx with rfl | rfl
    · exact says_A w
    · exact says_B w
  have HV := Lib.hid hV
  clear hb3 HV2 hV
  go_wp2_with fail
  refine (Check_of valueB 1 _ 2 2 _ [lnA, lnB] w w3 HL3.out hz3 HB3.out HV.out).mono ?_
  rintro e4 w4 ⟨rfl, hb4⟩
  rw [check_flt check_serv]
  have HB4 := Lib.hid (more3 HB3.out HB3.out.size hb4)
  have HL4 := Lib.hid (HL3.out.below (hb4.mono hz3))
  have hz4 := Nat.le_trans hz3 hb4.size
  clear hb4
  go_wp2_with fail
  refine (Check_of valueB 4 _ 2 2 _ [lnA, lnB] w w4 HL4.out hz4 HB4.out HV.out).mono ?_
  rintro e5 w5 ⟨rfl, hb5⟩
  rw [check_flt check_targ]
  have HB5 := Lib.hid (more3 HB4.out HB4.out.size hb5)
  clear hb5
  go_wp2_with fail
  refine (All_any _).mono ?_
  rintro e6 w6 ⟨v, rfl, hk⟩
  have hb6 := hk.below
  obtain ⟨A, c, rfl, _⟩ := hk.at_ (by decide +kernel)
  rw [allT_len]
  have HB6 := Lib.hid (more3 HB5.out HB5.out.size hb6)
  clear hb6 hk
  go_wp2_with fail
  go_ret
  exact ⟨rfl, HB6.out⟩
end Go.Proofs.YtadifolonbkamaaGreatDoor
namespace Go.Proofs.YtadifolonbkamaaGreatDoor
open Go.RowKit
attribute [local go_sem] Oper.semAt_some
set_option maxRecDepth 100000 in
set_option maxHeartbeats 8000000 in
theorem listGn_any (s : ByteArray) (hs : s.size ≤ maxLen) (w : World) :
    Calls Tryz.prog 50 #[.string s, .func (.func 49) #[] #[]] w fun e w' => e = .returned (.bool (listS numS s)) ∧ Below w.heap.size w w' := by
  refine (callsIn_wide (n := 9)).1 ?_
  refine callsIn_of_wp_marks Tryz.func50 rfl trivial ?_ rfl
  simp only [Tryz.ntmps50, List.size_toArray, List.length_cons, List.length_nil, Nat.reduceAdd, Nat.reduceSub, Array.replicate_succ, Array.replicate_zero, List.push_toArray, List.append_toArray, List.nil_append, List.cons_append]
  gi_wp2_with (refine ⟨trivial, ?_⟩; gi_at_call 75; refine (callsIn_wide.2 (blankSeq_any _ _)).mono ?_; rintro e w' ⟨rfl, rfl⟩)
  obtain ⟨hB0, hR0, hR1, hP0, hS0, hZ0⟩ := boxes6 w 41 4 4 (.func (.func 49) #[] #[]) (.bool false) (.bool false) s _ rfl
  have hI0 : UI 41 49 numS w [] ((((((w.alloc (.cells #[.func (.func 49) #[] #[]] 41)).alloc (.cells #[.bool false] 4)).alloc (.cells #[.bool false] 4)).alloc (.cells #[.string s] 9)).alloc (.cells #[.string ⟨#[32]⟩] 9)).alloc (.cells #[.int .i64 0] 3)) := ⟨rfl, hR0, hR1, hP0, hB0, by omega⟩
  generalize (((((w.alloc (.cells #[.func (.func 49) #[] #[]] 41)).alloc (.cells #[.bool false] 4)).alloc (.cells #[.bool false] 4)).alloc (.cells #[.string s] 9)).alloc (.cells #[.string ⟨#[32]⟩] 9)).alloc (.cells #[.int .i64 0] 3) = W0 at *
  refine range_boxD (C := w.heap.size + 1 + 1 + 1) (D := w.heap.size + 1 + 1 + 1 + 3) rfl (by omega) rfl trivial (enters_of Tryz.func124 (by kernel_rfl) rfl) (by omega) (by omega)
    (split_seq _ (by omega) _ s hs W0 (by omega) hS0) (UI 41 49 numS w) (UX numS w) (fun _ _ _ h hb => h.below hb) (fun _ _ _ ht h => h.turn ht) (fun _ _ _ _ ht h => h.turn ht) hI0
    (fun x => { tmps := #[.string s, .func (.func 49) #[] #[], undef, .pointer (some ⟨w.heap.size, 0, none⟩), .pointer (some ⟨w.heap.size + 1, 0, none⟩), .pointer (some ⟨w.heap.size + 1 + 1, 0, none⟩), .string x, .string s, .func (.func 124) #[] #[.pointer (some ⟨w.heap.size + 1 + 1 + 1 + 1, 0, none⟩), .pointer (some ⟨w.heap.size + 1 + 1 + 1, 0, none⟩), .pointer (some ⟨w.heap.size + 1 + 1 + 1 + 2, 0, none⟩)], .string x, undef, undef, undef, undef, undef, undef, undef], defers := [] }) ?assign ?body ?done ?stop
  case assign =>
    intro l x W K hK
    gi_wp2
    exact hK
  case body =>
    rintro l pre x post W hxs hI hD hl hlo hde
    have hx : x.size ≤ maxLen := by
      have := piece_size (s := s) (x := x) (by rw [hxs]; simp)
      omega
    obtain ⟨hg, h0, h1, h2, hb, hsz⟩ := hI
    have HS0 := Lib.hid (stand_below (C := w.heap.size + 1 + 1 + 1) (Y := W) (Below.refl _ W) hD hlo)
    have HLO := Lib.hid hlo
    have HG := Lib.hid hg
    have H0 := Lib.hid h0
    have H1 := Lib.hid h1
    have H2 := Lib.hid h2
    have HB := Lib.hid hb
    have c0 : W.cell? ⟨w.heap.size, 0, none⟩ = some (.func (.func 49) #[] #[]) := h0.cell 0
    clear hxs hlo hde hg h0 h1 h2 hb
    rcases he : x.toList.isEmpty with _ | _
    · rcases hp : numS x with _ | _
      · have HX : Hid (goodU numS (pre ++ [x]) = false) := by show _ = _; rw [goodU_snoc]; unfold pieceOk; rw [he, hp]; simp
        have HC := Lib.hid (isNumber_any x hx W)
        rw [hp] at HC
        clear hp
        gi_wp2_with (refine ⟨trivial, ?_⟩; gi_at_call 49; refine (CallsIn.inRound l (callsIn_wide.2 HC.out)).mono ?_; rintro e w1 ⟨rfl, hb1⟩; have HB1 := Lib.hid (more3 HB.out HB.out.size hb1); have H1a := Lib.hid (H1.out.below hb1 H1.out.lt); have HS1 := Lib.hid (stand_below (C := w.heap.size + 1 + 1 + 1) hb1 hD HLO.out); have hs1 := hb1.size; have c1 : w1.cell? ⟨w.heap.size + 1, 0, none⟩ = some (.bool false) := H1a.out.cell 0; have f1 : w1.frozen? ⟨w.heap.size + 1, 0, none⟩ = false := H1a.out.frozen 0; clear hb1)
        refine ⟨stand_set HS1.out _ (by show w.heap.size + 1 < _; omega) hl (by omega), rfl, HX.out, H1a.out.setCell 0 (.bool false), HB1.out.setCell (p := ⟨w.heap.size + 1, 0, none⟩) (by show w.heap.size ≤ w.heap.size + 1; omega) _, by simp [World.setCell]; omega⟩
      · have HX : Hid (goodU numS (pre ++ [x]) = true) := by show _ = _; rw [goodU_snoc, HG.out]; unfold pieceOk; rw [he, hp]; simp
        have HF : Hid (foundU (pre ++ [x]) = true) := by show _ = _; rw [foundU_snoc, he]; simp
        have HC := Lib.hid (isNumber_any x hx W)
        rw [hp] at HC
        clear hp
        gi_wp2_with (refine ⟨trivial, ?_⟩; gi_at_call 49; refine (CallsIn.inRound l (callsIn_wide.2 HC.out)).mono ?_; rintro e w1 ⟨rfl, hb1⟩; have HB1 := Lib.hid (more3 HB.out HB.out.size hb1); have H0a := Lib.hid (H0.out.below hb1 H0.out.lt); have H1a := Lib.hid (H1.out.below hb1 H1.out.lt); have H2a := Lib.hid (H2.out.below hb1 H2.out.lt); have HS1 := Lib.hid (stand_below (C := w.heap.size + 1 + 1 + 1) hb1 hD HLO.out); have hs1 := hb1.size; have c1 : w1.cell? ⟨w.heap.size + 1 + 1, 0, none⟩ = some (.bool (foundU pre)) := H2a.out.cell 0; have f1 : w1.frozen? ⟨w.heap.size + 1 + 1, 0, none⟩ = false := H2a.out.frozen 0; clear hb1)
        refine ⟨stand_set HS1.out _ (by show w.heap.size + 1 + 1 < _; omega) hl (by omega), HX.out, H0a.out.setOther (a := ⟨w.heap.size + 1 + 1, 0, none⟩) (by simp; omega) _, H1a.out.setOther (a := ⟨w.heap.size + 1 + 1, 0, none⟩) (by simp) _, ?_, HB1.out.setCell (p := ⟨w.heap.size + 1 + 1, 0, none⟩) (by show w.heap.size ≤ w.heap.size + 1 + 1; omega) _, by simp [World.setCell]; omega⟩
        rw [HF.out]
        exact H2a.out.setCell 0 (.bool true)
    · have HX : Hid (goodU numS (pre ++ [x]) = true) := by show _ = _; rw [goodU_snoc, HG.out]; unfold pieceOk; rw [he]; simp
      have HF : Hid (foundU (pre ++ [x]) = foundU pre) := by show _ = _; rw [foundU_snoc, he]; simp
      gi_wp2
      exact ⟨HS0.out, HX.out, H0.out, H1.out, by rw [HF.out]; exact H2.out, HB.out, hsz⟩
  case done =>
    rintro M W hM ⟨hg, h0, h1, h2, hb, hsz⟩ hK
    have HV : Hid (listS numS s = foundU (piecesS s)) := by show _ = _; unfold listS; rw [hg, Bool.true_and]
    have c2 : W.cell? ⟨w.heap.size + 1 + 1, 0, none⟩ = some (.bool (foundU (piecesS s))) := h2.cell 0
    have c1 : W.cell? ⟨w.heap.size + 1, 0, none⟩ = some (.bool false) := h1.cell 0
    have f1 : W.frozen? ⟨w.heap.size + 1, 0, none⟩ = false := h1.frozen 0
    have hMlt : M < W.heap.size := (Array.getElem?_eq_some_iff.1 hK).1
    have H1 : Hid (Blk (W.setCell ⟨w.heap.size + 1, 0, none⟩ (.bool (foundU (piecesS s)))) (w.heap.size + 1) 4 #[.bool (foundU (piecesS s))]) := h1.setCell 0 _
    have HK : Hid ((W.setCell ⟨w.heap.size + 1, 0, none⟩ (.bool (foundU (piecesS s)))).heap[M]? = some (.deferred (some []))) := (Below.heap_setCell W ⟨w.heap.size + 1, 0, none⟩ _ M (by show M ≠ w.heap.size + 1; omega)).trans hK
    have HB : Hid (Below w.heap.size w (W.setCell ⟨w.heap.size + 1, 0, none⟩ (.bool (foundU (piecesS s))))) := hb.setCell (p := ⟨w.heap.size + 1, 0, none⟩) (by show w.heap.size ≤ w.heap.size + 1; omega) _
    clear hg h0 h1 h2 hb hK
    gi_wp2
    generalize W.setCell ⟨w.heap.size + 1, 0, none⟩ (.bool (foundU (piecesS s))) = Wz at *
    refine ⟨by simp, .inl ⟨_, _, rfl, run_takeDeferred (w := Wz) HK.out, ?_⟩⟩
    have e1 : (Wz.putObj M (.deferred none)).cell? ⟨w.heap.size + 1, 0, none⟩ = some (.bool (foundU (piecesS s))) := (World.cell?_of_block ((below_put Wz M (.deferred none) (Nat.le_refl M)).block _ (by show w.heap.size + 1 < M; omega))).trans (H1.out.cell 0)
    refine ⟨.bool (foundU (piecesS s)), ?_, ret_bool HV.out.symm, HB.out.trans (below_put _ _ _ (by omega))⟩
    simp [results, Tryz.f50, go_sem, e1]
  case stop =>
    rintro M c pre W hM hpre ⟨rfl, hg, h1, hb, hsz⟩ hK
    gi_wp2
    refine ⟨by simp, .inl ⟨_, _, rfl, run_takeDeferred hK, ?_⟩⟩
    have e1 : (W.putObj M (.deferred none)).cell? ⟨w.heap.size + 1, 0, none⟩ = some (.bool false) := (World.cell?_of_block ((below_put W M (.deferred none) (Nat.le_refl M)).block _ (by show w.heap.size + 1 < M; omega))).trans (h1.cell 0)
    have hno : listS numS s = false := by
      obtain ⟨post, hp⟩ := hpre
      unfold listS goodU at *
      rw [← hp, List.all_append, hg]
      rfl
    refine ⟨.bool false, ?_, ret_bool hno.symm, hb.trans (below_put _ _ _ (by omega))⟩
    simp [results, Tryz.f50, go_sem, e1]
end Go.Proofs.YtadifolonbkamaaGreatDoor
