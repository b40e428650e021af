/- What the laws of chapter 8 show ahead of all: the walk of shown. The walks of the developers' takes at every form, and w -/
import Derived.Test.YtadifolonbkamaaGreatDoorKcau
import Derived.Test.YtadifolonbkamaaGreatDoorKcak
import Derived.Test.YtadifolonbkamaaGreatDoorKcam
import Derived.Test.YtadifolonbkamaaGreatDoorKcba
import Derived.Test.YtadifolonbkamaaGreatDoorKcbi
namespace Go.Proofs.YtadifolonbkamaaGreatDoor
open Go.RowKit
theorem takes_names (r : Kr) (v : ByteArray) (he : v.toList.isEmpty = false) (hv : v.size ≤ maxLen) (w : World) : TakesAt 6 r v (listS unitS v) w := by
  unfold TakesAt
  have HC := Lib.hid fun w => listG_any v hv w
  go_enter Tryz.func28, Tryz.ntmps28
  go_wp2_with fail
  refine (HC.out _).mono ?_
  rintro e w1 ⟨rfl, hb⟩
  go_wp2_with fail
  go_ret
  exact ⟨rfl, more ((Below.refl _ w).alloc (Nat.le_refl _) _) hb⟩
def valueB (x : Ky) (v : ByteArray) : Int :=
  if v.toList.isEmpty = true then (if x.l = true then 0 else 12) else if x.f = 6 then (if listS unitS v = true then 0 else 12) else (if x.w.any (fun y => decide (y = v.data.toList)) = true then 0 else 12)
theorem value_names (x : Ky) (hx : x.f = 6) (r : Kr) (v : ByteArray) (hv : v.size ≤ maxLen) (B : Nat) (w : World) (h : r.is w B x) :
    Calls Tryz.prog 15 #[.agg #[.string (str r.s), .string (str r.n), .int .i64 r.f, .bool r.l, .int .i64 r.k, .slice r.A r.m r.c], .string v] w fun e w' => e = .returned (.int .i64 (valueB x v)) ∧ Below w.heap.size w w' := by
  rw [h.2.2.1, hx]
  unfold valueB
  by_cases he : v.toList.isEmpty = true
  · rw [if_pos he]
    have := Value_of 6 (by decide) (by decide) r v r.l w (takes_empty 6 (by decide) r v he _)
    rw [h.2.2.2.1] at this
    rw [h.2.2.2.1]
    exact this
  · rw [if_neg he, if_pos hx]
    exact Value_of 6 (by decide) (by decide) r v _ w (takes_names r v (by simpa using he) hv _)
theorem value_word (x : Ky) (hx : x.f = 10) (r : Kr) (v : ByteArray) (B : Nat) (w : World) (h : r.is w B x) (hB : B ≤ w.heap.size) :
    Calls Tryz.prog 15 #[.agg #[.string (str r.s), .string (str r.n), .int .i64 r.f, .bool r.l, .int .i64 r.k, .slice r.A r.m r.c], .string v] w fun e w' => e = .returned (.int .i64 (valueB x v)) ∧ Below w.heap.size w w' := by
  have hw := h.2.2.2.2.2.1
  rw [h.2.2.1, hx]
  unfold valueB
  by_cases he : v.toList.isEmpty = true
  · rw [if_pos he]
    have := Value_of 10 (by decide) (by decide) r v r.l w (takes_empty 10 (by decide) r v he _)
    rw [h.2.2.2.1] at this
    rw [h.2.2.2.1]
    exact this
  · rw [if_neg he, if_neg (by rw [hx]; decide)]
    exact Value_of 10 (by decide) (by decide) r v _ w (takes_word r v (by simpa using he) _ B x.w (hw.below (((Below.refl _ w).alloc (Nat.le_refl _) _).mono hB)) (by simp; omega))
def lnA : Ln := ⟨nUnit, [65, 102, 116, 101, 114], [97, 46, 115, 101, 114, 118, 105, 99, 101], 2⟩
def lnB : Ln := ⟨nServ, [84, 121, 112, 101], [111, 100, 100], 4⟩
def kyA : Ky := ⟨nUnit, [65, 102, 116, 101, 114], 6, true, 30, []⟩
def kyB : Ky := ⟨nServ, [84, 121, 112, 101], 10, false, 2, [[115, 105, 109, 112, 108, 101], [111, 110, 101, 115, 104, 111, 116], [110, 111, 116, 105, 102, 121]]⟩
theorem find_A : findT lnA.s lnA.k = some kyA := by decide +kernel
theorem find_B : findT lnB.s lnB.k = some kyB := by decide +kernel
theorem val_A : valueB kyA (str lnA.v) = 0 := by decide +kernel
theorem val_B : valueB kyB (str lnB.v) = 12 := by decide +kernel
theorem val_N : valueB kyB ⟨#[110, 111, 116, 105, 102, 121]⟩ = 0 := by decide +kernel
theorem line_A (kind : Int) (h : oftenT lnA.s kind = true) : lineV valueB kind (str lnA.s) (str lnA.k) (str lnA.v) = 0 := by
  unfold lineV
  rw [str_list, str_list, if_pos h, find_A]
  exact val_A
theorem check_serv : checkV valueB 1 [lnA, lnB] = (12, 4) := by
  rw [checkV, line_A 1 (by decide +kernel), if_pos rfl, checkV]
  have : lineV valueB 1 (str lnB.s) (str lnB.k) (str lnB.v) = 12 := by
    unfold lineV
    rw [str_list, str_list, if_pos (by decide +kernel), find_B]
    exact val_B
  rw [this, if_neg (by decide)]
  rfl
theorem check_targ : checkV valueB 4 [lnA, lnB] = (10, 4) := by
  rw [checkV, line_A 4 (by decide +kernel), if_pos rfl, checkV]
  have : lineV valueB 4 (str lnB.s) (str lnB.k) (str lnB.v) = 10 := by
    unfold lineV
    rw [str_list, if_neg (by decide +kernel)]
  rw [this, if_neg (by decide)]
  rfl
theorem says_A (w0 : World) : ValueSays valueB lnA.s lnA.k (str lnA.v) w0 := by
  intro x r B w hw hr hB hf
  rw [find_A] at hf
  obtain rfl : kyA = x := Option.some.inj hf
  exact value_names kyA rfl r _ (by decide) B w hr
theorem says_B (w0 : World) : ValueSays valueB lnB.s lnB.k (str lnB.v) w0 := by
  intro x r B w hw hr hB hf
  rw [find_B] at hf
  obtain rfl : kyB = x := Option.some.inj hf
  exact value_word kyB rfl r _ B w hr hB
theorem LnsAt.of_blk {w : World} {g n : Nat} {l : List Ln} {t : TypeId} {cs : Array Value} (h : Blk w g t cs) (hcs : cs = (lns l).toArray) (hl : l.length = n) (hn : n ≤ maxLen) : LnsAt w w.heap.size (some ⟨g, 0, none⟩) n l := by
  subst hcs
  refine ⟨hl, hn, fun _ => ⟨⟨g, 0, none⟩, rfl, h.lt, fun j u hj => ?_⟩⟩
  have : (⟨g, 0, none⟩ : Addr).add j = ⟨g, j, none⟩ := by unfold Addr.add; split <;> simp_all
  rw [this, h.cell j]
  simpa using hj
theorem check_flt {V : Ky → ByteArray → Int} {kind a b : Int} {l : List Ln} (h : checkV V kind l = (a, b)) : Value.agg (fltA (checkV V kind l).1 (checkV V kind l).2) = .agg #[.int .i64 a, .int .i64 b] := by rw [h]; rfl
set_option maxRecDepth 100000 in
set_option maxHeartbeats 16000000 in
theorem shown_any (w : World) : Calls Tryz.prog 9 #[] w fun e w' => e = .returned (.bool true) ∧ Below w.heap.size w w' := by
  have HF := Lib.hid fun w => Find_any ⟨#[83, 101, 114, 118, 105, 99, 101]⟩ ⟨#[84, 121, 112, 101]⟩ w
  have hq1 : ∀ w : World, (binOp .eql 37 (.agg #[.int .i64 12, .int .i64 4]) (.agg #[.int .i64 12, .int .i64 4])).run Tryz.prog w = .ok (.bool true) w := fun w => run_eql_fault w 12 4 12 4
  have hq2 : ∀ w : World, (binOp .eql 37 (.agg #[.int .i64 10, .int .i64 4]) (.agg #[.int .i64 10, .int .i64 4])).run Tryz.prog w = .ok (.bool true) w := fun w => run_eql_fault w 10 4 10 4
  go_enter Tryz.func9, Tryz.ntmps9
  go_wp2_with fail
  refine (HF.out _).mono ?_
  rintro e1 w1 ⟨r, rfl, hr, hb1⟩
  change r.is w1 w1.heap.size kyB at hr
  rw [show (findT (⟨#[83, 101, 114, 118, 105, 99, 101]⟩ : ByteArray).data.toList (⟨#[84, 121, 112, 101]⟩ : ByteArray).data.toList).isSome = true from by decide +kernel]
  have hm : r.m = 3 := hr.2.2.2.2.2.1.1.symm
  have hff : r.f = 10 := hr.2.2.1
  have hll : r.l = false := hr.2.2.2.1
  obtain ⟨rs, rn, rf, rl, rk, rA, rm, rc⟩ := r
  simp only at hm hff hll
  subst hm hff hll
  have HB2 : Hid (Below w.heap.size w ((w1.alloc (.cells #[.string (str rs), .string (str rn), .int .i64 10, .bool false, .int .i64 rk, .slice rA 3 rc] 28)).alloc (.cells #[.string ⟨#[85, 110, 105, 116]⟩, .string ⟨#[65, 102, 116, 101, 114]⟩, .string ⟨#[97, 46, 115, 101, 114, 118, 105, 99, 101]⟩, .int .i64 2, .string ⟨#[83, 101, 114, 118, 105, 99, 101]⟩, .string ⟨#[84, 121, 112, 101]⟩, .string ⟨#[111, 100, 100]⟩, .int .i64 4] 44))) := (hb1.alloc hb1.size _).alloc (by simp; have := hb1.size; omega) _
  have HR2 : Hid (Kr.is ((w1.alloc (.cells #[.string (str rs), .string (str rn), .int .i64 10, .bool false, .int .i64 rk, .slice rA 3 rc] 28)).alloc (.cells #[.string ⟨#[85, 110, 105, 116]⟩, .string ⟨#[65, 102, 116, 101, 114]⟩, .string ⟨#[97, 46, 115, 101, 114, 118, 105, 99, 101]⟩, .int .i64 2, .string ⟨#[83, 101, 114, 118, 105, 99, 101]⟩, .string ⟨#[84, 121, 112, 101]⟩, .string ⟨#[111, 100, 100]⟩, .int .i64 4] 44)) w1.heap.size ⟨rs, rn, 10, false, rk, rA, 3, rc⟩ kyB) := hr.below (((Below.refl w1.heap.size w1).alloc (Nat.le_refl _) _).alloc (by simp) _)
  have HL2 : Hid (LnsAt ((w1.alloc (.cells #[.string (str rs), .string (str rn), .int .i64 10, .bool false, .int .i64 rk, .slice rA 3 rc] 28)).alloc (.cells #[.string ⟨#[85, 110, 105, 116]⟩, .string ⟨#[65, 102, 116, 101, 114]⟩, .string ⟨#[97, 46, 115, 101, 114, 118, 105, 99, 101]⟩, .int .i64 2, .string ⟨#[83, 101, 114, 118, 105, 99, 101]⟩, .string ⟨#[84, 121, 112, 101]⟩, .string ⟨#[111, 100, 100]⟩, .int .i64 4] 44)) ((w1.alloc (.cells #[.string (str rs), .string (str rn), .int .i64 10, .bool false, .int .i64 rk, .slice rA 3 rc] 28)).alloc (.cells #[.string ⟨#[85, 110, 105, 116]⟩, .string ⟨#[65, 102, 116, 101, 114]⟩, .string ⟨#[97, 46, 115, 101, 114, 118, 105, 99, 101]⟩, .int .i64 2, .string ⟨#[83, 101, 114, 118, 105, 99, 101]⟩, .string ⟨#[84, 121, 112, 101]⟩, .string ⟨#[111, 100, 100]⟩, .int .i64 4] 44)).heap.size (some ⟨w1.heap.size + 1, 0, none⟩) 2 [lnA, lnB]) := by
    have := Blk.new (w1.alloc (.cells #[.string (str rs), .string (str rn), .int .i64 10, .bool false, .int .i64 rk, .slice rA 3 rc] 28)) 44 #[.string ⟨#[85, 110, 105, 116]⟩, .string ⟨#[65, 102, 116, 101, 114]⟩, .string ⟨#[97, 46, 115, 101, 114, 118, 105, 99, 101]⟩, .int .i64 2, .string ⟨#[83, 101, 114, 118, 105, 99, 101]⟩, .string ⟨#[84, 121, 112, 101]⟩, .string ⟨#[111, 100, 100]⟩, .int .i64 4]
    rw [World.size_alloc] at this
    exact LnsAt.of_blk this (by kernel_rfl) rfl (by decide)
  have hz : w1.heap.size ≤ ((w1.alloc (.cells #[.string (str rs), .string (str rn), .int .i64 10, .bool false, .int .i64 rk, .slice rA 3 rc] 28)).alloc (.cells #[.string ⟨#[85, 110, 105, 116]⟩, .string ⟨#[65, 102, 116, 101, 114]⟩, .string ⟨#[97, 46, 115, 101, 114, 118, 105, 99, 101]⟩, .int .i64 2, .string ⟨#[83, 101, 114, 118, 105, 99, 101]⟩, .string ⟨#[84, 121, 112, 101]⟩, .string ⟨#[111, 100, 100]⟩, .int .i64 4] 44)).heap.size := by simp; omega
  have HV2 := Lib.hid (value_word kyB rfl _ ⟨#[110, 111, 116, 105, 102, 121]⟩ _ _ HR2.out hz)
  rw [val_N] at HV2
  have hbz := hb1.size
  clear hr hb1 HF
  unfold krA
  simp only
  go_wp2_with fail
  generalize ((w1.alloc (.cells #[.string (str rs), .string (str rn), .int .i64 10, .bool false, .int .i64 rk, .slice rA 3 rc] 28)).alloc (.cells #[.string ⟨#[85, 110, 105, 116]⟩, .string ⟨#[65, 102, 116, 101, 114]⟩, .string ⟨#[97, 46, 115, 101, 114, 118, 105, 99, 101]⟩, .int .i64 2, .string ⟨#[83, 101, 114, 118, 105, 99, 101]⟩, .string ⟨#[84, 121, 112, 101]⟩, .string ⟨#[111, 100, 100]⟩, .int .i64 4] 44)) = w2 at *
  refine HV2.out.mono ?_
  rintro e3 w3 ⟨rfl, hb3⟩
  have HB3 := Lib.hid (more3 HB2.out HB2.out.size hb3)
  have HL3 := Lib.hid (HL2.out.below hb3)
  have hz3 := hb3.size
  have hV : ∀ x ∈ [lnA, lnB], ValueSays valueB x.s x.k (str x.v) w := by
    intro x hx
    simp only [List.mem_cons, List.not_mem_nil, or_false] at hx
    rcases hx with rfl | rfl
    · exact says_A w
    · exact says_B w
  have HV := Lib.hid hV
  clear hb3 HV2 hV
  go_wp2_with fail
  refine (Check_of valueB 1 _ 2 2 _ [lnA, lnB] w w3 HL3.out hz3 HB3.out HV.out).mono ?_
  rintro e4 w4 ⟨rfl, hb4⟩
  rw [check_flt check_serv]
  have HB4 := Lib.hid (more3 HB3.out HB3.out.size hb4)
  have HL4 := Lib.hid (HL3.out.below (hb4.mono hz3))
  have hz4 := Nat.le_trans hz3 hb4.size
  clear hb4
  go_wp2_with fail
  refine (Check_of valueB 4 _ 2 2 _ [lnA, lnB] w w4 HL4.out hz4 HB4.out HV.out).mono ?_
  rintro e5 w5 ⟨rfl, hb5⟩
  rw [check_flt check_targ]
  have HB5 := Lib.hid (more3 HB4.out HB4.out.size hb5)
  clear hb5
  go_wp2_with fail
  refine (All_any _).mono ?_
  rintro e6 w6 ⟨v, rfl, hk⟩
  have hb6 := hk.below
  obtain ⟨A, c, rfl, _⟩ := hk.at_ (by decide +kernel)
  rw [allT_len]
  have HB6 := Lib.hid (more3 HB5.out HB5.out.size hb6)
  clear hb6 hk
  go_wp2_with fail
  go_ret
  exact ⟨rfl, HB6.out⟩
end Go.Proofs.YtadifolonbkamaaGreatDoor
namespace Go.Proofs.YtadifolonbkamaaGreatDoor
open Go.RowKit
theorem takes_bool (r : Kr) (v : ByteArray) (he : v.toList.isEmpty = false) (hv : v.size ≤ 140737488355327) (w : World) : TakesAt 2 r v (boolS v) w := by
  unfold TakesAt
  have hm : v.size ≤ maxLen := by unfold maxLen; omega
  have HC := Lib.hid fun w => isBool_any v w
  go_enter Tryz.func28, Tryz.ntmps28
  go_wp2_with fail
  refine (HC.out _).mono ?_
  rintro e w1 ⟨rfl, hb⟩
  go_wp2_with fail
  go_ret
  exact ⟨rfl, more ((Below.refl _ w).alloc (Nat.le_refl _) _) hb⟩
theorem takes_num (r : Kr) (v : ByteArray) (he : v.toList.isEmpty = false) (hv : v.size ≤ 140737488355327) (w : World) : TakesAt 3 r v (numS v) w := by
  unfold TakesAt
  have hm : v.size ≤ maxLen := by unfold maxLen; omega
  have HC := Lib.hid fun w => isNumber_any v hm w
  go_enter Tryz.func28, Tryz.ntmps28
  go_wp2_with fail
  refine (HC.out _).mono ?_
  rintro e w1 ⟨rfl, hb⟩
  go_wp2_with fail
  go_ret
  exact ⟨rfl, more ((Below.refl _ w).alloc (Nat.le_refl _) _) hb⟩
theorem takes_unit (r : Kr) (v : ByteArray) (he : v.toList.isEmpty = false) (hv : v.size ≤ 140737488355327) (w : World) : TakesAt 5 r v (unitS v) w := by
  unfold TakesAt
  have hm : v.size ≤ maxLen := by unfold maxLen; omega
  have HC := Lib.hid fun w => isUnit_any v hm w
  go_enter Tryz.func28, Tryz.ntmps28
  go_wp2_with fail
  refine (HC.out _).mono ?_
  rintro e w1 ⟨rfl, hb⟩
  go_wp2_with fail
  go_ret
  exact ⟨rfl, more ((Below.refl _ w).alloc (Nat.le_refl _) _) hb⟩
theorem takes_cmd (r : Kr) (v : ByteArray) (he : v.toList.isEmpty = false) (hv : v.size ≤ 140737488355327) (w : World) : TakesAt 7 r v (cmdS v) w := by
  unfold TakesAt
  have hm : v.size ≤ maxLen := by unfold maxLen; omega
  have HC := Lib.hid fun w => isCmd_any v hv w
  go_enter Tryz.func28, Tryz.ntmps28
  go_wp2_with fail
  refine (HC.out _).mono ?_
  rintro e w1 ⟨rfl, hb⟩
  go_wp2_with fail
  go_ret
  exact ⟨rfl, more ((Below.refl _ w).alloc (Nat.le_refl _) _) hb⟩
theorem takes_env (r : Kr) (v : ByteArray) (he : v.toList.isEmpty = false) (hv : v.size ≤ 140737488355327) (w : World) : TakesAt 8 r v (envS v) w := by
  unfold TakesAt
  have hm : v.size ≤ maxLen := by unfold maxLen; omega
  have HC := Lib.hid fun w => isEnv_any v hv w
  go_enter Tryz.func28, Tryz.ntmps28
  go_wp2_with fail
  refine (HC.out _).mono ?_
  rintro e w1 ⟨rfl, hb⟩
  go_wp2_with fail
  go_ret
  exact ⟨rfl, more ((Below.refl _ w).alloc (Nat.le_refl _) _) hb⟩
theorem takes_nums (r : Kr) (v : ByteArray) (he : v.toList.isEmpty = false) (hv : v.size ≤ 140737488355327) (w : World) : TakesAt 11 r v (listS numS v) w := by
  unfold TakesAt
  have hm : v.size ≤ maxLen := by unfold maxLen; omega
  have HC := Lib.hid fun w => listGn_any v hm w
  go_enter Tryz.func28, Tryz.ntmps28
  go_wp2_with fail
  refine (HC.out _).mono ?_
  rintro e w1 ⟨rfl, hb⟩
  go_wp2_with fail
  go_ret
  exact ⟨rfl, more ((Below.refl _ w).alloc (Nat.le_refl _) _) hb⟩
theorem takes_span (r : Kr) (v : ByteArray) (he : v.toList.isEmpty = false) (hv : v.size ≤ 140737488355327) (w : World) : TakesAt 4 r v (Sn.parseOk v) w := by
  unfold TakesAt
  have HC := Lib.hid fun w => Sn.Parse_any v (by unfold maxLen; omega) w
  go_enter Tryz.func28, Tryz.ntmps28
  go_wp2_with fail
  refine (HC.out _).mono ?_
  rintro e w1 ⟨rfl, hb⟩
  go_wp2_with fail
  go_ret
  exact ⟨rfl, more ((Below.refl _ w).alloc (Nat.le_refl _) _) hb⟩
def calS (v : ByteArray) : Bool := (Ca.parseC v.data.toList).isSome
theorem takes_cal (r : Kr) (v : ByteArray) (he : v.toList.isEmpty = false) (hv : v.size ≤ 140737488355327) (w : World) (ht : Ca.TabM w) : TakesAt 9 r v (calS v) w := by
  unfold TakesAt
  have HC := Lib.hid (Ca.Parse_any v (by unfold maxLen; omega) (w.alloc (.cells #[.string (str r.s), .string (str r.n), .int .i64 9, .bool r.l, .int .i64 r.k, .slice r.A r.m r.c] 28)) (ht.below ((Below.refl _ w).alloc (Nat.le_refl _) _)))
  clear ht
  go_enter Tryz.func28, Tryz.ntmps28
  go_wp2_with fail
  refine HC.out.mono ?_
  rintro e w1 ⟨c, rfl, _, _, hb⟩
  change Below _ _ _ at hb
  have HB := Lib.hid (more ((Below.refl _ w).alloc (Nat.le_refl _) _) hb)
  have HA : Hid (Blk (w1.alloc (.cells #[.slice none 0 0, .slice none 0 0, .slice none 0 0, .slice none 0 0, .slice none 0 0, .slice none 0 0, .slice none 0 0] 63)) w1.heap.size 63 Ca.nilCh.cells) := Blk.new w1 _ _
  clear hb HC
  go_wp2_with (refine wpList_store_row rfl 63 (.tmp 7) (.tmp 47) (by rfl) w1.heap.size c.cells (by rfl) (by rfl) 63 Ca.nilCh.cells HA.out (by kernel_rfl) rfl (Ca.ch_all _) ?_)
  go_ret
  exact ⟨rfl, below_setRow (HB.out.alloc HB.out.size _) HB.out.size _⟩
def takesT (x : Ky) (v : ByteArray) : Bool :=
  if x.f = 1 then true else if v.toList.isEmpty = true then x.l else
  if x.f = 2 then boolS v else if x.f = 3 then numS v else if x.f = 4 then Sn.parseOk v else if x.f = 5 then unitS v else if x.f = 6 then listS unitS v else
  if x.f = 7 then cmdS v else if x.f = 8 then envS v else if x.f = 9 then calS v else if x.f = 10 then x.w.any (fun y => decide (y = v.data.toList)) else listS numS v
def valueT (x : Ky) (v : ByteArray) : Int := if takesT x v = true then 0 else 12
theorem value_of (f : Int) (h1 : 1 ≤ f) (h2 : f ≤ 11) (x : Ky) (hx : x.f = f) (r : Kr) (v : ByteArray) (B : Nat) (w : World) (h : r.is w B x) (ht : TakesAt f r v (takesT x v) (w.alloc (.cells #[.string (str r.s), .string (str r.n), .int .i64 f, .bool r.l, .int .i64 r.k, .slice r.A r.m r.c] 28))) :
    Calls Tryz.prog 15 #[.agg #[.string (str r.s), .string (str r.n), .int .i64 r.f, .bool r.l, .int .i64 r.k, .slice r.A r.m r.c], .string v] w fun e w' => e = .returned (.int .i64 (valueT x v)) ∧ Below w.heap.size w w' := by
  rw [h.2.2.1, hx]
  exact Value_of f h1 h2 r v _ w ht
theorem value_any (x : Ky) (h1 : 1 ≤ x.f) (h2 : x.f ≤ 11) (r : Kr) (v : ByteArray) (hv : v.size ≤ 140737488355327) (B : Nat) (w : World) (h : r.is w B x) (hB : B ≤ w.heap.size) (ht : Ca.TabM w) :
    Calls Tryz.prog 15 #[.agg #[.string (str r.s), .string (str r.n), .int .i64 r.f, .bool r.l, .int .i64 r.k, .slice r.A r.m r.c], .string v] w fun e w' => e = .returned (.int .i64 (valueT x v)) ∧ Below w.heap.size w w' := by
  have hw := h.2.2.2.2.2.1
  have hl := h.2.2.2.1
  have hba : ∀ o, Below w.heap.size w (w.alloc o) := fun o => (Below.refl _ w).alloc (Nat.le_refl _) o
  by_cases hf1 : x.f = 1
  · refine value_of 1 (by decide) (by decide) x hf1 r v B w h ?_
    unfold takesT
    rw [if_pos hf1]
    exact takes_text r v _
  by_cases he : v.toList.isEmpty = true
  · refine value_of x.f h1 h2 x rfl r v B w h ?_
    unfold takesT
    rw [if_neg hf1, if_pos he, ← hl]
    exact takes_empty x.f hf1 r v he _
  have he' : v.toList.isEmpty = false := by simpa using he
  have hcs : x.f = 2 ∨ x.f = 3 ∨ x.f = 4 ∨ x.f = 5 ∨ x.f = 6 ∨ x.f = 7 ∨ x.f = 8 ∨ x.f = 9 ∨ x.f = 10 ∨ x.f = 11 := by omega
  rcases hcs with hf | hf | hf | hf | hf | hf | hf | hf | hf | hf
  · refine value_of 2 (by decide) (by decide) x hf r v B w h ?_
    have ht' : takesT x v = boolS v := by unfold takesT; rw [hf, if_neg (by decide), if_neg he]; rfl
    rw [ht']
    exact takes_bool r v he' hv _
  · refine value_of 3 (by decide) (by decide) x hf r v B w h ?_
    have ht' : takesT x v = numS v := by unfold takesT; rw [hf, if_neg (by decide), if_neg he]; rfl
    rw [ht']
    exact takes_num r v he' hv _
  · refine value_of 4 (by decide) (by decide) x hf r v B w h ?_
    have ht' : takesT x v = Sn.parseOk v := by unfold takesT; rw [hf, if_neg (by decide), if_neg he]; rfl
    rw [ht']
    exact takes_span r v he' hv _
  · refine value_of 5 (by decide) (by decide) x hf r v B w h ?_
    have ht' : takesT x v = unitS v := by unfold takesT; rw [hf, if_neg (by decide), if_neg he]; rfl
    rw [ht']
    exact takes_unit r v he' hv _
  · refine value_of 6 (by decide) (by decide) x hf r v B w h ?_
    have ht' : takesT x v = listS unitS v := by unfold takesT; rw [hf, if_neg (by decide), if_neg he]; rfl
    rw [ht']
    exact takes_names r v he' (by unfold maxLen; omega) _
  · refine value_of 7 (by decide) (by decide) x hf r v B w h ?_
    have ht' : takesT x v = cmdS v := by unfold takesT; rw [hf, if_neg (by decide), if_neg he]; rfl
    rw [ht']
    exact takes_cmd r v he' hv _
  · refine value_of 8 (by decide) (by decide) x hf r v B w h ?_
    have ht' : takesT x v = envS v := by unfold takesT; rw [hf, if_neg (by decide), if_neg he]; rfl
    rw [ht']
    exact takes_env r v he' hv _
  · refine value_of 9 (by decide) (by decide) x hf r v B w h ?_
    have ht' : takesT x v = calS v := by unfold takesT; rw [hf, if_neg (by decide), if_neg he]; rfl
    rw [ht']
    exact takes_cal r v he' hv _ (ht.below (hba _))
  · refine value_of 10 (by decide) (by decide) x hf r v B w h ?_
    have ht' : takesT x v = x.w.any (fun y => decide (y = v.data.toList)) := by unfold takesT; rw [hf, if_neg (by decide), if_neg he]; rfl
    rw [ht']
    exact takes_word r v he' _ B x.w (hw.below ((hba _).mono hB)) (by simp; omega)
  · refine value_of 11 (by decide) (by decide) x hf r v B w h ?_
    have ht' : takesT x v = listS numS v := by unfold takesT; rw [hf, if_neg (by decide), if_neg he]; rfl
    rw [ht']
    exact takes_nums r v he' hv _
theorem keysT_f (s : List UInt8) : ∀ x ∈ keysT s, 1 ≤ x.f ∧ x.f ≤ 11 := by
  unfold keysT
  repeat' split
  all_goals decide
theorem find_f {s k : List UInt8} {x : Ky} (h : findT s k = some x) : 1 ≤ x.f ∧ x.f ≤ 11 := keysT_f s x (List.mem_of_find?_eq_some h)
theorem says_all (s k : List UInt8) (v : ByteArray) (hv : v.size ≤ 140737488355327) (w0 : World) (ht : Ca.TabM w0) : ValueSays valueT s k v w0 := by
  intro x r B w hw hr hB hf
  obtain ⟨h1, h2⟩ := find_f hf
  exact value_any x h1 h2 r v hv B w hr hB (ht.below hw)
end Go.Proofs.YtadifolonbkamaaGreatDoor
