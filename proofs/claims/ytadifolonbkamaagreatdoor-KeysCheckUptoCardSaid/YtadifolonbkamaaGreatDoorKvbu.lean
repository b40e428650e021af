/- The walks of the document's Value of a key, form by form. -/
import Derived.Test.YtadifolonbkamaaGreatDoorKvbr
import Derived.Test.YtadifolonbkamaaGreatDoorKvbs
import Derived.Test.YtadifolonbkamaaGreatDoorKvbt
namespace Go.Proofs.YtadifolonbkamaaGreatDoor
open Go.RowKit
theorem bgo_sgo (l w : List UInt8) : bgo [32] w l = (sgo 32 w l).filter (fun p => !p.isEmpty) := by
  induction l generalizing w with
  | nil =>
    rw [bgo, sgo]
    cases w <;> rfl
  | cons c l ih =>
    rw [bgo, sgo]
    by_cases h : c = 32
    · rw [if_pos h]
      have : ([32] : List UInt8).contains c = true := by rw [h]; rfl
      rw [if_pos this, List.filter_cons]
      cases w with
      | nil => simp [ih]
      | cons a w => simp [ih]
    · rw [if_neg h]
      have : ([32] : List UInt8).contains c = false := by simpa using h
      rw [this, if_neg Bool.false_ne_true, ih]
theorem list_blanks (p : ByteArray → Bool) (s : ByteArray) : listS p s = (decide (0 < (blanksL [32] s.data.toList).length) && (blanksL [32] s.data.toList).all fun x => p (str x)) := by
  unfold listS goodU foundU piecesS blanksL
  rw [bgo_sgo]
  generalize sgo 32 [] s.data.toList = ps
  have h1 : (ps.map str).all (pieceOk p) = (ps.filter fun q => !q.isEmpty).all fun x => p (str x) := by
    induction ps with
    | nil => rfl
    | cons a ps ih =>
      rw [List.map_cons, List.all_cons, ih, List.filter_cons]
      unfold pieceOk
      have ha : (str a).toList.isEmpty = a.isEmpty := by rw [emp_str]; cases a <;> rfl
      rw [ha]
      cases a <;> simp
  have h2 : ((ps.map str).any fun x => !x.toList.isEmpty) = decide (0 < (ps.filter fun q => !q.isEmpty).length) := by
    clear h1
    induction ps with
    | nil => rfl
    | cons a ps ih =>
      rw [List.map_cons, List.any_cons, ih, List.filter_cons]
      have ha : (str a).toList.isEmpty = a.isEmpty := by rw [emp_str]; cases a <;> rfl
      rw [ha]
      cases a <;> simp
  rw [h1, h2, Bool.and_comm]
theorem bool_ws (v : ByteArray) : (boolWs.any fun x => decide (x = v.data.toList)) = boolS v := by
  unfold boolS
  congr 1
  funext x
  rw [decide_eq_decide]
  exact eq_comm
theorem rowAt_boolWs {w : World} {g : Nat} (h : Blk w g 9 #[.string ⟨#[121, 101, 115]⟩, .string ⟨#[116, 114, 117, 101]⟩, .string ⟨#[49]⟩, .string ⟨#[110, 111]⟩, .string ⟨#[102, 97, 108, 115, 101]⟩, .string ⟨#[48]⟩]) : RowAt w w.heap.size (some ⟨g, 0, none⟩) 6 boolWs := by
  refine ⟨rfl, by unfold maxLen; decide, fun _ => ⟨⟨g, 0, none⟩, rfl, h.lt, fun j x hj => ?_⟩⟩
  have e : (⟨g, 0, none⟩ : Addr).add j = ⟨g, j, none⟩ := by unfold Addr.add; split <;> simp_all
  rw [e, h.cell j]
  match j, hj with
  | 0, hj => cases hj; rfl
  | 1, hj => cases hj; rfl
  | 2, hj => cases hj; rfl
  | 3, hj => cases hj; rfl
  | 4, hj => cases hj; rfl
  | 5, hj => cases hj; rfl
  | _ + 6, hj => cases hj
theorem blanks_le (s : ByteArray) : ∀ x ∈ blanksL [32] s.data.toList, x.length ≤ s.size := by
  intro x hx
  unfold blanksL at hx
  rw [bgo_sgo] at hx
  have h1 := (List.mem_filter.1 hx).1
  have := pieces_size s.data.toList [] x h1
  rw [size_list] at this
  simpa using this
theorem blanks_cnt (s : ByteArray) : (blanksL [32] s.data.toList).length ≤ s.size + 1 := by
  unfold blanksL
  rw [bgo_sgo]
  refine Nat.le_trans (List.length_filter_le _ _) ?_
  have key : ∀ (l w : List UInt8), (sgo 32 w l).length ≤ l.length + 1 := by
    intro l
    induction l with
    | nil => intro w; simp [sgo]
    | cons c l ih =>
      intro w
      rw [sgo]
      split
      · have := ih []; simp; omega
      · have := ih (w ++ [c]); simp; omega
  have := key s.data.toList []
  rw [size_list] at this
  exact this
def RvalP (b l : Bool) (v : ByteArray) (w : World) (e : Ending) (w' : World) : Prop := e = .returned (.int .i64 (if (if v.toList.isEmpty = true then l else b) = true then 0 else 12)) ∧ Below w.heap.size w w'
theorem RvalP.of {b l : Bool} {v : ByteArray} {w w' : World} {n : Int} (h : (if (if v.toList.isEmpty = true then l else b) = true then (0 : Int) else 12) = n) (hb : Below w.heap.size w w') : RvalP b l v w (.returned (.int .i64 n)) w' := ⟨by rw [h], hb⟩
set_option maxHeartbeats 8000000 in
theorem rval_text (r : Kr) (v : ByteArray) (hv : v.size ≤ 1048576) (w : World) :
    Calls Tryz.prog 16 #[.agg #[.string (str r.s), .string (str r.n), .int .i64 1, .bool r.l, .int .i64 r.k, .slice r.A r.m r.c], .string v] w (RvalP true true v w) := by
  obtain ⟨rs, rn, rf, rl, rk, rA, rm, rc⟩ := r
  dsimp only
  have HBl := Lib.hid (Blanks_any v ⟨#[32]⟩ (by omega) (by decide) (w.alloc (.cells #[.string (str rs), .string (str rn), .int .i64 1, .bool rl, .int .i64 rk, .slice rA rm rc] 28)))
  have HK0 : Hid (Blk (w.alloc (.cells #[.string (str rs), .string (str rn), .int .i64 1, .bool rl, .int .i64 rk, .slice rA rm rc] 28)) w.heap.size 28 #[.string (str rs), .string (str rn), .int .i64 1, .bool rl, .int .i64 rk, .slice rA rm rc]) := Blk.new w _ _
  have HB0 : Hid (Below w.heap.size w (w.alloc (.cells #[.string (str rs), .string (str rn), .int .i64 1, .bool rl, .int .i64 rk, .slice rA rm rc] 28))) := (Below.refl _ _).alloc (Nat.le_refl _) _
  rcases he : v.toList.isEmpty with _ | _
  · skip
    all_goals
      go_enter Tryz.func16, Tryz.ntmps16
      go_wp2_with fail
      generalize w.alloc (.cells #[.string (str rs), .string (str rn), .int .i64 1, .bool rl, .int .i64 rk, .slice rA rm rc] 28) = wa at *
      refine HBl.out.mono ?_
      rintro e w1 ⟨vb, rfl, hown, hb1⟩
      have HK1 := Lib.hid (HK0.out.below hb1 HK0.out.lt)
      have HB1 := Lib.hid (more3 HB0.out HB0.out.size hb1)
      have c2 : w1.cell? ⟨w.heap.size, 2, none⟩ = some (.int .i64 1) := HK1.out.cell 2
      have c3 : w1.cell? ⟨w.heap.size, 3, none⟩ = some (.bool rl) := HK1.out.cell 3
      clear HBl HK0 HB0 hb1
      go_wp2_with fail
      go_ret
      exact RvalP.of (by rw [he]; rfl) HB1.out
  · rcases rl with _ | _
    · go_enter Tryz.func16, Tryz.ntmps16
      go_wp2_with fail
      generalize w.alloc (.cells #[.string (str rs), .string (str rn), .int .i64 1, .bool false, .int .i64 rk, .slice rA rm rc] 28) = wa at *
      refine HBl.out.mono ?_
      rintro e w1 ⟨vb, rfl, hown, hb1⟩
      have HK1 := Lib.hid (HK0.out.below hb1 HK0.out.lt)
      have HB1 := Lib.hid (more3 HB0.out HB0.out.size hb1)
      have c2 : w1.cell? ⟨w.heap.size, 2, none⟩ = some (.int .i64 1) := HK1.out.cell 2
      have c3 : w1.cell? ⟨w.heap.size, 3, none⟩ = some (.bool false) := HK1.out.cell 3
      clear HBl HK0 HB0 hb1
      go_wp2_with fail
      go_ret
      exact RvalP.of (by rw [he]; rfl) HB1.out
    · go_enter Tryz.func16, Tryz.ntmps16
      go_wp2_with fail
      generalize w.alloc (.cells #[.string (str rs), .string (str rn), .int .i64 1, .bool true, .int .i64 rk, .slice rA rm rc] 28) = wa at *
      refine HBl.out.mono ?_
      rintro e w1 ⟨vb, rfl, hown, hb1⟩
      have HK1 := Lib.hid (HK0.out.below hb1 HK0.out.lt)
      have HB1 := Lib.hid (more3 HB0.out HB0.out.size hb1)
      have c2 : w1.cell? ⟨w.heap.size, 2, none⟩ = some (.int .i64 1) := HK1.out.cell 2
      have c3 : w1.cell? ⟨w.heap.size, 3, none⟩ = some (.bool true) := HK1.out.cell 3
      clear HBl HK0 HB0 hb1
      go_wp2_with fail
      go_ret
      exact RvalP.of (by rw [he]; rfl) HB1.out
set_option maxHeartbeats 8000000 in
theorem rval_bool (r : Kr) (v : ByteArray) (hv : v.size ≤ 1048576) (w : World) :
    Calls Tryz.prog 16 #[.agg #[.string (str r.s), .string (str r.n), .int .i64 2, .bool r.l, .int .i64 r.k, .slice r.A r.m r.c], .string v] w (RvalP (boolS v) r.l v w) := by
  obtain ⟨rs, rn, rf, rl, rk, rA, rm, rc⟩ := r
  dsimp only
  have HBl := Lib.hid (Blanks_any v ⟨#[32]⟩ (by omega) (by decide) (w.alloc (.cells #[.string (str rs), .string (str rn), .int .i64 2, .bool rl, .int .i64 rk, .slice rA rm rc] 28)))
  have HK0 : Hid (Blk (w.alloc (.cells #[.string (str rs), .string (str rn), .int .i64 2, .bool rl, .int .i64 rk, .slice rA rm rc] 28)) w.heap.size 28 #[.string (str rs), .string (str rn), .int .i64 2, .bool rl, .int .i64 rk, .slice rA rm rc]) := Blk.new w _ _
  have HB0 : Hid (Below w.heap.size w (w.alloc (.cells #[.string (str rs), .string (str rn), .int .i64 2, .bool rl, .int .i64 rk, .slice rA rm rc] 28))) := (Below.refl _ _).alloc (Nat.le_refl _) _
  rcases he : v.toList.isEmpty with _ | _
  · rcases hok : boolS v with _ | _
    all_goals
      go_enter Tryz.func16, Tryz.ntmps16
      go_wp2_with fail
      generalize w.alloc (.cells #[.string (str rs), .string (str rn), .int .i64 2, .bool rl, .int .i64 rk, .slice rA rm rc] 28) = wa at *
      refine HBl.out.mono ?_
      rintro e w1 ⟨vb, rfl, hown, hb1⟩
      have HK1 := Lib.hid (HK0.out.below hb1 HK0.out.lt)
      have HB1 := Lib.hid (more3 HB0.out HB0.out.size hb1)
      have c2 : w1.cell? ⟨w.heap.size, 2, none⟩ = some (.int .i64 2) := HK1.out.cell 2
      have c3 : w1.cell? ⟨w.heap.size, 3, none⟩ = some (.bool rl) := HK1.out.cell 3
      clear HBl HK0 HB0 hb1
      have HNb : Hid (Blk (w1.alloc (.cells #[.string ⟨#[121, 101, 115]⟩, .string ⟨#[116, 114, 117, 101]⟩, .string ⟨#[49]⟩, .string ⟨#[110, 111]⟩, .string ⟨#[102, 97, 108, 115, 101]⟩, .string ⟨#[48]⟩] 9)) w1.heap.size 9 #[.string ⟨#[121, 101, 115]⟩, .string ⟨#[116, 114, 117, 101]⟩, .string ⟨#[49]⟩, .string ⟨#[110, 111]⟩, .string ⟨#[102, 97, 108, 115, 101]⟩, .string ⟨#[48]⟩]) := Blk.new w1 _ _
      have hb2 : Below w1.heap.size w1 (w1.alloc (.cells #[.string ⟨#[121, 101, 115]⟩, .string ⟨#[116, 114, 117, 101]⟩, .string ⟨#[49]⟩, .string ⟨#[110, 111]⟩, .string ⟨#[102, 97, 108, 115, 101]⟩, .string ⟨#[48]⟩] 9)) := (Below.refl _ _).alloc (Nat.le_refl _) _
      have HH := Lib.hid (Has_any (some ⟨w1.heap.size, 0, none⟩) 6 6 _ boolWs v _ (rowAt_boolWs HNb.out))
      rw [bool_ws] at HH
      try rw [hok] at HH
      go_wp2_with fail
      generalize w1.alloc (.cells #[.string ⟨#[121, 101, 115]⟩, .string ⟨#[116, 114, 117, 101]⟩, .string ⟨#[49]⟩, .string ⟨#[110, 111]⟩, .string ⟨#[102, 97, 108, 115, 101]⟩, .string ⟨#[48]⟩] 9) = w2 at *
      have HK2 := Lib.hid (HK1.out.below hb2 HK1.out.lt)
      have HB2 := Lib.hid (more3 HB1.out HB1.out.size hb2)
      have d2 : w2.cell? ⟨w.heap.size, 2, none⟩ = some (.int .i64 2) := HK2.out.cell 2
      have d3 : w2.cell? ⟨w.heap.size, 3, none⟩ = some (.bool rl) := HK2.out.cell 3
      clear hb2
      refine HH.out.mono ?_
      rintro e w3 ⟨rfl, rfl⟩
      go_wp2_with fail
      go_ret
      exact RvalP.of (by rw [he]; rfl) HB2.out
  · rcases rl with _ | _
    · go_enter Tryz.func16, Tryz.ntmps16
      go_wp2_with fail
      generalize w.alloc (.cells #[.string (str rs), .string (str rn), .int .i64 2, .bool false, .int .i64 rk, .slice rA rm rc] 28) = wa at *
      refine HBl.out.mono ?_
      rintro e w1 ⟨vb, rfl, hown, hb1⟩
      have HK1 := Lib.hid (HK0.out.below hb1 HK0.out.lt)
      have HB1 := Lib.hid (more3 HB0.out HB0.out.size hb1)
      have c2 : w1.cell? ⟨w.heap.size, 2, none⟩ = some (.int .i64 2) := HK1.out.cell 2
      have c3 : w1.cell? ⟨w.heap.size, 3, none⟩ = some (.bool false) := HK1.out.cell 3
      clear HBl HK0 HB0 hb1
      have HNb : Hid (Blk (w1.alloc (.cells #[.string ⟨#[121, 101, 115]⟩, .string ⟨#[116, 114, 117, 101]⟩, .string ⟨#[49]⟩, .string ⟨#[110, 111]⟩, .string ⟨#[102, 97, 108, 115, 101]⟩, .string ⟨#[48]⟩] 9)) w1.heap.size 9 #[.string ⟨#[121, 101, 115]⟩, .string ⟨#[116, 114, 117, 101]⟩, .string ⟨#[49]⟩, .string ⟨#[110, 111]⟩, .string ⟨#[102, 97, 108, 115, 101]⟩, .string ⟨#[48]⟩]) := Blk.new w1 _ _
      have hb2 : Below w1.heap.size w1 (w1.alloc (.cells #[.string ⟨#[121, 101, 115]⟩, .string ⟨#[116, 114, 117, 101]⟩, .string ⟨#[49]⟩, .string ⟨#[110, 111]⟩, .string ⟨#[102, 97, 108, 115, 101]⟩, .string ⟨#[48]⟩] 9)) := (Below.refl _ _).alloc (Nat.le_refl _) _
      have HH := Lib.hid (Has_any (some ⟨w1.heap.size, 0, none⟩) 6 6 _ boolWs v _ (rowAt_boolWs HNb.out))
      rw [bool_ws] at HH
      try rw [hok] at HH
      go_wp2_with fail
      generalize w1.alloc (.cells #[.string ⟨#[121, 101, 115]⟩, .string ⟨#[116, 114, 117, 101]⟩, .string ⟨#[49]⟩, .string ⟨#[110, 111]⟩, .string ⟨#[102, 97, 108, 115, 101]⟩, .string ⟨#[48]⟩] 9) = w2 at *
      have HK2 := Lib.hid (HK1.out.below hb2 HK1.out.lt)
      have HB2 := Lib.hid (more3 HB1.out HB1.out.size hb2)
      have d2 : w2.cell? ⟨w.heap.size, 2, none⟩ = some (.int .i64 2) := HK2.out.cell 2
      have d3 : w2.cell? ⟨w.heap.size, 3, none⟩ = some (.bool false) := HK2.out.cell 3
      clear hb2
      refine HH.out.mono ?_
      rintro e w3 ⟨rfl, rfl⟩
      go_wp2_with fail
      go_ret
      exact RvalP.of (by rw [he]; rfl) HB2.out
    · go_enter Tryz.func16, Tryz.ntmps16
      go_wp2_with fail
      generalize w.alloc (.cells #[.string (str rs), .string (str rn), .int .i64 2, .bool true, .int .i64 rk, .slice rA rm rc] 28) = wa at *
      refine HBl.out.mono ?_
      rintro e w1 ⟨vb, rfl, hown, hb1⟩
      have HK1 := Lib.hid (HK0.out.below hb1 HK0.out.lt)
      have HB1 := Lib.hid (more3 HB0.out HB0.out.size hb1)
      have c2 : w1.cell? ⟨w.heap.size, 2, none⟩ = some (.int .i64 2) := HK1.out.cell 2
      have c3 : w1.cell? ⟨w.heap.size, 3, none⟩ = some (.bool true) := HK1.out.cell 3
      clear HBl HK0 HB0 hb1
      have HNb : Hid (Blk (w1.alloc (.cells #[.string ⟨#[121, 101, 115]⟩, .string ⟨#[116, 114, 117, 101]⟩, .string ⟨#[49]⟩, .string ⟨#[110, 111]⟩, .string ⟨#[102, 97, 108, 115, 101]⟩, .string ⟨#[48]⟩] 9)) w1.heap.size 9 #[.string ⟨#[121, 101, 115]⟩, .string ⟨#[116, 114, 117, 101]⟩, .string ⟨#[49]⟩, .string ⟨#[110, 111]⟩, .string ⟨#[102, 97, 108, 115, 101]⟩, .string ⟨#[48]⟩]) := Blk.new w1 _ _
      have hb2 : Below w1.heap.size w1 (w1.alloc (.cells #[.string ⟨#[121, 101, 115]⟩, .string ⟨#[116, 114, 117, 101]⟩, .string ⟨#[49]⟩, .string ⟨#[110, 111]⟩, .string ⟨#[102, 97, 108, 115, 101]⟩, .string ⟨#[48]⟩] 9)) := (Below.refl _ _).alloc (Nat.le_refl _) _
      have HH := Lib.hid (Has_any (some ⟨w1.heap.size, 0, none⟩) 6 6 _ boolWs v _ (rowAt_boolWs HNb.out))
      rw [bool_ws] at HH
      try rw [hok] at HH
      go_wp2_with fail
      generalize w1.alloc (.cells #[.string ⟨#[121, 101, 115]⟩, .string ⟨#[116, 114, 117, 101]⟩, .string ⟨#[49]⟩, .string ⟨#[110, 111]⟩, .string ⟨#[102, 97, 108, 115, 101]⟩, .string ⟨#[48]⟩] 9) = w2 at *
      have HK2 := Lib.hid (HK1.out.below hb2 HK1.out.lt)
      have HB2 := Lib.hid (more3 HB1.out HB1.out.size hb2)
      have d2 : w2.cell? ⟨w.heap.size, 2, none⟩ = some (.int .i64 2) := HK2.out.cell 2
      have d3 : w2.cell? ⟨w.heap.size, 3, none⟩ = some (.bool true) := HK2.out.cell 3
      clear hb2
      refine HH.out.mono ?_
      rintro e w3 ⟨rfl, rfl⟩
      go_wp2_with fail
      go_ret
      exact RvalP.of (by rw [he]; rfl) HB2.out
set_option maxHeartbeats 8000000 in
theorem rval_num (r : Kr) (v : ByteArray) (hv : v.size ≤ 1048576) (w : World) :
    Calls Tryz.prog 16 #[.agg #[.string (str r.s), .string (str r.n), .int .i64 3, .bool r.l, .int .i64 r.k, .slice r.A r.m r.c], .string v] w (RvalP (numS v) r.l v w) := by
  obtain ⟨rs, rn, rf, rl, rk, rA, rm, rc⟩ := r
  dsimp only
  have hmx : v.size ≤ 4194304 := by omega
  have HNU := Lib.hid (numS_J v)
  have HBl := Lib.hid (Blanks_any v ⟨#[32]⟩ (by omega) (by decide) (w.alloc (.cells #[.string (str rs), .string (str rn), .int .i64 3, .bool rl, .int .i64 rk, .slice rA rm rc] 28)))
  have HK0 : Hid (Blk (w.alloc (.cells #[.string (str rs), .string (str rn), .int .i64 3, .bool rl, .int .i64 rk, .slice rA rm rc] 28)) w.heap.size 28 #[.string (str rs), .string (str rn), .int .i64 3, .bool rl, .int .i64 rk, .slice rA rm rc]) := Blk.new w _ _
  have HB0 : Hid (Below w.heap.size w (w.alloc (.cells #[.string (str rs), .string (str rn), .int .i64 3, .bool rl, .int .i64 rk, .slice rA rm rc] 28))) := (Below.refl _ _).alloc (Nat.le_refl _) _
  rcases he : v.toList.isEmpty with _ | _
  · rcases hok : numS v with _ | _
    all_goals
      go_enter Tryz.func16, Tryz.ntmps16
      go_wp2_with fail
      generalize w.alloc (.cells #[.string (str rs), .string (str rn), .int .i64 3, .bool rl, .int .i64 rk, .slice rA rm rc] 28) = wa at *
      refine HBl.out.mono ?_
      rintro e w1 ⟨vb, rfl, hown, hb1⟩
      have HK1 := Lib.hid (HK0.out.below hb1 HK0.out.lt)
      have HB1 := Lib.hid (more3 HB0.out HB0.out.size hb1)
      have c2 : w1.cell? ⟨w.heap.size, 2, none⟩ = some (.int .i64 3) := HK1.out.cell 2
      have c3 : w1.cell? ⟨w.heap.size, 3, none⟩ = some (.bool rl) := HK1.out.cell 3
      clear HBl HK0 HB0 hb1
      have HNB := Lib.hid (fun W => Number_any v (by omega) W)
      have hgeq : (decide (0 ≤ numJ v.data.toList)) = numS v := HNU.out.symm
      try rw [hok] at hgeq
      go_wp2_with fail
      refine (HNB.out _).mono ?_
      rintro e w3 ⟨rfl, rfl⟩
      go_wp2_with fail
      go_ret
      exact RvalP.of (by rw [he]; rfl) HB1.out
  · rcases rl with _ | _
    · go_enter Tryz.func16, Tryz.ntmps16
      go_wp2_with fail
      generalize w.alloc (.cells #[.string (str rs), .string (str rn), .int .i64 3, .bool false, .int .i64 rk, .slice rA rm rc] 28) = wa at *
      refine HBl.out.mono ?_
      rintro e w1 ⟨vb, rfl, hown, hb1⟩
      have HK1 := Lib.hid (HK0.out.below hb1 HK0.out.lt)
      have HB1 := Lib.hid (more3 HB0.out HB0.out.size hb1)
      have c2 : w1.cell? ⟨w.heap.size, 2, none⟩ = some (.int .i64 3) := HK1.out.cell 2
      have c3 : w1.cell? ⟨w.heap.size, 3, none⟩ = some (.bool false) := HK1.out.cell 3
      clear HBl HK0 HB0 hb1
      have HNB := Lib.hid (fun W => Number_any v (by omega) W)
      have hgeq : (decide (0 ≤ numJ v.data.toList)) = numS v := HNU.out.symm
      try rw [hok] at hgeq
      go_wp2_with fail
      refine (HNB.out _).mono ?_
      rintro e w3 ⟨rfl, rfl⟩
      go_wp2_with fail
      go_ret
      exact RvalP.of (by rw [he]; rfl) HB1.out
    · go_enter Tryz.func16, Tryz.ntmps16
      go_wp2_with fail
      generalize w.alloc (.cells #[.string (str rs), .string (str rn), .int .i64 3, .bool true, .int .i64 rk, .slice rA rm rc] 28) = wa at *
      refine HBl.out.mono ?_
      rintro e w1 ⟨vb, rfl, hown, hb1⟩
      have HK1 := Lib.hid (HK0.out.below hb1 HK0.out.lt)
      have HB1 := Lib.hid (more3 HB0.out HB0.out.size hb1)
      have c2 : w1.cell? ⟨w.heap.size, 2, none⟩ = some (.int .i64 3) := HK1.out.cell 2
      have c3 : w1.cell? ⟨w.heap.size, 3, none⟩ = some (.bool true) := HK1.out.cell 3
      clear HBl HK0 HB0 hb1
      have HNB := Lib.hid (fun W => Number_any v (by omega) W)
      have hgeq : (decide (0 ≤ numJ v.data.toList)) = numS v := HNU.out.symm
      try rw [hok] at hgeq
      go_wp2_with fail
      refine (HNB.out _).mono ?_
      rintro e w3 ⟨rfl, rfl⟩
      go_wp2_with fail
      go_ret
      exact RvalP.of (by rw [he]; rfl) HB1.out
set_option maxHeartbeats 8000000 in
theorem rval_span (r : Kr) (v : ByteArray) (hv : v.size ≤ 1048576) (w : World) :
    Calls Tryz.prog 16 #[.agg #[.string (str r.s), .string (str r.n), .int .i64 4, .bool r.l, .int .i64 r.k, .slice r.A r.m r.c], .string v] w (RvalP (Sn.parseOk v) r.l v w) := by
  obtain ⟨rs, rn, rf, rl, rk, rA, rm, rc⟩ := r
  dsimp only
  have HBl := Lib.hid (Blanks_any v ⟨#[32]⟩ (by omega) (by decide) (w.alloc (.cells #[.string (str rs), .string (str rn), .int .i64 4, .bool rl, .int .i64 rk, .slice rA rm rc] 28)))
  have HK0 : Hid (Blk (w.alloc (.cells #[.string (str rs), .string (str rn), .int .i64 4, .bool rl, .int .i64 rk, .slice rA rm rc] 28)) w.heap.size 28 #[.string (str rs), .string (str rn), .int .i64 4, .bool rl, .int .i64 rk, .slice rA rm rc]) := Blk.new w _ _
  have HB0 : Hid (Below w.heap.size w (w.alloc (.cells #[.string (str rs), .string (str rn), .int .i64 4, .bool rl, .int .i64 rk, .slice rA rm rc] 28))) := (Below.refl _ _).alloc (Nat.le_refl _) _
  rcases he : v.toList.isEmpty with _ | _
  · rcases hok : Sn.parseOk v with _ | _
    all_goals
      go_enter Tryz.func16, Tryz.ntmps16
      go_wp2_with fail
      generalize w.alloc (.cells #[.string (str rs), .string (str rn), .int .i64 4, .bool rl, .int .i64 rk, .slice rA rm rc] 28) = wa at *
      refine HBl.out.mono ?_
      rintro e w1 ⟨vb, rfl, hown, hb1⟩
      have HK1 := Lib.hid (HK0.out.below hb1 HK0.out.lt)
      have HB1 := Lib.hid (more3 HB0.out HB0.out.size hb1)
      have c2 : w1.cell? ⟨w.heap.size, 2, none⟩ = some (.int .i64 4) := HK1.out.cell 2
      have c3 : w1.cell? ⟨w.heap.size, 3, none⟩ = some (.bool rl) := HK1.out.cell 3
      clear HBl HK0 HB0 hb1
      have HSP := Lib.hid (fun W => Sn.rSpan_any v (by omega) W)
      try rw [hok] at HSP
      go_wp2_with fail
      refine (HSP.out _).mono ?_
      rintro e w2 ⟨rfl, hb2⟩
      have HK2 := Lib.hid (HK1.out.below hb2 HK1.out.lt)
      have HB2 := Lib.hid (more3 HB1.out HB1.out.size hb2)
      have d2 : w2.cell? ⟨w.heap.size, 2, none⟩ = some (.int .i64 4) := HK2.out.cell 2
      have d3 : w2.cell? ⟨w.heap.size, 3, none⟩ = some (.bool rl) := HK2.out.cell 3
      clear hb2
      go_wp2_with fail
      go_ret
      exact RvalP.of (by rw [he]; rfl) HB2.out
  · rcases rl with _ | _
    · go_enter Tryz.func16, Tryz.ntmps16
      go_wp2_with fail
      generalize w.alloc (.cells #[.string (str rs), .string (str rn), .int .i64 4, .bool false, .int .i64 rk, .slice rA rm rc] 28) = wa at *
      refine HBl.out.mono ?_
      rintro e w1 ⟨vb, rfl, hown, hb1⟩
      have HK1 := Lib.hid (HK0.out.below hb1 HK0.out.lt)
      have HB1 := Lib.hid (more3 HB0.out HB0.out.size hb1)
      have c2 : w1.cell? ⟨w.heap.size, 2, none⟩ = some (.int .i64 4) := HK1.out.cell 2
      have c3 : w1.cell? ⟨w.heap.size, 3, none⟩ = some (.bool false) := HK1.out.cell 3
      clear HBl HK0 HB0 hb1
      have HSP := Lib.hid (fun W => Sn.rSpan_any v (by omega) W)
      try rw [hok] at HSP
      go_wp2_with fail
      refine (HSP.out _).mono ?_
      rintro e w2 ⟨rfl, hb2⟩
      have HK2 := Lib.hid (HK1.out.below hb2 HK1.out.lt)
      have HB2 := Lib.hid (more3 HB1.out HB1.out.size hb2)
      have d2 : w2.cell? ⟨w.heap.size, 2, none⟩ = some (.int .i64 4) := HK2.out.cell 2
      have d3 : w2.cell? ⟨w.heap.size, 3, none⟩ = some (.bool false) := HK2.out.cell 3
      clear hb2
      go_wp2_with fail
      go_ret
      exact RvalP.of (by rw [he]; rfl) HB2.out
    · go_enter Tryz.func16, Tryz.ntmps16
      go_wp2_with fail
      generalize w.alloc (.cells #[.string (str rs), .string (str rn), .int .i64 4, .bool true, .int .i64 rk, .slice rA rm rc] 28) = wa at *
      refine HBl.out.mono ?_
      rintro e w1 ⟨vb, rfl, hown, hb1⟩
      have HK1 := Lib.hid (HK0.out.below hb1 HK0.out.lt)
      have HB1 := Lib.hid (more3 HB0.out HB0.out.size hb1)
      have c2 : w1.cell? ⟨w.heap.size, 2, none⟩ = some (.int .i64 4) := HK1.out.cell 2
      have c3 : w1.cell? ⟨w.heap.size, 3, none⟩ = some (.bool true) := HK1.out.cell 3
      clear HBl HK0 HB0 hb1
      have HSP := Lib.hid (fun W => Sn.rSpan_any v (by omega) W)
      try rw [hok] at HSP
      go_wp2_with fail
      refine (HSP.out _).mono ?_
      rintro e w2 ⟨rfl, hb2⟩
      have HK2 := Lib.hid (HK1.out.below hb2 HK1.out.lt)
      have HB2 := Lib.hid (more3 HB1.out HB1.out.size hb2)
      have d2 : w2.cell? ⟨w.heap.size, 2, none⟩ = some (.int .i64 4) := HK2.out.cell 2
      have d3 : w2.cell? ⟨w.heap.size, 3, none⟩ = some (.bool true) := HK2.out.cell 3
      clear hb2
      go_wp2_with fail
      go_ret
      exact RvalP.of (by rw [he]; rfl) HB2.out
set_option maxHeartbeats 8000000 in
theorem rval_cal (r : Kr) (v : ByteArray) (hv : v.size ≤ 1048576) (w : World) :
    Calls Tryz.prog 16 #[.agg #[.string (str r.s), .string (str r.n), .int .i64 9, .bool r.l, .int .i64 r.k, .slice r.A r.m r.c], .string v] w (RvalP (calS v) r.l v w) := by
  obtain ⟨rs, rn, rf, rl, rk, rA, rm, rc⟩ := r
  dsimp only
  have HBl := Lib.hid (Blanks_any v ⟨#[32]⟩ (by omega) (by decide) (w.alloc (.cells #[.string (str rs), .string (str rn), .int .i64 9, .bool rl, .int .i64 rk, .slice rA rm rc] 28)))
  have HK0 : Hid (Blk (w.alloc (.cells #[.string (str rs), .string (str rn), .int .i64 9, .bool rl, .int .i64 rk, .slice rA rm rc] 28)) w.heap.size 28 #[.string (str rs), .string (str rn), .int .i64 9, .bool rl, .int .i64 rk, .slice rA rm rc]) := Blk.new w _ _
  have HB0 : Hid (Below w.heap.size w (w.alloc (.cells #[.string (str rs), .string (str rn), .int .i64 9, .bool rl, .int .i64 rk, .slice rA rm rc] 28))) := (Below.refl _ _).alloc (Nat.le_refl _) _
  rcases he : v.toList.isEmpty with _ | _
  · rcases hok : calS v with _ | _
    all_goals
      go_enter Tryz.func16, Tryz.ntmps16
      go_wp2_with fail
      generalize w.alloc (.cells #[.string (str rs), .string (str rn), .int .i64 9, .bool rl, .int .i64 rk, .slice rA rm rc] 28) = wa at *
      refine HBl.out.mono ?_
      rintro e w1 ⟨vb, rfl, hown, hb1⟩
      have HK1 := Lib.hid (HK0.out.below hb1 HK0.out.lt)
      have HB1 := Lib.hid (more3 HB0.out HB0.out.size hb1)
      have c2 : w1.cell? ⟨w.heap.size, 2, none⟩ = some (.int .i64 9) := HK1.out.cell 2
      have c3 : w1.cell? ⟨w.heap.size, 3, none⟩ = some (.bool rl) := HK1.out.cell 3
      clear HBl HK0 HB0 hb1
      have HPA := Lib.hid (fun W => Ca.rParse_any v (by unfold maxLen; omega) W)
      go_wp2_with fail
      refine (HPA.out _).mono ?_
      rintro e w2 ⟨ch, rfl, _, _, hb2⟩
      rw [show (Ca.parseC v.data.toList).isSome = calS v from rfl]
      try rw [hok]
      have HK2 := Lib.hid (HK1.out.below hb2 HK1.out.lt)
      have HB2 := Lib.hid (more3 HB1.out HB1.out.size hb2)
      have d2 : w2.cell? ⟨w.heap.size, 2, none⟩ = some (.int .i64 9) := HK2.out.cell 2
      have d3 : w2.cell? ⟨w.heap.size, 3, none⟩ = some (.bool rl) := HK2.out.cell 3
      clear hb2
      go_wp2_with fail
      go_ret
      exact RvalP.of (by rw [he]; rfl) HB2.out
  · rcases rl with _ | _
    · go_enter Tryz.func16, Tryz.ntmps16
      go_wp2_with fail
      generalize w.alloc (.cells #[.string (str rs), .string (str rn), .int .i64 9, .bool false, .int .i64 rk, .slice rA rm rc] 28) = wa at *
      refine HBl.out.mono ?_
      rintro e w1 ⟨vb, rfl, hown, hb1⟩
      have HK1 := Lib.hid (HK0.out.below hb1 HK0.out.lt)
      have HB1 := Lib.hid (more3 HB0.out HB0.out.size hb1)
      have c2 : w1.cell? ⟨w.heap.size, 2, none⟩ = some (.int .i64 9) := HK1.out.cell 2
      have c3 : w1.cell? ⟨w.heap.size, 3, none⟩ = some (.bool false) := HK1.out.cell 3
      clear HBl HK0 HB0 hb1
      have HPA := Lib.hid (fun W => Ca.rParse_any v (by unfold maxLen; omega) W)
      go_wp2_with fail
      refine (HPA.out _).mono ?_
      rintro e w2 ⟨ch, rfl, _, _, hb2⟩
      rw [show (Ca.parseC v.data.toList).isSome = calS v from rfl]
      try rw [hok]
      have HK2 := Lib.hid (HK1.out.below hb2 HK1.out.lt)
      have HB2 := Lib.hid (more3 HB1.out HB1.out.size hb2)
      have d2 : w2.cell? ⟨w.heap.size, 2, none⟩ = some (.int .i64 9) := HK2.out.cell 2
      have d3 : w2.cell? ⟨w.heap.size, 3, none⟩ = some (.bool false) := HK2.out.cell 3
      clear hb2
      go_wp2_with fail
      go_ret
      exact RvalP.of (by rw [he]; rfl) HB2.out
    · go_enter Tryz.func16, Tryz.ntmps16
      go_wp2_with fail
      generalize w.alloc (.cells #[.string (str rs), .string (str rn), .int .i64 9, .bool true, .int .i64 rk, .slice rA rm rc] 28) = wa at *
      refine HBl.out.mono ?_
      rintro e w1 ⟨vb, rfl, hown, hb1⟩
      have HK1 := Lib.hid (HK0.out.below hb1 HK0.out.lt)
      have HB1 := Lib.hid (more3 HB0.out HB0.out.size hb1)
      have c2 : w1.cell? ⟨w.heap.size, 2, none⟩ = some (.int .i64 9) := HK1.out.cell 2
      have c3 : w1.cell? ⟨w.heap.size, 3, none⟩ = some (.bool true) := HK1.out.cell 3
      clear HBl HK0 HB0 hb1
      have HPA := Lib.hid (fun W => Ca.rParse_any v (by unfold maxLen; omega) W)
      go_wp2_with fail
      refine (HPA.out _).mono ?_
      rintro e w2 ⟨ch, rfl, _, _, hb2⟩
      rw [show (Ca.parseC v.data.toList).isSome = calS v from rfl]
      try rw [hok]
      have HK2 := Lib.hid (HK1.out.below hb2 HK1.out.lt)
      have HB2 := Lib.hid (more3 HB1.out HB1.out.size hb2)
      have d2 : w2.cell? ⟨w.heap.size, 2, none⟩ = some (.int .i64 9) := HK2.out.cell 2
      have d3 : w2.cell? ⟨w.heap.size, 3, none⟩ = some (.bool true) := HK2.out.cell 3
      clear hb2
      go_wp2_with fail
      go_ret
      exact RvalP.of (by rw [he]; rfl) HB2.out
set_option maxHeartbeats 8000000 in
theorem rval_unit (r : Kr) (v : ByteArray) (hv : v.size ≤ 1048576) (w : World) :
    Calls Tryz.prog 16 #[.agg #[.string (str r.s), .string (str r.n), .int .i64 5, .bool r.l, .int .i64 r.k, .slice r.A r.m r.c], .string v] w (RvalP (unitS v) r.l v w) := by
  obtain ⟨rs, rn, rf, rl, rk, rA, rm, rc⟩ := r
  dsimp only
  have HBl := Lib.hid (Blanks_any v ⟨#[32]⟩ (by omega) (by decide) (w.alloc (.cells #[.string (str rs), .string (str rn), .int .i64 5, .bool rl, .int .i64 rk, .slice rA rm rc] 28)))
  have HK0 : Hid (Blk (w.alloc (.cells #[.string (str rs), .string (str rn), .int .i64 5, .bool rl, .int .i64 rk, .slice rA rm rc] 28)) w.heap.size 28 #[.string (str rs), .string (str rn), .int .i64 5, .bool rl, .int .i64 rk, .slice rA rm rc]) := Blk.new w _ _
  have HB0 : Hid (Below w.heap.size w (w.alloc (.cells #[.string (str rs), .string (str rn), .int .i64 5, .bool rl, .int .i64 rk, .slice rA rm rc] 28))) := (Below.refl _ _).alloc (Nat.le_refl _) _
  rcases he : v.toList.isEmpty with _ | _
  · rcases hok : unitS v with _ | _
    all_goals
      go_enter Tryz.func16, Tryz.ntmps16
      go_wp2_with fail
      generalize w.alloc (.cells #[.string (str rs), .string (str rn), .int .i64 5, .bool rl, .int .i64 rk, .slice rA rm rc] 28) = wa at *
      refine HBl.out.mono ?_
      rintro e w1 ⟨vb, rfl, hown, hb1⟩
      have HK1 := Lib.hid (HK0.out.below hb1 HK0.out.lt)
      have HB1 := Lib.hid (more3 HB0.out HB0.out.size hb1)
      have c2 : w1.cell? ⟨w.heap.size, 2, none⟩ = some (.int .i64 5) := HK1.out.cell 2
      have c3 : w1.cell? ⟨w.heap.size, 3, none⟩ = some (.bool rl) := HK1.out.cell 3
      clear HBl HK0 HB0 hb1
      have HNM := Lib.hid (fun W => named7_any v (by unfold maxLen; omega) W)
      try rw [hok] at HNM
      go_wp2_with fail
      refine (HNM.out _).mono ?_
      rintro e w2 ⟨rfl, hb2⟩
      have HK2 := Lib.hid (HK1.out.below hb2 HK1.out.lt)
      have HB2 := Lib.hid (more3 HB1.out HB1.out.size hb2)
      have d2 : w2.cell? ⟨w.heap.size, 2, none⟩ = some (.int .i64 5) := HK2.out.cell 2
      have d3 : w2.cell? ⟨w.heap.size, 3, none⟩ = some (.bool rl) := HK2.out.cell 3
      clear hb2
      go_wp2_with fail
      go_ret
      exact RvalP.of (by rw [he]; rfl) HB2.out
  · rcases rl with _ | _
    · go_enter Tryz.func16, Tryz.ntmps16
      go_wp2_with fail
      generalize w.alloc (.cells #[.string (str rs), .string (str rn), .int .i64 5, .bool false, .int .i64 rk, .slice rA rm rc] 28) = wa at *
      refine HBl.out.mono ?_
      rintro e w1 ⟨vb, rfl, hown, hb1⟩
      have HK1 := Lib.hid (HK0.out.below hb1 HK0.out.lt)
      have HB1 := Lib.hid (more3 HB0.out HB0.out.size hb1)
      have c2 : w1.cell? ⟨w.heap.size, 2, none⟩ = some (.int .i64 5) := HK1.out.cell 2
      have c3 : w1.cell? ⟨w.heap.size, 3, none⟩ = some (.bool false) := HK1.out.cell 3
      clear HBl HK0 HB0 hb1
      have HNM := Lib.hid (fun W => named7_any v (by unfold maxLen; omega) W)
      try rw [hok] at HNM
      go_wp2_with fail
      refine (HNM.out _).mono ?_
      rintro e w2 ⟨rfl, hb2⟩
      have HK2 := Lib.hid (HK1.out.below hb2 HK1.out.lt)
      have HB2 := Lib.hid (more3 HB1.out HB1.out.size hb2)
      have d2 : w2.cell? ⟨w.heap.size, 2, none⟩ = some (.int .i64 5) := HK2.out.cell 2
      have d3 : w2.cell? ⟨w.heap.size, 3, none⟩ = some (.bool false) := HK2.out.cell 3
      clear hb2
      go_wp2_with fail
      go_ret
      exact RvalP.of (by rw [he]; rfl) HB2.out
    · go_enter Tryz.func16, Tryz.ntmps16
      go_wp2_with fail
      generalize w.alloc (.cells #[.string (str rs), .string (str rn), .int .i64 5, .bool true, .int .i64 rk, .slice rA rm rc] 28) = wa at *
      refine HBl.out.mono ?_
      rintro e w1 ⟨vb, rfl, hown, hb1⟩
      have HK1 := Lib.hid (HK0.out.below hb1 HK0.out.lt)
      have HB1 := Lib.hid (more3 HB0.out HB0.out.size hb1)
      have c2 : w1.cell? ⟨w.heap.size, 2, none⟩ = some (.int .i64 5) := HK1.out.cell 2
      have c3 : w1.cell? ⟨w.heap.size, 3, none⟩ = some (.bool true) := HK1.out.cell 3
      clear HBl HK0 HB0 hb1
      have HNM := Lib.hid (fun W => named7_any v (by unfold maxLen; omega) W)
      try rw [hok] at HNM
      go_wp2_with fail
      refine (HNM.out _).mono ?_
      rintro e w2 ⟨rfl, hb2⟩
      have HK2 := Lib.hid (HK1.out.below hb2 HK1.out.lt)
      have HB2 := Lib.hid (more3 HB1.out HB1.out.size hb2)
      have d2 : w2.cell? ⟨w.heap.size, 2, none⟩ = some (.int .i64 5) := HK2.out.cell 2
      have d3 : w2.cell? ⟨w.heap.size, 3, none⟩ = some (.bool true) := HK2.out.cell 3
      clear hb2
      go_wp2_with fail
      go_ret
      exact RvalP.of (by rw [he]; rfl) HB2.out
set_option maxHeartbeats 8000000 in
theorem rval_cmd (r : Kr) (v : ByteArray) (hv : v.size ≤ 1048576) (w : World) :
    Calls Tryz.prog 16 #[.agg #[.string (str r.s), .string (str r.n), .int .i64 7, .bool r.l, .int .i64 r.k, .slice r.A r.m r.c], .string v] w (RvalP (cmdS v) r.l v w) := by
  obtain ⟨rs, rn, rf, rl, rk, rA, rm, rc⟩ := r
  dsimp only
  have HBl := Lib.hid (Blanks_any v ⟨#[32]⟩ (by omega) (by decide) (w.alloc (.cells #[.string (str rs), .string (str rn), .int .i64 7, .bool rl, .int .i64 rk, .slice rA rm rc] 28)))
  have HK0 : Hid (Blk (w.alloc (.cells #[.string (str rs), .string (str rn), .int .i64 7, .bool rl, .int .i64 rk, .slice rA rm rc] 28)) w.heap.size 28 #[.string (str rs), .string (str rn), .int .i64 7, .bool rl, .int .i64 rk, .slice rA rm rc]) := Blk.new w _ _
  have HB0 : Hid (Below w.heap.size w (w.alloc (.cells #[.string (str rs), .string (str rn), .int .i64 7, .bool rl, .int .i64 rk, .slice rA rm rc] 28))) := (Below.refl _ _).alloc (Nat.le_refl _) _
  rcases he : v.toList.isEmpty with _ | _
  · rcases hok : cmdS v with _ | _
    all_goals
      go_enter Tryz.func16, Tryz.ntmps16
      go_wp2_with fail
      generalize w.alloc (.cells #[.string (str rs), .string (str rn), .int .i64 7, .bool rl, .int .i64 rk, .slice rA rm rc] 28) = wa at *
      refine HBl.out.mono ?_
      rintro e w1 ⟨vb, rfl, hown, hb1⟩
      have HK1 := Lib.hid (HK0.out.below hb1 HK0.out.lt)
      have HB1 := Lib.hid (more3 HB0.out HB0.out.size hb1)
      have c2 : w1.cell? ⟨w.heap.size, 2, none⟩ = some (.int .i64 7) := HK1.out.cell 2
      have c3 : w1.cell? ⟨w.heap.size, 3, none⟩ = some (.bool rl) := HK1.out.cell 3
      clear HBl HK0 HB0 hb1
      have HEX := Lib.hid (fun W => Exec_any v hv W)
      try rw [hok] at HEX
      go_wp2_with fail
      refine (HEX.out _).mono ?_
      rintro e w2 ⟨⟨vx, rfl⟩, hb2⟩
      have HK2 := Lib.hid (HK1.out.below hb2 HK1.out.lt)
      have HB2 := Lib.hid (more3 HB1.out HB1.out.size hb2)
      have d2 : w2.cell? ⟨w.heap.size, 2, none⟩ = some (.int .i64 7) := HK2.out.cell 2
      have d3 : w2.cell? ⟨w.heap.size, 3, none⟩ = some (.bool rl) := HK2.out.cell 3
      clear hb2
      go_wp2_with fail
      go_ret
      exact RvalP.of (by rw [he]; rfl) HB2.out
  · rcases rl with _ | _
    · go_enter Tryz.func16, Tryz.ntmps16
      go_wp2_with fail
      generalize w.alloc (.cells #[.string (str rs), .string (str rn), .int .i64 7, .bool false, .int .i64 rk, .slice rA rm rc] 28) = wa at *
      refine HBl.out.mono ?_
      rintro e w1 ⟨vb, rfl, hown, hb1⟩
      have HK1 := Lib.hid (HK0.out.below hb1 HK0.out.lt)
      have HB1 := Lib.hid (more3 HB0.out HB0.out.size hb1)
      have c2 : w1.cell? ⟨w.heap.size, 2, none⟩ = some (.int .i64 7) := HK1.out.cell 2
      have c3 : w1.cell? ⟨w.heap.size, 3, none⟩ = some (.bool false) := HK1.out.cell 3
      clear HBl HK0 HB0 hb1
      have HEX := Lib.hid (fun W => Exec_any v hv W)
      try rw [hok] at HEX
      go_wp2_with fail
      refine (HEX.out _).mono ?_
      rintro e w2 ⟨⟨vx, rfl⟩, hb2⟩
      have HK2 := Lib.hid (HK1.out.below hb2 HK1.out.lt)
      have HB2 := Lib.hid (more3 HB1.out HB1.out.size hb2)
      have d2 : w2.cell? ⟨w.heap.size, 2, none⟩ = some (.int .i64 7) := HK2.out.cell 2
      have d3 : w2.cell? ⟨w.heap.size, 3, none⟩ = some (.bool false) := HK2.out.cell 3
      clear hb2
      go_wp2_with fail
      go_ret
      exact RvalP.of (by rw [he]; rfl) HB2.out
    · go_enter Tryz.func16, Tryz.ntmps16
      go_wp2_with fail
      generalize w.alloc (.cells #[.string (str rs), .string (str rn), .int .i64 7, .bool true, .int .i64 rk, .slice rA rm rc] 28) = wa at *
      refine HBl.out.mono ?_
      rintro e w1 ⟨vb, rfl, hown, hb1⟩
      have HK1 := Lib.hid (HK0.out.below hb1 HK0.out.lt)
      have HB1 := Lib.hid (more3 HB0.out HB0.out.size hb1)
      have c2 : w1.cell? ⟨w.heap.size, 2, none⟩ = some (.int .i64 7) := HK1.out.cell 2
      have c3 : w1.cell? ⟨w.heap.size, 3, none⟩ = some (.bool true) := HK1.out.cell 3
      clear HBl HK0 HB0 hb1
      have HEX := Lib.hid (fun W => Exec_any v hv W)
      try rw [hok] at HEX
      go_wp2_with fail
      refine (HEX.out _).mono ?_
      rintro e w2 ⟨⟨vx, rfl⟩, hb2⟩
      have HK2 := Lib.hid (HK1.out.below hb2 HK1.out.lt)
      have HB2 := Lib.hid (more3 HB1.out HB1.out.size hb2)
      have d2 : w2.cell? ⟨w.heap.size, 2, none⟩ = some (.int .i64 7) := HK2.out.cell 2
      have d3 : w2.cell? ⟨w.heap.size, 3, none⟩ = some (.bool true) := HK2.out.cell 3
      clear hb2
      go_wp2_with fail
      go_ret
      exact RvalP.of (by rw [he]; rfl) HB2.out
set_option maxHeartbeats 8000000 in
theorem rval_env (r : Kr) (v : ByteArray) (hv : v.size ≤ 1048576) (w : World) :
    Calls Tryz.prog 16 #[.agg #[.string (str r.s), .string (str r.n), .int .i64 8, .bool r.l, .int .i64 r.k, .slice r.A r.m r.c], .string v] w (RvalP (envS v) r.l v w) := by
  obtain ⟨rs, rn, rf, rl, rk, rA, rm, rc⟩ := r
  dsimp only
  have HBl := Lib.hid (Blanks_any v ⟨#[32]⟩ (by omega) (by decide) (w.alloc (.cells #[.string (str rs), .string (str rn), .int .i64 8, .bool rl, .int .i64 rk, .slice rA rm rc] 28)))
  have HK0 : Hid (Blk (w.alloc (.cells #[.string (str rs), .string (str rn), .int .i64 8, .bool rl, .int .i64 rk, .slice rA rm rc] 28)) w.heap.size 28 #[.string (str rs), .string (str rn), .int .i64 8, .bool rl, .int .i64 rk, .slice rA rm rc]) := Blk.new w _ _
  have HB0 : Hid (Below w.heap.size w (w.alloc (.cells #[.string (str rs), .string (str rn), .int .i64 8, .bool rl, .int .i64 rk, .slice rA rm rc] 28))) := (Below.refl _ _).alloc (Nat.le_refl _) _
  rcases he : v.toList.isEmpty with _ | _
  · rcases hok : envS v with _ | _
    all_goals
      go_enter Tryz.func16, Tryz.ntmps16
      go_wp2_with fail
      generalize w.alloc (.cells #[.string (str rs), .string (str rn), .int .i64 8, .bool rl, .int .i64 rk, .slice rA rm rc] 28) = wa at *
      refine HBl.out.mono ?_
      rintro e w1 ⟨vb, rfl, hown, hb1⟩
      have HK1 := Lib.hid (HK0.out.below hb1 HK0.out.lt)
      have HB1 := Lib.hid (more3 HB0.out HB0.out.size hb1)
      have c2 : w1.cell? ⟨w.heap.size, 2, none⟩ = some (.int .i64 8) := HK1.out.cell 2
      have c3 : w1.cell? ⟨w.heap.size, 3, none⟩ = some (.bool rl) := HK1.out.cell 3
      clear HBl HK0 HB0 hb1
      have HEX := Lib.hid (fun W => Env_any v hv W)
      try rw [hok] at HEX
      go_wp2_with fail
      refine (HEX.out _).mono ?_
      rintro e w2 ⟨⟨vx, rfl⟩, hb2⟩
      have HK2 := Lib.hid (HK1.out.below hb2 HK1.out.lt)
      have HB2 := Lib.hid (more3 HB1.out HB1.out.size hb2)
      have d2 : w2.cell? ⟨w.heap.size, 2, none⟩ = some (.int .i64 8) := HK2.out.cell 2
      have d3 : w2.cell? ⟨w.heap.size, 3, none⟩ = some (.bool rl) := HK2.out.cell 3
      clear hb2
      go_wp2_with fail
      go_ret
      exact RvalP.of (by rw [he]; rfl) HB2.out
  · rcases rl with _ | _
    · go_enter Tryz.func16, Tryz.ntmps16
      go_wp2_with fail
      generalize w.alloc (.cells #[.string (str rs), .string (str rn), .int .i64 8, .bool false, .int .i64 rk, .slice rA rm rc] 28) = wa at *
      refine HBl.out.mono ?_
      rintro e w1 ⟨vb, rfl, hown, hb1⟩
      have HK1 := Lib.hid (HK0.out.below hb1 HK0.out.lt)
      have HB1 := Lib.hid (more3 HB0.out HB0.out.size hb1)
      have c2 : w1.cell? ⟨w.heap.size, 2, none⟩ = some (.int .i64 8) := HK1.out.cell 2
      have c3 : w1.cell? ⟨w.heap.size, 3, none⟩ = some (.bool false) := HK1.out.cell 3
      clear HBl HK0 HB0 hb1
      have HEX := Lib.hid (fun W => Env_any v hv W)
      try rw [hok] at HEX
      go_wp2_with fail
      refine (HEX.out _).mono ?_
      rintro e w2 ⟨⟨vx, rfl⟩, hb2⟩
      have HK2 := Lib.hid (HK1.out.below hb2 HK1.out.lt)
      have HB2 := Lib.hid (more3 HB1.out HB1.out.size hb2)
      have d2 : w2.cell? ⟨w.heap.size, 2, none⟩ = some (.int .i64 8) := HK2.out.cell 2
      have d3 : w2.cell? ⟨w.heap.size, 3, none⟩ = some (.bool false) := HK2.out.cell 3
      clear hb2
      go_wp2_with fail
      go_ret
      exact RvalP.of (by rw [he]; rfl) HB2.out
    · go_enter Tryz.func16, Tryz.ntmps16
      go_wp2_with fail
      generalize w.alloc (.cells #[.string (str rs), .string (str rn), .int .i64 8, .bool true, .int .i64 rk, .slice rA rm rc] 28) = wa at *
      refine HBl.out.mono ?_
      rintro e w1 ⟨vb, rfl, hown, hb1⟩
      have HK1 := Lib.hid (HK0.out.below hb1 HK0.out.lt)
      have HB1 := Lib.hid (more3 HB0.out HB0.out.size hb1)
      have c2 : w1.cell? ⟨w.heap.size, 2, none⟩ = some (.int .i64 8) := HK1.out.cell 2
      have c3 : w1.cell? ⟨w.heap.size, 3, none⟩ = some (.bool true) := HK1.out.cell 3
      clear HBl HK0 HB0 hb1
      have HEX := Lib.hid (fun W => Env_any v hv W)
      try rw [hok] at HEX
      go_wp2_with fail
      refine (HEX.out _).mono ?_
      rintro e w2 ⟨⟨vx, rfl⟩, hb2⟩
      have HK2 := Lib.hid (HK1.out.below hb2 HK1.out.lt)
      have HB2 := Lib.hid (more3 HB1.out HB1.out.size hb2)
      have d2 : w2.cell? ⟨w.heap.size, 2, none⟩ = some (.int .i64 8) := HK2.out.cell 2
      have d3 : w2.cell? ⟨w.heap.size, 3, none⟩ = some (.bool true) := HK2.out.cell 3
      clear hb2
      go_wp2_with fail
      go_ret
      exact RvalP.of (by rw [he]; rfl) HB2.out
set_option maxHeartbeats 8000000 in
theorem rval_word (r : Kr) (v : ByteArray) (hv : v.size ≤ 1048576) (B : Nat) (l : List (List UInt8)) (w : World) (hrow : RowAt w B r.A r.m l) (hB : B ≤ w.heap.size) :
    Calls Tryz.prog 16 #[.agg #[.string (str r.s), .string (str r.n), .int .i64 10, .bool r.l, .int .i64 r.k, .slice r.A r.m r.c], .string v] w (RvalP (l.any (fun x => decide (x = v.data.toList))) r.l v w) := by
  obtain ⟨rs, rn, rf, rl, rk, rA, rm, rc⟩ := r
  dsimp only at hrow ⊢
  have HWD := Lib.hid hrow
  have HBl := Lib.hid (Blanks_any v ⟨#[32]⟩ (by omega) (by decide) (w.alloc (.cells #[.string (str rs), .string (str rn), .int .i64 10, .bool rl, .int .i64 rk, .slice rA rm rc] 28)))
  have HK0 : Hid (Blk (w.alloc (.cells #[.string (str rs), .string (str rn), .int .i64 10, .bool rl, .int .i64 rk, .slice rA rm rc] 28)) w.heap.size 28 #[.string (str rs), .string (str rn), .int .i64 10, .bool rl, .int .i64 rk, .slice rA rm rc]) := Blk.new w _ _
  have HB0 : Hid (Below w.heap.size w (w.alloc (.cells #[.string (str rs), .string (str rn), .int .i64 10, .bool rl, .int .i64 rk, .slice rA rm rc] 28))) := (Below.refl _ _).alloc (Nat.le_refl _) _
  rcases he : v.toList.isEmpty with _ | _
  · rcases hok : l.any (fun x => decide (x = v.data.toList)) with _ | _
    all_goals
      go_enter Tryz.func16, Tryz.ntmps16
      go_wp2_with fail
      generalize w.alloc (.cells #[.string (str rs), .string (str rn), .int .i64 10, .bool rl, .int .i64 rk, .slice rA rm rc] 28) = wa at *
      refine HBl.out.mono ?_
      rintro e w1 ⟨vb, rfl, hown, hb1⟩
      have HK1 := Lib.hid (HK0.out.below hb1 HK0.out.lt)
      have HB1 := Lib.hid (more3 HB0.out HB0.out.size hb1)
      have c2 : w1.cell? ⟨w.heap.size, 2, none⟩ = some (.int .i64 10) := HK1.out.cell 2
      have c3 : w1.cell? ⟨w.heap.size, 3, none⟩ = some (.bool rl) := HK1.out.cell 3
      clear HBl HK0 HB0 hb1
      have HRW := Lib.hid ((HWD.out.below ((HB1.out).mono hB)))
      have HH := Lib.hid (Has_any rA rm rc B l v w1 HRW.out)
      try rw [hok] at HH
      have c5 : w1.cell? ⟨w.heap.size, 5, none⟩ = some (.slice rA rm rc) := HK1.out.cell 5
      go_wp2_with fail
      refine HH.out.mono ?_
      rintro e w3 ⟨rfl, rfl⟩
      go_wp2_with fail
      go_ret
      exact RvalP.of (by rw [he]; rfl) HB1.out
  · rcases rl with _ | _
    · go_enter Tryz.func16, Tryz.ntmps16
      go_wp2_with fail
      generalize w.alloc (.cells #[.string (str rs), .string (str rn), .int .i64 10, .bool false, .int .i64 rk, .slice rA rm rc] 28) = wa at *
      refine HBl.out.mono ?_
      rintro e w1 ⟨vb, rfl, hown, hb1⟩
      have HK1 := Lib.hid (HK0.out.below hb1 HK0.out.lt)
      have HB1 := Lib.hid (more3 HB0.out HB0.out.size hb1)
      have c2 : w1.cell? ⟨w.heap.size, 2, none⟩ = some (.int .i64 10) := HK1.out.cell 2
      have c3 : w1.cell? ⟨w.heap.size, 3, none⟩ = some (.bool false) := HK1.out.cell 3
      clear HBl HK0 HB0 hb1
      have HRW := Lib.hid ((HWD.out.below ((HB1.out).mono hB)))
      have HH := Lib.hid (Has_any rA rm rc B l v w1 HRW.out)
      try rw [hok] at HH
      have c5 : w1.cell? ⟨w.heap.size, 5, none⟩ = some (.slice rA rm rc) := HK1.out.cell 5
      go_wp2_with fail
      refine HH.out.mono ?_
      rintro e w3 ⟨rfl, rfl⟩
      go_wp2_with fail
      go_ret
      exact RvalP.of (by rw [he]; rfl) HB1.out
    · go_enter Tryz.func16, Tryz.ntmps16
      go_wp2_with fail
      generalize w.alloc (.cells #[.string (str rs), .string (str rn), .int .i64 10, .bool true, .int .i64 rk, .slice rA rm rc] 28) = wa at *
      refine HBl.out.mono ?_
      rintro e w1 ⟨vb, rfl, hown, hb1⟩
      have HK1 := Lib.hid (HK0.out.below hb1 HK0.out.lt)
      have HB1 := Lib.hid (more3 HB0.out HB0.out.size hb1)
      have c2 : w1.cell? ⟨w.heap.size, 2, none⟩ = some (.int .i64 10) := HK1.out.cell 2
      have c3 : w1.cell? ⟨w.heap.size, 3, none⟩ = some (.bool true) := HK1.out.cell 3
      clear HBl HK0 HB0 hb1
      have HRW := Lib.hid ((HWD.out.below ((HB1.out).mono hB)))
      have HH := Lib.hid (Has_any rA rm rc B l v w1 HRW.out)
      try rw [hok] at HH
      have c5 : w1.cell? ⟨w.heap.size, 5, none⟩ = some (.slice rA rm rc) := HK1.out.cell 5
      go_wp2_with fail
      refine HH.out.mono ?_
      rintro e w3 ⟨rfl, rfl⟩
      go_wp2_with fail
      go_ret
      exact RvalP.of (by rw [he]; rfl) HB1.out
set_option maxHeartbeats 16000000 in
theorem rval_nums (r : Kr) (v : ByteArray) (hv : v.size ≤ 1048576) (w : World) :
    Calls Tryz.prog 16 #[.agg #[.string (str r.s), .string (str r.n), .int .i64 11, .bool r.l, .int .i64 r.k, .slice r.A r.m r.c], .string v] w (RvalP (listS numS v) r.l v w) := by
  obtain ⟨rs, rn, rf, rl, rk, rA, rm, rc⟩ := r
  dsimp only
  have HBl := Lib.hid (Blanks_any v ⟨#[32]⟩ (by omega) (by decide) (w.alloc (.cells #[.string (str rs), .string (str rn), .int .i64 11, .bool rl, .int .i64 rk, .slice rA rm rc] 28)))
  have HK0 : Hid (Blk (w.alloc (.cells #[.string (str rs), .string (str rn), .int .i64 11, .bool rl, .int .i64 rk, .slice rA rm rc] 28)) w.heap.size 28 #[.string (str rs), .string (str rn), .int .i64 11, .bool rl, .int .i64 rk, .slice rA rm rc]) := Blk.new w _ _
  have HB0 : Hid (Below w.heap.size w (w.alloc (.cells #[.string (str rs), .string (str rn), .int .i64 11, .bool rl, .int .i64 rk, .slice rA rm rc] 28))) := (Below.refl _ _).alloc (Nat.le_refl _) _
  have HLB := Lib.hid (list_blanks numS v)
  have HLE := Lib.hid (blanks_le v)
  have HCN := blanks_cnt v
  rcases he : v.toList.isEmpty with _ | _
  · go_enter Tryz.func16, Tryz.ntmps16
    go_wp2_with fail
    generalize w.alloc (.cells #[.string (str rs), .string (str rn), .int .i64 11, .bool rl, .int .i64 rk, .slice rA rm rc] 28) = wa at *
    refine HBl.out.mono ?_
    rintro e w1 ⟨vb, rfl, hown, hb1⟩
    have HK1 := Lib.hid (HK0.out.below hb1 HK0.out.lt)
    have HB1 := Lib.hid (more3 HB0.out HB0.out.size hb1)
    have c2 : w1.cell? ⟨w.heap.size, 2, none⟩ = some (.int .i64 11) := HK1.out.cell 2
    have c3 : w1.cell? ⟨w.heap.size, 3, none⟩ = some (.bool rl) := HK1.out.cell 3
    clear HBl HK0 HB0 hb1
    change w1.ownsRow _ _ _ _ (blanksL [32] v.data.toList).length (wcells (blanksL [32] v.data.toList)) at hown
    generalize blanksL [32] v.data.toList = bl at hown HLB HLE HCN
    obtain ⟨A, nv, cv, rfl⟩ : ∃ A nv cv, vb = .slice A nv cv := by
      rcases hown.2 with ⟨hv, _⟩ | ⟨g, cap, cur, hv, _⟩
      · exact ⟨_, _, _, hv⟩
      · exact ⟨_, _, _, hv⟩
    obtain ⟨rfl, hcv, hra⟩ := rowAt_of_own hown (by unfold maxLen; omega)
    have HRA := Lib.hid hra
    clear hown hra
    obtain ⟨b0, hb0⟩ : ∃ b, decide (0 < bl.length) = b := ⟨_, rfl⟩
    have HQ0 := Lib.hid hb0
    clear hb0
    go_wp2_with fail
    go_loopw [5, 41] (fun o i wr => ∃ (k : Nat) (b : Bool), k ≤ bl.length ∧ i = .int .i64 k ∧ o = .bool b ∧ Hid (b = (b0 && (bl.take k).all fun x => numS (str x))) ∧ Hid (Below w1.heap.size w1 wr)) (fun o i wr => bl.length - (intOf i).toNat)
    case atStart => exact ⟨0, b0, Nat.zero_le _, rfl, (by rw [HQ0.out]), by show _ = _; simp, Below.refl _ _⟩
    case round =>
      obtain ⟨k, b, hk, rfl, rfl, hb, hbw⟩ := hrel
      have k0 : (0 : Int) ≤ (k : Int) := by omega
      have e2 : wr.cell? ⟨w.heap.size, 2, none⟩ = some (.int .i64 11) := (HK1.out.below hbw.out HK1.out.lt).cell 2
      have e3 : wr.cell? ⟨w.heap.size, 3, none⟩ = some (.bool rl) := (HK1.out.below hbw.out HK1.out.lt).cell 3
      by_cases hlt : k < bl.length
      · have k1 : (k : Int) < (bl.length : Int) := by omega
        obtain ⟨ad, x, rfl, hab, hx, hcx⟩ := (HRA.out.below hbw.out).at_ hlt
        have hxl : (str x).size ≤ 1048576 := by have := HLE.out x (List.mem_of_getElem? hx); rw [str_size]; omega
        have HT : Hid ((bl.take (k + 1)).all (fun x => numS (str x)) = ((bl.take k).all (fun x => numS (str x)) && numS (str x))) := by
          show _ = _
          rw [List.take_add_one, hx]
          simp
        clear hx
        rcases b with _ | _
        · have HN : Hid (false = (b0 && (bl.take (k + 1)).all fun x => numS (str x))) := by
            show _ = _
            rw [HT.out, ← Bool.and_assoc, ← hb.out]; rfl
          go_wp2_with fail
          go_roundw
          case rel => exact ⟨k + 1, false, by omega, by go_num, rfl, HN, hbw⟩
          case measure => simp [intOf]; omega
        · have HN : Hid (numS (str x) = (b0 && (bl.take (k + 1)).all fun x => numS (str x))) := by
            show _ = _
            rw [HT.out, ← Bool.and_assoc, ← hb.out]; rfl
          have hgeq : decide (0 ≤ numJ x) = numS (str x) := (numS_J (str x)).symm
          have HNB := Lib.hid (fun W => Number_any (str x) (by omega) W)
          rcases hnx : numS (str x) with _ | _
          all_goals
            rw [hnx] at hgeq HN
            have hge : (0 ≤ numJ x) = (decide (0 ≤ numJ x) = true) := by simp
            rw [hgeq] at hge
            go_wp2_with fail
            refine (HNB.out _).mono ?_
            rintro e w3 ⟨rfl, rfl⟩
            rw [str_list]
            go_wp2_with fail
            go_roundw
            case rel => exact ⟨k + 1, _, by omega, by go_num, rfl, HN, hbw⟩
            case measure => simp [intOf]; omega
      · obtain rfl : k = bl.length := by omega
        have HF : Hid (listS numS v = b) := by
          show _ = _
          rw [HLB.out, HQ0.out, hb.out, List.take_length]
        have HBf := Lib.hid (HB1.out.trans (hbw.out.mono HB1.out.size))
        clear hlt
        rcases b with _ | _
        all_goals
          go_wp2_with fail
          go_ret
          exact RvalP.of (by rw [he]; first | rfl | (rw [HF.out]; rfl)) HBf.out
  · rcases rl with _ | _
    · go_enter Tryz.func16, Tryz.ntmps16
      go_wp2_with fail
      generalize w.alloc (.cells #[.string (str rs), .string (str rn), .int .i64 11, .bool false, .int .i64 rk, .slice rA rm rc] 28) = wa at *
      refine HBl.out.mono ?_
      rintro e w1 ⟨vb, rfl, hown, hb1⟩
      have HK1 := Lib.hid (HK0.out.below hb1 HK0.out.lt)
      have HB1 := Lib.hid (more3 HB0.out HB0.out.size hb1)
      have c2 : w1.cell? ⟨w.heap.size, 2, none⟩ = some (.int .i64 11) := HK1.out.cell 2
      have c3 : w1.cell? ⟨w.heap.size, 3, none⟩ = some (.bool false) := HK1.out.cell 3
      clear HBl HK0 HB0 hb1
      change w1.ownsRow _ _ _ _ (blanksL [32] v.data.toList).length (wcells (blanksL [32] v.data.toList)) at hown
      generalize blanksL [32] v.data.toList = bl at hown HLB HLE HCN
      obtain ⟨A, nv, cv, rfl⟩ : ∃ A nv cv, vb = .slice A nv cv := by
        rcases hown.2 with ⟨hv, _⟩ | ⟨g, cap, cur, hv, _⟩
        · exact ⟨_, _, _, hv⟩
        · exact ⟨_, _, _, hv⟩
      obtain ⟨rfl, hcv, hra⟩ := rowAt_of_own hown (by unfold maxLen; omega)
      have HRA := Lib.hid hra
      clear hown hra
      obtain ⟨b0, hb0⟩ : ∃ b, decide (0 < bl.length) = b := ⟨_, rfl⟩
      have HQ0 := Lib.hid hb0
      clear hb0
      go_wp2_with fail
      go_loopw [5, 41] (fun o i wr => ∃ (k : Nat) (b : Bool), k ≤ bl.length ∧ i = .int .i64 k ∧ o = .bool b ∧ Hid (b = (b0 && (bl.take k).all fun x => numS (str x))) ∧ Hid (Below w1.heap.size w1 wr)) (fun o i wr => bl.length - (intOf i).toNat)
      case atStart => exact ⟨0, b0, Nat.zero_le _, rfl, (by rw [HQ0.out]), by show _ = _; simp, Below.refl _ _⟩
      case round =>
        obtain ⟨k, b, hk, rfl, rfl, hb, hbw⟩ := hrel
        have k0 : (0 : Int) ≤ (k : Int) := by omega
        have e2 : wr.cell? ⟨w.heap.size, 2, none⟩ = some (.int .i64 11) := (HK1.out.below hbw.out HK1.out.lt).cell 2
        have e3 : wr.cell? ⟨w.heap.size, 3, none⟩ = some (.bool false) := (HK1.out.below hbw.out HK1.out.lt).cell 3
        by_cases hlt : k < bl.length
        · have k1 : (k : Int) < (bl.length : Int) := by omega
          obtain ⟨ad, x, rfl, hab, hx, hcx⟩ := (HRA.out.below hbw.out).at_ hlt
          have hxl : (str x).size ≤ 1048576 := by have := HLE.out x (List.mem_of_getElem? hx); rw [str_size]; omega
          have HT : Hid ((bl.take (k + 1)).all (fun x => numS (str x)) = ((bl.take k).all (fun x => numS (str x)) && numS (str x))) := by
            show _ = _
            rw [List.take_add_one, hx]
            simp
          clear hx
          rcases b with _ | _
          · have HN : Hid (false = (b0 && (bl.take (k + 1)).all fun x => numS (str x))) := by
              show _ = _
              rw [HT.out, ← Bool.and_assoc, ← hb.out]; rfl
            go_wp2_with fail
            go_roundw
            case rel => exact ⟨k + 1, false, by omega, by go_num, rfl, HN, hbw⟩
            case measure => simp [intOf]; omega
          · have HN : Hid (numS (str x) = (b0 && (bl.take (k + 1)).all fun x => numS (str x))) := by
              show _ = _
              rw [HT.out, ← Bool.and_assoc, ← hb.out]; rfl
            have hgeq : decide (0 ≤ numJ x) = numS (str x) := (numS_J (str x)).symm
            have HNB := Lib.hid (fun W => Number_any (str x) (by omega) W)
            rcases hnx : numS (str x) with _ | _
            all_goals
              rw [hnx] at hgeq HN
              have hge : (0 ≤ numJ x) = (decide (0 ≤ numJ x) = true) := by simp
              rw [hgeq] at hge
              go_wp2_with fail
              refine (HNB.out _).mono ?_
              rintro e w3 ⟨rfl, rfl⟩
              rw [str_list]
              go_wp2_with fail
              go_roundw
              case rel => exact ⟨k + 1, _, by omega, by go_num, rfl, HN, hbw⟩
              case measure => simp [intOf]; omega
        · obtain rfl : k = bl.length := by omega
          have HF : Hid (listS numS v = b) := by
            show _ = _
            rw [HLB.out, HQ0.out, hb.out, List.take_length]
          have HBf := Lib.hid (HB1.out.trans (hbw.out.mono HB1.out.size))
          clear hlt
          rcases b with _ | _
          all_goals
            go_wp2_with fail
            go_ret
            exact RvalP.of (by rw [he]; first | rfl | (rw [HF.out]; rfl)) HBf.out
    · go_enter Tryz.func16, Tryz.ntmps16
      go_wp2_with fail
      generalize w.alloc (.cells #[.string (str rs), .string (str rn), .int .i64 11, .bool true, .int .i64 rk, .slice rA rm rc] 28) = wa at *
      refine HBl.out.mono ?_
      rintro e w1 ⟨vb, rfl, hown, hb1⟩
      have HK1 := Lib.hid (HK0.out.below hb1 HK0.out.lt)
      have HB1 := Lib.hid (more3 HB0.out HB0.out.size hb1)
      have c2 : w1.cell? ⟨w.heap.size, 2, none⟩ = some (.int .i64 11) := HK1.out.cell 2
      have c3 : w1.cell? ⟨w.heap.size, 3, none⟩ = some (.bool true) := HK1.out.cell 3
      clear HBl HK0 HB0 hb1
      change w1.ownsRow _ _ _ _ (blanksL [32] v.data.toList).length (wcells (blanksL [32] v.data.toList)) at hown
      generalize blanksL [32] v.data.toList = bl at hown HLB HLE HCN
      obtain ⟨A, nv, cv, rfl⟩ : ∃ A nv cv, vb = .slice A nv cv := by
        rcases hown.2 with ⟨hv, _⟩ | ⟨g, cap, cur, hv, _⟩
        · exact ⟨_, _, _, hv⟩
        · exact ⟨_, _, _, hv⟩
      obtain ⟨rfl, hcv, hra⟩ := rowAt_of_own hown (by unfold maxLen; omega)
      have HRA := Lib.hid hra
      clear hown hra
      obtain ⟨b0, hb0⟩ : ∃ b, decide (0 < bl.length) = b := ⟨_, rfl⟩
      have HQ0 := Lib.hid hb0
      clear hb0
      go_wp2_with fail
      go_loopw [5, 41] (fun o i wr => ∃ (k : Nat) (b : Bool), k ≤ bl.length ∧ i = .int .i64 k ∧ o = .bool b ∧ Hid (b = (b0 && (bl.take k).all fun x => numS (str x))) ∧ Hid (Below w1.heap.size w1 wr)) (fun o i wr => bl.length - (intOf i).toNat)
      case atStart => exact ⟨0, b0, Nat.zero_le _, rfl, (by rw [HQ0.out]), by show _ = _; simp, Below.refl _ _⟩
      case round =>
        obtain ⟨k, b, hk, rfl, rfl, hb, hbw⟩ := hrel
        have k0 : (0 : Int) ≤ (k : Int) := by omega
        have e2 : wr.cell? ⟨w.heap.size, 2, none⟩ = some (.int .i64 11) := (HK1.out.below hbw.out HK1.out.lt).cell 2
        have e3 : wr.cell? ⟨w.heap.size, 3, none⟩ = some (.bool true) := (HK1.out.below hbw.out HK1.out.lt).cell 3
        by_cases hlt : k < bl.length
        · have k1 : (k : Int) < (bl.length : Int) := by omega
          obtain ⟨ad, x, rfl, hab, hx, hcx⟩ := (HRA.out.below hbw.out).at_ hlt
          have hxl : (str x).size ≤ 1048576 := by have := HLE.out x (List.mem_of_getElem? hx); rw [str_size]; omega
          have HT : Hid ((bl.take (k + 1)).all (fun x => numS (str x)) = ((bl.take k).all (fun x => numS (str x)) && numS (str x))) := by
            show _ = _
            rw [List.take_add_one, hx]
            simp
          clear hx
          rcases b with _ | _
          · have HN : Hid (false = (b0 && (bl.take (k + 1)).all fun x => numS (str x))) := by
              show _ = _
              rw [HT.out, ← Bool.and_assoc, ← hb.out]; rfl
            go_wp2_with fail
            go_roundw
            case rel => exact ⟨k + 1, false, by omega, by go_num, rfl, HN, hbw⟩
            case measure => simp [intOf]; omega
          · have HN : Hid (numS (str x) = (b0 && (bl.take (k + 1)).all fun x => numS (str x))) := by
              show _ = _
              rw [HT.out, ← Bool.and_assoc, ← hb.out]; rfl
            have hgeq : decide (0 ≤ numJ x) = numS (str x) := (numS_J (str x)).symm
            have HNB := Lib.hid (fun W => Number_any (str x) (by omega) W)
            rcases hnx : numS (str x) with _ | _
            all_goals
              rw [hnx] at hgeq HN
              have hge : (0 ≤ numJ x) = (decide (0 ≤ numJ x) = true) := by simp
              rw [hgeq] at hge
              go_wp2_with fail
              refine (HNB.out _).mono ?_
              rintro e w3 ⟨rfl, rfl⟩
              rw [str_list]
              go_wp2_with fail
              go_roundw
              case rel => exact ⟨k + 1, _, by omega, by go_num, rfl, HN, hbw⟩
              case measure => simp [intOf]; omega
        · obtain rfl : k = bl.length := by omega
          have HF : Hid (listS numS v = b) := by
            show _ = _
            rw [HLB.out, HQ0.out, hb.out, List.take_length]
          have HBf := Lib.hid (HB1.out.trans (hbw.out.mono HB1.out.size))
          clear hlt
          rcases b with _ | _
          all_goals
            go_wp2_with fail
            go_ret
            exact RvalP.of (by rw [he]; first | rfl | (rw [HF.out]; rfl)) HBf.out
set_option maxHeartbeats 16000000 in
theorem rval_names (r : Kr) (v : ByteArray) (hv : v.size ≤ 1048576) (w : World) :
    Calls Tryz.prog 16 #[.agg #[.string (str r.s), .string (str r.n), .int .i64 6, .bool r.l, .int .i64 r.k, .slice r.A r.m r.c], .string v] w (RvalP (listS unitS v) r.l v w) := by
  obtain ⟨rs, rn, rf, rl, rk, rA, rm, rc⟩ := r
  dsimp only
  have HBl := Lib.hid (Blanks_any v ⟨#[32]⟩ (by omega) (by decide) (w.alloc (.cells #[.string (str rs), .string (str rn), .int .i64 6, .bool rl, .int .i64 rk, .slice rA rm rc] 28)))
  have HK0 : Hid (Blk (w.alloc (.cells #[.string (str rs), .string (str rn), .int .i64 6, .bool rl, .int .i64 rk, .slice rA rm rc] 28)) w.heap.size 28 #[.string (str rs), .string (str rn), .int .i64 6, .bool rl, .int .i64 rk, .slice rA rm rc]) := Blk.new w _ _
  have HB0 : Hid (Below w.heap.size w (w.alloc (.cells #[.string (str rs), .string (str rn), .int .i64 6, .bool rl, .int .i64 rk, .slice rA rm rc] 28))) := (Below.refl _ _).alloc (Nat.le_refl _) _
  have HLB := Lib.hid (list_blanks unitS v)
  have HLE := Lib.hid (blanks_le v)
  have HCN := blanks_cnt v
  rcases he : v.toList.isEmpty with _ | _
  · go_enter Tryz.func16, Tryz.ntmps16
    go_wp2_with fail
    generalize w.alloc (.cells #[.string (str rs), .string (str rn), .int .i64 6, .bool rl, .int .i64 rk, .slice rA rm rc] 28) = wa at *
    refine HBl.out.mono ?_
    rintro e w1 ⟨vb, rfl, hown, hb1⟩
    have HK1 := Lib.hid (HK0.out.below hb1 HK0.out.lt)
    have HB1 := Lib.hid (more3 HB0.out HB0.out.size hb1)
    have c2 : w1.cell? ⟨w.heap.size, 2, none⟩ = some (.int .i64 6) := HK1.out.cell 2
    have c3 : w1.cell? ⟨w.heap.size, 3, none⟩ = some (.bool rl) := HK1.out.cell 3
    clear HBl HK0 HB0 hb1
    change w1.ownsRow _ _ _ _ (blanksL [32] v.data.toList).length (wcells (blanksL [32] v.data.toList)) at hown
    generalize blanksL [32] v.data.toList = bl at hown HLB HLE HCN
    obtain ⟨A, nv, cv, rfl⟩ : ∃ A nv cv, vb = .slice A nv cv := by
      rcases hown.2 with ⟨hv, _⟩ | ⟨g, cap, cur, hv, _⟩
      · exact ⟨_, _, _, hv⟩
      · exact ⟨_, _, _, hv⟩
    obtain ⟨rfl, hcv, hra⟩ := rowAt_of_own hown (by unfold maxLen; omega)
    have HRA := Lib.hid hra
    clear hown hra
    obtain ⟨b0, hb0⟩ : ∃ b, decide (0 < bl.length) = b := ⟨_, rfl⟩
    have HQ0 := Lib.hid hb0
    clear hb0
    go_wp2_with fail
    go_loopw [5, 41] (fun o i wr => ∃ (k : Nat) (b : Bool), k ≤ bl.length ∧ i = .int .i64 k ∧ o = .bool b ∧ Hid (b = (b0 && (bl.take k).all fun x => unitS (str x))) ∧ Hid (Below w1.heap.size w1 wr)) (fun o i wr => bl.length - (intOf i).toNat)
    case atStart => exact ⟨0, b0, Nat.zero_le _, rfl, (by rw [HQ0.out]), by show _ = _; simp, Below.refl _ _⟩
    case round =>
      obtain ⟨k, b, hk, rfl, rfl, hb, hbw⟩ := hrel
      have k0 : (0 : Int) ≤ (k : Int) := by omega
      have e2 : wr.cell? ⟨w.heap.size, 2, none⟩ = some (.int .i64 6) := (HK1.out.below hbw.out HK1.out.lt).cell 2
      have e3 : wr.cell? ⟨w.heap.size, 3, none⟩ = some (.bool rl) := (HK1.out.below hbw.out HK1.out.lt).cell 3
      by_cases hlt : k < bl.length
      · have k1 : (k : Int) < (bl.length : Int) := by omega
        obtain ⟨ad, x, rfl, hab, hx, hcx⟩ := (HRA.out.below hbw.out).at_ hlt
        have hxl : (str x).size ≤ 1048576 := by have := HLE.out x (List.mem_of_getElem? hx); rw [str_size]; omega
        have HT : Hid ((bl.take (k + 1)).all (fun x => unitS (str x)) = ((bl.take k).all (fun x => unitS (str x)) && unitS (str x))) := by
          show _ = _
          rw [List.take_add_one, hx]
          simp
        clear hx
        rcases b with _ | _
        · have HN : Hid (false = (b0 && (bl.take (k + 1)).all fun x => unitS (str x))) := by
            show _ = _
            rw [HT.out, ← Bool.and_assoc, ← hb.out]; rfl
          go_wp2_with fail
          go_roundw
          case rel => exact ⟨k + 1, false, by omega, by go_num, rfl, HN, hbw⟩
          case measure => simp [intOf]; omega
        · have HN : Hid (unitS (str x) = (b0 && (bl.take (k + 1)).all fun x => unitS (str x))) := by
            show _ = _
            rw [HT.out, ← Bool.and_assoc, ← hb.out]; rfl
          have HNM := Lib.hid (fun W => named7_any (str x) (by unfold maxLen; omega) W)
          rcases hnx : unitS (str x) with _ | _
          all_goals
            rw [hnx] at HNM HN
            go_wp2_with fail
            refine (HNM.out _).mono ?_
            rintro e w3 ⟨rfl, hb3⟩
            have HBn := Lib.hid (hbw.out.trans (hb3.mono hbw.out.size))
            go_wp2_with fail
            go_roundw
            case rel => exact ⟨k + 1, _, by omega, by go_num, rfl, HN, HBn⟩
            case measure => simp [intOf]; omega
      · obtain rfl : k = bl.length := by omega
        have HF : Hid (listS unitS v = b) := by
          show _ = _
          rw [HLB.out, HQ0.out, hb.out, List.take_length]
        have HBf := Lib.hid (HB1.out.trans (hbw.out.mono HB1.out.size))
        clear hlt
        rcases b with _ | _
        all_goals
          go_wp2_with fail
          go_ret
          exact RvalP.of (by rw [he]; first | rfl | (rw [HF.out]; rfl)) HBf.out
  · rcases rl with _ | _
    · go_enter Tryz.func16, Tryz.ntmps16
      go_wp2_with fail
      generalize w.alloc (.cells #[.string (str rs), .string (str rn), .int .i64 6, .bool false, .int .i64 rk, .slice rA rm rc] 28) = wa at *
      refine HBl.out.mono ?_
      rintro e w1 ⟨vb, rfl, hown, hb1⟩
      have HK1 := Lib.hid (HK0.out.below hb1 HK0.out.lt)
      have HB1 := Lib.hid (more3 HB0.out HB0.out.size hb1)
      have c2 : w1.cell? ⟨w.heap.size, 2, none⟩ = some (.int .i64 6) := HK1.out.cell 2
      have c3 : w1.cell? ⟨w.heap.size, 3, none⟩ = some (.bool false) := HK1.out.cell 3
      clear HBl HK0 HB0 hb1
      change w1.ownsRow _ _ _ _ (blanksL [32] v.data.toList).length (wcells (blanksL [32] v.data.toList)) at hown
      generalize blanksL [32] v.data.toList = bl at hown HLB HLE HCN
      obtain ⟨A, nv, cv, rfl⟩ : ∃ A nv cv, vb = .slice A nv cv := by
        rcases hown.2 with ⟨hv, _⟩ | ⟨g, cap, cur, hv, _⟩
        · exact ⟨_, _, _, hv⟩
        · exact ⟨_, _, _, hv⟩
      obtain ⟨rfl, hcv, hra⟩ := rowAt_of_own hown (by unfold maxLen; omega)
      have HRA := Lib.hid hra
      clear hown hra
      obtain ⟨b0, hb0⟩ : ∃ b, decide (0 < bl.length) = b := ⟨_, rfl⟩
      have HQ0 := Lib.hid hb0
      clear hb0
      go_wp2_with fail
      go_loopw [5, 41] (fun o i wr => ∃ (k : Nat) (b : Bool), k ≤ bl.length ∧ i = .int .i64 k ∧ o = .bool b ∧ Hid (b = (b0 && (bl.take k).all fun x => unitS (str x))) ∧ Hid (Below w1.heap.size w1 wr)) (fun o i wr => bl.length - (intOf i).toNat)
      case atStart => exact ⟨0, b0, Nat.zero_le _, rfl, (by rw [HQ0.out]), by show _ = _; simp, Below.refl _ _⟩
      case round =>
        obtain ⟨k, b, hk, rfl, rfl, hb, hbw⟩ := hrel
        have k0 : (0 : Int) ≤ (k : Int) := by omega
        have e2 : wr.cell? ⟨w.heap.size, 2, none⟩ = some (.int .i64 6) := (HK1.out.below hbw.out HK1.out.lt).cell 2
        have e3 : wr.cell? ⟨w.heap.size, 3, none⟩ = some (.bool false) := (HK1.out.below hbw.out HK1.out.lt).cell 3
        by_cases hlt : k < bl.length
        · have k1 : (k : Int) < (bl.length : Int) := by omega
          obtain ⟨ad, x, rfl, hab, hx, hcx⟩ := (HRA.out.below hbw.out).at_ hlt
          have hxl : (str x).size ≤ 1048576 := by have := HLE.out x (List.mem_of_getElem? hx); rw [str_size]; omega
          have HT : Hid ((bl.take (k + 1)).all (fun x => unitS (str x)) = ((bl.take k).all (fun x => unitS (str x)) && unitS (str x))) := by
            show _ = _
            rw [List.take_add_one, hx]
            simp
          clear hx
          rcases b with _ | _
          · have HN : Hid (false = (b0 && (bl.take (k + 1)).all fun x => unitS (str x))) := by
              show _ = _
              rw [HT.out, ← Bool.and_assoc, ← hb.out]; rfl
            go_wp2_with fail
            go_roundw
            case rel => exact ⟨k + 1, false, by omega, by go_num, rfl, HN, hbw⟩
            case measure => simp [intOf]; omega
          · have HN : Hid (unitS (str x) = (b0 && (bl.take (k + 1)).all fun x => unitS (str x))) := by
              show _ = _
              rw [HT.out, ← Bool.and_assoc, ← hb.out]; rfl
            have HNM := Lib.hid (fun W => named7_any (str x) (by unfold maxLen; omega) W)
            rcases hnx : unitS (str x) with _ | _
            all_goals
              rw [hnx] at HNM HN
              go_wp2_with fail
              refine (HNM.out _).mono ?_
              rintro e w3 ⟨rfl, hb3⟩
              have HBn := Lib.hid (hbw.out.trans (hb3.mono hbw.out.size))
              go_wp2_with fail
              go_roundw
              case rel => exact ⟨k + 1, _, by omega, by go_num, rfl, HN, HBn⟩
              case measure => simp [intOf]; omega
        · obtain rfl : k = bl.length := by omega
          have HF : Hid (listS unitS v = b) := by
            show _ = _
            rw [HLB.out, HQ0.out, hb.out, List.take_length]
          have HBf := Lib.hid (HB1.out.trans (hbw.out.mono HB1.out.size))
          clear hlt
          rcases b with _ | _
          all_goals
            go_wp2_with fail
            go_ret
            exact RvalP.of (by rw [he]; first | rfl | (rw [HF.out]; rfl)) HBf.out
    · go_enter Tryz.func16, Tryz.ntmps16
      go_wp2_with fail
      generalize w.alloc (.cells #[.string (str rs), .string (str rn), .int .i64 6, .bool true, .int .i64 rk, .slice rA rm rc] 28) = wa at *
      refine HBl.out.mono ?_
      rintro e w1 ⟨vb, rfl, hown, hb1⟩
      have HK1 := Lib.hid (HK0.out.below hb1 HK0.out.lt)
      have HB1 := Lib.hid (more3 HB0.out HB0.out.size hb1)
      have c2 : w1.cell? ⟨w.heap.size, 2, none⟩ = some (.int .i64 6) := HK1.out.cell 2
      have c3 : w1.cell? ⟨w.heap.size, 3, none⟩ = some (.bool true) := HK1.out.cell 3
      clear HBl HK0 HB0 hb1
      change w1.ownsRow _ _ _ _ (blanksL [32] v.data.toList).length (wcells (blanksL [32] v.data.toList)) at hown
      generalize blanksL [32] v.data.toList = bl at hown HLB HLE HCN
      obtain ⟨A, nv, cv, rfl⟩ : ∃ A nv cv, vb = .slice A nv cv := by
        rcases hown.2 with ⟨hv, _⟩ | ⟨g, cap, cur, hv, _⟩
        · exact ⟨_, _, _, hv⟩
        · exact ⟨_, _, _, hv⟩
      obtain ⟨rfl, hcv, hra⟩ := rowAt_of_own hown (by unfold maxLen; omega)
      have HRA := Lib.hid hra
      clear hown hra
      obtain ⟨b0, hb0⟩ : ∃ b, decide (0 < bl.length) = b := ⟨_, rfl⟩
      have HQ0 := Lib.hid hb0
      clear hb0
      go_wp2_with fail
      go_loopw [5, 41] (fun o i wr => ∃ (k : Nat) (b : Bool), k ≤ bl.length ∧ i = .int .i64 k ∧ o = .bool b ∧ Hid (b = (b0 && (bl.take k).all fun x => unitS (str x))) ∧ Hid (Below w1.heap.size w1 wr)) (fun o i wr => bl.length - (intOf i).toNat)
      case atStart => exact ⟨0, b0, Nat.zero_le _, rfl, (by rw [HQ0.out]), by show _ = _; simp, Below.refl _ _⟩
      case round =>
        obtain ⟨k, b, hk, rfl, rfl, hb, hbw⟩ := hrel
        have k0 : (0 : Int) ≤ (k : Int) := by omega
        have e2 : wr.cell? ⟨w.heap.size, 2, none⟩ = some (.int .i64 6) := (HK1.out.below hbw.out HK1.out.lt).cell 2
        have e3 : wr.cell? ⟨w.heap.size, 3, none⟩ = some (.bool true) := (HK1.out.below hbw.out HK1.out.lt).cell 3
        by_cases hlt : k < bl.length
        · have k1 : (k : Int) < (bl.length : Int) := by omega
          obtain ⟨ad, x, rfl, hab, hx, hcx⟩ := (HRA.out.below hbw.out).at_ hlt
          have hxl : (str x).size ≤ 1048576 := by have := HLE.out x (List.mem_of_getElem? hx); rw [str_size]; omega
          have HT : Hid ((bl.take (k + 1)).all (fun x => unitS (str x)) = ((bl.take k).all (fun x => unitS (str x)) && unitS (str x))) := by
            show _ = _
            rw [List.take_add_one, hx]
            simp
          clear hx
          rcases b with _ | _
          · have HN : Hid (false = (b0 && (bl.take (k + 1)).all fun x => unitS (str x))) := by
              show _ = _
              rw [HT.out, ← Bool.and_assoc, ← hb.out]; rfl
            go_wp2_with fail
            go_roundw
            case rel => exact ⟨k + 1, false, by omega, by go_num, rfl, HN, hbw⟩
            case measure => simp [intOf]; omega
          · have HN : Hid (unitS (str x) = (b0 && (bl.take (k + 1)).all fun x => unitS (str x))) := by
              show _ = _
              rw [HT.out, ← Bool.and_assoc, ← hb.out]; rfl
            have HNM := Lib.hid (fun W => named7_any (str x) (by unfold maxLen; omega) W)
            rcases hnx : unitS (str x) with _ | _
            all_goals
              rw [hnx] at HNM HN
              go_wp2_with fail
              refine (HNM.out _).mono ?_
              rintro e w3 ⟨rfl, hb3⟩
              have HBn := Lib.hid (hbw.out.trans (hb3.mono hbw.out.size))
              go_wp2_with fail
              go_roundw
              case rel => exact ⟨k + 1, _, by omega, by go_num, rfl, HN, HBn⟩
              case measure => simp [intOf]; omega
        · obtain rfl : k = bl.length := by omega
          have HF : Hid (listS unitS v = b) := by
            show _ = _
            rw [HLB.out, HQ0.out, hb.out, List.take_length]
          have HBf := Lib.hid (HB1.out.trans (hbw.out.mono HB1.out.size))
          clear hlt
          rcases b with _ | _
          all_goals
            go_wp2_with fail
            go_ret
            exact RvalP.of (by rw [he]; first | rfl | (rw [HF.out]; rfl)) HBf.out
end Go.Proofs.YtadifolonbkamaaGreatDoor
