/- The walk of the developers' isListOf at matins/keys.isNumber. The walks of the developers' takes at every form, and what Value says of each key of the table. -/
import Derived.Test.YtadifolonbkamaaGreatDoorKfbe
import Derived.Test.YtadifolonbkamaaGreatDoorKfan
import Derived.Test.YtadifolonbkamaaGreatDoorKfbg
import Derived.Test.YtadifolonbkamaaGreatDoorKfbd
import Derived.Test.YtadifolonbkamaaGreatDoorKfbj
import Derived.Test.YtadifolonbkamaaGreatDoorKfbq
namespace Go.Proofs.YtadifolonbkamaaGreatDoor
open Go.RowKit
attribute [local go_sem] Oper.semAt_some
set_option maxRecDepth 100000 in
set_option maxHeartbeats 8000000 in
theorem listGn_any (s : ByteArray) (hs : s.size ≤ maxLen) (w : World) :
    Calls Tryz.prog 50 #[.string s, .func (.func 49) #[] #[]] w fun e w' => e = .returned (.bool (listS numS s)) ∧ Below w.heap.size w w' := by
  refine (callsIn_wide (n := 9)).1 ?_
  refine callsIn_of_wp_marks Tryz.func50 rfl trivial ?_ rfl
  simp only [Tryz.ntmps50, List.size_toArray, List.length_cons, List.length_nil, Nat.reduceAdd, Nat.reduceSub, Array.replicate_succ, Array.replicate_zero, List.push_toArray, List.append_toArray, List.nil_append, List.cons_append]
  gi_wp2_with (refine ⟨trivial, ?_⟩; gi_at_call 75; refine (callsIn_wide.2 (blankSeq_any _ _)).mono ?_; rintro e w' ⟨rfl, rfl⟩)
  obtain ⟨hB0, hR0, hR1, hP0, hS0, hZ0⟩ := boxes6 w 41 4 4 (.func (.func 49) #[] #[]) (.bool false) (.bool false) s _ rfl
  have hI0 : UI 41 49 numS w [] ((((((w.alloc (.cells #[.func (.func 49) #[] #[]] 41)).alloc (.cells #[.bool false] 4)).alloc (.cells #[.bool false] 4)).alloc (.cells #[.string s] 9)).alloc (.cells #[.string ⟨#[32]⟩] 9)).alloc (.cells #[.int .i64 0] 3)) := ⟨rfl, hR0, hR1, hP0, hB0, by omega⟩
  generalize (((((w.alloc (.cells #[.func (.func 49) #[] #[]] 41)).alloc (.cells #[.bool false] 4)).alloc (.cells #[.bool false] 4)).alloc (.cells #[.string s] 9)).alloc (.cells #[.string ⟨#[32]⟩] 9)).alloc (.cells #[.int .i64 0] 3) = W0 at *
  refine range_boxD (C := w.heap.size + 1 + 1 + 1) (D := w.heap.size + 1 + 1 + 1 + 3) rfl (by omega) rfl trivial (enters_of Tryz.func124 (by kernel_rfl) rfl) (by omega) (by omega)
    (split_seq _ (by omega) _ s hs W0 (by omega) hS0) (UI 41 49 numS w) (UX numS w) (fun _ _ _ h hb => h.below hb) (fun _ _ _ ht h => h.turn ht) (fun _ _ _ _ ht h => h.turn ht) hI0
    (fun x => { tmps := #[.string s, .func (.func 49) #[] #[], undef, .pointer (some ⟨w.heap.size, 0, none⟩), .pointer (some ⟨w.heap.size + 1, 0, none⟩), .pointer (some ⟨w.heap.size + 1 + 1, 0, none⟩), .string x, .string s, .func (.func 124) #[] #[.pointer (some ⟨w.heap.size + 1 + 1 + 1 + 1, 0, none⟩), .pointer (some ⟨w.heap.size + 1 + 1 + 1, 0, none⟩), .pointer (some ⟨w.heap.size + 1 + 1 + 1 + 2, 0, none⟩)], .string x, undef, undef, undef, undef, undef, undef, undef], defers := [] }) ?assign ?body ?done ?stop
  case assign =>
    intro l x W K hK
    gi_wp2
    exact hK
  case body =>
    rintro l pre x post W hxs hI hD hl hlo hde
    have hx : x.size ≤ maxLen := by
      have := piece_size (s := s) (x := x) (by rw [hxs]; simp)
      omega
    obtain ⟨hg, h0, h1, h2, hb, hsz⟩ := hI
    have HS0 := Lib.hid (stand_below (C := w.heap.size + 1 + 1 + 1) (Y := W) (Below.refl _ W) hD hlo)
    have HLO := Lib.hid hlo
    have HG := Lib.hid hg
    have H0 := Lib.hid h0
    have H1 := Lib.hid h1
    have H2 := Lib.hid h2
    have HB := Lib.hid hb
    have c0 : W.cell? ⟨w.heap.size, 0, none⟩ = some (.func (.func 49) #[] #[]) := h0.cell 0
    clear hxs hlo hde hg h0 h1 h2 hb
    rcases he : x.toList.isEmpty with _ | _
    · rcases hp : numS x with _ | _
      · have HX : Hid (goodU numS (pre ++ [x]) = false) := by show _ = _; rw [goodU_snoc]; unfold pieceOk; rw [he, hp]; simp
        have HC := Lib.hid (isNumber_any x hx W)
        rw [hp] at HC
        clear hp
        gi_wp2_with (refine ⟨trivial, ?_⟩; gi_at_call 49; refine (CallsIn.inRound l (callsIn_wide.2 HC.out)).mono ?_; rintro e w1 ⟨rfl, hb1⟩; have HB1 := Lib.hid (more3 HB.out HB.out.size hb1); have H1a := Lib.hid (H1.out.below hb1 H1.out.lt); have HS1 := Lib.hid (stand_below (C := w.heap.size + 1 + 1 + 1) hb1 hD HLO.out); have hs1 := hb1.size; have c1 : w1.cell? ⟨w.heap.size + 1, 0, none⟩ = some (.bool false) := H1a.out.cell 0; have f1 : w1.frozen? ⟨w.heap.size + 1, 0, none⟩ = false := H1a.out.frozen 0; clear hb1)
        refine ⟨stand_set HS1.out _ (by show w.heap.size + 1 < _; omega) hl (by omega), rfl, HX.out, H1a.out.setCell 0 (.bool false), HB1.out.setCell (p := ⟨w.heap.size + 1, 0, none⟩) (by show w.heap.size ≤ w.heap.size + 1; omega) _, by simp [World.setCell]; omega⟩
      · have HX : Hid (goodU numS (pre ++ [x]) = true) := by show _ = _; rw [goodU_snoc, HG.out]; unfold pieceOk; rw [he, hp]; simp
        have HF : Hid (foundU (pre ++ [x]) = true) := by show _ = _; rw [foundU_snoc, he]; simp
        have HC := Lib.hid (isNumber_any x hx W)
        rw [hp] at HC
        clear hp
        gi_wp2_with (refine ⟨trivial, ?_⟩; gi_at_call 49; refine (CallsIn.inRound l (callsIn_wide.2 HC.out)).mono ?_; rintro e w1 ⟨rfl, hb1⟩; have HB1 := Lib.hid (more3 HB.out HB.out.size hb1); have H0a := Lib.hid (H0.out.below hb1 H0.out.lt); have H1a := Lib.hid (H1.out.below hb1 H1.out.lt); have H2a := Lib.hid (H2.out.below hb1 H2.out.lt); have HS1 := Lib.hid (stand_below (C := w.heap.size + 1 + 1 + 1) hb1 hD HLO.out); have hs1 := hb1.size; have c1 : w1.cell? ⟨w.heap.size + 1 + 1, 0, none⟩ = some (.bool (foundU pre)) := H2a.out.cell 0; have f1 : w1.frozen? ⟨w.heap.size + 1 + 1, 0, none⟩ = false := H2a.out.frozen 0; clear hb1)
        refine ⟨stand_set HS1.out _ (by show w.heap.size + 1 + 1 < _; omega) hl (by omega), HX.out, H0a.out.setOther (a := ⟨w.heap.size + 1 + 1, 0, none⟩) (by simp; omega) _, H1a.out.setOther (a := ⟨w.heap.size + 1 + 1, 0, none⟩) (by simp) _, ?_, HB1.out.setCell (p := ⟨w.heap.size + 1 + 1, 0, none⟩) (by show w.heap.size ≤ w.heap.size + 1 + 1; omega) _, by simp [World.setCell]; omega⟩
        rw [HF.out]
        exact H2a.out.setCell 0 (.bool true)
    · have HX : Hid (goodU numS (pre ++ [x]) = true) := by show _ = _; rw [goodU_snoc, HG.out]; unfold pieceOk; rw [he]; simp
      have HF : Hid (foundU (pre ++ [x]) = foundU pre) := by show _ = _; rw [foundU_snoc, he]; simp
      gi_wp2
      exact ⟨HS0.out, HX.out, H0.out, H1.out, by rw [HF.out]; exact H2.out, HB.out, hsz⟩
  case done =>
    rintro M W hM ⟨hg, h0, h1, h2, hb, hsz⟩ hK
    have HV : Hid (listS numS s = foundU (piecesS s)) := by show _ = _; unfold listS; rw [hg, Bool.true_and]
    have c2 : W.cell? ⟨w.heap.size + 1 + 1, 0, none⟩ = some (.bool (foundU (piecesS s))) := h2.cell 0
    have c1 : W.cell? ⟨w.heap.size + 1, 0, none⟩ = some (.bool false) := h1.cell 0
    have f1 : W.frozen? ⟨w.heap.size + 1, 0, none⟩ = false := h1.frozen 0
    have hMlt : M < W.heap.size := (Array.getElem?_eq_some_iff.1 hK).1
    have H1 : Hid (Blk (W.setCell ⟨w.heap.size + 1, 0, none⟩ (.bool (foundU (piecesS s)))) (w.heap.size + 1) 4 #[.bool (foundU (piecesS s))]) := h1.setCell 0 _
    have HK : Hid ((W.setCell ⟨w.heap.size + 1, 0, none⟩ (.bool (foundU (piecesS s)))).heap[M]? = some (.deferred (some []))) := (Below.heap_setCell W ⟨w.heap.size + 1, 0, none⟩ _ M (by show M ≠ w.heap.size + 1; omega)).trans hK
    have HB : Hid (Below w.heap.size w (W.setCell ⟨w.heap.size + 1, 0, none⟩ (.bool (foundU (piecesS s))))) := hb.setCell (p := ⟨w.heap.size + 1, 0, none⟩) (by show w.heap.size ≤ w.heap.size + 1; omega) _
    clear hg h0 h1 h2 hb hK
    gi_wp2
    generalize W.setCell ⟨w.heap.size + 1, 0, none⟩ (.bool (foundU (piecesS s))) = Wz at *
    refine ⟨by simp, .inl ⟨_, _, rfl, run_takeDeferred (w := Wz) HK.out, ?_⟩⟩
    have e1 : (Wz.putObj M (.deferred none)).cell? ⟨w.heap.size + 1, 0, none⟩ = some (.bool (foundU (piecesS s))) := (World.cell?_of_block ((below_put Wz M (.deferred none) (Nat.le_refl M)).block _ (by show w.heap.size + 1 < M; omega))).trans (H1.out.cell 0)
    refine ⟨.bool (foundU (piecesS s)), ?_, ret_bool HV.out.symm, HB.out.trans (below_put _ _ _ (by omega))⟩
    simp [results, Tryz.f50, go_sem, e1]
  case stop =>
    rintro M c pre W hM hpre ⟨rfl, hg, h1, hb, hsz⟩ hK
    gi_wp2
    refine ⟨by simp, .inl ⟨_, _, rfl, run_takeDeferred hK, ?_⟩⟩
    have e1 : (W.putObj M (.deferred none)).cell? ⟨w.heap.size + 1, 0, none⟩ = some (.bool false) := (World.cell?_of_block ((below_put W M (.deferred none) (Nat.le_refl M)).block _ (by show w.heap.size + 1 < M; omega))).trans (h1.cell 0)
    have hno : listS numS s = false := by
      obtain ⟨post, hp⟩ := hpre
      unfold listS goodU at *
      rw [← hp, List.all_append, hg]
      rfl
    refine ⟨.bool false, ?_, ret_bool hno.symm, hb.trans (below_put _ _ _ (by omega))⟩
    simp [results, Tryz.f50, go_sem, e1]
end Go.Proofs.YtadifolonbkamaaGreatDoor
namespace Go.Proofs.YtadifolonbkamaaGreatDoor
open Go.RowKit
theorem takes_bool (r : Kr) (v : ByteArray) (he : v.toList.isEmpty = false) (hv : v.size ≤ 140737488355327) (w : World) : TakesAt 2 r v (boolS v) w := by
  unfold TakesAt
  have hm : v.size ≤ maxLen := by unfold maxLen; omega
  have HC := Lib.hid fun w => isBool_any v w
  go_enter Tryz.func28, Tryz.ntmps28
  go_wp2_with fail
  refine (HC.out _).mono ?_
  rintro e w1 ⟨rfl, hb⟩
  go_wp2_with fail
  go_ret
  exact ⟨rfl, more ((Below.refl _ w).alloc (Nat.le_refl _) _) hb⟩
theorem takes_num (r : Kr) (v : ByteArray) (he : v.toList.isEmpty = false) (hv : v.size ≤ 140737488355327) (w : World) : TakesAt 3 r v (numS v) w := by
  unfold TakesAt
  have hm : v.size ≤ maxLen := by unfold maxLen; omega
  have HC := Lib.hid fun w => isNumber_any v hm w
  go_enter Tryz.func28, Tryz.ntmps28
  go_wp2_with fail
  refine (HC.out _).mono ?_
  rintro e w1 ⟨rfl, hb⟩
  go_wp2_with fail
  go_ret
  exact ⟨rfl, more ((Below.refl _ w).alloc (Nat.le_refl _) _) hb⟩
theorem takes_unit (r : Kr) (v : ByteArray) (he : v.toList.isEmpty = false) (hv : v.size ≤ 140737488355327) (w : World) : TakesAt 5 r v (unitS v) w := by
  unfold TakesAt
  have hm : v.size ≤ maxLen := by unfold maxLen; omega
  have HC := Lib.hid fun w => isUnit_any v hm w
  go_enter Tryz.func28, Tryz.ntmps28
  go_wp2_with fail
  refine (HC.out _).mono ?_
  rintro e w1 ⟨rfl, hb⟩
  go_wp2_with fail
  go_ret
  exact ⟨rfl, more ((Below.refl _ w).alloc (Nat.le_refl _) _) hb⟩
theorem takes_cmd (r : Kr) (v : ByteArray) (he : v.toList.isEmpty = false) (hv : v.size ≤ 140737488355327) (w : World) : TakesAt 7 r v (cmdS v) w := by
  unfold TakesAt
  have hm : v.size ≤ maxLen := by unfold maxLen; omega
  have HC := Lib.hid fun w => isCmd_any v hv w
  go_enter Tryz.func28, Tryz.ntmps28
  go_wp2_with fail
  refine (HC.out _).mono ?_
  rintro e w1 ⟨rfl, hb⟩
  go_wp2_with fail
  go_ret
  exact ⟨rfl, more ((Below.refl _ w).alloc (Nat.le_refl _) _) hb⟩
theorem takes_env (r : Kr) (v : ByteArray) (he : v.toList.isEmpty = false) (hv : v.size ≤ 140737488355327) (w : World) : TakesAt 8 r v (envS v) w := by
  unfold TakesAt
  have hm : v.size ≤ maxLen := by unfold maxLen; omega
  have HC := Lib.hid fun w => isEnv_any v hv w
  go_enter Tryz.func28, Tryz.ntmps28
  go_wp2_with fail
  refine (HC.out _).mono ?_
  rintro e w1 ⟨rfl, hb⟩
  go_wp2_with fail
  go_ret
  exact ⟨rfl, more ((Below.refl _ w).alloc (Nat.le_refl _) _) hb⟩
theorem takes_nums (r : Kr) (v : ByteArray) (he : v.toList.isEmpty = false) (hv : v.size ≤ 140737488355327) (w : World) : TakesAt 11 r v (listS numS v) w := by
  unfold TakesAt
  have hm : v.size ≤ maxLen := by unfold maxLen; omega
  have HC := Lib.hid fun w => listGn_any v hm w
  go_enter Tryz.func28, Tryz.ntmps28
  go_wp2_with fail
  refine (HC.out _).mono ?_
  rintro e w1 ⟨rfl, hb⟩
  go_wp2_with fail
  go_ret
  exact ⟨rfl, more ((Below.refl _ w).alloc (Nat.le_refl _) _) hb⟩
theorem takes_span (r : Kr) (v : ByteArray) (he : v.toList.isEmpty = false) (hv : v.size ≤ 140737488355327) (w : World) : TakesAt 4 r v (Sn.parseOk v) w := by
  unfold TakesAt
  have HC := Lib.hid fun w => Sn.Parse_any v (by unfold maxLen; omega) w
  go_enter Tryz.func28, Tryz.ntmps28
  go_wp2_with fail
  refine (HC.out _).mono ?_
  rintro e w1 ⟨rfl, hb⟩
  go_wp2_with fail
  go_ret
  exact ⟨rfl, more ((Below.refl _ w).alloc (Nat.le_refl _) _) hb⟩
def calS (v : ByteArray) : Bool := (Ca.parseC v.data.toList).isSome
theorem takes_cal (r : Kr) (v : ByteArray) (he : v.toList.isEmpty = false) (hv : v.size ≤ 140737488355327) (w : World) (ht : Ca.TabM w) : TakesAt 9 r v (calS v) w := by
  unfold TakesAt
  have HC := Lib.hid (Ca.Parse_any v (by unfold maxLen; omega) (w.alloc (.cells #[.string (str r.s), .string (str r.n), .int .i64 9, .bool r.l, .int .i64 r.k, .slice r.A r.m r.c] 28)) (ht.below ((Below.refl _ w).alloc (Nat.le_refl _) _)))
  clear ht
  go_enter Tryz.func28, Tryz.ntmps28
  go_wp2_with fail
  refine HC.out.mono ?_
  rintro e w1 ⟨c, rfl, _, _, hb⟩
  change Below _ _ _ at hb
  have HB := Lib.hid (more ((Below.refl _ w).alloc (Nat.le_refl _) _) hb)
  have HA : Hid (Blk (w1.alloc (.cells #[.slice none 0 0, .slice none 0 0, .slice none 0 0, .slice none 0 0, .slice none 0 0, .slice none 0 0, .slice none 0 0] 63)) w1.heap.size 63 Ca.nilCh.cells) := Blk.new w1 _ _
  clear hb HC
  go_wp2_with (refine wpList_store_row rfl 63 (.tmp 7) (.tmp 47) (by rfl) w1.heap.size c.cells (by rfl) (by rfl) 63 Ca.nilCh.cells HA.out (by kernel_rfl) rfl (Ca.ch_all _) ?_)
  go_ret
  exact ⟨rfl, below_setRow (HB.out.alloc HB.out.size _) HB.out.size _⟩
/-- Does a key of a form take a text? -/
def takesT (x : Ky) (v : ByteArray) : Bool :=
  if x.f = 1 then true else if v.toList.isEmpty = true then x.l else
  if x.f = 2 then boolS v else if x.f = 3 then numS v else if x.f = 4 then Sn.parseOk v else if x.f = 5 then unitS v else if x.f = 6 then listS unitS v else
  if x.f = 7 then cmdS v else if x.f = 8 then envS v else if x.f = 9 then calS v else if x.f = 10 then x.w.any (fun y => decide (y = v.data.toList)) else listS numS v
def valueT (x : Ky) (v : ByteArray) : Int := if takesT x v = true then 0 else 12
theorem value_of (f : Int) (h1 : 1 ≤ f) (h2 : f ≤ 11) (x : Ky) (hx : x.f = f) (r : Kr) (v : ByteArray) (B : Nat) (w : World) (h : r.is w B x) (ht : TakesAt f r v (takesT x v) (w.alloc (.cells #[.string (str r.s), .string (str r.n), .int .i64 f, .bool r.l, .int .i64 r.k, .slice r.A r.m r.c] 28))) :
    Calls Tryz.prog 15 #[.agg #[.string (str r.s), .string (str r.n), .int .i64 r.f, .bool r.l, .int .i64 r.k, .slice r.A r.m r.c], .string v] w fun e w' => e = .returned (.int .i64 (valueT x v)) ∧ Below w.heap.size w w' := by
  rw [h.2.2.1, hx]
  exact Value_of f h1 h2 r v _ w ht
theorem value_any (x : Ky) (h1 : 1 ≤ x.f) (h2 : x.f ≤ 11) (r : Kr) (v : ByteArray) (hv : v.size ≤ 140737488355327) (B : Nat) (w : World) (h : r.is w B x) (hB : B ≤ w.heap.size) (ht : Ca.TabM w) :
    Calls Tryz.prog 15 #[.agg #[.string (str r.s), .string (str r.n), .int .i64 r.f, .bool r.l, .int .i64 r.k, .slice r.A r.m r.c], .string v] w fun e w' => e = .returned (.int .i64 (valueT x v)) ∧ Below w.heap.size w w' := by
  have hw := h.2.2.2.2.2.1
  have hl := h.2.2.2.1
  have hba : ∀ o, Below w.heap.size w (w.alloc o) := fun o => (Below.refl _ w).alloc (Nat.le_refl _) o
  by_cases hf1 : x.f = 1
  · refine value_of 1 (by decide) (by decide) x hf1 r v B w h ?_
    unfold takesT
    rw [if_pos hf1]
    exact takes_text r v _
  by_cases he : v.toList.isEmpty = true
  · refine value_of x.f h1 h2 x rfl r v B w h ?_
    unfold takesT
    rw [if_neg hf1, if_pos he, ← hl]
    exact takes_empty x.f hf1 r v he _
  have he' : v.toList.isEmpty = false := by simpa using he
  have hcs : x.f = 2 ∨ x.f = 3 ∨ x.f = 4 ∨ x.f = 5 ∨ x.f = 6 ∨ x.f = 7 ∨ x.f = 8 ∨ x.f = 9 ∨ x.f = 10 ∨ x.f = 11 := by omega
  rcases hcs with hf | hf | hf | hf | hf | hf | hf | hf | hf | hf
  · refine value_of 2 (by decide) (by decide) x hf r v B w h ?_
    have ht' : takesT x v = boolS v := by unfold takesT; rw [hf, if_neg (by decide), if_neg he]; rfl
    rw [ht']
    exact takes_bool r v he' hv _
  · refine value_of 3 (by decide) (by decide) x hf r v B w h ?_
    have ht' : takesT x v = numS v := by unfold takesT; rw [hf, if_neg (by decide), if_neg he]; rfl
    rw [ht']
    exact takes_num r v he' hv _
  · refine value_of 4 (by decide) (by decide) x hf r v B w h ?_
    have ht' : takesT x v = Sn.parseOk v := by unfold takesT; rw [hf, if_neg (by decide), if_neg he]; rfl
    rw [ht']
    exact takes_span r v he' hv _
  · refine value_of 5 (by decide) (by decide) x hf r v B w h ?_
    have ht' : takesT x v = unitS v := by unfold takesT; rw [hf, if_neg (by decide), if_neg he]; rfl
    rw [ht']
    exact takes_unit r v he' hv _
  · refine value_of 6 (by decide) (by decide) x hf r v B w h ?_
    have ht' : takesT x v = listS unitS v := by unfold takesT; rw [hf, if_neg (by decide), if_neg he]; rfl
    rw [ht']
    exact takes_names r v he' (by unfold maxLen; omega) _
  · refine value_of 7 (by decide) (by decide) x hf r v B w h ?_
    have ht' : takesT x v = cmdS v := by unfold takesT; rw [hf, if_neg (by decide), if_neg he]; rfl
    rw [ht']
    exact takes_cmd r v he' hv _
  · refine value_of 8 (by decide) (by decide) x hf r v B w h ?_
    have ht' : takesT x v = envS v := by unfold takesT; rw [hf, if_neg (by decide), if_neg he]; rfl
    rw [ht']
    exact takes_env r v he' hv _
  · refine value_of 9 (by decide) (by decide) x hf r v B w h ?_
    have ht' : takesT x v = calS v := by unfold takesT; rw [hf, if_neg (by decide), if_neg he]; rfl
    rw [ht']
    exact takes_cal r v he' hv _ (ht.below (hba _))
  · refine value_of 10 (by decide) (by decide) x hf r v B w h ?_
    have ht' : takesT x v = x.w.any (fun y => decide (y = v.data.toList)) := by unfold takesT; rw [hf, if_neg (by decide), if_neg he]; rfl
    rw [ht']
    exact takes_word r v he' _ B x.w (hw.below ((hba _).mono hB)) (by simp; omega)
  · refine value_of 11 (by decide) (by decide) x hf r v B w h ?_
    have ht' : takesT x v = listS numS v := by unfold takesT; rw [hf, if_neg (by decide), if_neg he]; rfl
    rw [ht']
    exact takes_nums r v he' hv _
theorem keysT_f (s : List UInt8) : ∀ x ∈ keysT s, 1 ≤ x.f ∧ x.f ≤ 11 := by
  unfold keysT
  repeat' split
  all_goals decide
theorem find_f {s k : List UInt8} {x : Ky} (h : findT s k = some x) : 1 ≤ x.f ∧ x.f ≤ 11 := keysT_f s x (List.mem_of_find?_eq_some h)
theorem says_all (s k : List UInt8) (v : ByteArray) (hv : v.size ≤ 140737488355327) (w0 : World) (ht : Ca.TabM w0) : ValueSays valueT s k v w0 := by
  intro x r B w hw hr hB hf
  obtain ⟨h1, h2⟩ := find_f hf
  exact value_any x h1 h2 r v hv B w hr hB (ht.below hw)
end Go.Proofs.YtadifolonbkamaaGreatDoor
