/- What the law on Value needs besides: a key as a parameter, the program's Value at it, the law itself. -/
import Derived.Test.YtadifolonbkamaaGreatDoorKvbv
import Derived.Test.YtadifolonbkamaaGreatDoorKvbw
import Derived.Test.YtadifolonbkamaaGreatDoorKvbn
import Derived.Test.YtadifolonbkamaaGreatDoorTie
import Derived.Test.YtadifolonbkamaaGreatDoorCards
namespace Go.Proofs.YtadifolonbkamaaGreatDoor
open Go.RowKit
theorem pv_key (rs rn : List UInt8) (f : Int) (l : Bool) (k : Int) (A : Option Addr) (m c : Nat) (ws : List (List UInt8)) (v : ByteArray) (hv : v.size ≤ 140737488355327) (B : Nat) (w : World) (hw : RowAt w B A m ws) (hB : B ≤ w.heap.size) (ht : Ca.TabM w) :
    Calls Tryz.prog 15 #[.agg #[.string (str rs), .string (str rn), .int .i64 f, .bool l, .int .i64 k, .slice A m c], .string v] w fun e w' => e = .returned (.int .i64 (rvalT ⟨rs, rn, f, l, k, ws⟩ v)) ∧ Below w.heap.size w w' := by
  have hba : ∀ o, Below w.heap.size w (w.alloc o) := fun o => (Below.refl _ w).alloc (Nat.le_refl _) o
  by_cases hr : f < 1 ∨ 11 < f
  · unfold rvalT
    rw [if_pos hr]
    exact Value_no f hr ⟨rs, rn, f, l, k, A, m, c⟩ v w
  rw [rvalT_in (show 1 ≤ f by omega) (show f ≤ 11 by omega)]
  have h1 : 1 ≤ f := by omega
  have h2 : f ≤ 11 := by omega
  unfold valueT
  by_cases hf1 : f = 1
  · subst hf1
    exact Value_of 1 h1 h2 ⟨rs, rn, 1, l, k, A, m, c⟩ v true w (takes_text _ v _)
  by_cases he : v.toList.isEmpty = true
  · have ht' : takesT ⟨rs, rn, f, l, k, ws⟩ v = l := by unfold takesT; rw [if_neg hf1, if_pos he]
    rw [ht']
    exact Value_of f h1 h2 ⟨rs, rn, f, l, k, A, m, c⟩ v l w (takes_empty f hf1 ⟨rs, rn, f, l, k, A, m, c⟩ v he _)
  have he' : v.toList.isEmpty = false := by simpa using he
  have hcs : f = 2 ∨ f = 3 ∨ f = 4 ∨ f = 5 ∨ f = 6 ∨ f = 7 ∨ f = 8 ∨ f = 9 ∨ f = 10 ∨ f = 11 := by omega
  rcases hcs with rfl | rfl | rfl | rfl | rfl | rfl | rfl | rfl | rfl | rfl
  · have ht' : takesT ⟨rs, rn, 2, l, k, ws⟩ v = (boolS v) := by unfold takesT; exact (if_neg (show ¬ (2 : Int) = 1 by decide)).trans ((if_neg he).trans rfl)
    rw [ht']
    exact Value_of 2 (by decide) (by decide) ⟨rs, rn, 2, l, k, A, m, c⟩ v _ w (takes_bool ⟨rs, rn, 2, l, k, A, m, c⟩ v he' hv _)
  · have ht' : takesT ⟨rs, rn, 3, l, k, ws⟩ v = (numS v) := by unfold takesT; exact (if_neg (show ¬ (3 : Int) = 1 by decide)).trans ((if_neg he).trans rfl)
    rw [ht']
    exact Value_of 3 (by decide) (by decide) ⟨rs, rn, 3, l, k, A, m, c⟩ v _ w (takes_num ⟨rs, rn, 3, l, k, A, m, c⟩ v he' hv _)
  · have ht' : takesT ⟨rs, rn, 4, l, k, ws⟩ v = (Sn.parseOk v) := by unfold takesT; exact (if_neg (show ¬ (4 : Int) = 1 by decide)).trans ((if_neg he).trans rfl)
    rw [ht']
    exact Value_of 4 (by decide) (by decide) ⟨rs, rn, 4, l, k, A, m, c⟩ v _ w (takes_span ⟨rs, rn, 4, l, k, A, m, c⟩ v he' hv _)
  · have ht' : takesT ⟨rs, rn, 5, l, k, ws⟩ v = (unitS v) := by unfold takesT; exact (if_neg (show ¬ (5 : Int) = 1 by decide)).trans ((if_neg he).trans rfl)
    rw [ht']
    exact Value_of 5 (by decide) (by decide) ⟨rs, rn, 5, l, k, A, m, c⟩ v _ w (takes_unit ⟨rs, rn, 5, l, k, A, m, c⟩ v he' hv _)
  · have ht' : takesT ⟨rs, rn, 6, l, k, ws⟩ v = (listS unitS v) := by unfold takesT; exact (if_neg (show ¬ (6 : Int) = 1 by decide)).trans ((if_neg he).trans rfl)
    rw [ht']
    exact Value_of 6 (by decide) (by decide) ⟨rs, rn, 6, l, k, A, m, c⟩ v _ w (takes_names ⟨rs, rn, 6, l, k, A, m, c⟩ v he' (by unfold maxLen; omega) _)
  · have ht' : takesT ⟨rs, rn, 7, l, k, ws⟩ v = (cmdS v) := by unfold takesT; exact (if_neg (show ¬ (7 : Int) = 1 by decide)).trans ((if_neg he).trans rfl)
    rw [ht']
    exact Value_of 7 (by decide) (by decide) ⟨rs, rn, 7, l, k, A, m, c⟩ v _ w (takes_cmd ⟨rs, rn, 7, l, k, A, m, c⟩ v he' hv _)
  · have ht' : takesT ⟨rs, rn, 8, l, k, ws⟩ v = (envS v) := by unfold takesT; exact (if_neg (show ¬ (8 : Int) = 1 by decide)).trans ((if_neg he).trans rfl)
    rw [ht']
    exact Value_of 8 (by decide) (by decide) ⟨rs, rn, 8, l, k, A, m, c⟩ v _ w (takes_env ⟨rs, rn, 8, l, k, A, m, c⟩ v he' hv _)
  · have ht' : takesT ⟨rs, rn, 9, l, k, ws⟩ v = (calS v) := by unfold takesT; exact (if_neg (show ¬ (9 : Int) = 1 by decide)).trans ((if_neg he).trans rfl)
    rw [ht']
    exact Value_of 9 (by decide) (by decide) ⟨rs, rn, 9, l, k, A, m, c⟩ v _ w (takes_cal ⟨rs, rn, 9, l, k, A, m, c⟩ v he' hv _ (ht.below (hba _)))
  · have ht' : takesT ⟨rs, rn, 10, l, k, ws⟩ v = (ws.any (fun y => decide (y = v.data.toList))) := by unfold takesT; exact (if_neg (show ¬ (10 : Int) = 1 by decide)).trans ((if_neg he).trans rfl)
    rw [ht']
    exact Value_of 10 (by decide) (by decide) ⟨rs, rn, 10, l, k, A, m, c⟩ v _ w (takes_word ⟨rs, rn, 10, l, k, A, m, c⟩ v he' _ B ws (hw.below ((hba _).mono hB)) (by simp; omega))
  · have ht' : takesT ⟨rs, rn, 11, l, k, ws⟩ v = (listS numS v) := by unfold takesT; exact (if_neg (show ¬ (11 : Int) = 1 by decide)).trans ((if_neg he).trans rfl)
    rw [ht']
    exact Value_of 11 (by decide) (by decide) ⟨rs, rn, 11, l, k, A, m, c⟩ v _ w (takes_nums ⟨rs, rn, 11, l, k, A, m, c⟩ v he' hv _)
theorem and_lowK (a : Int) (m : Nat) (hm : m ≤ 65535) : ∃ k : Nat, bits .and .i64 a (m : Int) = (k : Int) ∧ k ≤ m := by
  have hx : (BitVec.ofInt 64 (m : Int)).toNat = m := by
    rw [BitVec.ofInt_natCast, BitVec.toNat_ofNat]; exact Nat.mod_eq_of_lt (by omega)
  refine ⟨(BitVec.ofInt 64 a).toNat &&& m, ?_, Nat.and_le_right⟩
  have hle : (BitVec.ofInt 64 a).toNat &&& m ≤ m := Nat.and_le_right
  show IntKind.i64.wrap ((BitVec.ofInt 64 a &&& BitVec.ofInt 64 (m : Int)).toNat : Int) = _
  rw [BitVec.toNat_and, hx, IntKind.wrap_i64]
  omega
theorem key_six : (Tryz.prog.info? 28).map (·.size) = some 6 := by kernel_rfl
theorem key_yields {W : World} {g : Nat} {cs : Array Value} (o : Oper) (ev : Operand → Value) (x : Operand) (ho : o.op = .load 28 x) (hx : ev x = .pointer (some ⟨g, 0, none⟩)) (hB : Blk W g 28 cs) (hsz : cs.size = 6) : (execOp ev o).run Tryz.prog W = .ok (.value (.agg cs)) W := by
  unfold execOp
  simp only [ho, hx, Instr.loadAt, Instr.sureAddr, Sem.run_bind, Sem.run_pure, Result.andThen_ok, run_loadVar_row W g 28 28 cs (0, 0) _ hB Tryz.underlying28 rfl (by rw [hsz]; exact key_six)]
set_option maxRecDepth 100000 in
set_option maxHeartbeats 16000000 in
theorem KeysValue_any (r : Kr) (ws : List (List UInt8)) (v : ByteArray) (a : Int) (w : World) (hrow : RowAt w w.heap.size r.A r.m ws) (hv : v.size ≤ 1048576) (ht : Ca.TabM w) :
    Calls Tryz.prog 4 #[.agg #[.string (str r.s), .string (str r.n), .int .i64 r.f, .bool r.l, .int .i64 r.k, .slice r.A r.m r.c], .string v, .int .i64 a] w fun e w' => e = .returned (.bool true) ∧ Below w.heap.size w w' := by
  obtain ⟨m, hbm, hml⟩ := and_lowK a 65535 (Nat.le_refl _)
  have hbm : bits .and .i64 a 65535 = (m : Int) := hbm
  obtain ⟨km, hkm⟩ : ∃ k, m % 42 = k := ⟨_, rfl⟩
  have hkl : km < 42 := by have := Nat.mod_lt m (show 0 < 42 by omega); omega
  have hk1 : (m : Int) % 42 = (km : Int) := by rw [← hkm]; simp
  have hk2 : (m : Int).tmod 42 = (km : Int) := by rw [Int.tmod_eq_emod_of_nonneg (by omega)]; exact hk1
  have hk0 : (0 : Int) ≤ (km : Int) := by omega
  have hk3 : (km : Int) < 42 := by omega
  have HT := Lib.hid ht
  have HROW := Lib.hid hrow
  clear ht hkm hrow
  obtain ⟨rs, rn, rf, rl, rk, rA, rm, rc⟩ := r
  dsimp only at HROW ⊢
  have HB0 : Hid (Below w.heap.size w (w.alloc (.cells #[.string (str rs), .string (str rn), .int .i64 rf, .bool rl, .int .i64 rk, .slice rA rm rc] 28))) := (Below.refl _ _).alloc (Nat.le_refl _) _
  have HK0 : Hid (Blk (w.alloc (.cells #[.string (str rs), .string (str rn), .int .i64 rf, .bool rl, .int .i64 rk, .slice rA rm rc] 28)) w.heap.size 28 #[.string (str rs), .string (str rn), .int .i64 rf, .bool rl, .int .i64 rk, .slice rA rm rc]) := Blk.new w _ _
  go_enter Tryz.func4, Tryz.ntmps4
  go_wp2_with fail
  generalize w.alloc (.cells #[.string (str rs), .string (str rn), .int .i64 rf, .bool rl, .int .i64 rk, .slice rA rm rc] 28) = wa at *
  refine (shown_any _).mono ?_
  rintro e1 w1 ⟨rfl, hb1⟩
  have HB1 := Lib.hid (more3 HB0.out HB0.out.size hb1)
  have HK1 := Lib.hid (HK0.out.below hb1 HK0.out.lt)
  clear hb1 HB0 HK0
  go_wp2_with fail
  refine (Keys_any _).mono ?_
  rintro e2 w2 ⟨vv, rfl, hk⟩
  have hb2 := hk.below
  obtain ⟨A, c, rfl, hkeys⟩ := hk.at_ (by decide +kernel)
  rw [allT_len] at hkeys ⊢
  obtain ⟨ad, r, x, rfl, hab, hx, hr, q0, q1, q2, q3, q4, q5⟩ := hkeys.at_ hkl
  have HB2 := Lib.hid (more3 HB1.out HB1.out.size hb2)
  have HK2 := Lib.hid (HK1.out.below hb2 HK1.out.lt)
  have hxr := rvalT_is hr v
  have hxw := hr.2.2.2.2.2.1
  obtain ⟨xs, xn, xf, xl, xk, xA, xm, xc⟩ := r
  dsimp only at q0 q1 q2 q3 q4 q5 hxr hxw
  have HXW := Lib.hid hxw
  have HB3 : Hid (Below w.heap.size w (w2.alloc (.cells #[.string (str xs), .string (str xn), .int .i64 xf, .bool xl, .int .i64 xk, .slice xA xm xc] 28))) := HB2.out.alloc HB2.out.size _
  have HK3 := Lib.hid (HK2.out.alloc (.cells #[.string (str xs), .string (str xn), .int .i64 xf, .bool xl, .int .i64 xk, .slice xA xm xc] 28))
  have HX3 : Hid (Blk (w2.alloc (.cells #[.string (str xs), .string (str xn), .int .i64 xf, .bool xl, .int .i64 xk, .slice xA xm xc] 28)) w2.heap.size 28 #[.string (str xs), .string (str xn), .int .i64 xf, .bool xl, .int .i64 xk, .slice xA xm xc]) := Blk.new w2 _ _
  have HXW3 : Hid (RowAt (w2.alloc (.cells #[.string (str xs), .string (str xn), .int .i64 xf, .bool xl, .int .i64 xk, .slice xA xm xc] 28)) w2.heap.size xA xm x.w) := HXW.out.below ((Below.refl _ _).alloc (Nat.le_refl _) _)
  have hz2 : w2.heap.size ≤ (w2.alloc (.cells #[.string (str xs), .string (str xn), .int .i64 xf, .bool xl, .int .i64 xk, .slice xA xm xc] 28)).heap.size := by simp
  clear hb2 hk hkeys hr hx hxr hxw HB1 HK1 HB2 HK2 HXW
  go_wp2_with fail
  generalize w2.alloc (.cells #[.string (str xs), .string (str xn), .int .i64 xf, .bool xl, .int .i64 xk, .slice xA xm xc] 28) = w3 at *
  have HP1 := Lib.hid fun W (hW : Below w3.heap.size w3 W) => pv_key rs rn rf rl rk rA rm rc ws v (by omega) w.heap.size W (HROW.out.below (HB3.out.trans (hW.mono HB3.out.size))) (Nat.le_trans HB3.out.size hW.size) (HT.out.below (HB3.out.trans (hW.mono HB3.out.size)))
  have HP2 := Lib.hid fun W (hW : Below w3.heap.size w3 W) => rv_key rs rn rf rl rk rA rm rc ws v hv w.heap.size W (HROW.out.below (HB3.out.trans (hW.mono HB3.out.size))) (Nat.le_trans HB3.out.size hW.size)
  have HP3 := Lib.hid fun W (hW : Below w3.heap.size w3 W) => pv_key xs xn xf xl xk xA xm xc x.w v (by omega) w2.heap.size W (HXW3.out.below (hW.mono hz2)) (Nat.le_trans hz2 hW.size) (HT.out.below (HB3.out.trans (hW.mono HB3.out.size)))
  have HP4 := Lib.hid fun W (hW : Below w3.heap.size w3 W) => rv_key xs xn xf xl xk xA xm xc x.w v hv w2.heap.size W (HXW3.out.below (hW.mono hz2)) (Nat.le_trans hz2 hW.size)
  generalize rvalT ⟨rs, rn, rf, rl, rk, ws⟩ v = t1 at HP1 HP2
  generalize rvalT ⟨xs, xn, xf, xl, xk, x.w⟩ v = t2 at HP3 HP4
  have hKl := HK3.out.lt
  have hXl := HX3.out.lt
  refine wp_region_held_drew (S := fun W => Below w3.heap.size w3 W) (by kernel_rfl) ?_ (fun hHeld => ?_)
  · exact (Below.refl w3.heap.size w3).drew
  refine wpAnyH_take (i := 0) (v := .agg #[.string (str rs), .string (str rn), .int .i64 rf, .bool rl, .int .i64 rk, .slice rA rm rc]) rfl (by kernel_rfl) (by kernel_rfl) (by kernel_rfl) (fun _ _ _ h => h) (Or.inl ⟨by rfl, ?hf0⟩) (by assumption) ?_
  case hf0 => (intro W hSw; exact key_yields _ _ (.tmp 3) (by rfl) (by rfl) (HK3.out.below hSw hKl) rfl)
  try simp only [Act.put, List.getElem_toArray, List.getElem_cons_zero, List.setIfInBounds_toArray, List.set_cons_zero, List.set_cons_succ]
  refine wpAnyH_take (i := 1) (v := ?v1) rfl (by kernel_rfl) (by kernel_rfl) (by kernel_rfl) (fun _ _ _ h => h) (Or.inl ⟨by rfl, ?hf1⟩) (by assumption) ?_
  case hf1 => (intro W hSw; (try dsimp only at hSw); go_simp; (try with_reducible rfl))
  try simp only [Act.put, List.getElem_toArray, List.getElem_cons_zero, List.getElem_cons_succ, List.setIfInBounds_toArray, List.set_cons_zero, List.set_cons_succ]
  refine wpAnyH_take (i := 3) (v := .agg #[.string (str rs), .string (str rn), .int .i64 rf, .bool rl, .int .i64 rk, .slice rA rm rc]) rfl (by kernel_rfl) (by kernel_rfl) (by kernel_rfl) (fun _ _ _ h => h) (Or.inl ⟨by rfl, ?hf3⟩) (by assumption) ?_
  case hf3 => (intro W hSw; exact key_yields _ _ (.tmp 3) (by rfl) (by rfl) (HK3.out.below hSw hKl) rfl)
  try simp only [Act.put, List.getElem_toArray, List.getElem_cons_zero, List.getElem_cons_succ, List.setIfInBounds_toArray, List.set_cons_zero, List.set_cons_succ]
  refine wpAnyH_take (i := 4) (v := ?v4) rfl (by kernel_rfl) (by kernel_rfl) (by kernel_rfl) (fun _ _ _ h => h) (Or.inl ⟨by rfl, ?hf4⟩) (by assumption) ?_
  case hf4 => (intro W hSw; (try dsimp only at hSw); go_simp; (try with_reducible rfl))
  try simp only [Act.put, List.getElem_toArray, List.getElem_cons_zero, List.getElem_cons_succ, List.setIfInBounds_toArray, List.set_cons_zero, List.set_cons_succ]
  refine wpAnyH_ready (rs := [2]) (by kernel_rfl) (by simp) ?_
  refine AllReadyH.cons rfl (fun K hK => ?_) AllReadyH.nil
  go_simp
  refine (HP1.out _ hHeld).mono ?_
  rintro e y2 ⟨rfl, hb⟩
  refine hK.out _ _ (more3 hHeld hHeld.size hb) (fun hHeld2 => ?_)
  clear hK K hHeld hb
  have hHeld := hHeld2
  clear hHeld2
  try simp only [Act.put, List.getElem_toArray, List.getElem_cons_zero, List.getElem_cons_succ, List.setIfInBounds_toArray, List.set_cons_zero, List.set_cons_succ]
  refine wpAnyH_ready (rs := [5]) (by kernel_rfl) (by simp) ?_
  refine AllReadyH.cons rfl (fun K hK => ?_) AllReadyH.nil
  go_simp
  refine (HP2.out _ hHeld).mono ?_
  rintro e y5 ⟨rfl, hb⟩
  refine hK.out _ _ (more3 hHeld hHeld.size hb) (fun hHeld2 => ?_)
  clear hK K hHeld hb
  have hHeld := hHeld2
  clear hHeld2
  try simp only [Act.put, List.getElem_toArray, List.getElem_cons_zero, List.getElem_cons_succ, List.setIfInBounds_toArray, List.set_cons_zero, List.set_cons_succ]
  refine wpAnyH_take (i := 6) (v := .bool true) rfl (by kernel_rfl) (by kernel_rfl) (by kernel_rfl) (fun _ _ _ h => h) (Or.inl ⟨by rfl, ?hf6⟩) (by assumption) ?_
  case hf6 => (intro W hSw; (try dsimp only at hSw); go_simp; (try with_reducible rfl))
  try simp only [Act.put, List.getElem_toArray, List.getElem_cons_zero, List.getElem_cons_succ, List.setIfInBounds_toArray, List.set_cons_zero, List.set_cons_succ]
  refine wpAnyH_take (i := 7) (v := .bool true) rfl (by kernel_rfl) (by kernel_rfl) (by kernel_rfl) (fun _ _ _ h => h) (Or.inl ⟨by rfl, ?hf7⟩) (by assumption) ?_
  case hf7 => (intro W hSw; (try dsimp only at hSw); go_simp; (try with_reducible rfl))
  try simp only [Act.put, List.getElem_toArray, List.getElem_cons_zero, List.getElem_cons_succ, List.setIfInBounds_toArray, List.set_cons_zero, List.set_cons_succ]
  refine wpAnyH_take (i := 8) (v := .agg #[.string (str xs), .string (str xn), .int .i64 xf, .bool xl, .int .i64 xk, .slice xA xm xc]) rfl (by kernel_rfl) (by kernel_rfl) (by kernel_rfl) (fun _ _ _ h => h) (Or.inl ⟨by rfl, ?hf8⟩) (by assumption) ?_
  case hf8 => (intro W hSw; exact key_yields _ _ (.tmp 8) (by rfl) (by rfl) (HX3.out.below hSw hXl) rfl)
  try simp only [Act.put, List.getElem_toArray, List.getElem_cons_zero, List.getElem_cons_succ, List.setIfInBounds_toArray, List.set_cons_zero, List.set_cons_succ]
  refine wpAnyH_take (i := 9) (v := ?v9) rfl (by kernel_rfl) (by kernel_rfl) (by kernel_rfl) (fun _ _ _ h => h) (Or.inl ⟨by rfl, ?hf9⟩) (by assumption) ?_
  case hf9 => (intro W hSw; (try dsimp only at hSw); go_simp; (try with_reducible rfl))
  try simp only [Act.put, List.getElem_toArray, List.getElem_cons_zero, List.getElem_cons_succ, List.setIfInBounds_toArray, List.set_cons_zero, List.set_cons_succ]
  refine wpAnyH_take (i := 11) (v := .agg #[.string (str xs), .string (str xn), .int .i64 xf, .bool xl, .int .i64 xk, .slice xA xm xc]) rfl (by kernel_rfl) (by kernel_rfl) (by kernel_rfl) (fun _ _ _ h => h) (Or.inl ⟨by rfl, ?hf11⟩) (by assumption) ?_
  case hf11 => (intro W hSw; exact key_yields _ _ (.tmp 8) (by rfl) (by rfl) (HX3.out.below hSw hXl) rfl)
  try simp only [Act.put, List.getElem_toArray, List.getElem_cons_zero, List.getElem_cons_succ, List.setIfInBounds_toArray, List.set_cons_zero, List.set_cons_succ]
  refine wpAnyH_take (i := 12) (v := ?v12) rfl (by kernel_rfl) (by kernel_rfl) (by kernel_rfl) (fun _ _ _ h => h) (Or.inl ⟨by rfl, ?hf12⟩) (by assumption) ?_
  case hf12 => (intro W hSw; (try dsimp only at hSw); go_simp; (try with_reducible rfl))
  try simp only [Act.put, List.getElem_toArray, List.getElem_cons_zero, List.getElem_cons_succ, List.setIfInBounds_toArray, List.set_cons_zero, List.set_cons_succ]
  refine wpAnyH_ready (rs := [10]) (by kernel_rfl) (by simp) ?_
  refine AllReadyH.cons rfl (fun K hK => ?_) AllReadyH.nil
  go_simp
  refine (HP3.out _ hHeld).mono ?_
  rintro e y10 ⟨rfl, hb⟩
  refine hK.out _ _ (more3 hHeld hHeld.size hb) (fun hHeld2 => ?_)
  clear hK K hHeld hb
  have hHeld := hHeld2
  clear hHeld2
  try simp only [Act.put, List.getElem_toArray, List.getElem_cons_zero, List.getElem_cons_succ, List.setIfInBounds_toArray, List.set_cons_zero, List.set_cons_succ]
  refine wpAnyH_ready (rs := [13]) (by kernel_rfl) (by simp) ?_
  refine AllReadyH.cons rfl (fun K hK => ?_) AllReadyH.nil
  go_simp
  refine (HP4.out _ hHeld).mono ?_
  rintro e y13 ⟨rfl, hb⟩
  refine hK.out _ _ (more3 hHeld hHeld.size hb) (fun hHeld2 => ?_)
  clear hK K hHeld hb
  have hHeld := hHeld2
  clear hHeld2
  try simp only [Act.put, List.getElem_toArray, List.getElem_cons_zero, List.getElem_cons_succ, List.setIfInBounds_toArray, List.set_cons_zero, List.set_cons_succ]
  refine wpAnyH_take (i := 14) (v := .bool true) rfl (by kernel_rfl) (by kernel_rfl) (by kernel_rfl) (fun _ _ _ h => h) (Or.inl ⟨by rfl, ?hf14⟩) (by assumption) ?_
  case hf14 => (intro W hSw; (try dsimp only at hSw); go_simp; (try with_reducible rfl))
  try simp only [Act.put, List.getElem_toArray, List.getElem_cons_zero, List.getElem_cons_succ, List.setIfInBounds_toArray, List.set_cons_zero, List.set_cons_succ]
  refine wpAnyH_take (i := 15) (v := .bool true) rfl (by kernel_rfl) (by kernel_rfl) (by kernel_rfl) (fun _ _ _ h => h) (Or.inl ⟨by rfl, ?hf15⟩) (by assumption) ?_
  case hf15 => (intro W hSw; (try dsimp only at hSw); go_simp; (try with_reducible rfl))
  try simp only [Act.put, List.getElem_toArray, List.getElem_cons_zero, List.getElem_cons_succ, List.setIfInBounds_toArray, List.set_cons_zero, List.set_cons_succ]
  refine wpAnyH_take (i := 16) (v := .bool true) rfl (by kernel_rfl) (by kernel_rfl) (by kernel_rfl) (fun _ _ _ h => h) (Or.inl ⟨by rfl, ?hf16⟩) (by assumption) ?_
  case hf16 => (intro W hSw; (try dsimp only at hSw); go_simp; (try with_reducible rfl))
  try simp only [Act.put, List.getElem_toArray, List.getElem_cons_zero, List.getElem_cons_succ, List.setIfInBounds_toArray, List.set_cons_zero, List.set_cons_succ]
  refine wpAnyH_done (by kernel_rfl) ?_ _
  go_wp2_with fail
  go_ret
  exact ⟨rfl, HB3.out.trans (hHeld.mono HB3.out.size)⟩
end Go.Proofs.YtadifolonbkamaaGreatDoor
namespace Go.Proofs.YtadifolonbkamaaGreatDoor
open Go.RowKit Go.Joins Go.ChangeShapes Go.WideShapes Go.ChangeAt Go.Deep
open Go.ChangeMaps (open_string shut_string)
section
variable {H : Type} {enc : TypeId × Value → H} {W : World} {base : Nat} {spare : Nat → Bool} {held : Bool}
theorem open_agg6 {P : Program} {r : Reach} {b0 : Nat} {t : TypeId} {f0 f1 f2 f3 f4 f5 : Field} {v : Value} {d : DataW H} {p : List MemPlace} (hs : P.underlying t = some (.struct #[f0, f1, f2, f3, f4, f5])) (hone : oneCellFields P #[f0, f1, f2, f3, f4, f5] = true) (hC : P.cellsOf t = 6)
    (hv : Value.okWide P W r b0 t v) (h : DataW.Trod enc P W base spare held t v d p) :
    ∃ (v0 v1 v2 v3 v4 v5 : Value) (y0 y1 y2 y3 y4 y5 : DataW H × List MemPlace) (n : Nat), v = .agg #[v0, v1, v2, v3, v4, v5] ∧ d = .agg [y0.1, y1.1, y2.1, y3.1, y4.1, y5.1] ∧
      DataW.trod enc P W base spare held n f0.type [v0] = some y0 ∧ DataW.trod enc P W base spare held n f1.type [v1] = some y1 ∧ DataW.trod enc P W base spare held n f2.type [v2] = some y2 ∧ DataW.trod enc P W base spare held n f3.type [v3] = some y3 ∧ DataW.trod enc P W base spare held n f4.type [v4] = some y4 ∧ DataW.trod enc P W base spare held n f5.type [v5] = some y5 := by
  obtain ⟨cs, rfl, hsz⟩ := okWide_struct hs hv
  obtain ⟨l⟩ := cs
  match l, hsz.trans hC with
  | [c0, c1, c2, c3, c4, c5], _ =>
    obtain ⟨fuel, hf⟩ := h
    obtain ⟨xs, n, _, hx, _, hlen, hg⟩ := DataW.trod_struct hs hf
    obtain ⟨o0, k0⟩ := hone_of hone 0 f0 rfl
    obtain ⟨o1, k1⟩ := hone_of hone 1 f1 rfl
    obtain ⟨o2, k2⟩ := hone_of hone 2 f2 rfl
    obtain ⟨o3, k3⟩ := hone_of hone 3 f3 rfl
    obtain ⟨o4, k4⟩ := hone_of hone 4 f4 rfl
    obtain ⟨o5, k5⟩ := hone_of hone 5 f5 rfl
    match xs, hlen with
    | [y0, y1, y2, y3, y4, y5], _ =>
      simp only [Prod.mk.injEq] at hx
      exact ⟨c0, c1, c2, c3, c4, c5, y0, y1, y2, y3, y4, y5, n, rfl, by simpa using hx.1, by simpa [Value.cells, o0, k0] using hg 0 f0 rfl, by simpa [Value.cells, o1, k1] using hg 1 f1 rfl, by simpa [Value.cells, o2, k2] using hg 2 f2 rfl, by simpa [Value.cells, o3, k3] using hg 3 f3 rfl, by simpa [Value.cells, o4, k4] using hg 4 f4 rfl, by simpa [Value.cells, o5, k5] using hg 5 f5 rfl⟩
theorem strs_of {n : Nat} {v : Value} {y : DataW H × List MemPlace} (h : DataW.trod enc Tryz.prog W base spare held n 26 [v] = some y) :
    ∃ (A : Option Addr) (m c : Nat) (l : List (List UInt8)), v = .slice A m c ∧ RowAt W W.heap.size A m l := by
  rcases open_slice1 Tryz.underlying26 (by kernel_rfl) h with ⟨hcs, hx⟩ | ⟨a, len, cap, m, n', V, D, Pl, hcs, _, hl, hm, hmm, hx, hi⟩
  · exact ⟨none, 0, 0, [], by simpa using hcs, RowAt.none_⟩
  · have hml : len ≤ m := by rw [hmm]; split <;> omega
    have hV : ∀ i, i < len → ∃ x : List UInt8, W.cell? (a.add i) = some (.string (str x)) := fun i hil => by
      obtain ⟨h1, h2⟩ := hi i (by omega)
      obtain ⟨x, e, _⟩ := DataW.trod_string Tryz.underlying9 h2
      exact ⟨x.data.toList, by rw [h1, str_data]; congr 1; simpa using e⟩
    obtain ⟨X, hX⟩ := pick_ltP ([] : List UInt8) hV
    refine ⟨some a, len, cap, (List.range len).map X, by simpa using hcs, by simp, by omega, fun h0 => ⟨a, rfl, cell_ltP (hX 0 h0), fun j u hj => ?_⟩⟩
    rw [List.getElem?_map] at hj
    rcases Nat.lt_or_ge j len with h' | h'
    · rw [List.getElem?_range h'] at hj
      simp only [Option.map_some, Option.some.injEq] at hj
      rw [← hj]; exact hX j h'
    · rw [List.getElem?_eq_none (by simpa using h')] at hj; cases hj
set_option maxRecDepth 100000 in
theorem open_key {b0 : Nat} {v : Value} {d : DataW H} {p : List MemPlace} (hv : Value.okWide Tryz.prog W .any b0 28 v) (h : DataW.Trod enc Tryz.prog W base spare held 28 v d p) :
    ∃ (r : Kr) (ws : List (List UInt8)), v = .agg #[.string (str r.s), .string (str r.n), .int .i64 r.f, .bool r.l, .int .i64 r.k, .slice r.A r.m r.c] ∧ RowAt W W.heap.size r.A r.m ws := by
  obtain ⟨v0, v1, v2, v3, v4, v5, y0, y1, y2, y3, y4, y5, n, rfl, rfl, h0, h1, h2, h3, h4, h5⟩ := open_agg6 Tryz.underlying28 (by kernel_rfl) (by kernel_rfl) hv h
  obtain ⟨x0, e0, _⟩ := DataW.trod_string Tryz.underlying9 h0
  obtain ⟨x1, e1, _⟩ := DataW.trod_string Tryz.underlying9 h1
  obtain ⟨x2, e2, _⟩ := DataW.trod_int Tryz.underlying3 h2
  obtain ⟨x3, e3, _⟩ := DataW.trod_bool Tryz.underlying4 h3
  obtain ⟨x4, e4, _⟩ := DataW.trod_int Tryz.underlying3 h4
  obtain ⟨A, m, c, ws, rfl, g5⟩ := strs_of h5
  obtain rfl : v0 = .string x0 := by simpa using e0
  obtain rfl : v1 = .string x1 := by simpa using e1
  obtain rfl : v2 = .int .i64 x2 := by simpa using e2
  obtain rfl : v3 = .bool x3 := by simpa using e3
  obtain rfl : v4 = .int .i64 x4 := by simpa using e4
  exact ⟨⟨x0.data.toList, x1.data.toList, x2, x3, x4, A, m, c⟩, ws, by simp [str_data], g5⟩
theorem shut_key {W' : World} {v : Value} {d : DataW H} {ps : List MemPlace} {sp : Nat → Bool} (h : DataW.Trod enc Tryz.prog W 0 (fun _ => true) true 28 v d ps) (hb : Below W.heap.size W W') (hlt : ∀ p ∈ ps, p.block < W.heap.size) (hs : ∀ p ∈ ps, sp p.block = true) :
    DataW.Trod enc Tryz.prog W' 0 sp true 28 v d ps :=
  WideElems.Trod_stays (by kernel_rfl) (by kernel_rfl) (of_decide_eq_true (by kernel_rfl)) h (same_belowP hb hlt) hs
end
end Go.Proofs.YtadifolonbkamaaGreatDoor
