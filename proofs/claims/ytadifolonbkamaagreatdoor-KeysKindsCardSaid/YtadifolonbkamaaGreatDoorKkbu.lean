/- The walk of the law KeysKinds. -/
import Derived.Test.YtadifolonbkamaaGreatDoorKkbt
import Derived.Laws.BitsAllLaws
import Derived.Laws.BitsLemmas
import Derived.BigQuiet
namespace Go.Proofs.YtadifolonbkamaaGreatDoor
open Go.RowKit
theorem and_lowK (a : Int) (m : Nat) (hm : m ≤ 65535) : ∃ k : Nat, bits .and .i64 a (m : Int) = (k : Int) ∧ k ≤ m := by
  have hx : (BitVec.ofInt 64 (m : Int)).toNat = m := by
    rw [BitVec.ofInt_natCast, BitVec.toNat_ofNat]; exact Nat.mod_eq_of_lt (by omega)
  refine ⟨(BitVec.ofInt 64 a).toNat &&& m, ?_, Nat.and_le_right⟩
  have hle : (BitVec.ofInt 64 a).toNat &&& m ≤ m := Nat.and_le_right
  show IntKind.i64.wrap ((BitVec.ofInt 64 a &&& BitVec.ofInt 64 (m : Int)).toNat : Int) = _
  rw [BitVec.toNat_and, hx, IntKind.wrap_i64]
  omega
theorem shift_for {k kind : Int} (h1 : 1 ≤ kind) (h4 : kind ≤ 4) (hk : k ∈ ([2, 4, 8, 30] : List Int)) : (bits .and .i64 (k / 2 ^ kind.toNat) 1 == 0) = !isForK k kind := by
  have hc : kind = 1 ∨ kind = 2 ∨ kind = 3 ∨ kind = 4 := by omega
  simp only [List.mem_cons, List.not_mem_nil, or_false] at hk
  rcases hc with rfl | rfl | rfl | rfl <;> rcases hk with rfl | rfl | rfl | rfl <;> decide +kernel
set_option maxRecDepth 100000 in
set_option maxHeartbeats 16000000 in
theorem KeysKinds_any (a kind : Int) (v : ByteArray) (hv : v.size ≤ 140737488355327) (w : World) (ht : Ca.TabM w) :
    Calls Tryz.prog 8 #[.int .i64 a, .int .i64 kind, .string v] w fun e w' => e = .returned (.bool true) ∧ Below w.heap.size w w' := by
  obtain ⟨m, hbm, hml⟩ := and_lowK a 65535 (Nat.le_refl _)
  have hbm : bits .and .i64 a 65535 = (m : Int) := hbm
  obtain ⟨km, hkm⟩ : ∃ k, m % 42 = k := ⟨_, rfl⟩
  have hkl : km < 42 := by have := Nat.mod_lt m (show 0 < 42 by omega); omega
  have hk1 : (m : Int) % 42 = (km : Int) := by rw [← hkm]; simp
  have hk2 : (m : Int).tmod 42 = (km : Int) := by rw [Int.tmod_eq_emod_of_nonneg (by omega)]; exact hk1
  have hk0 : (0 : Int) ≤ (km : Int) := by omega
  have hk3 : (km : Int) < 42 := by omega
  have HT := Lib.hid ht
  clear ht hkm
  go_enter Tryz.func8, Tryz.ntmps8
  go_wp2_with fail
  refine (shown_any _).mono ?_
  rintro e1 w1 ⟨rfl, hb1⟩
  have HB1 := Lib.hid hb1
  clear hb1
  go_wp2_with fail
  refine (All_any _).mono ?_
  rintro e2 w2 ⟨vv, rfl, hk⟩
  have hb2 := hk.below
  obtain ⟨A, c, rfl, hkeys⟩ := hk.at_ (by decide +kernel)
  rw [allT_len] at hkeys ⊢
  obtain ⟨ad, r, x, rfl, hab, hx, hr, q0, q1, q2, q3, q4, q5⟩ := hkeys.at_ hkl
  have hxm : x ∈ allT := List.mem_of_getElem? hx
  obtain ⟨_, _, hxk, hxf⟩ := all_alike x hxm
  have hrk := hr.2.2.2.2.1
  have hrs := hr.1
  have hrn := hr.2.1
  have HB2 := Lib.hid (more3 HB1.out HB1.out.size hb2)
  have HR2 := Lib.hid hr
  obtain ⟨rs, rn, rf, rl, rk, rA, rm, rc⟩ := r
  dsimp only at hrs hrn hrk q0 q1 q2 q3 q4 q5
  subst hrs hrn hrk
  have HBL : Hid (Below w.heap.size w ((w2.alloc (.cells #[.string (str x.s), .string (str x.n), .int .i64 rf, .bool rl, .int .i64 x.k, .slice rA rm rc] 28)).alloc (.cells #[.string (str x.s), .string (str x.n), .string v, .int .i64 7] 44))) := (HB2.out.alloc HB2.out.size _).alloc (by have := HB2.out.size; simp; omega) _
  have HKL : Hid (Blk ((w2.alloc (.cells #[.string (str x.s), .string (str x.n), .int .i64 rf, .bool rl, .int .i64 x.k, .slice rA rm rc] 28)).alloc (.cells #[.string (str x.s), .string (str x.n), .string v, .int .i64 7] 44)) w2.heap.size 28 #[.string (str x.s), .string (str x.n), .int .i64 rf, .bool rl, .int .i64 x.k, .slice rA rm rc]) := (Blk.new w2 _ _).alloc _
  have HRL : Hid (Kr.is ((w2.alloc (.cells #[.string (str x.s), .string (str x.n), .int .i64 rf, .bool rl, .int .i64 x.k, .slice rA rm rc] 28)).alloc (.cells #[.string (str x.s), .string (str x.n), .string v, .int .i64 7] 44)) w2.heap.size ⟨x.s, x.n, rf, rl, x.k, rA, rm, rc⟩ x) := HR2.out.below (((Below.refl w2.heap.size w2).alloc (Nat.le_refl _) _).alloc (by simp) _)
  have HLL : Hid (LnsAt ((w2.alloc (.cells #[.string (str x.s), .string (str x.n), .int .i64 rf, .bool rl, .int .i64 x.k, .slice rA rm rc] 28)).alloc (.cells #[.string (str x.s), .string (str x.n), .string v, .int .i64 7] 44)) ((w2.alloc (.cells #[.string (str x.s), .string (str x.n), .int .i64 rf, .bool rl, .int .i64 x.k, .slice rA rm rc] 28)).alloc (.cells #[.string (str x.s), .string (str x.n), .string v, .int .i64 7] 44)).heap.size (some ⟨w2.heap.size + 1, 0, none⟩) 1 [lnK x v]) := by
    have := Blk.new (w2.alloc (.cells #[.string (str x.s), .string (str x.n), .int .i64 rf, .bool rl, .int .i64 x.k, .slice rA rm rc] 28)) 44 #[.string (str x.s), .string (str x.n), .string v, .int .i64 7]
    rw [World.size_alloc] at this
    exact LnsAt.of_blk this (by simp [lns, lnCells, lnK, str_data]) rfl (by decide)
  have HV : Hid (∀ y ∈ [lnK x v], ValueSays valueT y.s y.k (str y.v) w) := fun y hy => by
    obtain rfl := List.mem_singleton.1 hy
    exact says_all _ _ _ (by rw [show str (lnK x v).v = v from str_data v]; exact hv) w HT.out
  obtain ⟨⟨f1, f2⟩, hf⟩ : ∃ p, checkV valueT kind [lnK x v] = p := ⟨_, rfl⟩
  have HF := Lib.hid (check_flt hf)
  have HFV := Lib.hid hf
  have HVX := Lib.hid fun W hW hB => value_any x (find_f hxf).1 (find_f hxf).2 ⟨x.s, x.n, rf, rl, x.k, rA, rm, rc⟩ v hv w2.heap.size W hW hB
  have hz2 : w2.heap.size + 2 ≤ ((w2.alloc (.cells #[.string (str x.s), .string (str x.n), .int .i64 rf, .bool rl, .int .i64 x.k, .slice rA rm rc] 28)).alloc (.cells #[.string (str x.s), .string (str x.n), .string v, .int .i64 7] 44)).heap.size := by simp
  have HXM := Lib.hid hxm
  have HXK := Lib.hid hxk
  clear hb2 hk hkeys hr hx HB1 hf hxf hxm hxk
  go_wp2_with fail
  generalize (w2.alloc (.cells #[.string (str x.s), .string (str x.n), .int .i64 rf, .bool rl, .int .i64 x.k, .slice rA rm rc] 28)).alloc (.cells #[.string (str x.s), .string (str x.n), .string v, .int .i64 7] 44) = w3 at *
  refine (Check_of valueT kind (some ⟨w2.heap.size + 1, 0, none⟩) 1 1 w3.heap.size [lnK x v] w w3 HLL.out (Nat.le_refl _) HBL.out HV.out).mono ?_
  rintro e4 w4 ⟨rfl, hb4⟩
  rw [HF.out]
  have HB4 := Lib.hid (more3 HBL.out HBL.out.size hb4)
  have HK4 := Lib.hid ((HKL.out.below hb4 (by omega)).alloc (.cells #[.int .i64 f1, .int .i64 f2] 37))
  have HR4 := Lib.hid ((HRL.out.below (hb4.mono (by omega))).below ((Below.refl _ w4).alloc (Nat.le_refl _) (.cells #[.int .i64 f1, .int .i64 f2] 37) |>.mono (by have := hb4.size; omega)))
  have HB5 : Hid (Below w.heap.size w (w4.alloc (.cells #[.int .i64 f1, .int .i64 f2] 37))) := HB4.out.alloc HB4.out.size _
  have HF5 : Hid (Blk (w4.alloc (.cells #[.int .i64 f1, .int .i64 f2] 37)) w4.heap.size 37 (fltA f1 f2)) := Blk.new w4 _ _
  have hz4 : w2.heap.size ≤ (w4.alloc (.cells #[.int .i64 f1, .int .i64 f2] 37)).heap.size := by have := hb4.size; simp; omega
  clear hb4 HB4
  by_cases hlow : kind < 1
  · have HE : Hid (f1 = 10 ∧ f2 = 7) := by
      have := HFV.out
      rw [check_no HXM.out (forK_low hlow HXK.out)] at this
      injection this with h1 h2
      exact ⟨h1.symm, h2.symm⟩
    obtain ⟨h1, h2⟩ := HE.out
    subst h1 h2
    have hq := fun W => run_eql_fault W 10 7 10 7
    go_wp2_with fail
    go_ret
    exact ⟨rfl, HB5.out⟩
  · by_cases hhigh : 4 < kind
    · have HE : Hid (f1 = 10 ∧ f2 = 7) := by
        have := HFV.out
        rw [check_no HXM.out (forK_high hhigh HXK.out)] at this
        injection this with h1 h2
        exact ⟨h1.symm, h2.symm⟩
      obtain ⟨h1, h2⟩ := HE.out
      subst h1 h2
      have hlow' : (1 : Int) ≤ kind := by omega
      have hq := fun W => run_eql_fault W 10 7 10 7
      go_wp2_with fail
      go_ret
      exact ⟨rfl, HB5.out⟩
    · have hlow' : (1 : Int) ≤ kind := by omega
      have hhigh' : kind ≤ 4 := by omega
      have hlow0 : (0 : Int) ≤ kind := by omega
      have hsh := shift_for hlow' hhigh' HXK.out
      rcases hfk : isForK x.k kind with _ | _
      · rw [hfk] at hsh
        have hsh' : (bits .and .i64 (x.k / 2 ^ kind.toNat) 1 == 0) = true := hsh
        have HE : Hid (f1 = 10 ∧ f2 = 7) := by
          have := HFV.out
          rw [check_no HXM.out hfk] at this
          injection this with h1 h2
          exact ⟨h1.symm, h2.symm⟩
        obtain ⟨h1, h2⟩ := HE.out
        subst h1 h2
        have c4 : (w4.alloc (.cells #[.int .i64 10, .int .i64 7] 37)).cell? ⟨w2.heap.size, 4, none⟩ = some (.int .i64 x.k) := HK4.out.cell 4
        have hq := fun W => run_eql_fault W 10 7 10 7
        clear hsh
        go_wp2_with fail
        go_ret
        exact ⟨rfl, HB5.out⟩
      · rw [hfk] at hsh
        have hsh' : (bits .and .i64 (x.k / 2 ^ kind.toNat) 1 == 0) = false := hsh
        have HE : Hid ((f1, f2) = if valueT x v = 0 then (0, 0) else (valueT x v, 7)) := by
          show _ = _
          rw [← HFV.out]
          exact check_val HXM.out hfk v
        have c0 : (w4.alloc (.cells #[.int .i64 f1, .int .i64 f2] 37)).cell? ⟨w2.heap.size, 0, none⟩ = some (.string (str x.s)) := HK4.out.cell 0
        have c1 : (w4.alloc (.cells #[.int .i64 f1, .int .i64 f2] 37)).cell? ⟨w2.heap.size, 1, none⟩ = some (.string (str x.n)) := HK4.out.cell 1
        have c2 : (w4.alloc (.cells #[.int .i64 f1, .int .i64 f2] 37)).cell? ⟨w2.heap.size, 2, none⟩ = some (.int .i64 rf) := HK4.out.cell 2
        have c3 : (w4.alloc (.cells #[.int .i64 f1, .int .i64 f2] 37)).cell? ⟨w2.heap.size, 3, none⟩ = some (.bool rl) := HK4.out.cell 3
        have c4 : (w4.alloc (.cells #[.int .i64 f1, .int .i64 f2] 37)).cell? ⟨w2.heap.size, 4, none⟩ = some (.int .i64 x.k) := HK4.out.cell 4
        have c5 : (w4.alloc (.cells #[.int .i64 f1, .int .i64 f2] 37)).cell? ⟨w2.heap.size, 5, none⟩ = some (.slice rA rm rc) := HK4.out.cell 5
        have HVV := Lib.hid (HVX.out _ HR4.out hz4 (HT.out.below HB5.out))
        clear hsh
        go_wp2_with fail
        refine HVV.out.mono ?_
        rintro e6 w6 ⟨rfl, hb6⟩
        have HF6 := Lib.hid (HF5.out.below hb6 HF5.out.lt)
        have HB6 := Lib.hid (more3 HB5.out HB5.out.size hb6)
        have d0 : w6.cell? ⟨w4.heap.size, 0, none⟩ = some (.int .i64 f1) := HF6.out.cell 0
        have d1 : w6.cell? ⟨w4.heap.size, 1, none⟩ = some (.int .i64 f2) := HF6.out.cell 1
        clear hb6 c0 c1 c2 c3 c4 c5
        rcases value_two x v with h | h
        · have HE2 := HE.out
          rw [h, if_pos rfl] at HE2
          injection HE2 with h1 h2
          subst h1 h2
          rw [h]
          have hq := fun W => run_eql_fault W 0 0 0 0
          clear h HE HVV HVX
          go_wp2_with fail
          go_ret
          exact ⟨rfl, HB6.out⟩
        · have HE2 := HE.out
          rw [h, if_neg (by decide)] at HE2
          injection HE2 with h1 h2
          subst h1 h2
          rw [h]
          have hq := fun W => run_eql_fault W 12 7 12 7
          clear h HE HVV HVX
          go_wp2_with fail
          go_ret
          exact ⟨rfl, HB6.out⟩
end Go.Proofs.YtadifolonbkamaaGreatDoor
