/- The walk of the law KeysTable. -/
import Derived.Test.YtadifolonbkamaaGreatDoorKsP
import Derived.BigQuiet
import Derived.BigRegion
import Derived.Deep.RegionHeld3
import Derived.Laws.BitsAllLaws
import Derived.Laws.BitsLemmas
namespace Go.Proofs.YtadifolonbkamaaGreatDoor
open Go.RowKit

theorem and_low (a : Int) (m : Nat) (hm : m ≤ 65535) : ∃ k : Nat, bits .and .i64 a (m : Int) = (k : Int) ∧ k ≤ m := by
  have hx : (BitVec.ofInt 64 (m : Int)).toNat = m := by
    rw [BitVec.ofInt_natCast, BitVec.toNat_ofNat]; exact Nat.mod_eq_of_lt (by omega)
  refine ⟨(BitVec.ofInt 64 a).toNat &&& m, ?_, Nat.and_le_right⟩
  have hle : (BitVec.ofInt 64 a).toNat &&& m ≤ m := Nat.and_le_right
  show IntKind.i64.wrap ((BitVec.ofInt 64 a &&& BitVec.ofInt 64 (m : Int)).toNat : Int) = _
  rw [BitVec.toNat_and, hx, IntKind.wrap_i64]
  omega
theorem Kr.is.drewN {w : World} {B : Nat} {r : Kr} {x : Ky} (h : r.is w B x) (j : Nat) : r.is (w.drewN j) B x := h.below (below_drewN (Below.refl _ _) j)
theorem Find_got (s n : List UInt8) (x : Ky) (h : findT s n = some x) (X : World) : Calls Tryz.prog 13 #[.string (str s), .string (str n)] X (NamedP (some x) X) := by
  have := Find_any (str s) (str n) X
  rw [← h]
  exact this
theorem Find_none (s n : List UInt8) (h : findT s n = none) (X : World) : Calls Tryz.prog 13 #[.string (str s), .string (str n)] X (NamedP none X) := by
  have := Find_any (str s) (str n) X
  rw [← h]
  exact this
theorem all_found : ∀ x ∈ allT, findT x.s x.n = some x := by decide +kernel
theorem none_turned : ∀ x ∈ allT, findT x.n x.s = none := by decide +kernel
set_option maxRecDepth 100000 in
set_option maxHeartbeats 16000000 in
theorem KeysTable_any (s nm : ByteArray) (a : Int) (w : World) : Calls Tryz.prog 3 #[.string s, .string nm, .int .i64 a] w fun e w' => e = .returned (.bool true) ∧ Below w.heap.size w w' := by
  obtain ⟨m, hbm, hml⟩ := and_low a 65535 (Nat.le_refl _)
  have hbm : bits .and .i64 a 65535 = (m : Int) := hbm
  obtain ⟨km, hkm⟩ : ∃ k, m % 42 = k := ⟨_, rfl⟩
  have hkl : km < 42 := by have := Nat.mod_lt m (show 0 < 42 by omega); omega
  have hk1 : (m : Int) % 42 = (km : Int) := by rw [← hkm]; simp
  have hk2 : (m : Int).tmod 42 = (km : Int) := by rw [Int.tmod_eq_emod_of_nonneg (by omega)]; exact hk1
  have HFN := Lib.hid all_found
  have HNT := Lib.hid none_turned
  go_enter Tryz.func3, Tryz.ntmps3
  go_wp2_with fail
  refine (shown_any _).mono ?_
  rintro e1 w1 ⟨rfl, hb1⟩
  have HB1 := Lib.hid hb1
  clear hb1
  go_wp2_with fail
  refine (All_any _).mono ?_
  rintro e2 w2 ⟨v, rfl, hk⟩
  have hb2 := hk.below
  obtain ⟨A, c, rfl, hkeys⟩ := hk.at_ (by decide +kernel)
  rw [allT_len] at hkeys ⊢
  have HB2 := Lib.hid (more3 HB1.out HB1.out.size hb2)
  have HA2 := Lib.hid hkeys
  clear hb2 hk hkeys
  go_wp2_with fail
  refine (Keys_any _).mono ?_
  rintro e3 w3 ⟨v, rfl, hk⟩
  have hb3 := hk.below
  obtain ⟨A', c', rfl, hkeys⟩ := hk.at_ (by decide +kernel)
  rw [allT_len] at hkeys ⊢
  have HB3 := Lib.hid (more3 HB2.out HB2.out.size hb3)
  have HA := Lib.hid ((HA2.out.below hb3).wide hb3.size)
  have HD := Lib.hid hkeys
  clear hb3 hk hkeys HA2 HB2 HB1
  generalize allT = al at *
  go_wp2_with fail
  go_loopw [30] (fun i wr => ∃ k : Nat, k ≤ 42 ∧ i = .int .i64 k ∧ Hid (Below w3.heap.size w3 wr)) (fun i wr => 42 - (intOf i).toNat)
  case atStart => exact ⟨0, Nat.zero_le _, rfl, Below.refl _ _⟩
  case round =>
    obtain ⟨k, hk, rfl, hb⟩ := hrel
    have hbs : w3.heap.size ≤ wr.heap.size := hb.out.size
    by_cases hlt : k < 42
    · have b0 : (0 : Int) ≤ (k : Int) := by omega
      have b1 : (k : Int) < (42 : Int) := by omega
      obtain ⟨ad, r1, x, rfl, hab, hx, hr1, q0, q1, q2, q3, q4, q5⟩ := (HA.out.below hb.out).at_ hlt
      obtain ⟨ad', r2, x', rfl, hab', hx', hr2, p0, p1, p2, p3, p4, p5⟩ := (HD.out.below hb.out).at_ hlt
      have hxl := hx'
      rw [hx] at hx'
      obtain rfl : x = x' := Option.some.inj hx'
      have hxf := HFN.out x (List.mem_of_getElem? hx)
      have HC := Lib.hid fun j => SameKey_same r1 r2 x w3.heap.size w3.heap.size (wr.drewN j) (hr1.drewN j) (hr2.drewN j) hbs hbs
      unfold krA at HC
      clear hr1 hr2 hx'
      go_wp2_with fail
      go_region_with (go_at_call 12; refine (HC.out 1).mono ?_; rintro e4 w4 ⟨rfl, hb4⟩)
      all_goals
        have HB4 : Hid (Below w3.heap.size w3 w4) := more3 (below_drewN hb.out 1) hbs hb4
        have hs4 : w3.heap.size ≤ w4.heap.size := HB4.out.size
        clear hb4 HC hx q0 q1 q2 q3 q4 q5 p0 p1 p2 p3 p4 p5
        obtain ⟨ad2, r2b, x2, hade, hab2, hx2, hr2b, p0, p1, p2, p3, p4, p5⟩ := (HD.out.below HB4.out).at_ hlt
        obtain rfl : ad' = ad2 := Option.some.inj hade
        rw [hxl] at hx2
        obtain rfl : x = x2 := Option.some.inj hx2
        have hfn : findT r2b.s r2b.n = some x := by rw [hr2b.1, hr2b.2.1]; exact hxf
        have HFI := Lib.hid (Find_got r2b.s r2b.n x hfn)
        clear hr2b hxf hx2 hade hfn
        go_wp2_with fail
        try simp only [Act.put, List.getElem_toArray, List.getElem_cons_zero, List.getElem_cons_succ, List.setIfInBounds_toArray, List.set_cons_zero, List.set_cons_succ]
        refine wp_region_held_drew (S := fun W => Below w4.heap.size w4 W) (by kernel_rfl) ?_ (fun hHeld => ?_)
        · exact below_drewN (Below.refl _ _) 1
        refine wpAnyH_take (i := 0) (v := ?v0) rfl (by kernel_rfl) (by kernel_rfl) (by kernel_rfl) (fun _ _ _ h => h) (Or.inl ⟨by rfl, ?hy0⟩) (by assumption) ?_
        case hy0 => (intro W hSw; (try dsimp only at hSw); go_simp; (try with_reducible rfl))
        try simp only [Act.put, List.getElem_toArray, List.getElem_cons_zero, List.setIfInBounds_toArray, List.set_cons_zero, List.set_cons_succ]
        refine wpAnyH_take (i := 1) (v := ?v1) rfl (by kernel_rfl) (by kernel_rfl) (by kernel_rfl) (fun _ _ _ h => h) (Or.inl ⟨by rfl, ?hy1⟩) (by assumption) ?_
        case hy1 => (intro W hSw; (try dsimp only at hSw); go_simp; (try with_reducible rfl))
        try simp only [Act.put, List.getElem_toArray, List.getElem_cons_zero, List.getElem_cons_succ, List.setIfInBounds_toArray, List.set_cons_zero, List.set_cons_succ]
        refine wpAnyH_take (i := 2) (v := ?v2) rfl (by kernel_rfl) (by kernel_rfl) (by kernel_rfl) (fun _ _ _ h => h) (Or.inl ⟨by rfl, ?hy2⟩) (by assumption) ?_
        case hy2 => (intro W hSw; (try dsimp only at hSw); go_simp; (try with_reducible rfl))
        try simp only [Act.put, List.getElem_toArray, List.getElem_cons_zero, List.getElem_cons_succ, List.setIfInBounds_toArray, List.set_cons_zero, List.set_cons_succ]
        refine wpAnyH_take (i := 3) (v := ?v3) rfl (by kernel_rfl) (by kernel_rfl) (by kernel_rfl) (fun _ _ _ h => h) (Or.inl ⟨by rfl, ?hy3⟩) (by assumption) ?_
        case hy3 => (intro W hSw; (try dsimp only at hSw); go_simp; (try with_reducible rfl))
        try simp only [Act.put, List.getElem_toArray, List.getElem_cons_zero, List.getElem_cons_succ, List.setIfInBounds_toArray, List.set_cons_zero, List.set_cons_succ]
        refine wpAnyH_take (i := 4) (v := .string (str r2b.s)) rfl (by kernel_rfl) (by kernel_rfl) (by kernel_rfl) (fun _ _ _ h => h) (Or.inl ⟨by rfl, ?hy4⟩) (by assumption) ?_
        case hy4 => (intro W hSw; (try dsimp only at hSw); have z0 := (hSw.cell (p := ad'.add (k * 6)) (by rw [block_addR]; omega)).trans p0; go_simp; (try with_reducible rfl))
        try simp only [Act.put, List.getElem_toArray, List.getElem_cons_zero, List.getElem_cons_succ, List.setIfInBounds_toArray, List.set_cons_zero, List.set_cons_succ]
        refine wpAnyH_take (i := 5) (v := ?v5) rfl (by kernel_rfl) (by kernel_rfl) (by kernel_rfl) (fun _ _ _ h => h) (Or.inl ⟨by rfl, ?hy5⟩) (by assumption) ?_
        case hy5 => (intro W hSw; (try dsimp only at hSw); go_simp; (try with_reducible rfl))
        try simp only [Act.put, List.getElem_toArray, List.getElem_cons_zero, List.getElem_cons_succ, List.setIfInBounds_toArray, List.set_cons_zero, List.set_cons_succ]
        refine wpAnyH_take (i := 6) (v := ?v6) rfl (by kernel_rfl) (by kernel_rfl) (by kernel_rfl) (fun _ _ _ h => h) (Or.inl ⟨by rfl, ?hy6⟩) (by assumption) ?_
        case hy6 => (intro W hSw; (try dsimp only at hSw); go_simp; (try with_reducible rfl))
        try simp only [Act.put, List.getElem_toArray, List.getElem_cons_zero, List.getElem_cons_succ, List.setIfInBounds_toArray, List.set_cons_zero, List.set_cons_succ]
        refine wpAnyH_take (i := 7) (v := ?v7) rfl (by kernel_rfl) (by kernel_rfl) (by kernel_rfl) (fun _ _ _ h => h) (Or.inl ⟨by rfl, ?hy7⟩) (by assumption) ?_
        case hy7 => (intro W hSw; (try dsimp only at hSw); go_simp; (try with_reducible rfl))
        try simp only [Act.put, List.getElem_toArray, List.getElem_cons_zero, List.getElem_cons_succ, List.setIfInBounds_toArray, List.set_cons_zero, List.set_cons_succ]
        refine wpAnyH_take (i := 8) (v := ?v8) rfl (by kernel_rfl) (by kernel_rfl) (by kernel_rfl) (fun _ _ _ h => h) (Or.inl ⟨by rfl, ?hy8⟩) (by assumption) ?_
        case hy8 => (intro W hSw; (try dsimp only at hSw); go_simp; (try with_reducible rfl))
        try simp only [Act.put, List.getElem_toArray, List.getElem_cons_zero, List.getElem_cons_succ, List.setIfInBounds_toArray, List.set_cons_zero, List.set_cons_succ]
        refine wpAnyH_take (i := 9) (v := .string (str r2b.n)) rfl (by kernel_rfl) (by kernel_rfl) (by kernel_rfl) (fun _ _ _ h => h) (Or.inl ⟨by rfl, ?hy9⟩) (by assumption) ?_
        case hy9 => (intro W hSw; (try dsimp only at hSw); have z1 := (hSw.cell (p := ⟨(ad'.add (k * 6)).block, (ad'.add (k * 6)).off + 1, none⟩) (by show (ad'.add (k * 6)).block < _; rw [block_addR]; omega)).trans p1; go_simp; (try with_reducible rfl))
        try simp only [Act.put, List.getElem_toArray, List.getElem_cons_zero, List.getElem_cons_succ, List.setIfInBounds_toArray, List.set_cons_zero, List.set_cons_succ]
        refine wpAnyH_ready (rs := [10, 14]) (by kernel_rfl) (by simp) ?_
        refine AllReadyH.cons rfl (fun K hK => ?_) (AllReadyH.cons rfl (fun K hK => ?_) AllReadyH.nil)
        · go_simp
          refine (HFI.out _).mono ?_
          rintro e5 w5 ⟨r3, rfl, hr3, hb5⟩
          have HX := Lib.hid hr3
          have HBw := Lib.hid (more3 (below_drewN (Below.refl w4.heap.size w4) 1) (by simp) hb5)
          have hb5s := hb5.size
          clear hr3 hb5
          unfold krA
          rw [show (some x : Option Ky).isSome = true from rfl]
          refine hK.out _ _ HBw.out (fun hHeld2 => ?_)
          clear hK K hHeld
          try simp only [Act.put, List.getElem_toArray, List.getElem_cons_zero, List.getElem_cons_succ, List.setIfInBounds_toArray, List.set_cons_zero, List.set_cons_succ]
          refine wpAnyH_take (i := 11) (v := .tuple #[.agg #[.string (str r3.s), .string (str r3.n), .int .i64 r3.f, .bool r3.l, .int .i64 r3.k, .slice r3.A r3.m r3.c], .bool true]) rfl (by kernel_rfl) (by kernel_rfl) (by kernel_rfl) (fun _ _ _ h => h) (Or.inl ⟨by rfl, ?hya11⟩) HBw.out ?_
          case hya11 => (intro W hSw; (try dsimp only at hSw); go_simp; (try with_reducible rfl))
          try simp only [Act.put, List.getElem_toArray, List.getElem_cons_zero, List.getElem_cons_succ, List.setIfInBounds_toArray, List.set_cons_zero, List.set_cons_succ]
          refine wpAnyH_take (i := 12) (v := .agg #[.string (str r3.s), .string (str r3.n), .int .i64 r3.f, .bool r3.l, .int .i64 r3.k, .slice r3.A r3.m r3.c]) rfl (by kernel_rfl) (by kernel_rfl) (by kernel_rfl) (fun _ _ _ h => h) (Or.inl ⟨by rfl, ?hya12⟩) HBw.out ?_
          case hya12 => (intro W hSw; (try dsimp only at hSw); go_simp; (try with_reducible rfl))
          try simp only [Act.put, List.getElem_toArray, List.getElem_cons_zero, List.getElem_cons_succ, List.setIfInBounds_toArray, List.set_cons_zero, List.set_cons_succ]
          refine wpAnyH_take (i := 13) (v := .bool true) rfl (by kernel_rfl) (by kernel_rfl) (by kernel_rfl) (fun _ _ _ h => h) (Or.inl ⟨by rfl, ?hya13⟩) HBw.out ?_
          case hya13 => (intro W hSw; (try dsimp only at hSw); go_simp; (try with_reducible rfl))
          try simp only [Act.put, List.getElem_toArray, List.getElem_cons_zero, List.getElem_cons_succ, List.setIfInBounds_toArray, List.set_cons_zero, List.set_cons_succ]
          have HW6 : Hid (Below w4.heap.size w4 (w5.alloc (.cells #[.string ⟨#[]⟩, .string ⟨#[]⟩, .int .i64 0, .bool false, .int .i64 0, .slice none 0 0] 28))) := HBw.out.alloc HBw.out.size _
          have HZ : Hid (Blk (w5.alloc (.cells #[.string ⟨#[]⟩, .string ⟨#[]⟩, .int .i64 0, .bool false, .int .i64 0, .slice none 0 0] 28)) w5.heap.size 28 (krA noKr)) := Blk.new w5 _ _
          have HX5 : Hid (r3.is (w5.alloc (.cells #[.string ⟨#[]⟩, .string ⟨#[]⟩, .int .i64 0, .bool false, .int .i64 0, .slice none 0 0] 28)) (w5.alloc (.cells #[.string ⟨#[]⟩, .string ⟨#[]⟩, .int .i64 0, .bool false, .int .i64 0, .slice none 0 0] 28)).heap.size x) := (HX.out.below ((Below.refl _ _).alloc (Nat.le_refl _) _)).wide (by simp)
          have hb4w5 : w4.heap.size ≤ w5.heap.size := HBw.out.size
          refine wpAnyH_ready (rs := [14]) (by kernel_rfl) (by simp) ?_
          refine AllReadyH.cons rfl (fun K hK => ?_) AllReadyH.nil
          go_simp
          refine hK.out _ _ HW6.out (fun hHeld3 => ?_)
          clear hK K hHeld2
          try simp only [Act.put, List.getElem_toArray, List.getElem_cons_zero, List.getElem_cons_succ, List.setIfInBounds_toArray, List.set_cons_zero, List.set_cons_succ]
          have HBw2 : Hid (Below w4.heap.size w4 ((w5.alloc (.cells #[.string ⟨#[]⟩, .string ⟨#[]⟩, .int .i64 0, .bool false, .int .i64 0, .slice none 0 0] 28)).setRow (w5.heap.size) (krA r3))) := below_setRow HW6.out (by omega) _
          have HK6 : Hid (Blk ((w5.alloc (.cells #[.string ⟨#[]⟩, .string ⟨#[]⟩, .int .i64 0, .bool false, .int .i64 0, .slice none 0 0] 28)).setRow (w5.heap.size) (krA r3)) (w5.heap.size) 28 (krA r3)) := Blk.row HZ.out _
          have HX6 : Hid (r3.is ((w5.alloc (.cells #[.string ⟨#[]⟩, .string ⟨#[]⟩, .int .i64 0, .bool false, .int .i64 0, .slice none 0 0] 28)).setRow (w5.heap.size) (krA r3)) ((w5.alloc (.cells #[.string ⟨#[]⟩, .string ⟨#[]⟩, .int .i64 0, .bool false, .int .i64 0, .slice none 0 0] 28)).setRow (w5.heap.size) (krA r3)).heap.size x) := by show Kr.is _ _ _ _; rw [size_row]; exact (HX5.out.keep HZ.out (by decide) (heap_row_other _ _ _))
          refine wpAnyH_ready (rs := [15]) (by kernel_rfl) (by simp) ?_
          refine AllReadyH.cons rfl (fun K hK => ?_) AllReadyH.nil
          rw [if_pos (by rfl)]
          refine wp_store_row 28 (.tmp 10) (.tmp 55) (by rfl) (w5.heap.size) (krA r3) (by rfl) (by rfl) 28 (krA noKr) HZ.out (by kernel_rfl) rfl (krA_all _) ?_
          generalize (w5.alloc (.cells #[.string ⟨#[]⟩, .string ⟨#[]⟩, .int .i64 0, .bool false, .int .i64 0, .slice none 0 0] 28)).setRow (w5.heap.size) (krA r3) = w6 at *
          refine hK.out _ _ HBw2.out (fun hHeld9 => ?_)
          clear hK K
          try simp only [Act.put, List.getElem_toArray, List.getElem_cons_zero, List.getElem_cons_succ]
          refine wpAnyH_take (i := 16) (v := .bool true) rfl (by kernel_rfl) (by kernel_rfl) (by kernel_rfl) (fun _ _ _ h => h) (Or.inl ⟨by rfl, ?hyeA⟩) HBw2.out ?_
          case hyeA => (intro W hSw; (try dsimp only at hSw); go_simp; (try with_reducible rfl))
          try simp only [Act.put, List.getElem_toArray, List.getElem_cons_zero, List.getElem_cons_succ, List.setIfInBounds_toArray, List.set_cons_zero, List.set_cons_succ]
          refine wpAnyH_done (by kernel_rfl) ?_ _
          generalize w5.heap.size = bk at *
          have HB6 : Hid (Below w3.heap.size w3 w6) := HB4.out.trans (HBw2.out.mono hs4)
          clear p0 p1 p2 p3 p4 p5
          obtain ⟨ad3, r2c, x3, hade, hab3, hx3, hr2c, p0, p1, p2, p3, p4, p5⟩ := (HD.out.below HB6.out).at_ hlt
          obtain rfl : ad' = ad3 := Option.some.inj hade
          rw [hxl] at hx3
          obtain rfl : x = x3 := Option.some.inj hx3
          have k0 : w6.cell? ⟨bk, 0, none⟩ = some (.string (str r3.s)) := HK6.out.cell 0
          have k1 : w6.cell? ⟨bk, 1, none⟩ = some (.string (str r3.n)) := HK6.out.cell 1
          have k2 : w6.cell? ⟨bk, 2, none⟩ = some (.int .i64 r3.f) := HK6.out.cell 2
          have k3 : w6.cell? ⟨bk, 3, none⟩ = some (.bool r3.l) := HK6.out.cell 3
          have k4 : w6.cell? ⟨bk, 4, none⟩ = some (.int .i64 r3.k) := HK6.out.cell 4
          have k5 : w6.cell? ⟨bk, 5, none⟩ = some (.slice r3.A r3.m r3.c) := HK6.out.cell 5
          have HC6 := Lib.hid fun j => SameKey_same r3 r2c x w6.heap.size w3.heap.size (w6.drewN j) (HX6.out.drewN j) (hr2c.drewN j) (Nat.le_refl _) HB6.out.size
          unfold krA at HC6
          clear hr2c hx3 hade hxl
          go_wp2_with fail
          go_region_with (go_at_call 12; refine (HC6.out 1).mono ?_; rintro e7 w7 ⟨rfl, hb7⟩)
          all_goals
            go_wp2_with fail
            go_roundw
            case rel => exact ⟨k + 1, by omega, by go_num, more3 (below_drewN HB6.out 1) HB6.out.size hb7⟩
            case measure => simp [intOf]; omega
        · go_simp
          have HZ0 : Hid (Blk ((w4.alloc (.cells #[.string ⟨#[]⟩, .string ⟨#[]⟩, .int .i64 0, .bool false, .int .i64 0, .slice none 0 0] 28)).drew) w4.heap.size 28 (krA noKr)) := (Blk.new w4 _ _).drew
          have HS0 : Hid (Below w4.heap.size w4 ((w4.alloc (.cells #[.string ⟨#[]⟩, .string ⟨#[]⟩, .int .i64 0, .bool false, .int .i64 0, .slice none 0 0] 28)).drew)) := below_drewN ((Below.refl w4.heap.size w4).alloc (Nat.le_refl _) _) 1
          refine hK.out _ _ HS0.out (fun hHeld3 => ?_)
          clear hK K hHeld
          try simp only [Act.put, List.getElem_toArray, List.getElem_cons_zero, List.getElem_cons_succ, List.setIfInBounds_toArray, List.set_cons_zero, List.set_cons_succ]
          generalize ((w4.alloc (.cells #[.string ⟨#[]⟩, .string ⟨#[]⟩, .int .i64 0, .bool false, .int .i64 0, .slice none 0 0] 28)).drew) = w0 at *
          refine wpAnyH_ready (rs := [10]) (by kernel_rfl) (by simp) ?_
          refine AllReadyH.cons rfl (fun K hK => ?_) AllReadyH.nil
          go_simp
          refine (HFI.out _).mono ?_
          rintro e5 w5 ⟨r3, rfl, hr3, hb5⟩
          have HX5 := Lib.hid hr3
          have HW6 := Lib.hid (more3 HS0.out HS0.out.size hb5)
          have HZ := Lib.hid (HZ0.out.below hb5 HZ0.out.lt)
          clear hr3 hb5
          unfold krA
          rw [show (some x : Option Ky).isSome = true from rfl]
          refine hK.out _ _ HW6.out (fun hHeld2 => ?_)
          clear hK K hHeld3
          try simp only [Act.put, List.getElem_toArray, List.getElem_cons_zero, List.getElem_cons_succ, List.setIfInBounds_toArray, List.set_cons_zero, List.set_cons_succ]
          refine wpAnyH_take (i := 11) (v := .tuple #[.agg #[.string (str r3.s), .string (str r3.n), .int .i64 r3.f, .bool r3.l, .int .i64 r3.k, .slice r3.A r3.m r3.c], .bool true]) rfl (by kernel_rfl) (by kernel_rfl) (by kernel_rfl) (fun _ _ _ h => h) (Or.inl ⟨by rfl, ?hyb11⟩) HW6.out ?_
          case hyb11 => (intro W hSw; (try dsimp only at hSw); go_simp; (try with_reducible rfl))
          try simp only [Act.put, List.getElem_toArray, List.getElem_cons_zero, List.getElem_cons_succ, List.setIfInBounds_toArray, List.set_cons_zero, List.set_cons_succ]
          refine wpAnyH_take (i := 12) (v := .agg #[.string (str r3.s), .string (str r3.n), .int .i64 r3.f, .bool r3.l, .int .i64 r3.k, .slice r3.A r3.m r3.c]) rfl (by kernel_rfl) (by kernel_rfl) (by kernel_rfl) (fun _ _ _ h => h) (Or.inl ⟨by rfl, ?hyb12⟩) HW6.out ?_
          case hyb12 => (intro W hSw; (try dsimp only at hSw); go_simp; (try with_reducible rfl))
          try simp only [Act.put, List.getElem_toArray, List.getElem_cons_zero, List.getElem_cons_succ, List.setIfInBounds_toArray, List.set_cons_zero, List.set_cons_succ]
          refine wpAnyH_take (i := 13) (v := .bool true) rfl (by kernel_rfl) (by kernel_rfl) (by kernel_rfl) (fun _ _ _ h => h) (Or.inl ⟨by rfl, ?hyb13⟩) HW6.out ?_
          case hyb13 => (intro W hSw; (try dsimp only at hSw); go_simp; (try with_reducible rfl))
          try simp only [Act.put, List.getElem_toArray, List.getElem_cons_zero, List.getElem_cons_succ, List.setIfInBounds_toArray, List.set_cons_zero, List.set_cons_succ]
          have HBw2 : Hid (Below w4.heap.size w4 ((w5).setRow (w4.heap.size) (krA r3))) := below_setRow HW6.out (by omega) _
          have HK6 : Hid (Blk ((w5).setRow (w4.heap.size) (krA r3)) (w4.heap.size) 28 (krA r3)) := Blk.row HZ.out _
          have HX6 : Hid (r3.is ((w5).setRow (w4.heap.size) (krA r3)) ((w5).setRow (w4.heap.size) (krA r3)).heap.size x) := by show Kr.is _ _ _ _; rw [size_row]; exact (HX5.out.keep HZ.out (by decide) (heap_row_other _ _ _))
          refine wpAnyH_ready (rs := [15]) (by kernel_rfl) (by simp) ?_
          refine AllReadyH.cons rfl (fun K hK => ?_) AllReadyH.nil
          rw [if_pos (by rfl)]
          refine wp_store_row 28 (.tmp 10) (.tmp 55) (by rfl) (w4.heap.size) (krA r3) (by rfl) (by rfl) 28 (krA noKr) HZ.out (by kernel_rfl) rfl (krA_all _) ?_
          generalize (w5).setRow (w4.heap.size) (krA r3) = w6 at *
          refine hK.out _ _ HBw2.out (fun hHeld9 => ?_)
          clear hK K
          try simp only [Act.put, List.getElem_toArray, List.getElem_cons_zero, List.getElem_cons_succ]
          refine wpAnyH_take (i := 16) (v := .bool true) rfl (by kernel_rfl) (by kernel_rfl) (by kernel_rfl) (fun _ _ _ h => h) (Or.inl ⟨by rfl, ?hyeB⟩) HBw2.out ?_
          case hyeB => (intro W hSw; (try dsimp only at hSw); go_simp; (try with_reducible rfl))
          try simp only [Act.put, List.getElem_toArray, List.getElem_cons_zero, List.getElem_cons_succ, List.setIfInBounds_toArray, List.set_cons_zero, List.set_cons_succ]
          refine wpAnyH_done (by kernel_rfl) ?_ _
          generalize w4.heap.size = bk at *
          have HB6 : Hid (Below w3.heap.size w3 w6) := HB4.out.trans (HBw2.out.mono hs4)
          clear p0 p1 p2 p3 p4 p5
          obtain ⟨ad3, r2c, x3, hade, hab3, hx3, hr2c, p0, p1, p2, p3, p4, p5⟩ := (HD.out.below HB6.out).at_ hlt
          obtain rfl : ad' = ad3 := Option.some.inj hade
          rw [hxl] at hx3
          obtain rfl : x = x3 := Option.some.inj hx3
          have k0 : w6.cell? ⟨bk, 0, none⟩ = some (.string (str r3.s)) := HK6.out.cell 0
          have k1 : w6.cell? ⟨bk, 1, none⟩ = some (.string (str r3.n)) := HK6.out.cell 1
          have k2 : w6.cell? ⟨bk, 2, none⟩ = some (.int .i64 r3.f) := HK6.out.cell 2
          have k3 : w6.cell? ⟨bk, 3, none⟩ = some (.bool r3.l) := HK6.out.cell 3
          have k4 : w6.cell? ⟨bk, 4, none⟩ = some (.int .i64 r3.k) := HK6.out.cell 4
          have k5 : w6.cell? ⟨bk, 5, none⟩ = some (.slice r3.A r3.m r3.c) := HK6.out.cell 5
          have HC6 := Lib.hid fun j => SameKey_same r3 r2c x w6.heap.size w3.heap.size (w6.drewN j) (HX6.out.drewN j) (hr2c.drewN j) (Nat.le_refl _) HB6.out.size
          unfold krA at HC6
          clear hr2c hx3 hade hxl
          go_wp2_with fail
          go_region_with (go_at_call 12; refine (HC6.out 1).mono ?_; rintro e7 w7 ⟨rfl, hb7⟩)
          all_goals
            go_wp2_with fail
            go_roundw
            case rel => exact ⟨k + 1, by omega, by go_num, more3 (below_drewN HB6.out 1) HB6.out.size hb7⟩
            case measure => simp [intOf]; omega
    · obtain rfl : k = 42 := by omega
      have HBE := Lib.hid (more3 HB3.out HB3.out.size hb.out)
      have HDE := Lib.hid (HD.out.below hb.out)
      clear hb
      go_wp2_with fail
      refine (Find_any s nm _).mono ?_
      rintro e4 w4 ⟨r4, rfl, hr4, hb4⟩
      have HB4 := Lib.hid (more3 HBE.out HBE.out.size hb4)
      have HX4 := Lib.hid hr4
      have HD4 := Lib.hid (HDE.out.below (hb4.mono hbs))
      have hs4 := Nat.le_trans hbs hb4.size
      clear hb4 hr4
      unfold krA
      have A4 : Hid (Below w.heap.size w (w4.alloc (.cells #[.string (str r4.s), .string (str r4.n), .int .i64 r4.f, .bool r4.l, .int .i64 r4.k, .slice r4.A r4.m r4.c] 28))) := HB4.out.alloc HB4.out.size _
      have K4 : Hid (Blk (w4.alloc (.cells #[.string (str r4.s), .string (str r4.n), .int .i64 r4.f, .bool r4.l, .int .i64 r4.k, .slice r4.A r4.m r4.c] 28)) w4.heap.size 28 (krA r4)) := Blk.new w4 _ _
      have HX4' : Hid (r4.is (w4.alloc (.cells #[.string (str r4.s), .string (str r4.n), .int .i64 r4.f, .bool r4.l, .int .i64 r4.k, .slice r4.A r4.m r4.c] 28)) w4.heap.size ((findT s.data.toList nm.data.toList).getD noKy)) := HX4.out.below ((Below.refl _ _).alloc (Nat.le_refl _) _)
      have HD4' : Hid (KysAt (w4.alloc (.cells #[.string (str r4.s), .string (str r4.n), .int .i64 r4.f, .bool r4.l, .int .i64 r4.k, .slice r4.A r4.m r4.c] 28)) w3.heap.size A' 42 al) := HD4.out.below (((Below.refl w4.heap.size w4).alloc (Nat.le_refl _) _).mono hs4)
      clear HX4 HD4 HB4
      go_wp2_with fail
      generalize hw4 : (w4.alloc (.cells #[.string (str r4.s), .string (str r4.n), .int .i64 r4.f, .bool r4.l, .int .i64 r4.k, .slice r4.A r4.m r4.c] 28)) = y4 at *
      have hz4 : y4.heap.size = w4.heap.size + 1 := by rw [← hw4]; simp
      clear hw4
      refine (rFind_any s nm _).mono ?_
      rintro e5 w5 ⟨r5, rfl, hr5, hb5⟩
      have HB5 := Lib.hid (more3 A4.out A4.out.size hb5)
      have K5 := Lib.hid (K4.out.below hb5 K4.out.lt)
      have X4 := Lib.hid (HX4'.out.below (hb5.mono (by omega)))
      have X5 := Lib.hid hr5
      have D5 := Lib.hid (HD4'.out.below (hb5.mono (by omega)))
      have hs5 : w3.heap.size ≤ w5.heap.size := by have := hb5.size; omega
      have hs45 : w4.heap.size ≤ w5.heap.size := by have := hb5.size; omega
      clear hb5 hr5 A4 K4 HX4' HD4' hz4
      unfold krA
      have B6 : Hid (Below w.heap.size w (w5.alloc (.cells #[.string (str r5.s), .string (str r5.n), .int .i64 r5.f, .bool r5.l, .int .i64 r5.k, .slice r5.A r5.m r5.c] 28))) := HB5.out.alloc HB5.out.size _
      have K6 : Hid (Blk (w5.alloc (.cells #[.string (str r5.s), .string (str r5.n), .int .i64 r5.f, .bool r5.l, .int .i64 r5.k, .slice r5.A r5.m r5.c] 28)) w4.heap.size 28 (krA r4)) := K5.out.alloc _
      have K6b : Hid (Blk (w5.alloc (.cells #[.string (str r5.s), .string (str r5.n), .int .i64 r5.f, .bool r5.l, .int .i64 r5.k, .slice r5.A r5.m r5.c] 28)) w5.heap.size 28 (krA r5)) := Blk.new w5 _ _
      have X46 : Hid (r4.is (w5.alloc (.cells #[.string (str r5.s), .string (str r5.n), .int .i64 r5.f, .bool r5.l, .int .i64 r5.k, .slice r5.A r5.m r5.c] 28)) w4.heap.size ((findT s.data.toList nm.data.toList).getD noKy)) := X4.out.below (((Below.refl w5.heap.size w5).alloc (Nat.le_refl _) _).mono hs45)
      have X56 : Hid (r5.is (w5.alloc (.cells #[.string (str r5.s), .string (str r5.n), .int .i64 r5.f, .bool r5.l, .int .i64 r5.k, .slice r5.A r5.m r5.c] 28)) w5.heap.size ((findT s.data.toList nm.data.toList).getD noKy)) := X5.out.below ((Below.refl w5.heap.size w5).alloc (Nat.le_refl _) _)
      have D6 : Hid (KysAt (w5.alloc (.cells #[.string (str r5.s), .string (str r5.n), .int .i64 r5.f, .bool r5.l, .int .i64 r5.k, .slice r5.A r5.m r5.c] 28)) w3.heap.size A' 42 al) := D5.out.below (((Below.refl w5.heap.size w5).alloc (Nat.le_refl _) _).mono hs5)
      obtain ⟨ad, r6, x, hade, hab, hx, hr6, p0, p1, p2, p3, p4, p5⟩ := D6.out.at_ hkl
      subst hade
      have hxm : x ∈ al := List.mem_of_getElem? hx
      have hno := HNT.out x hxm
      have HFI := Lib.hid fun X => Find_none r6.n r6.s (by rw [hr6.1, hr6.2.1]; exact hno) X
      clear hx hxm hno hr6 X4 X5 D5 K5 HB5
      have HI1 := Lib.hid hbm
      have t0 : (0 : Int) ≤ (km : Int) := by omega
      have t1 : (km : Int) < (42 : Int) := by omega
      have B7 : Hid (Below w.heap.size w ((w5.alloc (.cells #[.string (str r5.s), .string (str r5.n), .int .i64 r5.f, .bool r5.l, .int .i64 r5.k, .slice r5.A r5.m r5.c] 28)).alloc (.cells #[.string (str r6.s), .string (str r6.n), .int .i64 r6.f, .bool r6.l, .int .i64 r6.k, .slice r6.A r6.m r6.c] 28))) := B6.out.alloc B6.out.size _
      have K7 : Hid (Blk ((w5.alloc (.cells #[.string (str r5.s), .string (str r5.n), .int .i64 r5.f, .bool r5.l, .int .i64 r5.k, .slice r5.A r5.m r5.c] 28)).alloc (.cells #[.string (str r6.s), .string (str r6.n), .int .i64 r6.f, .bool r6.l, .int .i64 r6.k, .slice r6.A r6.m r6.c] 28)) w4.heap.size 28 (krA r4)) := K6.out.alloc _
      have K7b : Hid (Blk ((w5.alloc (.cells #[.string (str r5.s), .string (str r5.n), .int .i64 r5.f, .bool r5.l, .int .i64 r5.k, .slice r5.A r5.m r5.c] 28)).alloc (.cells #[.string (str r6.s), .string (str r6.n), .int .i64 r6.f, .bool r6.l, .int .i64 r6.k, .slice r6.A r6.m r6.c] 28)) w5.heap.size 28 (krA r5)) := K6b.out.alloc _
      have X47 : Hid (r4.is ((w5.alloc (.cells #[.string (str r5.s), .string (str r5.n), .int .i64 r5.f, .bool r5.l, .int .i64 r5.k, .slice r5.A r5.m r5.c] 28)).alloc (.cells #[.string (str r6.s), .string (str r6.n), .int .i64 r6.f, .bool r6.l, .int .i64 r6.k, .slice r6.A r6.m r6.c] 28)) w4.heap.size ((findT s.data.toList nm.data.toList).getD noKy)) := X46.out.below (((Below.refl (w5.alloc (.cells #[.string (str r5.s), .string (str r5.n), .int .i64 r5.f, .bool r5.l, .int .i64 r5.k, .slice r5.A r5.m r5.c] 28)).heap.size (w5.alloc (.cells #[.string (str r5.s), .string (str r5.n), .int .i64 r5.f, .bool r5.l, .int .i64 r5.k, .slice r5.A r5.m r5.c] 28))).alloc (Nat.le_refl _) _).mono (by simp; omega))
      have X57 : Hid (r5.is ((w5.alloc (.cells #[.string (str r5.s), .string (str r5.n), .int .i64 r5.f, .bool r5.l, .int .i64 r5.k, .slice r5.A r5.m r5.c] 28)).alloc (.cells #[.string (str r6.s), .string (str r6.n), .int .i64 r6.f, .bool r6.l, .int .i64 r6.k, .slice r6.A r6.m r6.c] 28)) w5.heap.size ((findT s.data.toList nm.data.toList).getD noKy)) := X56.out.below (((Below.refl (w5.alloc (.cells #[.string (str r5.s), .string (str r5.n), .int .i64 r5.f, .bool r5.l, .int .i64 r5.k, .slice r5.A r5.m r5.c] 28)).heap.size (w5.alloc (.cells #[.string (str r5.s), .string (str r5.n), .int .i64 r5.f, .bool r5.l, .int .i64 r5.k, .slice r5.A r5.m r5.c] 28))).alloc (Nat.le_refl _) _).mono (by simp))
      clear D6 X46 X56 K6 K6b B6
      go_wp2_with fail
      generalize hy7 : (w5.alloc (.cells #[.string (str r5.s), .string (str r5.n), .int .i64 r5.f, .bool r5.l, .int .i64 r5.k, .slice r5.A r5.m r5.c] 28)).alloc (.cells #[.string (str r6.s), .string (str r6.n), .int .i64 r6.f, .bool r6.l, .int .i64 r6.k, .slice r6.A r6.m r6.c] 28) = y7 at *
      have hz7 : y7.heap.size = w5.heap.size + 1 + 1 := by rw [← hy7]; simp
      clear hy7
      refine (HFI.out _).mono ?_
      rintro e8 w8 ⟨r8, rfl, _, hb8⟩
      have B8 := Lib.hid (more3 B7.out B7.out.size hb8)
      have K8 := Lib.hid (K7.out.below hb8 K7.out.lt)
      have K8b := Lib.hid (K7b.out.below hb8 K7b.out.lt)
      have X48 := Lib.hid (X47.out.below (hb8.mono (by omega)))
      have X58 := Lib.hid (X57.out.below (hb8.mono (by omega)))
      have hs8 : w5.heap.size ≤ w8.heap.size := by have := hb8.size; omega
      clear hb8 B7 K7 K7b X47 X57 hz7 p0 p1 p2 p3 p4 p5
      unfold krA
      rw [show (none : Option Ky).isSome = false from rfl]
      have c0 : (w8.alloc (.cells #[.string (str r8.s), .string (str r8.n), .int .i64 r8.f, .bool r8.l, .int .i64 r8.k, .slice r8.A r8.m r8.c] 28)).cell? ⟨w4.heap.size, 0, none⟩ = some (.string (str r4.s)) := (K8.out.alloc _).cell 0
      have c1 : (w8.alloc (.cells #[.string (str r8.s), .string (str r8.n), .int .i64 r8.f, .bool r8.l, .int .i64 r8.k, .slice r8.A r8.m r8.c] 28)).cell? ⟨w4.heap.size, 1, none⟩ = some (.string (str r4.n)) := (K8.out.alloc _).cell 1
      have c2 : (w8.alloc (.cells #[.string (str r8.s), .string (str r8.n), .int .i64 r8.f, .bool r8.l, .int .i64 r8.k, .slice r8.A r8.m r8.c] 28)).cell? ⟨w4.heap.size, 2, none⟩ = some (.int .i64 r4.f) := (K8.out.alloc _).cell 2
      have c3 : (w8.alloc (.cells #[.string (str r8.s), .string (str r8.n), .int .i64 r8.f, .bool r8.l, .int .i64 r8.k, .slice r8.A r8.m r8.c] 28)).cell? ⟨w4.heap.size, 3, none⟩ = some (.bool r4.l) := (K8.out.alloc _).cell 3
      have c4 : (w8.alloc (.cells #[.string (str r8.s), .string (str r8.n), .int .i64 r8.f, .bool r8.l, .int .i64 r8.k, .slice r8.A r8.m r8.c] 28)).cell? ⟨w4.heap.size, 4, none⟩ = some (.int .i64 r4.k) := (K8.out.alloc _).cell 4
      have c5 : (w8.alloc (.cells #[.string (str r8.s), .string (str r8.n), .int .i64 r8.f, .bool r8.l, .int .i64 r8.k, .slice r8.A r8.m r8.c] 28)).cell? ⟨w4.heap.size, 5, none⟩ = some (.slice r4.A r4.m r4.c) := (K8.out.alloc _).cell 5
      have d0 : (w8.alloc (.cells #[.string (str r8.s), .string (str r8.n), .int .i64 r8.f, .bool r8.l, .int .i64 r8.k, .slice r8.A r8.m r8.c] 28)).cell? ⟨w5.heap.size, 0, none⟩ = some (.string (str r5.s)) := (K8b.out.alloc _).cell 0
      have d1 : (w8.alloc (.cells #[.string (str r8.s), .string (str r8.n), .int .i64 r8.f, .bool r8.l, .int .i64 r8.k, .slice r8.A r8.m r8.c] 28)).cell? ⟨w5.heap.size, 1, none⟩ = some (.string (str r5.n)) := (K8b.out.alloc _).cell 1
      have d2 : (w8.alloc (.cells #[.string (str r8.s), .string (str r8.n), .int .i64 r8.f, .bool r8.l, .int .i64 r8.k, .slice r8.A r8.m r8.c] 28)).cell? ⟨w5.heap.size, 2, none⟩ = some (.int .i64 r5.f) := (K8b.out.alloc _).cell 2
      have d3 : (w8.alloc (.cells #[.string (str r8.s), .string (str r8.n), .int .i64 r8.f, .bool r8.l, .int .i64 r8.k, .slice r8.A r8.m r8.c] 28)).cell? ⟨w5.heap.size, 3, none⟩ = some (.bool r5.l) := (K8b.out.alloc _).cell 3
      have d4 : (w8.alloc (.cells #[.string (str r8.s), .string (str r8.n), .int .i64 r8.f, .bool r8.l, .int .i64 r8.k, .slice r8.A r8.m r8.c] 28)).cell? ⟨w5.heap.size, 4, none⟩ = some (.int .i64 r5.k) := (K8b.out.alloc _).cell 4
      have d5 : (w8.alloc (.cells #[.string (str r8.s), .string (str r8.n), .int .i64 r8.f, .bool r8.l, .int .i64 r8.k, .slice r8.A r8.m r8.c] 28)).cell? ⟨w5.heap.size, 5, none⟩ = some (.slice r5.A r5.m r5.c) := (K8b.out.alloc _).cell 5
      have CE8 : w8.heap.size = w8.heap.size := rfl
      have HC8 : Hid (∀ W, Below w8.heap.size w8 W → Calls Tryz.prog 12 #[.agg #[.string (str r4.s), .string (str r4.n), .int .i64 r4.f, .bool r4.l, .int .i64 r4.k, .slice r4.A r4.m r4.c], .agg #[.string (str r5.s), .string (str r5.n), .int .i64 r5.f, .bool r5.l, .int .i64 r5.k, .slice r5.A r5.m r5.c]] W fun e w' => e = .returned (.bool true) ∧ Below W.heap.size W w') := fun W hW =>
        SameKey_same r4 r5 _ w4.heap.size w5.heap.size W (X48.out.below (hW.mono (by omega))) (X58.out.below (hW.mono hs8)) (by have := hW.size; omega) (by have := hW.size; omega)
      have HB8 := B8
      clear X48 X58 K8 K8b CE8
      generalize (findT s.data.toList nm.data.toList).isSome = ok at *
      have hok : (ok == ok) = true := by simp
      go_wp2_with (go_at_call 12; refine (HC8.out _ ((Below.refl w8.heap.size w8).alloc (Nat.le_refl _) _)).mono ?_; rintro e9 w9 ⟨rfl, hb9⟩)
      all_goals
        go_ret
        exact ⟨rfl, more3 (HB8.out.alloc HB8.out.size _) ((HB8.out.alloc HB8.out.size _).size) hb9⟩
end Go.Proofs.YtadifolonbkamaaGreatDoor
