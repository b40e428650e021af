/- The walk of GraphDefault. -/
import Derived.Test.YtcoepioahabbdaaGreatGwad
import Derived.Test.YtcoepioahabbdaaGreatGwac
import Derived.Test.YtcoepioahabbdaaGreatGybu
import Derived.Test.YtcoepioahabbdaaGreatGybq
import Derived.Test.YtcoepioahabbdaaGreatGybp
import Derived.Test.YtcoepioahabbdaaGreatGyay
import Derived.Test.YtcoepioahabbdaaGreatGyax
import Derived.Test.YtcoepioahabbdaaGreatGyaw
import Derived.Test.YtcoepioahabbdaaGreatGyav
import Derived.Test.YtcoepioahabbdaaGreatGyas
import Derived.Test.YtcoepioahabbdaaGreatGyar
import Derived.Test.YtcoepioahabbdaaGreatGyam
import Derived.Test.YtcoepioahabbdaaGreatGyae
import Derived.Test.YtcoepioahabbdaaGreatGyaa
import Derived.Test.YtcoepioahabbdaaGreatGyab
import Derived.Test.YtcoepioahabbdaaGreatGyad
import Derived.Test.YtcoepioahabbdaaGreatGyac
import Derived.Test.YtcoepioahabbdaaGreatGyaf
import Derived.Test.YtcoepioahabbdaaGreatGyag
import Derived.Test.YtcoepioahabbdaaGreatGyal
import Derived.Test.YtcoepioahabbdaaGreatGyak
import Derived.Test.YtcoepioahabbdaaGreatGyah
import Derived.Test.YtcoepioahabbdaaGreatGyai
import Derived.Test.YtcoepioahabbdaaGreatGyao
import Derived.Test.YtcoepioahabbdaaGreatGyan
import Derived.Test.YtcoepioahabbdaaGreatGyaq
import Derived.Test.YtcoepioahabbdaaGreatGyap
import Derived.Test.YtcoepioahabbdaaGreatGyau
import Derived.Test.YtcoepioahabbdaaGreatGybo
import Derived.Test.YtcoepioahabbdaaGreatGybi
import Derived.Test.YtcoepioahabbdaaGreatGybh
import Derived.Test.YtcoepioahabbdaaGreatGybg
import Derived.Test.YtcoepioahabbdaaGreatGybc
import Derived.Test.YtcoepioahabbdaaGreatGybb
import Derived.Test.YtcoepioahabbdaaGreatGyaz
import Derived.Test.YtcoepioahabbdaaGreatGyba
import Derived.Test.YtcoepioahabbdaaGreatGyat
import Derived.Test.YtcoepioahabbdaaGreatGybf
import Derived.Test.YtcoepioahabbdaaGreatGybe
import Derived.Test.YtcoepioahabbdaaGreatGybd
import Derived.Test.YtcoepioahabbdaaGreatGybm
import Derived.Test.YtcoepioahabbdaaGreatGybl
import Derived.Test.YtcoepioahabbdaaGreatGybj
import Derived.Test.YtcoepioahabbdaaGreatGybn
import Derived.Test.YtcoepioahabbdaaGreatGybk
import Derived.Test.YtcoepioahabbdaaGreatGybt
namespace Go.Proofs.YtcoepioahabbdaaGreat
open Go.RowKit
set_option maxRecDepth 10000 in
set_option maxHeartbeats 32000000 in
theorem GraphDefault_any (A : Option Addr) (n c B : Nat) (a : Int) (L : List LdR) (w : World) (hL : LdsAt w B A n L) (hB : B ≤ w.heap.size) (hS : ∀ r ∈ L, Small r.x) :
    Calls Tryz.prog 7 #[.slice A n c, .int .i64 a] w fun e w' => e = .returned (.bool true) ∧ Below w.heap.size w w' := by
  obtain ⟨m0, hm0, hm1⟩ := and_lowK a 65535 (Nat.le_refl _)
  have hm0 : bits .and .i64 a 65535 = (m0 : Int) := hm0
  have HL := Lib.hid hL
  have hLn := hL.row.1
  clear hL
  go_enter Tryz.func7, Tryz.ntmps7
  go_wp2_with fail
  refine (shown15_any _).mono ?_
  rintro e w1 ⟨rfl, hb1⟩
  have HB1 := Lib.hid hb1
  have HL1 := Lib.hid (HL.out.below (hb1.mono hB))
  have hs1 := hb1.size
  clear hb1 HL
  go_wp2_with fail
  refine (sound_any A n c B L w1 HL1.out (by omega) (fun r hr => (hS r hr).n)).mono ?_
  rintro e w2 ⟨r, rfl, hr, hb2⟩
  have HB2 := Lib.hid (more3 HB1.out hs1 hb2)
  have HL2 := Lib.hid (HL1.out.below (hb2.mono (by omega)))
  have hs2 := hb2.size
  have HR := Lib.hid hr
  clear hb2 hr HL1
  cases r with
  | false =>
    go_wp2_with fail
    go_ret
    exact ⟨rfl, HB2.out⟩
  | true =>
    by_cases hn64 : n ≤ 64
    case neg =>
      have z64 : (64 : Int) < (n : Int) := by omega
      go_wp2_with fail
      go_ret
      exact ⟨rfl, HB2.out⟩
    have z64 : decide ((64 : Int) < (n : Int)) = false := decide_eq_false (by omega)
    by_cases hn0 : n = 0
    · have z0 : ((n : Int) == 0) = true := by simp [hn0]
      have z1 : (n : Int) = 0 := by omega
      go_wp2_with fail
      go_ret
      exact ⟨rfl, HB2.out⟩
    have z0 : ((n : Int) == 0) = false := by simp [hn0]
    have z1 : ¬ (n : Int) = 0 := by omega
    have HSO : Hid (∀ r ∈ L, soundR r) := (HR.out.1 rfl).1
    obtain ⟨ix, hix⟩ : ∃ ix, m0 % n = ix := ⟨_, rfl⟩
    have hixn : ix < n := by rw [← hix]; exact Nat.mod_lt _ (by omega)
    have hrm : (m0 : Int).tmod (n : Int) = (ix : Int) := by rw [← hix]; exact (Int.ofNat_tmod m0 n).symm
    have hrm2 : (m0 : Int) % (n : Int) = (ix : Int) := by rw [← hix]; exact (Int.natCast_emod m0 n).symm
    have i0 : (0 : Int) ≤ (ix : Int) := by omega
    have i1 : (ix : Int) < (n : Int) := by omega
    obtain ⟨ad, x, rfl, hab, hx, hld⟩ := load_row HL2.out.row hixn
    have hxm : x ∈ L := List.mem_of_getElem? hx
    have HLD := Lib.hid (hld w2 (Below.refl _ _))
    have HX0 : Hid (WaS w (w2.alloc (.cells x.a 53)) B (some ad) n L w2.heap.size x) := ⟨HL2.out.below (((Below.refl _ w2).alloc (Nat.le_refl _) _).mono (by omega)), Blk.new _ _ _, by simp; omega, HB2.out.alloc (by omega) _⟩
    clear hld hx
    go_wp2_with (first
      | (refine wpList_load_part rfl 53 (.tmp 39) (by rfl) (ad.add (ix * 42)) (by rfl) (.agg x.a) HLD.out ?_)
      | (refine wpList_store_row rfl 53 (.tmp 5) (.tmp 40) (by rfl) w2.heap.size x.a (by rfl) (by rfl) 53 _ (by exact heap_alloc_new _ _) (infoL x) (by rw [x.size]; rfl) x.all ?_
         rw [heap_alloc_setRow])
      | fail)
    obtain ⟨xb, hxb⟩ : ∃ xb, w2.heap.size = xb := ⟨_, rfl⟩
    obtain ⟨wx, hwx⟩ : ∃ wx, w2.alloc (.cells x.a 53) = wx := ⟨_, rfl⟩
    rw [hwx, hxb] at HX0
    rw [hwx, hxb]
    have hix2 := HX0.out.lds.is x hxm
    have HNX := Lib.hid hix2.name
    have HTX := Lib.hid hix2.state
    have hxs := hS x hxm
    have hxu := hxs.un
    have hxn := hxs.n
    clear hwx hxb HLD HL2 HB2 HB1 hix2
    have HC0 : Hid (cntN (L.take 0) x.x.n = 0) := rfl
    go_loopw [6, 43] (fun v i wr => ∃ k m : Nat, k ≤ n ∧ v = .int .i64 m ∧ i = .int .i64 k ∧ Hid (cntN (L.take k) x.x.n = m) ∧ Hid (WaS w wr B (some ad) n L xb x)) (fun _ i wr => n - (intOf i).toNat)
    case atStart => exact ⟨0, 0, Nat.zero_le _, rfl, rfl, HC0, HX0⟩
    case round =>
      clear HX0 HC0
      obtain ⟨k, m, hk, rfl, rfl, HC, hX⟩ := hrel
      have hmk : m ≤ k := by rw [← HC.out]; exact cnt_le L _ k
      by_cases hlt : k < n
      · have b0 : (0 : Int) ≤ (k : Int) := by omega
        have b1 : (k : Int) < (n : Int) := by omega
        obtain ⟨ad', y, e, hab', hy, hld⟩ := load_row hX.out.lds.row hlt
        injection e with e
        subst e
        have hym : y ∈ L := List.mem_of_getElem? hy
        have HLD := Lib.hid (hld wr (Below.refl _ _))
        have hiy := hX.out.lds.is y hym
        have HCS := Lib.hid (cnt_succ hy x.x.n)
        have HXa : Hid (WaS w (wr.alloc (.cells y.a 53)) B (some ad) n L xb x) := hX.out.call ((Below.refl _ _).alloc (Nat.le_refl _) _)
        have HYa : Hid (Blk (wr.alloc (.cells y.a 53)) wr.heap.size 53 y.a) := Blk.new _ _ _
        have e0 : (wr.alloc (.cells y.a 53)).cell? ⟨xb, 0, none⟩ = some (.string (str x.x.n)) := box_cell HXa.out.k HNX.out
        have e1 : (wr.alloc (.cells y.a 53)).cell? ⟨wr.heap.size, 0, none⟩ = some (.string (str y.x.n)) := box_cell HYa.out hiy.name
        have hq := eqT_str y.x.n x.x.n
        have hwm : IntKind.i64.wrap ((m : Int) + 1) = (m : Int) + 1 := IntWalk.i64_in _ (by omega)
        clear hld hy hiy hX
        by_cases hyx : y.x.n = x.x.n
        · have HC1 : Hid (cntN (L.take (k + 1)) x.x.n = m + 1) := by show _ = _; rw [HCS.out, if_pos hyx, HC.out]
          rw [decide_eq_true hyx] at hq
          clear hyx HCS
          go_wp2_with (first
            | (refine wpList_load_part rfl 53 (.tmp 45) (by rfl) (ad.add (k * 42)) (by rfl) (.agg y.a) HLD.out ?_)
            | (refine wpList_store_row rfl 53 (.tmp 8) (.tmp 46) (by rfl) wr.heap.size y.a (by rfl) (by rfl) 53 _ (by exact heap_alloc_new _ _) (infoL y) (by rw [y.size]; rfl) y.all ?_
               rw [heap_alloc_setRow])
            | fail)
          go_roundw
          case rel => exact ⟨k + 1, m + 1, by omega, by go_num, by go_num, HC1, HXa⟩
          case measure => simp [intOf]; omega
        · have HC1 : Hid (cntN (L.take (k + 1)) x.x.n = m) := by show _ = _; rw [HCS.out, if_neg hyx, HC.out]; rfl
          rw [decide_eq_false hyx] at hq
          clear hyx HCS
          go_wp2_with (first
            | (refine wpList_load_part rfl 53 (.tmp 45) (by rfl) (ad.add (k * 42)) (by rfl) (.agg y.a) HLD.out ?_)
            | (refine wpList_store_row rfl 53 (.tmp 8) (.tmp 46) (by rfl) wr.heap.size y.a (by rfl) (by rfl) 53 _ (by exact heap_alloc_new _ _) (infoL y) (by rw [y.size]; rfl) y.all ?_
               rw [heap_alloc_setRow])
            | fail)
          go_roundw
          case rel => exact ⟨k + 1, m, by omega, rfl, by go_num, HC1, HXa⟩
          case measure => simp [intOf]; omega
      · obtain rfl : k = n := by omega
        have hsz : (str x.x.n).size ≤ maxLen := by rw [str_size]; exact hxn
        have HOF := Lib.hid (fun W => Nm.Of_any (str x.x.n) hsz W)
        have fl0 := fun W => Nm.fld0 (Nm.kindP (str x.x.n)) (Nm.preP (str x.x.n)) (Nm.instP (str x.x.n)) (Nm.atP (str x.x.n)) W
        have f0 := box_cell hX.out.k HNX.out
        go_wp2_with fail
        refine (HOF.out _).mono ?_
        rintro e w3 ⟨rfl, hb3⟩
        have HX3 := Lib.hid (hX.out.call hb3)
        clear hb3 hX HOF f0
        have f1 := box_cell HX3.out.k HTX.out
        obtain ⟨kd, hkd⟩ : ∃ kd, Nm.kindP (str x.x.n) = kd := ⟨_, rfl⟩
        have HKD : Hid (kT x.x.n = kd) := hkd
        rw [hkd]
        rw [hkd] at fl0
        clear hkd
        by_cases hm1 : m = 1
        case neg =>
          have hmb : ((m : Int) != 1) = true := by simp; omega
          have hmc : ¬ (m : Int) = 1 := by omega
          go_wp2_with fail
          go_ret
          exact ⟨rfl, HX3.out.below⟩
        have HM1 := Lib.hid hm1
        have hmb : ((m : Int) != 1) = false := by simp; omega
        have hmc : (m : Int) = 1 := by omega
        by_cases hs : x.x.s = 1
        case neg =>
          have hsb : (x.x.s != 1) = true := by simpa using hs
          clear hs
          go_wp2_with fail
          go_ret
          exact ⟨rfl, HX3.out.below⟩
        have HS1 := Lib.hid hs
        have hsb : (x.x.s != 1) = false := by simpa using hs
        clear hs
        by_cases hk0 : kd = 0
        · have hkb : (kd == 0) = true := by simpa using hk0
          clear hk0
          go_wp2_with fail
          go_ret
          exact ⟨rfl, HX3.out.below⟩
        have HK0 := Lib.hid hk0
        have hkb : (kd == 0) = false := by simpa using hk0
        clear hk0
        go_wp2_with fail
        clear f1 hmc hmb hm1 hsb hkb
        refine (oOf_any (some ad) k c B L w3 HX3.out.lds HX3.out.hB hS (by omega)).mono ?_
        rintro e w4 ⟨g1, rfl, hg1, hb4⟩
        have hok := ofE_ok (K := kT) (L.map (·.x))
        obtain ⟨ns, hns⟩ : ∃ ns, nodesL kT (L.map (·.x)) = ns := ⟨_, rfl⟩
        obtain ⟨es, hes⟩ : ∃ es, ofE kT (L.map (·.x)) = es := ⟨_, rfl⟩
        rw [hns, hes] at hg1 hok
        clear hns hes
        obtain ⟨NA, nc, EA, ec, rfl, _⟩ := hg1.form
        have hes := may_few hok.may
        have HOL : Hid (∀ u j, (outG es u j).length ≤ 40960) := fun u j => by have := outP_few es u j es.length; rw [outP_all] at this; omega
        have HOK := Lib.hid hok
        have HG4 : Hid (WgS w (w4.alloc (.cells #[.slice NA ns.length nc, .slice EA es.length ec] 29)) B (some ad) k L xb x w4.heap.size #[.slice NA ns.length nc, .slice EA es.length ec] ns es w4.heap.size) :=
          ⟨(HX3.out.call hb4).call ((Below.refl _ _).alloc (Nat.le_refl _) _), Blk.new _ _ _, hg1.below ((Below.refl _ _).alloc (Nat.le_refl _) _), by simp⟩
        have hfi : firstL' (L.map (·.x)) x.x.n = some x.x := by
          refine cnt_one hxm ?_
          have h1 := HC.out
          rw [List.take_of_length_le (by omega)] at h1
          rw [h1, HM1.out]
        have HFI := Lib.hid hfi
        have HLL : Hid ((L.map (·.x)).length ≤ 64) := by show _ ≤ _; rw [List.length_map]; omega
        have HXM : Hid (x.x ∈ L.map (·.x)) := List.mem_map.2 ⟨x, hxm, rfl⟩
        clear hok hg1 hb4 HX3 hfi
        have e0 := HG4.out.gk.cell 0
        have e1 := HG4.out.gk.cell 1
        go_wp2_with fail
        clear e0 e1
        obtain ⟨w5, hw5⟩ : ∃ w5, w4.alloc (.cells #[.slice NA ns.length nc, .slice EA es.length ec] 29) = w5 := ⟨_, rfl⟩
        obtain ⟨gb, hgb⟩ : ∃ gb, w4.heap.size = gb := ⟨_, rfl⟩
        rw [hw5, hgb] at HG4
        rw [hw5, hgb]
        clear hw5 hgb
        have HNT : Hid (str sysT = ⟨#[115, 121, 115, 105, 110, 105, 116, 46, 116, 97, 114, 103, 101, 116]⟩) := rfl
        have HNU : Hid (str shutT = ⟨#[115, 104, 117, 116, 100, 111, 119, 110, 46, 116, 97, 114, 103, 101, 116]⟩) := rfl
        have e0 := HG4.out.gk.cell 0
        have e1 := HG4.out.gk.cell 1
        have HND1 := Lib.hid (oNode15_any _ ns es sysT gb _ HG4.out.gr HG4.out.hgh)
        rw [nodeV_eq] at HND1
        obtain ⟨p1, hp1⟩ : ∃ p, nodeB ns sysT = p := ⟨_, rfl⟩
        obtain ⟨a1, ha1⟩ : ∃ a2, (nodeG ns sysT).getD noNd = a2 := ⟨_, rfl⟩
        rw [hp1, ha1, HNT.out] at HND1
        have HP1 := Lib.hid hp1
        clear hp1 ha1
        refine HND1.out.mono ?_
        rintro e wn1 ⟨rfl, hbn1⟩
        have hgn1 := HG4.out.call hbn1
        have HG6 := Lib.hid (hgn1.call ((Below.refl _ _).alloc (Nat.le_refl _) (.cells #[.string (str a1.n), .int .i64 a1.k, .int .i64 a1.s] 32)))
        clear hgn1 hbn1 HND1 HG4
        have e0 := HG6.out.gk.cell 0
        have e1 := HG6.out.gk.cell 1
        go_wp2_with fail
        clear e0 e1
        obtain ⟨w6, hw6⟩ : ∃ w6, wn1.alloc (.cells #[.string (str a1.n), .int .i64 a1.k, .int .i64 a1.s] 32) = w6 := ⟨_, rfl⟩
        rw [hw6] at HG6
        rw [hw6]
        clear hw6
        have HND2 := Lib.hid (oNode15_any _ ns es shutT gb _ HG6.out.gr HG6.out.hgh)
        rw [nodeV_eq] at HND2
        obtain ⟨p2, hp2⟩ : ∃ p, nodeB ns shutT = p := ⟨_, rfl⟩
        obtain ⟨a2, ha2⟩ : ∃ a2, (nodeG ns shutT).getD noNd = a2 := ⟨_, rfl⟩
        rw [hp2, ha2, HNU.out] at HND2
        have HP2 := Lib.hid hp2
        clear hp2 ha2
        refine HND2.out.mono ?_
        rintro e wn2 ⟨rfl, hbn2⟩
        have hgn2 := HG6.out.call hbn2
        have HG8 := Lib.hid (hgn2.call ((Below.refl _ _).alloc (Nat.le_refl _) (.cells #[.string (str a2.n), .int .i64 a2.k, .int .i64 a2.s] 32)))
        clear hgn2 hbn2 HND2 HG6
        have e0 := HG8.out.gk.cell 0
        have e1 := HG8.out.gk.cell 1
        have f0 := box_cell HG8.out.wa.k HNX.out
        go_wp2_with fail
        clear e0 e1 f0
        have HVT : Hid ((⟨#[115, 121, 115, 105, 110, 105, 116, 46, 116, 97, 114, 103, 101, 116]⟩ : ByteArray).data.toList = sysT) := rfl
        have HVU : Hid ((⟨#[115, 104, 117, 116, 100, 111, 119, 110, 46, 116, 97, 114, 103, 101, 116]⟩ : ByteArray).data.toList = shutT) := rfl
        obtain ⟨af, haf⟩ : ∃ af, decide (sysT ∈ outG es x.x.n 8) = af := ⟨_, rfl⟩
        obtain ⟨ne, hne⟩ : ∃ ne, decide (sysT ∈ outG es x.x.n 1) = ne := ⟨_, rfl⟩
        obtain ⟨co, hco⟩ : ∃ co, decide (shutT ∈ outG es x.x.n 6) = co := ⟨_, rfl⟩
        obtain ⟨be, hbe⟩ : ∃ be, decide (shutT ∈ outG es x.x.n 7) = be := ⟨_, rfl⟩
        have HAF := Lib.hid haf
        have HNE := Lib.hid hne
        have HCO := Lib.hid hco
        have HBE := Lib.hid hbe
        clear haf hne hco hbe
        refine (oOut_any _ ns es x.x.n 8 gb _ HG8.out.gr HG8.out.hgh (by omega)).mono ?_
        intro e wb1 hp
        obtain ⟨LD1, c1', rfl, hs1, hbo⟩ := put_row hp (by have := HOL.out x.x.n 8; unfold maxLen; omega)
        have HSL1 := Lib.hid hs1
        have HGa := Lib.hid (HG8.out.call hbo)
        clear hp hs1 hbo HG8
        go_wp2_with fail
        refine (Has_any LD1 _ c1' _ _ _ _ (txs_row.1 HSL1.out)).mono ?_
        rintro e we1 ⟨he, rfl⟩
        rw [has_of HVT.out, HAF.out] at he
        subst he
        have e0 := HGa.out.gk.cell 0
        have e1 := HGa.out.gk.cell 1
        have f0 := box_cell HGa.out.wa.k HNX.out
        go_wp2_with fail
        clear e0 e1 f0
        refine (oOut_any _ ns es x.x.n 1 gb _ HGa.out.gr HGa.out.hgh (by omega)).mono ?_
        intro e wb2 hp
        obtain ⟨LD2, c2', rfl, hs2, hbo⟩ := put_row hp (by have := HOL.out x.x.n 1; unfold maxLen; omega)
        have HSL2 := Lib.hid hs2
        have HGb := Lib.hid (HGa.out.call hbo)
        clear hp hs2 hbo HGa
        go_wp2_with fail
        refine (Has_any LD2 _ c2' _ _ _ _ (txs_row.1 HSL2.out)).mono ?_
        rintro e we2 ⟨he, rfl⟩
        rw [has_of HVT.out, HNE.out] at he
        subst he
        have e0 := HGb.out.gk.cell 0
        have e1 := HGb.out.gk.cell 1
        have f0 := box_cell HGb.out.wa.k HNX.out
        go_wp2_with fail
        clear e0 e1 f0
        refine (oOut_any _ ns es x.x.n 6 gb _ HGb.out.gr HGb.out.hgh (by omega)).mono ?_
        intro e wb3 hp
        obtain ⟨LD3, c3', rfl, hs3, hbo⟩ := put_row hp (by have := HOL.out x.x.n 6; unfold maxLen; omega)
        have HSL3 := Lib.hid hs3
        have HGc := Lib.hid (HGb.out.call hbo)
        clear hp hs3 hbo HGb
        go_wp2_with fail
        refine (Has_any LD3 _ c3' _ _ _ _ (txs_row.1 HSL3.out)).mono ?_
        rintro e we3 ⟨he, rfl⟩
        rw [has_of HVU.out, HCO.out] at he
        subst he
        cases co
        · have HGz := HGc
          clear HGc
          have hK0 : kT x.x.n ≠ 0 := by rw [HKD.out]; exact HK0.out
          by_cases hD : x.x.dflt = true ∧ kd ≠ 4
          · obtain ⟨hd, hk4⟩ := hD
            have hkr : kT x.x.n = 1 ∨ kT x.x.n = 2 ∨ kT x.x.n = 3 := by
              have h1 := kT_range x.x.n
              rw [HKD.out] at h1 ⊢
              have h2 := HK0.out
              omega
            have hne1 : x.x.n ≠ sysT := fun e => hk4 (by rw [← HKD.out, e]; exact kT_sys)
            have hne2 : x.x.n ≠ shutT := fun e => hk4 (by rw [← HKD.out, e]; exact kT_shut)
            have q1 := says_out HOK.out HLL.out HFI.out HXM.out hK0 HS1.out (.sysA hd hkr) hne1
            have q2 := says_out HOK.out HLL.out HFI.out HXM.out hK0 HS1.out (.shutC hd hkr) hne2
            have q3 := says_out HOK.out HLL.out HFI.out HXM.out hK0 HS1.out (.shutB hd hkr) hne2
            have q4 : kd = 1 → ne = p1 := fun e => by
              have := says_out HOK.out HLL.out HFI.out HXM.out hK0 HS1.out (.sysN hd (by rw [HKD.out]; exact e)) hne1
              rwa [HNE.out, HP1.out] at this
            rw [HAF.out, HP1.out] at q1
            rw [HCO.out, HP2.out] at q2
            rw [HBE.out, HP2.out] at q3
            have f8 := box_cell HGz.out.wa.k (HGz.out.wa.lds.is x hxm).dflt
            rw [hd] at f8
            have hkb : (kd == 4) = false := by simpa using hk4
            clear hkr hne1 hne2 hK0
            subst q1
            subst q2
            clear q3
            by_cases hk1 : kd = 1
            · have q5 := q4 hk1
              have hk1b : (kd != 1) = false := by rw [hk1]; rfl
              subst q5
              clear q4 hk1
              cases ne
              · go_wp2_with fail
                go_ret
                exact ⟨rfl, HGz.out.wa.below⟩
              · go_wp2_with fail
                go_ret
                exact ⟨rfl, HGz.out.wa.below⟩
            · have hk1b : (kd != 1) = true := by simpa using hk1
              clear q4 hk1
              cases af
              · go_wp2_with fail
                go_ret
                exact ⟨rfl, HGz.out.wa.below⟩
              · go_wp2_with fail
                go_ret
                exact ⟨rfl, HGz.out.wa.below⟩
          · have hq : x.x.dflt = false ∨ kT x.x.n = 4 := by
              rw [HKD.out]
              by_cases h1 : x.x.dflt = true
              · exact .inr (Classical.byContradiction fun h2 => hD ⟨h1, h2⟩)
              · exact .inl (by simpa using h1)
            have HQ := Lib.hid hq
            have hix := HGz.out.wa.lds.is x hxm
            have f8 := box_cell HGz.out.wa.k hix.dflt
            obtain ⟨R1, c1, h1, _, _, _⟩ := hix.rels
            obtain ⟨R2, c2, h2, _, _, _⟩ := hix.socks
            obtain ⟨R3, c3, h3, _, _, _⟩ := hix.reqs
            obtain ⟨R4, c4, h4, _, _, _⟩ := hix.wants
            obtain ⟨n1, hn1⟩ : ∃ n1, x.x.rels.length = n1 := ⟨_, rfl⟩
            obtain ⟨n2, hn2⟩ : ∃ n2, x.x.socks.length = n2 := ⟨_, rfl⟩
            obtain ⟨n3, hn3⟩ : ∃ n3, x.x.reqs.length = n3 := ⟨_, rfl⟩
            obtain ⟨n4, hn4⟩ : ∃ n4, x.x.wants.length = n4 := ⟨_, rfl⟩
            have hb1 := hxs.rows
            have hb2 := hxs.socks
            rw [hn1] at h1 hb1
            rw [hn2] at h2 hb2
            rw [hn3] at h3 hb1
            rw [hn4] at h4 hb1
            have f9 := box_cell HGz.out.wa.k h1
            have f25 := box_cell HGz.out.wa.k h2
            have f41 := box_cell HGz.out.wa.k h3
            have f40 := box_cell HGz.out.wa.k h4
            have hw1 : IntKind.i64.wrap ((n1 : Int) + (n2 : Int)) = (n1 : Int) + (n2 : Int) := IntWalk.i64_in _ (by omega)
            have hw2 : IntKind.i64.wrap ((n1 : Int) + (n2 : Int) + (n3 : Int)) = (n1 : Int) + (n2 : Int) + (n3 : Int) := IntWalk.i64_in _ (by omega)
            have hw3 : IntKind.i64.wrap ((n1 : Int) + (n2 : Int) + (n3 : Int) + (n4 : Int)) = (n1 : Int) + (n2 : Int) + (n3 : Int) + (n4 : Int) := IntWalk.i64_in _ (by omega)
            have HWL : Hid (∀ W, Calls Tryz.prog 26 #[.agg x.u] W fun e w' => e = .returned (.string (str x.x.wk)) ∧ Below W.heap.size W w') := fun W => wakes_ld hix hxu W
            have HN1 := Lib.hid hn1
            have HN2 := Lib.hid hn2
            have HN3 := Lib.hid hn3
            have HN4 := Lib.hid hn4
            have HLU := fun W (h : Blk W xb 53 x.a) => load_u (w := W) (b := xb) x (fun k v hv => box_cell h hv)
            have hqq : x.x.rels.length = 0 → x.x.wants.length = 0 → x.x.reqs.length = 0 → x.x.socks.length = 0 → x.x.wk = [] → ∀ t r, t ≠ [] → decide (t ∈ outG es x.x.n r) = false := fun i1 i2 i3 i4 i5 t r ht =>
              decide_eq_false (fun j => ht (says_quiet (edge_says HOK.out HFI.out j).1 (List.length_eq_zero_iff.1 i1) (List.length_eq_zero_iff.1 i2) (List.length_eq_zero_iff.1 i3) (List.length_eq_zero_iff.1 i4) i5 HQ.out))
            have HQQ := Lib.hid hqq
            have hkd4 : x.x.dflt = true → kd = 4 := fun h => by have h5 := HQ.out; rw [HKD.out, h] at h5; simpa using h5
            clear h1 h2 h3 h4 hix hq hqq hD hK0 hn1 hn2 hn3 hn4
            have hem := emT_str x.x.wk
            obtain ⟨d, hd⟩ : ∃ d, x.x.dflt = d := ⟨_, rfl⟩
            rw [hd] at f8 hkd4
            clear hd
            cases d
            · clear hkd4
              by_cases hz : (0 : Int) < (n1 : Int) + (n2 : Int) + (n3 : Int) + (n4 : Int)
              · go_wp2_with fail
                go_ret
                exact ⟨rfl, HGz.out.wa.below⟩
              · have HZ := Lib.hid hz
                have hzd : decide ((0 : Int) < (n1 : Int) + (n2 : Int) + (n3 : Int) + (n4 : Int)) = false := decide_eq_false hz
                clear hz
                go_wp2_with (first
                  | (refine wpList_load_partG (by rfl) 51 (.tmp 132) (by rfl) ⟨xb, 5, none⟩ (by rfl) (.agg x.u) (HLU _ HGz.out.wa.k) ?_)
                  | (refine wpList_load_partG (by rfl) 51 (.tmp 131) (by rfl) ⟨xb, 5, none⟩ (by rfl) (.agg x.u) (HLU _ HGz.out.wa.k) ?_)
                  | fail)
                refine (HWL.out _).mono ?_
                rintro e wv ⟨rfl, hbv⟩
                have HGy := Lib.hid (HGz.out.call hbv)
                clear hbv f8 f9 f25 f41 f40 hw1 hw2 hw3
                by_cases hwk : x.x.wk = []
                · have HWK := Lib.hid hwk
                  rw [decide_eq_true hwk] at hem
                  clear hwk
                  have i1 : n1 = 0 ∧ n2 = 0 ∧ n3 = 0 ∧ n4 = 0 := by have := HZ.out; omega
                  have hall := HQQ.out (HN1.out.trans i1.1) (HN4.out.trans i1.2.2.2) (HN3.out.trans i1.2.2.1) (HN2.out.trans i1.2.1) HWK.out
                  have q1 := hall sysT 8 (by decide)
                  have q2 := hall sysT 1 (by decide)
                  have q3 := hall shutT 6 (by decide)
                  rw [HAF.out] at q1
                  rw [HNE.out] at q2
                  rw [HCO.out] at q3
                  clear hall
                  subst q1
                  subst q2
                  go_wp2_with fail
                  go_ret
                  exact ⟨rfl, HGy.out.wa.below⟩
                · rw [decide_eq_false hwk] at hem
                  clear hwk
                  go_wp2_with fail
                  go_ret
                  exact ⟨rfl, HGy.out.wa.below⟩
            · have hkb : (kd == 4) = true := by rw [hkd4 rfl]; rfl
              clear hkd4
              by_cases hz : (0 : Int) < (n1 : Int) + (n2 : Int) + (n3 : Int) + (n4 : Int)
              · go_wp2_with fail
                go_ret
                exact ⟨rfl, HGz.out.wa.below⟩
              · have HZ := Lib.hid hz
                have hzd : decide ((0 : Int) < (n1 : Int) + (n2 : Int) + (n3 : Int) + (n4 : Int)) = false := decide_eq_false hz
                clear hz
                go_wp2_with (first
                  | (refine wpList_load_partG (by rfl) 51 (.tmp 132) (by rfl) ⟨xb, 5, none⟩ (by rfl) (.agg x.u) (HLU _ HGz.out.wa.k) ?_)
                  | (refine wpList_load_partG (by rfl) 51 (.tmp 131) (by rfl) ⟨xb, 5, none⟩ (by rfl) (.agg x.u) (HLU _ HGz.out.wa.k) ?_)
                  | fail)
                refine (HWL.out _).mono ?_
                rintro e wv ⟨rfl, hbv⟩
                have HGy := Lib.hid (HGz.out.call hbv)
                clear hbv f8 f9 f25 f41 f40 hw1 hw2 hw3
                by_cases hwk : x.x.wk = []
                · have HWK := Lib.hid hwk
                  rw [decide_eq_true hwk] at hem
                  clear hwk
                  have i1 : n1 = 0 ∧ n2 = 0 ∧ n3 = 0 ∧ n4 = 0 := by have := HZ.out; omega
                  have hall := HQQ.out (HN1.out.trans i1.1) (HN4.out.trans i1.2.2.2) (HN3.out.trans i1.2.2.1) (HN2.out.trans i1.2.1) HWK.out
                  have q1 := hall sysT 8 (by decide)
                  have q2 := hall sysT 1 (by decide)
                  have q3 := hall shutT 6 (by decide)
                  rw [HAF.out] at q1
                  rw [HNE.out] at q2
                  rw [HCO.out] at q3
                  clear hall
                  subst q1
                  subst q2
                  go_wp2_with fail
                  go_ret
                  exact ⟨rfl, HGy.out.wa.below⟩
                · rw [decide_eq_false hwk] at hem
                  clear hwk
                  go_wp2_with fail
                  go_ret
                  exact ⟨rfl, HGy.out.wa.below⟩
        · have e0 := HGc.out.gk.cell 0
          have e1 := HGc.out.gk.cell 1
          have f0 := box_cell HGc.out.wa.k HNX.out
          go_wp2_with fail
          clear e0 e1 f0
          refine (oOut_any _ ns es x.x.n 7 gb _ HGc.out.gr HGc.out.hgh (by omega)).mono ?_
          intro e wb4 hp
          obtain ⟨LD4, c4', rfl, hs4, hbo⟩ := put_row hp (by have := HOL.out x.x.n 7; unfold maxLen; omega)
          have HSL4 := Lib.hid hs4
          have HGd := Lib.hid (HGc.out.call hbo)
          clear hp hs4 hbo HGc
          go_wp2_with fail
          refine (Has_any LD4 _ c4' _ _ _ _ (txs_row.1 HSL4.out)).mono ?_
          rintro e we4 ⟨he, rfl⟩
          rw [has_of HVU.out, HBE.out] at he
          subst he
          cases be
          · have HGz := HGd
            clear HGd
            have hK0 : kT x.x.n ≠ 0 := by rw [HKD.out]; exact HK0.out
            by_cases hD : x.x.dflt = true ∧ kd ≠ 4
            · obtain ⟨hd, hk4⟩ := hD
              have hkr : kT x.x.n = 1 ∨ kT x.x.n = 2 ∨ kT x.x.n = 3 := by
                have h1 := kT_range x.x.n
                rw [HKD.out] at h1 ⊢
                have h2 := HK0.out
                omega
              have hne1 : x.x.n ≠ sysT := fun e => hk4 (by rw [← HKD.out, e]; exact kT_sys)
              have hne2 : x.x.n ≠ shutT := fun e => hk4 (by rw [← HKD.out, e]; exact kT_shut)
              have q1 := says_out HOK.out HLL.out HFI.out HXM.out hK0 HS1.out (.sysA hd hkr) hne1
              have q2 := says_out HOK.out HLL.out HFI.out HXM.out hK0 HS1.out (.shutC hd hkr) hne2
              have q3 := says_out HOK.out HLL.out HFI.out HXM.out hK0 HS1.out (.shutB hd hkr) hne2
              have q4 : kd = 1 → ne = p1 := fun e => by
                have := says_out HOK.out HLL.out HFI.out HXM.out hK0 HS1.out (.sysN hd (by rw [HKD.out]; exact e)) hne1
                rwa [HNE.out, HP1.out] at this
              rw [HAF.out, HP1.out] at q1
              rw [HCO.out, HP2.out] at q2
              rw [HBE.out, HP2.out] at q3
              have f8 := box_cell HGz.out.wa.k (HGz.out.wa.lds.is x hxm).dflt
              rw [hd] at f8
              have hkb : (kd == 4) = false := by simpa using hk4
              clear hkr hne1 hne2 hK0
              rw [← q2] at q3
              cases q3
            · have hq : x.x.dflt = false ∨ kT x.x.n = 4 := by
                rw [HKD.out]
                by_cases h1 : x.x.dflt = true
                · exact .inr (Classical.byContradiction fun h2 => hD ⟨h1, h2⟩)
                · exact .inl (by simpa using h1)
              have HQ := Lib.hid hq
              have hix := HGz.out.wa.lds.is x hxm
              have f8 := box_cell HGz.out.wa.k hix.dflt
              obtain ⟨R1, c1, h1, _, _, _⟩ := hix.rels
              obtain ⟨R2, c2, h2, _, _, _⟩ := hix.socks
              obtain ⟨R3, c3, h3, _, _, _⟩ := hix.reqs
              obtain ⟨R4, c4, h4, _, _, _⟩ := hix.wants
              obtain ⟨n1, hn1⟩ : ∃ n1, x.x.rels.length = n1 := ⟨_, rfl⟩
              obtain ⟨n2, hn2⟩ : ∃ n2, x.x.socks.length = n2 := ⟨_, rfl⟩
              obtain ⟨n3, hn3⟩ : ∃ n3, x.x.reqs.length = n3 := ⟨_, rfl⟩
              obtain ⟨n4, hn4⟩ : ∃ n4, x.x.wants.length = n4 := ⟨_, rfl⟩
              have hb1 := hxs.rows
              have hb2 := hxs.socks
              rw [hn1] at h1 hb1
              rw [hn2] at h2 hb2
              rw [hn3] at h3 hb1
              rw [hn4] at h4 hb1
              have f9 := box_cell HGz.out.wa.k h1
              have f25 := box_cell HGz.out.wa.k h2
              have f41 := box_cell HGz.out.wa.k h3
              have f40 := box_cell HGz.out.wa.k h4
              have hw1 : IntKind.i64.wrap ((n1 : Int) + (n2 : Int)) = (n1 : Int) + (n2 : Int) := IntWalk.i64_in _ (by omega)
              have hw2 : IntKind.i64.wrap ((n1 : Int) + (n2 : Int) + (n3 : Int)) = (n1 : Int) + (n2 : Int) + (n3 : Int) := IntWalk.i64_in _ (by omega)
              have hw3 : IntKind.i64.wrap ((n1 : Int) + (n2 : Int) + (n3 : Int) + (n4 : Int)) = (n1 : Int) + (n2 : Int) + (n3 : Int) + (n4 : Int) := IntWalk.i64_in _ (by omega)
              have HWL : Hid (∀ W, Calls Tryz.prog 26 #[.agg x.u] W fun e w' => e = .returned (.string (str x.x.wk)) ∧ Below W.heap.size W w') := fun W => wakes_ld hix hxu W
              have HN1 := Lib.hid hn1
              have HN2 := Lib.hid hn2
              have HN3 := Lib.hid hn3
              have HN4 := Lib.hid hn4
              have HLU := fun W (h : Blk W xb 53 x.a) => load_u (w := W) (b := xb) x (fun k v hv => box_cell h hv)
              have hqq : x.x.rels.length = 0 → x.x.wants.length = 0 → x.x.reqs.length = 0 → x.x.socks.length = 0 → x.x.wk = [] → ∀ t r, t ≠ [] → decide (t ∈ outG es x.x.n r) = false := fun i1 i2 i3 i4 i5 t r ht =>
                decide_eq_false (fun j => ht (says_quiet (edge_says HOK.out HFI.out j).1 (List.length_eq_zero_iff.1 i1) (List.length_eq_zero_iff.1 i2) (List.length_eq_zero_iff.1 i3) (List.length_eq_zero_iff.1 i4) i5 HQ.out))
              have HQQ := Lib.hid hqq
              have hkd4 : x.x.dflt = true → kd = 4 := fun h => by have h5 := HQ.out; rw [HKD.out, h] at h5; simpa using h5
              clear h1 h2 h3 h4 hix hq hqq hD hK0 hn1 hn2 hn3 hn4
              have hem := emT_str x.x.wk
              obtain ⟨d, hd⟩ : ∃ d, x.x.dflt = d := ⟨_, rfl⟩
              rw [hd] at f8 hkd4
              clear hd
              cases d
              · clear hkd4
                by_cases hz : (0 : Int) < (n1 : Int) + (n2 : Int) + (n3 : Int) + (n4 : Int)
                · go_wp2_with fail
                  go_ret
                  exact ⟨rfl, HGz.out.wa.below⟩
                · have HZ := Lib.hid hz
                  have hzd : decide ((0 : Int) < (n1 : Int) + (n2 : Int) + (n3 : Int) + (n4 : Int)) = false := decide_eq_false hz
                  clear hz
                  go_wp2_with (first
                    | (refine wpList_load_partG (by rfl) 51 (.tmp 132) (by rfl) ⟨xb, 5, none⟩ (by rfl) (.agg x.u) (HLU _ HGz.out.wa.k) ?_)
                    | (refine wpList_load_partG (by rfl) 51 (.tmp 131) (by rfl) ⟨xb, 5, none⟩ (by rfl) (.agg x.u) (HLU _ HGz.out.wa.k) ?_)
                    | fail)
                  refine (HWL.out _).mono ?_
                  rintro e wv ⟨rfl, hbv⟩
                  have HGy := Lib.hid (HGz.out.call hbv)
                  clear hbv f8 f9 f25 f41 f40 hw1 hw2 hw3
                  by_cases hwk : x.x.wk = []
                  · have HWK := Lib.hid hwk
                    rw [decide_eq_true hwk] at hem
                    clear hwk
                    have i1 : n1 = 0 ∧ n2 = 0 ∧ n3 = 0 ∧ n4 = 0 := by have := HZ.out; omega
                    have hall := HQQ.out (HN1.out.trans i1.1) (HN4.out.trans i1.2.2.2) (HN3.out.trans i1.2.2.1) (HN2.out.trans i1.2.1) HWK.out
                    have q1 := hall sysT 8 (by decide)
                    have q2 := hall sysT 1 (by decide)
                    have q3 := hall shutT 6 (by decide)
                    rw [HAF.out] at q1
                    rw [HNE.out] at q2
                    rw [HCO.out] at q3
                    clear hall
                    cases q3
                  · rw [decide_eq_false hwk] at hem
                    clear hwk
                    go_wp2_with fail
                    go_ret
                    exact ⟨rfl, HGy.out.wa.below⟩
              · have hkb : (kd == 4) = true := by rw [hkd4 rfl]; rfl
                clear hkd4
                by_cases hz : (0 : Int) < (n1 : Int) + (n2 : Int) + (n3 : Int) + (n4 : Int)
                · go_wp2_with fail
                  go_ret
                  exact ⟨rfl, HGz.out.wa.below⟩
                · have HZ := Lib.hid hz
                  have hzd : decide ((0 : Int) < (n1 : Int) + (n2 : Int) + (n3 : Int) + (n4 : Int)) = false := decide_eq_false hz
                  clear hz
                  go_wp2_with (first
                    | (refine wpList_load_partG (by rfl) 51 (.tmp 132) (by rfl) ⟨xb, 5, none⟩ (by rfl) (.agg x.u) (HLU _ HGz.out.wa.k) ?_)
                    | (refine wpList_load_partG (by rfl) 51 (.tmp 131) (by rfl) ⟨xb, 5, none⟩ (by rfl) (.agg x.u) (HLU _ HGz.out.wa.k) ?_)
                    | fail)
                  refine (HWL.out _).mono ?_
                  rintro e wv ⟨rfl, hbv⟩
                  have HGy := Lib.hid (HGz.out.call hbv)
                  clear hbv f8 f9 f25 f41 f40 hw1 hw2 hw3
                  by_cases hwk : x.x.wk = []
                  · have HWK := Lib.hid hwk
                    rw [decide_eq_true hwk] at hem
                    clear hwk
                    have i1 : n1 = 0 ∧ n2 = 0 ∧ n3 = 0 ∧ n4 = 0 := by have := HZ.out; omega
                    have hall := HQQ.out (HN1.out.trans i1.1) (HN4.out.trans i1.2.2.2) (HN3.out.trans i1.2.2.1) (HN2.out.trans i1.2.1) HWK.out
                    have q1 := hall sysT 8 (by decide)
                    have q2 := hall sysT 1 (by decide)
                    have q3 := hall shutT 6 (by decide)
                    rw [HAF.out] at q1
                    rw [HNE.out] at q2
                    rw [HCO.out] at q3
                    clear hall
                    cases q3
                  · rw [decide_eq_false hwk] at hem
                    clear hwk
                    go_wp2_with fail
                    go_ret
                    exact ⟨rfl, HGy.out.wa.below⟩
          · have HGz := HGd
            clear HGd
            have hK0 : kT x.x.n ≠ 0 := by rw [HKD.out]; exact HK0.out
            by_cases hD : x.x.dflt = true ∧ kd ≠ 4
            · obtain ⟨hd, hk4⟩ := hD
              have hkr : kT x.x.n = 1 ∨ kT x.x.n = 2 ∨ kT x.x.n = 3 := by
                have h1 := kT_range x.x.n
                rw [HKD.out] at h1 ⊢
                have h2 := HK0.out
                omega
              have hne1 : x.x.n ≠ sysT := fun e => hk4 (by rw [← HKD.out, e]; exact kT_sys)
              have hne2 : x.x.n ≠ shutT := fun e => hk4 (by rw [← HKD.out, e]; exact kT_shut)
              have q1 := says_out HOK.out HLL.out HFI.out HXM.out hK0 HS1.out (.sysA hd hkr) hne1
              have q2 := says_out HOK.out HLL.out HFI.out HXM.out hK0 HS1.out (.shutC hd hkr) hne2
              have q3 := says_out HOK.out HLL.out HFI.out HXM.out hK0 HS1.out (.shutB hd hkr) hne2
              have q4 : kd = 1 → ne = p1 := fun e => by
                have := says_out HOK.out HLL.out HFI.out HXM.out hK0 HS1.out (.sysN hd (by rw [HKD.out]; exact e)) hne1
                rwa [HNE.out, HP1.out] at this
              rw [HAF.out, HP1.out] at q1
              rw [HCO.out, HP2.out] at q2
              rw [HBE.out, HP2.out] at q3
              have f8 := box_cell HGz.out.wa.k (HGz.out.wa.lds.is x hxm).dflt
              rw [hd] at f8
              have hkb : (kd == 4) = false := by simpa using hk4
              clear hkr hne1 hne2 hK0
              subst q1
              subst q2
              clear q3
              by_cases hk1 : kd = 1
              · have q5 := q4 hk1
                have hk1b : (kd != 1) = false := by rw [hk1]; rfl
                subst q5
                clear q4 hk1
                cases ne
                · go_wp2_with fail
                  go_ret
                  exact ⟨rfl, HGz.out.wa.below⟩
                · go_wp2_with fail
                  go_ret
                  exact ⟨rfl, HGz.out.wa.below⟩
              · have hk1b : (kd != 1) = true := by simpa using hk1
                clear q4 hk1
                cases af
                · go_wp2_with fail
                  go_ret
                  exact ⟨rfl, HGz.out.wa.below⟩
                · go_wp2_with fail
                  go_ret
                  exact ⟨rfl, HGz.out.wa.below⟩
            · have hq : x.x.dflt = false ∨ kT x.x.n = 4 := by
                rw [HKD.out]
                by_cases h1 : x.x.dflt = true
                · exact .inr (Classical.byContradiction fun h2 => hD ⟨h1, h2⟩)
                · exact .inl (by simpa using h1)
              have HQ := Lib.hid hq
              have hix := HGz.out.wa.lds.is x hxm
              have f8 := box_cell HGz.out.wa.k hix.dflt
              obtain ⟨R1, c1, h1, _, _, _⟩ := hix.rels
              obtain ⟨R2, c2, h2, _, _, _⟩ := hix.socks
              obtain ⟨R3, c3, h3, _, _, _⟩ := hix.reqs
              obtain ⟨R4, c4, h4, _, _, _⟩ := hix.wants
              obtain ⟨n1, hn1⟩ : ∃ n1, x.x.rels.length = n1 := ⟨_, rfl⟩
              obtain ⟨n2, hn2⟩ : ∃ n2, x.x.socks.length = n2 := ⟨_, rfl⟩
              obtain ⟨n3, hn3⟩ : ∃ n3, x.x.reqs.length = n3 := ⟨_, rfl⟩
              obtain ⟨n4, hn4⟩ : ∃ n4, x.x.wants.length = n4 := ⟨_, rfl⟩
              have hb1 := hxs.rows
              have hb2 := hxs.socks
              rw [hn1] at h1 hb1
              rw [hn2] at h2 hb2
              rw [hn3] at h3 hb1
              rw [hn4] at h4 hb1
              have f9 := box_cell HGz.out.wa.k h1
              have f25 := box_cell HGz.out.wa.k h2
              have f41 := box_cell HGz.out.wa.k h3
              have f40 := box_cell HGz.out.wa.k h4
              have hw1 : IntKind.i64.wrap ((n1 : Int) + (n2 : Int)) = (n1 : Int) + (n2 : Int) := IntWalk.i64_in _ (by omega)
              have hw2 : IntKind.i64.wrap ((n1 : Int) + (n2 : Int) + (n3 : Int)) = (n1 : Int) + (n2 : Int) + (n3 : Int) := IntWalk.i64_in _ (by omega)
              have hw3 : IntKind.i64.wrap ((n1 : Int) + (n2 : Int) + (n3 : Int) + (n4 : Int)) = (n1 : Int) + (n2 : Int) + (n3 : Int) + (n4 : Int) := IntWalk.i64_in _ (by omega)
              have HWL : Hid (∀ W, Calls Tryz.prog 26 #[.agg x.u] W fun e w' => e = .returned (.string (str x.x.wk)) ∧ Below W.heap.size W w') := fun W => wakes_ld hix hxu W
              have HN1 := Lib.hid hn1
              have HN2 := Lib.hid hn2
              have HN3 := Lib.hid hn3
              have HN4 := Lib.hid hn4
              have HLU := fun W (h : Blk W xb 53 x.a) => load_u (w := W) (b := xb) x (fun k v hv => box_cell h hv)
              have hqq : x.x.rels.length = 0 → x.x.wants.length = 0 → x.x.reqs.length = 0 → x.x.socks.length = 0 → x.x.wk = [] → ∀ t r, t ≠ [] → decide (t ∈ outG es x.x.n r) = false := fun i1 i2 i3 i4 i5 t r ht =>
                decide_eq_false (fun j => ht (says_quiet (edge_says HOK.out HFI.out j).1 (List.length_eq_zero_iff.1 i1) (List.length_eq_zero_iff.1 i2) (List.length_eq_zero_iff.1 i3) (List.length_eq_zero_iff.1 i4) i5 HQ.out))
              have HQQ := Lib.hid hqq
              have hkd4 : x.x.dflt = true → kd = 4 := fun h => by have h5 := HQ.out; rw [HKD.out, h] at h5; simpa using h5
              clear h1 h2 h3 h4 hix hq hqq hD hK0 hn1 hn2 hn3 hn4
              have hem := emT_str x.x.wk
              obtain ⟨d, hd⟩ : ∃ d, x.x.dflt = d := ⟨_, rfl⟩
              rw [hd] at f8 hkd4
              clear hd
              cases d
              · clear hkd4
                by_cases hz : (0 : Int) < (n1 : Int) + (n2 : Int) + (n3 : Int) + (n4 : Int)
                · go_wp2_with fail
                  go_ret
                  exact ⟨rfl, HGz.out.wa.below⟩
                · have HZ := Lib.hid hz
                  have hzd : decide ((0 : Int) < (n1 : Int) + (n2 : Int) + (n3 : Int) + (n4 : Int)) = false := decide_eq_false hz
                  clear hz
                  go_wp2_with (first
                    | (refine wpList_load_partG (by rfl) 51 (.tmp 132) (by rfl) ⟨xb, 5, none⟩ (by rfl) (.agg x.u) (HLU _ HGz.out.wa.k) ?_)
                    | (refine wpList_load_partG (by rfl) 51 (.tmp 131) (by rfl) ⟨xb, 5, none⟩ (by rfl) (.agg x.u) (HLU _ HGz.out.wa.k) ?_)
                    | fail)
                  refine (HWL.out _).mono ?_
                  rintro e wv ⟨rfl, hbv⟩
                  have HGy := Lib.hid (HGz.out.call hbv)
                  clear hbv f8 f9 f25 f41 f40 hw1 hw2 hw3
                  by_cases hwk : x.x.wk = []
                  · have HWK := Lib.hid hwk
                    rw [decide_eq_true hwk] at hem
                    clear hwk
                    have i1 : n1 = 0 ∧ n2 = 0 ∧ n3 = 0 ∧ n4 = 0 := by have := HZ.out; omega
                    have hall := HQQ.out (HN1.out.trans i1.1) (HN4.out.trans i1.2.2.2) (HN3.out.trans i1.2.2.1) (HN2.out.trans i1.2.1) HWK.out
                    have q1 := hall sysT 8 (by decide)
                    have q2 := hall sysT 1 (by decide)
                    have q3 := hall shutT 6 (by decide)
                    rw [HAF.out] at q1
                    rw [HNE.out] at q2
                    rw [HCO.out] at q3
                    clear hall
                    cases q3
                  · rw [decide_eq_false hwk] at hem
                    clear hwk
                    go_wp2_with fail
                    go_ret
                    exact ⟨rfl, HGy.out.wa.below⟩
              · have hkb : (kd == 4) = true := by rw [hkd4 rfl]; rfl
                clear hkd4
                by_cases hz : (0 : Int) < (n1 : Int) + (n2 : Int) + (n3 : Int) + (n4 : Int)
                · go_wp2_with fail
                  go_ret
                  exact ⟨rfl, HGz.out.wa.below⟩
                · have HZ := Lib.hid hz
                  have hzd : decide ((0 : Int) < (n1 : Int) + (n2 : Int) + (n3 : Int) + (n4 : Int)) = false := decide_eq_false hz
                  clear hz
                  go_wp2_with (first
                    | (refine wpList_load_partG (by rfl) 51 (.tmp 132) (by rfl) ⟨xb, 5, none⟩ (by rfl) (.agg x.u) (HLU _ HGz.out.wa.k) ?_)
                    | (refine wpList_load_partG (by rfl) 51 (.tmp 131) (by rfl) ⟨xb, 5, none⟩ (by rfl) (.agg x.u) (HLU _ HGz.out.wa.k) ?_)
                    | fail)
                  refine (HWL.out _).mono ?_
                  rintro e wv ⟨rfl, hbv⟩
                  have HGy := Lib.hid (HGz.out.call hbv)
                  clear hbv f8 f9 f25 f41 f40 hw1 hw2 hw3
                  by_cases hwk : x.x.wk = []
                  · have HWK := Lib.hid hwk
                    rw [decide_eq_true hwk] at hem
                    clear hwk
                    have i1 : n1 = 0 ∧ n2 = 0 ∧ n3 = 0 ∧ n4 = 0 := by have := HZ.out; omega
                    have hall := HQQ.out (HN1.out.trans i1.1) (HN4.out.trans i1.2.2.2) (HN3.out.trans i1.2.2.1) (HN2.out.trans i1.2.1) HWK.out
                    have q1 := hall sysT 8 (by decide)
                    have q2 := hall sysT 1 (by decide)
                    have q3 := hall shutT 6 (by decide)
                    rw [HAF.out] at q1
                    rw [HNE.out] at q2
                    rw [HCO.out] at q3
                    clear hall
                    cases q3
                  · rw [decide_eq_false hwk] at hem
                    clear hwk
                    go_wp2_with fail
                    go_ret
                    exact ⟨rfl, HGy.out.wa.below⟩
end Go.Proofs.YtcoepioahabbdaaGreat
