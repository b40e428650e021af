/- The walk of GraphWakes. -/
import Derived.Test.YtcoepioahabbdaaGreatGybu
import Derived.Test.YtcoepioahabbdaaGreatGybq
import Derived.Test.YtcoepioahabbdaaGreatGybp
import Derived.Test.YtcoepioahabbdaaGreatGyay
import Derived.Test.YtcoepioahabbdaaGreatGyax
import Derived.Test.YtcoepioahabbdaaGreatGyaw
import Derived.Test.YtcoepioahabbdaaGreatGyav
import Derived.Test.YtcoepioahabbdaaGreatGyas
import Derived.Test.YtcoepioahabbdaaGreatGyar
import Derived.Test.YtcoepioahabbdaaGreatGyam
import Derived.Test.YtcoepioahabbdaaGreatGyae
import Derived.Test.YtcoepioahabbdaaGreatGyaa
import Derived.Test.YtcoepioahabbdaaGreatGyab
import Derived.Test.YtcoepioahabbdaaGreatGyad
import Derived.Test.YtcoepioahabbdaaGreatGyac
import Derived.Test.YtcoepioahabbdaaGreatGyaf
import Derived.Test.YtcoepioahabbdaaGreatGyag
import Derived.Test.YtcoepioahabbdaaGreatGyal
import Derived.Test.YtcoepioahabbdaaGreatGyak
import Derived.Test.YtcoepioahabbdaaGreatGyah
import Derived.Test.YtcoepioahabbdaaGreatGyai
import Derived.Test.YtcoepioahabbdaaGreatGyao
import Derived.Test.YtcoepioahabbdaaGreatGyan
import Derived.Test.YtcoepioahabbdaaGreatGyaq
import Derived.Test.YtcoepioahabbdaaGreatGyap
import Derived.Test.YtcoepioahabbdaaGreatGyau
import Derived.Test.YtcoepioahabbdaaGreatGybo
import Derived.Test.YtcoepioahabbdaaGreatGybi
import Derived.Test.YtcoepioahabbdaaGreatGybh
import Derived.Test.YtcoepioahabbdaaGreatGybg
import Derived.Test.YtcoepioahabbdaaGreatGybc
import Derived.Test.YtcoepioahabbdaaGreatGybb
import Derived.Test.YtcoepioahabbdaaGreatGyaz
import Derived.Test.YtcoepioahabbdaaGreatGyba
import Derived.Test.YtcoepioahabbdaaGreatGyat
import Derived.Test.YtcoepioahabbdaaGreatGybf
import Derived.Test.YtcoepioahabbdaaGreatGybe
import Derived.Test.YtcoepioahabbdaaGreatGybd
import Derived.Test.YtcoepioahabbdaaGreatGybm
import Derived.Test.YtcoepioahabbdaaGreatGybl
import Derived.Test.YtcoepioahabbdaaGreatGybj
import Derived.Test.YtcoepioahabbdaaGreatGybn
import Derived.Test.YtcoepioahabbdaaGreatGybk
import Derived.Test.YtcoepioahabbdaaGreatGybt
namespace Go.Proofs.YtcoepioahabbdaaGreat
open Go.RowKit
theorem and_lowK (a : Int) (m : Nat) (hm : m ≤ 65535) : ∃ k : Nat, bits .and .i64 a (m : Int) = (k : Int) ∧ k ≤ m := by
  have hx : (BitVec.ofInt 64 (m : Int)).toNat = m := by
    rw [BitVec.ofInt_natCast, BitVec.toNat_ofNat]; exact Nat.mod_eq_of_lt (by omega)
  refine ⟨(BitVec.ofInt 64 a).toNat &&& m, ?_, Nat.and_le_right⟩
  have hle : (BitVec.ofInt 64 a).toNat &&& m ≤ m := Nat.and_le_right
  show IntKind.i64.wrap ((BitVec.ofInt 64 a &&& BitVec.ofInt 64 (m : Int)).toNat : Int) = _
  rw [BitVec.toNat_and, hx, IntKind.wrap_i64]
  omega
section
variable {K : Tx → Int}
theorem wake_rel {l : List Ld} {ns : List Nd} {es : List Ed} (h : GraphOk K l ns es) (hl : l.length ≤ 64) {x y : Ld} (hf : firstL' l x.n = some y) (hx : x ∈ l) (hk : K x.n = 2 ∨ K x.n = 3) (hs : y.s = 1) (hn : (nodeG ns y.wk).isSome = true) (hne : y.wk ≠ x.n) : y.wk ∈ outG es x.n 10 ∧ y.wk ∈ outG es x.n 7 := by
  have hyn := (first_some hf).2
  have hk0 : K x.n ≠ 0 := by omega
  have h1 : isNode K l x.n := by
    unfold isNode
    rw [few_names hl, names_mem]
    exact ⟨hk0, x, hx, rfl⟩
  have h2 : isNode K l y.wk := by
    rw [h.nodes, node_at] at hn
    unfold isNode
    by_cases e : y.wk ∈ (namesL K l).take 64
    · exact e
    · rw [if_neg e] at hn; cases hn
  have hky : K y.n = 2 ∨ K y.n = 3 := by rw [hyn]; exact hk
  exact ⟨by rw [out_mem, h.edge]; exact ⟨h1, h2, fun e => hne e.symm, y, hf, hs, .triggers hky⟩, by rw [out_mem, h.edge]; exact ⟨h1, h2, fun e => hne e.symm, y, hf, hs, .wakes hky⟩⟩
end
theorem any_tx {l : List Tx} {t : Tx} (h : t ∈ l) : l.any (fun z => decide (z = (str t).data.toList)) = true := List.any_eq_true.2 ⟨t, h, by rw [str_list]; simp⟩
structure WaS (w W : World) (B : Nat) (A : Option Addr) (n : Nat) (L : List LdR) (xb : Nat) (x : LdR) : Prop where
  lds : LdsAt W B A n L
  k : Blk W xb 53 x.a
  hB : B ≤ W.heap.size
  below : Below w.heap.size w W
theorem WaS.call {w W W' : World} {B : Nat} {A : Option Addr} {n : Nat} {L : List LdR} {xb : Nat} {x : LdR} (h : WaS w W B A n L xb x) (hb : Below W.heap.size W W') : WaS w W' B A n L xb x :=
  ⟨h.lds.below (hb.mono h.hB), h.k.below hb h.k.lt, Nat.le_trans h.hB hb.size, more3 h.below h.below.size hb⟩
structure WgS (w W : World) (B : Nat) (A : Option Addr) (n : Nat) (L : List LdR) (xb : Nat) (x : LdR) (gb : Nat) (g : Array Value) (ns : List Nd) (es : List Ed) (gh : Nat) : Prop where
  wa : WaS w W B A n L xb x
  gk : Blk W gb 29 g
  gr : GrAt W gh g ns es
  hgh : gh ≤ W.heap.size
theorem WgS.call {w W W' : World} {B : Nat} {A : Option Addr} {n : Nat} {L : List LdR} {xb : Nat} {x : LdR} {gb : Nat} {g : Array Value} {ns : List Nd} {es : List Ed} {gh : Nat} (h : WgS w W B A n L xb x gb g ns es gh) (hb : Below W.heap.size W W') : WgS w W' B A n L xb x gb g ns es gh :=
  ⟨h.wa.call hb, h.gk.below hb h.gk.lt, h.gr.below (hb.mono h.hgh), Nat.le_trans h.hgh hb.size⟩
theorem wakes_ld {w : World} {B : Nat} {r : LdR} (h : LdIs w B r) (hs : r.x.un.length ≤ maxLen) (W : World) : Calls Tryz.prog 26 #[.agg r.u] W fun e w' => e = .returned (.string (str r.x.wk)) ∧ Below W.heap.size W w' := by
  obtain ⟨t, ht, hw⟩ := h.wake
  rw [hw]
  exact wakes_any r.u r.x.un t r.x.uk ⟨by rw [r.uat 0 (by omega)]; exact h.un, by rw [r.uat 1 (by omega)]; exact h.uk, by rw [r.uat 24 (by omega)]; exact ht⟩ hs W
theorem emT_str (t : Tx) : (str t).toList.isEmpty = decide (t = []) := by
  rw [Lib.toList_data, str_list, Bool.eq_iff_iff, decide_eq_true_eq, List.isEmpty_iff]
theorem ag_succ {L : List LdR} {k : Nat} {x y : LdR} (h : ∀ i z, i < k → L[i]? = some z → z.x.n = x.x.n → z.x.s = x.x.s ∧ z.x.wk = x.x.wk) (hy : L[k]? = some y) (e : y.x.n = x.x.n → y.x.s = x.x.s ∧ y.x.wk = x.x.wk) (i : Nat) (z : LdR) (hi : i < k + 1) (hz : L[i]? = some z) (hn : z.x.n = x.x.n) : z.x.s = x.x.s ∧ z.x.wk = x.x.wk := by
  rcases Nat.lt_succ_iff_lt_or_eq.1 hi with h' | h'
  · exact h i z h' hz hn
  · subst h'
    rw [hy] at hz
    injection hz with hz
    subst hz
    exact e hn
set_option maxRecDepth 10000 in
set_option maxHeartbeats 32000000 in
theorem GraphWakes_any (A : Option Addr) (n c B : Nat) (a : Int) (L : List LdR) (w : World) (hL : LdsAt w B A n L) (hB : B ≤ w.heap.size) (hS : ∀ r ∈ L, Small r.x) :
    Calls Tryz.prog 8 #[.slice A n c, .int .i64 a] w fun e w' => e = .returned (.bool true) ∧ Below w.heap.size w w' := by
  obtain ⟨m0, hm0, hm1⟩ := and_lowK a 65535 (Nat.le_refl _)
  have hm0 : bits .and .i64 a 65535 = (m0 : Int) := hm0
  have HL := Lib.hid hL
  have hLn := hL.row.1
  clear hL
  go_enter Tryz.func8, Tryz.ntmps8
  go_wp2_with fail
  refine (shown15_any _).mono ?_
  rintro e w1 ⟨rfl, hb1⟩
  have HB1 := Lib.hid hb1
  have HL1 := Lib.hid (HL.out.below (hb1.mono hB))
  have hs1 := hb1.size
  clear hb1 HL
  go_wp2_with fail
  refine (sound_any A n c B L w1 HL1.out (by omega) (fun r hr => (hS r hr).n)).mono ?_
  rintro e w2 ⟨r, rfl, hr, hb2⟩
  have HB2 := Lib.hid (more3 HB1.out hs1 hb2)
  have HL2 := Lib.hid (HL1.out.below (hb2.mono (by omega)))
  have hs2 := hb2.size
  have HR := Lib.hid hr
  clear hb2 hr HL1
  cases r with
  | false =>
    go_wp2_with fail
    go_ret
    exact ⟨rfl, HB2.out⟩
  | true =>
    by_cases hn64 : n ≤ 64
    case neg =>
      have z64 : (64 : Int) < (n : Int) := by omega
      go_wp2_with fail
      go_ret
      exact ⟨rfl, HB2.out⟩
    have z64 : decide ((64 : Int) < (n : Int)) = false := decide_eq_false (by omega)
    by_cases hn0 : n = 0
    · have z0 : ((n : Int) == 0) = true := by simp [hn0]
      have z1 : (n : Int) = 0 := by omega
      go_wp2_with fail
      go_ret
      exact ⟨rfl, HB2.out⟩
    have z0 : ((n : Int) == 0) = false := by simp [hn0]
    have z1 : ¬ (n : Int) = 0 := by omega
    have HSO : Hid (∀ r ∈ L, soundR r) := (HR.out.1 rfl).1
    obtain ⟨ix, hix⟩ : ∃ ix, m0 % n = ix := ⟨_, rfl⟩
    have hixn : ix < n := by rw [← hix]; exact Nat.mod_lt _ (by omega)
    have hrm : (m0 : Int).tmod (n : Int) = (ix : Int) := by rw [← hix]; exact (Int.ofNat_tmod m0 n).symm
    have hrm2 : (m0 : Int) % (n : Int) = (ix : Int) := by rw [← hix]; exact (Int.natCast_emod m0 n).symm
    have i0 : (0 : Int) ≤ (ix : Int) := by omega
    have i1 : (ix : Int) < (n : Int) := by omega
    obtain ⟨ad, x, rfl, hab, hx, hld⟩ := load_row HL2.out.row hixn
    have hxm : x ∈ L := List.mem_of_getElem? hx
    have HLD := Lib.hid (hld w2 (Below.refl _ _))
    have HX0 : Hid (WaS w (w2.alloc (.cells x.a 53)) B (some ad) n L w2.heap.size x) := ⟨HL2.out.below (((Below.refl _ w2).alloc (Nat.le_refl _) _).mono (by omega)), Blk.new _ _ _, by simp; omega, HB2.out.alloc (by omega) _⟩
    clear hld hx
    go_wp2_with (first
      | (refine wpList_load_part rfl 53 (.tmp 33) (by rfl) (ad.add (ix * 42)) (by rfl) (.agg x.a) HLD.out ?_)
      | (refine wpList_store_row rfl 53 (.tmp 5) (.tmp 34) (by rfl) w2.heap.size x.a (by rfl) (by rfl) 53 _ (by exact heap_alloc_new _ _) (infoL x) (by rw [x.size]; rfl) x.all ?_
         rw [heap_alloc_setRow])
      | fail)
    obtain ⟨xb, hxb⟩ : ∃ xb, w2.heap.size = xb := ⟨_, rfl⟩
    obtain ⟨wx, hwx⟩ : ∃ wx, w2.alloc (.cells x.a 53) = wx := ⟨_, rfl⟩
    rw [hwx, hxb] at HX0
    rw [hwx, hxb]
    have hix2 := HX0.out.lds.is x hxm
    have HNX := Lib.hid hix2.name
    have HTX := Lib.hid hix2.state
    have hxs := hS x hxm
    have hxu := hxs.un
    have hxn := hxs.n
    clear hwx hxb HLD HL2 HB2 HB1 hix2
    have HAG0 : Hid (∀ i z, i < 0 → L[i]? = some z → z.x.n = x.x.n → z.x.s = x.x.s ∧ z.x.wk = x.x.wk) := fun i z h => by omega
    go_loopw [37] (fun i wr => ∃ k : Nat, k ≤ n ∧ i = .int .i64 k ∧ Hid (∀ i z, i < k → L[i]? = some z → z.x.n = x.x.n → z.x.s = x.x.s ∧ z.x.wk = x.x.wk) ∧ Hid (WaS w wr B (some ad) n L xb x)) (fun i wr => n - (intOf i).toNat)
    case atStart => exact ⟨0, Nat.zero_le _, rfl, HAG0, HX0⟩
    case round =>
      clear HX0 HAG0
      obtain ⟨k, hk, rfl, HAG, hX⟩ := hrel
      by_cases hlt : k < n
      · have b0 : (0 : Int) ≤ (k : Int) := by omega
        have b1 : (k : Int) < (n : Int) := by omega
        obtain ⟨ad', y, e, hab', hy, hld⟩ := load_row hX.out.lds.row hlt
        injection e with e
        subst e
        have hym : y ∈ L := List.mem_of_getElem? hy
        have HLD := Lib.hid (hld wr (Below.refl _ _))
        have hiy := hX.out.lds.is y hym
        have HIY := Lib.hid hiy
        have HIX := Lib.hid (hX.out.lds.is x hxm)
        have HNY := Lib.hid hiy.name
        have HTY := Lib.hid hiy.state
        have hyu := (hS y hym).un
        have HY := Lib.hid hy
        have HXa : Hid (WaS w (wr.alloc (.cells y.a 53)) B (some ad) n L xb x) := hX.out.call ((Below.refl _ _).alloc (Nat.le_refl _) _)
        have HYa : Hid (Blk (wr.alloc (.cells y.a 53)) wr.heap.size 53 y.a) := Blk.new _ _ _
        have hq := eqT_str y.x.n x.x.n
        have hne := neT_str y.x.wk x.x.wk
        have hne2 := eqT_str y.x.wk x.x.wk
        clear hld hy hiy hX
        go_wp2_with (first
          | (refine wpList_load_part rfl 53 (.tmp 39) (by rfl) (ad.add (k * 42)) (by rfl) (.agg y.a) HLD.out ?_)
          | (refine wpList_store_row rfl 53 (.tmp 7) (.tmp 40) (by rfl) wr.heap.size y.a (by rfl) (by rfl) 53 _ (by exact heap_alloc_new _ _) (infoL y) (by rw [y.size]; rfl) y.all ?_
             rw [heap_alloc_setRow])
          | fail)
        obtain ⟨yb, hyb⟩ : ∃ yb, wr.heap.size = yb := ⟨_, rfl⟩
        obtain ⟨wy, hwy⟩ : ∃ wy, wr.alloc (.cells y.a 53) = wy := ⟨_, rfl⟩
        rw [hwy] at HXa
        rw [hwy, hyb] at HYa
        rw [hwy, hyb]
        clear hwy hyb HLD
        by_cases hyx : y.x.n = x.x.n
        case neg =>
          have HYX := Lib.hid hyx
          rw [decide_eq_false hyx] at hq
          clear hyx
          refine wp_region_held_drew (S := fun W => WaS w W B (some ad) n L xb x ∧ Blk W yb 53 y.a) (by kernel_rfl) ?_ (fun hHeld => ?_)
          · exact ⟨HXa.out.call (Below.refl _ _).drew, HYa.out.below (Below.refl _ _).drew HYa.out.lt⟩
          refine wpAnyH_take (i := 0) (v := ?v0_1) rfl (by kernel_rfl) (by kernel_rfl) (by kernel_rfl) (fun _ _ _ h => h) (Or.inl ⟨by rfl, ?hy0_1⟩) (by assumption) ?_
          case hy0_1 => (intro W hSw; (try dsimp only at hSw); go_simp; (try with_reducible rfl))
          try simp only [Act.put, List.getElem_toArray, List.getElem_cons_zero, List.setIfInBounds_toArray, List.set_cons_zero, List.set_cons_succ]
          refine wpAnyH_take (i := 1) (v := ?v1_1) rfl (by kernel_rfl) (by kernel_rfl) (by kernel_rfl) (fun _ _ _ h => h) (Or.inl ⟨by rfl, ?hy1_1⟩) (by assumption) ?_
          case hy1_1 => (intro W hSw; have p0 : W.cell? ⟨yb, 0, none⟩ = some (.string (str y.x.n)) := box_cell hSw.2 HNY.out; (try dsimp only at hSw); go_simp; (try with_reducible rfl))
          try simp only [Act.put, List.getElem_toArray, List.getElem_cons_zero, List.getElem_cons_succ, List.setIfInBounds_toArray, List.set_cons_zero, List.set_cons_succ]
          refine wpAnyH_take (i := 2) (v := ?v2_1) rfl (by kernel_rfl) (by kernel_rfl) (by kernel_rfl) (fun _ _ _ h => h) (Or.inl ⟨by rfl, ?hy2_1⟩) (by assumption) ?_
          case hy2_1 => (intro W hSw; (try dsimp only at hSw); go_simp; (try with_reducible rfl))
          try simp only [Act.put, List.getElem_toArray, List.getElem_cons_zero, List.getElem_cons_succ, List.setIfInBounds_toArray, List.set_cons_zero, List.set_cons_succ]
          refine wpAnyH_take (i := 3) (v := ?v3_1) rfl (by kernel_rfl) (by kernel_rfl) (by kernel_rfl) (fun _ _ _ h => h) (Or.inl ⟨by rfl, ?hy3_1⟩) (by assumption) ?_
          case hy3_1 => (intro W hSw; have p0 : W.cell? ⟨xb, 0, none⟩ = some (.string (str x.x.n)) := box_cell hSw.1.k HNX.out; (try dsimp only at hSw); go_simp; (try with_reducible rfl))
          try simp only [Act.put, List.getElem_toArray, List.getElem_cons_zero, List.getElem_cons_succ, List.setIfInBounds_toArray, List.set_cons_zero, List.set_cons_succ]
          refine wpAnyH_take (i := 4) (v := ?v4_1) rfl (by kernel_rfl) (by kernel_rfl) (by kernel_rfl) (fun _ _ _ h => h) (Or.inl ⟨by rfl, ?hy4_1⟩) (by assumption) ?_
          case hy4_1 => (intro W hSw; (try dsimp only at hSw); go_simp; (try with_reducible rfl))
          try simp only [Act.put, List.getElem_toArray, List.getElem_cons_zero, List.getElem_cons_succ, List.setIfInBounds_toArray, List.set_cons_zero, List.set_cons_succ]
          refine wpAnyH_take (i := 5) (v := ?v5_1) rfl (by kernel_rfl) (by kernel_rfl) (by kernel_rfl) (fun _ _ _ h => h) (Or.inl ⟨by rfl, ?hy5_1⟩) (by assumption) ?_
          case hy5_1 => (intro W hSw; (try dsimp only at hSw); go_simp; (try with_reducible rfl))
          try simp only [Act.put, List.getElem_toArray, List.getElem_cons_zero, List.getElem_cons_succ, List.setIfInBounds_toArray, List.set_cons_zero, List.set_cons_succ]
          refine wpAnyH_take (i := 6) (v := undef) rfl (by kernel_rfl) (by kernel_rfl) (by kernel_rfl) (fun _ _ _ h => h) (Or.inr ⟨by rfl, rfl⟩) (by assumption) ?_
          try simp only [Act.put, List.getElem_toArray, List.getElem_cons_zero, List.getElem_cons_succ, List.setIfInBounds_toArray, List.set_cons_zero, List.set_cons_succ]
          refine wpAnyH_take (i := 7) (v := undef) rfl (by kernel_rfl) (by kernel_rfl) (by kernel_rfl) (fun _ _ _ h => h) (Or.inr ⟨by rfl, rfl⟩) (by assumption) ?_
          try simp only [Act.put, List.getElem_toArray, List.getElem_cons_zero, List.getElem_cons_succ, List.setIfInBounds_toArray, List.set_cons_zero, List.set_cons_succ]
          refine wpAnyH_take (i := 8) (v := undef) rfl (by kernel_rfl) (by kernel_rfl) (by kernel_rfl) (fun _ _ _ h => h) (Or.inr ⟨by rfl, rfl⟩) (by assumption) ?_
          try simp only [Act.put, List.getElem_toArray, List.getElem_cons_zero, List.getElem_cons_succ, List.setIfInBounds_toArray, List.set_cons_zero, List.set_cons_succ]
          refine wpAnyH_take (i := 9) (v := undef) rfl (by kernel_rfl) (by kernel_rfl) (by kernel_rfl) (fun _ _ _ h => h) (Or.inr ⟨by rfl, rfl⟩) (by assumption) ?_
          try simp only [Act.put, List.getElem_toArray, List.getElem_cons_zero, List.getElem_cons_succ, List.setIfInBounds_toArray, List.set_cons_zero, List.set_cons_succ]
          refine wpAnyH_take (i := 10) (v := undef) rfl (by kernel_rfl) (by kernel_rfl) (by kernel_rfl) (fun _ _ _ h => h) (Or.inr ⟨by rfl, rfl⟩) (by assumption) ?_
          try simp only [Act.put, List.getElem_toArray, List.getElem_cons_zero, List.getElem_cons_succ, List.setIfInBounds_toArray, List.set_cons_zero, List.set_cons_succ]
          refine wpAnyH_take (i := 11) (v := undef) rfl (by kernel_rfl) (by kernel_rfl) (by kernel_rfl) (fun _ _ _ h => h) (Or.inr ⟨by rfl, rfl⟩) (by assumption) ?_
          try simp only [Act.put, List.getElem_toArray, List.getElem_cons_zero, List.getElem_cons_succ, List.setIfInBounds_toArray, List.set_cons_zero, List.set_cons_succ]
          refine wpAnyH_take (i := 12) (v := undef) rfl (by kernel_rfl) (by kernel_rfl) (by kernel_rfl) (fun _ _ _ h => h) (Or.inr ⟨by rfl, rfl⟩) (by assumption) ?_
          try simp only [Act.put, List.getElem_toArray, List.getElem_cons_zero, List.getElem_cons_succ, List.setIfInBounds_toArray, List.set_cons_zero, List.set_cons_succ]
          refine wpAnyH_take (i := 13) (v := undef) rfl (by kernel_rfl) (by kernel_rfl) (by kernel_rfl) (fun _ _ _ h => h) (Or.inr ⟨by rfl, rfl⟩) (by assumption) ?_
          try simp only [Act.put, List.getElem_toArray, List.getElem_cons_zero, List.getElem_cons_succ, List.setIfInBounds_toArray, List.set_cons_zero, List.set_cons_succ]
          refine wpAnyH_take (i := 14) (v := undef) rfl (by kernel_rfl) (by kernel_rfl) (by kernel_rfl) (fun _ _ _ h => h) (Or.inr ⟨by rfl, rfl⟩) (by assumption) ?_
          try simp only [Act.put, List.getElem_toArray, List.getElem_cons_zero, List.getElem_cons_succ, List.setIfInBounds_toArray, List.set_cons_zero, List.set_cons_succ]
          refine wpAnyH_take (i := 15) (v := undef) rfl (by kernel_rfl) (by kernel_rfl) (by kernel_rfl) (fun _ _ _ h => h) (Or.inr ⟨by rfl, rfl⟩) (by assumption) ?_
          try simp only [Act.put, List.getElem_toArray, List.getElem_cons_zero, List.getElem_cons_succ, List.setIfInBounds_toArray, List.set_cons_zero, List.set_cons_succ]
          refine wpAnyH_take (i := 16) (v := undef) rfl (by kernel_rfl) (by kernel_rfl) (by kernel_rfl) (fun _ _ _ h => h) (Or.inr ⟨by rfl, rfl⟩) (by assumption) ?_
          try simp only [Act.put, List.getElem_toArray, List.getElem_cons_zero, List.getElem_cons_succ, List.setIfInBounds_toArray, List.set_cons_zero, List.set_cons_succ]
          refine wpAnyH_take (i := 17) (v := undef) rfl (by kernel_rfl) (by kernel_rfl) (by kernel_rfl) (fun _ _ _ h => h) (Or.inr ⟨by rfl, rfl⟩) (by assumption) ?_
          try simp only [Act.put, List.getElem_toArray, List.getElem_cons_zero, List.getElem_cons_succ, List.setIfInBounds_toArray, List.set_cons_zero, List.set_cons_succ]
          refine wpAnyH_take (i := 18) (v := undef) rfl (by kernel_rfl) (by kernel_rfl) (by kernel_rfl) (fun _ _ _ h => h) (Or.inr ⟨by rfl, rfl⟩) (by assumption) ?_
          try simp only [Act.put, List.getElem_toArray, List.getElem_cons_zero, List.getElem_cons_succ, List.setIfInBounds_toArray, List.set_cons_zero, List.set_cons_succ]
          refine wpAnyH_take (i := 19) (v := undef) rfl (by kernel_rfl) (by kernel_rfl) (by kernel_rfl) (fun _ _ _ h => h) (Or.inr ⟨by rfl, rfl⟩) (by assumption) ?_
          try simp only [Act.put, List.getElem_toArray, List.getElem_cons_zero, List.getElem_cons_succ, List.setIfInBounds_toArray, List.set_cons_zero, List.set_cons_succ]
          refine wpAnyH_take (i := 20) (v := ?v20_1) rfl (by kernel_rfl) (by kernel_rfl) (by kernel_rfl) (fun _ _ _ h => h) (Or.inl ⟨by rfl, ?hy20_1⟩) (by assumption) ?_
          case hy20_1 => (intro W hSw; (try dsimp only at hSw); go_simp; (try with_reducible rfl))
          try simp only [Act.put, List.getElem_toArray, List.getElem_cons_zero, List.getElem_cons_succ, List.setIfInBounds_toArray, List.set_cons_zero, List.set_cons_succ]
          refine wpAnyH_done (by kernel_rfl) ?_ _
          have HB9 := Lib.hid hHeld.1
          have HAG2 : Hid (∀ i z, i < k + 1 → L[i]? = some z → z.x.n = x.x.n → z.x.s = x.x.s ∧ z.x.wk = x.x.wk) := ag_succ HAG.out HY.out (fun e => absurd e HYX.out)
          clear hHeld HXa HYa
          go_wp2_with fail
          go_roundw
          case rel => exact ⟨k + 1, by omega, by go_num, HAG2, HB9⟩
          case measure => simp [intOf]; omega
        rw [decide_eq_true hyx] at hq
        clear hyx
        by_cases hss : y.x.s = x.x.s
        case neg =>
          have hsb : (y.x.s != x.x.s) = true := by simpa using hss
          clear hss
          refine wp_region_held_drew (S := fun W => WaS w W B (some ad) n L xb x ∧ Blk W yb 53 y.a) (by kernel_rfl) ?_ (fun hHeld => ?_)
          · exact ⟨HXa.out.call (Below.refl _ _).drew, HYa.out.below (Below.refl _ _).drew HYa.out.lt⟩
          refine wpAnyH_take (i := 0) (v := ?v0_2) rfl (by kernel_rfl) (by kernel_rfl) (by kernel_rfl) (fun _ _ _ h => h) (Or.inl ⟨by rfl, ?hy0_2⟩) (by assumption) ?_
          case hy0_2 => (intro W hSw; (try dsimp only at hSw); go_simp; (try with_reducible rfl))
          try simp only [Act.put, List.getElem_toArray, List.getElem_cons_zero, List.setIfInBounds_toArray, List.set_cons_zero, List.set_cons_succ]
          refine wpAnyH_take (i := 1) (v := ?v1_2) rfl (by kernel_rfl) (by kernel_rfl) (by kernel_rfl) (fun _ _ _ h => h) (Or.inl ⟨by rfl, ?hy1_2⟩) (by assumption) ?_
          case hy1_2 => (intro W hSw; have p0 : W.cell? ⟨yb, 0, none⟩ = some (.string (str y.x.n)) := box_cell hSw.2 HNY.out; (try dsimp only at hSw); go_simp; (try with_reducible rfl))
          try simp only [Act.put, List.getElem_toArray, List.getElem_cons_zero, List.getElem_cons_succ, List.setIfInBounds_toArray, List.set_cons_zero, List.set_cons_succ]
          refine wpAnyH_take (i := 2) (v := ?v2_2) rfl (by kernel_rfl) (by kernel_rfl) (by kernel_rfl) (fun _ _ _ h => h) (Or.inl ⟨by rfl, ?hy2_2⟩) (by assumption) ?_
          case hy2_2 => (intro W hSw; (try dsimp only at hSw); go_simp; (try with_reducible rfl))
          try simp only [Act.put, List.getElem_toArray, List.getElem_cons_zero, List.getElem_cons_succ, List.setIfInBounds_toArray, List.set_cons_zero, List.set_cons_succ]
          refine wpAnyH_take (i := 3) (v := ?v3_2) rfl (by kernel_rfl) (by kernel_rfl) (by kernel_rfl) (fun _ _ _ h => h) (Or.inl ⟨by rfl, ?hy3_2⟩) (by assumption) ?_
          case hy3_2 => (intro W hSw; have p0 : W.cell? ⟨xb, 0, none⟩ = some (.string (str x.x.n)) := box_cell hSw.1.k HNX.out; (try dsimp only at hSw); go_simp; (try with_reducible rfl))
          try simp only [Act.put, List.getElem_toArray, List.getElem_cons_zero, List.getElem_cons_succ, List.setIfInBounds_toArray, List.set_cons_zero, List.set_cons_succ]
          refine wpAnyH_take (i := 4) (v := ?v4_2) rfl (by kernel_rfl) (by kernel_rfl) (by kernel_rfl) (fun _ _ _ h => h) (Or.inl ⟨by rfl, ?hy4_2⟩) (by assumption) ?_
          case hy4_2 => (intro W hSw; (try dsimp only at hSw); go_simp; (try with_reducible rfl))
          try simp only [Act.put, List.getElem_toArray, List.getElem_cons_zero, List.getElem_cons_succ, List.setIfInBounds_toArray, List.set_cons_zero, List.set_cons_succ]
          refine wpAnyH_take (i := 5) (v := ?v5_2) rfl (by kernel_rfl) (by kernel_rfl) (by kernel_rfl) (fun _ _ _ h => h) (Or.inl ⟨by rfl, ?hy5_2⟩) (by assumption) ?_
          case hy5_2 => (intro W hSw; (try dsimp only at hSw); go_simp; (try with_reducible rfl))
          try simp only [Act.put, List.getElem_toArray, List.getElem_cons_zero, List.getElem_cons_succ, List.setIfInBounds_toArray, List.set_cons_zero, List.set_cons_succ]
          refine wpAnyH_take (i := 6) (v := ?v6_2) rfl (by kernel_rfl) (by kernel_rfl) (by kernel_rfl) (fun _ _ _ h => h) (Or.inl ⟨by rfl, ?hy6_2⟩) (by assumption) ?_
          case hy6_2 => (intro W hSw; (try dsimp only at hSw); go_simp; (try with_reducible rfl))
          try simp only [Act.put, List.getElem_toArray, List.getElem_cons_zero, List.getElem_cons_succ, List.setIfInBounds_toArray, List.set_cons_zero, List.set_cons_succ]
          refine wpAnyH_take (i := 7) (v := ?v7_2) rfl (by kernel_rfl) (by kernel_rfl) (by kernel_rfl) (fun _ _ _ h => h) (Or.inl ⟨by rfl, ?hy7_2⟩) (by assumption) ?_
          case hy7_2 => (intro W hSw; have p0 : W.cell? ⟨yb, 1, none⟩ = some (.int .i64 y.x.s) := box_cell hSw.2 HTY.out; (try dsimp only at hSw); go_simp; (try with_reducible rfl))
          try simp only [Act.put, List.getElem_toArray, List.getElem_cons_zero, List.getElem_cons_succ, List.setIfInBounds_toArray, List.set_cons_zero, List.set_cons_succ]
          refine wpAnyH_take (i := 8) (v := ?v8_2) rfl (by kernel_rfl) (by kernel_rfl) (by kernel_rfl) (fun _ _ _ h => h) (Or.inl ⟨by rfl, ?hy8_2⟩) (by assumption) ?_
          case hy8_2 => (intro W hSw; (try dsimp only at hSw); go_simp; (try with_reducible rfl))
          try simp only [Act.put, List.getElem_toArray, List.getElem_cons_zero, List.getElem_cons_succ, List.setIfInBounds_toArray, List.set_cons_zero, List.set_cons_succ]
          refine wpAnyH_take (i := 9) (v := ?v9_2) rfl (by kernel_rfl) (by kernel_rfl) (by kernel_rfl) (fun _ _ _ h => h) (Or.inl ⟨by rfl, ?hy9_2⟩) (by assumption) ?_
          case hy9_2 => (intro W hSw; have p0 : W.cell? ⟨xb, 1, none⟩ = some (.int .i64 x.x.s) := box_cell hSw.1.k HTX.out; (try dsimp only at hSw); go_simp; (try with_reducible rfl))
          try simp only [Act.put, List.getElem_toArray, List.getElem_cons_zero, List.getElem_cons_succ, List.setIfInBounds_toArray, List.set_cons_zero, List.set_cons_succ]
          refine wpAnyH_take (i := 10) (v := ?v10_2) rfl (by kernel_rfl) (by kernel_rfl) (by kernel_rfl) (fun _ _ _ h => h) (Or.inl ⟨by rfl, ?hy10_2⟩) (by assumption) ?_
          case hy10_2 => (intro W hSw; (try dsimp only at hSw); go_simp; (try with_reducible rfl))
          try simp only [Act.put, List.getElem_toArray, List.getElem_cons_zero, List.getElem_cons_succ, List.setIfInBounds_toArray, List.set_cons_zero, List.set_cons_succ]
          refine wpAnyH_take (i := 11) (v := ?v11_2) rfl (by kernel_rfl) (by kernel_rfl) (by kernel_rfl) (fun _ _ _ h => h) (Or.inl ⟨by rfl, ?hy11_2⟩) (by assumption) ?_
          case hy11_2 => (intro W hSw; (try dsimp only at hSw); go_simp; (try with_reducible rfl))
          try simp only [Act.put, List.getElem_toArray, List.getElem_cons_zero, List.getElem_cons_succ, List.setIfInBounds_toArray, List.set_cons_zero, List.set_cons_succ]
          refine wpAnyH_take (i := 12) (v := undef) rfl (by kernel_rfl) (by kernel_rfl) (by kernel_rfl) (fun _ _ _ h => h) (Or.inr ⟨by rfl, rfl⟩) (by assumption) ?_
          try simp only [Act.put, List.getElem_toArray, List.getElem_cons_zero, List.getElem_cons_succ, List.setIfInBounds_toArray, List.set_cons_zero, List.set_cons_succ]
          refine wpAnyH_take (i := 13) (v := undef) rfl (by kernel_rfl) (by kernel_rfl) (by kernel_rfl) (fun _ _ _ h => h) (Or.inr ⟨by rfl, rfl⟩) (by assumption) ?_
          try simp only [Act.put, List.getElem_toArray, List.getElem_cons_zero, List.getElem_cons_succ, List.setIfInBounds_toArray, List.set_cons_zero, List.set_cons_succ]
          refine wpAnyH_take (i := 14) (v := undef) rfl (by kernel_rfl) (by kernel_rfl) (by kernel_rfl) (fun _ _ _ h => h) (Or.inr ⟨by rfl, rfl⟩) (by assumption) ?_
          try simp only [Act.put, List.getElem_toArray, List.getElem_cons_zero, List.getElem_cons_succ, List.setIfInBounds_toArray, List.set_cons_zero, List.set_cons_succ]
          refine wpAnyH_take (i := 15) (v := undef) rfl (by kernel_rfl) (by kernel_rfl) (by kernel_rfl) (fun _ _ _ h => h) (Or.inr ⟨by rfl, rfl⟩) (by assumption) ?_
          try simp only [Act.put, List.getElem_toArray, List.getElem_cons_zero, List.getElem_cons_succ, List.setIfInBounds_toArray, List.set_cons_zero, List.set_cons_succ]
          refine wpAnyH_take (i := 16) (v := undef) rfl (by kernel_rfl) (by kernel_rfl) (by kernel_rfl) (fun _ _ _ h => h) (Or.inr ⟨by rfl, rfl⟩) (by assumption) ?_
          try simp only [Act.put, List.getElem_toArray, List.getElem_cons_zero, List.getElem_cons_succ, List.setIfInBounds_toArray, List.set_cons_zero, List.set_cons_succ]
          refine wpAnyH_take (i := 17) (v := undef) rfl (by kernel_rfl) (by kernel_rfl) (by kernel_rfl) (fun _ _ _ h => h) (Or.inr ⟨by rfl, rfl⟩) (by assumption) ?_
          try simp only [Act.put, List.getElem_toArray, List.getElem_cons_zero, List.getElem_cons_succ, List.setIfInBounds_toArray, List.set_cons_zero, List.set_cons_succ]
          refine wpAnyH_take (i := 18) (v := undef) rfl (by kernel_rfl) (by kernel_rfl) (by kernel_rfl) (fun _ _ _ h => h) (Or.inr ⟨by rfl, rfl⟩) (by assumption) ?_
          try simp only [Act.put, List.getElem_toArray, List.getElem_cons_zero, List.getElem_cons_succ, List.setIfInBounds_toArray, List.set_cons_zero, List.set_cons_succ]
          refine wpAnyH_take (i := 19) (v := ?v19_2) rfl (by kernel_rfl) (by kernel_rfl) (by kernel_rfl) (fun _ _ _ h => h) (Or.inl ⟨by rfl, ?hy19_2⟩) (by assumption) ?_
          case hy19_2 => (intro W hSw; (try dsimp only at hSw); go_simp; (try with_reducible rfl))
          try simp only [Act.put, List.getElem_toArray, List.getElem_cons_zero, List.getElem_cons_succ, List.setIfInBounds_toArray, List.set_cons_zero, List.set_cons_succ]
          refine wpAnyH_take (i := 20) (v := ?v20_2) rfl (by kernel_rfl) (by kernel_rfl) (by kernel_rfl) (fun _ _ _ h => h) (Or.inl ⟨by rfl, ?hy20_2⟩) (by assumption) ?_
          case hy20_2 => (intro W hSw; (try dsimp only at hSw); go_simp; (try with_reducible rfl))
          try simp only [Act.put, List.getElem_toArray, List.getElem_cons_zero, List.getElem_cons_succ, List.setIfInBounds_toArray, List.set_cons_zero, List.set_cons_succ]
          refine wpAnyH_done (by kernel_rfl) ?_ _
          have HB9 := Lib.hid hHeld.1
          clear hHeld HXa HYa
          go_wp2_with fail
          go_ret
          exact ⟨rfl, HB9.out.below⟩
        have HSS := Lib.hid hss
        have hsb : (y.x.s != x.x.s) = false := by simpa using hss
        clear hss
        refine wp_region_held_drew (S := fun W => WaS w W B (some ad) n L xb x ∧ Blk W yb 53 y.a) (by kernel_rfl) ?_ (fun hHeld => ?_)
        · exact ⟨HXa.out.call (Below.refl _ _).drew, HYa.out.below (Below.refl _ _).drew HYa.out.lt⟩
        refine wpAnyH_take (i := 0) (v := ?v0_3) rfl (by kernel_rfl) (by kernel_rfl) (by kernel_rfl) (fun _ _ _ h => h) (Or.inl ⟨by rfl, ?hy0_3⟩) (by assumption) ?_
        case hy0_3 => (intro W hSw; (try dsimp only at hSw); go_simp; (try with_reducible rfl))
        try simp only [Act.put, List.getElem_toArray, List.getElem_cons_zero, List.setIfInBounds_toArray, List.set_cons_zero, List.set_cons_succ]
        refine wpAnyH_take (i := 1) (v := ?v1_3) rfl (by kernel_rfl) (by kernel_rfl) (by kernel_rfl) (fun _ _ _ h => h) (Or.inl ⟨by rfl, ?hy1_3⟩) (by assumption) ?_
        case hy1_3 => (intro W hSw; have p0 : W.cell? ⟨yb, 0, none⟩ = some (.string (str y.x.n)) := box_cell hSw.2 HNY.out; (try dsimp only at hSw); go_simp; (try with_reducible rfl))
        try simp only [Act.put, List.getElem_toArray, List.getElem_cons_zero, List.getElem_cons_succ, List.setIfInBounds_toArray, List.set_cons_zero, List.set_cons_succ]
        refine wpAnyH_take (i := 2) (v := ?v2_3) rfl (by kernel_rfl) (by kernel_rfl) (by kernel_rfl) (fun _ _ _ h => h) (Or.inl ⟨by rfl, ?hy2_3⟩) (by assumption) ?_
        case hy2_3 => (intro W hSw; (try dsimp only at hSw); go_simp; (try with_reducible rfl))
        try simp only [Act.put, List.getElem_toArray, List.getElem_cons_zero, List.getElem_cons_succ, List.setIfInBounds_toArray, List.set_cons_zero, List.set_cons_succ]
        refine wpAnyH_take (i := 3) (v := ?v3_3) rfl (by kernel_rfl) (by kernel_rfl) (by kernel_rfl) (fun _ _ _ h => h) (Or.inl ⟨by rfl, ?hy3_3⟩) (by assumption) ?_
        case hy3_3 => (intro W hSw; have p0 : W.cell? ⟨xb, 0, none⟩ = some (.string (str x.x.n)) := box_cell hSw.1.k HNX.out; (try dsimp only at hSw); go_simp; (try with_reducible rfl))
        try simp only [Act.put, List.getElem_toArray, List.getElem_cons_zero, List.getElem_cons_succ, List.setIfInBounds_toArray, List.set_cons_zero, List.set_cons_succ]
        refine wpAnyH_take (i := 4) (v := ?v4_3) rfl (by kernel_rfl) (by kernel_rfl) (by kernel_rfl) (fun _ _ _ h => h) (Or.inl ⟨by rfl, ?hy4_3⟩) (by assumption) ?_
        case hy4_3 => (intro W hSw; (try dsimp only at hSw); go_simp; (try with_reducible rfl))
        try simp only [Act.put, List.getElem_toArray, List.getElem_cons_zero, List.getElem_cons_succ, List.setIfInBounds_toArray, List.set_cons_zero, List.set_cons_succ]
        refine wpAnyH_take (i := 5) (v := ?v5_3) rfl (by kernel_rfl) (by kernel_rfl) (by kernel_rfl) (fun _ _ _ h => h) (Or.inl ⟨by rfl, ?hy5_3⟩) (by assumption) ?_
        case hy5_3 => (intro W hSw; (try dsimp only at hSw); go_simp; (try with_reducible rfl))
        try simp only [Act.put, List.getElem_toArray, List.getElem_cons_zero, List.getElem_cons_succ, List.setIfInBounds_toArray, List.set_cons_zero, List.set_cons_succ]
        refine wpAnyH_take (i := 6) (v := ?v6_3) rfl (by kernel_rfl) (by kernel_rfl) (by kernel_rfl) (fun _ _ _ h => h) (Or.inl ⟨by rfl, ?hy6_3⟩) (by assumption) ?_
        case hy6_3 => (intro W hSw; (try dsimp only at hSw); go_simp; (try with_reducible rfl))
        try simp only [Act.put, List.getElem_toArray, List.getElem_cons_zero, List.getElem_cons_succ, List.setIfInBounds_toArray, List.set_cons_zero, List.set_cons_succ]
        refine wpAnyH_take (i := 7) (v := ?v7_3) rfl (by kernel_rfl) (by kernel_rfl) (by kernel_rfl) (fun _ _ _ h => h) (Or.inl ⟨by rfl, ?hy7_3⟩) (by assumption) ?_
        case hy7_3 => (intro W hSw; have p0 : W.cell? ⟨yb, 1, none⟩ = some (.int .i64 y.x.s) := box_cell hSw.2 HTY.out; (try dsimp only at hSw); go_simp; (try with_reducible rfl))
        try simp only [Act.put, List.getElem_toArray, List.getElem_cons_zero, List.getElem_cons_succ, List.setIfInBounds_toArray, List.set_cons_zero, List.set_cons_succ]
        refine wpAnyH_take (i := 8) (v := ?v8_3) rfl (by kernel_rfl) (by kernel_rfl) (by kernel_rfl) (fun _ _ _ h => h) (Or.inl ⟨by rfl, ?hy8_3⟩) (by assumption) ?_
        case hy8_3 => (intro W hSw; (try dsimp only at hSw); go_simp; (try with_reducible rfl))
        try simp only [Act.put, List.getElem_toArray, List.getElem_cons_zero, List.getElem_cons_succ, List.setIfInBounds_toArray, List.set_cons_zero, List.set_cons_succ]
        refine wpAnyH_take (i := 9) (v := ?v9_3) rfl (by kernel_rfl) (by kernel_rfl) (by kernel_rfl) (fun _ _ _ h => h) (Or.inl ⟨by rfl, ?hy9_3⟩) (by assumption) ?_
        case hy9_3 => (intro W hSw; have p0 : W.cell? ⟨xb, 1, none⟩ = some (.int .i64 x.x.s) := box_cell hSw.1.k HTX.out; (try dsimp only at hSw); go_simp; (try with_reducible rfl))
        try simp only [Act.put, List.getElem_toArray, List.getElem_cons_zero, List.getElem_cons_succ, List.setIfInBounds_toArray, List.set_cons_zero, List.set_cons_succ]
        refine wpAnyH_take (i := 10) (v := ?v10_3) rfl (by kernel_rfl) (by kernel_rfl) (by kernel_rfl) (fun _ _ _ h => h) (Or.inl ⟨by rfl, ?hy10_3⟩) (by assumption) ?_
        case hy10_3 => (intro W hSw; (try dsimp only at hSw); go_simp; (try with_reducible rfl))
        try simp only [Act.put, List.getElem_toArray, List.getElem_cons_zero, List.getElem_cons_succ, List.setIfInBounds_toArray, List.set_cons_zero, List.set_cons_succ]
        refine wpAnyH_take (i := 11) (v := ?v11_3) rfl (by kernel_rfl) (by kernel_rfl) (by kernel_rfl) (fun _ _ _ h => h) (Or.inl ⟨by rfl, ?hy11_3⟩) (by assumption) ?_
        case hy11_3 => (intro W hSw; (try dsimp only at hSw); go_simp; (try with_reducible rfl))
        try simp only [Act.put, List.getElem_toArray, List.getElem_cons_zero, List.getElem_cons_succ, List.setIfInBounds_toArray, List.set_cons_zero, List.set_cons_succ]
        refine wpAnyH_take (i := 12) (v := ?v12_3) rfl (by kernel_rfl) (by kernel_rfl) (by kernel_rfl) (fun _ _ _ h => h) (Or.inl ⟨by rfl, ?hy12_3⟩) (by assumption) ?_
        case hy12_3 => (intro W hSw; (try dsimp only at hSw); go_simp; (try with_reducible rfl))
        try simp only [Act.put, List.getElem_toArray, List.getElem_cons_zero, List.getElem_cons_succ, List.setIfInBounds_toArray, List.set_cons_zero, List.set_cons_succ]
        refine wpAnyH_take (i := 13) (v := .agg y.u) rfl (by kernel_rfl) (by kernel_rfl) (by kernel_rfl) (fun _ _ _ h => h) (Or.inl ⟨by rfl, ?hy13_3⟩) (by assumption) ?_
        case hy13_3 => (intro W hSw; exact exec_load (by rfl) ⟨yb, 5, none⟩ (by rfl) _ W (load_u (w := W) (b := yb) y (fun k v hv => box_cell hSw.2 hv)))
        try simp only [Act.put, List.getElem_toArray, List.getElem_cons_zero, List.getElem_cons_succ, List.setIfInBounds_toArray, List.set_cons_zero, List.set_cons_succ]
        refine wpAnyH_take (i := 15) (v := ?v15_3) rfl (by kernel_rfl) (by kernel_rfl) (by kernel_rfl) (fun _ _ _ h => h) (Or.inl ⟨by rfl, ?hy15_3⟩) (by assumption) ?_
        case hy15_3 => (intro W hSw; (try dsimp only at hSw); go_simp; (try with_reducible rfl))
        try simp only [Act.put, List.getElem_toArray, List.getElem_cons_zero, List.getElem_cons_succ, List.setIfInBounds_toArray, List.set_cons_zero, List.set_cons_succ]
        refine wpAnyH_take (i := 16) (v := .agg x.u) rfl (by kernel_rfl) (by kernel_rfl) (by kernel_rfl) (fun _ _ _ h => h) (Or.inl ⟨by rfl, ?hy16_3⟩) (by assumption) ?_
        case hy16_3 => (intro W hSw; exact exec_load (by rfl) ⟨xb, 5, none⟩ (by rfl) _ W (load_u (w := W) (b := xb) x (fun k v hv => box_cell hSw.1.k hv)))
        try simp only [Act.put, List.getElem_toArray, List.getElem_cons_zero, List.getElem_cons_succ, List.setIfInBounds_toArray, List.set_cons_zero, List.set_cons_succ]
        refine wpAnyH_ready (rs := [14]) (by kernel_rfl) (by simp) ?_
        refine AllReadyH.cons rfl (fun K hK => ?_) AllReadyH.nil
        go_simp
        refine (wakes_ld HIY.out hyu _).mono ?_
        rintro e wa ⟨rfl, hb⟩
        refine hK.out _ _ ?_ (fun hHeld2 => ?_)
        · exact ⟨hHeld.1.call hb, hHeld.2.below hb hHeld.2.lt⟩
        clear hK K hHeld hb
        have hHeld := hHeld2
        clear hHeld2
        try simp only [Act.put, List.getElem_toArray, List.getElem_cons_zero, List.getElem_cons_succ, List.setIfInBounds_toArray, List.set_cons_zero, List.set_cons_succ]
        refine wpAnyH_ready (rs := [17]) (by kernel_rfl) (by simp) ?_
        refine AllReadyH.cons rfl (fun K hK => ?_) AllReadyH.nil
        go_simp
        refine (wakes_ld HIX.out hxu _).mono ?_
        rintro e wa ⟨rfl, hb⟩
        refine hK.out _ _ ?_ (fun hHeld2 => ?_)
        · exact ⟨hHeld.1.call hb, hHeld.2.below hb hHeld.2.lt⟩
        clear hK K hHeld hb
        have hHeld := hHeld2
        clear hHeld2
        try simp only [Act.put, List.getElem_toArray, List.getElem_cons_zero, List.getElem_cons_succ, List.setIfInBounds_toArray, List.set_cons_zero, List.set_cons_succ]
        refine wpAnyH_take (i := 18) (v := ?v18_3) rfl (by kernel_rfl) (by kernel_rfl) (by kernel_rfl) (fun _ _ _ h => h) (Or.inl ⟨by rfl, ?hy18_3⟩) (by assumption) ?_
        case hy18_3 => (intro W hSw; (try dsimp only at hSw); go_simp; (try with_reducible rfl))
        try simp only [Act.put, List.getElem_toArray, List.getElem_cons_zero, List.getElem_cons_succ, List.setIfInBounds_toArray, List.set_cons_zero, List.set_cons_succ]
        refine wpAnyH_take (i := 19) (v := ?v19_3) rfl (by kernel_rfl) (by kernel_rfl) (by kernel_rfl) (fun _ _ _ h => h) (Or.inl ⟨by rfl, ?hy19_3⟩) (by assumption) ?_
        case hy19_3 => (intro W hSw; (try dsimp only at hSw); go_simp; (try with_reducible rfl))
        try simp only [Act.put, List.getElem_toArray, List.getElem_cons_zero, List.getElem_cons_succ, List.setIfInBounds_toArray, List.set_cons_zero, List.set_cons_succ]
        refine wpAnyH_take (i := 20) (v := ?v20_3) rfl (by kernel_rfl) (by kernel_rfl) (by kernel_rfl) (fun _ _ _ h => h) (Or.inl ⟨by rfl, ?hy20_3⟩) (by assumption) ?_
        case hy20_3 => (intro W hSw; (try dsimp only at hSw); go_simp; (try with_reducible rfl))
        try simp only [Act.put, List.getElem_toArray, List.getElem_cons_zero, List.getElem_cons_succ, List.setIfInBounds_toArray, List.set_cons_zero, List.set_cons_succ]
        refine wpAnyH_done (by kernel_rfl) ?_ _
        have HB9 := Lib.hid hHeld.1
        clear hHeld HXa HYa
        by_cases hwk : y.x.wk = x.x.wk
        · have HWK := Lib.hid hwk
          rw [decide_eq_true hwk] at hne hne2
          simp only [Bool.not_true] at hne
          have hdw : (!decide (y.x.wk = x.x.wk)) = false := by rw [decide_eq_true hwk]; rfl
          clear hwk
          have HAG2 : Hid (∀ i z, i < k + 1 → L[i]? = some z → z.x.n = x.x.n → z.x.s = x.x.s ∧ z.x.wk = x.x.wk) := ag_succ HAG.out HY.out (fun _ => ⟨HSS.out, HWK.out⟩)
          simp only [hdw]
          go_wp2_with fail
          go_roundw
          case rel => exact ⟨k + 1, by omega, by go_num, HAG2, HB9⟩
          case measure => simp [intOf]; omega
        · rw [decide_eq_false hwk] at hne hne2
          simp only [Bool.not_false] at hne
          have hdw : (!decide (y.x.wk = x.x.wk)) = true := by rw [decide_eq_false hwk]; rfl
          clear hwk
          simp only [hdw]
          go_wp2_with fail
          go_ret
          exact ⟨rfl, HB9.out.below⟩
      · obtain rfl : k = n := by omega
        have hwh := hX.out.below.size
        go_wp2_with fail
        refine (oOf_any (some ad) k c B L wr hX.out.lds hX.out.hB hS (by omega)).mono ?_
        rintro e w3 ⟨g1, rfl, hg1, hb3⟩
        have hok := ofE_ok (K := kT) (L.map (·.x))
        obtain ⟨ns, hns⟩ : ∃ ns, nodesL kT (L.map (·.x)) = ns := ⟨_, rfl⟩
        obtain ⟨es, hes⟩ : ∃ es, ofE kT (L.map (·.x)) = es := ⟨_, rfl⟩
        rw [hns, hes] at hg1 hok
        clear hns hes
        obtain ⟨NA, nc, EA, ec, rfl, _⟩ := hg1.form
        have hes := may_few hok.may
        have HOL : Hid (∀ u j, (outG es u j).length ≤ 40960) := fun u j => by have := outP_few es u j es.length; rw [outP_all] at this; omega
        have HOK := Lib.hid hok
        have HG3 : Hid (WgS w (w3.alloc (.cells #[.slice NA ns.length nc, .slice EA es.length ec] 29)) B (some ad) k L xb x w3.heap.size #[.slice NA ns.length nc, .slice EA es.length ec] ns es w3.heap.size) :=
          ⟨(hX.out.call hb3).call ((Below.refl _ _).alloc (Nat.le_refl _) _), Blk.new _ _ _, hg1.below ((Below.refl _ _).alloc (Nat.le_refl _) _), by simp⟩
        obtain ⟨y0, hy0⟩ := first_is (l := L.map (·.x)) (x := x.x) (List.mem_map.2 ⟨x, hxm, rfl⟩)
        have hag : y0.s = x.x.s ∧ y0.wk = x.x.wk := by
          obtain ⟨h1, h2⟩ := first_some hy0
          obtain ⟨z, hz, rfl⟩ := List.mem_map.1 h1
          obtain ⟨i, hi, he⟩ := List.mem_iff_getElem.1 hz
          exact HAG.out i z (by omega) (by rw [List.getElem?_eq_getElem hi, he]) h2
        have HFI := Lib.hid hy0
        have HYG := Lib.hid hag
        clear hok hg1 hb3 hX HAG hy0 hag
        have HLU := fun W (h : Blk W xb 53 x.a) => load_u (w := W) (b := xb) x (fun k v hv => box_cell h hv)
        go_wp2_with (first
          | (refine wpList_load_part rfl 51 (.tmp 65) (by rfl) ⟨xb, 5, none⟩ (by rfl) (.agg x.u) (HLU _ HG3.out.wa.k) ?_)
          | fail)
        obtain ⟨w4, hw4⟩ : ∃ w4, w3.alloc (.cells #[.slice NA ns.length nc, .slice EA es.length ec] 29) = w4 := ⟨_, rfl⟩
        obtain ⟨gb, hgb⟩ : ∃ gb, w3.heap.size = gb := ⟨_, rfl⟩
        rw [hw4, hgb] at HG3
        rw [hw4, hgb]
        clear hw4 hgb
        refine (wakes_ld (HG3.out.wa.lds.is x hxm) hxu _).mono ?_
        rintro e w5 ⟨rfl, hb5⟩
        have HG5 := Lib.hid (HG3.out.call hb5)
        clear HG3 hb5
        obtain ⟨wk, hwk⟩ : ∃ wk, x.x.wk = wk := ⟨_, rfl⟩
        rw [hwk]
        have HWK := Lib.hid hwk
        clear hwk
        have e0 := HG5.out.gk.cell 0
        have e1 := HG5.out.gk.cell 1
        go_wp2_with fail
        clear e0 e1
        obtain ⟨p, hp⟩ : ∃ p, nodeB ns wk = p := ⟨_, rfl⟩
        obtain ⟨a2, ha2⟩ : ∃ a2, (nodeG ns wk).getD noNd = a2 := ⟨_, rfl⟩
        have HND := Lib.hid (oNode15_any _ ns es wk gb w5 HG5.out.gr HG5.out.hgh)
        rw [nodeV_eq, hp, ha2] at HND
        have HP := Lib.hid hp
        clear hp ha2
        refine HND.out.mono ?_
        rintro e w6 ⟨rfl, hb6⟩
        have HG6 := Lib.hid (HG5.out.call hb6)
        have HG7 := Lib.hid (HG6.out.call ((Below.refl _ _).alloc (Nat.le_refl _) (.cells #[.string (str a2.n), .int .i64 a2.k, .int .i64 a2.s] 32)))
        clear HG5 HG6 hb6 HND
        have f0 := box_cell HG7.out.wa.k HNX.out
        have f1 := box_cell HG7.out.wa.k HTX.out
        have hq := eqT_str wk x.x.n
        have hq0 := emT_str wk
        have hsz : (str x.x.n).size ≤ maxLen := by rw [str_size]; exact hxn
        have hof := fun W => Nm.Of_any (str x.x.n) hsz W
        have fl0 := fun W => Nm.fld0 (Nm.kindP (str x.x.n)) (Nm.preP (str x.x.n)) (Nm.instP (str x.x.n)) (Nm.atP (str x.x.n)) W
        by_cases hs : x.x.s = 1
        case neg =>
          have hsb : (x.x.s != 1) = true := by simpa using hs
          clear hq hq0
          go_wp2_with fail
          go_ret
          exact ⟨rfl, HG7.out.wa.below⟩
        have HS1 := Lib.hid hs
        have hsb : (x.x.s != 1) = false := by simpa using hs
        clear hs
        by_cases hw0 : wk = []
        · rw [decide_eq_true hw0] at hq0
          clear hw0
          go_wp2_with fail
          go_ret
          exact ⟨rfl, HG7.out.wa.below⟩
        have HW0 := Lib.hid hw0
        rw [decide_eq_false hw0] at hq0
        clear hw0
        by_cases hwn : wk = x.x.n
        · rw [decide_eq_true hwn] at hq
          clear hwn
          go_wp2_with fail
          go_ret
          exact ⟨rfl, HG7.out.wa.below⟩
        have HWN := Lib.hid hwn
        rw [decide_eq_false hwn] at hq
        clear hwn
        cases p
        case false =>
          go_wp2_with fail
          go_ret
          exact ⟨rfl, HG7.out.wa.below⟩
        go_wp2_with fail
        obtain ⟨w8, hw8⟩ : ∃ w8, w6.alloc (.cells #[.string (str a2.n), .int .i64 a2.k, .int .i64 a2.s] 32) = w8 := ⟨_, rfl⟩
        rw [hw8] at HG7
        rw [hw8]
        clear hw8 f0 f1
        refine (hof _).mono ?_
        rintro e w9 ⟨rfl, hb9⟩
        have HG9 := Lib.hid (HG7.out.call hb9)
        clear HG7 hb9
        have HKK : Hid (Nm.kindP (str x.x.n) = kT x.x.n) := rfl
        have hkk : kT x.x.n = 2 ∨ kT x.x.n = 3 := by
          have h1 := (HSO.out x hxm HS1.out).2
          obtain ⟨t, _, h3⟩ := (HG9.out.wa.lds.is x hxm).wake
          rw [HWK.out] at h3
          unfold wakeT at h3
          by_cases c : x.x.uk = 2 ∨ x.x.uk = 3
          · rwa [h1] at c
          · rw [if_neg c] at h3; exact absurd h3 HW0.out
        have hkn : kT x.x.n ≠ 0 := by omega
        have hk0 : (Nm.kindP (str x.x.n) == 0) = false := by rw [HKK.out]; exact beq_false_of_ne hkn
        have hk1 : ¬ Nm.kindP (str x.x.n) = 0 := by rw [HKK.out]; exact hkn
        obtain ⟨hr1, hr2⟩ := wake_rel HOK.out (by rw [List.length_map]; omega) HFI.out (List.mem_map.2 ⟨x, hxm, rfl⟩) hkk (by rw [HYG.out.1]; exact HS1.out) (by rw [HYG.out.2, HWK.out]; exact HP.out) (by rw [HYG.out.2, HWK.out]; exact HWN.out)
        rw [HYG.out.2, HWK.out] at hr1 hr2
        have HA1 := Lib.hid (any_tx hr1)
        have HA2 := Lib.hid (any_tx hr2)
        clear hkk hkn hr1 hr2
        have e0 := HG9.out.gk.cell 0
        have e1 := HG9.out.gk.cell 1
        have f0 := box_cell HG9.out.wa.k HNX.out
        go_wp2_with fail
        clear e0 e1 f0
        refine (oOut_any _ ns es x.x.n 10 gb _ HG9.out.gr HG9.out.hgh (by omega)).mono ?_
        intro e wb1 hp
        obtain ⟨LD1, c1', rfl, hs1, hbo⟩ := put_row hp (by have := HOL.out x.x.n 10; unfold maxLen; omega)
        have HSL1 := Lib.hid hs1
        have HGd := Lib.hid (HG9.out.call hbo)
        clear hp hs1 hbo HG9
        go_wp2_with fail
        refine (Has_any LD1 _ c1' _ _ (str wk) _ (txs_row.1 HSL1.out)).mono ?_
        rintro e we1 ⟨he, rfl⟩
        rw [HA1.out] at he
        subst he
        have e0 := HGd.out.gk.cell 0
        have e1 := HGd.out.gk.cell 1
        have f0 := box_cell HGd.out.wa.k HNX.out
        go_wp2_with fail
        clear e0 e1 f0
        refine (oOut_any _ ns es x.x.n 7 gb _ HGd.out.gr HGd.out.hgh (by omega)).mono ?_
        intro e wb2 hp
        obtain ⟨LD2, c2', rfl, hs2, hbo⟩ := put_row hp (by have := HOL.out x.x.n 7; unfold maxLen; omega)
        have HSL2 := Lib.hid hs2
        have HGf := Lib.hid (HGd.out.call hbo)
        clear hp hs2 hbo HGd
        go_wp2_with fail
        refine (Has_any LD2 _ c2' _ _ (str wk) _ (txs_row.1 HSL2.out)).mono ?_
        rintro e we2 ⟨he, rfl⟩
        rw [HA2.out] at he
        subst he
        go_wp2_with fail
        go_ret
        exact ⟨rfl, HGf.out.wa.below⟩
end Go.Proofs.YtcoepioahabbdaaGreat
