/- The walks of the document's Out and In. -/
import Derived.Test.YtcoepioahabbdaaGreatGyar
import Derived.Test.YtcoepioahabbdaaGreatGyaq
import Derived.Test.YtcoepioahabbdaaGreatGyam
import Derived.Test.YtcoepioahabbdaaGreatGyae
import Derived.Test.YtcoepioahabbdaaGreatGyaa
import Derived.Test.YtcoepioahabbdaaGreatGyab
import Derived.Test.YtcoepioahabbdaaGreatGyad
import Derived.Test.YtcoepioahabbdaaGreatGyac
import Derived.Test.YtcoepioahabbdaaGreatGxaa
import Derived.Test.YtcoepioahabbdaaGreatGyaf
import Derived.Test.YtcoepioahabbdaaGreatGyag
import Derived.Test.YtcoepioahabbdaaGreatGxab
import Derived.Test.YtcoepioahabbdaaGreatGyap
namespace Go.Proofs.YtcoepioahabbdaaGreat
open Go.RowKit
theorem outP_succ {es : List Ed} {u : Tx} {r : Int} {k : Nat} {e : Ed} (h : es[k]? = some e) : outP es u r (k + 1) = if e.f = u ∧ e.r = r then putG (fun a b : Tx => a < b) (outP es u r k) e.t else outP es u r k := by
  unfold outP putAll
  rw [List.take_add_one, h]
  simp only [Option.toList_some, List.filter_append, List.map_append]
  by_cases hp : e.f = u ∧ e.r = r
  · simp [hp]
  · rw [if_neg hp]; simp [hp]
set_option maxHeartbeats 8000000 in
theorem gOut_any (g : Array Value) (ns : List Nd) (es : List Ed) (u : Tx) (r : Int) (B : Nat) (w : World) (h : GrAt w B g ns es) (hB : B ≤ w.heap.size) (hes : es.length ≤ 524288) :
    Calls Tryz.prog 20 #[.agg g, .string (str u), .int .i64 r] w (PutPost w.heap.size (outG es u r) w) := by
  obtain ⟨NA, nc, EA, ec, rfl, h2, h3, h4, h5, h6, h7⟩ := h.form
  have hm := h7.2.1
  unfold maxLen at hm
  have HL := Lib.hid h7
  have HB0 : Hid (Below w.heap.size w (w.alloc (.cells #[.slice NA ns.length nc, .slice EA es.length ec] 29))) := (Below.refl _ w).alloc (Nat.le_refl _) _
  have HK := Lib.hid (Blk.new w 29 #[.slice NA ns.length nc, .slice EA es.length ec])
  have e1 := HK.out.cell 1
  clear h h2 h3 h4 h5 h6 h7
  go_enter Tryz.func20, Tryz.ntmps20
  go_wp2_with fail
  clear e1
  obtain ⟨w0, hw0⟩ : ∃ w0, w.alloc (.cells #[.slice NA ns.length nc, .slice EA es.length ec] 29) = w0 := ⟨_, rfl⟩
  rw [hw0] at HB0
  rw [hw0]
  clear HK hw0
  have HO0 : Hid (OwnG txLay 9 w0 w.heap.size (.slice none 0 0) (outP es u r 0)) := OwnG.nil _ _
  go_loopw [7, 13] (fun p i wr => ∃ (A : Option Addr) (m c k : Nat), k ≤ es.length ∧ (outP es u r k).length = m ∧ p = .slice A m c ∧ i = .int .i64 k ∧ Hid (OwnG txLay 9 wr w.heap.size (.slice A m c) (outP es u r k)) ∧ Hid (Below w.heap.size w wr)) (fun p i wr => es.length - (intOf i).toNat)
  case atStart => exact ⟨none, 0, 0, 0, Nat.zero_le _, rfl, rfl, rfl, HO0, HB0⟩
  case round =>
    clear HO0 HB0
    obtain ⟨A, m, c, k, hk, hml, rfl, rfl, hO, hb⟩ := hrel
    by_cases hlt : k < es.length
    · have b0 : (0 : Int) ≤ (k : Int) := by omega
      have b1 : (k : Int) < (es.length : Int) := by omega
      obtain ⟨ad, x, rfl, hab, hx, q0, q1, q2⟩ := eds_at (HL.out.below (hb.out.mono hB)) hlt
      have HS := Lib.hid (outP_succ (u := u) (r := r) hx)
      have hq := eqT_str x.f u
      have hfw := outP_few es u r k
      clear hx
      have HOa : Hid (OwnG txLay 9 (wr.alloc (.cells #[.string (str x.f), .string (str x.t), .int .i64 x.r] 58)) w.heap.size (.slice A m c) (outP es u r k)) := hO.out.below ((Below.refl _ _).alloc (Nat.le_refl _) _)
      have HBa : Hid (Below w.heap.size w (wr.alloc (.cells #[.string (str x.f), .string (str x.t), .int .i64 x.r] 58))) := hb.out.alloc hb.out.size _
      have hbs := HBa.out.size
      by_cases hf : x.f = u
      · by_cases hr : x.r = r
        · have HP : Hid (outP es u r (k + 1) = putG (fun a b : Tx => a < b) (outP es u r k) x.t) := by show _ = _; rw [HS.out, if_pos ⟨hf, hr⟩]
          have hq2 : (x.r == r) = true := by simpa using hr
          rw [decide_eq_true hf] at hq
          clear hf hr HS
          go_wp2_with fail
          refine (gPut_any w.heap.size _ _ x.t _ HOa.out hbs (by omega)).mono ?_
          rintro e w7 ⟨v7, rfl, ho7, hb7⟩
          rw [← HP.out] at ho7
          obtain ⟨A7, c7, hv7, hz1, hz2, hz3, hz4⟩ := ho7.slice (by have := outP_few es u r (k + 1); unfold maxLen; omega)
          subst hv7
          have HO7 := Lib.hid ho7
          have HB7 := Lib.hid (more3 HBa.out hbs hb7)
          clear hz1 hz2 hz3 hz4 ho7 hb7 hq2
          go_wp2_with fail
          go_roundw
          case rel => exact ⟨A7, _, c7, k + 1, by omega, rfl, rfl, by go_num, HO7, HB7⟩
          case measure => simp [intOf]; omega
        · have HP : Hid (outP es u r (k + 1) = outP es u r k) := by show _ = _; rw [HS.out, if_neg (fun h => hr h.2)]
          have hq2 : (x.r == r) = false := by simpa using hr
          rw [decide_eq_true hf] at hq
          clear hf hr HS
          go_wp2_with fail
          go_roundw
          case rel => exact ⟨A, _, c, k + 1, by omega, by rw [HP.out]; exact hml, rfl, by go_num, by rw [HP.out]; exact HOa, HBa⟩
          case measure => simp [intOf]; omega
      · have HP : Hid (outP es u r (k + 1) = outP es u r k) := by show _ = _; rw [HS.out, if_neg (fun h => hf h.1)]
        rw [decide_eq_false hf] at hq
        clear hf HS
        go_wp2_with fail
        go_roundw
        case rel => exact ⟨A, _, c, k + 1, by omega, by rw [HP.out]; exact hml, rfl, by go_num, by rw [HP.out]; exact HOa, HBa⟩
        case measure => simp [intOf]; omega
    · obtain rfl : k = es.length := by omega
      have HG : Hid (OwnG txLay 9 wr w.heap.size (.slice A m c) (outG es u r)) := by show OwnG _ _ _ _ _ _; rw [← outP_all]; exact hO.out
      go_wp2_with fail
      go_ret
      exact ⟨_, rfl, HG.out, hb.out⟩
theorem inP_succ {es : List Ed} {u : Tx} {r : Int} {k : Nat} {e : Ed} (h : es[k]? = some e) : inP es u r (k + 1) = if e.t = u ∧ e.r = r then putG (fun a b : Tx => a < b) (inP es u r k) e.f else inP es u r k := by
  unfold inP putAll
  rw [List.take_add_one, h]
  simp only [Option.toList_some, List.filter_append, List.map_append]
  by_cases hp : e.t = u ∧ e.r = r
  · simp [hp]
  · rw [if_neg hp]; simp [hp]
set_option maxHeartbeats 8000000 in
theorem gIn_any (g : Array Value) (ns : List Nd) (es : List Ed) (u : Tx) (r : Int) (B : Nat) (w : World) (h : GrAt w B g ns es) (hB : B ≤ w.heap.size) (hes : es.length ≤ 524288) :
    Calls Tryz.prog 22 #[.agg g, .string (str u), .int .i64 r] w (PutPost w.heap.size (inG es u r) w) := by
  obtain ⟨NA, nc, EA, ec, rfl, h2, h3, h4, h5, h6, h7⟩ := h.form
  have hm := h7.2.1
  unfold maxLen at hm
  have HL := Lib.hid h7
  have HB0 : Hid (Below w.heap.size w (w.alloc (.cells #[.slice NA ns.length nc, .slice EA es.length ec] 29))) := (Below.refl _ w).alloc (Nat.le_refl _) _
  have HK := Lib.hid (Blk.new w 29 #[.slice NA ns.length nc, .slice EA es.length ec])
  have e1 := HK.out.cell 1
  clear h h2 h3 h4 h5 h6 h7
  go_enter Tryz.func22, Tryz.ntmps22
  go_wp2_with fail
  clear e1
  obtain ⟨w0, hw0⟩ : ∃ w0, w.alloc (.cells #[.slice NA ns.length nc, .slice EA es.length ec] 29) = w0 := ⟨_, rfl⟩
  rw [hw0] at HB0
  rw [hw0]
  clear HK hw0
  have HO0 : Hid (OwnG txLay 9 w0 w.heap.size (.slice none 0 0) (inP es u r 0)) := OwnG.nil _ _
  go_loopw [7, 13] (fun p i wr => ∃ (A : Option Addr) (m c k : Nat), k ≤ es.length ∧ (inP es u r k).length = m ∧ p = .slice A m c ∧ i = .int .i64 k ∧ Hid (OwnG txLay 9 wr w.heap.size (.slice A m c) (inP es u r k)) ∧ Hid (Below w.heap.size w wr)) (fun p i wr => es.length - (intOf i).toNat)
  case atStart => exact ⟨none, 0, 0, 0, Nat.zero_le _, rfl, rfl, rfl, HO0, HB0⟩
  case round =>
    clear HO0 HB0
    obtain ⟨A, m, c, k, hk, hml, rfl, rfl, hO, hb⟩ := hrel
    by_cases hlt : k < es.length
    · have b0 : (0 : Int) ≤ (k : Int) := by omega
      have b1 : (k : Int) < (es.length : Int) := by omega
      obtain ⟨ad, x, rfl, hab, hx, q0, q1, q2⟩ := eds_at (HL.out.below (hb.out.mono hB)) hlt
      have HS := Lib.hid (inP_succ (u := u) (r := r) hx)
      have hq := eqT_str x.t u
      have hfw := inP_few es u r k
      clear hx
      have HOa : Hid (OwnG txLay 9 (wr.alloc (.cells #[.string (str x.f), .string (str x.t), .int .i64 x.r] 58)) w.heap.size (.slice A m c) (inP es u r k)) := hO.out.below ((Below.refl _ _).alloc (Nat.le_refl _) _)
      have HBa : Hid (Below w.heap.size w (wr.alloc (.cells #[.string (str x.f), .string (str x.t), .int .i64 x.r] 58))) := hb.out.alloc hb.out.size _
      have hbs := HBa.out.size
      by_cases hf : x.t = u
      · by_cases hr : x.r = r
        · have HP : Hid (inP es u r (k + 1) = putG (fun a b : Tx => a < b) (inP es u r k) x.f) := by show _ = _; rw [HS.out, if_pos ⟨hf, hr⟩]
          have hq2 : (x.r == r) = true := by simpa using hr
          rw [decide_eq_true hf] at hq
          clear hf hr HS
          go_wp2_with fail
          refine (gPut_any w.heap.size _ _ x.f _ HOa.out hbs (by omega)).mono ?_
          rintro e w7 ⟨v7, rfl, ho7, hb7⟩
          rw [← HP.out] at ho7
          obtain ⟨A7, c7, hv7, hz1, hz2, hz3, hz4⟩ := ho7.slice (by have := inP_few es u r (k + 1); unfold maxLen; omega)
          subst hv7
          have HO7 := Lib.hid ho7
          have HB7 := Lib.hid (more3 HBa.out hbs hb7)
          clear hz1 hz2 hz3 hz4 ho7 hb7 hq2
          go_wp2_with fail
          go_roundw
          case rel => exact ⟨A7, _, c7, k + 1, by omega, rfl, rfl, by go_num, HO7, HB7⟩
          case measure => simp [intOf]; omega
        · have HP : Hid (inP es u r (k + 1) = inP es u r k) := by show _ = _; rw [HS.out, if_neg (fun h => hr h.2)]
          have hq2 : (x.r == r) = false := by simpa using hr
          rw [decide_eq_true hf] at hq
          clear hf hr HS
          go_wp2_with fail
          go_roundw
          case rel => exact ⟨A, _, c, k + 1, by omega, by rw [HP.out]; exact hml, rfl, by go_num, by rw [HP.out]; exact HOa, HBa⟩
          case measure => simp [intOf]; omega
      · have HP : Hid (inP es u r (k + 1) = inP es u r k) := by show _ = _; rw [HS.out, if_neg (fun h => hf h.1)]
        rw [decide_eq_false hf] at hq
        clear hf HS
        go_wp2_with fail
        go_roundw
        case rel => exact ⟨A, _, c, k + 1, by omega, by rw [HP.out]; exact hml, rfl, by go_num, by rw [HP.out]; exact HOa, HBa⟩
        case measure => simp [intOf]; omega
    · obtain rfl : k = es.length := by omega
      have HG : Hid (OwnG txLay 9 wr w.heap.size (.slice A m c) (inG es u r)) := by show OwnG _ _ _ _ _ _; rw [← inP_all]; exact hO.out
      go_wp2_with fail
      go_ret
      exact ⟨_, rfl, HG.out, hb.out⟩
end Go.Proofs.YtcoepioahabbdaaGreat
