/- The walks of Node, Out and In. -/
import Derived.Test.YtcoepioahabbdaaGreatGybg
namespace Go.Proofs.YtcoepioahabbdaaGreat
open Go.RowKit
theorem filt_succ {α β : Type} {l : List α} {k : Nat} {e : α} (h : l[k]? = some e) (P : α → Bool) (f : α → β) : ((l.take (k + 1)).filter P).map f = ((l.take k).filter P).map f ++ (if P e then [f e] else []) := by
  rw [List.take_add_one, h]
  simp only [Option.toList_some, List.filter_append, List.map_append]
  congr 1
  cases hp : P e <;> simp [hp]
set_option maxHeartbeats 8000000 in
theorem node_any (g : Array Value) (ns : List Nd) (es : List Ed) (u : Tx) (B : Nat) (w : World) (h : GrAt w B g ns es) (hB : B ≤ w.heap.size) :
    Calls Tryz.prog 14 #[.agg g, .string (str u)] w fun e w' => e = .returned (nodeV (nodeG ns u)) ∧ Below w.heap.size w w' := by
  obtain ⟨NA, nc, EA, ec, rfl, _, _, _, _, hE, _⟩ := h.form
  have hm := hE.2.1
  unfold maxLen at hm
  have HL := Lib.hid hE
  clear h hE
  have HR0 : Hid (Blk ((w.alloc (.cells #[.slice NA ns.length nc, .slice EA es.length ec] 29)).alloc (.cells #[.string ⟨#[]⟩, .int .i64 0, .int .i64 0] 32)) (w.heap.size + 1) 32 (ndA noNd)) := by
    have := Blk.new (w.alloc (.cells #[.slice NA ns.length nc, .slice EA es.length ec] 29)) 32 (ndA noNd)
    rwa [show (w.alloc (.cells #[.slice NA ns.length nc, .slice EA es.length ec] 29)).heap.size = w.heap.size + 1 by simp] at this
  have HB0 : Hid (Below w.heap.size w ((w.alloc (.cells #[.slice NA ns.length nc, .slice EA es.length ec] 29)).alloc (.cells #[.string ⟨#[]⟩, .int .i64 0, .int .i64 0] 32))) := ((Below.refl _ w).alloc (Nat.le_refl _) _).alloc (by simp) _
  have HN0 : Hid ((ns.take 0).find? (fun x => decide (x.n = u)) = none) := rfl
  go_enter Tryz.func14, Tryz.ntmps14
  go_wp2_with fail
  generalize (w.alloc (.cells #[.slice NA ns.length nc, .slice EA es.length ec] 29)).alloc (.cells #[.string ⟨#[]⟩, .int .i64 0, .int .i64 0] 32) = w0 at *
  go_loopw [11] (fun i wr => ∃ k : Nat, k ≤ ns.length ∧ i = .int .i64 k ∧ Hid (Below w.heap.size w wr) ∧ Hid (Blk wr (w.heap.size + 1) 32 (ndA noNd)) ∧ Hid ((ns.take k).find? (fun x => decide (x.n = u)) = none)) (fun i wr => ns.length - (intOf i).toNat)
  case atStart => exact ⟨0, Nat.zero_le _, rfl, HB0, HR0, HN0⟩
  case round =>
    obtain ⟨k, hk, rfl, hb, hR, hN⟩ := hrel
    have hRl : w.heap.size + 1 < wr.heap.size := hR.out.lt
    by_cases hlt : k < ns.length
    · have b0 : (0 : Int) ≤ (k : Int) := by omega
      have b1 : (k : Int) < (ns.length : Int) := by omega
      obtain ⟨ad, x, rfl, hab, hx, q0, q1, q2⟩ := nds_at (HL.out.below (hb.out.mono hB)) hlt
      have z1 : (ad.add (k * 3)).block < wr.heap.size := by rw [addA_block]; omega
      obtain ⟨n1, n2⟩ := find_take hN.out hx
      have hq := eqT_str x.n u
      by_cases hxn : x.n = u
      · have HF := Lib.hid (n1 (decide_eq_true hxn))
        rw [decide_eq_true hxn] at hq
        clear hxn n1 n2 hx
        have HR1 : Hid (Blk (wr.alloc (.cells #[.string (str x.n), .int .i64 x.k, .int .i64 x.s] 32)) (w.heap.size + 1) 32 (ndA noNd)) := hR.out.alloc _
        have HB1 : Hid (Below w.heap.size w (wr.alloc (.cells #[.string (str x.n), .int .i64 x.k, .int .i64 x.s] 32))) := hb.out.alloc hb.out.size _
        go_wp2_with (refine wpList_store_row rfl 32 (.tmp 4) (.tmp 19) (by rfl) (w.heap.size + 1) (ndA x) (by rfl) (by rfl) 32 (ndA noNd) HR1.out (by kernel_rfl) rfl (ndA_all _) ?_)
        refine bodyPost_ret (results_cell_tmp (p := 4) (q := 5) rfl _ _ (w.heap.size + 1) 32 (ndA x) _ _ rfl rfl (Blk.row HR1.out _) Tryz.underlying32 rfl (by kernel_rfl)) rfl ⟨by unfold nodeG; rw [HF.out]; rfl, below_setRow HB1.out (by omega) _⟩
      · have HF := Lib.hid (n2 (decide_eq_false hxn))
        rw [decide_eq_false hxn] at hq
        clear hxn n1 n2 hx
        go_wp2_with fail
        go_roundw
        case rel => exact ⟨k + 1, by omega, by go_num, hb.out.alloc hb.out.size _, hR.out.alloc _, HF⟩
        case measure => simp [intOf]; omega
    · obtain rfl : k = ns.length := by omega
      have HF : Hid (nodeG ns u = none) := by
        have := hN.out
        rwa [List.take_of_length_le (by omega)] at this
      go_wp2_with (refine wpList_store_row rfl 32 (.tmp 4) (.tmp 21) (by rfl) (w.heap.size + 1) (ndA noNd) (by rfl) (by rfl) 32 (ndA noNd) hR.out (by kernel_rfl) rfl (ndA_all _) ?_)
      exact bodyPost_ret (results_cell_tmp (p := 4) (q := 5) rfl _ _ (w.heap.size + 1) 32 (ndA noNd) _ _ rfl rfl (Blk.row hR.out _) Tryz.underlying32 rfl (by kernel_rfl)) rfl ⟨by rw [HF.out]; rfl, below_setRow hb.out (by omega) _⟩
set_option maxRecDepth 10000 in
set_option maxHeartbeats 16000000 in
theorem out_any (g : Array Value) (ns : List Nd) (es : List Ed) (u : Tx) (r : Int) (B : Nat) (w : World) (h : GrAt w B g ns es) (hB : B ≤ w.heap.size) (hes : es.length ≤ 524288) :
    Calls Tryz.prog 19 #[.agg g, .string (str u), .int .i64 r] w (PutPost w.heap.size (outG es u r) w) := by
  obtain ⟨NA, nc, EA, ec, rfl, _, _, _, _, _, hE⟩ := h.form
  have HL := Lib.hid hE
  have hbw : Below w.heap.size w (w.alloc (.cells #[.slice NA ns.length nc, .slice EA es.length ec] 29)) := (Below.refl _ w).alloc (Nat.le_refl _) _
  have HO0 : Hid (OwnG txLay 9 (w.alloc (.cells #[.slice NA ns.length nc, .slice EA es.length ec] 29)) w.heap.size (.slice none 0 0) (((es.take 0).filter (fun e => decide (e.f = u ∧ e.r = r))).map (·.t))) := OwnG.nil _ _
  have c1 : (w.alloc (.cells #[.slice NA ns.length nc, .slice EA es.length ec] 29)).cell? ⟨w.heap.size, 1, none⟩ = some (.slice EA es.length ec) := (Blk.new w _ _).cell 1
  have HG : Hid (outG es u r = putAll (lt := fun a b : Tx => a < b) ((es.filter (fun e => decide (e.f = u ∧ e.r = r))).map (·.t))) := rfl
  clear h hE
  unfold PutPost
  go_enter Tryz.func19, Tryz.ntmps19
  go_wp2_with fail
  obtain ⟨w0, hw0⟩ : ∃ w0, w.alloc (.cells #[.slice NA ns.length nc, .slice EA es.length ec] 29) = w0 := ⟨_, rfl⟩
  rw [hw0] at hbw HO0 c1
  rw [hw0]
  have HB0 := Lib.hid hbw
  have hs0 := hbw.size
  clear hw0 hbw c1
  obtain ⟨m, hm⟩ : ∃ m, es.length = m := ⟨_, rfl⟩
  rw [hm] at HL hes
  rw [hm]
  have HM := Lib.hid hm
  clear hm
  go_loopw [7, 13] (fun v i wr => ∃ (A' : Option Addr) (n' c' k : Nat), k ≤ m ∧ v = .slice A' n' c' ∧ i = .int .i64 k ∧ Hid (OwnG txLay 9 wr w.heap.size (.slice A' n' c') (((es.take k).filter (fun e => decide (e.f = u ∧ e.r = r))).map (·.t))) ∧ Hid (Below w.heap.size w wr)) (fun _ i wr => m - (intOf i).toNat)
  case atStart => exact ⟨none, 0, 0, 0, Nat.zero_le _, rfl, rfl, HO0, HB0⟩
  case round =>
    clear HO0
    obtain ⟨A', n', c', k, hk, rfl, rfl, hO, hBw⟩ := hrel
    have hws := hBw.out.size
    by_cases hlt : k < m
    · have b0 : (0 : Int) ≤ (k : Int) := by omega
      have b1 : (k : Int) < (m : Int) := by omega
      obtain ⟨ad, x, rfl, hab, hx, q0, q1, q2⟩ := eds_at (HL.out.below (hBw.out.mono hB)) hlt
      have HT := Lib.hid (filt_succ hx (fun e : Ed => decide (e.f = u ∧ e.r = r)) (·.t))
      have hlen : (((es.take k).filter (fun e => decide (e.f = u ∧ e.r = r))).map (·.t)).length ≤ 524288 := by
        rw [List.length_map]
        exact Nat.le_trans (List.length_filter_le _ _) (by rw [List.length_take]; omega)
      obtain ⟨ys, hys⟩ : ∃ ys, ((es.take k).filter (fun e => decide (e.f = u ∧ e.r = r))).map (·.t) = ys := ⟨_, rfl⟩
      rw [hys] at hO HT hlen
      have HOa := Lib.hid (hO.out.below ((Below.refl _ wr).alloc (Nat.le_refl _) (.cells #[.string (str x.f), .string (str x.t), .int .i64 x.r] 58)))
      have HBa := Lib.hid (hBw.out.alloc hws (.cells #[.string (str x.f), .string (str x.t), .int .i64 x.r] 58))
      have hqu := eqT_str x.f u
      clear hx hys hO hBw
      by_cases hu : x.f = u
      · rw [decide_eq_true hu] at hqu
        by_cases hr : x.r = r
        · have hrr : (x.r == r) = true := by simpa using hr
          have HY : Hid (((es.take (k + 1)).filter (fun e => decide (e.f = u ∧ e.r = r))).map (·.t) = ys ++ [x.t]) := by show _ = _; rw [HT.out, if_pos (by simp [hu, hr])]
          have HOb := Lib.hid (HOa.out.below ((Below.refl _ _).alloc (Nat.le_refl _) (.cells #[.string (str x.t)] 9)))
          have HTx := Lib.hid (tx_one x.t (alloc2_new wr (.cells #[.string (str x.f), .string (str x.t), .int .i64 x.r] 58) (.cells #[.string (str x.t)] 9)))
          have HBb := Lib.hid (HBa.out.alloc (by simp; omega) (.cells #[.string (str x.t)] 9))
          clear hu hr HT
          go_wp2_with (refine wpList_appendO txTy rfl _ _ rfl w.heap.size _ ys [x.t] rfl HOb.out ⟨wr.heap.size + 1, 0, none⟩ 1 1 rfl rfl HTx.out (by omega) (by simp; omega) ?_)
          intro v5 w5 own5 grow5 _
          have HB5 := Lib.hid (HBb.out.grown grow5 (by simp; omega) (fun g hg => (HOb.out.lt hg).1))
          obtain ⟨A5, c5, rfl, _, _, _, _⟩ := own5.slice (by rw [List.length_append, List.length_singleton]; unfold maxLen; omega)
          have HO5 := Lib.hid own5
          clear own5 grow5
          go_wp2_with fail
          go_roundw
          case rel => exact ⟨A5, _, c5, k + 1, by omega, rfl, by go_num, by rw [HY.out]; exact HO5, HB5⟩
          case measure => simp [intOf]; omega
        · have hrr : (x.r == r) = false := by simpa using hr
          have HY : Hid (((es.take (k + 1)).filter (fun e => decide (e.f = u ∧ e.r = r))).map (·.t) = ys) := by show _ = _; rw [HT.out, if_neg (by simp [hr]), List.append_nil]
          clear hu hr HT
          go_wp2_with fail
          go_roundw
          case rel => exact ⟨A', n', c', k + 1, by omega, rfl, by go_num, by rw [HY.out]; exact HOa, HBa⟩
          case measure => simp [intOf]; omega
      · rw [decide_eq_false hu] at hqu
        have HY : Hid (((es.take (k + 1)).filter (fun e => decide (e.f = u ∧ e.r = r))).map (·.t) = ys) := by show _ = _; rw [HT.out, if_neg (by simp [hu]), List.append_nil]
        clear hu HT
        go_wp2_with fail
        go_roundw
        case rel => exact ⟨A', n', c', k + 1, by omega, rfl, by go_num, by rw [HY.out]; exact HOa, HBa⟩
        case measure => simp [intOf]; omega
    · obtain rfl : k = m := by omega
      rw [show es.take k = es from List.take_of_length_le (by rw [HM.out]; exact Nat.le_refl _)] at hO
      have has := asc_any w.heap.size _ _ wr hO.out (by rw [List.length_map]; exact Nat.le_trans (List.length_filter_le _ _) (by rw [HM.out]; omega))
      have hlt' := fun (x : Nat) (hx : _) => (hO.out.lt (g := x) hx).1
      go_wp2_with fail
      refine has.mono ?_
      rintro e w5 ⟨v5, rfl, ho5, hg5⟩
      have HO5 := Lib.hid ho5
      have HB5 := Lib.hid (hBw.out.grown hg5 hws (fun x hx => hlt' x hx))
      clear ho5 hg5 has hlt'
      go_wp2_with fail
      go_ret
      exact ⟨_, rfl, by rw [HG.out]; exact HO5.out, HB5.out⟩
set_option maxRecDepth 10000 in
set_option maxHeartbeats 16000000 in
theorem in_any (g : Array Value) (ns : List Nd) (es : List Ed) (u : Tx) (r : Int) (B : Nat) (w : World) (h : GrAt w B g ns es) (hB : B ≤ w.heap.size) (hes : es.length ≤ 524288) :
    Calls Tryz.prog 21 #[.agg g, .string (str u), .int .i64 r] w (PutPost w.heap.size (inG es u r) w) := by
  obtain ⟨NA, nc, EA, ec, rfl, _, _, _, _, _, hE⟩ := h.form
  have HL := Lib.hid hE
  have hbw : Below w.heap.size w (w.alloc (.cells #[.slice NA ns.length nc, .slice EA es.length ec] 29)) := (Below.refl _ w).alloc (Nat.le_refl _) _
  have HO0 : Hid (OwnG txLay 9 (w.alloc (.cells #[.slice NA ns.length nc, .slice EA es.length ec] 29)) w.heap.size (.slice none 0 0) (((es.take 0).filter (fun e => decide (e.t = u ∧ e.r = r))).map (·.f))) := OwnG.nil _ _
  have c1 : (w.alloc (.cells #[.slice NA ns.length nc, .slice EA es.length ec] 29)).cell? ⟨w.heap.size, 1, none⟩ = some (.slice EA es.length ec) := (Blk.new w _ _).cell 1
  have HG : Hid (inG es u r = putAll (lt := fun a b : Tx => a < b) ((es.filter (fun e => decide (e.t = u ∧ e.r = r))).map (·.f))) := rfl
  clear h hE
  unfold PutPost
  go_enter Tryz.func21, Tryz.ntmps21
  go_wp2_with fail
  obtain ⟨w0, hw0⟩ : ∃ w0, w.alloc (.cells #[.slice NA ns.length nc, .slice EA es.length ec] 29) = w0 := ⟨_, rfl⟩
  rw [hw0] at hbw HO0 c1
  rw [hw0]
  have HB0 := Lib.hid hbw
  have hs0 := hbw.size
  clear hw0 hbw c1
  obtain ⟨m, hm⟩ : ∃ m, es.length = m := ⟨_, rfl⟩
  rw [hm] at HL hes
  rw [hm]
  have HM := Lib.hid hm
  clear hm
  go_loopw [7, 13] (fun v i wr => ∃ (A' : Option Addr) (n' c' k : Nat), k ≤ m ∧ v = .slice A' n' c' ∧ i = .int .i64 k ∧ Hid (OwnG txLay 9 wr w.heap.size (.slice A' n' c') (((es.take k).filter (fun e => decide (e.t = u ∧ e.r = r))).map (·.f))) ∧ Hid (Below w.heap.size w wr)) (fun _ i wr => m - (intOf i).toNat)
  case atStart => exact ⟨none, 0, 0, 0, Nat.zero_le _, rfl, rfl, HO0, HB0⟩
  case round =>
    clear HO0
    obtain ⟨A', n', c', k, hk, rfl, rfl, hO, hBw⟩ := hrel
    have hws := hBw.out.size
    by_cases hlt : k < m
    · have b0 : (0 : Int) ≤ (k : Int) := by omega
      have b1 : (k : Int) < (m : Int) := by omega
      obtain ⟨ad, x, rfl, hab, hx, q0, q1, q2⟩ := eds_at (HL.out.below (hBw.out.mono hB)) hlt
      have HT := Lib.hid (filt_succ hx (fun e : Ed => decide (e.t = u ∧ e.r = r)) (·.f))
      have hlen : (((es.take k).filter (fun e => decide (e.t = u ∧ e.r = r))).map (·.f)).length ≤ 524288 := by
        rw [List.length_map]
        exact Nat.le_trans (List.length_filter_le _ _) (by rw [List.length_take]; omega)
      obtain ⟨ys, hys⟩ : ∃ ys, ((es.take k).filter (fun e => decide (e.t = u ∧ e.r = r))).map (·.f) = ys := ⟨_, rfl⟩
      rw [hys] at hO HT hlen
      have HOa := Lib.hid (hO.out.below ((Below.refl _ wr).alloc (Nat.le_refl _) (.cells #[.string (str x.f), .string (str x.t), .int .i64 x.r] 58)))
      have HBa := Lib.hid (hBw.out.alloc hws (.cells #[.string (str x.f), .string (str x.t), .int .i64 x.r] 58))
      have hqu := eqT_str x.t u
      clear hx hys hO hBw
      by_cases hu : x.t = u
      · rw [decide_eq_true hu] at hqu
        by_cases hr : x.r = r
        · have hrr : (x.r == r) = true := by simpa using hr
          have HY : Hid (((es.take (k + 1)).filter (fun e => decide (e.t = u ∧ e.r = r))).map (·.f) = ys ++ [x.f]) := by show _ = _; rw [HT.out, if_pos (by simp [hu, hr])]
          have HOb := Lib.hid (HOa.out.below ((Below.refl _ _).alloc (Nat.le_refl _) (.cells #[.string (str x.f)] 9)))
          have HTx := Lib.hid (tx_one x.f (alloc2_new wr (.cells #[.string (str x.f), .string (str x.t), .int .i64 x.r] 58) (.cells #[.string (str x.f)] 9)))
          have HBb := Lib.hid (HBa.out.alloc (by simp; omega) (.cells #[.string (str x.f)] 9))
          clear hu hr HT
          go_wp2_with (refine wpList_appendO txTy rfl _ _ rfl w.heap.size _ ys [x.f] rfl HOb.out ⟨wr.heap.size + 1, 0, none⟩ 1 1 rfl rfl HTx.out (by omega) (by simp; omega) ?_)
          intro v5 w5 own5 grow5 _
          have HB5 := Lib.hid (HBb.out.grown grow5 (by simp; omega) (fun g hg => (HOb.out.lt hg).1))
          obtain ⟨A5, c5, rfl, _, _, _, _⟩ := own5.slice (by rw [List.length_append, List.length_singleton]; unfold maxLen; omega)
          have HO5 := Lib.hid own5
          clear own5 grow5
          go_wp2_with fail
          go_roundw
          case rel => exact ⟨A5, _, c5, k + 1, by omega, rfl, by go_num, by rw [HY.out]; exact HO5, HB5⟩
          case measure => simp [intOf]; omega
        · have hrr : (x.r == r) = false := by simpa using hr
          have HY : Hid (((es.take (k + 1)).filter (fun e => decide (e.t = u ∧ e.r = r))).map (·.f) = ys) := by show _ = _; rw [HT.out, if_neg (by simp [hr]), List.append_nil]
          clear hu hr HT
          go_wp2_with fail
          go_roundw
          case rel => exact ⟨A', n', c', k + 1, by omega, rfl, by go_num, by rw [HY.out]; exact HOa, HBa⟩
          case measure => simp [intOf]; omega
      · rw [decide_eq_false hu] at hqu
        have HY : Hid (((es.take (k + 1)).filter (fun e => decide (e.t = u ∧ e.r = r))).map (·.f) = ys) := by show _ = _; rw [HT.out, if_neg (by simp [hu]), List.append_nil]
        clear hu HT
        go_wp2_with fail
        go_roundw
        case rel => exact ⟨A', n', c', k + 1, by omega, rfl, by go_num, by rw [HY.out]; exact HOa, HBa⟩
        case measure => simp [intOf]; omega
    · obtain rfl : k = m := by omega
      rw [show es.take k = es from List.take_of_length_le (by rw [HM.out]; exact Nat.le_refl _)] at hO
      have has := asc_any w.heap.size _ _ wr hO.out (by rw [List.length_map]; exact Nat.le_trans (List.length_filter_le _ _) (by rw [HM.out]; omega))
      have hlt' := fun (x : Nat) (hx : _) => (hO.out.lt (g := x) hx).1
      go_wp2_with fail
      refine has.mono ?_
      rintro e w5 ⟨v5, rfl, ho5, hg5⟩
      have HO5 := Lib.hid ho5
      have HB5 := Lib.hid (hBw.out.grown hg5 hws (fun x hx => hlt' x hx))
      clear ho5 hg5 has hlt'
      go_wp2_with fail
      go_ret
      exact ⟨_, rfl, by rw [HG.out]; exact HO5.out, HB5.out⟩
end Go.Proofs.YtcoepioahabbdaaGreat
