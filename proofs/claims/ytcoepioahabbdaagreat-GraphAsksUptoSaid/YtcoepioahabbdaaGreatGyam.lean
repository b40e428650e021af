/- Loaded units in memory: their cells, what they say. A graph in a box of its own, with its rows behind it. The walk of th -/
import Derived.Test.YtcoepioahabbdaaGreatGyae
import Derived.Test.YtcoepioahabbdaaGreatGyaf
import Derived.Test.YtcoepioahabbdaaGreatGyag
import Derived.Test.YtcoepioahabbdaaGreatGyal
import Derived.ChangeKeysEq
namespace Go.Proofs.YtcoepioahabbdaaGreat
open Go.RowKit
def rlLay : Lay (Int × Tx) := ⟨fun e => [.int .i64 e.1, .string (str e.2)], 2, by decide, fun _ => rfl, fun x u hu => by simp at hu; rcases hu with rfl | rfl <;> rfl⟩
theorem rls_at {w : World} {B n : Nat} {A : Option Addr} {l : List (Int × Tx)} (h : SlAt rlLay w B A n l) {k : Nat} (hk : k < n) :
    ∃ ad e, A = some ad ∧ ad.block < B ∧ l[k]? = some e ∧ w.cell? (ad.add (k * 2)) = some (.int .i64 e.1) ∧ w.cell? ⟨(ad.add (k * 2)).block, (ad.add (k * 2)).off + 1, none⟩ = some (.string (str e.2)) := by
  obtain ⟨ad, x, e, hb, hx, hc⟩ := h.at_ hk
  exact ⟨ad, x, e, hb, hx, hc 0 _ rfl, by have := hc 1 _ rfl; rwa [show rlLay.sz = 2 from rfl, addA_off _ _ _ (by decide)] at this⟩
structure LdR where
  a : Array Value
  x : Ld
  len : a.toList.length = 42
  one : ∀ u ∈ a.toList, u.oneCell' = true
def ldLay : Lay LdR := ⟨fun r => r.a.toList, 42, by decide, fun r => r.len, fun r u hu => r.one u hu⟩
theorem LdR.size (r : LdR) : r.a.size = 42 := by have := r.len; simpa using this
theorem LdR.all (r : LdR) : r.a.all (·.oneCell') = true := by
  rw [Array.all_eq_true_iff_forall_mem]
  intro u hu
  exact r.one u (Array.mem_toList_iff.2 hu)
def RowC {α : Type} (L : Lay α) (w : World) (B : Nat) (v : Option Value) (l : List α) : Prop := ∃ A c, v = some (.slice A l.length c) ∧ l.length ≤ c ∧ (A = none → c = 0) ∧ SlAt L w B A l.length l
theorem RowC.below {α : Type} {L : Lay α} {w w' : World} {B : Nat} {v : Option Value} {l : List α} (h : RowC L w B v l) (hb : Below B w w') : RowC L w' B v l := by
  obtain ⟨A, c, h1, h2, h3, h4⟩ := h
  exact ⟨A, c, h1, h2, h3, h4.below hb⟩
theorem RowC.wide {α : Type} {L : Lay α} {w : World} {B B' : Nat} {v : Option Value} {l : List α} (h : RowC L w B v l) (hb : B ≤ B') : RowC L w B' v l := by
  obtain ⟨A, c, h1, h2, h3, h4⟩ := h
  exact ⟨A, c, h1, h2, h3, h4.wide hb⟩
def wakeT (k : Int) (t n : Tx) : Tx := if k = 2 ∨ k = 3 then (if t = [] then (Nm.chgS (str n) 1).data.toList else t) else []
structure LdIs (w : World) (B : Nat) (r : LdR) : Prop where
  name : r.a[0]? = some (.string (str r.x.n))
  state : r.a[1]? = some (.int .i64 r.x.s)
  un : r.a[5]? = some (.string (str r.x.un))
  uk : r.a[6]? = some (.int .i64 r.x.uk)
  dflt : r.a[8]? = some (.bool r.x.dflt)
  rels : RowC rlLay w B r.a[9]? r.x.rels
  socks : RowC txLay w B r.a[25]? r.x.socks
  wake : ∃ t, r.a[29]? = some (.string (str t)) ∧ r.x.wk = wakeT r.x.uk t r.x.un
  wants : RowC txLay w B r.a[40]? r.x.wants
  reqs : RowC txLay w B r.a[41]? r.x.reqs
theorem LdIs.below {w w' : World} {B : Nat} {r : LdR} (h : LdIs w B r) (hb : Below B w w') : LdIs w' B r :=
  ⟨h.name, h.state, h.un, h.uk, h.dflt, h.rels.below hb, h.socks.below hb, h.wake, h.wants.below hb, h.reqs.below hb⟩
theorem LdIs.wide {w : World} {B B' : Nat} {r : LdR} (h : LdIs w B r) (hb : B ≤ B') : LdIs w B' r :=
  ⟨h.name, h.state, h.un, h.uk, h.dflt, h.rels.wide hb, h.socks.wide hb, h.wake, h.wants.wide hb, h.reqs.wide hb⟩
structure Small (x : Ld) : Prop where
  n : x.n.length ≤ maxLen
  un : x.un.length ≤ maxLen
  rels : ∀ r ∈ x.rels, r.2.length ≤ maxLen
  wants : ∀ t ∈ x.wants, t.length ≤ maxLen
  reqs : ∀ t ∈ x.reqs, t.length ≤ maxLen
  rows : x.rels.length + x.wants.length + x.reqs.length ≤ 1048576
  socks : x.socks.length ≤ 1048576
  stx : ∀ t ∈ x.socks, t.length ≤ maxLen
structure LdsAt (w : World) (B : Nat) (A : Option Addr) (n : Nat) (L : List LdR) : Prop where
  row : SlAt ldLay w B A n L
  is : ∀ r ∈ L, LdIs w B r
theorem LdsAt.below {w w' : World} {B n : Nat} {A : Option Addr} {L : List LdR} (h : LdsAt w B A n L) (hb : Below B w w') : LdsAt w' B A n L := ⟨h.row.below hb, fun r hr => (h.is r hr).below hb⟩
theorem LdsAt.wide {w : World} {B B' n : Nat} {A : Option Addr} {L : List LdR} (h : LdsAt w B A n L) (hb : B ≤ B') : LdsAt w B' A n L := ⟨h.row.wide hb, fun r hr => (h.is r hr).wide hb⟩
end Go.Proofs.YtcoepioahabbdaaGreat
namespace Go.Proofs.YtcoepioahabbdaaGreat
open Go.RowKit
theorem box_cell {w : World} {g : Nat} {t : TypeId} {a : Array Value} (h : Blk w g t a) {k : Nat} {v : Value} (hv : a[k]? = some v) : w.cell? ⟨g, k, none⟩ = some v := by rw [h.cell k, hv]
structure GBox (w : World) (g : Nat) (ns : List Nd) (es : List Ed) : Prop where
  form : ∃ N E, Blk w g 29 #[N, E] ∧ OwnG ndLay 32 w (g + 1) N ns ∧ OwnG edLay 58 w (g + 1) E es
theorem GBox.lt {w : World} {g : Nat} {ns : List Nd} {es : List Ed} (h : GBox w g ns es) : g < w.heap.size := by
  obtain ⟨N, E, h1, _⟩ := h.form
  exact h1.lt
theorem GBox.below {w w' : World} {g : Nat} {ns : List Nd} {es : List Ed} (h : GBox w g ns es) (hb : Below w.heap.size w w') : GBox w' g ns es := by
  obtain ⟨N, E, h1, h2, h3⟩ := h.form
  exact ⟨N, E, h1.below hb h1.lt, h2.below hb, h3.below hb⟩
theorem GBox.at_ {w : World} {g : Nat} {ns : List Nd} {es : List Ed} (h : GBox w g ns es) (hn : ns.length ≤ maxLen) (he : es.length ≤ maxLen) : ∃ NA nc EA ec, Blk w g 29 #[.slice NA ns.length nc, .slice EA es.length ec] ∧ GrAt w w.heap.size #[.slice NA ns.length nc, .slice EA es.length ec] ns es ∧ OwnG ndLay 32 w (g + 1) (.slice NA ns.length nc) ns ∧ OwnG edLay 58 w (g + 1) (.slice EA es.length ec) es := by
  obtain ⟨N, E, h1, h2, h3⟩ := h.form
  obtain ⟨NA, nc, rfl, a1, a2, a3, a4⟩ := h2.slice hn
  obtain ⟨EA, ec, rfl, b1, b2, b3, b4⟩ := h3.slice he
  exact ⟨NA, nc, EA, ec, h1, ⟨NA, nc, EA, ec, rfl, a1, b1, a2, b2, a4, b4⟩, h2, h3⟩
end Go.Proofs.YtcoepioahabbdaaGreat
namespace Go.Proofs.YtcoepioahabbdaaGreat
open Go.RowKit
def edA (x : Ed) : Array Value := #[.string (str x.f), .string (str x.t), .int .i64 x.r]
set_option maxHeartbeats 4000000 in
theorem gLess_any (x y : Ed) (w : World) :
    Calls Tryz.prog 38 #[.agg #[.string (str x.f), .string (str x.t), .int .i64 x.r], .agg #[.string (str y.f), .string (str y.t), .int .i64 y.r]] w fun e w' => e = .returned (.bool (decide (ltE x y))) ∧ Below w.heap.size w w' := by
  have HB : Hid (Below w.heap.size w ((w.alloc (.cells #[.string (str x.f), .string (str x.t), .int .i64 x.r] 58)).alloc (.cells #[.string (str y.f), .string (str y.t), .int .i64 y.r] 58))) := ((Below.refl _ w).alloc (Nat.le_refl _) _).alloc (by simp) _
  have h1 := eqT_str x.f y.f
  have h2 := eqT_str x.t y.t
  have h3 := ltT_str x.f y.f
  have h4 := ltT_str x.t y.t
  by_cases hf : x.f = y.f
  · rw [decide_eq_true hf] at h1
    by_cases ht : x.t = y.t
    · rw [decide_eq_true ht] at h2
      have HF : Hid (decide (ltE x y) = decide (x.r < y.r)) := by
        show _ = _
        rw [Bool.eq_iff_iff, decide_eq_true_eq, decide_eq_true_eq]
        unfold ltE
        rw [hf, ht]
        simp [List.lt_irrefl]
      clear hf ht h3 h4
      go_enter Tryz.func38, Tryz.ntmps38
      go_wp2_with fail
      go_ret
      exact ⟨ret_bool HF.out.symm, HB.out⟩
    · rw [decide_eq_false ht] at h2
      have HF : Hid (decide (ltE x y) = decide (x.t < y.t)) := by
        show _ = _
        rw [Bool.eq_iff_iff, decide_eq_true_eq, decide_eq_true_eq]
        unfold ltE
        rw [hf]
        simp [List.lt_irrefl, ht]
      clear hf ht h3
      go_enter Tryz.func38, Tryz.ntmps38
      go_wp2_with fail
      go_ret
      exact ⟨ret_bool HF.out.symm, HB.out⟩
  · rw [decide_eq_false hf] at h1
    have HF : Hid (decide (ltE x y) = decide (x.f < y.f)) := by
      show _ = _
      rw [Bool.eq_iff_iff, decide_eq_true_eq, decide_eq_true_eq]
      unfold ltE
      simp [hf]
    clear hf h2 h4
    go_enter Tryz.func38, Tryz.ntmps38
    go_wp2_with fail
    go_ret
    exact ⟨ret_bool HF.out.symm, HB.out⟩
end Go.Proofs.YtcoepioahabbdaaGreat
namespace Go.Proofs.YtcoepioahabbdaaGreat
open Go.RowKit
end Go.Proofs.YtcoepioahabbdaaGreat
namespace Go.Proofs.YtcoepioahabbdaaGreat
open Go.RowKit
theorem take_eq {α : Type} {l l' : List α} {k : Nat} {x y : α} (h : l.take k = l'.take k) (hx : l[k]? = some x) (hy : l'[k]? = some y) : (x = y → l.take (k + 1) = l'.take (k + 1)) ∧ (x ≠ y → l ≠ l') := by
  refine ⟨fun e => ?_, fun hn e => ?_⟩
  · rw [List.take_add_one, List.take_add_one, h, hx, hy, e]
  · rw [e, hy] at hx
    injection hx with hx
    exact hn hx.symm
set_option maxHeartbeats 16000000 in
theorem gSame_any (g g' : Array Value) (ns ns' : List Nd) (es es' : List Ed) (B : Nat) (w : World) (h : GrAt w B g ns es) (h' : GrAt w B g' ns' es') (hB : B ≤ w.heap.size) :
    Calls Tryz.prog 11 #[.agg g, .agg g'] w fun e w' => e = .returned (.bool (decide (ns = ns') && decide (es = es'))) ∧ Below w.heap.size w w' := by
  obtain ⟨NA, nc, EA, ec, rfl, _, _, _, _, hN1, hE1⟩ := h.form
  obtain ⟨NA', nc', EA', ec', rfl, _, _, _, _, hN2, hE2⟩ := h'.form
  have m1 := hN1.2.1
  have m2 := hE1.2.1
  have m3 := hN2.2.1
  have m4 := hE2.2.1
  unfold maxLen at m1 m2 m3 m4
  have HN1 := Lib.hid hN1
  have HN2 := Lib.hid hN2
  have HE1 := Lib.hid hE1
  have HE2 := Lib.hid hE2
  clear hN1 hN2 hE1 hE2 h h'
  have HBW : Hid (Below w.heap.size w ((w.alloc (.cells #[.slice NA ns.length nc, .slice EA es.length ec] 29)).alloc (.cells #[.slice NA' ns'.length nc', .slice EA' es'.length ec'] 29))) := ((Below.refl _ w).alloc (Nat.le_refl _) _).alloc (by simp) _
  have HK1 : Hid (Blk ((w.alloc (.cells #[.slice NA ns.length nc, .slice EA es.length ec] 29)).alloc (.cells #[.slice NA' ns'.length nc', .slice EA' es'.length ec'] 29)) w.heap.size 29 #[.slice NA ns.length nc, .slice EA es.length ec]) := (Blk.new w _ _).alloc _
  have HK2 : Hid (Blk ((w.alloc (.cells #[.slice NA ns.length nc, .slice EA es.length ec] 29)).alloc (.cells #[.slice NA' ns'.length nc', .slice EA' es'.length ec'] 29)) (w.heap.size + 1) 29 #[.slice NA' ns'.length nc', .slice EA' es'.length ec']) := by
    have := Blk.new (w.alloc (.cells #[.slice NA ns.length nc, .slice EA es.length ec] 29)) 29 #[.slice NA' ns'.length nc', .slice EA' es'.length ec']
    rwa [show (w.alloc (.cells #[.slice NA ns.length nc, .slice EA es.length ec] 29)).heap.size = w.heap.size + 1 by simp] at this
  by_cases hnn : ns.length = ns'.length
  · by_cases hee : es.length = es'.length
    · have d1 : ((ns.length : Int) != (ns'.length : Int)) = false := by rw [hnn]; simp
      have d2 : ((es.length : Int) != (es'.length : Int)) = false := by rw [hee]; simp
      have HNN := Lib.hid hnn
      have HEE := Lib.hid hee
      have hnl : ns.length ≤ ns'.length := by omega
      have hel : es.length ≤ es'.length := by omega
      clear hnn hee
      go_enter Tryz.func11, Tryz.ntmps11
      go_wp2_with fail
      generalize (w.alloc (.cells #[.slice NA ns.length nc, .slice EA es.length ec] 29)).alloc (.cells #[.slice NA' ns'.length nc', .slice EA' es'.length ec'] 29) = w0 at *
      go_loopw [26] (fun i wr => ∃ k : Nat, k ≤ ns.length ∧ i = .int .i64 k ∧ Hid (Below w.heap.size w wr) ∧ Hid (Blk wr w.heap.size 29 #[.slice NA ns.length nc, .slice EA es.length ec]) ∧ Hid (Blk wr (w.heap.size + 1) 29 #[.slice NA' ns'.length nc', .slice EA' es'.length ec']) ∧ Hid (ns.take k = ns'.take k)) (fun i wr => ns.length - (intOf i).toNat)
      case atStart => exact ⟨0, Nat.zero_le _, rfl, HBW, HK1, HK2, rfl⟩
      case round =>
        obtain ⟨k, hk, rfl, hb, hK1, hK2, hT⟩ := hrel
        have c0 := hK1.out.cell 0
        have c1 := hK1.out.cell 1
        have c2 := hK2.out.cell 0
        have c3 := hK2.out.cell 1
        by_cases hlt : k < ns.length
        · have b0 : (0 : Int) ≤ (k : Int) := by omega
          have b1 : (k : Int) < (ns.length : Int) := by omega
          have b2 : (k : Int) < (ns'.length : Int) := by omega
          obtain ⟨ad, x, rfl, hab, hx, q0, q1, q2⟩ := nds_at (HN1.out.below (hb.out.mono hB)) hlt
          obtain ⟨ad', y, rfl, hab', hy, r0, r1, r2⟩ := nds_at (HN2.out.below (hb.out.mono hB)) (by omega : k < ns'.length)
          obtain ⟨t1, t2⟩ := take_eq hT.out hx hy
          have hq : ∀ W, (binOp .neq 32 (.agg #[.string (str x.n), .int .i64 x.k, .int .i64 x.s]) (.agg #[.string (str y.n), .int .i64 y.k, .int .i64 y.s])).run Tryz.prog W = .ok (.bool (!decide (x = y))) W := fun W => by
            rw [run_neq_node, eqT_str]
            congr 3
            obtain ⟨x1, x2, x3⟩ := x
            obtain ⟨y1, y2, y3⟩ := y
            rw [Bool.eq_iff_iff]
            simp
          clear hx hy
          by_cases hxy : x = y
          · have HT1 := Lib.hid (t1 hxy)
            rw [decide_eq_true hxy] at hq
            clear hxy t1 t2
            go_wp2_with fail
            go_quiet (fail)
            go_wp2_with fail
            go_roundw
            case rel => exact ⟨k + 1, by omega, by go_num, below_drewN hb.out _, hK1, hK2, HT1⟩
            case measure => simp [intOf]; omega
          · have HF := Lib.hid (t2 hxy)
            rw [decide_eq_false hxy] at hq
            clear hxy t1 t2
            go_wp2_with fail
            go_quiet (fail)
            go_wp2_with fail
            go_ret
            exact ⟨ret_bool (by rw [decide_eq_false HF.out]; rfl), below_drewN hb.out _⟩
        · obtain rfl : k = ns.length := by omega
          have HNE : Hid (ns = ns') := by
            have := hT.out
            rwa [List.take_length, List.take_of_length_le (by have := HNN.out; omega)] at this
          clear hT
          go_wp2_with fail
          go_loopw [44] (fun i wi => ∃ k : Nat, k ≤ es.length ∧ i = .int .i64 k ∧ Hid (Below w.heap.size w wi) ∧ Hid (Blk wi w.heap.size 29 #[.slice NA ns.length nc, .slice EA es.length ec]) ∧ Hid (Blk wi (w.heap.size + 1) 29 #[.slice NA' ns'.length nc', .slice EA' es'.length ec']) ∧ Hid (es.take k = es'.take k)) (fun i wi => es.length - (intOf i).toNat)
          case atStart => exact ⟨0, Nat.zero_le _, rfl, hb, hK1, hK2, rfl⟩
          case round =>
            clear hb hK1 hK2 c0 c1 c2 c3
            obtain ⟨k, hk, rfl, hb, hK1, hK2, hT⟩ := hrel
            have c0 := hK1.out.cell 0
            have c1 := hK1.out.cell 1
            have c2 := hK2.out.cell 0
            have c3 := hK2.out.cell 1
            by_cases hlt : k < es.length
            · have b0 : (0 : Int) ≤ (k : Int) := by omega
              have b1 : (k : Int) < (es.length : Int) := by omega
              have b2 : (k : Int) < (es'.length : Int) := by omega
              obtain ⟨ad, x, rfl, hab, hx, q0, q1, q2⟩ := eds_at (HE1.out.below (hb.out.mono hB)) hlt
              obtain ⟨ad', y, rfl, hab', hy, r0, r1, r2⟩ := eds_at (HE2.out.below (hb.out.mono hB)) (by omega : k < es'.length)
              obtain ⟨t1, t2⟩ := take_eq hT.out hx hy
              have hq : ∀ W, (binOp .neq 58 (.agg #[.string (str x.f), .string (str x.t), .int .i64 x.r]) (.agg #[.string (str y.f), .string (str y.t), .int .i64 y.r])).run Tryz.prog W = .ok (.bool (!decide (x = y))) W := fun W => by
                rw [run_neq_edge, eqT_str, eqT_str]
                congr 3
                obtain ⟨x1, x2, x3⟩ := x
                obtain ⟨y1, y2, y3⟩ := y
                rw [Bool.eq_iff_iff]
                simp
              clear hx hy
              by_cases hxy : x = y
              · have HT1 := Lib.hid (t1 hxy)
                rw [decide_eq_true hxy] at hq
                clear hxy t1 t2
                go_wp2_with fail
                go_quiet (fail)
                go_wp2_with fail
                go_roundw
                case rel => exact ⟨k + 1, by omega, by go_num, below_drewN hb.out _, hK1, hK2, HT1⟩
                case measure => simp [intOf]; omega
              · have HF := Lib.hid (t2 hxy)
                rw [decide_eq_false hxy] at hq
                clear hxy t1 t2
                go_wp2_with fail
                go_quiet (fail)
                go_wp2_with fail
                go_ret
                exact ⟨ret_bool (by rw [decide_eq_false HF.out, Bool.and_false]), below_drewN hb.out _⟩
            · obtain rfl : k = es.length := by omega
              have HEQ : Hid (es = es') := by
                have := hT.out
                rwa [List.take_length, List.take_of_length_le (by have := HEE.out; omega)] at this
              go_wp2_with fail
              go_ret
              exact ⟨ret_bool (by rw [decide_eq_true HNE.out, decide_eq_true HEQ.out]; rfl), hb.out⟩
    · have d1 : ((ns.length : Int) != (ns'.length : Int)) = false := by rw [hnn]; simp
      have d2 : ((es.length : Int) != (es'.length : Int)) = true := by simp; omega
      have HF : Hid (es ≠ es') := fun e => hee (by rw [e])
      clear hnn hee
      go_enter Tryz.func11, Tryz.ntmps11
      go_wp2_with fail
      go_ret
      exact ⟨ret_bool (by rw [decide_eq_false HF.out, Bool.and_false]), HBW.out⟩
  · have d1 : ((ns.length : Int) != (ns'.length : Int)) = true := by simp; omega
    have HF : Hid (ns ≠ ns') := fun e => hnn (by rw [e])
    clear hnn
    go_enter Tryz.func11, Tryz.ntmps11
    go_wp2_with fail
    go_ret
    exact ⟨ret_bool (by rw [decide_eq_false HF.out, Bool.false_and]), HBW.out⟩
end Go.Proofs.YtcoepioahabbdaaGreat
