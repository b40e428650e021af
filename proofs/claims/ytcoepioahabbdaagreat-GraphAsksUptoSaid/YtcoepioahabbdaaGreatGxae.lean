/- The walk of GraphAsks. -/
import Derived.Test.YtcoepioahabbdaaGreatGybt
import Derived.Test.YtcoepioahabbdaaGreatGybq
import Derived.Test.YtcoepioahabbdaaGreatGybp
import Derived.Test.YtcoepioahabbdaaGreatGyay
import Derived.Test.YtcoepioahabbdaaGreatGyax
import Derived.Test.YtcoepioahabbdaaGreatGyaw
import Derived.Test.YtcoepioahabbdaaGreatGyav
import Derived.Test.YtcoepioahabbdaaGreatGyas
import Derived.Test.YtcoepioahabbdaaGreatGyar
import Derived.Test.YtcoepioahabbdaaGreatGyam
import Derived.Test.YtcoepioahabbdaaGreatGyae
import Derived.Test.YtcoepioahabbdaaGreatGyaa
import Derived.Test.YtcoepioahabbdaaGreatGyab
import Derived.Test.YtcoepioahabbdaaGreatGyad
import Derived.Test.YtcoepioahabbdaaGreatGyac
import Derived.Test.YtcoepioahabbdaaGreatGxaa
import Derived.Test.YtcoepioahabbdaaGreatGyaf
import Derived.Test.YtcoepioahabbdaaGreatGyag
import Derived.Test.YtcoepioahabbdaaGreatGxab
import Derived.Test.YtcoepioahabbdaaGreatGyal
import Derived.Test.YtcoepioahabbdaaGreatGyak
import Derived.Test.YtcoepioahabbdaaGreatGyah
import Derived.Test.YtcoepioahabbdaaGreatGyai
import Derived.Test.YtcoepioahabbdaaGreatGyao
import Derived.Test.YtcoepioahabbdaaGreatGyan
import Derived.Test.YtcoepioahabbdaaGreatGyaq
import Derived.Test.YtcoepioahabbdaaGreatGyap
import Derived.Test.YtcoepioahabbdaaGreatGyau
import Derived.Test.YtcoepioahabbdaaGreatGybo
import Derived.Test.YtcoepioahabbdaaGreatGxac
import Derived.Test.YtcoepioahabbdaaGreatGxad
import Derived.Test.YtcoepioahabbdaaGreatGybi
import Derived.Test.YtcoepioahabbdaaGreatGybh
import Derived.Test.YtcoepioahabbdaaGreatGybg
import Derived.Test.YtcoepioahabbdaaGreatGybc
import Derived.Test.YtcoepioahabbdaaGreatGybb
import Derived.Test.YtcoepioahabbdaaGreatGyaz
import Derived.Test.YtcoepioahabbdaaGreatGyba
import Derived.Test.YtcoepioahabbdaaGreatGyat
import Derived.Test.YtcoepioahabbdaaGreatGybf
import Derived.Test.YtcoepioahabbdaaGreatGybe
import Derived.Test.YtcoepioahabbdaaGreatGybd
import Derived.Test.YtcoepioahabbdaaGreatGybm
import Derived.Test.YtcoepioahabbdaaGreatGybl
import Derived.Test.YtcoepioahabbdaaGreatGybj
import Derived.Test.YtcoepioahabbdaaGreatGybn
import Derived.Test.YtcoepioahabbdaaGreatGybk
namespace Go.Proofs.YtcoepioahabbdaaGreat
open Go.RowKit
set_option maxRecDepth 10000 in
set_option maxHeartbeats 16000000 in
theorem GraphAsks_any (g : Array Value) (ns : List Nd) (es : List Ed) (u : Tx) (rl : Int) (B : Nat) (w : World) (h : GrAt w B g ns es) (hB : B ≤ w.heap.size) (hS : ∀ x ∈ ns, x.n.length ≤ maxLen) :
    Calls Tryz.prog 4 #[.agg g, .string (str u), .int .i64 rl] w fun e w' => e = .returned (.bool true) ∧ Below w.heap.size w w' := by
  have HGR := Lib.hid h
  obtain ⟨NA, nc, EA, ec, rfl, h2, h3, h4, h5, h6, h7⟩ := h.form
  have HB0 : Hid (Below w.heap.size w (w.alloc (.cells #[.slice NA ns.length nc, .slice EA es.length ec] 29))) := (Below.refl _ w).alloc (Nat.le_refl _) _
  have HK0 := Lib.hid (Blk.new w 29 #[.slice NA ns.length nc, .slice EA es.length ec])
  have HG0 : Hid (GrAt (w.alloc (.cells #[.slice NA ns.length nc, .slice EA es.length ec] 29)) w.heap.size #[.slice NA ns.length nc, .slice EA es.length ec] ns es) := (HGR.out.below (HB0.out.mono hB)).wide hB
  clear h h2 h3 h4 h5 h6 h7 HGR
  go_enter Tryz.func4, Tryz.ntmps4
  go_wp2_with fail
  obtain ⟨w0, hw0⟩ : ∃ w0, w.alloc (.cells #[.slice NA ns.length nc, .slice EA es.length ec] 29) = w0 := ⟨_, rfl⟩
  rw [hw0] at HB0 HK0 HG0
  rw [hw0]
  obtain ⟨b, hb⟩ : ∃ b, w.heap.size = b := ⟨_, rfl⟩
  rw [hb] at HK0 HG0
  rw [hb]
  clear hw0
  refine (shown15_any _).mono ?_
  rintro e w1 ⟨rfl, hb1⟩
  have hbl := HK0.out.lt
  have HK1 := Lib.hid (HK0.out.below hb1 hbl)
  have HG1 := Lib.hid (HG0.out.below (hb1.mono (Nat.le_of_lt hbl)))
  have HB1 := Lib.hid (more3 HB0.out HB0.out.size hb1)
  clear hb1 HK0 HG0 HB0
  have e0 := HK1.out.cell 0
  have e1 := HK1.out.cell 1
  have hn1 := oNode15_any _ ns es u b w1 HG1.out (Nat.le_of_lt HK1.out.lt)
  rw [nodeV_eq] at hn1
  go_wp2_with fail
  refine hn1.mono ?_
  clear hn1
  rintro e w2 ⟨rfl, hb2⟩
  obtain ⟨a, ha⟩ : ∃ a, (nodeG ns u).getD noNd = a := ⟨_, rfl⟩
  rw [ha]
  have hb3 : Below w1.heap.size w1 (w2.alloc (.cells #[.string (str a.n), .int .i64 a.k, .int .i64 a.s] 32)) := hb2.alloc hb2.size _
  have HK3 := Lib.hid (HK1.out.below hb3 HK1.out.lt)
  have HG3 := Lib.hid (HG1.out.below (hb3.mono (Nat.le_of_lt HK1.out.lt)))
  have HB3 := Lib.hid (more3 HB1.out HB1.out.size hb3)
  have HN3 : Hid (Blk (w2.alloc (.cells #[.string (str a.n), .int .i64 a.k, .int .i64 a.s] 32)) w2.heap.size 32 (ndA a)) := Blk.new _ _ _
  clear hb2 hb3 HK1 HG1 HB1 e0 e1
  have e0 := HK3.out.cell 0
  have e1 := HK3.out.cell 1
  have hn1 := gNode_any _ ns es u b _ HG3.out (Nat.le_of_lt HK3.out.lt)
  rw [nodeV_eq, ha] at hn1
  clear ha
  go_wp2_with fail
  refine hn1.mono ?_
  clear hn1
  rintro e w4 ⟨rfl, hb4⟩
  have hb5 := hb4.alloc hb4.size (.cells #[.string (str a.n), .int .i64 a.k, .int .i64 a.s] 32)
  have HH5 : Hid (AsH w (w4.alloc (.cells #[.string (str a.n), .int .i64 a.k, .int .i64 a.s] 32)) b w2.heap.size w4.heap.size NA EA nc ec ns es a) :=
    ⟨HG3.out.below (hb5.mono (Nat.le_of_lt HK3.out.lt)), HK3.out.below hb5 HK3.out.lt, HN3.out.below hb5 HN3.out.lt, Blk.new _ _ _, more3 HB3.out HB3.out.size hb5⟩
  obtain ⟨n1, hn1⟩ : ∃ n1, w2.heap.size = n1 := ⟨_, rfl⟩
  rw [hn1] at HH5
  rw [hn1]
  clear hn1 hb4 hb5 HK3 HG3 HN3 HB3 e0 e1
  go_wp2_with fail
  obtain ⟨n2, hn2⟩ : ∃ n2, w4.heap.size = n2 := ⟨_, rfl⟩
  obtain ⟨w5, hw5⟩ : ∃ w5, w4.alloc (.cells #[.string (str a.n), .int .i64 a.k, .int .i64 a.s] 32) = w5 := ⟨_, rfl⟩
  rw [hw5, hn2] at HH5
  rw [hw5, hn2]
  clear hw5 hn2
  refine wp_region_held_drew (S := fun W => AsH w W b n1 n2 NA EA nc ec ns es a) (by kernel_rfl) ?_ (fun hHeld => ?_)
  · exact HH5.out.call (Below.refl _ _).drew
  refine wpAnyH_take (i := 0) (v := ?v0_1) rfl (by kernel_rfl) (by kernel_rfl) (by kernel_rfl) (fun _ _ _ h => h) (Or.inl ⟨by rfl, ?hy0_1⟩) (by assumption) ?_
  case hy0_1 => (intro W hSw; have q0 := hSw.k.cell 0; have q1 := hSw.k.cell 1; (try dsimp only at hSw); go_simp; (try with_reducible rfl))
  try simp only [Act.put, List.getElem_toArray, List.getElem_cons_zero, List.setIfInBounds_toArray, List.set_cons_zero, List.set_cons_succ]
  refine wpAnyH_take (i := 2) (v := ?v2_1) rfl (by kernel_rfl) (by kernel_rfl) (by kernel_rfl) (fun _ _ _ h => h) (Or.inl ⟨by rfl, ?hy2_1⟩) (by assumption) ?_
  case hy2_1 => (intro W hSw; have q0 := hSw.k.cell 0; have q1 := hSw.k.cell 1; (try dsimp only at hSw); go_simp; (try with_reducible rfl))
  try simp only [Act.put, List.getElem_toArray, List.getElem_cons_zero, List.getElem_cons_succ, List.setIfInBounds_toArray, List.set_cons_zero, List.set_cons_succ]
  refine wpAnyH_ready (rs := [1]) (by kernel_rfl) (by simp) ?_
  refine AllReadyH.cons rfl (fun K hK => ?_) AllReadyH.nil
  go_simp
  refine (oMay15_any _ ns es b _ hHeld.gr (Nat.le_of_lt hHeld.k.lt) hS).mono ?_
  rintro e wa ⟨r1, rfl, hr1, hb⟩
  have HR1 := Lib.hid hr1
  refine hK.out _ _ ?_ (fun hHeld2 => ?_)
  · exact hHeld.call hb
  clear hK K hHeld hb hr1
  have hHeld := hHeld2
  clear hHeld2
  try simp only [Act.put, List.getElem_toArray, List.getElem_cons_zero, List.getElem_cons_succ, List.setIfInBounds_toArray, List.set_cons_zero, List.set_cons_succ]
  refine wpAnyH_ready (rs := [3]) (by kernel_rfl) (by simp) ?_
  refine AllReadyH.cons rfl (fun K hK => ?_) AllReadyH.nil
  go_simp
  refine (gMay_any _ ns es b _ hHeld.gr (Nat.le_of_lt hHeld.k.lt) hS).mono ?_
  rintro e wb ⟨r2, rfl, hr2, hb⟩
  obtain rfl : r1 = r2 := by rw [Bool.eq_iff_iff, HR1.out, hr2]
  refine hK.out _ _ ?_ (fun hHeld2 => ?_)
  · exact hHeld.call hb
  clear hK K hHeld hb hr2
  have hHeld := hHeld2
  clear hHeld2
  try simp only [Act.put, List.getElem_toArray, List.getElem_cons_zero, List.getElem_cons_succ, List.setIfInBounds_toArray, List.set_cons_zero, List.set_cons_succ]
  refine wpAnyH_take (i := 4) (v := ?v4_1) rfl (by kernel_rfl) (by kernel_rfl) (by kernel_rfl) (fun _ _ _ h => h) (Or.inl ⟨by rfl, ?hy4_1⟩) (by assumption) ?_
  case hy4_1 => (intro W hSw; (try dsimp only at hSw); go_simp; (try with_reducible rfl))
  try simp only [Act.put, List.getElem_toArray, List.getElem_cons_zero, List.getElem_cons_succ, List.setIfInBounds_toArray, List.set_cons_zero, List.set_cons_succ]
  refine wpAnyH_done (by kernel_rfl) ?_ _
  have HH6 := Lib.hid hHeld
  clear hHeld HH5
  have f0 := HH6.out.k.cell 0
  have f1 := HH6.out.k.cell 1
  go_wp2_with fail
  clear f0 f1
  refine (gMay_any _ ns es b _ HH6.out.gr (Nat.le_of_lt HH6.out.k.lt) hS).mono ?_
  rintro e w7 ⟨r3, rfl, hr3, hb7⟩
  have HH7 := Lib.hid (HH6.out.call hb7)
  clear hb7 HH6
  cases r3 with
  | false =>
    go_wp2_with fail
    go_ret
    exact ⟨rfl, HH7.out.below⟩
  | true =>
    have hmay := hr3.1 rfl
    have hes := may_few hmay
    have hol : (outG es u rl).length ≤ maxLen := by have := outP_few es u rl es.length; rw [outP_all] at this; unfold maxLen; omega
    have hil : (inG es u rl).length ≤ maxLen := by have := inP_few es u rl es.length; rw [inP_all] at this; unfold maxLen; omega
    clear hr3 hmay
    have hq : ∀ W, (binOp .eql 32 (.agg #[.string (str a.n), .int .i64 a.k, .int .i64 a.s]) (.agg #[.string (str a.n), .int .i64 a.k, .int .i64 a.s])).run Tryz.prog W = .ok (.bool true) W := fun W => by rw [run_eql_node]; simp
    have hqb : (nodeB ns u == nodeB ns u) = true := by simp
    go_wp2_with fail
    refine wp_region_held_drew (S := fun W => AsH w W b n1 n2 NA EA nc ec ns es a) (by kernel_rfl) ?_ (fun hHeld => ?_)
    · exact HH7.out.call (Below.refl _ _).drew
    refine wpAnyH_take (i := 0) (v := ?v0_2) rfl (by kernel_rfl) (by kernel_rfl) (by kernel_rfl) (fun _ _ _ h => h) (Or.inl ⟨by rfl, ?hy0_2⟩) (by assumption) ?_
    case hy0_2 => (intro W hSw; have q0 : W.cell? ⟨n1, 0, none⟩ = some (.string (str a.n)) := hSw.k1.cell 0; have q1 : W.cell? ⟨n1, 1, none⟩ = some (.int .i64 a.k) := hSw.k1.cell 1; have q2 : W.cell? ⟨n1, 2, none⟩ = some (.int .i64 a.s) := hSw.k1.cell 2; (try dsimp only at hSw); go_simp; (try with_reducible rfl))
    try simp only [Act.put, List.getElem_toArray, List.getElem_cons_zero, List.setIfInBounds_toArray, List.set_cons_zero, List.set_cons_succ]
    refine wpAnyH_take (i := 1) (v := ?v1_2) rfl (by kernel_rfl) (by kernel_rfl) (by kernel_rfl) (fun _ _ _ h => h) (Or.inl ⟨by rfl, ?hy1_2⟩) (by assumption) ?_
    case hy1_2 => (intro W hSw; have q0 : W.cell? ⟨n2, 0, none⟩ = some (.string (str a.n)) := hSw.k2.cell 0; have q1 : W.cell? ⟨n2, 1, none⟩ = some (.int .i64 a.k) := hSw.k2.cell 1; have q2 : W.cell? ⟨n2, 2, none⟩ = some (.int .i64 a.s) := hSw.k2.cell 2; (try dsimp only at hSw); go_simp; (try with_reducible rfl))
    try simp only [Act.put, List.getElem_toArray, List.getElem_cons_zero, List.getElem_cons_succ, List.setIfInBounds_toArray, List.set_cons_zero, List.set_cons_succ]
    refine wpAnyH_take (i := 2) (v := ?v2_2) rfl (by kernel_rfl) (by kernel_rfl) (by kernel_rfl) (fun _ _ _ h => h) (Or.inl ⟨by rfl, ?hy2_2⟩) (by assumption) ?_
    case hy2_2 => (intro W hSw; (try dsimp only at hSw); go_simp; (try with_reducible rfl))
    try simp only [Act.put, List.getElem_toArray, List.getElem_cons_zero, List.getElem_cons_succ, List.setIfInBounds_toArray, List.set_cons_zero, List.set_cons_succ]
    refine wpAnyH_take (i := 3) (v := ?v3_2) rfl (by kernel_rfl) (by kernel_rfl) (by kernel_rfl) (fun _ _ _ h => h) (Or.inl ⟨by rfl, ?hy3_2⟩) (by assumption) ?_
    case hy3_2 => (intro W hSw; (try dsimp only at hSw); go_simp; (try with_reducible rfl))
    try simp only [Act.put, List.getElem_toArray, List.getElem_cons_zero, List.getElem_cons_succ, List.setIfInBounds_toArray, List.set_cons_zero, List.set_cons_succ]
    refine wpAnyH_take (i := 4) (v := ?v4_2) rfl (by kernel_rfl) (by kernel_rfl) (by kernel_rfl) (fun _ _ _ h => h) (Or.inl ⟨by rfl, ?hy4_2⟩) (by assumption) ?_
    case hy4_2 => (intro W hSw; (try dsimp only at hSw); go_simp; (try with_reducible rfl))
    try simp only [Act.put, List.getElem_toArray, List.getElem_cons_zero, List.getElem_cons_succ, List.setIfInBounds_toArray, List.set_cons_zero, List.set_cons_succ]
    refine wpAnyH_take (i := 5) (v := ?v5_2) rfl (by kernel_rfl) (by kernel_rfl) (by kernel_rfl) (fun _ _ _ h => h) (Or.inl ⟨by rfl, ?hy5_2⟩) (by assumption) ?_
    case hy5_2 => (intro W hSw; (try dsimp only at hSw); go_simp; (try with_reducible rfl))
    try simp only [Act.put, List.getElem_toArray, List.getElem_cons_zero, List.getElem_cons_succ, List.setIfInBounds_toArray, List.set_cons_zero, List.set_cons_succ]
    refine wpAnyH_take (i := 6) (v := ?v6_2) rfl (by kernel_rfl) (by kernel_rfl) (by kernel_rfl) (fun _ _ _ h => h) (Or.inl ⟨by rfl, ?hy6_2⟩) (by assumption) ?_
    case hy6_2 => (intro W hSw; (try dsimp only at hSw); go_simp; (try with_reducible rfl))
    try simp only [Act.put, List.getElem_toArray, List.getElem_cons_zero, List.getElem_cons_succ, List.setIfInBounds_toArray, List.set_cons_zero, List.set_cons_succ]
    refine wpAnyH_take (i := 7) (v := ?v7_2) rfl (by kernel_rfl) (by kernel_rfl) (by kernel_rfl) (fun _ _ _ h => h) (Or.inl ⟨by rfl, ?hy7_2⟩) (by assumption) ?_
    case hy7_2 => (intro W hSw; (try dsimp only at hSw); go_simp; (try with_reducible rfl))
    try simp only [Act.put, List.getElem_toArray, List.getElem_cons_zero, List.getElem_cons_succ, List.setIfInBounds_toArray, List.set_cons_zero, List.set_cons_succ]
    refine wpAnyH_take (i := 8) (v := ?v8_2) rfl (by kernel_rfl) (by kernel_rfl) (by kernel_rfl) (fun _ _ _ h => h) (Or.inl ⟨by rfl, ?hy8_2⟩) (by assumption) ?_
    case hy8_2 => (intro W hSw; (try dsimp only at hSw); go_simp; (try with_reducible rfl))
    try simp only [Act.put, List.getElem_toArray, List.getElem_cons_zero, List.getElem_cons_succ, List.setIfInBounds_toArray, List.set_cons_zero, List.set_cons_succ]
    refine wpAnyH_take (i := 9) (v := ?v9_2) rfl (by kernel_rfl) (by kernel_rfl) (by kernel_rfl) (fun _ _ _ h => h) (Or.inl ⟨by rfl, ?hy9_2⟩) (by assumption) ?_
    case hy9_2 => (intro W hSw; have q0 := hSw.k.cell 0; have q1 := hSw.k.cell 1; (try dsimp only at hSw); go_simp; (try with_reducible rfl))
    try simp only [Act.put, List.getElem_toArray, List.getElem_cons_zero, List.getElem_cons_succ, List.setIfInBounds_toArray, List.set_cons_zero, List.set_cons_succ]
    refine wpAnyH_take (i := 10) (v := ?v10_2) rfl (by kernel_rfl) (by kernel_rfl) (by kernel_rfl) (fun _ _ _ h => h) (Or.inl ⟨by rfl, ?hy10_2⟩) (by assumption) ?_
    case hy10_2 => (intro W hSw; (try dsimp only at hSw); go_simp; (try with_reducible rfl))
    try simp only [Act.put, List.getElem_toArray, List.getElem_cons_zero, List.getElem_cons_succ, List.setIfInBounds_toArray, List.set_cons_zero, List.set_cons_succ]
    refine wpAnyH_take (i := 11) (v := ?v11_2) rfl (by kernel_rfl) (by kernel_rfl) (by kernel_rfl) (fun _ _ _ h => h) (Or.inl ⟨by rfl, ?hy11_2⟩) (by assumption) ?_
    case hy11_2 => (intro W hSw; (try dsimp only at hSw); go_simp; (try with_reducible rfl))
    try simp only [Act.put, List.getElem_toArray, List.getElem_cons_zero, List.getElem_cons_succ, List.setIfInBounds_toArray, List.set_cons_zero, List.set_cons_succ]
    refine wpAnyH_take (i := 13) (v := ?v13_2) rfl (by kernel_rfl) (by kernel_rfl) (by kernel_rfl) (fun _ _ _ h => h) (Or.inl ⟨by rfl, ?hy13_2⟩) (by assumption) ?_
    case hy13_2 => (intro W hSw; have q0 := hSw.k.cell 0; have q1 := hSw.k.cell 1; (try dsimp only at hSw); go_simp; (try with_reducible rfl))
    try simp only [Act.put, List.getElem_toArray, List.getElem_cons_zero, List.getElem_cons_succ, List.setIfInBounds_toArray, List.set_cons_zero, List.set_cons_succ]
    refine wpAnyH_take (i := 14) (v := ?v14_2) rfl (by kernel_rfl) (by kernel_rfl) (by kernel_rfl) (fun _ _ _ h => h) (Or.inl ⟨by rfl, ?hy14_2⟩) (by assumption) ?_
    case hy14_2 => (intro W hSw; (try dsimp only at hSw); go_simp; (try with_reducible rfl))
    try simp only [Act.put, List.getElem_toArray, List.getElem_cons_zero, List.getElem_cons_succ, List.setIfInBounds_toArray, List.set_cons_zero, List.set_cons_succ]
    refine wpAnyH_take (i := 15) (v := ?v15_2) rfl (by kernel_rfl) (by kernel_rfl) (by kernel_rfl) (fun _ _ _ h => h) (Or.inl ⟨by rfl, ?hy15_2⟩) (by assumption) ?_
    case hy15_2 => (intro W hSw; (try dsimp only at hSw); go_simp; (try with_reducible rfl))
    try simp only [Act.put, List.getElem_toArray, List.getElem_cons_zero, List.getElem_cons_succ, List.setIfInBounds_toArray, List.set_cons_zero, List.set_cons_succ]
    refine wpAnyH_ready (rs := [12]) (by kernel_rfl) (by simp) ?_
    refine AllReadyH.cons rfl (fun K hK => ?_) AllReadyH.nil
    go_simp
    refine (oOut_any _ ns es u rl b _ hHeld.gr (Nat.le_of_lt hHeld.k.lt) (by omega)).mono ?_
    intro e wa hp
    obtain ⟨LA, c1, rfl, hs, hb⟩ := put_row hp hol
    have HS1 := Lib.hid hs
    refine hK.out _ _ ?_ (fun hHeld2 => ?_)
    · exact hHeld.call hb
    clear hK K hHeld hb hs hp
    have hHeld := hHeld2
    clear hHeld2
    try simp only [Act.put, List.getElem_toArray, List.getElem_cons_zero, List.getElem_cons_succ, List.setIfInBounds_toArray, List.set_cons_zero, List.set_cons_succ]
    refine wpAnyH_ready (rs := [16]) (by kernel_rfl) (by simp) ?_
    refine AllReadyH.cons rfl (fun K hK => ?_) AllReadyH.nil
    go_simp
    refine (gOut_any _ ns es u rl b _ hHeld.gr (Nat.le_of_lt hHeld.k.lt) (by omega)).mono ?_
    intro e wb hp
    obtain ⟨LB, c2, rfl, hs, hb⟩ := put_row hp hol
    have HS2 := Lib.hid hs
    have HS3 := Lib.hid ((HS1.out.below hb).wide hb.size)
    refine hK.out _ _ ?_ (fun hHeld2 => ?_)
    · exact hHeld.call hb
    clear hK K hHeld hb hs hp HS1
    have hHeld := hHeld2
    clear hHeld2
    try simp only [Act.put, List.getElem_toArray, List.getElem_cons_zero, List.getElem_cons_succ, List.setIfInBounds_toArray, List.set_cons_zero, List.set_cons_succ]
    refine wpAnyH_ready (rs := [17]) (by kernel_rfl) (by simp) ?_
    refine AllReadyH.cons rfl (fun K hK => ?_) AllReadyH.nil
    go_simp
    refine (Same5_any LA LB _ _ c1 c2 _ _ _ _ (txs_row.1 HS3.out) (txs_row.1 HS2.out)).mono ?_
    rintro e wc ⟨he, j, hj⟩
    rw [decide_eq_true rfl] at he
    subst he hj
    refine hK.out _ _ ?_ (fun hHeld2 => ?_)
    · exact hHeld.call (below_drewN (Below.refl _ _) j)
    clear hK K hHeld HS2 HS3
    have hHeld := hHeld2
    clear hHeld2
    try simp only [Act.put, List.getElem_toArray, List.getElem_cons_zero, List.getElem_cons_succ, List.setIfInBounds_toArray, List.set_cons_zero, List.set_cons_succ]
    refine wpAnyH_take (i := 18) (v := ?v18_2) rfl (by kernel_rfl) (by kernel_rfl) (by kernel_rfl) (fun _ _ _ h => h) (Or.inl ⟨by rfl, ?hy18_2⟩) (by assumption) ?_
    case hy18_2 => (intro W hSw; (try dsimp only at hSw); go_simp; (try with_reducible rfl))
    try simp only [Act.put, List.getElem_toArray, List.getElem_cons_zero, List.getElem_cons_succ, List.setIfInBounds_toArray, List.set_cons_zero, List.set_cons_succ]
    refine wpAnyH_take (i := 19) (v := ?v19_2) rfl (by kernel_rfl) (by kernel_rfl) (by kernel_rfl) (fun _ _ _ h => h) (Or.inl ⟨by rfl, ?hy19_2⟩) (by assumption) ?_
    case hy19_2 => (intro W hSw; (try dsimp only at hSw); go_simp; (try with_reducible rfl))
    try simp only [Act.put, List.getElem_toArray, List.getElem_cons_zero, List.getElem_cons_succ, List.setIfInBounds_toArray, List.set_cons_zero, List.set_cons_succ]
    refine wpAnyH_take (i := 20) (v := ?v20_2) rfl (by kernel_rfl) (by kernel_rfl) (by kernel_rfl) (fun _ _ _ h => h) (Or.inl ⟨by rfl, ?hy20_2⟩) (by assumption) ?_
    case hy20_2 => (intro W hSw; have q0 := hSw.k.cell 0; have q1 := hSw.k.cell 1; (try dsimp only at hSw); go_simp; (try with_reducible rfl))
    try simp only [Act.put, List.getElem_toArray, List.getElem_cons_zero, List.getElem_cons_succ, List.setIfInBounds_toArray, List.set_cons_zero, List.set_cons_succ]
    refine wpAnyH_take (i := 21) (v := ?v21_2) rfl (by kernel_rfl) (by kernel_rfl) (by kernel_rfl) (fun _ _ _ h => h) (Or.inl ⟨by rfl, ?hy21_2⟩) (by assumption) ?_
    case hy21_2 => (intro W hSw; (try dsimp only at hSw); go_simp; (try with_reducible rfl))
    try simp only [Act.put, List.getElem_toArray, List.getElem_cons_zero, List.getElem_cons_succ, List.setIfInBounds_toArray, List.set_cons_zero, List.set_cons_succ]
    refine wpAnyH_take (i := 22) (v := ?v22_2) rfl (by kernel_rfl) (by kernel_rfl) (by kernel_rfl) (fun _ _ _ h => h) (Or.inl ⟨by rfl, ?hy22_2⟩) (by assumption) ?_
    case hy22_2 => (intro W hSw; (try dsimp only at hSw); go_simp; (try with_reducible rfl))
    try simp only [Act.put, List.getElem_toArray, List.getElem_cons_zero, List.getElem_cons_succ, List.setIfInBounds_toArray, List.set_cons_zero, List.set_cons_succ]
    refine wpAnyH_take (i := 24) (v := ?v24_2) rfl (by kernel_rfl) (by kernel_rfl) (by kernel_rfl) (fun _ _ _ h => h) (Or.inl ⟨by rfl, ?hy24_2⟩) (by assumption) ?_
    case hy24_2 => (intro W hSw; have q0 := hSw.k.cell 0; have q1 := hSw.k.cell 1; (try dsimp only at hSw); go_simp; (try with_reducible rfl))
    try simp only [Act.put, List.getElem_toArray, List.getElem_cons_zero, List.getElem_cons_succ, List.setIfInBounds_toArray, List.set_cons_zero, List.set_cons_succ]
    refine wpAnyH_take (i := 25) (v := ?v25_2) rfl (by kernel_rfl) (by kernel_rfl) (by kernel_rfl) (fun _ _ _ h => h) (Or.inl ⟨by rfl, ?hy25_2⟩) (by assumption) ?_
    case hy25_2 => (intro W hSw; (try dsimp only at hSw); go_simp; (try with_reducible rfl))
    try simp only [Act.put, List.getElem_toArray, List.getElem_cons_zero, List.getElem_cons_succ, List.setIfInBounds_toArray, List.set_cons_zero, List.set_cons_succ]
    refine wpAnyH_take (i := 26) (v := ?v26_2) rfl (by kernel_rfl) (by kernel_rfl) (by kernel_rfl) (fun _ _ _ h => h) (Or.inl ⟨by rfl, ?hy26_2⟩) (by assumption) ?_
    case hy26_2 => (intro W hSw; (try dsimp only at hSw); go_simp; (try with_reducible rfl))
    try simp only [Act.put, List.getElem_toArray, List.getElem_cons_zero, List.getElem_cons_succ, List.setIfInBounds_toArray, List.set_cons_zero, List.set_cons_succ]
    refine wpAnyH_ready (rs := [23]) (by kernel_rfl) (by simp) ?_
    refine AllReadyH.cons rfl (fun K hK => ?_) AllReadyH.nil
    go_simp
    refine (oIn_any _ ns es u rl b _ hHeld.gr (Nat.le_of_lt hHeld.k.lt) (by omega)).mono ?_
    intro e wa hp
    obtain ⟨LA, c1, rfl, hs, hb⟩ := put_row hp hil
    have HS1 := Lib.hid hs
    refine hK.out _ _ ?_ (fun hHeld2 => ?_)
    · exact hHeld.call hb
    clear hK K hHeld hb hs hp
    have hHeld := hHeld2
    clear hHeld2
    try simp only [Act.put, List.getElem_toArray, List.getElem_cons_zero, List.getElem_cons_succ, List.setIfInBounds_toArray, List.set_cons_zero, List.set_cons_succ]
    refine wpAnyH_ready (rs := [27]) (by kernel_rfl) (by simp) ?_
    refine AllReadyH.cons rfl (fun K hK => ?_) AllReadyH.nil
    go_simp
    refine (gIn_any _ ns es u rl b _ hHeld.gr (Nat.le_of_lt hHeld.k.lt) (by omega)).mono ?_
    intro e wb hp
    obtain ⟨LB, c2, rfl, hs, hb⟩ := put_row hp hil
    have HS2 := Lib.hid hs
    have HS3 := Lib.hid ((HS1.out.below hb).wide hb.size)
    refine hK.out _ _ ?_ (fun hHeld2 => ?_)
    · exact hHeld.call hb
    clear hK K hHeld hb hs hp HS1
    have hHeld := hHeld2
    clear hHeld2
    try simp only [Act.put, List.getElem_toArray, List.getElem_cons_zero, List.getElem_cons_succ, List.setIfInBounds_toArray, List.set_cons_zero, List.set_cons_succ]
    refine wpAnyH_ready (rs := [28]) (by kernel_rfl) (by simp) ?_
    refine AllReadyH.cons rfl (fun K hK => ?_) AllReadyH.nil
    go_simp
    refine (Same5_any LA LB _ _ c1 c2 _ _ _ _ (txs_row.1 HS3.out) (txs_row.1 HS2.out)).mono ?_
    rintro e wc ⟨he, j, hj⟩
    rw [decide_eq_true rfl] at he
    subst he hj
    refine hK.out _ _ ?_ (fun hHeld2 => ?_)
    · exact hHeld.call (below_drewN (Below.refl _ _) j)
    clear hK K hHeld HS2 HS3
    have hHeld := hHeld2
    clear hHeld2
    try simp only [Act.put, List.getElem_toArray, List.getElem_cons_zero, List.getElem_cons_succ, List.setIfInBounds_toArray, List.set_cons_zero, List.set_cons_succ]
    refine wpAnyH_take (i := 29) (v := ?v29_2) rfl (by kernel_rfl) (by kernel_rfl) (by kernel_rfl) (fun _ _ _ h => h) (Or.inl ⟨by rfl, ?hy29_2⟩) (by assumption) ?_
    case hy29_2 => (intro W hSw; (try dsimp only at hSw); go_simp; (try with_reducible rfl))
    try simp only [Act.put, List.getElem_toArray, List.getElem_cons_zero, List.getElem_cons_succ, List.setIfInBounds_toArray, List.set_cons_zero, List.set_cons_succ]
    refine wpAnyH_take (i := 30) (v := ?v30_2) rfl (by kernel_rfl) (by kernel_rfl) (by kernel_rfl) (fun _ _ _ h => h) (Or.inl ⟨by rfl, ?hy30_2⟩) (by assumption) ?_
    case hy30_2 => (intro W hSw; (try dsimp only at hSw); go_simp; (try with_reducible rfl))
    try simp only [Act.put, List.getElem_toArray, List.getElem_cons_zero, List.getElem_cons_succ, List.setIfInBounds_toArray, List.set_cons_zero, List.set_cons_succ]
    refine wpAnyH_done (by kernel_rfl) ?_ _
    have HH9 := Lib.hid hHeld
    clear hHeld
    go_wp2_with fail
    go_ret
    exact ⟨rfl, HH9.out.below⟩
end Go.Proofs.YtcoepioahabbdaaGreat
