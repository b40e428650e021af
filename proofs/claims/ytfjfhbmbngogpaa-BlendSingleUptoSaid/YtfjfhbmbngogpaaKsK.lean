/- The walks of the developers' All: slices.Grow and slices.Concat at keys. -/
import Derived.Test.YtfjfhbmbngogpaaKsD
import Derived.Lib.AppendZerosOnto
namespace Go.Proofs.Ytfjfhbmbngogpaa
open Go.RowKit

theorem keyInfo : (Try.prog.info? 33).map (fun i => (i.zero, i.size, i.bytes)) = some (some (.agg #[.string ⟨#[]⟩, .string ⟨#[]⟩, .int .i64 0, .bool false, .int .i64 0, .slice none 0 0]), 6, 80) := by kernel_rfl
set_option maxHeartbeats 4000000 in
set_option maxRecDepth 100000 in
/-- Grow of no keys: room alone. -/
theorem Grow_any (n : Nat) (h0 : 0 < n) (hn : n ≤ 100000) (w : World) :
    Calls Try.prog 31 #[.slice none 0 0, .int .i64 n] w fun e w' => ∃ c, e = .returned (.slice (some ⟨w.heap.size, 0, none⟩) 0 c) ∧
      w'.ownsRow w.heap.size 33 6 (.slice (some ⟨w.heap.size, 0, none⟩) 0 c) 0 [] ∧ Below w.heap.size w w' := by
  obtain ⟨i0, hi, hz0, hz1, hz2⟩ := info_parts keyInfo
  have hroom : ¬ (0 + n ≤ 0) := by omega
  have hbig : (0 + n) * i0.bytes ≤ 140737488355328 := by rw [hz2]; omega
  have hrz : ∀ ty, (Builtin.append_ #[36, 3] ty #[.slice none 0 0, .int .i64 n]).run Try.prog w =
      .ok (.slice (some ⟨w.heap.size, 0, none⟩) n (grownCap w n 0 33)) (w.drew.alloc (.cells (#[] ++ Builtin.zeroCells (Value.agg #[.string ⟨#[]⟩, .string ⟨#[]⟩, .int .i64 0, .bool false, .int .i64 0, .slice none 0 0]).cells n ++ Builtin.zeroCells (Value.agg #[.string ⟨#[]⟩, .string ⟨#[]⟩, .int .i64 0, .bool false, .int .i64 0, .slice none 0 0]).cells (grownCap w n 0 33 - n)) 33)) := fun ty => by
    have h := Lib.run_append_grow_zeros w 36 3 ty 33 i0 _ .i64 .i64 Try.underlying36 Try.underlying3 hi hz0 none 0 0 [] (run_firstCells_none w.drew i0.size 0 0 0) n h0 (by rw [hz1]; decide) (by omega) (by omega)
      (by rw [hz2]; omega) (growslice_fits (by omega) hbig)
    rw [Nat.zero_add] at h
    exact h
  have hGn : n ≤ grownCap w n 0 33 := grownCap_ge w _ _ _
  have hG63 : grownCap w n 0 33 ≤ maxLen := grownCap_le_maxLen w n 0 33 (by unfold maxLen; omega)
  obtain ⟨G, hG⟩ : ∃ G, G = grownCap w n 0 33 := ⟨_, rfl⟩
  rw [← hG] at hrz hGn hG63
  have HG := Lib.hid hG63
  unfold maxLen at hG63
  obtain ⟨cs, hcs⟩ : ∃ cs, cs = (#[] ++ Builtin.zeroCells (Value.agg #[.string ⟨#[]⟩, .string ⟨#[]⟩, .int .i64 0, .bool false, .int .i64 0, .slice none 0 0]).cells n ++ Builtin.zeroCells (Value.agg #[.string ⟨#[]⟩, .string ⟨#[]⟩, .int .i64 0, .bool false, .int .i64 0, .slice none 0 0]).cells (G - n)) := ⟨_, rfl⟩
  rw [← hcs] at hrz
  have HCS : Hid (cs.size = G * 6) := by
    show _ = _
    rw [hcs]
    simp [Builtin.zeroCells, Value.cells]
    omega
  clear hcs hG hroom hbig
  have h1 : ¬ ((n : Int) < 0) := by omega
  have h4 : (0 : Int) < (n : Int) := by omega
  go_enter Try.func31, Try.ntmps31
  go_wp2_with (at_builtin; refine Lib.wpList_append_run _ rfl _ _ _ _ rfl _ _ rfl rfl _ _ (hrz _) ?_)
  all_goals
    go_ret
    refine ⟨G, rfl, ?_, (below_drewN (Below.refl _ w) 1).alloc (Nat.le_refl _) _⟩
    exact World.ownsRow_made (w := w.drew) (base := w.heap.size) cs G (Nat.le_refl _) HG.out HCS.out
theorem RowS.grown {w w' : World} {B n : Nat} {row : Option Nat} {A : Option Addr} {l : List (List UInt8)} (h : RowS w B A n l) (hg : w.grownBy w' row) (hne : ∀ k, row = some k → ∃ cs t, Blk w k t cs ∧ t ≠ 9) : RowS w' B A n l := by
  obtain ⟨h1, h2⟩ := h
  have hb : ∀ ad, A = some ad → w'.heap[ad.block]? = w.heap[ad.block]? := by
    intro ad e
    obtain ⟨_, cs, fz, h3⟩ := h2 ad e
    refine hg.block _ (Array.getElem?_eq_some_iff.1 h3).1 ?_
    intro e2
    obtain ⟨cs', t, h4, h5⟩ := hne _ e2.symm
    unfold Blk at h4
    rw [h4] at h3
    injection h3 with h3
    injection h3 with _ h3
    exact h5 h3
  refine ⟨⟨h1.1, h1.2.1, fun hn => ?_⟩, fun ad e => ?_⟩
  · obtain ⟨ad, e, hB, hc⟩ := h1.2.2 hn
    exact ⟨ad, e, hB, fun j x hj => (World.cell?_of_block (by rw [block_addR]; exact hb ad e)).trans (hc j x hj)⟩
  · obtain ⟨h3, cs', fz, h4⟩ := h2 ad e
    exact ⟨h3, cs', fz, (hb ad e).trans h4⟩
theorem KrsAre.grown {w w' : World} {B : Nat} {row : Option Nat} {rs : List Kr} {l : List Ky} (h : KrsAre w B rs l) (hg : w.grownBy w' row) (hne : ∀ k, row = some k → ∃ cs t, Blk w k t cs ∧ t ≠ 9) : KrsAre w' B rs l :=
  ⟨h.1, fun j r x hr hx => by
    obtain ⟨a0, a1, a2, a3, a4, a5⟩ := h.2 j r x hr hx
    exact ⟨a0, a1, a2, a3, a4, a5.grown hg hne⟩⟩
/-- A list of keys that the call builds. -/
def KLst (w W : World) (v : Value) (ks : List Ky) : Prop :=
  ∃ rs, W.ownsRow w.heap.size 33 6 v ks.length (krs rs) ∧ KrsAre W W.heap.size rs ks ∧ Below w.heap.size w W
theorem KLst.nil (w : World) : KLst w w (.slice none 0 0) [] := ⟨[], World.ownsRow_nil _ _ _ _, KrsAre.nil, Below.refl _ _⟩
theorem KLst.next {w W W' : World} {v : Value} {ks : List Ky} (h : KLst w W v ks) (hb : Below W.heap.size W W') : KLst w W' v ks := by
  obtain ⟨rs, h1, h2, h3⟩ := h
  exact ⟨rs, own_below h1 hb, (h2.below hb).wide hb.size, more3 h3 h3.size hb⟩
theorem KLst.below {w W : World} {v : Value} {ks : List Ky} (h : KLst w W v ks) : Below w.heap.size w W := by obtain ⟨rs, h1, h2, h3⟩ := h; exact h3
theorem KLst.at_ {w W : World} {v : Value} {ks : List Ky} (h : KLst w W v ks) (hl : ks.length ≤ 100000) : ∃ A c, v = .slice A ks.length c ∧ KysAt W W.heap.size A ks.length ks := by
  obtain ⟨rs, h1, h2, h3⟩ := h
  exact KysAt.of_own h1 (by unfold maxLen; omega) h2
theorem own_type {w : World} {base size n : Nat} {e : TypeId} {v : Value} {xs : List Value} (h : w.ownsRow base e size v n xs) (he : e ≠ 9) : ∀ k, v.ownBlock = some k → ∃ cs t, Blk w k t cs ∧ t ≠ 9 := by
  intro k hk
  rcases h.2 with ⟨rfl, _⟩ | ⟨g, cap, cur, rfl, hg, hb, _⟩
  · cases hk
  · obtain rfl : g = k := by simpa [Value.ownBlock] using hk
    exact ⟨cur, e, hb, he⟩
theorem wpList_append_keys {ops : Array Oper} {rest : List Oper} {o : Oper} {a : Act} {w0 w : World} {Q : Exit → Act → World → Prop} (hgd : o.guard = none) (s x : Operand)
    (ho : o.op = .call { callee := .builtin .append, args := #[s, x], argTypes := #[36, 36] })
    (v : Value) (ks ks' : List Ky) (rs' : List Kr) (hs : a.eval s = v) (hK : KLst w0 w v ks) (ad : Addr) (m c : Nat) (hx : a.eval x = .slice (some ad) m c) (hm : m = ks'.length) (hare : KrsAre w w.heap.size rs' ks')
    (hin : ∀ j u, (krs rs')[j]? = some u → w.cell? (ad.add j) = some u) (hl : ks.length + ks'.length ≤ 100000)
    (h : ∀ v' w', KLst w0 w' v' (ks ++ ks') → w.grownBy w' v.ownBlock → wpList Try.prog ops Q rest (a.put o.dst v') w') : wpList Try.prog ops Q (o :: rest) a w := by
  subst hm
  obtain ⟨rs, h1, h2, h3⟩ := hK
  obtain ⟨i0, hi, hz0, hz1, hz2⟩ := info_parts keyInfo
  refine wpList_append_own w hgd s x 36 ho w0.heap.size 33 i0 _ 6 80 Try.underlying36 hi hz0 hz1 hz2 rfl (by decide) v ks.length (krs rs) hs h1 ad ks'.length c (krs rs') hx (by rw [krs_length, hare.1]) hin (krs_one_cell rs') (by unfold maxLen; omega) (by omega) h3.size ?_
  intro v' w' hown hgrow _
  refine h v' w' ⟨rs ++ rs', by rw [krs_append, List.length_append]; exact hown, ?_, h3.grown hgrow h3.size (fun k hk => (h1.lt k hk).1)⟩ hgrow
  have hty := own_type h1 (by decide)
  exact ((h2.append hare).grown hgrow hty).wide hgrow.size
/-- One of the lists that are laid one behind the other. -/
structure Pc where
  A : Option Addr
  c : Nat
  l : List Ky
def flatP (ps : List Pc) : List Ky := ps.flatMap Pc.l
theorem flatP_snoc (ps : List Pc) (p : Pc) : flatP (ps ++ [p]) = flatP ps ++ p.l := by simp [flatP]
theorem flatP_take {ps : List Pc} {k : Nat} {p : Pc} (h : ps[k]? = some p) : flatP (ps.take (k + 1)) = flatP (ps.take k) ++ p.l := by
  have hk : k < ps.length := by
    rcases Nat.lt_or_ge k ps.length with h' | h'
    · exact h'
    · rw [List.getElem?_eq_none h'] at h; cases h
  have he : ps[k] = p := by rw [List.getElem?_eq_getElem hk] at h; exact Option.some.inj h
  rw [List.take_succ_eq_append_getElem hk, he, flatP_snoc]
theorem flatP_le (ps : List Pc) (k : Nat) : (flatP (ps.take k)).length ≤ (flatP ps).length := by
  conv => rhs; rw [← List.take_append_drop k ps]
  unfold flatP
  rw [List.flatMap_append, List.length_append]
  omega
/-- The lists as an argument: their slices in a block, each with its keys. -/
structure PcsAt (w : World) (B h : Nat) (ps : List Pc) : Prop where
  lt : h < B
  cell : ∀ (k : Nat) p, ps[k]? = some p → w.cell? ⟨h, k, none⟩ = some (.slice p.A p.l.length p.c)
  keys : ∀ p ∈ ps, 0 < p.l.length ∧ KysAt w B p.A p.l.length p.l
theorem PcsAt.below {w w' : World} {B h : Nat} {ps : List Pc} (q : PcsAt w B h ps) (hb : Below B w w') : PcsAt w' B h ps :=
  ⟨q.lt, fun k p hp => (hb.cell (p := ⟨h, k, none⟩) q.lt).trans (q.cell k p hp), fun p hp => ⟨(q.keys p hp).1, (q.keys p hp).2.below hb⟩⟩
theorem pcs_at {ps : List Pc} {m : Nat} (hm : ps.length = m) {k : Nat} (hk : k < m) : ∃ p, ps[k]? = some p ∧ p ∈ ps := by
  have h : k < ps.length := by omega
  exact ⟨ps[k], List.getElem?_eq_getElem h, List.getElem_mem h⟩
set_option maxHeartbeats 8000000 in
theorem Concat_any (h m c : Nat) (ps : List Pc) (hm : ps.length = m) (hm0 : m ≤ 1000) (hf0 : 0 < (flatP ps).length) (hf : (flatP ps).length ≤ 1000) (w : World) (hp : PcsAt w w.heap.size h ps) :
    Calls Try.prog 21 #[.slice (some ⟨h, 0, none⟩) m c] w fun e w' => ∃ v, e = .returned v ∧ KLst w w' v (flatP ps) := by
  have HP := Lib.hid hp
  have hhl := hp.lt
  clear hp
  have HN0 : Hid ((flatP (ps.take 0)).length = 0) := rfl
  go_enter Try.func21, Try.ntmps21
  go_wp2_with fail
  go_loopw [3, 11] (fun z i wr => ∃ k sz : Nat, k ≤ m ∧ sz ≤ 1000 ∧ i = .int .i64 k ∧ z = .int .i64 sz ∧ w = wr ∧ Hid ((flatP (ps.take k)).length = sz)) (fun z i wr => m - (intOf i).toNat)
  case atStart => exact ⟨0, 0, Nat.zero_le _, Nat.zero_le _, rfl, rfl, rfl, HN0⟩
  case round =>
    obtain ⟨k, sz, hk, hsz, rfl, rfl, rfl, hN⟩ := hrel
    by_cases hlt : k < m
    · have b0 : (0 : Int) ≤ (k : Int) := by omega
      have b1 : (k : Int) < (m : Int) := by omega
      obtain ⟨p, hpk, hpm⟩ := pcs_at hm hlt
      have q0 : w.cell? ⟨h, k, none⟩ = some (.slice p.A p.l.length p.c) := HP.out.cell k p hpk
      have hle := flatP_le ps (k + 1)
      have HE : Hid ((flatP (ps.take (k + 1))).length = sz + p.l.length) := by show _ = _; rw [flatP_take hpk, List.length_append, hN.out]
      rw [HE.out] at hle
      have b2 : ((sz : Int) + (p.l.length : Int)) ≤ 1000 := by omega
      have b3 : (0 : Int) ≤ ((sz : Int) + (p.l.length : Int)) := by omega
      clear hpk hpm
      go_wp2_with fail
      go_roundw
      case rel => exact ⟨k + 1, sz + p.l.length, by omega, by omega, by go_num, by go_num, by first | rfl | trivial, HE⟩
      case measure => simp [intOf]; omega
    · obtain rfl : k = m := by omega
      have hN' := hN.out
      rw [List.take_of_length_le (by omega)] at hN'
      subst hN'
      go_wp2_with fail
      refine (Grow_any _ hf0 (by omega) _).mono ?_
      rintro e w1 ⟨cc, rfl, ho1, hb1⟩
      have HK1 : Hid (KLst w w1 (.slice (some ⟨w.heap.size, 0, none⟩) 0 cc) (flatP (ps.take 0))) := ⟨[], ho1, KrsAre.nil, hb1⟩
      clear ho1 hb1 hN
      go_wp2_with fail
      go_loopw [6, 27] (fun v i wr => ∃ k : Nat, k ≤ ps.length ∧ i = .int .i64 k ∧ Hid (KLst w wr v (flatP (ps.take k)))) (fun v i wr => ps.length - (intOf i).toNat)
      case atStart => exact ⟨0, Nat.zero_le _, rfl, HK1⟩
      case round =>
        obtain ⟨k, hk, rfl, HK⟩ := hrel
        by_cases hlt : k < ps.length
        · have b0 : (0 : Int) ≤ (k : Int) := by omega
          have b1 : (k : Int) < (ps.length : Int) := by omega
          obtain ⟨p, hpk, hpm⟩ := pcs_at rfl hlt
          have HPr := HP.out.below HK.out.below
          have q0 : wr.cell? ⟨h, k, none⟩ = some (.slice p.A p.l.length p.c) := HPr.cell k p hpk
          obtain ⟨hp0, hkeys⟩ := HPr.keys p hpm
          obtain ⟨_, _, rs', hare, hin⟩ := hkeys
          obtain ⟨ad, hA, _, hcells⟩ := hin (by rw [hare.1]; exact hp0)
          rw [hA] at q0
          have HA := Lib.hid (hare.wide (HK.out.below.size))
          have HC := Lib.hid hcells
          have hle := flatP_le ps (k + 1)
          rw [flatP_take hpk, List.length_append] at hle
          have HF := Lib.hid (flatP_take hpk)
          clear hare hin hcells hA HPr hpk hpm
          go_wp2_with (at_builtin; refine wpList_append_keys rfl _ _ rfl _ (flatP (ps.take k)) p.l rs' rfl HK.out ad p.l.length p.c rfl rfl HA.out HC.out (by omega) ?_; intro v' w' hk' _; rw [← HF.out] at hk'; have HK' := Lib.hid hk'; clear hk')
          go_roundw
          case rel => exact ⟨k + 1, by omega, by go_num, HK'⟩
          case measure => simp [intOf]; omega
        · obtain rfl : k = ps.length := by omega
          have HE := HK.out
          rw [List.take_of_length_le (Nat.le_refl _)] at HE
          have HE := Lib.hid HE
          go_wp2_with fail
          go_ret
          exact ⟨_, rfl, HE.out⟩
theorem own_base {w : World} {base base' size n : Nat} {e : TypeId} {v : Value} {xs : List Value} (h : w.ownsRow base e size v n xs) (hb : base' ≤ base) : w.ownsRow base' e size v n xs := by
  obtain ⟨q1, q2⟩ := h
  refine ⟨q1, ?_⟩
  rcases q2 with q2 | ⟨g, cap, cur, hv, hg, hr⟩
  · exact .inl q2
  · exact .inr ⟨g, cap, cur, hv, by omega, hr⟩
theorem keysOf_at (s : ByteArray) (l : List Ky) (h : keysT s.data.toList = l) (w : World) : Calls Try.prog 20 #[.string s] w fun e w' => ∃ A c, e = .returned (.slice A l.length c) ∧ KysAt w' w'.heap.size A l.length l ∧ Below w.heap.size w w' := by
  subst h
  exact keysOf_any s w
set_option maxHeartbeats 8000000 in
theorem All_any (w : World) : Calls Try.prog 13 #[] w fun e w' => ∃ v, e = .returned v ∧ KLst w w' v allT := by
  go_enter Try.func13, Try.ntmps13
  go_wp2_with fail
  refine (keysOf_at ⟨#[85, 110, 105, 116]⟩ uUnit (by decide +kernel) _).mono ?_
  rintro e0 w1 ⟨A0, c0, rfl, k0, b0⟩
  have HB0 := Lib.hid b0
  have HK0 := Lib.hid k0
  clear b0 k0
  go_wp2_with fail
  refine (keysOf_at ⟨#[83, 101, 114, 118, 105, 99, 101]⟩ uServ (by decide +kernel) _).mono ?_
  rintro e1 w2 ⟨A1, c1, rfl, k1, b1⟩
  have HB1 := Lib.hid (more3 HB0.out HB0.out.size b1)
  replace HK0 := Lib.hid ((HK0.out.below b1).wide b1.size)
  have HK1 := Lib.hid k1
  clear b1 k1
  go_wp2_with fail
  refine (keysOf_at ⟨#[83, 111, 99, 107, 101, 116]⟩ uSock (by decide +kernel) _).mono ?_
  rintro e2 w3 ⟨A2, c2, rfl, k2, b2⟩
  have HB2 := Lib.hid (more3 HB1.out HB1.out.size b2)
  replace HK0 := Lib.hid ((HK0.out.below b2).wide b2.size)
  replace HK1 := Lib.hid ((HK1.out.below b2).wide b2.size)
  have HK2 := Lib.hid k2
  clear b2 k2
  go_wp2_with fail
  refine (keysOf_at ⟨#[84, 105, 109, 101, 114]⟩ uTime (by decide +kernel) _).mono ?_
  rintro e3 w4 ⟨A3, c3, rfl, k3, b3⟩
  have HB3 := Lib.hid (more3 HB2.out HB2.out.size b3)
  replace HK0 := Lib.hid ((HK0.out.below b3).wide b3.size)
  replace HK1 := Lib.hid ((HK1.out.below b3).wide b3.size)
  replace HK2 := Lib.hid ((HK2.out.below b3).wide b3.size)
  have HK3 := Lib.hid k3
  clear b3 k3
  go_wp2_with fail
  refine (keysOf_at ⟨#[73, 110, 115, 116, 97, 108, 108]⟩ uInst (by decide +kernel) _).mono ?_
  rintro e4 w5 ⟨A4, c4, rfl, k4, b4⟩
  have HB4 := Lib.hid (more3 HB3.out HB3.out.size b4)
  replace HK0 := Lib.hid ((HK0.out.below b4).wide b4.size)
  replace HK1 := Lib.hid ((HK1.out.below b4).wide b4.size)
  replace HK2 := Lib.hid ((HK2.out.below b4).wide b4.size)
  replace HK3 := Lib.hid ((HK3.out.below b4).wide b4.size)
  have HK4 := Lib.hid k4
  clear b4 k4
  have HB5 : Hid (Below w.heap.size w (w5.alloc (.cells #[.slice A0 uUnit.length c0, .slice A1 uServ.length c1, .slice A2 uSock.length c2, .slice A3 uTime.length c3, .slice A4 uInst.length c4] 36))) := HB4.out.alloc HB4.out.size _
  have HP : Hid (PcsAt (w5.alloc (.cells #[.slice A0 uUnit.length c0, .slice A1 uServ.length c1, .slice A2 uSock.length c2, .slice A3 uTime.length c3, .slice A4 uInst.length c4] 36)) (w5.alloc (.cells #[.slice A0 uUnit.length c0, .slice A1 uServ.length c1, .slice A2 uSock.length c2, .slice A3 uTime.length c3, .slice A4 uInst.length c4] 36)).heap.size w5.heap.size [⟨A0, c0, uUnit⟩, ⟨A1, c1, uServ⟩, ⟨A2, c2, uSock⟩, ⟨A3, c3, uTime⟩, ⟨A4, c4, uInst⟩]) := by
    have hN := Blk.new w5 36 #[.slice A0 uUnit.length c0, .slice A1 uServ.length c1, .slice A2 uSock.length c2, .slice A3 uTime.length c3, .slice A4 uInst.length c4]
    have hb := (Below.refl w5.heap.size w5).alloc (Nat.le_refl _) (.cells #[.slice A0 uUnit.length c0, .slice A1 uServ.length c1, .slice A2 uSock.length c2, .slice A3 uTime.length c3, .slice A4 uInst.length c4] 36)
    refine ⟨hN.lt, fun k p hp => ?_, fun p hp => ?_⟩
    · rw [hN.cell k]
      match k, hp with
      | 0, hp => cases hp; rfl
      | 1, hp => cases hp; rfl
      | 2, hp => cases hp; rfl
      | 3, hp => cases hp; rfl
      | 4, hp => cases hp; rfl
      | _ + 5, hp => cases hp
    · simp only [List.mem_cons, List.not_mem_nil, or_false] at hp
      rcases hp with rfl | rfl | rfl | rfl | rfl
      · exact ⟨(by decide : 0 < uUnit.length), (HK0.out.below hb).wide hb.size⟩
      · exact ⟨(by decide : 0 < uServ.length), (HK1.out.below hb).wide hb.size⟩
      · exact ⟨(by decide : 0 < uSock.length), (HK2.out.below hb).wide hb.size⟩
      · exact ⟨(by decide : 0 < uTime.length), (HK3.out.below hb).wide hb.size⟩
      · exact ⟨(by decide : 0 < uInst.length), (HK4.out.below hb).wide hb.size⟩
  have hfl : flatP [⟨A0, c0, uUnit⟩, ⟨A1, c1, uServ⟩, ⟨A2, c2, uSock⟩, ⟨A3, c3, uTime⟩, ⟨A4, c4, uInst⟩] = allT := by simp [flatP, allT]
  have HC := Lib.hid (Concat_any w5.heap.size 5 5 [⟨A0, c0, uUnit⟩, ⟨A1, c1, uServ⟩, ⟨A2, c2, uSock⟩, ⟨A3, c3, uTime⟩, ⟨A4, c4, uInst⟩] rfl (by decide) (by rw [hfl]; decide) (by rw [hfl]; decide) _ HP.out)
  rw [hfl] at HC
  clear hfl
  go_wp2_with fail
  refine HC.out.mono ?_
  rintro e6 w6 ⟨v, rfl, rs, ho, ha, hb⟩
  have HO := Lib.hid ho
  have HA := Lib.hid ha
  have HB := Lib.hid (more3 HB5.out HB5.out.size hb)
  have hsz : w.heap.size ≤ (w5.alloc (.cells #[.slice A0 uUnit.length c0, .slice A1 uServ.length c1, .slice A2 uSock.length c2, .slice A3 uTime.length c3, .slice A4 uInst.length c4] 36)).heap.size := HB5.out.size
  clear ho ha hb
  go_wp2_with fail
  go_ret
  exact ⟨v, rfl, rs, own_base HO.out hsz, HA.out, HB.out⟩
end Go.Proofs.Ytfjfhbmbngogpaa
