/- Files in a row of the call's own; the walk of the law DiskOrder. -/
import Derived.Test.YthodbeeglkedcaaDsbk
import Derived.Deep.RegionHeld3
import Derived.Deep.AppendLies
import Derived.Laws.OwnMore
import Derived.Laws.Bits128
namespace Go.Proofs.Ythodbeeglkedcaa
open Go.RowKit
theorem i64_and16 (n : Int) : bits .and .i64 n 65535 = n % 65536 := by
  have h16 : (BitVec.ofInt 64 65535).toNat = 2 ^ 16 - 1 := by decide
  have key : (BitVec.ofInt 64 n &&& BitVec.ofInt 64 65535).toNat = (n % ((2 ^ 64 : Nat) : Int)).toNat % 2 ^ 16 := by
    rw [BitVec.toNat_and, BitVec.toNat_ofInt, h16, Nat.and_two_pow_sub_one_eq_mod]
  show IntKind.i64.wrap ((BitVec.ofInt 64 n &&& BitVec.ofInt 64 65535).toNat : Nat) = n % 65536
  rw [key, IntKind.wrap_i64]
  omega
theorem fis_one_cell (l : List Fi) : ∀ x ∈ fis l, x.oneCell' = true := by
  intro x hx
  obtain ⟨r, _, hr⟩ := List.mem_flatMap.1 hx
  simp [fiCells] at hr
  rcases hr with rfl | rfl | rfl <;> rfl
theorem fis_append (a b : List Fi) : fis (a ++ b) = fis a ++ fis b := by simp [fis]
theorem fis_drop (l : List Fi) (k : Nat) (j : Nat) : (fis (l.drop k))[j]? = (fis l)[k * 3 + j]? := by
  induction l generalizing k with
  | nil => simp [fis]
  | cons x l ih =>
    cases k with
    | zero => simp
    | succ k =>
      have e : fis (x :: l) = fiCells x ++ fis l := by simp [fis]
      rw [List.drop_succ_cons, ih, e, List.getElem?_append_right (by show 3 ≤ _; omega)]
      show _ = (fis l)[(k + 1) * 3 + j - 3]?
      rw [show (k + 1) * 3 + j - 3 = k * 3 + j by omega]
theorem fis_take (l : List Fi) (k : Nat) : fis l = fis (l.take k) ++ fis (l.drop k) := by rw [← fis_append, List.take_append_drop]
theorem FisAt.drop {w : World} {B n k : Nat} {ad : Addr} {l : List Fi} (h : FisAt w B (some ad) n l) (hk : k ≤ n) : FisAt w B (some (ad.add (k * 3))) (n - k) (l.drop k) :=
  ⟨by rw [List.length_drop, h.1], by have := h.2.1; omega, fun hn => by
    obtain ⟨a, e, hB, hc⟩ := h.2.2 (by omega)
    cases e
    exact ⟨_, rfl, by rw [block_addW]; exact hB, fun j u hj => add_step ad (k * 3) j w _ (hc _ _ (by rw [← fis_drop]; exact hj))⟩⟩
theorem FisAt.take {w : World} {B n k : Nat} {A : Option Addr} {l : List Fi} (h : FisAt w B A n l) (hk : k ≤ n) : FisAt w B A k (l.take k) :=
  ⟨by rw [List.length_take, h.1]; omega, by have := h.2.1; omega, fun hn => by
    obtain ⟨a, e, hB, hc⟩ := h.2.2 (by omega)
    exact ⟨a, e, hB, fun j u hj => hc j u (by
      rw [fis_take l k]
      obtain ⟨hlt, _⟩ := List.getElem?_eq_some_iff.1 hj
      rw [List.getElem?_append_left hlt]; exact hj)⟩⟩
theorem wp_append_files {o : Oper} {a : Act} {w : World} {K : Act → World → Prop} {Q : Exit → Act → World → Prop} (s x : Operand)
    (ho : o.op = .call { callee := .builtin .append, args := #[s, x], argTypes := #[22, 22] }) (base : Nat) (v : Value) (l l' : List Fi) (hs : a.eval s = v) (hown : w.ownsRow base 38 3 v l.length (fis l))
    (A : Option Addr) (n c B : Nat) (hx : a.eval x = .slice A n c) (hL : FisAt w B A n l') (hA : A = none → c = 0) (hlen : l.length + n ≤ 2097152) (hbase : base ≤ w.heap.size)
    (h : ∀ v' w', w'.ownsRow base 38 3 v' (l ++ l').length (fis (l ++ l')) → w.grownBy w' v.ownBlock → K (a.put o.dst v') w') : o.wp Try.prog a w K Q := by
  obtain ⟨i0, hi, hz0, hz1, hz2⟩ := info_parts fileInfo
  obtain ⟨h1, h2, h3⟩ := hL
  subst h1
  cases A with
  | none =>
    have hn : l'.length = 0 := by
      rcases Nat.eq_zero_or_pos l'.length with h0 | h0
      · exact h0
      · obtain ⟨ad, e, _⟩ := h3 h0
        cases e
    have hc := hA rfl
    subst hc
    rw [hn] at hx
    have hl' : l' = [] := List.length_eq_zero_iff.1 hn
    subst hl'
    have hrun := run_append_owned_none (P := Try.prog) (w := w) base 22 o.type 38 i0 3 Try.underlying22 hi v l.length (fis l) hown
    unfold Oper.wp
    simp [execOp, ho, resolve, invoke, builtin, hs, hx, hrun, Result.andThen]
    rw [List.append_nil] at h
    exact h _ _ hown (World.grownBy.refl _ _)
  | some ad =>
    refine wp_append_own w s x 22 ho base 38 i0 _ 3 48 Try.underlying22 hi hz0 hz1 hz2 rfl (by decide) v l.length (fis l) hs hown ad l'.length c (fis l') hx (fis_length l') ?_ (fis_one_cell l') (by unfold maxLen; omega) (by omega) hbase ?_
    · intro j u hj
      have hpos : 0 < l'.length := by
        rcases Nat.eq_zero_or_pos l'.length with h0 | h0
        · rw [List.length_eq_zero_iff.1 h0] at hj; simp [fis] at hj
        · exact h0
      obtain ⟨ad', e, _, hc⟩ := h3 hpos
      cases e
      exact hc j u hj
    · intro v' w' h4 h5 _
      refine h v' w' ?_ h5
      rw [List.length_append, fis_append]
      exact h4
-- a row from one place on, a row up to one place
set_option maxRecDepth 100000 in
theorem slice_from {W : World} {n c k : Nat} {ad : Addr} (o : Oper) (ev : Operand → Value) (x y : Operand) (ho : o.op = .slice 22 x (some y) none none) (hx : ev x = .slice (some ad) n c) (hy : ev y = .int .i64 (k : Int)) (hk : k < n) (hc : n ≤ c) :
    (execOp ev o).run Try.prog W = .ok (.value (.slice (some (ad.add (k * 3))) (n - k) (c - k))) W := by
  have hr := run_slice_l (P := Try.prog) (w := W) 22 (some ad) n c Try.underlying22 .i64 (k : Int) (by omega) (by omega)
  have hs : sizeOf (Try.prog.elem 22) = sizeOf 38 := rfl
  have h1 : ¬ c = k := by omega
  unfold execOp
  simp only [ho, hx, hy, Option.map_some, Option.map_none, Sem.run_bind, Sem.run_pure]
  go_simp
set_option maxRecDepth 100000 in
theorem slice_upto {W : World} {n c k : Nat} {ad : Addr} (o : Oper) (ev : Operand → Value) (x y : Operand) (ho : o.op = .slice 22 x none (some y) none) (hx : ev x = .slice (some ad) n c) (hy : ev y = .int .i64 (k : Int)) (hk : k < n) (hc : n ≤ c) :
    (execOp ev o).run Try.prog W = .ok (.value (.slice (some ad) k c)) W := by
  have hr := run_slice_h (P := Try.prog) (w := W) 22 (some ad) n c Try.underlying22 .i64 (k : Int) (by omega) (by omega)
  have hs : sizeOf (Try.prog.elem 22) = sizeOf 38 := rfl
  have h1 : ¬ c = 0 := by omega
  have ha : ad.add 0 = ad := by unfold Addr.add; simp
  unfold execOp
  simp only [ho, hx, hy, Option.map_some, Option.map_none, Sem.run_bind, Sem.run_pure]
  go_simp
set_option maxRecDepth 100000 in
set_option maxHeartbeats 8000000 in
theorem DiskOrder_any (A : Option Addr) (n c : Nat) (l : List Fi) (u : ByteArray) (hu : u.size ≤ 4194304) (turn : Int) (w : World) (h : FisAt w w.heap.size A n l) (hA : A = none → c = 0) (hc : n ≤ c) (hn : n ≤ 1048576) (hs : ∀ x ∈ l, SizeF x) :
    Calls Try.prog 4 #[.slice A n c, .string u, .int .i64 turn] w fun e w' => e = .returned (.bool true) ∧ Below w.heap.size w w' := by
  have HL0 := Lib.hid h
  have HS := Lib.hid hs
  clear h hs
  have hand := i64_and16
  go_enter Try.func4, Try.ntmps4
  go_wp2_with fail
  refine (shown12_any _).mono ?_
  rintro e w1 ⟨rfl, hb1⟩
  have HB1 := Lib.hid hb1
  have HL1 := Lib.hid ((HL0.out.below hb1).wide hb1.size)
  clear hb1 HL0
  by_cases hz : n = 0
  · have hz1 : ((n : Int) == 0) = true := by subst hz; rfl
    go_wp2_with fail
    go_ret
    exact ⟨rfl, HB1.out⟩
  have hz1 : ((n : Int) == 0) = false := by simp; omega
  have hz2 : ¬ (n : Int) = 0 := by omega
  have hr0 : 0 ≤ turn % 65536 := by omega
  have hr1 : turn % 65536 < 65536 := by omega
  have hr2 : (turn % 65536).tmod (n : Int) = (turn % 65536) % (n : Int) := Int.tmod_eq_emod_of_nonneg hr0
  have hr3 : 0 ≤ (turn % 65536) % (n : Int) := Int.emod_nonneg _ (by omega)
  have hr4 : (turn % 65536) % (n : Int) < (n : Int) := Int.emod_lt_of_pos _ (by omega)
  go_wp2_with fail
  generalize turn % 65536 % (n : Int) = ki at *
  obtain ⟨k, rfl⟩ := Int.eq_ofNat_of_zero_le hr3
  have hkn : k < n := by omega
  clear hand hr0 hr1 hr2 hr3 hz1 hz2
  obtain ⟨ad, rfl, _, _⟩ := HL1.out.2.2 (by omega)
  have hll := HL1.out.1
  refine wp_region_held_drew (S := fun W => Below w1.heap.size w1 W) (by kernel_rfl) ?_ (fun hHeld => ?_)
  · exact (Below.refl _ w1).drew
  refine wpAnyH_take (i := 0) (v := ?v0_1) rfl (by kernel_rfl) (by kernel_rfl) (by kernel_rfl) (fun _ _ _ h => h) (Or.inl ⟨by rfl, ?hy0_1⟩) (by assumption) ?_
  case hy0_1 => (intro W hSw; (try dsimp only at hSw); go_simp; (try with_reducible rfl))
  try simp only [Act.put, List.getElem_toArray, List.getElem_cons_zero, List.setIfInBounds_toArray, List.set_cons_zero, List.set_cons_succ]
  refine wpAnyH_take (i := 1) (v := ?v1_1) rfl (by kernel_rfl) (by kernel_rfl) (by kernel_rfl) (fun _ _ _ h => h) (Or.inl ⟨by rfl, ?hy1_1⟩) (by assumption) ?_
  case hy1_1 => (intro W hSw; (try dsimp only at hSw); go_simp; (try with_reducible rfl))
  try simp only [Act.put, List.getElem_toArray, List.getElem_cons_zero, List.getElem_cons_succ, List.setIfInBounds_toArray, List.set_cons_zero, List.set_cons_succ]
  refine wpAnyH_take (i := 4) (v := ?v4_1) rfl (by kernel_rfl) (by kernel_rfl) (by kernel_rfl) (fun _ _ _ h => h) (Or.inl ⟨by rfl, ?hy4_1⟩) (by assumption) ?_
  case hy4_1 => (intro W hSw; (try dsimp only at hSw); go_simp; (try with_reducible rfl))
  try simp only [Act.put, List.getElem_toArray, List.getElem_cons_zero, List.getElem_cons_succ, List.setIfInBounds_toArray, List.set_cons_zero, List.set_cons_succ]
  refine wpAnyH_take (i := 5) (v := ?v5_1) rfl (by kernel_rfl) (by kernel_rfl) (by kernel_rfl) (fun _ _ _ h => h) (Or.inl ⟨by rfl, ?hy5_1⟩) (by assumption) ?_
  case hy5_1 => (intro W hSw; (try dsimp only at hSw); go_simp; (try with_reducible rfl))
  try simp only [Act.put, List.getElem_toArray, List.getElem_cons_zero, List.getElem_cons_succ, List.setIfInBounds_toArray, List.set_cons_zero, List.set_cons_succ]
  refine wpAnyH_take (i := 2) (v := (.slice (some (ad.add (k * 3))) (n - k) (c - k))) rfl (by kernel_rfl) (by kernel_rfl) (by kernel_rfl) (fun _ _ _ h => h) (Or.inl ⟨by rfl, ?hy2_1⟩) (by assumption) ?_
  case hy2_1 => (intro W hSw; exact slice_from _ _ _ _ (by rfl) (by rfl) (by rfl) hkn hc)
  try simp only [Act.put, List.getElem_toArray, List.getElem_cons_zero, List.getElem_cons_succ, List.setIfInBounds_toArray, List.set_cons_zero, List.set_cons_succ]
  refine wpAnyH_take (i := 6) (v := (.slice (some ad) k c)) rfl (by kernel_rfl) (by kernel_rfl) (by kernel_rfl) (fun _ _ _ h => h) (Or.inl ⟨by rfl, ?hy6_1⟩) (by assumption) ?_
  case hy6_1 => (intro W hSw; exact slice_upto _ _ _ _ (by rfl) (by rfl) (by rfl) hkn hc)
  try simp only [Act.put, List.getElem_toArray, List.getElem_cons_zero, List.getElem_cons_succ, List.setIfInBounds_toArray, List.set_cons_zero, List.set_cons_succ]
  refine wpAnyH_ready (rs := [3]) (by kernel_rfl) (by simp) ?_
  refine AllReadyH.cons rfl (fun K hK => ?_) AllReadyH.nil
  refine wp_append_files _ _ (by rfl) w1.heap.size (.slice none 0 0) [] (l.drop k) (by rfl) (World.ownsRow_nil _ _ _ _) (some (ad.add (k * 3))) (n - k) (c - k) w1.heap.size (by rfl) ((HL1.out.drop (by omega)).below hHeld) (by intro h; cases h) (by simp; omega) hHeld.size ?_
  intro v6 w6 ho6 hg6
  refine hK.out _ _ (hHeld.grown hg6 hHeld.size (fun k hk => by cases hk)) (fun hHeld2 => ?_)
  clear hK K hHeld hg6
  have hHeld := hHeld2
  clear hHeld2
  try simp only [Act.put, List.getElem_toArray, List.getElem_cons_zero, List.getElem_cons_succ, List.setIfInBounds_toArray, List.set_cons_zero, List.set_cons_succ]
  refine wpAnyH_ready (rs := [7]) (by kernel_rfl) (by simp) ?_
  refine AllReadyH.cons rfl (fun K hK => ?_) AllReadyH.nil
  refine wp_append_files _ _ (by rfl) w1.heap.size v6 ([] ++ l.drop k) (l.take k) (by rfl) ho6 (some ad) k c w1.heap.size (by rfl) ((HL1.out.take (by omega)).below hHeld) (by intro h; cases h) (by simp; omega) hHeld.size ?_
  intro v7 w7 ho7 hg7
  refine hK.out _ _ (hHeld.grown hg7 hHeld.size (fun k hk => (ho6.lt k hk).1)) (fun hHeld2 => ?_)
  clear hK K hHeld hg7
  have hHeld := hHeld2
  clear hHeld2
  try simp only [Act.put, List.getElem_toArray, List.getElem_cons_zero, List.getElem_cons_succ, List.setIfInBounds_toArray, List.set_cons_zero, List.set_cons_succ]
  refine wpAnyH_take (i := 8) (v := ?v8_1) rfl (by kernel_rfl) (by kernel_rfl) (by kernel_rfl) (fun _ _ _ h => h) (Or.inl ⟨by rfl, ?hy8_1⟩) (by assumption) ?_
  case hy8_1 => (intro W hSw; (try dsimp only at hSw); go_simp; (try with_reducible rfl))
  try simp only [Act.put, List.getElem_toArray, List.getElem_cons_zero, List.getElem_cons_succ, List.setIfInBounds_toArray, List.set_cons_zero, List.set_cons_succ]
  refine wpAnyH_done (by kernel_rfl) ?_ _
  rw [List.nil_append] at ho7
  have hperm : l.Perm (l.drop k ++ l.take k) := turn_perm l k
  obtain ⟨tl, htl⟩ : ∃ tl, l.drop k ++ l.take k = tl := ⟨_, rfl⟩
  rw [htl] at hperm ho7
  clear htl
  obtain ⟨A7, m7, c7, rfl⟩ : ∃ A7 m7 c7, v7 = .slice A7 m7 c7 := by
    rcases ho7.2 with ⟨hv, _⟩ | ⟨g, cap, cur, hv, _⟩
    · exact ⟨_, _, _, hv⟩
    · exact ⟨_, _, _, hv⟩
  have hlt : tl.length = l.length := hperm.length_eq.symm
  obtain ⟨rfl, ht7⟩ := fisAt_of_own ho7 rfl (by unfold maxLen; omega)
  have htn : tl.length = n := hlt.trans hll
  rw [htn] at ht7
  rw [htn]
  have HT7 := Lib.hid ht7
  have HL7 := Lib.hid ((HL1.out.below hHeld).wide hHeld.size)
  have HB7 := Lib.hid (more3 HB1.out HB1.out.size hHeld)
  have HST : Hid (∀ x ∈ tl, SizeF x) := fun x hx => HS.out x (hperm.mem_iff.2 hx)
  clear hHeld ho7 ho6 ht7 HB1 HL1
  obtain ⟨r, q, hr⟩ : ∃ r q, findL nmsP l u.data.toList = (r, q) := ⟨_, _, rfl⟩
  have hr' : findL nmsP tl u.data.toList = (r, q) := by rw [← hr]; exact (find_perm hperm _).symm
  have HR := Lib.hid hr
  have HR' := Lib.hid hr'
  clear hr hr'
  go_wp2_with fail
  refine (dFind_any (some ad) n c _ l u hu w7 HL7.out (Nat.le_refl _) HS.out).mono ?_
  intro e w8 h8
  obtain ⟨aA, ac, rfl, ha, hb8⟩ := findP_of HR.out h8
  have HX9 : Hid (Blk (w8.alloc (.cells #[.string (str r.n), .string (str r.p), .bool r.m, .slice aA r.d.length ac] 30)) w8.heap.size 30 (fdA r.n r.p r.m (.slice aA r.d.length ac))) := Blk.new w8 _ _
  have HA9 : Hid (RowAt (w8.alloc (.cells #[.string (str r.n), .string (str r.p), .bool r.m, .slice aA r.d.length ac] 30)) (w8.alloc (.cells #[.string (str r.n), .string (str r.p), .bool r.m, .slice aA r.d.length ac] 30)).heap.size aA r.d.length r.d) := (ha.below ((Below.refl _ w8).alloc (Nat.le_refl _) _)).wide (by simp)
  have HB9 : Hid (Below w7.heap.size w7 (w8.alloc (.cells #[.string (str r.n), .string (str r.p), .bool r.m, .slice aA r.d.length ac] 30))) := hb8.alloc hb8.size _
  clear h8 ha hb8
  go_wp2_with fail
  generalize w8.alloc (.cells #[.string (str r.n), .string (str r.p), .bool r.m, .slice aA r.d.length ac] 30) = w9 at *
  have HL9 := Lib.hid ((HL7.out.below HB9.out).wide HB9.out.size)
  have HT9 := Lib.hid ((HT7.out.below HB9.out).wide HB9.out.size)
  have HB9' := Lib.hid (more3 HB7.out HB7.out.size HB9.out)
  clear HL7 HT7 HB7 HB9
  refine (dFind_any A7 n c7 _ tl u hu w9 HT9.out (Nat.le_refl _) HST.out).mono ?_
  intro e w10 h10
  obtain ⟨bA, bc, rfl, hbr, hb10⟩ := findP_of HR'.out h10
  have HB11 : Hid (Below w9.heap.size w9 (w10.alloc (.cells #[.string (str r.n), .string (str r.p), .bool r.m, .slice bA r.d.length bc] 30))) := hb10.alloc hb10.size _
  have HY11 : Hid (Blk (w10.alloc (.cells #[.string (str r.n), .string (str r.p), .bool r.m, .slice bA r.d.length bc] 30)) w10.heap.size 30 (fdA r.n r.p r.m (.slice bA r.d.length bc))) := Blk.new w10 _ _
  have HC11 : Hid (RowAt (w10.alloc (.cells #[.string (str r.n), .string (str r.p), .bool r.m, .slice bA r.d.length bc] 30)) (w10.alloc (.cells #[.string (str r.n), .string (str r.p), .bool r.m, .slice bA r.d.length bc] 30)).heap.size bA r.d.length r.d) := (hbr.below ((Below.refl _ w10).alloc (Nat.le_refl _) _)).wide (by simp)
  clear h10 hbr hb10
  go_wp2_with fail
  generalize w10.alloc (.cells #[.string (str r.n), .string (str r.p), .bool r.m, .slice bA r.d.length bc] 30) = w11 at *
  have HX11 := Lib.hid (HX9.out.below HB11.out HX9.out.lt)
  have HA11 := Lib.hid ((HA9.out.below HB11.out).wide HB11.out.size)
  have HL11 := Lib.hid ((HL9.out.below HB11.out).wide HB11.out.size)
  have HT11 := Lib.hid ((HT9.out.below HB11.out).wide HB11.out.size)
  have HB11' := Lib.hid (more3 HB9'.out HB9'.out.size HB11.out)
  clear HX9 HA9 HL9 HT9 HB9' HB11
  refine (dLinks_any (some ad) n c _ l u hu w11 HL11.out (Nat.le_refl _) HS.out).mono ?_
  rintro e w12 ⟨v1, v2, rfl, ⟨A1, c1, rfl, h1⟩, ⟨A2, c2, rfl, h2⟩, hb12⟩
  have H1 := Lib.hid h1
  have H2 := Lib.hid h2
  have HX12 := Lib.hid (HX11.out.below hb12 HX11.out.lt)
  have HY12 := Lib.hid (HY11.out.below hb12 HY11.out.lt)
  have HA12 := Lib.hid ((HA11.out.below hb12).wide hb12.size)
  have HC12 := Lib.hid ((HC11.out.below hb12).wide hb12.size)
  have HL12 := Lib.hid ((HL11.out.below hb12).wide hb12.size)
  have HT12 := Lib.hid ((HT11.out.below hb12).wide hb12.size)
  have HB12 := Lib.hid (more3 HB11'.out HB11'.out.size hb12)
  clear HX11 HY11 HA11 HC11 HL11 HT11 HB11' hb12 h1 h2
  go_wp2_with fail
  refine (dLinks_any A7 n c7 _ tl u hu w12 HT12.out (Nat.le_refl _) HST.out).mono ?_
  rintro e w13 ⟨v3, v4, rfl, ⟨A3, c3, rfl, h3⟩, ⟨A4, c4, rfl, h4⟩, hb13⟩
  rw [← links_perm hperm] at h3 h4
  have K1 := Lib.hid ((H1.out.below hb13).wide hb13.size)
  have K2 := Lib.hid ((H2.out.below hb13).wide hb13.size)
  have K3 := Lib.hid h3
  have K4 := Lib.hid h4
  have HX13 := Lib.hid (HX12.out.below hb13 HX12.out.lt)
  have HY13 := Lib.hid (HY12.out.below hb13 HY12.out.lt)
  have HA13 := Lib.hid ((HA12.out.below hb13).wide hb13.size)
  have HC13 := Lib.hid ((HC12.out.below hb13).wide hb13.size)
  have HL13 := Lib.hid ((HL12.out.below hb13).wide hb13.size)
  have HT13 := Lib.hid ((HT12.out.below hb13).wide hb13.size)
  have HB13 := Lib.hid (more3 HB12.out HB12.out.size hb13)
  rw [← links_perm hperm, ← links_perm hperm]
  clear HX12 HY12 HA12 HC12 HL12 HT12 HB12 hb13 h3 h4 H1 H2
  generalize linksL nmsP 3 l u.data.toList = la at *
  generalize linksL nmsP 4 l u.data.toList = lb at *
  have hqq : (q == q) = true := by simp
  go_wp2_with (first | (refine wpList_load_row rfl 30 (.tmp 10) (by rfl) w8.heap.size (by rfl) 30 (fdA r.n r.p r.m (.slice aA r.d.length ac)) (0, 0) _ HX13.out Try.underlying30 rfl (by kernel_rfl) ?_) | (refine wpList_load_row rfl 30 (.tmp 12) (by rfl) w10.heap.size (by rfl) 30 (fdA r.n r.p r.m (.slice bA r.d.length bc)) (0, 0) _ HY13.out Try.underlying30 rfl (by kernel_rfl) ?_))
  have HSm := same_any r.n r.p r.m aA r.d.length ac r.d r.n r.p r.m bA r.d.length bc r.d _ w13 HA13.out HC13.out (Nat.le_refl _)
  rw [show sameB r.n r.p r.m r.d r.n r.p r.m r.d = true by simp [sameB]] at HSm
  refine HSm.mono ?_
  rintro e w14 ⟨rfl, hb14⟩
  have HL14 := Lib.hid ((HL13.out.below hb14).wide hb14.size)
  have HT14 := Lib.hid ((HT13.out.below hb14).wide hb14.size)
  have HB14 := Lib.hid (more3 HB13.out HB13.out.size hb14)
  have L1 := Lib.hid ((K1.out.below hb14).wide hb14.size)
  have L2 := Lib.hid ((K2.out.below hb14).wide hb14.size)
  have L3 := Lib.hid ((K3.out.below hb14).wide hb14.size)
  have L4 := Lib.hid ((K4.out.below hb14).wide hb14.size)
  clear hb14 HSm HX13 HY13 HA13 HC13 HL13 HT13 HB13 K1 K2 K3 K4
  go_wp2_with fail
  refine (Same5_any A1 A3 _ _ c1 c3 _ la la w14 L1.out L3.out).mono ?_
  rintro e w15 ⟨rfl, j, rfl⟩
  rw [show decide (la = la) = true by simp]
  have M2 : Hid (RowAt (w14.drewN j) w14.heap.size A2 lb.length lb) := L2.out.drewN j
  have M4 : Hid (RowAt (w14.drewN j) w14.heap.size A4 lb.length lb) := L4.out.drewN j
  have HL15 : Hid (FisAt (w14.drewN j) (w14.drewN j).heap.size (some ad) n l) := HL14.out.drewN j
  have HT15 : Hid (FisAt (w14.drewN j) (w14.drewN j).heap.size A7 n tl) := HT14.out.drewN j
  have HB15 := Lib.hid (below_drewN HB14.out j)
  clear HL14 HT14 HB14 L1 L2 L3 L4
  generalize w14.drewN j = w15 at *
  go_wp2_with fail
  refine (Same5_any A2 A4 _ _ c2 c4 _ lb lb w15 M2.out M4.out).mono ?_
  rintro e w16 ⟨rfl, j2, rfl⟩
  rw [show decide (lb = lb) = true by simp]
  have HL16 : Hid (FisAt (w15.drewN j2) (w15.drewN j2).heap.size (some ad) n l) := HL15.out.drewN j2
  have HT16 : Hid (FisAt (w15.drewN j2) (w15.drewN j2).heap.size A7 n tl) := HT15.out.drewN j2
  have HB16 := Lib.hid (below_drewN HB15.out j2)
  clear HL15 HT15 HB15 M2 M4
  generalize w15.drewN j2 = w16 at *
  go_wp2_with fail
  refine (dMay_any (some ad) n c _ l w16 HL16.out (Nat.le_refl _) HS.out).mono ?_
  rintro e w17 ⟨rfl, hb17⟩
  have HT17 := Lib.hid ((HT16.out.below hb17).wide hb17.size)
  have HB17 := Lib.hid (more3 HB16.out HB16.out.size hb17)
  clear hb17 HL16 HT16 HB16
  go_wp2_with fail
  refine (dMay_any A7 n c7 _ tl w17 HT17.out (Nat.le_refl _) HST.out).mono ?_
  rintro e w18 ⟨rfl, hb18⟩
  have HB18 := Lib.hid (more3 HB17.out HB17.out.size hb18)
  rw [← may_perm (N := nmsP) hperm]
  have hmm : (mayL nmsP l == mayL nmsP l) = true := by simp
  generalize mayL nmsP l = mm at *
  go_wp2_with fail
  go_ret
  exact ⟨by first | rfl | (rw [hmm]), HB18.out⟩
end Go.Proofs.Ythodbeeglkedcaa
