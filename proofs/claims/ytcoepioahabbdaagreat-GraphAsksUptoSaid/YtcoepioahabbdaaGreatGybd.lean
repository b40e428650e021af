/- The library's Insert at loaded units. -/
import Derived.Test.YtcoepioahabbdaaGreatGybc
import Derived.Lib.Overlaps
import Derived.Shelf.Spec.SlicesInsertGrow
namespace Go.Proofs.YtcoepioahabbdaaGreat
open Go.RowKit
theorem ldInfo : ∃ i, Tryz.prog.info? 53 = some i ∧ i.zero = some (.agg zeroA) ∧ i.size = 42 ∧ i.bytes ≤ 4096 := by
  have h : (Tryz.prog.info? 53).map (fun i => (i.zero, i.size, decide (i.bytes ≤ 4096))) = some (some (.agg zeroA), 42, true) := by kernel_rfl
  cases e : Tryz.prog.info? 53 with
  | none => rw [e] at h; cases h
  | some i =>
    rw [e] at h
    simp only [Option.map_some, Option.some.injEq, Prod.mk.injEq, decide_eq_true_eq] at h
    exact ⟨i, rfl, h.1, h.2.1, h.2.2⟩
theorem wpList_appendL {w : World} {ops : Array Oper} {rest : List Oper} {o : Oper} {a : Act} {Q : Exit → Act → World → Prop} (hgd : o.guard = none) (s x : Operand)
    (ho : o.op = .call { callee := .builtin .append, args := #[s, x], argTypes := #[22, 22] })
    (base : Nat) (v : Value) (l m : List LdR) (hs : a.eval s = v) (hown : OwnG ldLay 53 w base v l) (ad : Addr) (k c : Nat) (hx : a.eval x = .slice (some ad) k c) (hk : m.length = k) (hc : ∀ (j : Nat) (u : Value), (ldLay.all m)[j]? = some u → w.cell? (ad.add j) = some u) (hl : l.length + k ≤ 1048576) (hbase : base ≤ w.heap.size)
    (h : ∀ v' w', OwnG ldLay 53 w' base v' (l ++ m) → w.grownBy w' v.ownBlock → (v'.ownBlock = v.ownBlock ∨ v'.ownBlock = some w.heap.size) → wpList Tryz.prog ops Q rest (a.put o.dst v') w') : wpList Tryz.prog ops Q (o :: rest) a w := by
  obtain ⟨i, i2, i3, i4, i5⟩ := ldInfo
  have h6 : (l.length + k) * i.bytes ≤ (l.length + k) * 4096 := Nat.mul_le_mul_left _ i5
  refine wpList_append_own_at w hgd s x 22 ho base 53 i (.agg zeroA) 42 i.bytes Tryz.underlying22 i2 i3 i4 rfl rfl (by decide) v l.length (ldLay.all l) hs hown ad k c (ldLay.all m) hx (by rw [ldLay.all_len, hk]; rfl) hc ldLay.all_one (by unfold maxLen; omega) (by omega) hbase ?_
  intro v' w2 h2 h3 _ h5
  refine h v' w2 ?_ h3 h5
  unfold OwnG
  rw [List.length_append, hk, ldLay.all_app]
  exact h2
theorem ins_split {α : Type} (U : List α) (x : α) (i : Nat) : U.take i ++ x :: U.drop i = U.take i ++ [x] ++ U.drop i := by simp
def InsPost (base : Nat) (l : List LdR) (w : World) (v : Value) (e : Ending) (w' : World) : Prop := ∃ v', e = .returned v' ∧ OwnG ldLay 53 w' base v' l ∧ w.grownBy w' v.ownBlock ∧ (v'.ownBlock = v.ownBlock ∨ v'.ownBlock = some w.heap.size)
theorem one_cells {w : World} {b : Nat} {x : LdR} (h : Blk w b 53 x.a) : ∀ (j : Nat) (u : Value), (ldLay.all [x])[j]? = some u → w.cell? ((⟨b, 0, none⟩ : Addr).add j) = some u := fun j u hj => by
  rw [addA_mk, Nat.zero_add]
  refine box_cell h ?_
  simpa [Lay.all, ldLay] using hj
set_option maxRecDepth 10000 in
set_option maxHeartbeats 8000000 in
theorem insEnd_any (base : Nat) (v : Value) (U : List LdR) (vb : Nat) (x : LdR) (w : World) (h : OwnG ldLay 53 w base v U) (hU : U.length ≤ 64) (hx : Blk w vb 53 x.a) (hbase : base ≤ w.heap.size) :
    Calls Tryz.prog 46 #[v, .int .i64 U.length, .slice (some ⟨vb, 0, none⟩) 1 1] w (InsPost base (U.take U.length ++ x :: U.drop U.length) w v) := by
  obtain ⟨A, c, rfl, h1, h2, h3, h4⟩ := h.slice (by unfold maxLen; omega)
  have HO := Lib.hid h
  have HX := Lib.hid (one_cells hx)
  have hcm : c ≤ maxLen := by
    rcases h.2 with ⟨e, _⟩ | ⟨g, cap, cur, e, _, _, _, k, _⟩
    · injection e with _ _ e; subst e; exact Nat.zero_le _
    · injection e with _ _ e; subst e; exact k
  unfold maxLen at hcm
  have HW : Hid (U.take U.length ++ x :: U.drop U.length = U ++ [x]) := by show _ = _; rw [List.take_of_length_le (Nat.le_refl _), List.drop_eq_nil_of_le (Nat.le_refl _)]
  rw [HW.out]
  clear h h2 h3 h4 hx HW
  unfold InsPost
  have hc0 : (U.length : Int) ≤ (c : Int) := by omega
  have hz1 : ((1 : Int) == 0) = false := rfl
  go_enter Tryz.func46, Tryz.ntmps46
  cases A with
  | none =>
    go_wp2_with (refine wpList_appendL rfl _ _ rfl base _ U [x] rfl HO.out ⟨vb, 0, none⟩ 1 1 rfl rfl HX.out (by omega) hbase ?_)
    intro v' w' a1 a2 a3
    have A1 := Lib.hid a1
    have A2 := Lib.hid a2
    clear a1 a2
    go_wp2_with fail
    go_ret
    exact ⟨_, rfl, A1.out, A2.out, a3⟩
  | some ad =>
    go_wp2_with (refine wpList_appendL rfl _ _ rfl base _ U [x] rfl HO.out ⟨vb, 0, none⟩ 1 1 rfl rfl HX.out (by omega) hbase ?_)
    all_goals
      intro v' w' a1 a2 a3
      have A1 := Lib.hid a1
      have A2 := Lib.hid a2
      clear a1 a2
      go_wp2_with fail
      go_ret
      exact ⟨_, rfl, A1.out, A2.out, a3⟩
theorem ld_one (U : List LdR) : ∀ v ∈ ldLay.all U, v.oneCell' = true := ldLay.all_one
theorem ldSz : (Tryz.prog.info? 53).map (·.size) = some 42 := by kernel_rfl
set_option maxRecDepth 10000 in
set_option maxHeartbeats 8000000 in
theorem insRoom_any (base g c : Nat) (U : List LdR) (i vb : Nat) (x : LdR) (w : World) (h : OwnG ldLay 53 w base (.slice (some ⟨g, 0, none⟩) U.length c) U) (hi : i < U.length) (hU : U.length ≤ 64) (hroom : U.length + 1 ≤ c) (hx : Blk w vb 53 x.a) (hvb : vb ≠ g) :
    Calls Tryz.prog 46 #[.slice (some ⟨g, 0, none⟩) U.length c, .int .i64 i, .slice (some ⟨vb, 0, none⟩) 1 1] w (InsPost base (U.take i ++ x :: U.drop i) w (.slice (some ⟨g, 0, none⟩) U.length c)) := by
  obtain ⟨_, k1, k2, k3, k4, cur, k5, k6, k7⟩ := ownG_form h
  have HO := Lib.hid h
  have hcm : c ≤ 9223372036854775807 := by unfold maxLen at k4; omega
  have hall := ldLay.all_len U
  have hdl : (ldLay.all (U.drop i)).length = (U.length - i) * 42 := by rw [ldLay.all_len, List.length_drop]; rfl
  have hsp := own_isSome h
  have hx1 : (ldLay.all [x]).length = 42 := by rw [ldLay.all_len]; rfl
  have hov : ∀ lb cb, (callFunc 71 #[.slice (some ⟨vb, 0, none⟩) 1 1, .slice (some ⟨g, (i + 1) * 42, none⟩) lb cb]).run Tryz.prog w = .ok (.value (.bool false)) w := fun lb cb => by
    rw [run_callFunc_extern Tryz.func71 (by kernel_rfl) (by kernel_rfl) (by kernel_rfl) (e := Extern.SlicesOverlaps.overlaps #[22, 22] #[4]) (by kernel_rfl),
      Lib.run_overlaps_apart w 22 4 53 Tryz.underlying22 42 Tryz.sizeOf53 ⟨vb, 0, none⟩ ⟨g, (i + 1) * 42, none⟩ 1 1 lb cb hvb 53 53 x.a.size cur.size (by unfold World.shape?; rw [hx]) (by unfold World.shape?; rw [k5]) (by rw [k6]; show c * 42 ≠ 0; omega) (Blk.frozen hx 0) (Blk.frozen hx x.a.size)]
    rfl
  have hcp1 : ∀ ty dc sc, (Builtin.copy_ #[22, 22] ty #[.slice (some ⟨g, (i + 1) * 42, none⟩) (U.length - i) dc, .slice (some ⟨g, i * 42, none⟩) (U.length + 1 - i) sc]).run Tryz.prog w.drew = .ok (goInt ((U.length - i : Nat) : Int)) (w.drew.setCells g ((i + 1) * 42) (ldLay.all (U.drop i))) := fun ty dc sc => by
    have hmin : Nat.min (U.length + 1 - i) (U.length - i) = U.length - i := by simp only [Nat.min_def]; split <;> omega
    have := run_copy_k (P := Tryz.prog) w.drew 22 22 ty 53 42 g ((i + 1) * 42) (U.length - i) dc ⟨g, i * 42, none⟩ (U.length + 1 - i) sc (ldLay.all (U.drop i)) Tryz.underlying22 ldSz (by rw [hdl, hmin])
      (fun j v hj => by
        rw [addA_mk]
        refine (HO.out.cells (g := g) rfl (i * 42 + j) v ?_ : _) |> fun e => by rw [addA_mk, Nat.zero_add] at e; exact e
        have happ : ldLay.all U = ldLay.all (U.take i) ++ ldLay.all (U.drop i) := by rw [← ldLay.all_app, List.take_append_drop]
        have htl : (ldLay.all (U.take i)).length = i * 42 := by rw [ldLay.all_len, List.length_take, Nat.min_eq_left (by omega)]; rfl
        rw [happ, List.getElem?_append_right (by omega), htl, Nat.add_sub_cancel_left]
        exact hj)
      (fun j hj => (hsp ((i + 1) * 42 + j) (by rw [hdl] at hj; show _ < c * 42; omega)).1) (fun j hj => (hsp ((i + 1) * 42 + j) (by rw [hdl] at hj; show _ < c * 42; omega)).2) (ld_one _)
    rw [hmin] at this
    exact this
  obtain ⟨y, hy⟩ : ∃ y, U[i]? = some y := ⟨_, List.getElem?_eq_getElem hi⟩
  have hz : ldLay.sz = 42 := rfl
  have htk : (U.take i).length = i := by rw [List.length_take]; omega
  have hdk : (U.drop i).length = U.length - i := List.length_drop
  have hUy : U = U.take i ++ [y] ++ U.drop (i + 1) := by
    have e : U[i] = y := by rw [List.getElem?_eq_getElem hi] at hy; exact Option.some.inj hy
    rw [List.append_assoc, List.singleton_append, ← e, ← List.drop_eq_getElem_cons hi, List.take_append_drop]
  have o1 := own_over (w := w.drew) (h : OwnG ldLay 53 w.drew base (.slice (some ⟨g, 0, none⟩) U.length c) U) ((i + 1) * 42) (ldLay.all (U.drop i)) (U.take i ++ [y] ++ U.drop i) (by simp only [List.length_append, htk, hdk, List.length_singleton]; omega) (by rw [hdl, hz]; omega)
    (fun j u hj hjo => by
      have hjl := all_get_some hj
      simp only [List.length_append, htk, hdk, List.length_singleton, hz] at hjl
      rw [hdl] at hjo
      rw [all_three, htk, List.length_singleton, hz] at hj
      conv => lhs; rw [hUy]
      rw [all_three, htk, List.length_singleton, hz]
      split at hj
      · rename_i h1; rw [if_pos h1]; exact hj
      · rename_i h1
        split at hj
        · rename_i h2; rw [if_neg h1, if_pos h2]; exact hj
        · omega)
    (fun j u hj _ => by
      rw [all_three, htk, List.length_singleton, hz, if_neg (by omega), if_neg (by omega), Nat.add_sub_cancel_left] at hj
      exact hj)
  have hl1 : (U.take i ++ [y] ++ U.drop i).length = U.length + 1 := by simp only [List.length_append, htk, hdk, List.length_singleton]; omega
  have hl2 : (U.take i ++ [x] ++ U.drop i).length = U.length + 1 := by simp only [List.length_append, htk, hdk, List.length_singleton]; omega
  rw [hl1] at o1
  obtain ⟨W1, hW1⟩ : ∃ W1, W1 = w.drew.setCells g ((i + 1) * 42) (ldLay.all (U.drop i)) := ⟨_, rfl⟩
  rw [← hW1] at o1 hcp1
  have fin : ∀ W : World, (∀ b, W.heap[b]? = W1.heap[b]?) → W.heap.size = W1.heap.size → W.os = W1.os → W.tape = W1.tape → W.output = W1.output → OwnG ldLay 53 (W.setCells g (i * 42) (ldLay.all [x])) base (.slice (some ⟨g, 0, none⟩) (U.length + 1) c) (U.take i ++ x :: U.drop i) ∧ w.grownBy (W.setCells g (i * 42) (ldLay.all [x])) (some g) := fun W e1 e2 e3 e4 e5 => by
    have oW : OwnG ldLay 53 W base (.slice (some ⟨g, 0, none⟩) (U.length + 1) c) (U.take i ++ [y] ++ U.drop i) := by
      have q := o1.1
      rcases q.2 with ⟨q1, q2⟩ | ⟨g', cap', cur', q1, q2, q3, q4⟩
      · exact ⟨q.1, .inl ⟨q1, q2⟩⟩
      · exact ⟨q.1, .inr ⟨g', cap', cur', q1, q2, (e1 g').trans q3, q4⟩⟩
    have o2 := own_over oW (i * 42) (ldLay.all [x]) (U.take i ++ [x] ++ U.drop i) (by rw [hl2]; exact hroom) (by rw [hx1, hz]; omega)
      (fun j u hj hjo => by
        rw [hx1] at hjo
        rw [all_three, htk, List.length_singleton, hz] at hj ⊢
        split at hj
        · rename_i h1; rw [if_pos h1]; exact hj
        · rename_i h1
          split at hj
          · rename_i h2; omega
          · rename_i h2; rw [if_neg h1, if_neg h2]; exact hj)
      (fun j u hj hjl => by
        rw [hx1] at hjl
        rw [all_three, htk, List.length_singleton, hz, if_neg (by omega), if_pos (by omega), Nat.add_sub_cancel_left] at hj
        exact hj)
    rw [hl2, ← ins_split] at o2
    refine ⟨o2.1, grown_trans (b := W) ⟨e3.trans o1.2.os, e4.trans o1.2.tape, e5.trans o1.2.output, by rw [e2]; exact o1.2.size, fun k hk hne => (e1 k).trans (o1.2.block k hk hne)⟩ o2.2⟩
  have hcp2 : ∀ W : World, (∀ b, W.heap[b]? = W1.heap[b]?) → ∀ ty dc, (Builtin.copy_ #[22, 22] ty #[.slice (some ⟨g, i * 42, none⟩) (U.length + 1 - i) dc, .slice (some ⟨vb, 0, none⟩) 1 1]).run Tryz.prog W = .ok (goInt 1) (W.setCells g (i * 42) (ldLay.all [x])) := fun W hW ty dc => by
    have hmin : Nat.min 1 (U.length + 1 - i) = 1 := by simp only [Nat.min_def]; split <;> omega
    have hs1 := own_isSome o1.1
    have := run_copy_k (P := Tryz.prog) W 22 22 ty 53 42 g (i * 42) (U.length + 1 - i) dc ⟨vb, 0, none⟩ 1 1 (ldLay.all [x]) Tryz.underlying22 ldSz (by rw [hx1, hmin])
      (fun j v hj => by
        have q := one_cells hx j v hj
        have hb : ((⟨vb, 0, none⟩ : Addr).add j).block = vb := addA_block _ _
        exact (World.cell?_of_block (w := W1) (w' := W) (hW _)).trans ((World.cell?_of_block (w := w.drew) (w' := W1) (by rw [hb]; exact o1.2.block vb (Blk.lt hx) (fun e => hvb (by injection e)))).trans q))
      (fun j hj => by rw [World.cell?_of_block (hW _)]; exact (hs1 (i * 42 + j) (by rw [hx1] at hj; rw [hz]; omega)).1) (fun j hj => by rw [World.frozen?_of_block (hW _)]; exact (hs1 (i * 42 + j) (by rw [hx1] at hj; rw [hz]; omega)).2) (ld_one _)
    rw [hmin] at this
    exact this
  have HF := Lib.hid fin
  have hz2 : ¬ ((i : Int) = (U.length : Int)) := by omega
  have hw1 : IntKind.i64.wrap ((i : Int) + 1) = (i : Int) + 1 := by rw [IntKind.wrap_i64]; omega
  have hb0 : (i : Int) ≤ (U.length : Int) := by omega
  have mixed : Tryz.prog.follows .mixedOrders = true := by kernel_rfl
  have hb1 : (0 : Int) ≤ (i : Int) + 1 := by omega
  have hin : i ≤ U.length := by omega
  have htn : ((i : Int) + 1).toNat = i + 1 := by omega
  have hb2 : ¬ (c = i + 1) := by omega
  have hb3 : (i : Int) ≤ (U.length : Int) + 1 := by omega
  have hb4 : ¬ (c = i) := by omega
  have hb5 : ¬ ((c : Int) < (U.length : Int) + 1) := by omega
  unfold InsPost
  clear h hall hdl hsp hx1 fin o1 hx hUy hdk htk hl1 hl2 hy k5 k6 k7 hW1
  go_enter Tryz.func46, Tryz.ntmps46
  go_wp2_with (simp only [hov])
  go_region_law_o (refine step_copy_runI rfl _ _ 22 22 rfl _ _ (by simp [Act.eval, Act.put]) (by simp [Act.eval, Act.put]) (hcp1 _ _ _) ?_)
  go_wp2_with (at_builtin; refine wpList_copy_runI _ rfl _ _ 22 22 rfl _ _ rfl rfl (hcp2 _ (fun _ => rfl) _ _) ?_)
  go_ret
  obtain ⟨f1, f2⟩ := HF.out W1 (fun _ => rfl) rfl rfl rfl rfl
  exact ⟨_, rfl, f1, f2, .inl rfl⟩
set_option maxRecDepth 10000 in
set_option maxHeartbeats 8000000 in
theorem insGrow_any (base g c : Nat) (U : List LdR) (i vb : Nat) (x : LdR) (w : World) (h : OwnG ldLay 53 w base (.slice (some ⟨g, 0, none⟩) U.length c) U) (hi : i < U.length) (hU : U.length ≤ 64) (hroom : c < U.length + 1) (hx : Blk w vb 53 x.a) (hbase : base ≤ w.heap.size) :
    Calls Tryz.prog 46 #[.slice (some ⟨g, 0, none⟩) U.length c, .int .i64 i, .slice (some ⟨vb, 0, none⟩) 1 1] w (InsPost base (U.take i ++ x :: U.drop i) w (.slice (some ⟨g, 0, none⟩) U.length c)) := by
  obtain ⟨_, k1, k2, k3, k4, cur, k5, k6, k7⟩ := ownG_form h
  have hcm : c ≤ 9223372036854775807 := by unfold maxLen at k4; omega
  have hz : ldLay.sz = 42 := rfl
  have hall := ldLay.all_len U
  have htk : (U.take i).length = i := by rw [List.length_take]; omega
  have hdk : (U.drop i).length = U.length - i := List.length_drop
  have hdl : (ldLay.all (U.drop i)).length = (U.length - i) * 42 := by rw [ldLay.all_len, hdk]; rfl
  have htl : (ldLay.all (U.take i)).length = i * 42 := by rw [ldLay.all_len, htk]; rfl
  have hx1 : (ldLay.all [x]).length = 42 := by rw [ldLay.all_len]; rfl
  have happ : ldLay.all U = ldLay.all (U.take i) ++ ldLay.all (U.drop i) := by rw [← ldLay.all_app, List.take_append_drop]
  have hcell : ∀ (j : Nat) (v : Value), (ldLay.all U)[j]? = some v → w.cell? ⟨g, j, none⟩ = some v := fun j v hj => by
    have e := h.cells (g := g) rfl j v hj
    rwa [addA_mk, Nat.zero_add] at e
  obtain ⟨i0, i2, i3, i4, i5⟩ := ldInfo
  have hbt : (U.length + 1) * i0.bytes ≤ 65 * 4096 := Nat.mul_le_mul (by omega) i5
  have hold : (Builtin.firstCells i0.size i (.slice (some ⟨g, 0, none⟩) i c)).run Tryz.prog w.drew = .ok (ldLay.all (U.take i)).toArray w.drew := by
    rw [i4]
    refine run_firstCells_some w.drew 42 i ⟨g, 0, none⟩ i c (ldLay.all (U.take i)) htl (fun j v hj => ?_)
    rw [addA_mk, Nat.zero_add]
    refine hcell j v ?_
    rw [happ, List.getElem?_append_left]
    · exact hj
    · rcases Nat.lt_or_ge j (ldLay.all (U.take i)).length with h' | h'
      · exact h'
      · rw [List.getElem?_eq_none h'] at hj; cases hj
  obtain ⟨G, hG⟩ : ∃ G, G = grownCap w (U.length + 1) c 53 := ⟨_, rfl⟩
  obtain ⟨ROW, hROW⟩ : ∃ ROW : Array Value, ROW = (ldLay.all (U.take i)).toArray ++ Builtin.zeroCells zeroA (U.length + 1 - i) ++ Builtin.zeroCells zeroA (G - (U.length + 1)) := ⟨_, rfl⟩
  have hkk : ((U.length + 1 - i : Nat) : Int) = (U.length : Int) + 1 - (i : Int) := by omega
  have hik : i + (U.length + 1 - i) = U.length + 1 := by omega
  obtain ⟨W1, hW1⟩ : ∃ W1, W1 = w.drew.alloc (.cells ROW 53) := ⟨_, rfl⟩
  have hrz : ∀ ty, (Builtin.append_ #[22, 3] ty #[.slice (some ⟨g, 0, none⟩) i c, .int .i64 ((U.length : Int) + 1 - (i : Int))]).run Tryz.prog w = .ok (.slice (some ⟨w.heap.size, 0, none⟩) (U.length + 1) G) W1 := fun ty => by
    have q : (U.length + 1 - i) * i0.bytes ≤ (U.length + 1) * i0.bytes := Nat.mul_le_mul_right _ (by omega)
    have := Lib.run_append_grow_zeros (ty := ty) w 22 3 53 i0 (.agg zeroA) .i64 .i64 Tryz.underlying22 Tryz.underlying3 i2 i3 (some ⟨g, 0, none⟩) i c (ldLay.all (U.take i)) hold (U.length + 1 - i) (by omega) (by omega) (by omega) (by omega) (by omega) (by rw [hik]; exact growslice_fits hroom (by omega))
    rw [hik, hkk, ← hG] at this
    rw [this, hW1, hROW]
    rfl
  have hGn : U.length + 1 ≤ G := by rw [hG]; exact grownCap_ge w _ _ _
  have hGm : G ≤ maxLen := by rw [hG]; exact grownCap_le_maxLen w _ _ _ (by unfold maxLen; omega)
  have hG63 : G ≤ 9223372036854775807 := by unfold maxLen at hGm; omega
  have hRl : ROW.size = G * 42 := by
    rw [hROW, Array.size_append, Array.size_append, zero_len, zero_len, show zeroA.size = 42 from rfl, List.size_toArray, htl]
    omega
  have hR0 : ∀ j, j < i * 42 → ROW[j]? = (ldLay.all (U.take i))[j]? := fun j hj => by
    rw [hROW, Array.getElem?_append_left (by rw [Array.size_append, List.size_toArray, htl]; omega), Array.getElem?_append_left (by rw [List.size_toArray, htl]; exact hj), List.getElem?_toArray]
  have hs1 : W1.heap.size = w.heap.size + 1 := by rw [hW1]; simp
  have hB1 : W1.heap[w.heap.size]? = some (.cells ROW 53 (0, 0)) := by rw [hW1]; exact heap_alloc_new w.drew _
  have hK1 : w.grownBy W1 none := by
    have : Below w.heap.size w W1 := by rw [hW1]; exact (Below.refl _ w).drew.alloc (Nat.le_refl _) _
    exact only_of_below this none
  obtain ⟨W2, hW2⟩ : ∃ W2, W2 = W1.setCells w.heap.size (i * 42) (ldLay.all [x]) := ⟨_, rfl⟩
  have hcA : ∀ ty dc, (Builtin.copy_ #[22, 22] ty #[.slice (some ⟨w.heap.size, i * 42, none⟩) (U.length + 1 - i) dc, .slice (some ⟨vb, 0, none⟩) 1 1]).run Tryz.prog W1 = .ok (goInt 1) W2 := fun ty dc => by
    have hmin : Nat.min 1 (U.length + 1 - i) = 1 := by simp only [Nat.min_def]; split <;> omega
    have := run_copy_k (P := Tryz.prog) W1 22 22 ty 53 42 w.heap.size (i * 42) (U.length + 1 - i) dc ⟨vb, 0, none⟩ 1 1 (ldLay.all [x]) Tryz.underlying22 ldSz (by rw [hx1, hmin])
      (fun j v hj => by
        have q := one_cells hx j v hj
        have hb : ((⟨vb, 0, none⟩ : Addr).add j).block = vb := addA_block _ _
        exact (World.cell?_of_block (w := w) (w' := W1) (by rw [hb]; exact hK1.block vb (Blk.lt hx) (fun e => by cases e))).trans q)
      (fun j hj => by rw [cell_of_row W1 w.heap.size _ ROW _ (0, 0) hB1, Array.getElem?_eq_getElem (by rw [hx1] at hj; rw [hRl]; omega)]; rfl) (fun j hj => Blk.frozen hB1 _) (ld_one _)
    rw [hmin] at this
    rw [this, hW2]
    rfl
  have o1 := own_over' (Ly := ldLay) (base := base) hbase hB1 (cap := G) (by rw [hRl]; rfl) hGm (i * 42) (ldLay.all [x]) (U.take i ++ [x]) (by rw [List.length_append, htk, List.length_singleton]; omega) (by rw [hx1, hz]; omega)
    (fun j u hj hjo => by
      have hjl := all_get_some hj
      rw [List.length_append, htk, List.length_singleton, hz] at hjl
      rw [hx1] at hjo
      rw [hR0 j (by omega)]
      rw [ldLay.all_app, List.getElem?_append_left (by rw [htl]; omega)] at hj
      exact hj)
    (fun j u hj hjl => by
      rw [ldLay.all_app, List.getElem?_append_right (by rw [htl]; omega), htl, Nat.add_sub_cancel_left] at hj
      exact hj)
  rw [← hW2] at o1
  have hm1 : (U.take i ++ [x]).length = i + 1 := by rw [List.length_append, htk, List.length_singleton]
  rw [hm1] at o1
  obtain ⟨W3, hW3⟩ : ∃ W3, W3 = W2.drew.setCells w.heap.size ((i + 1) * 42) (ldLay.all (U.drop i)) := ⟨_, rfl⟩
  have hg2 : g ≠ w.heap.size := by omega
  have hsp := own_isSome o1.1
  have hcB : ∀ ty dc sc, (Builtin.copy_ #[22, 22] ty #[.slice (some ⟨w.heap.size, (i + 1) * 42, none⟩) (U.length - i) dc, .slice (some ⟨g, i * 42, none⟩) (U.length - i) sc]).run Tryz.prog W2.drew = .ok (goInt ((U.length - i : Nat) : Int)) W3 := fun ty dc sc => by
    have hmin : Nat.min (U.length - i) (U.length - i) = U.length - i := Nat.min_self _
    have := run_copy_k (P := Tryz.prog) W2.drew 22 22 ty 53 42 w.heap.size ((i + 1) * 42) (U.length - i) dc ⟨g, i * 42, none⟩ (U.length - i) sc (ldLay.all (U.drop i)) Tryz.underlying22 ldSz (by rw [hdl, hmin])
      (fun j v hj => by
        rw [addA_mk]
        have q : w.cell? ⟨g, i * 42 + j, none⟩ = some v := hcell _ v (by rw [happ, List.getElem?_append_right (by omega), htl, Nat.add_sub_cancel_left]; exact hj)
        exact (World.cell?_of_block (w := W1) (w' := W2) (o1.2.block g (by rw [hs1]; omega) (fun e => hg2 (by injection e)))).trans ((World.cell?_of_block (w := w) (w' := W1) (hK1.block g k2 (fun e => by cases e))).trans q))
      (fun j hj => (hsp ((i + 1) * 42 + j) (by rw [hdl] at hj; rw [hz]; omega)).1) (fun j hj => (hsp ((i + 1) * 42 + j) (by rw [hdl] at hj; rw [hz]; omega)).2) (ld_one _)
    rw [hmin] at this
    rw [this, hW3]
  have o2 := own_over (w := W2.drew) (h := (o1.1 : OwnG ldLay 53 W2.drew base (.slice (some ⟨w.heap.size, 0, none⟩) (i + 1) G) (U.take i ++ [x]))) ((i + 1) * 42) (ldLay.all (U.drop i)) (U.take i ++ [x] ++ U.drop i) (by simp only [List.length_append, htk, hdk, List.length_singleton]; omega) (by rw [hdl, hz]; omega)
    (fun j u hj hjo => by
      have hjl := all_get_some hj
      simp only [List.length_append, htk, hdk, List.length_singleton, hz] at hjl
      rw [hdl] at hjo
      rw [ldLay.all_app, List.getElem?_append_left (by rw [ldLay.all_len, hm1, hz]; omega)] at hj
      exact hj)
    (fun j u hj _ => by
      rw [ldLay.all_app, List.getElem?_append_right (by rw [ldLay.all_len, hm1, hz]; omega), ldLay.all_len, hm1, hz, Nat.add_sub_cancel_left] at hj
      exact hj)
  have hl2 : (U.take i ++ [x] ++ U.drop i).length = U.length + 1 := by simp only [List.length_append, htk, hdk, List.length_singleton]; omega
  rw [hl2, ← ins_split, ← hW3] at o2
  have HF : Hid (OwnG ldLay 53 W3 base (.slice (some ⟨w.heap.size, 0, none⟩) (U.length + 1) G) (U.take i ++ x :: U.drop i) ∧ w.grownBy W3 (some g)) := by
    refine ⟨o2.1, ⟨o2.2.os.trans (o1.2.os.trans hK1.os), o2.2.tape.trans (o1.2.tape.trans hK1.tape), o2.2.output.trans (o1.2.output.trans hK1.output), Nat.le_trans hK1.size (Nat.le_trans o1.2.size o2.2.size), fun k hk _ => ?_⟩⟩
    have hne : some k ≠ some w.heap.size := fun e => by injection e with e; omega
    exact (o2.2.block k (Nat.lt_of_lt_of_le hk (Nat.le_trans hK1.size o1.2.size)) hne).trans ((o1.2.block k (Nat.lt_of_lt_of_le hk hK1.size) hne).trans (hK1.block k hk (fun e => by cases e)))
  have hz2 : ¬ ((i : Int) = (U.length : Int)) := by omega
  have hw1 : IntKind.i64.wrap ((i : Int) + 1) = (i : Int) + 1 := by rw [IntKind.wrap_i64]; omega
  have hb0 : (i : Int) ≤ (U.length : Int) := by omega
  have mixed : Tryz.prog.follows .mixedOrders = true := by kernel_rfl
  have hb1 : (0 : Int) ≤ (i : Int) + 1 := by omega
  have hin : i ≤ U.length := by omega
  have htn : ((i : Int) + 1).toNat = i + 1 := by omega
  have hb2 : ¬ (G = i + 1) := by omega
  have hb3 : (i : Int) ≤ (U.length : Int) + 1 := by omega
  have hb4 : ¬ (c = i) := by omega
  have hb6 : ¬ (G = i) := by omega
  have hb5 : (c : Int) < (U.length : Int) + 1 := by omega
  have hb7 : (i : Int) ≤ (c : Int) := by omega
  unfold InsPost
  clear h hall hdl htl hx1 happ hcell hold hx hdk htk hm1 hl2 k5 k6 k7 hW1 hW2 hW3 o1 o2 hsp hROW hRl hR0 hs1 hB1 hK1 hG hkk hik hbt i2 i3 i4 i5 hGm k4
  go_enter Tryz.func46, Tryz.ntmps46
  go_wp2_with (first
    | (at_builtin; refine Lib.wpList_append_run _ rfl _ _ _ _ rfl _ _ rfl rfl _ _ (hrz _) ?_)
    | (at_builtin; refine wpList_copy_runI _ rfl _ _ 22 22 rfl _ _ rfl rfl (hcA _ _) ?_))
  go_region_law_o (refine step_copy_runI rfl _ _ 22 22 rfl _ _ (by simp [Act.eval, Act.put]) (by simp [Act.eval, Act.put]) (hcB _ _ _) ?_)
  go_wp2_with fail
  go_ret
  exact ⟨_, rfl, HF.out.1, HF.out.2, .inr rfl⟩
theorem ins_any (base : Nat) (v : Value) (U : List LdR) (i vb : Nat) (x : LdR) (w : World) (h : OwnG ldLay 53 w base v U) (hi : i ≤ U.length) (hU : U.length ≤ 64) (hx : Blk w vb 53 x.a) (hvb : v.ownBlock ≠ some vb) (hbase : base ≤ w.heap.size) :
    Calls Tryz.prog 46 #[v, .int .i64 i, .slice (some ⟨vb, 0, none⟩) 1 1] w (InsPost base (U.take i ++ x :: U.drop i) w v) := by
  rcases Nat.lt_or_ge i U.length with h1 | h1
  · obtain ⟨g, cap, rfl, _, _, _⟩ := ownG_at h (fun e => by rw [e] at h1; exact absurd h1 (Nat.not_lt_zero _))
    rcases Nat.lt_or_ge cap (U.length + 1) with h2 | h2
    · exact insGrow_any base g cap U i vb x w h h1 hU h2 hx hbase
    · exact insRoom_any base g cap U i vb x w h h1 hU h2 hx (fun e => hvb (by rw [e]; rfl))
  · obtain rfl : i = U.length := by omega
    exact insEnd_any base v U vb x w h hU hx hbase
end Go.Proofs.YtcoepioahabbdaaGreat
