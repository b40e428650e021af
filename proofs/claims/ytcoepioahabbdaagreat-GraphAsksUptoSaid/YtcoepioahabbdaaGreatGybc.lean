/- Rows of the call's own into which copies, stores and zeros are written. The library's Grow and Concat at texts. -/
import Derived.Test.YtcoepioahabbdaaGreatGybb
import Derived.Test.YtcoepioahabbdaaGreatGyau
import Derived.Laws.IdiomCopy
import Derived.Lib.AppendZerosOnto
namespace Go.Proofs.YtcoepioahabbdaaGreat
open Go.RowKit
def over (cur : Array Value) : Nat → List Value → Array Value
  | _, [] => cur
  | o, v :: r => over (cur.setIfInBounds o v) (o + 1) r
theorem over_size (cur : Array Value) (o : Nat) (vs : List Value) : (over cur o vs).size = cur.size := by
  induction vs generalizing cur o with
  | nil => rfl
  | cons v r ih => rw [over, ih, Array.size_setIfInBounds]
theorem over_out (cur : Array Value) (o : Nat) (vs : List Value) (j : Nat) (h : j < o ∨ o + vs.length ≤ j) : (over cur o vs)[j]? = cur[j]? := by
  induction vs generalizing cur o with
  | nil => rfl
  | cons v r ih =>
    rw [over, ih _ _ (by simp only [List.length_cons] at h; omega), Array.getElem?_setIfInBounds_ne (by simp only [List.length_cons] at h; omega)]
theorem over_in (cur : Array Value) (o : Nat) (vs : List Value) (j : Nat) (hj : j < vs.length) (hc : o + vs.length ≤ cur.size) : (over cur o vs)[o + j]? = vs[j]? := by
  induction vs generalizing cur o j with
  | nil => simp at hj
  | cons v r ih =>
    simp only [List.length_cons] at hj hc
    rw [over]
    cases j with
    | zero =>
      rw [over_out _ _ _ _ (.inl (by omega)), Nat.add_zero, Array.getElem?_setIfInBounds_self_of_lt (by omega)]
      rfl
    | succ j =>
      rw [show o + (j + 1) = o + 1 + j by omega, ih _ _ j (by omega) (by rw [Array.size_setIfInBounds]; omega), List.getElem?_cons_succ]
theorem heap_setCells {w : World} {g : Nat} {T : TypeId} {cur : Array Value} (o : Nat) (vs : List Value) (h : w.heap[g]? = some (.cells cur T (0, 0))) : (w.setCells g o vs).heap[g]? = some (.cells (over cur o vs) T (0, 0)) ∧ w.grownBy (w.setCells g o vs) (some g) := by
  induction vs generalizing w cur o with
  | nil => exact ⟨h, World.grownBy.refl _ _⟩
  | cons v r ih =>
    have h1 := heap_setCell_same w g o cur T v h
    obtain ⟨i1, i2⟩ := ih (o + 1) h1
    refine ⟨i1, grown_trans (b := w.setCell ⟨g, o, none⟩ v) ⟨rfl, rfl, rfl, by simp, fun k _ hk => heap_setCell_other w ⟨g, o, none⟩ k v (fun e => hk (by simp [e]))⟩ i2⟩
section
variable {P : Program}
theorem run_copy_k (w : World) (dT sT ty elem : TypeId) (sz b o dLen dCap : Nat) (a : Addr) (sLen sCap : Nat) (cs : List Value)
    (hu : P.underlying dT = some (.slice elem)) (hs : (P.info? elem).map (·.size) = some sz) (hn : cs.length = Nat.min sLen dLen * sz)
    (hsrc : ∀ j v, cs[j]? = some v → w.cell? (a.add j) = some v) (hc : ∀ j, j < cs.length → (w.cell? ⟨b, o + j, none⟩).isSome = true) (hf : ∀ j, j < cs.length → w.frozen? ⟨b, o + j, none⟩ = false) (h1 : ∀ v ∈ cs, v.oneCell' = true) :
    (Builtin.copy_ #[dT, sT] ty #[.slice (some ⟨b, o, none⟩) dLen dCap, .slice (some a) sLen sCap]).run P w = .ok (goInt (Nat.min sLen dLen)) (w.setCells b o cs) := by
  have hl := run_loadCells_list (P := P) w a cs hsrc
  have hst := run_storeCells_cells (P := P) b o cs 0 w (by simpa using hc) (by simpa using hf) h1
  cases hq : P.info? elem with
  | none => simp [hq] at hs
  | some i =>
    have hi : i.size = sz := by simpa [hq] using hs
    simp [Builtin.copy_, run_underlying hu, Builtin.lenOf, Builtin.firstCells, sizeOf, typeInfo, hq, hi, ← hn, hl, hst]
theorem zero_len (z : Array Value) (n : Nat) : (Builtin.zeroCells z n).size = n * z.size := by simp [Builtin.zeroCells]
theorem run_clear_k {n : Nat} (w : World) (t e ty : TypeId) (z : Value) (ht : P.underlying t = some (.slice e)) (hv : ∀ w, (zeroValue e).run P w = .ok z w) (h1 : ∀ v ∈ (Builtin.zeroCells z.cells n).toList, v.oneCell' = true) (b o c : Nat) (hn : 0 < n)
    (hc : ∀ j, j < n * z.cells.size → (w.cell? ⟨b, o + j, none⟩).isSome = true) (hf : ∀ j, j < n * z.cells.size → w.frozen? ⟨b, o + j, none⟩ = false) :
    (Builtin.clear_ #[t] ty #[.slice (some ⟨b, o, none⟩) n c]).run P w = .ok (.tuple #[]) (w.setCells b o (Builtin.zeroCells z.cells n).toList) := by
  have hst := run_storeCells_cells (P := P) b o (Builtin.zeroCells z.cells n).toList 0 w (by simpa [zero_len] using hc) (by simpa [zero_len] using hf) h1
  simp only [Nat.add_zero] at hst
  obtain ⟨m, rfl⟩ : ∃ m, n = m + 1 := ⟨n - 1, by omega⟩
  simp [Builtin.clear_, run_underlying ht, hv, hst]
end
section
variable {α : Type} {Ly : Lay α} {T : TypeId}
theorem own_isSome {w : World} {base g n cap : Nat} {l : List α} (h : OwnG Ly T w base (.slice (some ⟨g, 0, none⟩) n cap) l) (j : Nat) (hj : j < cap * Ly.sz) : (w.cell? ⟨g, j, none⟩).isSome = true ∧ w.frozen? ⟨g, j, none⟩ = false := by
  obtain ⟨rfl, h1, h2, h3, h4, cur, h5, h6, h7⟩ := ownG_form h
  refine ⟨?_, Blk.frozen (t := T) (cs := cur) h5 j⟩
  rw [cell_of_row w g j cur _ (0, 0) h5, Array.getElem?_eq_getElem (by rw [h6]; exact hj)]
  rfl
theorem own_over {w : World} {base g n cap : Nat} {l : List α} (h : OwnG Ly T w base (.slice (some ⟨g, 0, none⟩) n cap) l) (o : Nat) (vs : List Value) (m : List α) (hm : m.length ≤ cap) (hov : o + vs.length ≤ cap * Ly.sz)
    (hout : ∀ (j : Nat) (u : Value), (Ly.all m)[j]? = some u → (j < o ∨ o + vs.length ≤ j) → (Ly.all l)[j]? = some u) (hin : ∀ (j : Nat) (u : Value), (Ly.all m)[o + j]? = some u → j < vs.length → vs[j]? = some u) :
    OwnG Ly T (w.setCells g o vs) base (.slice (some ⟨g, 0, none⟩) m.length cap) m ∧ w.grownBy (w.setCells g o vs) (some g) := by
  obtain ⟨rfl, h1, h2, h3, h4, cur, h5, h6, h7⟩ := ownG_form h
  obtain ⟨k1, k2⟩ := heap_setCells o vs h5
  refine ⟨own_of h1 k1 (by rw [over_size]; exact h6) hm h4 fun j u hj => ?_, k2⟩
  by_cases hjo : j < o ∨ o + vs.length ≤ j
  · rw [over_out _ _ _ _ hjo]
    have := hout j u hj hjo
    rw [← h7, List.getElem?_take] at this
    split at this
    · rwa [Array.getElem?_toList] at this
    · cases this
  · obtain ⟨k, rfl⟩ : ∃ k, j = o + k := ⟨j - o, by omega⟩
    rw [over_in _ _ _ k (by omega) (by omega)]
    exact hin k u hj (by omega)
theorem own_over' {w : World} {base g cap : Nat} {cur : Array Value} (hb : base ≤ g) (hbk : w.heap[g]? = some (.cells cur T (0, 0))) (hs : cur.size = cap * Ly.sz) (hcm : cap ≤ maxLen) (o : Nat) (vs : List Value) (m : List α) (hm : m.length ≤ cap) (hov : o + vs.length ≤ cap * Ly.sz)
    (hout : ∀ (j : Nat) (u : Value), (Ly.all m)[j]? = some u → (j < o ∨ o + vs.length ≤ j) → cur[j]? = some u) (hin : ∀ (j : Nat) (u : Value), (Ly.all m)[o + j]? = some u → j < vs.length → vs[j]? = some u) :
    OwnG Ly T (w.setCells g o vs) base (.slice (some ⟨g, 0, none⟩) m.length cap) m ∧ w.grownBy (w.setCells g o vs) (some g) := by
  obtain ⟨k1, k2⟩ := heap_setCells o vs hbk
  refine ⟨own_of hb k1 (by rw [over_size]; exact hs) hm hcm fun j u hj => ?_, k2⟩
  by_cases hjo : j < o ∨ o + vs.length ≤ j
  · rw [over_out _ _ _ _ hjo]
    exact hout j u hj hjo
  · obtain ⟨k, rfl⟩ : ∃ k, j = o + k := ⟨j - o, by omega⟩
    rw [over_in _ _ _ k (by omega) (by omega)]
    exact hin k u hj (by omega)
theorem all_get_some {l : List α} {j : Nat} {u : Value} (h : (Ly.all l)[j]? = some u) : j < l.length * Ly.sz := by
  rcases Nat.lt_or_ge j (Ly.all l).length with h' | h'
  · rwa [Ly.all_len] at h'
  · rw [List.getElem?_eq_none h'] at h; cases h
theorem all_three (a b c : List α) (j : Nat) : (Ly.all (a ++ b ++ c))[j]? = if j < a.length * Ly.sz then (Ly.all a)[j]? else if j < (a.length + b.length) * Ly.sz then (Ly.all b)[j - a.length * Ly.sz]? else (Ly.all c)[j - (a.length + b.length) * Ly.sz]? := by
  rw [Ly.all_app, Ly.all_app]
  have ha := Ly.all_len a
  have hab : (Ly.all a ++ Ly.all b).length = (a.length + b.length) * Ly.sz := by rw [List.length_append, Ly.all_len, Ly.all_len, Nat.add_mul]
  by_cases h1 : j < a.length * Ly.sz
  · rw [if_pos h1, List.getElem?_append_left (by rw [hab, Nat.add_mul]; omega), List.getElem?_append_left (by omega)]
  · rw [if_neg h1]
    by_cases h2 : j < (a.length + b.length) * Ly.sz
    · rw [if_pos h2, List.getElem?_append_left (by omega), List.getElem?_append_right (by omega), ha]
    · rw [if_neg h2, List.getElem?_append_right (by omega), hab]
end
end Go.Proofs.YtcoepioahabbdaaGreat
namespace Go.Proofs.YtcoepioahabbdaaGreat
open Go.RowKit
section
variable {α : Type} {L : Lay α} {T TS : TypeId} {P : Program}
theorem wpList_appendX (K : TyOk P L T TS) {w : World} {ops : Array Oper} {rest : List Oper} {o : Oper} {a : Act} {Q : Exit → Act → World → Prop} (hgd : o.guard = none) (s x : Operand)
    (ho : o.op = .call { callee := .builtin .append, args := #[s, x], argTypes := #[TS, TS] })
    (base : Nat) (v : Value) (l m : List α) (hs : a.eval s = v) (hown : OwnG L T w base v l) (A : Option Addr) (c B : Nat) (hx : a.eval x = .slice A m.length c) (hm : SlAt L w B A m.length m) (hl : l.length + m.length ≤ 1099511627776) (hbase : base ≤ w.heap.size)
    (h : ∀ v' w', OwnG L T w' base v' (l ++ m) → w.grownBy w' v.ownBlock → (v'.ownBlock = v.ownBlock ∨ v'.ownBlock = some w.heap.size) → wpList P ops Q rest (a.put o.dst v') w') : wpList P ops Q (o :: rest) a w := by
  by_cases h0 : 0 < m.length
  · obtain ⟨ad, rfl, _, hc⟩ := hm.2.2 h0
    exact wpList_appendO K hgd s x ho base v l m hs hown ad m.length c hx rfl hc hl hbase h
  · have hm0 : m = [] := List.eq_nil_of_length_eq_zero (by omega)
    subst hm0
    obtain ⟨i, z, b, i1, i2, i3, i4, i5, i6⟩ := K.info
    have hr := run_append_zero (P := P) w base TS o.type T i L.sz K.und i1 v l.length (L.all l) hown A c
    refine Lib.wpList_append_run w hgd s x TS TS ho v _ hs hx v w hr ?_
    refine h v w ?_ (World.grownBy.refl _ _) (.inl rfl)
    rw [List.append_nil]
    exact hown
end
theorem txInfo : (Tryz.prog.info? 9).map (fun i => (i.zero, i.size, i.bytes)) = some (some (.string ⟨#[]⟩), 1, 16) := by kernel_rfl
def NewT (l : List Tx) (w : World) (e : Ending) (w' : World) : Prop := ∃ v, e = .returned v ∧ OwnG txLay 9 w' w.heap.size v l ∧ Below w.heap.size w w'
set_option maxHeartbeats 4000000 in
set_option maxRecDepth 100000 in
theorem growT_any (n : Nat) (hn : n ≤ 4194304) (w : World) :
    Calls Tryz.prog 127 #[.slice none 0 0, .int .i64 n] w (NewT [] w) := by
  unfold NewT
  by_cases h0 : n = 0
  · subst h0
    go_enter Tryz.func127, Tryz.ntmps127
    go_wp2_with fail
    go_ret
    exact ⟨_, rfl, OwnG.nil _ _, Below.refl _ _⟩
  · obtain ⟨i0, hi, hz0, hz1, hz2⟩ := info_parts txInfo
    have hbig : (0 + n) * i0.bytes ≤ 140737488355328 := by rw [hz2]; omega
    have hrz : ∀ ty, (Builtin.append_ #[37, 3] ty #[.slice none 0 0, .int .i64 n]).run Tryz.prog w =
        .ok (.slice (some ⟨w.heap.size, 0, none⟩) n (grownCap w n 0 9)) (w.drew.alloc (.cells (#[] ++ Builtin.zeroCells (Value.string ⟨#[]⟩).cells n ++ Builtin.zeroCells (Value.string ⟨#[]⟩).cells (grownCap w n 0 9 - n)) 9)) := fun ty => by
      have h := Lib.run_append_grow_zeros w 37 3 ty 9 i0 _ .i64 .i64 Tryz.underlying37 Tryz.underlying3 hi hz0 none 0 0 [] (run_firstCells_none w.drew i0.size 0 0 0) n (by omega) (by rw [hz1]; decide) (by omega) (by omega)
        (by rw [hz2]; omega) (growslice_fits (by omega) hbig)
      rw [Nat.zero_add] at h
      exact h
    have hGn : n ≤ grownCap w n 0 9 := grownCap_ge w _ _ _
    have hG63 : grownCap w n 0 9 ≤ maxLen := grownCap_le_maxLen w n 0 9 (by unfold maxLen; omega)
    obtain ⟨G, hG⟩ : ∃ G, G = grownCap w n 0 9 := ⟨_, rfl⟩
    rw [← hG] at hrz hGn hG63
    have HG := Lib.hid hG63
    unfold maxLen at hG63
    obtain ⟨cs, hcs⟩ : ∃ cs, cs = (#[] ++ Builtin.zeroCells (Value.string ⟨#[]⟩).cells n ++ Builtin.zeroCells (Value.string ⟨#[]⟩).cells (G - n)) := ⟨_, rfl⟩
    rw [← hcs] at hrz
    have HCS : Hid (cs.size = G * 1) := by
      show _ = _
      rw [hcs]
      simp [Builtin.zeroCells, Value.cells]
      omega
    clear hcs hG hbig
    have h1 : ¬ ((n : Int) < 0) := by omega
    have h4 : (0 : Int) < (n : Int) := by omega
    go_enter Tryz.func127, Tryz.ntmps127
    go_wp2_with (at_builtin; refine Lib.wpList_append_run _ rfl _ _ _ _ rfl _ _ rfl rfl _ _ (hrz _) ?_)
    all_goals
      go_ret
      refine ⟨_, rfl, ?_, (below_drewN (Below.refl _ w) 1).alloc (Nat.le_refl _) _⟩
      exact World.ownsRow_made (w := w.drew) (base := w.heap.size) cs G (Nat.le_refl _) HG.out HCS.out
set_option maxRecDepth 10000 in
set_option maxHeartbeats 8000000 in
theorem concat_any (b : Nat) (WA QA : Option Addr) (wc qc B : Nat) (ws qs : List Tx) (w : World) (hb : Blk w b 37 #[.slice WA ws.length wc, .slice QA qs.length qc]) (hW : SlAt txLay w B WA ws.length ws) (hQ : SlAt txLay w B QA qs.length qs) (hB : B ≤ w.heap.size) (hl : ws.length + qs.length ≤ 4194304) :
    Calls Tryz.prog 119 #[.slice (some ⟨b, 0, none⟩) 2 2] w (NewT (ws ++ qs) w) := by
  have HW := Lib.hid hW
  have HQ := Lib.hid hQ
  have HBK := Lib.hid hb
  have hbl := hb.lt
  have c0 : w.cell? ⟨b, 0, none⟩ = some (.slice WA ws.length wc) := hb.cell 0
  have c1 : w.cell? ⟨b, 1, none⟩ = some (.slice QA qs.length qc) := hb.cell 1
  have hn0 : (ws ++ qs).length = ws.length + qs.length := List.length_append
  clear hW hQ hb
  unfold NewT
  go_enter Tryz.func119, Tryz.ntmps119
  go_wp2_with fail
  go_loopw [3, 11] (fun z i wr => ∃ k sz : Nat, k ≤ 2 ∧ sz ≤ 4194304 ∧ i = .int .i64 k ∧ z = .int .i64 sz ∧ w = wr ∧ Hid (sz = (if k = 0 then 0 else if k = 1 then ws.length else ws.length + qs.length))) (fun z i wr => 2 - (intOf i).toNat)
  case atStart => exact ⟨0, 0, by omega, by omega, rfl, rfl, rfl, rfl⟩
  case round =>
    obtain ⟨k, sz, hk, hsz, rfl, rfl, rfl, hN⟩ := hrel
    by_cases hlt : k < 2
    · have b0 : (0 : Int) ≤ (k : Int) := by omega
      have b1 : (k : Int) < 2 := by omega
      by_cases hk0 : k = 0
      · have q0 : w.cell? ⟨b, k, none⟩ = some (.slice WA ws.length wc) := by rw [hk0]; exact c0
        have HS0 : Hid (sz = 0) := by show _ = _; rw [hN.out, if_pos hk0]
        have HN2 : Hid (ws.length = (if k + 1 = 0 then 0 else if k + 1 = 1 then ws.length else ws.length + qs.length)) := by show _ = _; rw [if_neg (by omega), if_pos (by omega)]
        have z1 : ¬ ((sz : Int) + (ws.length : Int) < 0) := by omega
        clear hN hk0 c0 c1
        go_wp2_with fail
        go_roundw
        case rel => exact ⟨k + 1, ws.length, by omega, by omega, by go_num, by rw [HS0.out]; go_num, by trivial, HN2⟩
        case measure => simp [intOf]; omega
      · have hk1 : k = 1 := by omega
        have q0 : w.cell? ⟨b, k, none⟩ = some (.slice QA qs.length qc) := by rw [hk1]; exact c1
        have HS0 : Hid (sz = ws.length) := by show _ = _; rw [hN.out, if_neg hk0, if_pos hk1]
        have HN2 : Hid (ws.length + qs.length = (if k + 1 = 0 then 0 else if k + 1 = 1 then ws.length else ws.length + qs.length)) := by show _ = _; rw [if_neg (by omega), if_neg (by omega)]
        have z1 : ¬ ((sz : Int) + (qs.length : Int) < 0) := by omega
        clear hN hk0 hk1 c0 c1
        go_wp2_with fail
        go_roundw
        case rel => exact ⟨k + 1, ws.length + qs.length, by omega, by omega, by go_num, by rw [HS0.out]; go_num, by trivial, HN2⟩
        case measure => simp [intOf]; omega
    · have hk2 : k = 2 := by omega
      have HS0 : Hid (sz = ws.length + qs.length) := by show _ = _; rw [hN.out, if_neg (by omega), if_neg (by omega)]
      have b2 : (2 : Int) ≤ (k : Int) := by omega
      have hgr := growT_any sz hsz w
      clear hN hk2 hlt
      go_wp2_with fail
      refine hgr.mono ?_
      rintro e w1 ⟨v1, rfl, ho1, hb1⟩
      have HO1 := Lib.hid ho1
      have HB1 := Lib.hid hb1
      have e0 : w1.cell? ⟨b, 0, none⟩ = some (.slice WA ws.length wc) := (hb1.cell hbl).trans c0
      have e1 : w1.cell? ⟨b, 1, none⟩ = some (.slice QA qs.length qc) := (hb1.cell hbl).trans c1
      clear ho1 hb1 hgr c0 c1
      go_wp2_with fail
      go_loopw [6, 27] (fun v i wr => ∃ (k : Nat) (xs : List Tx), k ≤ 2 ∧ i = .int .i64 k ∧ Hid (xs = (if k = 0 then [] else if k = 1 then ws else ws ++ qs)) ∧ Hid (OwnG txLay 9 wr w.heap.size v xs) ∧ Hid (Below w.heap.size w wr)) (fun _ i wr => 2 - (intOf i).toNat)
      case atStart => exact ⟨0, [], by omega, rfl, rfl, HO1, HB1⟩
      case round =>
        obtain ⟨q, xs, hq, rfl, hX, hO, hBw⟩ := hrel
        have hws := hBw.out.size
        by_cases hlt : q < 2
        · have b0 : (0 : Int) ≤ (q : Int) := by omega
          have b1 : (q : Int) < 2 := by omega
          by_cases hq0 : q = 0
          · have q0 : wr.cell? ⟨b, q, none⟩ = some (.slice WA ws.length wc) := by rw [hq0]; exact (hBw.out.cell (p := ⟨b, 0, none⟩) hbl).trans ((HB1.out.cell (p := ⟨b, 0, none⟩) hbl).symm.trans e0)
            have HX0 : Hid (xs = []) := by show _ = _; rw [hX.out, if_pos hq0]
            have HN2 : Hid (xs ++ ws = (if q + 1 = 0 then [] else if q + 1 = 1 then ws else ws ++ qs)) := by show _ = _; rw [if_neg (by omega), if_pos (by omega), HX0.out]; rfl
            have hxl : xs.length + ws.length ≤ 8388608 := by rw [HX0.out]; simp; omega
            have HWr := Lib.hid (HW.out.below (hBw.out.mono hB))
            clear hX hq0 e0 e1 HX0
            go_wp2_with (refine wpList_appendX txTy rfl _ _ rfl w.heap.size _ xs ws rfl hO.out WA wc B rfl HWr.out (by omega) hws ?_)
            intro v5 w5 own5 grow5 _
            have HO5 := Lib.hid own5
            have HB5 := Lib.hid (hBw.out.grown grow5 hws (fun g hg => (hO.out.lt hg).1))
            clear own5 grow5
            go_wp2_with fail
            go_roundw
            case rel => exact ⟨q + 1, xs ++ ws, by omega, by go_num, HN2, HO5, HB5⟩
            case measure => simp [intOf]; omega
          · have hq1 : q = 1 := by omega
            have q0 : wr.cell? ⟨b, q, none⟩ = some (.slice QA qs.length qc) := by rw [hq1]; exact (hBw.out.cell (p := ⟨b, 1, none⟩) hbl).trans ((HB1.out.cell (p := ⟨b, 1, none⟩) hbl).symm.trans e1)
            have HX0 : Hid (xs = ws) := by show _ = _; rw [hX.out, if_neg hq0, if_pos hq1]
            have HN2 : Hid (xs ++ qs = (if q + 1 = 0 then [] else if q + 1 = 1 then ws else ws ++ qs)) := by show _ = _; rw [if_neg (by omega), if_neg (by omega), HX0.out]
            have hxl : xs.length + qs.length ≤ 8388608 := by rw [HX0.out]; omega
            have HQr := Lib.hid (HQ.out.below (hBw.out.mono hB))
            clear hX hq0 hq1 e0 e1 HX0
            go_wp2_with (refine wpList_appendX txTy rfl _ _ rfl w.heap.size _ xs qs rfl hO.out QA qc B rfl HQr.out (by omega) hws ?_)
            intro v5 w5 own5 grow5 _
            have HO5 := Lib.hid own5
            have HB5 := Lib.hid (hBw.out.grown grow5 hws (fun g hg => (hO.out.lt hg).1))
            clear own5 grow5
            go_wp2_with fail
            go_roundw
            case rel => exact ⟨q + 1, xs ++ qs, by omega, by go_num, HN2, HO5, HB5⟩
            case measure => simp [intOf]; omega
        · have hq2 : q = 2 := by omega
          have HX0 : Hid (xs = ws ++ qs) := by show _ = _; rw [hX.out, if_neg (by omega), if_neg (by omega)]
          have b2' : (2 : Int) ≤ (q : Int) := by omega
          clear hX hq2 hlt e0 e1
          go_wp2_with fail
          go_ret
          exact ⟨_, rfl, by rw [← HX0.out]; exact hO.out, hBw.out⟩
end Go.Proofs.YtcoepioahabbdaaGreat
