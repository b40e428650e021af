/- The walks of the developers' intervalOf and leastOfPart. The package's own tables; the walk of the developers' leastFrom -/
import Derived.Test.YtadifolonbkamaaGreatDoorKvap
import Derived.Test.YtadifolonbkamaaGreatDoorKvar
import Derived.Lib.LaidTab
import Derived.Lib.ItoaNum
import Derived.Test.YtadifolonbkamaaGreatDoorKvas
import Derived.Test.YtadifolonbkamaaGreatDoorKvau
import Derived.Test.YtadifolonbkamaaGreatDoorKvaa
import Derived.Test.YtadifolonbkamaaGreatDoorKvao
import Derived.Test.YtadifolonbkamaaGreatDoorKvac
import Derived.RangeFuncNested
import Derived.RangeFuncBound
import Derived.RangeFuncCalls
import Derived.RangeFuncLeaves
import Derived.Shelf.Abstract
import Derived.Shelf.RegionOpen
import Derived.OwnWalkIn
import Derived.TacticsInMore
import Derived.LoopNIn
import Derived.LoopIn
namespace Go.Proofs.YtadifolonbkamaaGreatDoor.Ca
open Go.RowKit
theorem ret_ib' {a b : Int} {x y : Bool} (h : a = b) (g : x = y) : Ending.returned (.tuple #[.int .i64 a, .bool x]) = .returned (.tuple #[.int .i64 b, .bool y]) := by rw [h, g]
end Go.Proofs.YtadifolonbkamaaGreatDoor.Ca
namespace Go.Proofs.YtadifolonbkamaaGreatDoor.Ca
open Go.RowKit
def rngCells : Array Value := #[.int .i64 2000, .int .i64 2199, .int .i64 1, .int .i64 12, .int .i64 1, .int .i64 31, .int .i64 0, .int .i64 23, .int .i64 0, .int .i64 59, .int .i64 0, .int .i64 59]
def daysCells : Array Value := #[.string ⟨#[77, 111, 110]⟩, .string ⟨#[84, 117, 101]⟩, .string ⟨#[87, 101, 100]⟩, .string ⟨#[84, 104, 117]⟩, .string ⟨#[70, 114, 105]⟩, .string ⟨#[83, 97, 116]⟩, .string ⟨#[83, 117, 110]⟩]
theorem rng_glob : Tryz.prog.globalNamed "matins/cal.ranges" = some 0 := by kernel_rfl
theorem days_glob : Tryz.prog.globalNamed "matins/cal.dayNames" = some 3 := by kernel_rfl
theorem p10_glob : Tryz.prog.globalNamed "internal/strconv.uint64pow10" = some 7 := by kernel_rfl
def P10 (w : World) : Prop := Lib.TabIs Tryz.prog w "internal/strconv.uint64pow10" .u64 Lib.pow10Tab
structure Tabs (w : World) : Prop where
  rng : w.var? Tryz.prog "matins/cal.ranges" = some rngCells
  days : w.var? Tryz.prog "matins/cal.dayNames" = some daysCells
  p10 : P10 w
theorem var_lt {w : World} {nm : String} {g : Nat} {cs : Array Value} (hg : Tryz.prog.globalNamed nm = some g) (h : w.var? Tryz.prog nm = some cs) : g < w.heap.size := by
  unfold World.var? at h
  rw [hg] at h
  simp only [Option.bind_some] at h
  rcases Nat.lt_or_ge g w.heap.size with h' | h'
  · exact h'
  · rw [Array.getElem?_eq_none h'] at h; cases h
theorem var_below {w w' : World} {B : Nat} {nm : String} {g : Nat} {cs : Array Value} (hg : Tryz.prog.globalNamed nm = some g) (h : w.var? Tryz.prog nm = some cs) (hb : Below B w w') (hB : g < B) : w'.var? Tryz.prog nm = some cs := by
  unfold World.var? at h ⊢
  rw [hg] at h ⊢
  simp only [Option.bind_some] at h ⊢
  rw [hb.block g hB]
  exact h
theorem Tabs.below {w w' : World} (h : Tabs w) (hb : Below w.heap.size w w') : Tabs w' :=
  ⟨var_below rng_glob h.rng hb (var_lt rng_glob h.rng), var_below days_glob h.days hb (var_lt days_glob h.days), var_below p10_glob h.p10 hb (var_lt p10_glob h.p10)⟩
theorem Tabs.rng0 {w : World} (h : Tabs w) {f : Nat} (hf : f ≤ 5) : w.cell? ⟨0, f * 2, none⟩ = some (.int .i64 (lo f)) := by
  rcases f_cases hf with rfl | rfl | rfl | rfl | rfl | rfl <;> exact World.var?_cell rng_glob h.rng _
theorem Tabs.rng1 {w : World} (h : Tabs w) {f : Nat} (hf : f ≤ 5) : w.cell? ⟨0, f * 2 + 1, none⟩ = some (.int .i64 (hi f)) := by
  rcases f_cases hf with rfl | rfl | rfl | rfl | rfl | rfl <;> exact World.var?_cell rng_glob h.rng _
end Go.Proofs.YtadifolonbkamaaGreatDoor.Ca
namespace Go.Proofs.YtadifolonbkamaaGreatDoor.Ca
open Go.RowKit
structure TabM (w : World) : Prop where
  t : Tabs w
  ml : ∃ m : Int, w.cell? ⟨6, 0, none⟩ = some (.int .i64 m)
theorem TabM.below {w w' : World} (h : TabM w) (hb : Below w.heap.size w w') : TabM w' := by
  obtain ⟨m, hm⟩ := h.ml
  exact ⟨h.t.below hb, m, (hb.cell (p := ⟨6, 0, none⟩) (World.block_lt_of_cell? w _ hm)).trans hm⟩
def numD (l : List UInt8) : Int := match numL l with
  | some n => n
  | none => 0
def numOk (l : List UInt8) : Bool := (numL l).isSome
theorem numD_no {l : List UInt8} (h : numL l = none) : numD l = 0 ∧ numOk l = false := by unfold numD numOk; rw [h]; exact ⟨rfl, rfl⟩
theorem numD_yes {l : List UInt8} {n : Nat} (h : numL l = some n) : numD l = n ∧ numOk l = true := by unfold numD numOk; rw [h]; exact ⟨rfl, rfl⟩
theorem numL_long {l : List UInt8} (h : l.length < 1 ∨ 4 < l.length) : numL l = none := by
  unfold numL; rw [if_neg (by omega)]
theorem numL_bad {l : List UInt8} {k : Nat} (h : k < l.length) (hd : isDig (l[k]'h) = false) : numL l = none := by
  unfold numL
  rw [if_neg]
  rintro ⟨_, _, h3⟩
  have := List.all_eq_true.1 h3 (l[k]'h) (List.getElem_mem h)
  rw [hd] at this; cases this
theorem numL_ok {l : List UInt8} (h0 : 1 ≤ l.length) (h4 : l.length ≤ 4) (h : ∀ c ∈ l, isDig c = true) : numL l = some (valL l) := by
  unfold numL
  rw [if_pos ⟨h0, h4, List.all_eq_true.2 h⟩]
theorem val_snoc4 (l : List UInt8) (c : UInt8) : valL (l ++ [c]) = 10 * valL l + (c.toNat - 48) := by
  unfold valL; rw [List.foldl_append, List.foldl_cons, List.foldl_nil]
set_option maxHeartbeats 4000000 in
theorem parseNumber_any (s : ByteArray) (hs : s.size ≤ 4194304) (w : World) :
    Calls Tryz.prog 175 #[.string s] w fun e w' => e = .returned (.tuple #[.int .i64 (numD s.data.toList), .bool (numOk s.data.toList)]) ∧ w = w' := by
  have hlen := size_list s
  by_cases h1 : s.size < 1
  · have HN := Lib.hid (numD_no (numL_long (l := s.data.toList) (.inl (by omega))))
    have h1' : (s.size : Int) < 1 := by omega
    clear hlen h1
    go_enter Tryz.func175, Tryz.ntmps175
    go_wp2_with fail
    go_ret2
    exact ⟨ret_ib' HN.out.1.symm HN.out.2.symm, rfl⟩
  by_cases h4 : 4 < s.size
  · have HN := Lib.hid (numD_no (numL_long (l := s.data.toList) (.inr (by omega))))
    have h1' : (1 : Int) ≤ (s.size : Int) := by omega
    have h4' : (4 : Int) < (s.size : Int) := by omega
    have u1 : (0 : Nat) ≤ 1 := Nat.zero_le _
    clear hlen h1 h4
    go_enter Tryz.func175, Tryz.ntmps175
    go_wp2_with fail
    go_ret2
    exact ⟨ret_ib' HN.out.1.symm HN.out.2.symm, rfl⟩
  have h1' : (1 : Int) ≤ (s.size : Int) := by omega
  have h4' : (s.size : Int) ≤ 4 := by omega
  have u1 : (0 : Nat) ≤ 1 := Nat.zero_le _
  have u2 : (0 : Nat) ≤ 2 := Nat.zero_le _
  have HL := Lib.hid hlen
  clear hlen h1 h4
  go_enter Tryz.func175, Tryz.ntmps175
  go_wp2_with fail
  go_loop [4, 5, 16] (fun n _ i => ∃ (k v : Nat), k ≤ s.size ∧ v < 10 ^ k ∧ i = .int .i64 k ∧ n = .int .i64 v ∧ Hid (v = valL (s.data.toList.take k)) ∧ Hid (∀ c ∈ s.data.toList.take k, isDig c = true)) (fun _ _ i => s.size - (intOf i).toNat)
  case atStart => exact ⟨0, 0, Nat.zero_le _, by omega, rfl, rfl, by simp [Hid, valL], by intro c hc; simp at hc⟩
  case round =>
    obtain ⟨k, v, hk, hv, rfl, rfl, hval, hdig⟩ := hrel
    have hv4 : v < 10000 := Nat.lt_of_lt_of_le hv (Nat.le_trans (Nat.pow_le_pow_right (by omega) (show k ≤ 4 by omega)) (by decide))
    have HV := Lib.hid hv
    clear hv
    by_cases hlt : k < s.size
    · have b0 : (0 : Int) ≤ (k : Int) := by omega
      have b1 : (k : Int) < (s.size : Int) := by omega
      have hr := s[k].toNat_lt
      have HT := Lib.hid (take_at s k hlt)
      rcases hg : isDig s[k] with _ | _
      · have HN := Lib.hid (numD_no (numL_bad (l := s.data.toList) (k := k) (by rw [HL.out]; exact hlt) (by exact hg)))
        have hd : (s[k].toNat : Int) < 48 ∨ 57 < (s[k].toNat : Int) := by
          simp only [isDig, Bool.and_eq_false_iff, decide_eq_false_iff_not] at hg
          omega
        clear hg
        rcases hd with hd | hd
        · go_wp2_with fail
          go_ret2
          exact ⟨ret_ib' HN.out.1.symm HN.out.2.symm, rfl⟩
        · have d0 : (48 : Int) ≤ (s[k].toNat : Int) := by omega
          have u3 : (0 : Nat) ≤ 3 := Nat.zero_le _
          go_wp2_with fail
          go_ret2
          exact ⟨ret_ib' HN.out.1.symm HN.out.2.symm, rfl⟩
      · have hd : 48 ≤ s[k].toNat ∧ s[k].toNat ≤ 57 := by simpa [isDig, Bool.and_eq_true] using hg
        obtain ⟨d0, d1⟩ := hd
        have d0' : (48 : Int) ≤ (s[k].toNat : Int) := by omega
        have d1' : (s[k].toNat : Int) ≤ 57 := by omega
        have HG := Lib.hid hg
        have HV1 : Hid (10 * v + (s[k].toNat - 48) < 10 ^ (k + 1)) := by
          have := HV.out
          show _ < _
          rw [Nat.pow_succ]; omega
        have HW : Hid (10 * v + (s[k].toNat - 48) = valL (s.data.toList.take (k + 1))) := by
          show _ = _
          rw [HT.out, val_snoc4, ← hval.out]
        have HD1 : Hid (∀ c ∈ s.data.toList.take (k + 1), isDig c = true) := by
          intro c hc
          rw [HT.out] at hc
          rcases List.mem_append.1 hc with hc | hc
          · exact hdig.out c hc
          · rw [List.mem_singleton.1 hc]; exact HG.out
        have u3 : (0 : Nat) ≤ 3 := Nat.zero_le _
        have u4 : (0 : Nat) ≤ 4 := Nat.zero_le _
        clear hg d0 d1
        go_wp2_with fail
        go_round
        case rel => exact ⟨k + 1, 10 * v + (s[k].toNat - 48), by omega, HV1.out, by go_num, by congr 1; omega, HW, HD1⟩
        case measure => simp [intOf]; omega
    · obtain rfl : k = s.size := by omega
      have HN : Hid (numD s.data.toList = v ∧ numOk s.data.toList = true) := by
        have a := hval.out
        have b := hdig.out
        rw [List.take_of_length_le (by rw [HL.out]; exact Nat.le_refl _)] at a b
        have := numD_yes (numL_ok (by rw [HL.out]; omega) (by rw [HL.out]; omega) b)
        rw [← a] at this; exact this
      clear hlt
      go_wp2_with fail
      go_ret2
      exact ⟨ret_ib' HN.out.1.symm HN.out.2.symm, rfl⟩
end Go.Proofs.YtadifolonbkamaaGreatDoor.Ca
namespace Go.Proofs.YtadifolonbkamaaGreatDoor.Ca
open Go.RowKit
attribute [local go_sem] Oper.semAt_some
theorem sgo_none (l w : List UInt8) (h : ∀ c ∈ l, c ≠ 44) : sgo 44 w l = [w ++ l] := by
  induction l generalizing w with
  | nil => simp [sgo]
  | cons c l ih =>
    rw [sgo, if_neg (h c (by simp)), ih _ (fun x hx => h x (by simp [hx]))]
    simp
theorem sgo_some (a b w : List UInt8) (h : ∀ c ∈ a, c ≠ 44) : sgo 44 w (a ++ 44 :: b) = (w ++ a) :: sgo 44 [] b := by
  induction a generalizing w with
  | nil => simp [sgo]
  | cons c a ih =>
    rw [List.cons_append, sgo, if_neg (h c (by simp)), ih _ (fun x hx => h x (by simp [hx]))]
    simp
def piecesS (s : ByteArray) : List ByteArray := (sgo 44 [] s.data.toList).map str
theorem pieces_none {s : ByteArray} (h : Lib.indexByte s.data.toList 44 = -1) : piecesS s = [s] := by
  have h1 := Lib.indexByte_none h
  unfold piecesS
  rw [sgo_none _ _ (fun c hc e => by
    obtain ⟨k, hk, rfl⟩ := List.getElem_of_mem hc
    exact h1 k (by rw [List.getElem?_eq_getElem hk, e]))]
  simp [str_data]
theorem pieces_some {s : ByteArray} {i : Nat} (h : Lib.indexByte s.data.toList 44 = i) : i < s.size ∧ piecesS s = s.extract 0 i :: piecesS (s.extract (i + 1) s.size) := by
  obtain ⟨h1, h2⟩ := Lib.indexByte_some h
  obtain ⟨hi, h3⟩ := List.getElem?_eq_some_iff.1 h1
  have hi' : i < s.size := by simpa using hi
  refine ⟨hi', ?_⟩
  unfold piecesS
  have e : s.data.toList = s.data.toList.take i ++ 44 :: s.data.toList.drop (i + 1) := by
    conv => lhs; rw [← List.take_append_drop i s.data.toList, List.drop_eq_getElem_cons hi, h3]
  rw [tail_list]
  conv => lhs; rw [e]
  rw [sgo_some _ _ _ (fun c hc e => by
    obtain ⟨k, hk, rfl⟩ := List.getElem_of_mem hc
    have hk' : k < i := by rw [List.length_take] at hk; omega
    refine h2 k hk' ?_
    rw [List.getElem_take] at e
    rw [List.getElem?_eq_getElem (by omega), e])]
  rw [List.map_cons, List.nil_append]
  congr 1
  refine (eq_str.2 ?_).symm
  rw [Lib.extract_data]
  simp
theorem pieces_size (l w : List UInt8) : ∀ p ∈ sgo 44 w l, p.length ≤ w.length + l.length := by
  induction l generalizing w with
  | nil => intro p hp; rw [sgo, List.mem_singleton] at hp; rw [hp]; simp
  | cons c l ih =>
    intro p hp
    rw [sgo] at hp
    split at hp
    · rcases List.mem_cons.1 hp with hp | hp
      · rw [hp]; simp
      · have := ih [] p hp; simp at this ⊢; omega
    · have := ih _ p hp; simp at this ⊢; omega
theorem piece_size {s x : ByteArray} (h : x ∈ piecesS s) : x.size ≤ s.size := by
  unfold piecesS at h
  obtain ⟨p, hp, rfl⟩ := List.mem_map.1 h
  have := pieces_size _ _ p hp
  rw [str_size]
  simpa using this
def leftOf (C : Nat) (W : World) : Nat := match W.cell? ⟨C, 0, none⟩ with | some (.string t) => t.size | _ => 0
theorem leftOf_eq {C : Nat} {W : World} {t : ByteArray} (h : W.cell? ⟨C, 0, none⟩ = some (.string t)) : leftOf C W = t.size := by unfold leftOf; rw [h]
structure SplitAt (C : Nat) (t : ByteArray) (W : World) : Prop where
  b0 : W.heap[C]? = some (.cells #[.string t] 9 (0, 0))
  b1 : W.heap[C + 1]? = some (.cells #[.string ⟨#[44]⟩] 9 (0, 0))
  b2 : W.heap[C + 2]? = some (.cells #[.int .i64 0] 3 (0, 0))
theorem SplitAt.cells {C : Nat} {t : ByteArray} {W : World} (h : SplitAt C t W) : W.cell? ⟨C, 0, none⟩ = some (.string t) ∧ W.frozen? ⟨C, 0, none⟩ = false ∧ W.cell? ⟨C + 1, 0, none⟩ = some (.string ⟨#[44]⟩) ∧ W.cell? ⟨C + 2, 0, none⟩ = some (.int .i64 0) := by
  obtain ⟨b0, b1, b2⟩ := h
  exact ⟨Boxed.cell b0, Boxed.frozen b0, Boxed.cell b1, Boxed.cell b2⟩
theorem SplitAt.kept {C : Nat} {t : ByteArray} {W W' : World} (h : SplitAt C t W) (k : Kept C (C + 3) W W') : SplitAt C t W' :=
  ⟨(k C (by omega) (by omega)).trans h.b0, (k (C + 1) (by omega) (by omega)).trans h.b1, (k (C + 2) (by omega) (by omega)).trans h.b2⟩
theorem SplitAt.below {C B : Nat} {t : ByteArray} {W W' : World} (h : SplitAt C t W) (k : Below B W W') (hB : C + 3 ≤ B) : SplitAt C t W' :=
  ⟨(k.block C (by omega)).trans h.b0, (k.block (C + 1) (by omega)).trans h.b1, (k.block (C + 2) (by omega)).trans h.b2⟩
theorem SplitAt.set_ {C : Nat} {t : ByteArray} {W : World} (h : SplitAt C t W) (u : ByteArray) : SplitAt C u (W.setCell ⟨C, 0, none⟩ (.string u)) :=
  ⟨Boxed.set _ h.b0, (Below.heap_setCell W ⟨C, 0, none⟩ _ (C + 1) (by simp)).trans h.b1, (Below.heap_setCell W ⟨C, 0, none⟩ _ (C + 2) (by simp)).trans h.b2⟩
set_option maxRecDepth 100000 in
set_option maxHeartbeats 4000000 in
theorem split_seq (n : Nat) (hn : 1 ≤ n) (C : Nat) (s : ByteArray) (hs : s.size ≤ maxLen) (w : World) (hC : C + 3 ≤ w.heap.size) (h : SplitAt C s w) :
    SeqC Fence.wide n Tryz.prog 124 #[.pointer (some ⟨C + 1, 0, none⟩), .pointer (some ⟨C, 0, none⟩), .pointer (some ⟨C + 2, 0, none⟩)] (fun x => .string x) C (C + 3) (piecesS s) w := by
  unfold maxLen at hs
  intro l J Jx W hW hJ hJx hY h0
  have h1 := h.below hW hC
  refine callsIn_of_wp Tryz.func124 rfl trivial ?_ rfl
  simp only [Tryz.ntmps124, List.size_toArray, List.length_cons, List.length_nil, Nat.reduceAdd, Nat.reduceSub, Array.replicate_succ, Array.replicate_zero, List.push_toArray, List.append_toArray, List.nil_append, List.cons_append]
  obtain ⟨c0, f0, c1, c2⟩ := h1.cells
  have H1 := Lib.hid h1
  clear h1
  gi_wp2
  gi_loopw [7] (fun v wr => ∃ (pre : List ByteArray) (rest : ByteArray), rest.size ≤ s.size ∧ Hid (piecesS s = pre ++ piecesS rest) ∧ Hid (SplitAt C rest wr) ∧ Hid (J pre wr)) (fun v wr => leftOf C wr)
  case atStart => exact ⟨[], s, Nat.le_refl _, rfl, H1, h0⟩
  case round =>
    obtain ⟨pre, rest, hle, hp, hat, hj⟩ := hrel
    obtain ⟨d0, g0, d1, d2⟩ := hat.out.cells
    have hidx := Lib.indexByte_ge rest.data.toList 44
    by_cases hix : Lib.indexByte rest.data.toList 44 = -1
    · have hps := pieces_none hix
      obtain ⟨fn, tmps, assign, body, hy, hR⟩ := hY pre rest [] wr (by rw [hp.out, hps]) hj.out
      have HX := Lib.hid hix
      have HP := Lib.hid (hp.out.trans (by rw [hps]))
      clear hix hps hidx
      gi_wp2_with (refine ⟨trivial, ?_⟩; gi_at_call 126; refine (callsIn_wide.2 (Tryz.strings_Index_one _ _ _)).mono ?_; rintro e w' ⟨rfl, rfl⟩; rw [HX.out])
      refine hR.mono ?_
      rintro e W' (⟨rfl, hJ', hk⟩ | ⟨rfl, hJx'⟩)
      · gi_wp2
        go_end0
        exact ⟨⟨_, rfl⟩, .inl (by rw [HP.out]; exact hJ')⟩
      · gi_wp2
        go_end0
        exact ⟨⟨_, rfl⟩, .inr ⟨_, ⟨[], by rw [HP.out]; simp⟩, hJx'⟩⟩
    · obtain ⟨i, hi⟩ : ∃ i : Nat, Lib.indexByte rest.data.toList 44 = i := ⟨(Lib.indexByte rest.data.toList 44).toNat, by omega⟩
      obtain ⟨hlt, hps⟩ := pieces_some hi
      obtain ⟨fn, tmps, assign, body, hy, hR⟩ := hY pre (rest.extract 0 i) (piecesS (rest.extract (i + 1) rest.size)) wr (by rw [hp.out, hps]) hj.out
      have HX := Lib.hid hi
      have HP := Lib.hid (hp.out.trans (by rw [hps]))
      clear hix hps hidx hi
      have k0 : (0 : Int) ≤ (i : Int) := by omega
      have k1 : (i : Int) ≤ (rest.size : Int) := by omega
      have k2 : (0 : Int) ≤ (i : Int) + 1 := by omega
      have k3 : (i : Int) + 1 ≤ (rest.size : Int) := by omega
      gi_wp2_with (refine ⟨trivial, ?_⟩; gi_at_call 126; refine (callsIn_wide.2 (Tryz.strings_Index_one _ _ _)).mono ?_; rintro e w' ⟨rfl, rfl⟩; rw [HX.out])
      refine hR.mono ?_
      rintro e W' (⟨rfl, hJ', hk⟩ | ⟨rfl, hJx'⟩)
      · have hat' := hat.out.kept hk
        obtain ⟨m0, m1, m2, m3⟩ := hat'.cells
        have Hset := Lib.hid (hat'.set_ (rest.extract (i + 1) rest.size))
        have HJ2 := Lib.hid (hJ _ _ _ hJ' (grownBy_setCell' W' C (.string (rest.extract (i + 1) rest.size))))
        have hsz : (rest.extract (i + 1) rest.size).size = rest.size - (i + 1) := by rw [ByteArray.size_extract]; omega
        have hl0 := leftOf_eq d0
        have hl1 := leftOf_eq Hset.out.cells.1
        rw [hsz] at hl1
        have hle2 : (rest.extract (i + 1) rest.size).size ≤ s.size := by omega
        have HL0 := Lib.hid hl0
        have HL1 := Lib.hid hl1
        clear hat' hl0 hl1 hsz hJ' hk
        gi_wp2
        go_roundw
        case rel => exact ⟨pre ++ [rest.extract 0 i], rest.extract (i + 1) rest.size, hle2, Lib.hid (by rw [HP.out]; simp), Hset, HJ2⟩
        case measure => rw [HL0.out, HL1.out]; omega
      · gi_wp2
        refine bodyPost_ret (results_none rfl _ _ _) rfl ?_
        exact ⟨⟨_, rfl⟩, .inr ⟨_, ⟨piecesS (rest.extract (i + 1) rest.size), by rw [HP.out]; simp⟩, hJx'⟩⟩
end Go.Proofs.YtadifolonbkamaaGreatDoor.Ca
