/- The walks of the developers' parseNumber, dayOf, fullForm. The library's cuts on plain lists; the walks of the developers' dayOf, fullForm. The walk of To. The walks of dateOf and Of. The walks of the developers' numbersOf, dateOf, weekday, hasDay. The walk of the developers' Match. The walk of the developers' advance. The walk of the document's parts. -/
import Derived.Test.YtadifolonbkamaaGreatDoorKfat
import Derived.Test.YtadifolonbkamaaGreatDoorKfau
import Derived.Lib.CutLaws
import Derived.Test.YtadifolonbkamaaGreatDoorKfas
import Derived.Test.YtadifolonbkamaaGreatDoorKfap
import Derived.Test.YtadifolonbkamaaGreatDoorKfaw
import Derived.Lib.SliceRun
namespace Go.Proofs.YtadifolonbkamaaGreatDoor.Ca
open Go.RowKit
/-- The tables, and that the library's own variable is a number. -/
structure TabM (w : World) : Prop where
  t : Tabs w
  ml : ∃ m : Int, w.cell? ⟨6, 0, none⟩ = some (.int .i64 m)
theorem TabM.below {w w' : World} (h : TabM w) (hb : Below w.heap.size w w') : TabM w' := by
  obtain ⟨m, hm⟩ := h.ml
  exact ⟨h.t.below hb, m, (hb.cell (p := ⟨6, 0, none⟩) (World.block_lt_of_cell? w _ hm)).trans hm⟩
def numD (l : List UInt8) : Int := match numL l with
  | some n => n
  | none => 0
def numOk (l : List UInt8) : Bool := (numL l).isSome
theorem numD_no {l : List UInt8} (h : numL l = none) : numD l = 0 ∧ numOk l = false := by unfold numD numOk; rw [h]; exact ⟨rfl, rfl⟩
theorem numD_yes {l : List UInt8} {n : Nat} (h : numL l = some n) : numD l = n ∧ numOk l = true := by unfold numD numOk; rw [h]; exact ⟨rfl, rfl⟩
theorem numL_long {l : List UInt8} (h : l.length < 1 ∨ 4 < l.length) : numL l = none := by
  unfold numL; rw [if_neg (by omega)]
theorem numL_bad {l : List UInt8} {k : Nat} (h : k < l.length) (hd : isDig (l[k]'h) = false) : numL l = none := by
  unfold numL
  rw [if_neg]
  rintro ⟨_, _, h3⟩
  have := List.all_eq_true.1 h3 (l[k]'h) (List.getElem_mem h)
  rw [hd] at this; cases this
theorem numL_ok {l : List UInt8} (h0 : 1 ≤ l.length) (h4 : l.length ≤ 4) (h : ∀ c ∈ l, isDig c = true) : numL l = some (valL l) := by
  unfold numL
  rw [if_pos ⟨h0, h4, List.all_eq_true.2 h⟩]
theorem val_snoc4 (l : List UInt8) (c : UInt8) : valL (l ++ [c]) = 10 * valL l + (c.toNat - 48) := by
  unfold valL; rw [List.foldl_append, List.foldl_cons, List.foldl_nil]
set_option maxHeartbeats 4000000 in
theorem parseNumber_any (s : ByteArray) (hs : s.size ≤ 4194304) (w : World) :
    Calls Tryz.prog 175 #[.string s] w fun e w' => e = .returned (.tuple #[.int .i64 (numD s.data.toList), .bool (numOk s.data.toList)]) ∧ w = w' := by
  have hlen := size_list s
  by_cases h1 : s.size < 1
  · have HN := Lib.hid (numD_no (numL_long (l := s.data.toList) (.inl (by omega))))
    have h1' : (s.size : Int) < 1 := by omega
    clear hlen h1
    go_enter Tryz.func175, Tryz.ntmps175
    go_wp2_with fail
    go_ret2
    exact ⟨ret_ib' HN.out.1.symm HN.out.2.symm, rfl⟩
  by_cases h4 : 4 < s.size
  · have HN := Lib.hid (numD_no (numL_long (l := s.data.toList) (.inr (by omega))))
    have h1' : (1 : Int) ≤ (s.size : Int) := by omega
    have h4' : (4 : Int) < (s.size : Int) := by omega
    have u1 : (0 : Nat) ≤ 1 := Nat.zero_le _
    clear hlen h1 h4
    go_enter Tryz.func175, Tryz.ntmps175
    go_wp2_with fail
    go_ret2
    exact ⟨ret_ib' HN.out.1.symm HN.out.2.symm, rfl⟩
  have h1' : (1 : Int) ≤ (s.size : Int) := by omega
  have h4' : (s.size : Int) ≤ 4 := by omega
  have u1 : (0 : Nat) ≤ 1 := Nat.zero_le _
  have u2 : (0 : Nat) ≤ 2 := Nat.zero_le _
  have HL := Lib.hid hlen
  clear hlen h1 h4
  go_enter Tryz.func175, Tryz.ntmps175
  go_wp2_with fail
  go_loop [4, 5, 16] (fun n _ i => ∃ (k v : Nat), k ≤ s.size ∧ v < 10 ^ k ∧ i = .int .i64 k ∧ n = .int .i64 v ∧ Hid (v = valL (s.data.toList.take k)) ∧ Hid (∀ c ∈ s.data.toList.take k, isDig c = true)) (fun _ _ i => s.size - (intOf i).toNat)
  case atStart => exact ⟨0, 0, Nat.zero_le _, by omega, rfl, rfl, by simp [Hid, valL], by intro c hc; simp at hc⟩
  case round =>
    obtain ⟨k, v, hk, hv, rfl, rfl, hval, hdig⟩ := hrel
    have hv4 : v < 10000 := Nat.lt_of_lt_of_le hv (Nat.le_trans (Nat.pow_le_pow_right (by omega) (show k ≤ 4 by omega)) (by decide))
    have HV := Lib.hid hv
    clear hv
    by_cases hlt : k < s.size
    · have b0 : (0 : Int) ≤ (k : Int) := by omega
      have b1 : (k : Int) < (s.size : Int) := by omega
      have hr := s[k].toNat_lt
      have HT := Lib.hid (take_at s k hlt)
      rcases hg : isDig s[k] with _ | _
      · have HN := Lib.hid (numD_no (numL_bad (l := s.data.toList) (k := k) (by rw [HL.out]; exact hlt) (by exact hg)))
        have hd : (s[k].toNat : Int) < 48 ∨ 57 < (s[k].toNat : Int) := by
          simp only [isDig, Bool.and_eq_false_iff, decide_eq_false_iff_not] at hg
          omega
        clear hg
        rcases hd with hd | hd
        · go_wp2_with fail
          go_ret2
          exact ⟨ret_ib' HN.out.1.symm HN.out.2.symm, rfl⟩
        · have d0 : (48 : Int) ≤ (s[k].toNat : Int) := by omega
          have u3 : (0 : Nat) ≤ 3 := Nat.zero_le _
          go_wp2_with fail
          go_ret2
          exact ⟨ret_ib' HN.out.1.symm HN.out.2.symm, rfl⟩
      · have hd : 48 ≤ s[k].toNat ∧ s[k].toNat ≤ 57 := by simpa [isDig, Bool.and_eq_true] using hg
        obtain ⟨d0, d1⟩ := hd
        have d0' : (48 : Int) ≤ (s[k].toNat : Int) := by omega
        have d1' : (s[k].toNat : Int) ≤ 57 := by omega
        have HG := Lib.hid hg
        have HV1 : Hid (10 * v + (s[k].toNat - 48) < 10 ^ (k + 1)) := by
          have := HV.out
          show _ < _
          rw [Nat.pow_succ]; omega
        have HW : Hid (10 * v + (s[k].toNat - 48) = valL (s.data.toList.take (k + 1))) := by
          show _ = _
          rw [HT.out, val_snoc4, ← hval.out]
        have HD1 : Hid (∀ c ∈ s.data.toList.take (k + 1), isDig c = true) := by
          intro c hc
          rw [HT.out] at hc
          rcases List.mem_append.1 hc with hc | hc
          · exact hdig.out c hc
          · rw [List.mem_singleton.1 hc]; exact HG.out
        have u3 : (0 : Nat) ≤ 3 := Nat.zero_le _
        have u4 : (0 : Nat) ≤ 4 := Nat.zero_le _
        clear hg d0 d1
        go_wp2_with fail
        go_round
        case rel => exact ⟨k + 1, 10 * v + (s[k].toNat - 48), by omega, HV1.out, by go_num, by congr 1; omega, HW, HD1⟩
        case measure => simp [intOf]; omega
    · obtain rfl : k = s.size := by omega
      have HN : Hid (numD s.data.toList = v ∧ numOk s.data.toList = true) := by
        have a := hval.out
        have b := hdig.out
        rw [List.take_of_length_le (by rw [HL.out]; exact Nat.le_refl _)] at a b
        have := numD_yes (numL_ok (by rw [HL.out]; omega) (by rw [HL.out]; omega) b)
        rw [← a] at this; exact this
      clear hlt
      go_wp2_with fail
      go_ret2
      exact ⟨ret_ib' HN.out.1.symm HN.out.2.symm, rfl⟩
end Go.Proofs.YtadifolonbkamaaGreatDoor.Ca
namespace Go.Proofs.YtadifolonbkamaaGreatDoor.Ca
open Go.RowKit
theorem cut_cut1 (c : UInt8) (l : List UInt8) : Lib.cut l [c] = cut1 c l := by
  induction l with
  | nil => rfl
  | cons x l ih =>
    have hge := Lib.index_ge l [c]
    have hp : ([c].isPrefixOf (x :: l)) = decide (x = c) := by
      rw [Bool.eq_iff_iff]; simp [List.isPrefixOf]; exact eq_comm
    rw [cut1]
    unfold Lib.cut at ih ⊢
    have e : Lib.index (x :: l) [c] = if x = c then 0 else if Lib.index l [c] = -1 then -1 else Lib.index l [c] + 1 := by
      rw [Lib.index, hp]
      by_cases h : x = c <;> simp [h]
    by_cases hx : x = c
    · rw [e, if_pos hx, if_pos hx]; rfl
    · rw [e, if_neg hx, if_neg hx, ← ih]
      by_cases h1 : Lib.index l [c] = -1
      · rw [if_pos h1, if_neg (by omega), if_neg (by omega)]
      · rw [if_neg h1, if_pos (by omega), if_pos (by omega)]
        have e2 : (Lib.index l [c] + 1).toNat = (Lib.index l [c]).toNat + 1 := by omega
        rw [e2]; rfl
theorem cut_dots (l : List UInt8) : Lib.cut l [46, 46] = match cutDots l with
    | some z => (z.1, z.2, true)
    | none => (l, [], false) := by
  induction l with
  | nil => rfl
  | cons x l ih =>
    have hge := Lib.index_ge l [46, 46]
    have hp : ([46, 46].isPrefixOf (x :: l)) = decide (x = 46 ∧ l.head? = some 46) := by
      rw [Bool.eq_iff_iff]
      cases l with
      | nil => simp [List.isPrefixOf]
      | cons y r => simp [List.isPrefixOf]; constructor <;> rintro ⟨a, b⟩ <;> exact ⟨a.symm, b.symm⟩
    rw [cutDots]
    unfold Lib.cut at ih ⊢
    have e : Lib.index (x :: l) [46, 46] = if (x = 46 ∧ l.head? = some 46) then 0 else if Lib.index l [46, 46] = -1 then -1 else Lib.index l [46, 46] + 1 := by
      rw [Lib.index, hp]
      by_cases h : x = 46 ∧ l.head? = some 46 <;> simp [h]
    by_cases hx : x = 46 ∧ l.head? = some 46
    · rw [e, if_pos hx, if_pos hx]
      simp only
      rw [if_pos (by omega)]
      cases l with
      | nil => simp at hx
      | cons y r => rfl
    · rw [e, if_neg hx, if_neg hx]
      by_cases h1 : Lib.index l [46, 46] = -1
      · rw [if_pos h1, if_neg (by omega)]
        rw [if_neg (by omega)] at ih
        cases hc : cutDots l with
        | none => rfl
        | some z => rw [hc] at ih; simp at ih
      · rw [if_neg h1, if_pos (by omega)]
        rw [if_pos (by omega)] at ih
        have e2 : (Lib.index l [46, 46] + 1).toNat = (Lib.index l [46, 46]).toNat + 1 := by omega
        cases hc : cutDots l with
        | none => rw [hc] at ih; simp at ih
        | some z =>
          rw [hc] at ih
          simp only [Prod.mk.injEq, and_true] at ih
          simp only [Option.map_some]
          rw [← ih.1, ← ih.2, e2]
          rfl
theorem has_byte (l : List UInt8) (c : UInt8) : decide (0 ≤ Lib.indexByte l c) = decide (c ∈ l) := by
  rw [Bool.eq_iff_iff, decide_eq_true_iff, decide_eq_true_iff]
  induction l with
  | nil => simp [Lib.indexByte]
  | cons x l ih =>
    have hge := Lib.indexByte_ge l c
    rw [Lib.indexByte]
    by_cases hx : x = c
    · subst hx; simp
    · have hx' : (x == c) = false := by simpa using hx
      rw [hx']
      simp only [Bool.false_eq_true, if_false, List.mem_cons]
      by_cases h1 : Lib.indexByte l c = -1
      · rw [if_pos (by simp [h1])]
        have : c ∉ l := fun h => by have := ih.2 h; omega
        constructor
        · intro h; omega
        · rintro (h | h)
          · exact absurd h.symm hx
          · exact absurd h this
      · rw [if_neg (by simp [h1])]
        constructor
        · intro _; exact .inr (ih.1 (by omega))
        · rintro (h | h)
          · exact absurd h.symm hx
          · have := ih.2 h; omega
theorem dayN_hit {l : List UInt8} {k : Nat} (hk : k < 7) (h : l = dayL ((k : Int) + 1)) : dayN l = (k : Int) + 1 := by
  have : k = 0 ∨ k = 1 ∨ k = 2 ∨ k = 3 ∨ k = 4 ∨ k = 5 ∨ k = 6 := by omega
  subst h
  rcases this with rfl | rfl | rfl | rfl | rfl | rfl | rfl <;> decide
theorem dayN_none {l : List UInt8} (h : ∀ k : Nat, k < 7 → l ≠ dayL ((k : Int) + 1)) : dayN l = 0 := by
  rcases dayN_spec l with h0 | ⟨h0, h1, h2⟩
  · exact h0
  · exfalso
    refine h (dayN l - 1).toNat (by omega) ?_
    rw [show (((dayN l - 1).toNat : Nat) : Int) + 1 = dayN l by omega]; exact h2
theorem run_index_day (k : Nat) (hk : k < 7) (w : World) : (Instr.index 173 (.agg daysCells) (.int .i64 (k : Int))).run Tryz.prog w = .ok (.string (str (dayL ((k : Int) + 1)))) w := by
  have : k = 0 ∨ k = 1 ∨ k = 2 ∨ k = 3 ∨ k = 4 ∨ k = 5 ∨ k = 6 := by omega
  rcases this with rfl | rfl | rfl | rfl | rfl | rfl | rfl <;>
  simp [Instr.index, run_underlying Tryz.underlying173, asIntOf, part, isAgg, run_underlying Tryz.underlying9, daysCells] <;> rfl
set_option maxHeartbeats 4000000 in
theorem dayOf_any (s : ByteArray) (w : World) (ht : Tabs w) :
    Calls Tryz.prog 128 #[.string s] w fun e w' => e = .returned (.int .i64 (dayN s.data.toList)) ∧ w = w' := by
  have HC : Hid (∀ i, w.cell? ⟨3, i, none⟩ = daysCells[i]?) := fun i => World.var?_cell days_glob ht.days i
  have c0 : w.cell? ⟨3, 0, none⟩ = some (.string ⟨#[77, 111, 110]⟩) := HC.out 0
  have c1 : w.cell? ⟨3, 1, none⟩ = some (.string ⟨#[84, 117, 101]⟩) := HC.out 1
  have c2 : w.cell? ⟨3, 2, none⟩ = some (.string ⟨#[87, 101, 100]⟩) := HC.out 2
  have c3 : w.cell? ⟨3, 3, none⟩ = some (.string ⟨#[84, 104, 117]⟩) := HC.out 3
  have c4 : w.cell? ⟨3, 4, none⟩ = some (.string ⟨#[70, 114, 105]⟩) := HC.out 4
  have c5 : w.cell? ⟨3, 5, none⟩ = some (.string ⟨#[83, 97, 116]⟩) := HC.out 5
  have c6 : w.cell? ⟨3, 6, none⟩ = some (.string ⟨#[83, 117, 110]⟩) := HC.out 6
  have HIx := Lib.hid run_index_day
  unfold daysCells at HIx
  clear ht
  go_enter Tryz.func128, Tryz.ntmps128
  go_wp2_with fail
  go_loop [3, 4, 6] (fun _ _ i => ∃ k : Nat, k ≤ 7 ∧ i = .int .i64 k ∧ Hid (∀ j : Nat, j < k → s.data.toList ≠ dayL ((j : Int) + 1))) (fun _ _ i => 7 - (intOf i).toNat)
  case atStart => exact ⟨0, by omega, rfl, fun j hj => absurd hj (by omega)⟩
  case round =>
    obtain ⟨k, hk, rfl, hno⟩ := hrel
    by_cases hlt : k < 7
    · have hix := HIx.out k hlt
      by_cases he : s.data.toList = dayL ((k : Int) + 1)
      · have HN := Lib.hid (dayN_hit hlt he)
        have e : (s.toList == (str (dayL ((k : Int) + 1))).toList) = true := by rw [beq_str]; exact decide_eq_true (eq_str.2 he)
        clear he
        go_wp2_with fail
        go_ret
        exact ⟨ret_int HN.out.symm, rfl⟩
      · have e : (s.toList == (str (dayL ((k : Int) + 1))).toList) = false := by rw [beq_str]; exact decide_eq_false fun h => he (eq_str.1 h)
        have HN : Hid (∀ j : Nat, j < k + 1 → s.data.toList ≠ dayL ((j : Int) + 1)) := fun j hj => by
          by_cases hjk : j = k
          · rw [hjk]; exact he
          · exact hno.out j (by omega)
        have u1 : (0 : Nat) ≤ 1 := Nat.zero_le _
        clear he
        go_wp2_with fail
        go_round
        case rel => exact ⟨k + 1, by omega, by go_num, HN⟩
        case measure => simp [intOf]; omega
    · obtain rfl : k = 7 := by omega
      have HN := Lib.hid (dayN_none hno.out)
      clear hk hlt
      go_wp2_with fail
      go_ret
      exact ⟨ret_int HN.out.symm, rfl⟩
end Go.Proofs.YtadifolonbkamaaGreatDoor.Ca
namespace Go.Proofs.YtadifolonbkamaaGreatDoor.Ca
open Go.RowKit
end Go.Proofs.YtadifolonbkamaaGreatDoor.Ca
namespace Go.Proofs.YtadifolonbkamaaGreatDoor.Ca
open Go.RowKit
end Go.Proofs.YtadifolonbkamaaGreatDoor.Ca
namespace Go.Proofs.YtadifolonbkamaaGreatDoor.Ca
open Go.RowKit
end Go.Proofs.YtadifolonbkamaaGreatDoor.Ca
namespace Go.Proofs.YtadifolonbkamaaGreatDoor.Ca
open Go.RowKit
theorem CalAt.at_ {w w' : World} {c : Ch} {l : Cl} (h : CalAt w w.heap.size c l) (hb : Below w.heap.size w w') : CalAt w' w'.heap.size c l :=
  ⟨(h.1.below hb).wide hb.size, fun f => ((h.2 f).below hb).wide hb.size⟩
end Go.Proofs.YtadifolonbkamaaGreatDoor.Ca
namespace Go.Proofs.YtadifolonbkamaaGreatDoor.Ca
open Go.RowKit
def Six.cells (v : Six) : Array Value := #[.int .i64 v.y, .int .i64 v.m, .int .i64 v.d, .int .i64 v.h, .int .i64 v.i, .int .i64 v.s]
theorem Blk.setCell {w : World} {g : Nat} {t : TypeId} {cs : Array Value} (h : Blk w g t cs) (i : Nat) (u : Value) : Blk (w.setCell ⟨g, i, none⟩ u) g t (cs.setIfInBounds i u) := by
  unfold Blk at *
  simp [World.setCell, Array.getElem?_modify, h]
theorem Blk.setOther {w : World} {g : Nat} {t : TypeId} {cs : Array Value} (h : Blk w g t cs) {a : Addr} (ha : g ≠ a.block) (u : Value) : Blk (w.setCell a u) g t cs := by
  unfold Blk at *
  simp [World.setCell, Array.getElem?_modify, Ne.symm ha, h]
theorem Tabs.heap {w w' : World} (h : Tabs w) (e : w'.heap = w.heap) : Tabs w' := by
  obtain ⟨h1, h2, h4⟩ := h
  have hv : ∀ nm, w'.var? Tryz.prog nm = w.var? Tryz.prog nm := fun nm => by unfold World.var?; rw [e]
  exact ⟨by rw [hv]; exact h1, by rw [hv]; exact h2, by unfold P10 Lib.TabIs at *; rw [hv]; exact h4⟩
end Go.Proofs.YtadifolonbkamaaGreatDoor.Ca
namespace Go.Proofs.YtadifolonbkamaaGreatDoor.Ca
open Go.RowKit
end Go.Proofs.YtadifolonbkamaaGreatDoor.Ca
