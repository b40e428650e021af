/- The library's cuts on plain lists; the walks of the developers' dayOf, fullForm. The walk of the document's Split. -/
import Derived.Test.YtadifolonbkamaaGreatDoorKkbi
import Derived.Lib.CutLaws
import Derived.Test.YtadifolonbkamaaGreatDoorKkaa
import Derived.Test.YtadifolonbkamaaGreatDoorKkbd
namespace Go.Proofs.YtadifolonbkamaaGreatDoor.Ca
open Go.RowKit
theorem cut_cut1 (c : UInt8) (l : List UInt8) : Lib.cut l [c] = cut1 c l := by
  induction l with
  | nil => rfl
  | cons x l ih =>
    have hge := Lib.index_ge l [c]
    have hp : ([c].isPrefixOf (x :: l)) = decide (x = c) := by
      rw [Bool.eq_iff_iff]; simp [List.isPrefixOf]; exact eq_comm
    rw [cut1]
    unfold Lib.cut at ih ⊢
    have e : Lib.index (x :: l) [c] = if x = c then 0 else if Lib.index l [c] = -1 then -1 else Lib.index l [c] + 1 := by
      rw [Lib.index, hp]
      by_cases h : x = c <;> simp [h]
    by_cases hx : x = c
    · rw [e, if_pos hx, if_pos hx]; rfl
    · rw [e, if_neg hx, if_neg hx, ← ih]
      by_cases h1 : Lib.index l [c] = -1
      · rw [if_pos h1, if_neg (by omega), if_neg (by omega)]
      · rw [if_neg h1, if_pos (by omega), if_pos (by omega)]
        have e2 : (Lib.index l [c] + 1).toNat = (Lib.index l [c]).toNat + 1 := by omega
        rw [e2]; rfl
theorem cut_dots (l : List UInt8) : Lib.cut l [46, 46] = match cutDots l with
    | some z => (z.1, z.2, true)
    | none => (l, [], false) := by
  induction l with
  | nil => rfl
  | cons x l ih =>
    have hge := Lib.index_ge l [46, 46]
    have hp : ([46, 46].isPrefixOf (x :: l)) = decide (x = 46 ∧ l.head? = some 46) := by
      rw [Bool.eq_iff_iff]
      cases l with
      | nil => simp [List.isPrefixOf]
      | cons y r => simp [List.isPrefixOf]; constructor <;> rintro ⟨a, b⟩ <;> exact ⟨a.symm, b.symm⟩
    rw [cutDots]
    unfold Lib.cut at ih ⊢
    have e : Lib.index (x :: l) [46, 46] = if (x = 46 ∧ l.head? = some 46) then 0 else if Lib.index l [46, 46] = -1 then -1 else Lib.index l [46, 46] + 1 := by
      rw [Lib.index, hp]
      by_cases h : x = 46 ∧ l.head? = some 46 <;> simp [h]
    by_cases hx : x = 46 ∧ l.head? = some 46
    · rw [e, if_pos hx, if_pos hx]
      simp only
      rw [if_pos (by omega)]
      cases l with
      | nil => simp at hx
      | cons y r => rfl
    · rw [e, if_neg hx, if_neg hx]
      by_cases h1 : Lib.index l [46, 46] = -1
      · rw [if_pos h1, if_neg (by omega)]
        rw [if_neg (by omega)] at ih
        cases hc : cutDots l with
        | none => rfl
        | some z => rw [hc] at ih; simp at ih
      · rw [if_neg h1, if_pos (by omega)]
        rw [if_pos (by omega)] at ih
        have e2 : (Lib.index l [46, 46] + 1).toNat = (Lib.index l [46, 46]).toNat + 1 := by omega
        cases hc : cutDots l with
        | none => rw [hc] at ih; simp at ih
        | some z =>
          rw [hc] at ih
          simp only [Prod.mk.injEq, and_true] at ih
          simp only [Option.map_some]
          rw [← ih.1, ← ih.2, e2]
          rfl
theorem has_byte (l : List UInt8) (c : UInt8) : decide (0 ≤ Lib.indexByte l c) = decide (c ∈ l) := by
  rw [Bool.eq_iff_iff, decide_eq_true_iff, decide_eq_true_iff]
  induction l with
  | nil => simp [Lib.indexByte]
  | cons x l ih =>
    have hge := Lib.indexByte_ge l c
    rw [Lib.indexByte]
    by_cases hx : x = c
    · subst hx; simp
    · have hx' : (x == c) = false := by simpa using hx
      rw [hx']
      simp only [Bool.false_eq_true, if_false, List.mem_cons]
      by_cases h1 : Lib.indexByte l c = -1
      · rw [if_pos (by simp [h1])]
        have : c ∉ l := fun h => by have := ih.2 h; omega
        constructor
        · intro h; omega
        · rintro (h | h)
          · exact absurd h.symm hx
          · exact absurd h this
      · rw [if_neg (by simp [h1])]
        constructor
        · intro _; exact .inr (ih.1 (by omega))
        · rintro (h | h)
          · exact absurd h.symm hx
          · have := ih.2 h; omega
theorem dayN_hit {l : List UInt8} {k : Nat} (hk : k < 7) (h : l = dayL ((k : Int) + 1)) : dayN l = (k : Int) + 1 := by
  have : k = 0 ∨ k = 1 ∨ k = 2 ∨ k = 3 ∨ k = 4 ∨ k = 5 ∨ k = 6 := by omega
  subst h
  rcases this with rfl | rfl | rfl | rfl | rfl | rfl | rfl <;> decide
theorem dayN_none {l : List UInt8} (h : ∀ k : Nat, k < 7 → l ≠ dayL ((k : Int) + 1)) : dayN l = 0 := by
  rcases dayN_spec l with h0 | ⟨h0, h1, h2⟩
  · exact h0
  · exfalso
    refine h (dayN l - 1).toNat (by omega) ?_
    rw [show (((dayN l - 1).toNat : Nat) : Int) + 1 = dayN l by omega]; exact h2
theorem run_index_day (k : Nat) (hk : k < 7) (w : World) : (Instr.index 173 (.agg daysCells) (.int .i64 (k : Int))).run Tryz.prog w = .ok (.string (str (dayL ((k : Int) + 1)))) w := by
  have : k = 0 ∨ k = 1 ∨ k = 2 ∨ k = 3 ∨ k = 4 ∨ k = 5 ∨ k = 6 := by omega
  rcases this with rfl | rfl | rfl | rfl | rfl | rfl | rfl <;>
  simp [Instr.index, run_underlying Tryz.underlying173, asIntOf, part, isAgg, run_underlying Tryz.underlying9, daysCells] <;> rfl
set_option maxHeartbeats 4000000 in
theorem dayOf_any (s : ByteArray) (w : World) (ht : Tabs w) :
    Calls Tryz.prog 128 #[.string s] w fun e w' => e = .returned (.int .i64 (dayN s.data.toList)) ∧ w = w' := by
  have HC : Hid (∀ i, w.cell? ⟨3, i, none⟩ = daysCells[i]?) := fun i => World.var?_cell days_glob ht.days i
  have c0 : w.cell? ⟨3, 0, none⟩ = some (.string ⟨#[77, 111, 110]⟩) := HC.out 0
  have c1 : w.cell? ⟨3, 1, none⟩ = some (.string ⟨#[84, 117, 101]⟩) := HC.out 1
  have c2 : w.cell? ⟨3, 2, none⟩ = some (.string ⟨#[87, 101, 100]⟩) := HC.out 2
  have c3 : w.cell? ⟨3, 3, none⟩ = some (.string ⟨#[84, 104, 117]⟩) := HC.out 3
  have c4 : w.cell? ⟨3, 4, none⟩ = some (.string ⟨#[70, 114, 105]⟩) := HC.out 4
  have c5 : w.cell? ⟨3, 5, none⟩ = some (.string ⟨#[83, 97, 116]⟩) := HC.out 5
  have c6 : w.cell? ⟨3, 6, none⟩ = some (.string ⟨#[83, 117, 110]⟩) := HC.out 6
  have HIx := Lib.hid run_index_day
  unfold daysCells at HIx
  clear ht
  go_enter Tryz.func128, Tryz.ntmps128
  go_wp2_with fail
  go_loop [3, 4, 6] (fun _ _ i => ∃ k : Nat, k ≤ 7 ∧ i = .int .i64 k ∧ Hid (∀ j : Nat, j < k → s.data.toList ≠ dayL ((j : Int) + 1))) (fun _ _ i => 7 - (intOf i).toNat)
  case atStart => exact ⟨0, by omega, rfl, fun j hj => absurd hj (by omega)⟩
  case round =>
    obtain ⟨k, hk, rfl, hno⟩ := hrel
    by_cases hlt : k < 7
    · have hix := HIx.out k hlt
      by_cases he : s.data.toList = dayL ((k : Int) + 1)
      · have HN := Lib.hid (dayN_hit hlt he)
        have e : (s.toList == (str (dayL ((k : Int) + 1))).toList) = true := by rw [beq_str]; exact decide_eq_true (eq_str.2 he)
        clear he
        go_wp2_with fail
        go_ret
        exact ⟨ret_int HN.out.symm, rfl⟩
      · have e : (s.toList == (str (dayL ((k : Int) + 1))).toList) = false := by rw [beq_str]; exact decide_eq_false fun h => he (eq_str.1 h)
        have HN : Hid (∀ j : Nat, j < k + 1 → s.data.toList ≠ dayL ((j : Int) + 1)) := fun j hj => by
          by_cases hjk : j = k
          · rw [hjk]; exact he
          · exact hno.out j (by omega)
        have u1 : (0 : Nat) ≤ 1 := Nat.zero_le _
        clear he
        go_wp2_with fail
        go_round
        case rel => exact ⟨k + 1, by omega, by go_num, HN⟩
        case measure => simp [intOf]; omega
    · obtain rfl : k = 7 := by omega
      have HN := Lib.hid (dayN_none hno.out)
      clear hk hlt
      go_wp2_with fail
      go_ret
      exact ⟨ret_int HN.out.symm, rfl⟩
end Go.Proofs.YtadifolonbkamaaGreatDoor.Ca
namespace Go.Proofs.YtadifolonbkamaaGreatDoor.Ca
open Go.RowKit
/-- What the loop knows at place i: these pieces are done, the last one begins at fr. -/
def spAt (s : ByteArray) (b : UInt8) (i fr : Nat) (done : List (List UInt8)) : Prop :=
  fr ≤ i ∧ splitL b s.data.toList = done ++ sgo b (s.extract fr i).data.toList (s.data.toList.drop i)
theorem ext_nil (s : ByteArray) (i : Nat) : (s.extract i i).data.toList = [] := by rw [Lib.extract_data]; simp
theorem ext_snoc (s : ByteArray) (fr i : Nat) (hf : fr ≤ i) (hi : i < s.size) : (s.extract fr (i + 1)).data.toList = (s.extract fr i).data.toList ++ [s[i]] := by
  rw [Lib.extract_data, Lib.extract_data, show i + 1 - fr = (i - fr) + 1 by omega, List.take_add_one]
  congr 1
  rw [List.getElem?_drop, show fr + (i - fr) = i by omega]
  have : s.data.toList[i]? = some s[i] := by rw [List.getElem?_eq_getElem (by simpa using hi)]; rfl
  rw [this]; rfl
theorem spAt_zero (s : ByteArray) (b : UInt8) : spAt s b 0 0 [] := by
  refine ⟨Nat.le_refl _, ?_⟩
  rw [ext_nil, List.drop_zero]; rfl
theorem spAt_in {s : ByteArray} {b : UInt8} {i fr : Nat} {done : List (List UInt8)} (h : spAt s b i fr done) (hi : i < s.size) (hc : s[i] ≠ b) : spAt s b (i + 1) fr done := by
  obtain ⟨h1, h2⟩ := h
  refine ⟨by omega, ?_⟩
  rw [h2, drop_at s i hi, sgo, if_neg hc, ext_snoc s fr i h1 hi]
theorem spAt_cut {s : ByteArray} {b : UInt8} {i fr : Nat} {done : List (List UInt8)} (h : spAt s b i fr done) (hi : i < s.size) (hc : s[i] = b) : spAt s b (i + 1) (i + 1) (done ++ [(s.extract fr i).data.toList]) := by
  obtain ⟨h1, h2⟩ := h
  refine ⟨Nat.le_refl _, ?_⟩
  rw [h2, drop_at s i hi, sgo, if_pos hc, ext_nil, List.append_assoc]
  rfl
theorem spAt_end {s : ByteArray} {b : UInt8} {fr : Nat} {done : List (List UInt8)} (h : spAt s b s.size fr done) : splitL b s.data.toList = done ++ [(s.extract fr s.size).data.toList] := by
  rw [h.2, List.drop_of_length_le (by simp), sgo]
theorem one_piece (s : ByteArray) (a b : Nat) : wcells [(s.extract a b).data.toList] = [Value.string (s.extract a b)] := by
  unfold wcells; rw [List.map_cons, List.map_nil, str_data]
def SplitPost (s : ByteArray) (b : UInt8) (w : World) (e : Ending) (w' : World) : Prop :=
  ∃ v, e = .returned v ∧ w'.ownsRow w.heap.size 9 1 v (splitL b s.data.toList).length (wcells (splitL b s.data.toList)) ∧ Below w.heap.size w w'
set_option maxHeartbeats 4000000 in
theorem Split_any (s : ByteArray) (b : UInt8) (hs : s.size ≤ 4194304) (w : World) :
    Calls Tryz.prog 59 #[.string s, .int .u8 b.toNat] w (SplitPost s b w) := by
  obtain ⟨i0, hi, hz0, hz1, hz2⟩ := info_parts strInfo
  have hat0 := Lib.hid (spAt_zero s b)
  have hb := b.toNat_lt
  go_enter Tryz.func59, Tryz.ntmps59
  go_wp2_with fail
  go_loopw [5, 6, 7] (fun v x i wr => ∃ (k fr : Nat) (done : List (List UInt8)), k ≤ s.size ∧ fr ≤ k ∧ done.length ≤ k ∧ i = .int .i64 k ∧ x = .int .i64 fr ∧ Hid (spAt s b k fr done) ∧ Hid (wr.ownsRow w.heap.size 9 1 v done.length (wcells done)) ∧ Hid (Below w.heap.size w wr)) (fun v x i wr => s.size - (intOf i).toNat)
  case atStart => exact ⟨0, 0, [], Nat.zero_le _, Nat.le_refl _, Nat.le_refl _, rfl, rfl, hat0, World.ownsRow_nil _ _ _ _, Below.refl _ _⟩
  case round =>
    obtain ⟨k, fr, done, hk, hfk, hdl, rfl, rfl, hat, hB, hbw⟩ := hrel
    have hbs : w.heap.size ≤ wr.heap.size := hbw.out.size
    obtain ⟨wo, rfl⟩ : ∃ wo : World, wo = wr := ⟨_, rfl⟩
    have f0 : (0 : Int) ≤ (fr : Int) := by omega
    have f1 : (fr : Int) ≤ (k : Int) := by omega
    by_cases hlt : k < s.size
    · have b0 : (0 : Int) ≤ (k : Int) := by omega
      have b1 : (k : Int) < (s.size : Int) := by omega
      have b2 : (k : Int) ≤ (s.size : Int) := by omega
      by_cases hc : s[k] = b
      · have hat1 := Lib.hid (spAt_cut hat.out hlt hc)
        have hcb : ((s[k].toNat : Int) == (b.toNat : Int)) = true := by rw [hc]; simp
        have hone := Lib.hid (one_piece s fr k)
        clear hc
        go_wp2_with (at_builtin; refine wpList_append_own _ rfl _ _ 26 rfl w.heap.size 9 i0 (.string ⟨#[]⟩) 1 16 Tryz.underlying26 hi hz0 hz1 hz2 rfl (by decide) _ _ _ rfl (hB.out.alloc _) ⟨wo.heap.size, 0, none⟩ 1 1 [.string (s.extract fr k)] rfl rfl ?c1 ?c2 ?c3 ?c4 ?c5 ?_)
        case c1 =>
          intro j u hj
          match j, hj with
          | 0, hj =>
            simp at hj
            subst hj
            simp [Addr.add]
        case c2 => intro u hu; simp at hu; subst hu; rfl
        case c3 => unfold maxLen; omega
        case c4 => omega
        case c5 => simp; omega
        intro v' w2 hown' hgrow _
        have HB1 : Hid (w2.ownsRow w.heap.size 9 1 v' (done ++ [(s.extract fr k).data.toList]).length (wcells (done ++ [(s.extract fr k).data.toList]))) := by rw [wcells_app, List.length_append, hone.out]; exact hown'
        have Hb1 : Hid (Below w.heap.size w w2) := (hbw.out.alloc hbs _).grown hgrow (by simp; omega) (fun g hg => (hB.out.lt g hg).1)
        clear hown' hgrow
        go_wp2_with fail
        go_roundw
        case rel => exact ⟨k + 1, k + 1, _, by omega, Nat.le_refl _, by simp; omega, by go_num, by go_num, hat1, HB1, Hb1⟩
        case measure => simp [intOf]; omega
      · have hat1 := Lib.hid (spAt_in hat.out hlt hc)
        have hcb : ((s[k].toNat : Int) == (b.toNat : Int)) = false := by
          simp only [beq_eq_false_iff_ne]
          intro e
          exact hc (UInt8.toNat_inj.1 (by omega))
        clear hc
        go_wp2_with fail
        go_roundw
        case rel => exact ⟨k + 1, fr, done, by omega, by omega, by omega, by go_num, rfl, hat1, hB, hbw⟩
        case measure => simp [intOf]; omega
    · obtain rfl : k = s.size := by omega
      have HE := Lib.hid (spAt_end hat.out)
      have hone := Lib.hid (one_piece s fr s.size)
      clear hlt
      go_wp2_with (at_builtin; refine wpList_append_own _ rfl _ _ 26 rfl w.heap.size 9 i0 (.string ⟨#[]⟩) 1 16 Tryz.underlying26 hi hz0 hz1 hz2 rfl (by decide) _ _ _ rfl (hB.out.alloc _) ⟨wo.heap.size, 0, none⟩ 1 1 [.string (s.extract fr s.size)] rfl rfl ?d1 ?d2 ?d3 ?d4 ?d5 ?_)
      case d1 =>
        intro j u hj
        match j, hj with
        | 0, hj =>
          simp at hj
          subst hj
          simp [Addr.add]
      case d2 => intro u hu; simp at hu; subst hu; rfl
      case d3 => unfold maxLen; omega
      case d4 => omega
      case d5 => simp; omega
      intro v' w2 hown' hgrow _
      have HB1 : Hid (w2.ownsRow w.heap.size 9 1 v' (splitL b s.data.toList).length (wcells (splitL b s.data.toList))) := by rw [HE.out, wcells_app, List.length_append, hone.out]; exact hown'
      have Hb1 : Hid (Below w.heap.size w w2) := (hbw.out.alloc hbs _).grown hgrow (by simp; omega) (fun g hg => (hB.out.lt g hg).1)
      clear hown' hgrow
      go_wp2_with fail
      go_ret
      exact ⟨v', rfl, HB1.out, Hb1.out⟩
end Go.Proofs.YtadifolonbkamaaGreatDoor.Ca
