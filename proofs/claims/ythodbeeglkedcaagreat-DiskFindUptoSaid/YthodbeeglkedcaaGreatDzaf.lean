/- The walks of the document's Split, Has, Same at texts. -/
import Derived.Test.YthodbeeglkedcaaGreatDzaa
import Derived.Test.YthodbeeglkedcaaGreatDzae
namespace Go.Proofs.YthodbeeglkedcaaGreat
open Go.RowKit
theorem str_inj {a b : List UInt8} : str a = str b ↔ a = b := ⟨fun h => by have := congrArg (fun s => s.data.toList) h; exact this, fun h => by rw [h]⟩
theorem any_take {α : Type} {l : List α} {p : α → Bool} {k : Nat} {x : α} (h : (l.take k).any p = false) (hx : l[k]? = some x) : (p x = true → l.any p = true) ∧ (p x = false → (l.take (k + 1)).any p = false) := by
  have hk : k < l.length := by
    rcases Nat.lt_or_ge k l.length with h' | h'
    · exact h'
    · rw [List.getElem?_eq_none h'] at hx; cases hx
  have he : l[k] = x := by rw [List.getElem?_eq_getElem hk] at hx; exact Option.some.inj hx
  constructor
  · intro e
    exact List.any_eq_true.2 ⟨x, by rw [← he]; exact List.getElem_mem hk, e⟩
  · intro e
    rw [List.take_succ_eq_append_getElem hk, he, List.any_append, h]
    simp [e]
set_option maxHeartbeats 4000000 in
theorem Has_any (A : Option Addr) (n c B : Nat) (l : List (List UInt8)) (v : ByteArray) (w : World) (h : RowAt w B A n l) :
    Calls Tryz.prog 25 #[.slice A n c, .string v] w fun e w' => e = .returned (.bool (l.any (fun x => decide (x = v.data.toList)))) ∧ w = w' := by
  have hm := h.2.1
  unfold maxLen at hm
  have hl := h.1
  have HL := Lib.hid h
  have HN0 : Hid ((l.take 0).any (fun x => decide (x = v.data.toList)) = false) := rfl
  clear h
  go_enter Tryz.func25, Tryz.ntmps25
  go_wp2_with fail
  go_loopw [9] (fun i wr => ∃ k : Nat, k ≤ n ∧ i = .int .i64 k ∧ w = wr ∧ Hid ((l.take k).any (fun x => decide (x = v.data.toList)) = false)) (fun i wr => n - (intOf i).toNat)
  case atStart => exact ⟨0, Nat.zero_le _, rfl, rfl, HN0⟩
  case round =>
    obtain ⟨k, hk, rfl, rfl, hN⟩ := hrel
    by_cases hlt : k < n
    · have b0 : (0 : Int) ≤ (k : Int) := by omega
      have b1 : (k : Int) < (n : Int) := by omega
      obtain ⟨ad, x, rfl, hab, hx, q0⟩ := HL.out.at_ hlt
      obtain ⟨n1, n2⟩ := any_take hN.out hx
      have hq : ((str x).toList == v.toList) = decide (x = v.data.toList) := by
        rw [Lib.toList_data, Lib.toList_data, str_list, Bool.eq_iff_iff, decide_eq_true_eq, beq_iff_eq]
      clear hx
      by_cases hf : x = v.data.toList
      · have HF := Lib.hid (n1 (decide_eq_true hf))
        rw [decide_eq_true hf] at hq
        clear hf n1 n2
        go_wp2_with fail
        go_ret
        exact ⟨ret_bool HF.out.symm, by first | rfl | trivial⟩
      · have HF := Lib.hid (n2 (decide_eq_false hf))
        rw [decide_eq_false hf] at hq
        clear hf n1 n2
        go_wp2_with fail
        go_roundw
        case rel => exact ⟨k + 1, by omega, by go_num, by first | rfl | trivial, HF⟩
        case measure => simp [intOf]; omega
    · obtain rfl : k = n := by omega
      have HF : Hid (l.any (fun x => decide (x = v.data.toList)) = false) := by
        have := hN.out
        rwa [List.take_of_length_le (by omega)] at this
      go_wp2_with fail
      go_ret
      exact ⟨ret_bool HF.out.symm, by first | rfl | trivial⟩
set_option maxHeartbeats 4000000 in
theorem Same5_any (A A' : Option Addr) (n n' c c' B : Nat) (l l' : List (List UInt8)) (w : World) (h : RowAt w B A n l) (h' : RowAt w B A' n' l') :
    Calls Tryz.prog 11 #[.slice A n c, .slice A' n' c'] w fun e w' => e = .returned (.bool (decide (l = l'))) ∧ ∃ j, w' = w.drewN j := by
  have hm := h.2.1
  unfold maxLen at hm
  by_cases hn : n = n'
  · subst hn
    have hnn : ((n : Int) != (n : Int)) = false := by simp
    have HL := Lib.hid h
    have HL' := Lib.hid h'
    have hl := h.1
    have hl' := h'.1
    clear h h'
    go_enter Tryz.func11, Tryz.ntmps11
    go_wp2_with fail
    go_loopw [13] (fun i wr => ∃ k j : Nat, k ≤ n ∧ i = .int .i64 k ∧ wr = w.drewN j ∧ Hid (l.take k = l'.take k)) (fun i wr => n - (intOf i).toNat)
    case atStart => exact ⟨0, 0, Nat.zero_le _, rfl, rfl, rfl⟩
    case round =>
      obtain ⟨k, j, hk, rfl, rfl, htk⟩ := hrel
      by_cases hlt : k < n
      · have b0 : (0 : Int) ≤ (k : Int) := by omega
        have b1 : (k : Int) < (n : Int) := by omega
        obtain ⟨ad, x, rfl, _, hx, hc⟩ := HL.out.at_ hlt
        obtain ⟨ad', x', rfl, _, hx', hc'⟩ := HL'.out.at_ hlt
        by_cases hxx : x = x'
        · subst hxx
          have HT : Hid (l.take (k + 1) = l'.take (k + 1)) := by
            show _ = _
            rw [List.take_add_one, List.take_add_one, htk.out, hx, hx']
          have hq : ((str x).toList == (str x).toList) = true := by simp
          clear hx hx'
          go_wp2_with fail
          go_region
          all_goals
            go_wp2_with fail
            go_roundw
            case rel => exact ⟨k + 1, j + 1, by omega, by go_num, rfl, HT⟩
            case measure => simp [intOf]; omega
        · have HT : Hid (decide (l = l') = false) := by
            show _ = _
            rw [decide_eq_false_iff_not]
            intro e
            rw [e, hx'] at hx
            injection hx with hx
            exact hxx hx.symm
          have hq : ((str x).toList == (str x').toList) = false := by
            rw [beq_str, decide_eq_false_iff_not, str_inj]
            exact hxx
          clear hx hx' hxx
          go_wp2_with fail
          go_region
          all_goals
            go_wp2_with fail
            go_ret
            exact ⟨ret_bool HT.out.symm, j + 1, rfl⟩
      · obtain rfl : k = n := by omega
        have HT : Hid (decide (l = l') = true) := by
          show _ = _
          rw [decide_eq_true_eq]
          have := htk.out
          rwa [List.take_of_length_le (by omega), List.take_of_length_le (by omega)] at this
        go_wp2_with fail
        go_ret
        exact ⟨ret_bool HT.out.symm, j, rfl⟩
  · have hnn : ((n : Int) != (n' : Int)) = true := by simp; omega
    have HT : Hid (decide (l = l') = false) := by
      show _ = _
      rw [decide_eq_false_iff_not]
      intro e
      have h1 := h.1
      have h2 := h'.1
      rw [e] at h1
      omega
    clear h h' hn
    go_enter Tryz.func11, Tryz.ntmps11
    go_wp2_with fail
    go_ret
    exact ⟨ret_bool HT.out.symm, 0, rfl⟩
def spAt (s : ByteArray) (b : UInt8) (i fr : Nat) (done : List (List UInt8)) : Prop :=
  fr ≤ i ∧ splitL b s.data.toList = done ++ sgo b (s.extract fr i).data.toList (s.data.toList.drop i)
theorem ext_nil (s : ByteArray) (i : Nat) : (s.extract i i).data.toList = [] := by rw [Lib.extract_data]; simp
theorem ext_snoc (s : ByteArray) (fr i : Nat) (hf : fr ≤ i) (hi : i < s.size) : (s.extract fr (i + 1)).data.toList = (s.extract fr i).data.toList ++ [s[i]] := by
  rw [Lib.extract_data, Lib.extract_data, show i + 1 - fr = (i - fr) + 1 by omega, List.take_add_one]
  congr 1
  rw [List.getElem?_drop, show fr + (i - fr) = i by omega]
  have : s.data.toList[i]? = some s[i] := by rw [List.getElem?_eq_getElem (by simpa using hi)]; rfl
  rw [this]; rfl
theorem spAt_zero (s : ByteArray) (b : UInt8) : spAt s b 0 0 [] := by
  refine ⟨Nat.le_refl _, ?_⟩
  rw [ext_nil, List.drop_zero]; rfl
theorem spAt_in {s : ByteArray} {b : UInt8} {i fr : Nat} {done : List (List UInt8)} (h : spAt s b i fr done) (hi : i < s.size) (hc : s[i] ≠ b) : spAt s b (i + 1) fr done := by
  obtain ⟨h1, h2⟩ := h
  refine ⟨by omega, ?_⟩
  rw [h2, drop_at s i hi, sgo, if_neg hc, ext_snoc s fr i h1 hi]
theorem spAt_cut {s : ByteArray} {b : UInt8} {i fr : Nat} {done : List (List UInt8)} (h : spAt s b i fr done) (hi : i < s.size) (hc : s[i] = b) : spAt s b (i + 1) (i + 1) (done ++ [(s.extract fr i).data.toList]) := by
  obtain ⟨h1, h2⟩ := h
  refine ⟨Nat.le_refl _, ?_⟩
  rw [h2, drop_at s i hi, sgo, if_pos hc, ext_nil, List.append_assoc]
  rfl
theorem spAt_end {s : ByteArray} {b : UInt8} {fr : Nat} {done : List (List UInt8)} (h : spAt s b s.size fr done) : splitL b s.data.toList = done ++ [(s.extract fr s.size).data.toList] := by
  rw [h.2, List.drop_of_length_le (by simp), sgo]
theorem one_piece (s : ByteArray) (a b : Nat) : wcells [(s.extract a b).data.toList] = [Value.string (s.extract a b)] := by
  unfold wcells; rw [List.map_cons, List.map_nil, str_data]
def SplitPost (s : ByteArray) (b : UInt8) (w : World) (e : Ending) (w' : World) : Prop :=
  ∃ v, e = .returned v ∧ w'.ownsRow w.heap.size 9 1 v (splitL b s.data.toList).length (wcells (splitL b s.data.toList)) ∧ Below w.heap.size w w'
set_option maxHeartbeats 4000000 in
theorem Split_any (s : ByteArray) (b : UInt8) (hs : s.size ≤ 4194304) (w : World) :
    Calls Tryz.prog 65 #[.string s, .int .u8 b.toNat] w (SplitPost s b w) := by
  obtain ⟨i0, hi, hz0, hz1, hz2⟩ := info_parts strInfo
  have hat0 := Lib.hid (spAt_zero s b)
  have hb := b.toNat_lt
  go_enter Tryz.func65, Tryz.ntmps65
  go_wp2_with fail
  go_loopw [5, 6, 7] (fun v x i wr => ∃ (k fr : Nat) (done : List (List UInt8)), k ≤ s.size ∧ fr ≤ k ∧ done.length ≤ k ∧ i = .int .i64 k ∧ x = .int .i64 fr ∧ Hid (spAt s b k fr done) ∧ Hid (wr.ownsRow w.heap.size 9 1 v done.length (wcells done)) ∧ Hid (Below w.heap.size w wr)) (fun v x i wr => s.size - (intOf i).toNat)
  case atStart => exact ⟨0, 0, [], Nat.zero_le _, Nat.le_refl _, Nat.le_refl _, rfl, rfl, hat0, World.ownsRow_nil _ _ _ _, Below.refl _ _⟩
  case round =>
    obtain ⟨k, fr, done, hk, hfk, hdl, rfl, rfl, hat, hB, hbw⟩ := hrel
    have hbs : w.heap.size ≤ wr.heap.size := hbw.out.size
    obtain ⟨wo, rfl⟩ : ∃ wo : World, wo = wr := ⟨_, rfl⟩
    have f0 : (0 : Int) ≤ (fr : Int) := by omega
    have f1 : (fr : Int) ≤ (k : Int) := by omega
    by_cases hlt : k < s.size
    · have b0 : (0 : Int) ≤ (k : Int) := by omega
      have b1 : (k : Int) < (s.size : Int) := by omega
      have b2 : (k : Int) ≤ (s.size : Int) := by omega
      by_cases hc : s[k] = b
      · have hat1 := Lib.hid (spAt_cut hat.out hlt hc)
        have hcb : ((s[k].toNat : Int) == (b.toNat : Int)) = true := by rw [hc]; simp
        have hone := Lib.hid (one_piece s fr k)
        clear hc
        go_wp2_with (at_builtin; refine wpList_append_own _ rfl _ _ 24 rfl w.heap.size 9 i0 (.string ⟨#[]⟩) 1 16 Tryz.underlying24 hi hz0 hz1 hz2 rfl (by decide) _ _ _ rfl (hB.out.alloc _) ⟨wo.heap.size, 0, none⟩ 1 1 [.string (s.extract fr k)] rfl rfl ?c1 ?c2 ?c3 ?c4 ?c5 ?_)
        case c1 =>
          intro j u hj
          match j, hj with
          | 0, hj =>
            simp at hj
            subst hj
            simp [Addr.add]
        case c2 => intro u hu; simp at hu; subst hu; rfl
        case c3 => unfold maxLen; omega
        case c4 => omega
        case c5 => simp; omega
        intro v' w2 hown' hgrow _
        have HB1 : Hid (w2.ownsRow w.heap.size 9 1 v' (done ++ [(s.extract fr k).data.toList]).length (wcells (done ++ [(s.extract fr k).data.toList]))) := by rw [wcells_app, List.length_append, hone.out]; exact hown'
        have Hb1 : Hid (Below w.heap.size w w2) := (hbw.out.alloc hbs _).grown hgrow (by simp; omega) (fun g hg => (hB.out.lt g hg).1)
        clear hown' hgrow
        go_wp2_with fail
        go_roundw
        case rel => exact ⟨k + 1, k + 1, _, by omega, Nat.le_refl _, by simp; omega, by go_num, by go_num, hat1, HB1, Hb1⟩
        case measure => simp [intOf]; omega
      · have hat1 := Lib.hid (spAt_in hat.out hlt hc)
        have hcb : ((s[k].toNat : Int) == (b.toNat : Int)) = false := by
          simp only [beq_eq_false_iff_ne]
          intro e
          exact hc (UInt8.toNat_inj.1 (by omega))
        clear hc
        go_wp2_with fail
        go_roundw
        case rel => exact ⟨k + 1, fr, done, by omega, by omega, by omega, by go_num, rfl, hat1, hB, hbw⟩
        case measure => simp [intOf]; omega
    · obtain rfl : k = s.size := by omega
      have HE := Lib.hid (spAt_end hat.out)
      have hone := Lib.hid (one_piece s fr s.size)
      clear hlt
      go_wp2_with (at_builtin; refine wpList_append_own _ rfl _ _ 24 rfl w.heap.size 9 i0 (.string ⟨#[]⟩) 1 16 Tryz.underlying24 hi hz0 hz1 hz2 rfl (by decide) _ _ _ rfl (hB.out.alloc _) ⟨wo.heap.size, 0, none⟩ 1 1 [.string (s.extract fr s.size)] rfl rfl ?d1 ?d2 ?d3 ?d4 ?d5 ?_)
      case d1 =>
        intro j u hj
        match j, hj with
        | 0, hj =>
          simp at hj
          subst hj
          simp [Addr.add]
      case d2 => intro u hu; simp at hu; subst hu; rfl
      case d3 => unfold maxLen; omega
      case d4 => omega
      case d5 => simp; omega
      intro v' w2 hown' hgrow _
      have HB1 : Hid (w2.ownsRow w.heap.size 9 1 v' (splitL b s.data.toList).length (wcells (splitL b s.data.toList))) := by rw [HE.out, wcells_app, List.length_append, hone.out]; exact hown'
      have Hb1 : Hid (Below w.heap.size w w2) := (hbw.out.alloc hbs _).grown hgrow (by simp; omega) (fun g hg => (hB.out.lt g hg).1)
      clear hown' hgrow
      go_wp2_with fail
      go_ret
      exact ⟨v', rfl, HB1.out, Hb1.out⟩
theorem Digit_any (c : UInt8) (w : World) :
    Calls Tryz.prog 69 #[.int .u8 c.toNat] w fun e w' => e = .returned (.bool (isDig c)) ∧ w = w' := by
  have hr := c.toNat_lt
  by_cases h1 : c.toNat < 48
  · have HD := Lib.hid (show isDig c = false by unfold isDig; simp; omega)
    have h1' : (c.toNat : Int) < 48 := by omega
    go_enter Tryz.func69, Tryz.ntmps69
    go_wp2
    go_ret
    exact ⟨ret_bool HD.out.symm, rfl⟩
  · have h1' : (48 : Int) ≤ (c.toNat : Int) := by omega
    by_cases h2 : c.toNat ≤ 57
    · have HD := Lib.hid (show isDig c = true by unfold isDig; simp; omega)
      have h2' : (c.toNat : Int) ≤ 57 := by omega
      clear h1
      go_enter Tryz.func69, Tryz.ntmps69
      go_wp2
      go_ret
      exact ⟨ret_bool HD.out.symm, rfl⟩
    · have HD := Lib.hid (show isDig c = false by unfold isDig; simp; omega)
      have h2' : (57 : Int) < (c.toNat : Int) := by omega
      clear h1 h2
      go_enter Tryz.func69, Tryz.ntmps69
      go_wp2
      go_ret
      exact ⟨ret_bool (by rw [HD.out]; simp; omega), rfl⟩
def letterX (c : UInt8) : Bool := (decide (97 ≤ c.toNat) && decide (c.toNat ≤ 122)) || (decide (65 ≤ c.toNat) && decide (c.toNat ≤ 90))
theorem letterX_iff (c : UInt8) : letterX c = true ↔ (97 ≤ c.toNat ∧ c.toNat ≤ 122) ∨ (65 ≤ c.toNat ∧ c.toNat ≤ 90) := by unfold letterX; simp
theorem Letter_any (c : UInt8) (w : World) :
    Calls Tryz.prog 68 #[.int .u8 c.toNat] w fun e w' => e = .returned (.bool (letterX c)) ∧ w = w' := by
  have hr := c.toNat_lt
  have HL := Lib.hid (letterX_iff c)
  rcases hl : letterX c with _ | _
  all_goals have HH := Lib.hid hl
  all_goals clear hl
  all_goals generalize c.toNat = n at *
  all_goals have H : n ≤ 64 ∨ (65 ≤ n ∧ n ≤ 90) ∨ (91 ≤ n ∧ n ≤ 96) ∨ (97 ≤ n ∧ n ≤ 122) ∨ 123 ≤ n := by omega
  all_goals rcases H with h | ⟨h1, h2⟩ | ⟨h1, h2⟩ | ⟨h1, h2⟩ | h
  all_goals
    go_enter Tryz.func68, Tryz.ntmps68
    go_wp2
  all_goals try (exfalso; omega)
  all_goals go_ret
  all_goals (refine ⟨ret_bool ?_, rfl⟩)
  all_goals first | rfl | (have h0 := HL.out; rw [HH.out] at h0; first | (exfalso; simp at h0; done) | (exfalso; simp at h0; omega) | (simp at h0 ⊢; done) | (simp at h0 ⊢; omega))
end Go.Proofs.YthodbeeglkedcaaGreat
