/- The walk of the document's Split. Rows of texts. The walk of the document's short: one word alone stands for an expressi -/
import Derived.Test.YteflddgcddcejaaGreatDoorCwac
import Derived.Test.YteflddgcddcejaaGreatDoorCwad
import Derived.Test.YteflddgcddcejaaGreatDoorCwae
namespace Go.Proofs.YteflddgcddcejaaGreatDoor
open Go.RowKit
def spAt (s : ByteArray) (b : UInt8) (i fr : Nat) (done : List (List UInt8)) : Prop :=
  fr ≤ i ∧ splitL b s.data.toList = done ++ sgo b (s.extract fr i).data.toList (s.data.toList.drop i)
theorem ext_nil (s : ByteArray) (i : Nat) : (s.extract i i).data.toList = [] := by rw [Lib.extract_data]; simp
theorem ext_snoc (s : ByteArray) (fr i : Nat) (hf : fr ≤ i) (hi : i < s.size) : (s.extract fr (i + 1)).data.toList = (s.extract fr i).data.toList ++ [s[i]] := by
  rw [Lib.extract_data, Lib.extract_data, show i + 1 - fr = (i - fr) + 1 by omega, List.take_add_one]
  congr 1
  rw [List.getElem?_drop, show fr + (i - fr) = i by omega]
  have : s.data.toList[i]? = some s[i] := by rw [List.getElem?_eq_getElem (by simpa using hi)]; rfl
  rw [this]; rfl
theorem spAt_zero (s : ByteArray) (b : UInt8) : spAt s b 0 0 [] := by
  refine ⟨Nat.le_refl _, ?_⟩
  rw [ext_nil, List.drop_zero]; rfl
theorem spAt_in {s : ByteArray} {b : UInt8} {i fr : Nat} {done : List (List UInt8)} (h : spAt s b i fr done) (hi : i < s.size) (hc : s[i] ≠ b) : spAt s b (i + 1) fr done := by
  obtain ⟨h1, h2⟩ := h
  refine ⟨by omega, ?_⟩
  rw [h2, drop_at s i hi, sgo, if_neg hc, ext_snoc s fr i h1 hi]
theorem spAt_cut {s : ByteArray} {b : UInt8} {i fr : Nat} {done : List (List UInt8)} (h : spAt s b i fr done) (hi : i < s.size) (hc : s[i] = b) : spAt s b (i + 1) (i + 1) (done ++ [(s.extract fr i).data.toList]) := by
  obtain ⟨h1, h2⟩ := h
  refine ⟨Nat.le_refl _, ?_⟩
  rw [h2, drop_at s i hi, sgo, if_pos hc, ext_nil, List.append_assoc]
  rfl
theorem spAt_end {s : ByteArray} {b : UInt8} {fr : Nat} {done : List (List UInt8)} (h : spAt s b s.size fr done) : splitL b s.data.toList = done ++ [(s.extract fr s.size).data.toList] := by
  rw [h.2, List.drop_of_length_le (by simp), sgo]
theorem one_piece (s : ByteArray) (a b : Nat) : wcells [(s.extract a b).data.toList] = [Value.string (s.extract a b)] := by
  unfold wcells; rw [List.map_cons, List.map_nil, str_data]
def SplitPost (s : ByteArray) (b : UInt8) (w : World) (e : Ending) (w' : World) : Prop :=
  ∃ v, e = .returned v ∧ w'.ownsRow w.heap.size 9 1 v (splitL b s.data.toList).length (wcells (splitL b s.data.toList)) ∧ Below w.heap.size w w'
set_option maxHeartbeats 4000000 in
theorem Split_any (s : ByteArray) (b : UInt8) (hs : s.size ≤ 4194304) (w : World) :
    Calls Tryz.prog 21 #[.string s, .int .u8 b.toNat] w (SplitPost s b w) := by
  obtain ⟨i0, hi, hz0, hz1, hz2⟩ := info_parts strInfo
  have hat0 := Lib.hid (spAt_zero s b)
  have hb := b.toNat_lt
  go_enter Tryz.func21, Tryz.ntmps21
  go_wp2_with fail
  go_loopw [5, 6, 7] (fun v x i wr => ∃ (k fr : Nat) (done : List (List UInt8)), k ≤ s.size ∧ fr ≤ k ∧ done.length ≤ k ∧ i = .int .i64 k ∧ x = .int .i64 fr ∧ Hid (spAt s b k fr done) ∧ Hid (wr.ownsRow w.heap.size 9 1 v done.length (wcells done)) ∧ Hid (Below w.heap.size w wr)) (fun v x i wr => s.size - (intOf i).toNat)
  case atStart => exact ⟨0, 0, [], Nat.zero_le _, Nat.le_refl _, Nat.le_refl _, rfl, rfl, hat0, World.ownsRow_nil _ _ _ _, Below.refl _ _⟩
  case round =>
    obtain ⟨k, fr, done, hk, hfk, hdl, rfl, rfl, hat, hB, hbw⟩ := hrel
    have hbs : w.heap.size ≤ wr.heap.size := hbw.out.size
    obtain ⟨wo, rfl⟩ : ∃ wo : World, wo = wr := ⟨_, rfl⟩
    have f0 : (0 : Int) ≤ (fr : Int) := by omega
    have f1 : (fr : Int) ≤ (k : Int) := by omega
    by_cases hlt : k < s.size
    · have b0 : (0 : Int) ≤ (k : Int) := by omega
      have b1 : (k : Int) < (s.size : Int) := by omega
      have b2 : (k : Int) ≤ (s.size : Int) := by omega
      by_cases hc : s[k] = b
      · have hat1 := Lib.hid (spAt_cut hat.out hlt hc)
        have hcb : ((s[k].toNat : Int) == (b.toNat : Int)) = true := by rw [hc]; simp
        have hone := Lib.hid (one_piece s fr k)
        clear hc
        go_wp2_with (at_builtin; refine wpList_append_own _ rfl _ _ 44 rfl w.heap.size 9 i0 (.string ⟨#[]⟩) 1 16 Tryz.underlying44 hi hz0 hz1 hz2 rfl (by decide) _ _ _ rfl (hB.out.alloc _) ⟨wo.heap.size, 0, none⟩ 1 1 [.string (s.extract fr k)] rfl rfl ?c1 ?c2 ?c3 ?c4 ?c5 ?_)
        case c1 =>
          intro j u hj
          match j, hj with
          | 0, hj =>
            simp at hj
            subst hj
            simp [Addr.add]
        case c2 => intro u hu; simp at hu; subst hu; rfl
        case c3 => unfold maxLen; omega
        case c4 => omega
        case c5 => simp; omega
        intro v' w2 hown' hgrow _
        have HB1 : Hid (w2.ownsRow w.heap.size 9 1 v' (done ++ [(s.extract fr k).data.toList]).length (wcells (done ++ [(s.extract fr k).data.toList]))) := by rw [wcells_app, List.length_append, hone.out]; exact hown'
        have Hb1 : Hid (Below w.heap.size w w2) := (hbw.out.alloc hbs _).grown hgrow (by simp; omega) (fun g hg => (hB.out.lt g hg).1)
        clear hown' hgrow
        go_wp2_with fail
        go_roundw
        case rel => exact ⟨k + 1, k + 1, _, by omega, Nat.le_refl _, by simp; omega, by go_num, by go_num, hat1, HB1, Hb1⟩
        case measure => simp [intOf]; omega
      · have hat1 := Lib.hid (spAt_in hat.out hlt hc)
        have hcb : ((s[k].toNat : Int) == (b.toNat : Int)) = false := by
          simp only [beq_eq_false_iff_ne]
          intro e
          exact hc (UInt8.toNat_inj.1 (by omega))
        clear hc
        go_wp2_with fail
        go_roundw
        case rel => exact ⟨k + 1, fr, done, by omega, by omega, by omega, by go_num, rfl, hat1, hB, hbw⟩
        case measure => simp [intOf]; omega
    · obtain rfl : k = s.size := by omega
      have HE := Lib.hid (spAt_end hat.out)
      have hone := Lib.hid (one_piece s fr s.size)
      clear hlt
      go_wp2_with (at_builtin; refine wpList_append_own _ rfl _ _ 44 rfl w.heap.size 9 i0 (.string ⟨#[]⟩) 1 16 Tryz.underlying44 hi hz0 hz1 hz2 rfl (by decide) _ _ _ rfl (hB.out.alloc _) ⟨wo.heap.size, 0, none⟩ 1 1 [.string (s.extract fr s.size)] rfl rfl ?d1 ?d2 ?d3 ?d4 ?d5 ?_)
      case d1 =>
        intro j u hj
        match j, hj with
        | 0, hj =>
          simp at hj
          subst hj
          simp [Addr.add]
      case d2 => intro u hu; simp at hu; subst hu; rfl
      case d3 => unfold maxLen; omega
      case d4 => omega
      case d5 => simp; omega
      intro v' w2 hown' hgrow _
      have HB1 : Hid (w2.ownsRow w.heap.size 9 1 v' (splitL b s.data.toList).length (wcells (splitL b s.data.toList))) := by rw [HE.out, wcells_app, List.length_append, hone.out]; exact hown'
      have Hb1 : Hid (Below w.heap.size w w2) := (hbw.out.alloc hbs _).grown hgrow (by simp; omega) (fun g hg => (hB.out.lt g hg).1)
      clear hown' hgrow
      go_wp2_with fail
      go_ret
      exact ⟨v', rfl, HB1.out, Hb1.out⟩
end Go.Proofs.YteflddgcddcejaaGreatDoor
namespace Go.Proofs.YteflddgcddcejaaGreatDoor
open Go.RowKit
def RowAt (w : World) (B : Nat) (A : Option Addr) (n : Nat) (l : List (List UInt8)) : Prop :=
  l.length = n ∧ n ≤ maxLen ∧ (0 < n → ∃ ad, A = some ad ∧ ad.block < B ∧ ∀ j x, l[j]? = some x → w.cell? (ad.add j) = some (.string (str x)))
theorem RowAt.none_ {w : World} {B : Nat} {A : Option Addr} : RowAt w B A 0 [] := ⟨rfl, Nat.zero_le _, fun h => by omega⟩
theorem rowAt_of_own {w : World} {base n nv cv : Nat} {A : Option Addr} {l : List (List UInt8)} (h : w.ownsRow base 9 1 (.slice A nv cv) n (wcells l)) (hn : n ≤ maxLen) : nv = n ∧ n ≤ cv ∧ RowAt w w.heap.size A n l := by
  have hl : l.length = n := by have := h.1; rw [wcells_length] at this; omega
  rcases h.2 with ⟨h1, h2⟩ | ⟨g, cap, cur, h1, h2, h3, h4, h5, h6, h7⟩
  · injection h1 with h1 h11 h12
    subst h2
    exact ⟨h11, Nat.zero_le _, hl, Nat.zero_le _, fun h => by omega⟩
  · injection h1 with h1 h11 h12
    subst h1 h11 h12
    refine ⟨rfl, h4, hl, hn, fun _ => ⟨_, rfl, (Array.getElem?_eq_some_iff.1 h3).1, fun j x hj => ?_⟩⟩
    refine h.cells (g := g) rfl j _ ?_
    unfold wcells
    rw [List.getElem?_map, hj]
    rfl
theorem block_addR (a : Addr) (n : Nat) : (a.add n).block = a.block := by unfold Addr.add; split <;> rfl
theorem RowAt.below {w w' : World} {B n : Nat} {A : Option Addr} {l : List (List UInt8)} (h : RowAt w B A n l) (hb : Below B w w') : RowAt w' B A n l :=
  ⟨h.1, h.2.1, fun hn => by
    obtain ⟨ad, e, hB, hc⟩ := h.2.2 hn
    exact ⟨ad, e, hB, fun j x hj => (hb.cell (by rw [block_addR]; exact hB)).trans (hc j x hj)⟩⟩
theorem RowAt.wide {w : World} {B B' n : Nat} {A : Option Addr} {l : List (List UInt8)} (h : RowAt w B A n l) (hB : B ≤ B') : RowAt w B' A n l :=
  ⟨h.1, h.2.1, fun hn => by
    obtain ⟨ad, e, h2, hc⟩ := h.2.2 hn
    exact ⟨ad, e, by omega, hc⟩⟩
theorem RowAt.at_ {w : World} {B n : Nat} {A : Option Addr} {l : List (List UInt8)} (h : RowAt w B A n l) {k : Nat} (hk : k < n) : ∃ ad x, A = some ad ∧ ad.block < B ∧ l[k]? = some x ∧ w.cell? (ad.add k) = some (.string (str x)) := by
  obtain ⟨ad, e, hB, hc⟩ := h.2.2 (by omega)
  have hl : k < l.length := by have := h.1; omega
  exact ⟨ad, l[k], e, hB, List.getElem?_eq_getElem hl, hc k _ (List.getElem?_eq_getElem hl)⟩
theorem RowAt.drewN {w : World} {B n : Nat} {A : Option Addr} {l : List (List UInt8)} (h : RowAt w B A n l) (j : Nat) : RowAt (w.drewN j) B A n l := h
end Go.Proofs.YteflddgcddcejaaGreatDoor
namespace Go.Proofs.YteflddgcddcejaaGreatDoor
open Go.RowKit
set_option maxHeartbeats 2000000 in
theorem short_any (s : ByteArray) (w : World) :
    Calls Tryz.prog 22 #[.string s] w fun e w' => e = .returned (.string (str (shortL s.data.toList))) ∧ w = w' := by
  by_cases h0 : s = str [109, 105, 110, 117, 116, 101, 108, 121]
  · have H := Lib.hid (show shortL s.data.toList = shortL [109, 105, 110, 117, 116, 101, 108, 121] by rw [h0]; rfl)
    have e0 := is_beq h0
    clear h0
    go_enter Tryz.func22, Tryz.ntmps22
    go_wp2_with fail
    go_ret
    exact ⟨ret_str (by rw [H.out]; rfl), rfl⟩
  by_cases h1 : s = str [104, 111, 117, 114, 108, 121]
  · have H := Lib.hid (show shortL s.data.toList = shortL [104, 111, 117, 114, 108, 121] by rw [h1]; rfl)
    have e0 := ne_beq h0
    have e1 := is_beq h1
    clear h0 h1
    go_enter Tryz.func22, Tryz.ntmps22
    go_wp2_with fail
    go_ret
    exact ⟨ret_str (by rw [H.out]; rfl), rfl⟩
  by_cases h2 : s = str [100, 97, 105, 108, 121]
  · have H := Lib.hid (show shortL s.data.toList = shortL [100, 97, 105, 108, 121] by rw [h2]; rfl)
    have e0 := ne_beq h0
    have e1 := ne_beq h1
    have e2 := is_beq h2
    clear h0 h1 h2
    go_enter Tryz.func22, Tryz.ntmps22
    go_wp2_with fail
    go_ret
    exact ⟨ret_str (by rw [H.out]; rfl), rfl⟩
  by_cases h3 : s = str [119, 101, 101, 107, 108, 121]
  · have H := Lib.hid (show shortL s.data.toList = shortL [119, 101, 101, 107, 108, 121] by rw [h3]; rfl)
    have e0 := ne_beq h0
    have e1 := ne_beq h1
    have e2 := ne_beq h2
    have e3 := is_beq h3
    clear h0 h1 h2 h3
    go_enter Tryz.func22, Tryz.ntmps22
    go_wp2_with fail
    go_ret
    exact ⟨ret_str (by rw [H.out]; rfl), rfl⟩
  by_cases h4 : s = str [109, 111, 110, 116, 104, 108, 121]
  · have H := Lib.hid (show shortL s.data.toList = shortL [109, 111, 110, 116, 104, 108, 121] by rw [h4]; rfl)
    have e0 := ne_beq h0
    have e1 := ne_beq h1
    have e2 := ne_beq h2
    have e3 := ne_beq h3
    have e4 := is_beq h4
    clear h0 h1 h2 h3 h4
    go_enter Tryz.func22, Tryz.ntmps22
    go_wp2_with fail
    go_ret
    exact ⟨ret_str (by rw [H.out]; rfl), rfl⟩
  by_cases h5 : s = str [121, 101, 97, 114, 108, 121]
  · have H := Lib.hid (show shortL s.data.toList = shortL [121, 101, 97, 114, 108, 121] by rw [h5]; rfl)
    have e0 := ne_beq h0
    have e1 := ne_beq h1
    have e2 := ne_beq h2
    have e3 := ne_beq h3
    have e4 := ne_beq h4
    have e5 := is_beq h5
    clear h0 h1 h2 h3 h4 h5
    go_enter Tryz.func22, Tryz.ntmps22
    go_wp2_with fail
    go_ret
    exact ⟨ret_str (by rw [H.out]; rfl), rfl⟩
  have H : Hid (shortL s.data.toList = s.data.toList) := by
    show _ = _
    unfold shortL
    rw [if_neg (fun e => h0 (eq_str.2 e))]
    rw [if_neg (fun e => h1 (eq_str.2 e))]
    rw [if_neg (fun e => h2 (eq_str.2 e))]
    rw [if_neg (fun e => h3 (eq_str.2 e))]
    rw [if_neg (fun e => h4 (eq_str.2 e))]
    rw [if_neg (fun e => h5 (eq_str.2 e))]
  have e0 := ne_beq h0
  have e1 := ne_beq h1
  have e2 := ne_beq h2
  have e3 := ne_beq h3
  have e4 := ne_beq h4
  have e5 := ne_beq h5
  clear h0 h1 h2 h3 h4 h5
  go_enter Tryz.func22, Tryz.ntmps22
  go_wp2_with fail
  go_ret
  exact ⟨ret_str (by rw [H.out, str_data]), rfl⟩
end Go.Proofs.YteflddgcddcejaaGreatDoor
