/- strings.FieldsFunc at blanks gives the words between blanks; the walks of isSeparator and of the developers' Vars. -/
import Derived.Test.YtjoedgkmpklhfaaExE
import Derived.Lib.FieldsP
import Derived.Lib.SpaceUEq
import Derived.Laws.RangeAny
namespace Go.Proofs.Ytjoedgkmpklhfaa
open Go.RowKit Go.Maps

def sepR (x : Nat) : Bool := decide (x = 32) || decide (x = 9)
theorem bgo_skip {u : List UInt8} (l r : List UInt8) (h : ∀ c ∈ l, ([32, 9] : List UInt8).contains c = false) : bgo [32, 9] u (l ++ r) = bgo [32, 9] (u ++ l) r := bgo_plain l r u h
theorem no_sep {c : UInt8} (h : 128 ≤ c.toNat) : ([32, 9] : List UInt8).contains c = false := by
  have h1 : c ≠ 32 := fun e => by rw [e] at h; revert h; decide
  have h2 : c ≠ 9 := fun e => by rw [e] at h; revert h; decide
  simp [h1, h2]
theorem no_sep2 {c : UInt8} (h : sepR c.toNat = false) : ([32, 9] : List UInt8).contains c = false := by
  have h1 : c ≠ 32 := fun e => by rw [e] at h; revert h; decide
  have h2 : c ≠ 9 := fun e => by rw [e] at h; revert h; decide
  simp [h1, h2]
/-- A rune that is a blank is one byte, that blank; the bytes of another rune are no blanks. -/
theorem rune_sep (s : ByteArray) (pos : Nat) (h : pos < s.size) :
    (sepR (Utf8.decode s pos).1 = true → (Utf8.decode s pos).2 = 1 ∧ ([32, 9] : List UInt8).contains s[pos] = true) ∧
    (sepR (Utf8.decode s pos).1 = false → pos + (Utf8.decode s pos).2 ≤ s.size ∧ ∀ c ∈ (s.data.toList.drop pos).take (Utf8.decode s pos).2, ([32, 9] : List UInt8).contains c = false) := by
  by_cases ha : s[pos].toNat < 128
  · have hd := decode_ascii s pos h ha
    rw [hd]
    refine ⟨fun hs => ⟨rfl, ?_⟩, fun hs => ⟨h, fun c hc => ?_⟩⟩
    · unfold sepR at hs
      simp only [Bool.or_eq_true, decide_eq_true_eq] at hs
      rcases hs with e | e
      · have : s[pos] = 32 := UInt8.toNat_inj.1 (by rw [e]; rfl)
        rw [this]; rfl
      · have : s[pos] = 9 := UInt8.toNat_inj.1 (by rw [e]; rfl)
        rw [this]; rfl
    · rw [drop_at s pos h] at hc
      simp at hc
      rw [hc]; exact no_sep2 hs
  · have hge : 128 ≤ s[pos].toNat := by omega
    have h1 := (decode_high s pos h hge).1
    refine ⟨fun hs => ?_, fun _ => ?_⟩
    · exfalso
      unfold sepR at hs
      simp only [Bool.or_eq_true, decide_eq_true_eq] at hs
      omega
    · have hle : pos + (Utf8.decode s pos).2 ≤ s.size := by
        have := Lib.decodeN_le_n' (s.size - pos) (s.get! pos).toNat (s.get! (pos + 1)).toNat (s.get! (pos + 2)).toNat (s.get! (pos + 3)).toNat (by omega)
        rw [← Lib.decode_at] at this
        omega
      refine ⟨hle, fun c hc => no_sep ?_⟩
      have hcn := Lib.decodeN_conts (s.data.toList.length - pos) (s.data.toList.getD pos 0).toNat (s.data.toList.getD (pos + 1) 0).toNat (s.data.toList.getD (pos + 2) 0).toNat (s.data.toList.getD (pos + 3) 0).toNat
      rw [← Lib.decode_N] at hcn
      obtain ⟨c2, c3, c4, c5⟩ := hcn
      obtain ⟨j, hj, e⟩ := List.mem_iff_getElem.1 hc
      have hjK : j < (Utf8.decode s pos).2 := by simp at hj; omega
      have hjs : pos + j < s.data.toList.length := by rw [size_list]; omega
      have e2 : c = s.data.toList.getD (pos + j) 0 := by
        rw [← e, List.getElem_take, List.getElem_drop, List.getD_eq_getElem?_getD, List.getElem?_eq_getElem hjs]; rfl
      rw [e2]
      match j, hjK with
      | 0, _ =>
        have : s.data.toList.getD (pos + 0) 0 = s[pos] := by
          rw [List.getD_eq_getElem?_getD, List.getElem?_eq_getElem (by rw [size_list]; omega)]; rfl
        rw [this]; exact hge
      | 1, hj => have := (c2 (by omega)).1; omega
      | 2, hj => have := (c3 (by omega)).1; omega
      | 3, hj => have := (c4 (by omega)).1; omega
      | j + 4, hj => omega

theorem spans_blanks (s : ByteArray) : ∀ (f pos : Nat) (st : Option Nat) (acc : List (Nat × Nat)), s.size ≤ pos + f → pos ≤ s.size → (∀ a, st = some a → a < pos) →
    acc.map (fun p => Lib.pieceU s.data.toList p.1 p.2) ++ bgo [32, 9] (Lib.openPiece s.data.toList st pos) (s.data.toList.drop pos) = (Lib.closeSpans s (Lib.spansFromP sepR s f pos st acc)).map (fun p => Lib.pieceU s.data.toList p.1 p.2)
  | 0, pos, st, acc, h, hp, hst => by
    obtain rfl : pos = s.size := by omega
    have hd : s.data.toList.drop s.size = [] := List.drop_eq_nil_of_le (by rw [size_list]; exact Nat.le_refl _)
    rw [hd, bgo]
    cases st with
    | none => simp [Lib.spansFromP, Lib.closeSpans, Lib.openPiece]
    | some a =>
      have := Lib.pieceU_ne s.data.toList a s.size (hst a rfl) (by rw [size_list]; exact Nat.le_refl _)
      simp [Lib.spansFromP, Lib.closeSpans, Lib.openPiece, this]
  | f + 1, pos, st, acc, h, hp, hst => by
    by_cases hlt : pos < s.size
    · have hw := Lib.width_pos s pos
      obtain ⟨r1, r2⟩ := rune_sep s pos hlt
      simp only [Lib.spansFromP, if_pos hlt]
      cases hsp : sepR (Utf8.decode s pos).1 with
      | true =>
        obtain ⟨k1, kc⟩ := r1 hsp
        simp only [if_true]
        rw [k1]
        rw [drop_at s pos hlt]
        cases st with
        | none =>
          have ih := spans_blanks s f (pos + 1) none acc (by omega) (by omega) (fun a h => by cases h)
          rw [← ih]
          simp only [Lib.openPiece]
          rw [bgo_gap kc]
        | some a =>
          have hpn := Lib.pieceU_ne s.data.toList a pos (hst a rfl) (by rw [size_list]; omega)
          have ih := spans_blanks s f (pos + 1) none (acc ++ [(a, pos)]) (by omega) (by omega) (fun a h => by cases h)
          rw [← ih]
          simp only [Lib.openPiece]
          rw [bgo, if_pos kc, if_neg hpn, List.map_append]
          simp
      | false =>
        obtain ⟨hle, kc⟩ := r2 hsp
        simp only [Bool.false_eq_true, if_false]
        have hsplit : s.data.toList.drop pos = (s.data.toList.drop pos).take (Utf8.decode s pos).2 ++ s.data.toList.drop (pos + (Utf8.decode s pos).2) := by
          conv => lhs; rw [← List.take_append_drop (Utf8.decode s pos).2 (s.data.toList.drop pos)]
          rw [List.drop_drop]
        rw [hsplit, bgo_skip _ _ kc]
        cases st with
        | none =>
          have ih := spans_blanks s f (pos + (Utf8.decode s pos).2) (some pos) acc (by omega) hle (fun a h => by cases h; omega)
          rw [← ih]
          have e : ([] : List UInt8) ++ (s.data.toList.drop pos).take (Utf8.decode s pos).2 = Lib.pieceU s.data.toList pos (pos + (Utf8.decode s pos).2) := by
            unfold Lib.pieceU
            rw [List.nil_append, Nat.add_sub_cancel_left]
          simp only [Lib.openPiece]
          rw [e]
        | some a =>
          have ih := spans_blanks s f (pos + (Utf8.decode s pos).2) (some a) acc (by omega) hle (fun b h => by cases h; have := hst a rfl; omega)
          rw [← ih]
          simp only [Lib.openPiece]
          rw [Lib.pieceU_grow _ _ _ _ (Nat.le_of_lt (hst a rfl))]
    · obtain rfl : pos = s.size := by omega
      have hd : s.data.toList.drop s.size = [] := List.drop_eq_nil_of_le (by rw [size_list]; exact Nat.le_refl _)
      rw [hd, bgo, Lib.spansFromP_end sepR s _ _ _ _ hlt]
      cases st with
      | none => simp [Lib.closeSpans, Lib.openPiece]
      | some a =>
        have := Lib.pieceU_ne s.data.toList a s.size (hst a rfl) (by rw [size_list]; exact Nat.le_refl _)
        simp [Lib.closeSpans, Lib.openPiece, this]
theorem fields_blanks (s : ByteArray) : Lib.goFieldsP sepR s = (blanksL [32, 9] s.data.toList).map str := by
  have h := spans_blanks s s.size 0 none [] (by omega) (Nat.zero_le _) (fun a h => by cases h)
  simp only [List.map_nil, List.nil_append, Lib.openPiece, List.drop_zero] at h
  unfold blanksL
  rw [h]
  unfold Lib.goFieldsP Lib.spansOfP
  rw [List.map_map]
  apply List.map_congr_left
  intro p _
  apply ext_list
  rw [Lib.extract_data]
  rfl
theorem fields_cells (s : ByteArray) : (Lib.goFieldsP sepR s).map Value.string = wcells (blanksL [32, 9] s.data.toList) ∧ (Lib.goFieldsP sepR s).length = (blanksL [32, 9] s.data.toList).length := by
  rw [fields_blanks, List.map_map, List.length_map]
  exact ⟨rfl, rfl⟩

theorem isSep_any (x : Nat) (W : World) :
    Calls Try.prog 27 #[encR x] W fun e w' => e = .returned (.bool (sepR x)) ∧ ∃ q, w' = W.drewN q := by
  unfold encR
  by_cases h1 : x = 32
  · have HS := Lib.hid (show sepR x = true by unfold sepR; simp [h1])
    have q1 : ((x : Int) == 32) = true := by simp; omega
    clear h1
    go_enter Try.func27, Try.ntmps27
    go_wp2
    go_ret
    exact ⟨ret_bool HS.out.symm, 0, rfl⟩
  · have q1 : ((x : Int) == 32) = false := by simp; omega
    by_cases h2 : x = 9
    · have HS := Lib.hid (show sepR x = true by unfold sepR; simp [h2])
      have q2 : ((x : Int) == 9) = true := by simp; omega
      clear h1 h2
      go_enter Try.func27, Try.ntmps27
      go_wp2
      go_ret
      exact ⟨ret_bool HS.out.symm, 0, rfl⟩
    · have HS := Lib.hid (show sepR x = false by unfold sepR; simp [h1, h2])
      have q2 : ((x : Int) == 9) = false := by simp; omega
      clear h1 h2
      go_enter Try.func27, Try.ntmps27
      go_wp2
      go_ret
      exact ⟨ret_bool HS.out.symm, 0, rfl⟩
theorem isSep_pred (w : World) : PredAt Try.prog 27 #[] encR sepR w := fun W x _ => isSep_any x W
/-- strings.FieldsFunc at blanks. -/
theorem fields_any (s : ByteArray) (hs : s.size ≤ 4294967296) (w : World) :
    Calls Try.prog 26 #[.string s, .func (.func 27) #[] #[]] w fun e w' => ∃ A, e = .returned (.slice A (blanksL [32, 9] s.data.toList).length (blanksL [32, 9] s.data.toList).length) ∧
      RowAt w' w'.heap.size A (blanksL [32, 9] s.data.toList).length (blanksL [32, 9] s.data.toList) ∧ Below w.heap.size w w' := by
  obtain ⟨e1, e2⟩ := fields_cells s
  have hcount := blanksX_count s.data.toList
  rw [size_list] at hcount
  refine (Try.strings_FieldsFunc _ _ (enters_of Try.func27 (by kernel_rfl) rfl) sepR s w hs (isSep_pred w)).mono ?_
  rintro e w' ⟨A, rfl, hA, hown, hb⟩
  rw [e1, e2] at hown
  rw [e2]
  exact ⟨_, rfl, (rowAt_of_own hown (by unfold maxLen; omega)).2.2, hb⟩

/-- What Vars hands back. -/
def VarsP (env : List PairX) (l : List (List UInt8)) (w : World) (e : Ending) (w' : World) : Prop :=
  ∃ (A : Option Addr) (n c : Nat), e = .returned (.slice A n c) ∧ n ≤ c ∧ RowAt w' w'.heap.size A n (varsX env l) ∧ Below w.heap.size w w'
theorem varsX_take {env : List PairX} {l : List (List UInt8)} {k : Nat} {x : List UInt8} (h : l[k]? = some x) : varsX env (l.take (k + 1)) = varsX env (l.take k) ++ oneX env x := by
  rw [List.take_add_one, h]
  exact varsX_snoc _ _ _
theorem varsX_part (env : List PairX) (l : List (List UInt8)) (k : Nat) : (varsX env (l.take k)).length ≤ (varsX env l).length := by
  have : varsX env l = varsX env (l.take k) ++ varsX env (l.drop k) := by rw [← varsX_app, List.take_append_drop]
  rw [this, List.length_append]; omega
theorem whole_ok {s : ByteArray} (h : wholeOk s = true) : wholeX s.data.toList ≠ [] := by
  unfold wholeOk at h
  intro e
  rw [e] at h
  cases h
theorem whole_nil {s : ByteArray} (h : wholeOk s = false) : wholeX s.data.toList = [] := by
  unfold wholeOk at h
  cases hx : wholeX s.data.toList with
  | nil => rfl
  | cons a r => rw [hx] at h; cases h
theorem wholeX_size (s : List UInt8) : (wholeX s).length ≤ 60 := by
  unfold wholeX
  split
  · rename_i n
    by_cases h : varX n = true
    · rw [if_pos h]; exact ((varX_iff _).1 h).2.1
    · rw [if_neg h]; simp
  · simp

set_option maxHeartbeats 8000000 in
set_option maxRecDepth 100000 in
theorem Vars_any (A A2 : Option Addr) (n c n2 c2 B : Nat) (l : List (List UInt8)) (env : List PairX) (w : World) (h : RowAt w B A n l) (h2 : PairsAt w B A2 n2 env) (hB : B ≤ w.heap.size) (hsz : ∀ x ∈ l, x.length ≤ maxLen)
    (hF : ∀ x ∈ l, wholeX x = [] → (fillX env x).length ≤ 140737488355328) (hV : ∀ x ∈ l, wholeX x ≠ [] → (valX env (wholeX x)).length ≤ 4294967296) (hT : (varsX env l).length ≤ 8796093022208) :
    Calls Try.prog 12 #[.slice A n c, .slice A2 n2 c2] w (VarsP env l w) := by
  obtain ⟨i0, hi, hz0, hz1, hz2⟩ := info_parts strInfo
  have hm := h.2.1
  unfold maxLen at hm
  have HR := Lib.hid h
  have HF := Lib.hid hF
  have HV := Lib.hid hV
  have HS := Lib.hid hsz
  have HT := Lib.hid (fun k => Nat.le_trans (varsX_part env l k) hT)
  clear hF hV hsz hT h
  go_enter Try.func12, Try.ntmps12
  go_wp2_with fail
  refine (valuesOf_any A2 n2 c2 B env _ h2 hB).mono ?_
  rintro e w1 ⟨M, rfl, hM, hE, hb1⟩
  have HE := Lib.hid hE
  have HB1 := Lib.hid hb1
  have hMl := hE.lt
  have hs1 := hb1.size
  have HR1 : Hid (RowAt w1 w1.heap.size A n l) := (HR.out.below (hb1.mono hB)).wide (by omega)
  clear hE hb1 h2
  go_wp2_with fail
  go_loopw [6, 15] (fun v i wr => ∃ k : Nat, k ≤ n ∧ i = .int .i64 k ∧ Hid (wr.ownsRow w1.heap.size 9 1 v (varsX env (l.take k)).length (wcells (varsX env (l.take k)))) ∧ Hid (Below w1.heap.size w1 wr)) (fun v i wr => n - (intOf i).toNat)
  case atStart => exact ⟨0, Nat.zero_le _, rfl, World.ownsRow_nil _ _ _ _, Below.refl _ _⟩
  case round =>
    obtain ⟨k, hk, rfl, hown, hb⟩ := hrel
    have hbs : w1.heap.size ≤ wr.heap.size := hb.out.size
    by_cases hlt : k < n
    · have b0 : (0 : Int) ≤ (k : Int) := by omega
      have b1 : (k : Int) < (n : Int) := by omega
      obtain ⟨ad, x, rfl, hbl, hx, hc⟩ := (HR1.out.below hb.out).at_ hlt
      have hxm := List.mem_of_getElem? hx
      have hxs := HS.out x hxm
      have HX := Lib.hid (varsX_take (env := env) hx)
      have HT1 := HT.out (k + 1)
      rw [HX.out, List.length_append] at HT1
      rcases hw : wholeOk (str x) with _ | _
      · have hwn := whole_nil hw
        have HO := Lib.hid (oneX_fill (env := env) (w := x) hwn)
        have hfl := HF.out x hxm hwn
        rw [HO.out] at HT1
        have hl1 : (varsX env (List.take k l)).length + 1 ≤ 8796093022208 := HT1
        have HEr : Hid (EnvAt wr M env) := HE.out.below hb.out hMl
        clear hx hwn HT1
        go_wp2_with fail
        refine (wholeWord_any _ _).mono ?_
        rintro e w2 ⟨rfl, q, rfl⟩
        go_wp2_with fail
        refine (fill_any (str x) M env hxs hfl (wr.drewN q) (by exact HEr.out)).mono ?_
        rintro e w3 ⟨rfl, hb3⟩
        have hb3' : Below wr.heap.size wr w3 := below_drewL hb3
        have hown3 : w3.ownsRow w1.heap.size 9 1 u6 (varsX env (l.take k)).length (wcells (varsX env (l.take k))) := hown.out.kept ⟨hb3.os, hb3.tape, hb3.output, hb3.size, fun j hj _ => hb3.block j hj⟩ (Classical.em _)
        have HO3 := Lib.hid hown3
        have Hb3 : Hid (Below w1.heap.size w1 w3) := below_more hb.out hbs hb3'
        have hs3 : w1.heap.size ≤ w3.heap.size := Hb3.out.size
        clear hb3 hb3' hown3
        go_wp2_with (at_builtin; refine wpList_append_own _ rfl _ _ 27 rfl w1.heap.size 9 i0 (.string ⟨#[]⟩) 1 16 Try.underlying27 hi hz0 hz1 hz2 rfl (by decide) _ _ _ rfl (HO3.out.alloc _) ⟨w3.heap.size, 0, none⟩ 1 1 [.string (str (fillX env (str x).data.toList))] rfl rfl ?c1 ?c2 ?c3 ?c4 ?c5 ?_)
        case c1 =>
          intro j u hj
          match j, hj with
          | 0, hj =>
            simp at hj
            subst hj
            simp [Addr.add]
        case c2 => intro u hu; simp at hu; subst hu; rfl
        case c3 => unfold maxLen; omega
        case c4 => omega
        case c5 => simp; omega
        intro v' w4 hown' hgrow _
        have HO4 : Hid (w4.ownsRow w1.heap.size 9 1 v' (varsX env (l.take (k + 1))).length (wcells (varsX env (l.take (k + 1))))) := by
          rw [HX.out, HO.out, wcells_app, List.length_append]; exact hown'
        have Hb4 : Hid (Below w1.heap.size w1 w4) := (Hb3.out.alloc hs3 _).grown hgrow (by simp; omega) (fun j hj => (HO3.out.lt j hj).1)
        clear hown' hgrow
        go_wp2_with fail
        go_roundw
        case rel => exact ⟨k + 1, by omega, by go_num, HO4, Hb4⟩
        case measure => simp [intOf]; omega
      · have hwn := whole_ok hw
        have HO := Lib.hid (oneX_whole (env := env) (w := x) hwn)
        have hvl := HV.out x hxm hwn
        rw [HO.out] at HT1
        have hws : (wholeS (str x)).size ≤ 60 := wholeX_size x
        have HEr : Hid (EnvAt wr M env) := HE.out.below hb.out hMl
        clear hx hwn
        go_wp2_with fail
        refine (wholeWord_any _ _).mono ?_
        rintro e w2 ⟨rfl, q, rfl⟩
        go_wp2_with (at_lookup; refine wpList_look _ rfl _ _ rfl M env rfl (by exact HEr.out) _ rfl (by unfold maxLen; omega) ?_)
        refine (fields_any (str (valX env (wholeX x))) (by exact hvl) (wr.drewN q)).mono ?_
        rintro e w3 ⟨A3, rfl, hr3, hb3⟩
        have hb3' : Below wr.heap.size wr w3 := below_drewL hb3
        have hown3 : w3.ownsRow w1.heap.size 9 1 u6 (varsX env (l.take k)).length (wcells (varsX env (l.take k))) := hown.out.kept ⟨hb3.os, hb3.tape, hb3.output, hb3.size, fun j hj _ => hb3.block j hj⟩ (Classical.em _)
        have HO3 := Lib.hid hown3
        have HR3 := Lib.hid hr3
        have Hb3 : Hid (Below w1.heap.size w1 w3) := below_more hb.out hbs hb3'
        have hs3 : w1.heap.size ≤ w3.heap.size := Hb3.out.size
        clear hb3 hb3' hown3 hr3
        go_wp2_with (at_builtin; refine wpList_append_texts (by rfl) _ _ rfl rfl w1.heap.size i0 hi hz0 hz1 hz2 _ _ _ rfl HO3.out _ _ _ _ _ rfl HR3.out (by exact HT1) hs3 ?_)
        intro v' w4 hown' hgrow
        have HO4 : Hid (w4.ownsRow w1.heap.size 9 1 v' (varsX env (l.take (k + 1))).length (wcells (varsX env (l.take (k + 1))))) := by
          rw [HX.out, HO.out, List.length_append]; exact hown'
        have Hb4 : Hid (Below w1.heap.size w1 w4) := Hb3.out.grown hgrow hs3 (fun j hj => (HO3.out.lt j hj).1)
        clear hown' hgrow
        go_wp2_with fail
        go_roundw
        case rel => exact ⟨k + 1, by omega, by go_num, HO4, Hb4⟩
        case measure => simp [intOf]; omega
    · obtain rfl : k = n := by omega
      have hall : l.take k = l := List.take_of_length_le (by rw [HR.out.1]; exact Nat.le_refl _)
      have HOa : Hid (wr.ownsRow w1.heap.size 9 1 u6 (varsX env l).length (wcells (varsX env l))) := by have := hown.out; rwa [hall] at this
      have hTl := HT.out k
      rw [hall] at hTl
      clear hall
      obtain ⟨vA, vn, vc, rfl⟩ : ∃ vA vn vc, u6 = .slice vA vn vc := by
        rcases HOa.out.2 with ⟨h, _⟩ | ⟨g, cap, _, h, _⟩
        · exact ⟨_, _, _, h⟩
        · exact ⟨_, _, _, h⟩
      go_wp2_with fail
      go_ret
      obtain ⟨r1, r2, r3⟩ := rowAt_of_own HOa.out (by unfold maxLen; omega)
      subst r1
      exact ⟨vA, _, vc, rfl, r2, r3, more HB1.out hb.out⟩
end Go.Proofs.Ytjoedgkmpklhfaa
