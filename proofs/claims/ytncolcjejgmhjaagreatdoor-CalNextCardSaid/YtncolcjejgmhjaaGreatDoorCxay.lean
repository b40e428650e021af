/- The walk of the developers' parsePart. -/
import Derived.Test.YtncolcjejgmhjaaGreatDoorCxax
import Derived.Test.YtncolcjejgmhjaaGreatDoorCxaw
namespace Go.Proofs.YtncolcjejgmhjaaGreatDoor
open Go.RowKit
def dotA (l : List UInt8) : List UInt8 := match cutDots l with
  | some z => z.1
  | none => l
def dotB (l : List UInt8) : List UInt8 := match cutDots l with
  | some z => z.2
  | none => []
def dotOk (l : List UInt8) : Bool := (cutDots l).isSome
theorem cutByte_any (c : UInt8) (s : ByteArray) (hs : s.size ≤ 4194304) (m : Int) (w : World) (hm : w.cell? ⟨3, 0, none⟩ = some (.int .i64 m)) :
    Calls Tryz.prog 61 #[.string s, .string ⟨#[c]⟩] w fun e w' => e = .returned (.tuple #[.string (str (cut1 c s.data.toList).1), .string (str (cut1 c s.data.toList).2.1), .bool (cut1 c s.data.toList).2.2]) ∧ ∃ n, w' = w.drewN n := by
  refine (Tryz.strings_Cut s ⟨#[c]⟩ m w (by omega) hm).mono ?_
  rintro e w' ⟨rfl, n, rfl⟩
  refine ⟨?_, n, rfl⟩
  rw [← cut_cut1]; rfl
theorem cutDots_any (s : ByteArray) (hs : s.size ≤ 4194304) (m : Int) (w : World) (hm : w.cell? ⟨3, 0, none⟩ = some (.int .i64 m)) :
    Calls Tryz.prog 61 #[.string s, .string ⟨#[46, 46]⟩] w fun e w' => e = .returned (.tuple #[.string (str (dotA s.data.toList)), .string (str (dotB s.data.toList)), .bool (dotOk s.data.toList)]) ∧ ∃ n, w' = w.drewN n := by
  refine (Tryz.strings_Cut s ⟨#[46, 46]⟩ m w (by omega) hm).mono ?_
  rintro e w' ⟨rfl, n, rfl⟩
  refine ⟨?_, n, rfl⟩
  have e1 : Lib.cut s.data.toList (ByteArray.mk #[46, 46]).data.toList = (dotA s.data.toList, dotB s.data.toList, dotOk s.data.toList) := by
    have := cut_dots s.data.toList
    unfold dotA dotB dotOk
    cases h : cutDots s.data.toList with
    | none => rw [h] at this; exact this
    | some z => rw [h] at this; exact this
  rw [e1]; rfl
def PartPost (l : List UInt8) (w : World) (e : Ending) (w' : World) : Prop :=
  ∃ p : Pt, e = .returned (.tuple #[.agg #[.int .i64 p.a, .int .i64 p.b, .int .i64 p.s], .bool (partD l).isSome]) ∧ (∀ q, partD l = some q → p = q) ∧ Below w.heap.size w w'
theorem bs0 {a w : World} {o : Nat} {u : Value} (h : Below a.heap.size a w) : Below a.heap.size a (w.setCell ⟨a.heap.size, o, none⟩ u) := h.setCell (p := ⟨a.heap.size, o, none⟩) (Nat.le_refl _) u
theorem bs1 {a w : World} {o : Nat} {u : Value} (h : Below a.heap.size a w) : Below a.heap.size a (w.setCell ⟨a.heap.size + 1, o, none⟩ u) := h.setCell (p := ⟨a.heap.size + 1, o, none⟩) (Nat.le_add_right _ _) u
theorem PB {B : Nat} {a w : World} (n : Nat) (h : Below B a w) : Below B a (w.drewN n) := below_drewN h n
set_option maxHeartbeats 8000000 in
set_option maxRecDepth 100000 in
theorem parsePart_any (s : ByteArray) (hs : s.size ≤ 4194304) (w : World) (ht : TabM w) :
    Calls Tryz.prog 78 #[.string s] w (PartPost s.data.toList w) := by
  obtain ⟨M, hm⟩ := ht.ml
  have HMX : Hid (∀ W, Below w.heap.size w W → W.cell? ⟨3, 0, none⟩ = some (.int .i64 M)) := fun W hb => (hb.cell (p := ⟨3, 0, none⟩) (World.block_lt_of_cell? w _ hm)).trans hm
  have HPD : Hid (partD s.data.toList = if (cut1 47 s.data.toList).2.2 = true then (match numL (cut1 47 s.data.toList).2.1 with
    | some k => if k = 0 then none else bodyP (cut1 47 s.data.toList).1 k
    | none => none) else bodyP (cut1 47 s.data.toList).1 0) := rfl
  have HTL : Hid ((cut1 47 s.data.toList).1.length ≤ 4194304) := by
    have hsz := size_list s
    rcases h : (cut1 47 s.data.toList).2.2 with _ | _
    · have := (cut1_no h).2; show _ ≤ _; rw [this]; omega
    · have := congrArg List.length (cut1_yes h).2; rw [List.length_append] at this; show _ ≤ _; omega
  have HVL : Hid ((cut1 47 s.data.toList).2.2 = true → (cut1 47 s.data.toList).2.1.length ≤ 4194304) := by
    intro h
    have hsz := size_list s
    have := congrArg List.length (cut1_yes h).2
    rw [List.length_append, List.length_cons] at this; omega
  have HCUT := Lib.hid (fun W hm => cutByte_any 47 s hs M W hm)
  clear ht hm hs
  generalize s.data.toList = l at *
  go_enter Tryz.func78, Tryz.ntmps78
  go_wp2_with fail
  refine (HCUT.out _ (HMX.out _ (((Below.refl _ _).alloc (Nat.le_refl _) _).alloc (by simp) _))).mono ?_
  rintro e w1 ⟨rfl, n1, rfl⟩
  generalize (cut1 47 l).1 = T at *
  generalize (cut1 47 l).2.1 = V at *
  generalize (cut1 47 l).2.2 = has at *
  have hTL := HTL.out
  rcases has with _ | _
  · have HPB : Hid (partD l = bodyP T 0) := HPD.out
    have HMD : Hid (∀ W, Below w.heap.size w W → Calls Tryz.prog 61 #[.string (str T), .string ⟨#[46, 46]⟩] W fun e w' => e = .returned (.tuple #[.string (str (dotA T)), .string (str (dotB T)), .bool (dotOk T)]) ∧ ∃ n, w' = W.drewN n) := fun W hb => cutDots_any (str T) (by rw [str_size]; exact HTL.out) M W (HMX.out W hb)
    by_cases hst : T = [42]
    · have hst' : ((str T).toList == [42]) = true := by rw [Lib.toList_data, str_list, hst]; rfl
      have HR : Hid (partD l = some ⟨-1, -1, 0⟩) := by show _ = _; rw [HPB.out]; unfold bodyP; rw [if_pos hst]
      clear hst
      go_wp2_with fail
      refine bodyPost_ret (v := .tuple #[.agg #[.int .i64 (-1), .int .i64 (-1), .int .i64 0], .bool true]) (by simp [results, Tryz.results78, go_sem]) rfl ⟨⟨(-1), (-1), 0⟩, by rw [HR.out]; rfl, by rw [HR.out]; exact fun q hq => Option.some.inj hq, ?_⟩
      ((repeat (first | (with_reducible refine bs0 ?_) | (with_reducible refine bs1 ?_) | (with_reducible refine PB _ ?_))); exact (((Below.refl _ _).alloc (Nat.le_refl _) _).alloc (by simp) _))
    have hst' : ((str T).toList == [42]) = false := by rw [Lib.toList_data, str_list]; simpa using hst
    have HST := Lib.hid hst
    clear hst
    have u7 : (0 : Nat) ≤ 7 := Nat.zero_le _
    go_wp2_with fail
    refine (HMD.out _ ?_).mono ?_
    · ((repeat (first | (with_reducible refine bs0 ?_) | (with_reducible refine bs1 ?_) | (with_reducible refine PB _ ?_))); exact (((Below.refl _ _).alloc (Nat.le_refl _) _).alloc (by simp) _))
    rintro e w8 ⟨rfl, n8, rfl⟩
    rcases hcd : cutDots T with _ | ⟨x, z⟩
    · have HA : Hid (dotA T = T ∧ dotOk T = false) := by show _ ∧ _; unfold dotA dotOk; rw [hcd]; exact ⟨rfl, rfl⟩
      have HBP : Hid (partD l = match numL T with | some i => some ⟨i, -1, 0⟩ | none => none) := by show _ = _; rw [HPB.out]; unfold bodyP; rw [if_neg HST.out, hcd]; cases numL T <;> rfl
      clear hcd
      rw [HA.out.1, HA.out.2]
      go_wp2_with fail
      refine (parseNumber_any (str T) (by rw [str_size]; omega) _).mono ?_
      rintro e w9 ⟨rfl, rfl⟩
      rw [str_list]
      cases hnT : numL T with
      | none =>
        have HNN := Lib.hid (numD_no hnT)
        have HR : Hid (partD l = none) := by show _ = _; rw [HBP.out, hnT]
        clear hnT
        rw [HNN.out.1, HNN.out.2]
        go_wp2_with fail
        refine bodyPost_ret (v := .tuple #[.agg #[.int .i64 0, .int .i64 0, .int .i64 0], .bool false]) (by simp [results, Tryz.results78, go_sem]) rfl ⟨⟨0, 0, 0⟩, by rw [HR.out]; rfl, by rw [HR.out]; exact fun q hq => (by cases hq), ?_⟩
        ((repeat (first | (with_reducible refine bs0 ?_) | (with_reducible refine bs1 ?_) | (with_reducible refine PB _ ?_))); exact (((Below.refl _ _).alloc (Nat.le_refl _) _).alloc (by simp) _))
      | some i =>
        have HNN := Lib.hid (numD_yes hnT)
        have HR : Hid (partD l = some ⟨i, -1, 0⟩) := by show _ = _; rw [HBP.out, hnT]
        clear hnT
        rw [HNN.out.1, HNN.out.2]
        go_wp2_with fail
        refine bodyPost_ret (v := .tuple #[.agg #[.int .i64 i, .int .i64 (-1), .int .i64 0], .bool true]) (by simp [results, Tryz.results78, go_sem]) rfl ⟨⟨i, (-1), 0⟩, by rw [HR.out]; rfl, by rw [HR.out]; exact fun q hq => Option.some.inj hq, ?_⟩
        ((repeat (first | (with_reducible refine bs0 ?_) | (with_reducible refine bs1 ?_) | (with_reducible refine PB _ ?_))); exact (((Below.refl _ _).alloc (Nat.le_refl _) _).alloc (by simp) _))
    · have HA : Hid (dotA T = x ∧ dotOk T = true ∧ dotB T = z) := by show _ ∧ _; unfold dotA dotOk dotB; rw [hcd]; exact ⟨rfl, rfl, rfl⟩
      have HBP : Hid (partD l = match numL x, numL z with | some i, some j => some ⟨i, j, 0⟩ | _, _ => none) := by show _ = _; rw [HPB.out]; unfold bodyP; rw [if_neg HST.out, hcd]; first | rfl | (cases numL x <;> cases numL z <;> rfl)
      have HXZ : Hid (x.length ≤ 4194304 ∧ z.length ≤ 4194304) := by
        have e := congrArg List.length (cut_spec' hcd)
        rw [List.length_append, List.length_cons, List.length_cons] at e
        have := HTL.out
        show _ ∧ _
        omega
      clear hcd
      rw [HA.out.1, HA.out.2.1, HA.out.2.2]
      go_wp2_with fail
      refine (parseNumber_any (str x) (by rw [str_size]; exact HXZ.out.1) _).mono ?_
      rintro e w9 ⟨rfl, rfl⟩
      rw [str_list]
      cases hnT : numL x with
      | none =>
        have HNN := Lib.hid (numD_no hnT)
        have HR : Hid (partD l = none) := by show _ = _; rw [HBP.out, hnT]
        clear hnT
        rw [HNN.out.1, HNN.out.2]
        go_wp2_with fail
        refine bodyPost_ret (v := .tuple #[.agg #[.int .i64 0, .int .i64 0, .int .i64 0], .bool false]) (by simp [results, Tryz.results78, go_sem]) rfl ⟨⟨0, 0, 0⟩, by rw [HR.out]; rfl, by rw [HR.out]; exact fun q hq => (by cases hq), ?_⟩
        ((repeat (first | (with_reducible refine bs0 ?_) | (with_reducible refine bs1 ?_) | (with_reducible refine PB _ ?_))); exact (((Below.refl _ _).alloc (Nat.le_refl _) _).alloc (by simp) _))
      | some i =>
        have HNN := Lib.hid (numD_yes hnT)
        have HB2 : Hid (partD l = match numL z with | some j => some ⟨i, j, 0⟩ | none => none) := by show _ = _; rw [HBP.out, hnT]; cases numL z <;> rfl
        clear hnT
        rw [HNN.out.1, HNN.out.2]
        go_wp2_with fail
        refine (parseNumber_any (str z) (by rw [str_size]; exact HXZ.out.2) _).mono ?_
        rintro e w10 ⟨rfl, rfl⟩
        rw [str_list]
        cases hnZ : numL z with
        | none =>
          have HNZ := Lib.hid (numD_no hnZ)
          have HR : Hid (partD l = none) := by show _ = _; rw [HB2.out, hnZ]
          clear hnZ
          rw [HNZ.out.1, HNZ.out.2]
          go_wp2_with fail
          refine bodyPost_ret (v := .tuple #[.agg #[.int .i64 i, .int .i64 0, .int .i64 0], .bool false]) (by simp [results, Tryz.results78, go_sem]) rfl ⟨⟨i, 0, 0⟩, by rw [HR.out]; rfl, by rw [HR.out]; exact fun q hq => (by cases hq), ?_⟩
          ((repeat (first | (with_reducible refine bs0 ?_) | (with_reducible refine bs1 ?_) | (with_reducible refine PB _ ?_))); exact (((Below.refl _ _).alloc (Nat.le_refl _) _).alloc (by simp) _))
        | some j =>
          have HNZ := Lib.hid (numD_yes hnZ)
          have HR : Hid (partD l = some ⟨i, j, 0⟩) := by show _ = _; rw [HB2.out, hnZ]
          clear hnZ
          rw [HNZ.out.1, HNZ.out.2]
          go_wp2_with fail
          refine bodyPost_ret (v := .tuple #[.agg #[.int .i64 i, .int .i64 j, .int .i64 0], .bool true]) (by simp [results, Tryz.results78, go_sem]) rfl ⟨⟨i, j, 0⟩, by rw [HR.out]; rfl, by rw [HR.out]; exact fun q hq => Option.some.inj hq, ?_⟩
          ((repeat (first | (with_reducible refine bs0 ?_) | (with_reducible refine bs1 ?_) | (with_reducible refine PB _ ?_))); exact (((Below.refl _ _).alloc (Nat.le_refl _) _).alloc (by simp) _))
  · go_wp2_with fail
    refine (parseNumber_any (str V) (by rw [str_size]; exact HVL.out (by first | rfl | trivial)) _).mono ?_
    rintro e w2 ⟨rfl, rfl⟩
    rw [str_list]
    cases hnV : numL V with
    | none =>
      have HNN := Lib.hid (numD_no hnV)
      have HR : Hid (partD l = none) := by show _ = _; rw [HPD.out, hnV]; first | rfl | simp
      clear hnV
      rw [HNN.out.1, HNN.out.2]
      go_wp2_with fail
      refine bodyPost_ret (v := .tuple #[.agg #[.int .i64 0, .int .i64 0, .int .i64 0], .bool false]) (by simp [results, Tryz.results78, go_sem]) rfl ⟨⟨0, 0, 0⟩, by rw [HR.out]; rfl, by rw [HR.out]; exact fun q hq => (by cases hq), ?_⟩
      ((repeat (first | (with_reducible refine bs0 ?_) | (with_reducible refine bs1 ?_) | (with_reducible refine PB _ ?_))); exact (((Below.refl _ _).alloc (Nat.le_refl _) _).alloc (by simp) _))
    | some K =>
      have HNN := Lib.hid (numD_yes hnV)
      by_cases hK : K = 0
      · subst hK
        have HR : Hid (partD l = none) := by show _ = _; rw [HPD.out, hnV]; first | rfl | simp
        clear hnV
        rw [HNN.out.1, HNN.out.2]
        go_wp2_with fail
        refine bodyPost_ret (v := .tuple #[.agg #[.int .i64 0, .int .i64 0, .int .i64 0], .bool false]) (by simp [results, Tryz.results78, go_sem]) rfl ⟨⟨0, 0, 0⟩, by rw [HR.out]; rfl, by rw [HR.out]; exact fun q hq => (by cases hq), ?_⟩
        ((repeat (first | (with_reducible refine bs0 ?_) | (with_reducible refine bs1 ?_) | (with_reducible refine PB _ ?_))); exact (((Below.refl _ _).alloc (Nat.le_refl _) _).alloc (by simp) _))
      · have HPB : Hid (partD l = bodyP T K) := by show _ = _; rw [HPD.out, hnV]; simp [hK]
        have hK' : ((K : Int) == 0) = false := by simpa using hK
        clear hnV hK
        rw [HNN.out.1, HNN.out.2]
        have HMD : Hid (∀ W, Below w.heap.size w W → Calls Tryz.prog 61 #[.string (str T), .string ⟨#[46, 46]⟩] W fun e w' => e = .returned (.tuple #[.string (str (dotA T)), .string (str (dotB T)), .bool (dotOk T)]) ∧ ∃ n, w' = W.drewN n) := fun W hb => cutDots_any (str T) (by rw [str_size]; exact HTL.out) M W (HMX.out W hb)
        by_cases hst : T = [42]
        · have hst' : ((str T).toList == [42]) = true := by rw [Lib.toList_data, str_list, hst]; rfl
          have HR : Hid (partD l = some ⟨-1, -1, K⟩) := by show _ = _; rw [HPB.out]; unfold bodyP; rw [if_pos hst]
          clear hst
          go_wp2_with fail
          refine bodyPost_ret (v := .tuple #[.agg #[.int .i64 (-1), .int .i64 (-1), .int .i64 K], .bool true]) (by simp [results, Tryz.results78, go_sem]) rfl ⟨⟨(-1), (-1), K⟩, by rw [HR.out]; rfl, by rw [HR.out]; exact fun q hq => Option.some.inj hq, ?_⟩
          ((repeat (first | (with_reducible refine bs0 ?_) | (with_reducible refine bs1 ?_) | (with_reducible refine PB _ ?_))); exact (((Below.refl _ _).alloc (Nat.le_refl _) _).alloc (by simp) _))
        have hst' : ((str T).toList == [42]) = false := by rw [Lib.toList_data, str_list]; simpa using hst
        have HST := Lib.hid hst
        clear hst
        have u7 : (0 : Nat) ≤ 7 := Nat.zero_le _
        go_wp2_with fail
        refine (HMD.out _ ?_).mono ?_
        · ((repeat (first | (with_reducible refine bs0 ?_) | (with_reducible refine bs1 ?_) | (with_reducible refine PB _ ?_))); exact (((Below.refl _ _).alloc (Nat.le_refl _) _).alloc (by simp) _))
        rintro e w8 ⟨rfl, n8, rfl⟩
        rcases hcd : cutDots T with _ | ⟨x, z⟩
        · have HA : Hid (dotA T = T ∧ dotOk T = false) := by show _ ∧ _; unfold dotA dotOk; rw [hcd]; exact ⟨rfl, rfl⟩
          have HBP : Hid (partD l = match numL T with | some i => some ⟨i, -1, K⟩ | none => none) := by show _ = _; rw [HPB.out]; unfold bodyP; rw [if_neg HST.out, hcd]; cases numL T <;> rfl
          clear hcd
          rw [HA.out.1, HA.out.2]
          go_wp2_with fail
          refine (parseNumber_any (str T) (by rw [str_size]; omega) _).mono ?_
          rintro e w9 ⟨rfl, rfl⟩
          rw [str_list]
          cases hnT : numL T with
          | none =>
            have HNN := Lib.hid (numD_no hnT)
            have HR : Hid (partD l = none) := by show _ = _; rw [HBP.out, hnT]
            clear hnT
            rw [HNN.out.1, HNN.out.2]
            go_wp2_with fail
            refine bodyPost_ret (v := .tuple #[.agg #[.int .i64 0, .int .i64 0, .int .i64 0], .bool false]) (by simp [results, Tryz.results78, go_sem]) rfl ⟨⟨0, 0, 0⟩, by rw [HR.out]; rfl, by rw [HR.out]; exact fun q hq => (by cases hq), ?_⟩
            ((repeat (first | (with_reducible refine bs0 ?_) | (with_reducible refine bs1 ?_) | (with_reducible refine PB _ ?_))); exact (((Below.refl _ _).alloc (Nat.le_refl _) _).alloc (by simp) _))
          | some i =>
            have HNN := Lib.hid (numD_yes hnT)
            have HR : Hid (partD l = some ⟨i, -1, K⟩) := by show _ = _; rw [HBP.out, hnT]
            clear hnT
            rw [HNN.out.1, HNN.out.2]
            go_wp2_with fail
            refine bodyPost_ret (v := .tuple #[.agg #[.int .i64 i, .int .i64 (-1), .int .i64 K], .bool true]) (by simp [results, Tryz.results78, go_sem]) rfl ⟨⟨i, (-1), K⟩, by rw [HR.out]; rfl, by rw [HR.out]; exact fun q hq => Option.some.inj hq, ?_⟩
            ((repeat (first | (with_reducible refine bs0 ?_) | (with_reducible refine bs1 ?_) | (with_reducible refine PB _ ?_))); exact (((Below.refl _ _).alloc (Nat.le_refl _) _).alloc (by simp) _))
        · have HA : Hid (dotA T = x ∧ dotOk T = true ∧ dotB T = z) := by show _ ∧ _; unfold dotA dotOk dotB; rw [hcd]; exact ⟨rfl, rfl, rfl⟩
          have HBP : Hid (partD l = match numL x, numL z with | some i, some j => some ⟨i, j, K⟩ | _, _ => none) := by show _ = _; rw [HPB.out]; unfold bodyP; rw [if_neg HST.out, hcd]; first | rfl | (cases numL x <;> cases numL z <;> rfl)
          have HXZ : Hid (x.length ≤ 4194304 ∧ z.length ≤ 4194304) := by
            have e := congrArg List.length (cut_spec' hcd)
            rw [List.length_append, List.length_cons, List.length_cons] at e
            have := HTL.out
            show _ ∧ _
            omega
          clear hcd
          rw [HA.out.1, HA.out.2.1, HA.out.2.2]
          go_wp2_with fail
          refine (parseNumber_any (str x) (by rw [str_size]; exact HXZ.out.1) _).mono ?_
          rintro e w9 ⟨rfl, rfl⟩
          rw [str_list]
          cases hnT : numL x with
          | none =>
            have HNN := Lib.hid (numD_no hnT)
            have HR : Hid (partD l = none) := by show _ = _; rw [HBP.out, hnT]
            clear hnT
            rw [HNN.out.1, HNN.out.2]
            go_wp2_with fail
            refine bodyPost_ret (v := .tuple #[.agg #[.int .i64 0, .int .i64 0, .int .i64 0], .bool false]) (by simp [results, Tryz.results78, go_sem]) rfl ⟨⟨0, 0, 0⟩, by rw [HR.out]; rfl, by rw [HR.out]; exact fun q hq => (by cases hq), ?_⟩
            ((repeat (first | (with_reducible refine bs0 ?_) | (with_reducible refine bs1 ?_) | (with_reducible refine PB _ ?_))); exact (((Below.refl _ _).alloc (Nat.le_refl _) _).alloc (by simp) _))
          | some i =>
            have HNN := Lib.hid (numD_yes hnT)
            have HB2 : Hid (partD l = match numL z with | some j => some ⟨i, j, K⟩ | none => none) := by show _ = _; rw [HBP.out, hnT]; cases numL z <;> rfl
            clear hnT
            rw [HNN.out.1, HNN.out.2]
            go_wp2_with fail
            refine (parseNumber_any (str z) (by rw [str_size]; exact HXZ.out.2) _).mono ?_
            rintro e w10 ⟨rfl, rfl⟩
            rw [str_list]
            cases hnZ : numL z with
            | none =>
              have HNZ := Lib.hid (numD_no hnZ)
              have HR : Hid (partD l = none) := by show _ = _; rw [HB2.out, hnZ]
              clear hnZ
              rw [HNZ.out.1, HNZ.out.2]
              go_wp2_with fail
              refine bodyPost_ret (v := .tuple #[.agg #[.int .i64 i, .int .i64 0, .int .i64 K], .bool false]) (by simp [results, Tryz.results78, go_sem]) rfl ⟨⟨i, 0, K⟩, by rw [HR.out]; rfl, by rw [HR.out]; exact fun q hq => (by cases hq), ?_⟩
              ((repeat (first | (with_reducible refine bs0 ?_) | (with_reducible refine bs1 ?_) | (with_reducible refine PB _ ?_))); exact (((Below.refl _ _).alloc (Nat.le_refl _) _).alloc (by simp) _))
            | some j =>
              have HNZ := Lib.hid (numD_yes hnZ)
              have HR : Hid (partD l = some ⟨i, j, K⟩) := by show _ = _; rw [HB2.out, hnZ]
              clear hnZ
              rw [HNZ.out.1, HNZ.out.2]
              go_wp2_with fail
              refine bodyPost_ret (v := .tuple #[.agg #[.int .i64 i, .int .i64 j, .int .i64 K], .bool true]) (by simp [results, Tryz.results78, go_sem]) rfl ⟨⟨i, j, K⟩, by rw [HR.out]; rfl, by rw [HR.out]; exact fun q hq => Option.some.inj hq, ?_⟩
              ((repeat (first | (with_reducible refine bs0 ?_) | (with_reducible refine bs1 ?_) | (with_reducible refine PB _ ?_))); exact (((Below.refl _ _).alloc (Nat.le_refl _) _).alloc (by simp) _))
end Go.Proofs.YtncolcjejgmhjaaGreatDoor
