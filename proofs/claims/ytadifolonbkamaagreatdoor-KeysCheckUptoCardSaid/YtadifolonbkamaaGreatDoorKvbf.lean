/- The walk of the developers' parsePart. The walk of the developers' May. The walks of hasDay, hasClock and To. The walk o -/
import Derived.Test.YtadifolonbkamaaGreatDoorKvac
import Derived.Test.YtadifolonbkamaaGreatDoorKvbe
import Derived.Test.YtadifolonbkamaaGreatDoorKvap
import Derived.Test.YtadifolonbkamaaGreatDoorKvan
import Derived.Lib.SliceRun
import Derived.Test.YtadifolonbkamaaGreatDoorKvau
import Derived.Test.YtadifolonbkamaaGreatDoorKvao
namespace Go.Proofs.YtadifolonbkamaaGreatDoor.Ca
open Go.RowKit
def dotA (l : List UInt8) : List UInt8 := match cutDots l with
  | some z => z.1
  | none => l
def dotB (l : List UInt8) : List UInt8 := match cutDots l with
  | some z => z.2
  | none => []
def dotOk (l : List UInt8) : Bool := (cutDots l).isSome
theorem cutByte_any (c : UInt8) (s : ByteArray) (hs : s.size ≤ 4194304) (m : Int) (w : World) (hm : w.cell? ⟨6, 0, none⟩ = some (.int .i64 m)) :
    Calls Tryz.prog 112 #[.string s, .string ⟨#[c]⟩] w fun e w' => e = .returned (.tuple #[.string (str (cut1 c s.data.toList).1), .string (str (cut1 c s.data.toList).2.1), .bool (cut1 c s.data.toList).2.2]) ∧ ∃ n, w' = w.drewN n := by
  refine (Tryz.strings_Cut s ⟨#[c]⟩ m w (by omega) hm).mono ?_
  rintro e w' ⟨rfl, n, rfl⟩
  refine ⟨?_, n, rfl⟩
  rw [← cut_cut1]; rfl
theorem cutDots_any (s : ByteArray) (hs : s.size ≤ 4194304) (m : Int) (w : World) (hm : w.cell? ⟨6, 0, none⟩ = some (.int .i64 m)) :
    Calls Tryz.prog 112 #[.string s, .string ⟨#[46, 46]⟩] w fun e w' => e = .returned (.tuple #[.string (str (dotA s.data.toList)), .string (str (dotB s.data.toList)), .bool (dotOk s.data.toList)]) ∧ ∃ n, w' = w.drewN n := by
  refine (Tryz.strings_Cut s ⟨#[46, 46]⟩ m w (by omega) hm).mono ?_
  rintro e w' ⟨rfl, n, rfl⟩
  refine ⟨?_, n, rfl⟩
  have e1 : Lib.cut s.data.toList (ByteArray.mk #[46, 46]).data.toList = (dotA s.data.toList, dotB s.data.toList, dotOk s.data.toList) := by
    have := cut_dots s.data.toList
    unfold dotA dotB dotOk
    cases h : cutDots s.data.toList with
    | none => rw [h] at this; exact this
    | some z => rw [h] at this; exact this
  rw [e1]; rfl
def PartPost (l : List UInt8) (w : World) (e : Ending) (w' : World) : Prop :=
  ∃ p : Pt, e = .returned (.tuple #[.agg #[.int .i64 p.a, .int .i64 p.b, .int .i64 p.s], .bool (partD l).isSome]) ∧ (∀ q, partD l = some q → p = q) ∧ Below w.heap.size w w'
theorem bs0 {a w : World} {o : Nat} {u : Value} (h : Below a.heap.size a w) : Below a.heap.size a (w.setCell ⟨a.heap.size, o, none⟩ u) := h.setCell (p := ⟨a.heap.size, o, none⟩) (Nat.le_refl _) u
theorem bs1 {a w : World} {o : Nat} {u : Value} (h : Below a.heap.size a w) : Below a.heap.size a (w.setCell ⟨a.heap.size + 1, o, none⟩ u) := h.setCell (p := ⟨a.heap.size + 1, o, none⟩) (Nat.le_add_right _ _) u
theorem PB {B : Nat} {a w : World} (n : Nat) (h : Below B a w) : Below B a (w.drewN n) := below_drewN h n
set_option maxHeartbeats 8000000 in
set_option maxRecDepth 100000 in
theorem parsePart_any (s : ByteArray) (hs : s.size ≤ 4194304) (w : World) (ht : TabM w) :
    Calls Tryz.prog 150 #[.string s] w (PartPost s.data.toList w) := by
  obtain ⟨M, hm⟩ := ht.ml
  have HMX : Hid (∀ W, Below w.heap.size w W → W.cell? ⟨6, 0, none⟩ = some (.int .i64 M)) := fun W hb => (hb.cell (p := ⟨6, 0, none⟩) (World.block_lt_of_cell? w _ hm)).trans hm
  have HPD : Hid (partD s.data.toList = if (cut1 47 s.data.toList).2.2 = true then (match numL (cut1 47 s.data.toList).2.1 with
    | some k => if k = 0 then none else bodyP (cut1 47 s.data.toList).1 k
    | none => none) else bodyP (cut1 47 s.data.toList).1 0) := rfl
  have HTL : Hid ((cut1 47 s.data.toList).1.length ≤ 4194304) := by
    have hsz := size_list s
    rcases h : (cut1 47 s.data.toList).2.2 with _ | _
    · have := (cut1_no h).2; show _ ≤ _; rw [this]; omega
    · have := congrArg List.length (cut1_yes h).2; rw [List.length_append] at this; show _ ≤ _; omega
  have HVL : Hid ((cut1 47 s.data.toList).2.2 = true → (cut1 47 s.data.toList).2.1.length ≤ 4194304) := by
    intro h
    have hsz := size_list s
    have := congrArg List.length (cut1_yes h).2
    rw [List.length_append, List.length_cons] at this; omega
  have HCUT := Lib.hid (fun W hm => cutByte_any 47 s hs M W hm)
  clear ht hm hs
  generalize s.data.toList = l at *
  go_enter Tryz.func150, Tryz.ntmps150
  go_wp2_with fail
  refine (HCUT.out _ (HMX.out _ (((Below.refl _ _).alloc (Nat.le_refl _) _).alloc (by simp) _))).mono ?_
  rintro e w1 ⟨rfl, n1, rfl⟩
  generalize (cut1 47 l).1 = T at *
  generalize (cut1 47 l).2.1 = V at *
  generalize (cut1 47 l).2.2 = has at *
  have hTL := HTL.out
  rcases has with _ | _
  · have HPB : Hid (partD l = bodyP T 0) := HPD.out
    have HMD : Hid (∀ W, Below w.heap.size w W → Calls Tryz.prog 112 #[.string (str T), .string ⟨#[46, 46]⟩] W fun e w' => e = .returned (.tuple #[.string (str (dotA T)), .string (str (dotB T)), .bool (dotOk T)]) ∧ ∃ n, w' = W.drewN n) := fun W hb => cutDots_any (str T) (by rw [str_size]; exact HTL.out) M W (HMX.out W hb)
    by_cases hst : T = [42]
    · have hst' : ((str T).toList == [42]) = true := by rw [Lib.toList_data, str_list, hst]; rfl
      have HR : Hid (partD l = some ⟨-1, -1, 0⟩) := by show _ = _; rw [HPB.out]; unfold bodyP; rw [if_pos hst]
      clear hst
      go_wp2_with fail
      refine bodyPost_ret (v := .tuple #[.agg #[.int .i64 (-1), .int .i64 (-1), .int .i64 0], .bool true]) (by simp [results, Tryz.results150, go_sem]) rfl ⟨⟨(-1), (-1), 0⟩, by rw [HR.out]; rfl, by rw [HR.out]; exact fun q hq => Option.some.inj hq, ?_⟩
      ((repeat (first | (with_reducible refine bs0 ?_) | (with_reducible refine bs1 ?_) | (with_reducible refine PB _ ?_))); exact (((Below.refl _ _).alloc (Nat.le_refl _) _).alloc (by simp) _))
    have hst' : ((str T).toList == [42]) = false := by rw [Lib.toList_data, str_list]; simpa using hst
    have HST := Lib.hid hst
    clear hst
    have u7 : (0 : Nat) ≤ 7 := Nat.zero_le _
    go_wp2_with fail
    refine (HMD.out _ ?_).mono ?_
    · ((repeat (first | (with_reducible refine bs0 ?_) | (with_reducible refine bs1 ?_) | (with_reducible refine PB _ ?_))); exact (((Below.refl _ _).alloc (Nat.le_refl _) _).alloc (by simp) _))
    rintro e w8 ⟨rfl, n8, rfl⟩
    rcases hcd : cutDots T with _ | ⟨x, z⟩
    · have HA : Hid (dotA T = T ∧ dotOk T = false) := by show _ ∧ _; unfold dotA dotOk; rw [hcd]; exact ⟨rfl, rfl⟩
      have HBP : Hid (partD l = match numL T with | some i => some ⟨i, -1, 0⟩ | none => none) := by show _ = _; rw [HPB.out]; unfold bodyP; rw [if_neg HST.out, hcd]; cases numL T <;> rfl
      clear hcd
      rw [HA.out.1, HA.out.2]
      go_wp2_with fail
      refine (parseNumber_any (str T) (by rw [str_size]; omega) _).mono ?_
      rintro e w9 ⟨rfl, rfl⟩
      rw [str_list]
      cases hnT : numL T with
      | none =>
        have HNN := Lib.hid (numD_no hnT)
        have HR : Hid (partD l = none) := by show _ = _; rw [HBP.out, hnT]
        clear hnT
        rw [HNN.out.1, HNN.out.2]
        go_wp2_with fail
        refine bodyPost_ret (v := .tuple #[.agg #[.int .i64 0, .int .i64 0, .int .i64 0], .bool false]) (by simp [results, Tryz.results150, go_sem]) rfl ⟨⟨0, 0, 0⟩, by rw [HR.out]; rfl, by rw [HR.out]; exact fun q hq => (by cases hq), ?_⟩
        ((repeat (first | (with_reducible refine bs0 ?_) | (with_reducible refine bs1 ?_) | (with_reducible refine PB _ ?_))); exact (((Below.refl _ _).alloc (Nat.le_refl _) _).alloc (by simp) _))
      | some i =>
        have HNN := Lib.hid (numD_yes hnT)
        have HR : Hid (partD l = some ⟨i, -1, 0⟩) := by show _ = _; rw [HBP.out, hnT]
        clear hnT
        rw [HNN.out.1, HNN.out.2]
        go_wp2_with fail
        refine bodyPost_ret (v := .tuple #[.agg #[.int .i64 i, .int .i64 (-1), .int .i64 0], .bool true]) (by simp [results, Tryz.results150, go_sem]) rfl ⟨⟨i, (-1), 0⟩, by rw [HR.out]; rfl, by rw [HR.out]; exact fun q hq => Option.some.inj hq, ?_⟩
        ((repeat (first | (with_reducible refine bs0 ?_) | (with_reducible refine bs1 ?_) | (with_reducible refine PB _ ?_))); exact (((Below.refl _ _).alloc (Nat.le_refl _) _).alloc (by simp) _))
    · have HA : Hid (dotA T = x ∧ dotOk T = true ∧ dotB T = z) := by show _ ∧ _; unfold dotA dotOk dotB; rw [hcd]; exact ⟨rfl, rfl, rfl⟩
      have HBP : Hid (partD l = match numL x, numL z with | some i, some j => some ⟨i, j, 0⟩ | _, _ => none) := by show _ = _; rw [HPB.out]; unfold bodyP; rw [if_neg HST.out, hcd]; first | rfl | (cases numL x <;> cases numL z <;> rfl)
      have HXZ : Hid (x.length ≤ 4194304 ∧ z.length ≤ 4194304) := by
        have e := congrArg List.length (cut_spec' hcd)
        rw [List.length_append, List.length_cons, List.length_cons] at e
        have := HTL.out
        show _ ∧ _
        omega
      clear hcd
      rw [HA.out.1, HA.out.2.1, HA.out.2.2]
      go_wp2_with fail
      refine (parseNumber_any (str x) (by rw [str_size]; exact HXZ.out.1) _).mono ?_
      rintro e w9 ⟨rfl, rfl⟩
      rw [str_list]
      cases hnT : numL x with
      | none =>
        have HNN := Lib.hid (numD_no hnT)
        have HR : Hid (partD l = none) := by show _ = _; rw [HBP.out, hnT]
        clear hnT
        rw [HNN.out.1, HNN.out.2]
        go_wp2_with fail
        refine bodyPost_ret (v := .tuple #[.agg #[.int .i64 0, .int .i64 0, .int .i64 0], .bool false]) (by simp [results, Tryz.results150, go_sem]) rfl ⟨⟨0, 0, 0⟩, by rw [HR.out]; rfl, by rw [HR.out]; exact fun q hq => (by cases hq), ?_⟩
        ((repeat (first | (with_reducible refine bs0 ?_) | (with_reducible refine bs1 ?_) | (with_reducible refine PB _ ?_))); exact (((Below.refl _ _).alloc (Nat.le_refl _) _).alloc (by simp) _))
      | some i =>
        have HNN := Lib.hid (numD_yes hnT)
        have HB2 : Hid (partD l = match numL z with | some j => some ⟨i, j, 0⟩ | none => none) := by show _ = _; rw [HBP.out, hnT]; cases numL z <;> rfl
        clear hnT
        rw [HNN.out.1, HNN.out.2]
        go_wp2_with fail
        refine (parseNumber_any (str z) (by rw [str_size]; exact HXZ.out.2) _).mono ?_
        rintro e w10 ⟨rfl, rfl⟩
        rw [str_list]
        cases hnZ : numL z with
        | none =>
          have HNZ := Lib.hid (numD_no hnZ)
          have HR : Hid (partD l = none) := by show _ = _; rw [HB2.out, hnZ]
          clear hnZ
          rw [HNZ.out.1, HNZ.out.2]
          go_wp2_with fail
          refine bodyPost_ret (v := .tuple #[.agg #[.int .i64 i, .int .i64 0, .int .i64 0], .bool false]) (by simp [results, Tryz.results150, go_sem]) rfl ⟨⟨i, 0, 0⟩, by rw [HR.out]; rfl, by rw [HR.out]; exact fun q hq => (by cases hq), ?_⟩
          ((repeat (first | (with_reducible refine bs0 ?_) | (with_reducible refine bs1 ?_) | (with_reducible refine PB _ ?_))); exact (((Below.refl _ _).alloc (Nat.le_refl _) _).alloc (by simp) _))
        | some j =>
          have HNZ := Lib.hid (numD_yes hnZ)
          have HR : Hid (partD l = some ⟨i, j, 0⟩) := by show _ = _; rw [HB2.out, hnZ]
          clear hnZ
          rw [HNZ.out.1, HNZ.out.2]
          go_wp2_with fail
          refine bodyPost_ret (v := .tuple #[.agg #[.int .i64 i, .int .i64 j, .int .i64 0], .bool true]) (by simp [results, Tryz.results150, go_sem]) rfl ⟨⟨i, j, 0⟩, by rw [HR.out]; rfl, by rw [HR.out]; exact fun q hq => Option.some.inj hq, ?_⟩
          ((repeat (first | (with_reducible refine bs0 ?_) | (with_reducible refine bs1 ?_) | (with_reducible refine PB _ ?_))); exact (((Below.refl _ _).alloc (Nat.le_refl _) _).alloc (by simp) _))
  · go_wp2_with fail
    refine (parseNumber_any (str V) (by rw [str_size]; exact HVL.out (by first | rfl | trivial)) _).mono ?_
    rintro e w2 ⟨rfl, rfl⟩
    rw [str_list]
    cases hnV : numL V with
    | none =>
      have HNN := Lib.hid (numD_no hnV)
      have HR : Hid (partD l = none) := by show _ = _; rw [HPD.out, hnV]; first | rfl | simp
      clear hnV
      rw [HNN.out.1, HNN.out.2]
      go_wp2_with fail
      refine bodyPost_ret (v := .tuple #[.agg #[.int .i64 0, .int .i64 0, .int .i64 0], .bool false]) (by simp [results, Tryz.results150, go_sem]) rfl ⟨⟨0, 0, 0⟩, by rw [HR.out]; rfl, by rw [HR.out]; exact fun q hq => (by cases hq), ?_⟩
      ((repeat (first | (with_reducible refine bs0 ?_) | (with_reducible refine bs1 ?_) | (with_reducible refine PB _ ?_))); exact (((Below.refl _ _).alloc (Nat.le_refl _) _).alloc (by simp) _))
    | some K =>
      have HNN := Lib.hid (numD_yes hnV)
      by_cases hK : K = 0
      · subst hK
        have HR : Hid (partD l = none) := by show _ = _; rw [HPD.out, hnV]; first | rfl | simp
        clear hnV
        rw [HNN.out.1, HNN.out.2]
        go_wp2_with fail
        refine bodyPost_ret (v := .tuple #[.agg #[.int .i64 0, .int .i64 0, .int .i64 0], .bool false]) (by simp [results, Tryz.results150, go_sem]) rfl ⟨⟨0, 0, 0⟩, by rw [HR.out]; rfl, by rw [HR.out]; exact fun q hq => (by cases hq), ?_⟩
        ((repeat (first | (with_reducible refine bs0 ?_) | (with_reducible refine bs1 ?_) | (with_reducible refine PB _ ?_))); exact (((Below.refl _ _).alloc (Nat.le_refl _) _).alloc (by simp) _))
      · have HPB : Hid (partD l = bodyP T K) := by show _ = _; rw [HPD.out, hnV]; simp [hK]
        have hK' : ((K : Int) == 0) = false := by simpa using hK
        clear hnV hK
        rw [HNN.out.1, HNN.out.2]
        have HMD : Hid (∀ W, Below w.heap.size w W → Calls Tryz.prog 112 #[.string (str T), .string ⟨#[46, 46]⟩] W fun e w' => e = .returned (.tuple #[.string (str (dotA T)), .string (str (dotB T)), .bool (dotOk T)]) ∧ ∃ n, w' = W.drewN n) := fun W hb => cutDots_any (str T) (by rw [str_size]; exact HTL.out) M W (HMX.out W hb)
        by_cases hst : T = [42]
        · have hst' : ((str T).toList == [42]) = true := by rw [Lib.toList_data, str_list, hst]; rfl
          have HR : Hid (partD l = some ⟨-1, -1, K⟩) := by show _ = _; rw [HPB.out]; unfold bodyP; rw [if_pos hst]
          clear hst
          go_wp2_with fail
          refine bodyPost_ret (v := .tuple #[.agg #[.int .i64 (-1), .int .i64 (-1), .int .i64 K], .bool true]) (by simp [results, Tryz.results150, go_sem]) rfl ⟨⟨(-1), (-1), K⟩, by rw [HR.out]; rfl, by rw [HR.out]; exact fun q hq => Option.some.inj hq, ?_⟩
          ((repeat (first | (with_reducible refine bs0 ?_) | (with_reducible refine bs1 ?_) | (with_reducible refine PB _ ?_))); exact (((Below.refl _ _).alloc (Nat.le_refl _) _).alloc (by simp) _))
        have hst' : ((str T).toList == [42]) = false := by rw [Lib.toList_data, str_list]; simpa using hst
        have HST := Lib.hid hst
        clear hst
        have u7 : (0 : Nat) ≤ 7 := Nat.zero_le _
        go_wp2_with fail
        refine (HMD.out _ ?_).mono ?_
        · ((repeat (first | (with_reducible refine bs0 ?_) | (with_reducible refine bs1 ?_) | (with_reducible refine PB _ ?_))); exact (((Below.refl _ _).alloc (Nat.le_refl _) _).alloc (by simp) _))
        rintro e w8 ⟨rfl, n8, rfl⟩
        rcases hcd : cutDots T with _ | ⟨x, z⟩
        · have HA : Hid (dotA T = T ∧ dotOk T = false) := by show _ ∧ _; unfold dotA dotOk; rw [hcd]; exact ⟨rfl, rfl⟩
          have HBP : Hid (partD l = match numL T with | some i => some ⟨i, -1, K⟩ | none => none) := by show _ = _; rw [HPB.out]; unfold bodyP; rw [if_neg HST.out, hcd]; cases numL T <;> rfl
          clear hcd
          rw [HA.out.1, HA.out.2]
          go_wp2_with fail
          refine (parseNumber_any (str T) (by rw [str_size]; omega) _).mono ?_
          rintro e w9 ⟨rfl, rfl⟩
          rw [str_list]
          cases hnT : numL T with
          | none =>
            have HNN := Lib.hid (numD_no hnT)
            have HR : Hid (partD l = none) := by show _ = _; rw [HBP.out, hnT]
            clear hnT
            rw [HNN.out.1, HNN.out.2]
            go_wp2_with fail
            refine bodyPost_ret (v := .tuple #[.agg #[.int .i64 0, .int .i64 0, .int .i64 0], .bool false]) (by simp [results, Tryz.results150, go_sem]) rfl ⟨⟨0, 0, 0⟩, by rw [HR.out]; rfl, by rw [HR.out]; exact fun q hq => (by cases hq), ?_⟩
            ((repeat (first | (with_reducible refine bs0 ?_) | (with_reducible refine bs1 ?_) | (with_reducible refine PB _ ?_))); exact (((Below.refl _ _).alloc (Nat.le_refl _) _).alloc (by simp) _))
          | some i =>
            have HNN := Lib.hid (numD_yes hnT)
            have HR : Hid (partD l = some ⟨i, -1, K⟩) := by show _ = _; rw [HBP.out, hnT]
            clear hnT
            rw [HNN.out.1, HNN.out.2]
            go_wp2_with fail
            refine bodyPost_ret (v := .tuple #[.agg #[.int .i64 i, .int .i64 (-1), .int .i64 K], .bool true]) (by simp [results, Tryz.results150, go_sem]) rfl ⟨⟨i, (-1), K⟩, by rw [HR.out]; rfl, by rw [HR.out]; exact fun q hq => Option.some.inj hq, ?_⟩
            ((repeat (first | (with_reducible refine bs0 ?_) | (with_reducible refine bs1 ?_) | (with_reducible refine PB _ ?_))); exact (((Below.refl _ _).alloc (Nat.le_refl _) _).alloc (by simp) _))
        · have HA : Hid (dotA T = x ∧ dotOk T = true ∧ dotB T = z) := by show _ ∧ _; unfold dotA dotOk dotB; rw [hcd]; exact ⟨rfl, rfl, rfl⟩
          have HBP : Hid (partD l = match numL x, numL z with | some i, some j => some ⟨i, j, K⟩ | _, _ => none) := by show _ = _; rw [HPB.out]; unfold bodyP; rw [if_neg HST.out, hcd]; first | rfl | (cases numL x <;> cases numL z <;> rfl)
          have HXZ : Hid (x.length ≤ 4194304 ∧ z.length ≤ 4194304) := by
            have e := congrArg List.length (cut_spec' hcd)
            rw [List.length_append, List.length_cons, List.length_cons] at e
            have := HTL.out
            show _ ∧ _
            omega
          clear hcd
          rw [HA.out.1, HA.out.2.1, HA.out.2.2]
          go_wp2_with fail
          refine (parseNumber_any (str x) (by rw [str_size]; exact HXZ.out.1) _).mono ?_
          rintro e w9 ⟨rfl, rfl⟩
          rw [str_list]
          cases hnT : numL x with
          | none =>
            have HNN := Lib.hid (numD_no hnT)
            have HR : Hid (partD l = none) := by show _ = _; rw [HBP.out, hnT]
            clear hnT
            rw [HNN.out.1, HNN.out.2]
            go_wp2_with fail
            refine bodyPost_ret (v := .tuple #[.agg #[.int .i64 0, .int .i64 0, .int .i64 0], .bool false]) (by simp [results, Tryz.results150, go_sem]) rfl ⟨⟨0, 0, 0⟩, by rw [HR.out]; rfl, by rw [HR.out]; exact fun q hq => (by cases hq), ?_⟩
            ((repeat (first | (with_reducible refine bs0 ?_) | (with_reducible refine bs1 ?_) | (with_reducible refine PB _ ?_))); exact (((Below.refl _ _).alloc (Nat.le_refl _) _).alloc (by simp) _))
          | some i =>
            have HNN := Lib.hid (numD_yes hnT)
            have HB2 : Hid (partD l = match numL z with | some j => some ⟨i, j, K⟩ | none => none) := by show _ = _; rw [HBP.out, hnT]; cases numL z <;> rfl
            clear hnT
            rw [HNN.out.1, HNN.out.2]
            go_wp2_with fail
            refine (parseNumber_any (str z) (by rw [str_size]; exact HXZ.out.2) _).mono ?_
            rintro e w10 ⟨rfl, rfl⟩
            rw [str_list]
            cases hnZ : numL z with
            | none =>
              have HNZ := Lib.hid (numD_no hnZ)
              have HR : Hid (partD l = none) := by show _ = _; rw [HB2.out, hnZ]
              clear hnZ
              rw [HNZ.out.1, HNZ.out.2]
              go_wp2_with fail
              refine bodyPost_ret (v := .tuple #[.agg #[.int .i64 i, .int .i64 0, .int .i64 K], .bool false]) (by simp [results, Tryz.results150, go_sem]) rfl ⟨⟨i, 0, K⟩, by rw [HR.out]; rfl, by rw [HR.out]; exact fun q hq => (by cases hq), ?_⟩
              ((repeat (first | (with_reducible refine bs0 ?_) | (with_reducible refine bs1 ?_) | (with_reducible refine PB _ ?_))); exact (((Below.refl _ _).alloc (Nat.le_refl _) _).alloc (by simp) _))
            | some j =>
              have HNZ := Lib.hid (numD_yes hnZ)
              have HR : Hid (partD l = some ⟨i, j, K⟩) := by show _ = _; rw [HB2.out, hnZ]
              clear hnZ
              rw [HNZ.out.1, HNZ.out.2]
              go_wp2_with fail
              refine bodyPost_ret (v := .tuple #[.agg #[.int .i64 i, .int .i64 j, .int .i64 K], .bool true]) (by simp [results, Tryz.results150, go_sem]) rfl ⟨⟨i, j, K⟩, by rw [HR.out]; rfl, by rw [HR.out]; exact fun q hq => Option.some.inj hq, ?_⟩
              ((repeat (first | (with_reducible refine bs0 ?_) | (with_reducible refine bs1 ?_) | (with_reducible refine PB _ ?_))); exact (((Below.refl _ _).alloc (Nat.le_refl _) _).alloc (by simp) _))
end Go.Proofs.YtadifolonbkamaaGreatDoor.Ca
namespace Go.Proofs.YtadifolonbkamaaGreatDoor.Ca
open Go.RowKit
theorem run_index_six (c : Ch) (f : Nat) (hf : f ≤ 5) (w : World) :
    (Instr.index 126 (.agg c.six) (.int .i64 (f : Int))).run Tryz.prog w = .ok (.slice (c.fsl f).A (c.fsl f).n (c.fsl f).c) w := by
  rcases f_cases hf with rfl | rfl | rfl | rfl | rfl | rfl <;>
  simp [Instr.index, run_underlying Tryz.underlying126, asIntOf, part, isAgg, run_underlying Tryz.underlying61, Ch.six, Ch.fsl]
set_option maxHeartbeats 8000000 in
theorem May_any (c : Ch) (l : Cl) (w : World) (ht : Tabs w) (hc : CalAt w w.heap.size c l) :
    Calls Tryz.prog 79 #[.agg c.cells] w fun e w' => e = .returned (.bool (mayC l)) ∧ Below w.heap.size w w' := by
  have HC := Lib.hid hc
  have HT := Lib.hid ht
  have HS := Lib.hid (mayC_split l)
  have HLi := Lib.hid (fun W => lists_any c W)
  have HIx := Lib.hid (run_index_six c)
  clear hc ht
  generalize c.six = SX at HLi HIx
  obtain ⟨⟨dA, dn, dc⟩, y, m, t, h, i, s⟩ := c
  have HD : Hid (IntsAt w w.heap.size dA dn l.ds) := HC.out.1
  unfold Ch.cells at HLi ⊢
  dsimp only at HLi ⊢
  go_enter Tryz.func79, Tryz.ntmps79
  go_wp2_with fail
  refine (HLi.out _).mono ?_
  rintro e w0 ⟨rfl, hb0⟩
  have HB0 : Hid (Blk w0 w.heap.size 63 #[.slice dA dn dc, .slice y.A y.n y.c, .slice m.A m.n m.c, .slice t.A t.n t.c, .slice h.A h.n h.c, .slice i.A i.n i.c, .slice s.A s.n s.c]) := ((Blk.new w _ _).below hb0 (by simp))
  have Hb0 := Lib.hid (more3 ((Below.refl w.heap.size w).alloc (Nat.le_refl _) _) (by simp) hb0)
  clear hb0
  go_wp2_with fail
  go_loopw [9] (fun x wr => ∃ f : Nat, f ≤ 6 ∧ x = .int .i64 f ∧ Hid (∀ g, g < f → mayF g (l.fld g) = true) ∧ Hid (Blk wr w.heap.size 63 #[.slice dA dn dc, .slice y.A y.n y.c, .slice m.A m.n m.c, .slice t.A t.n t.c, .slice h.A h.n h.c, .slice i.A i.n i.c, .slice s.A s.n s.c]) ∧ Hid (Below w.heap.size w wr)) (fun x wr => (6 - intOf x).toNat)
  case atStart => exact ⟨0, by omega, rfl, fun g hg => absurd hg (by omega), HB0, Hb0⟩
  case round =>
    obtain ⟨f, hf, rfl, hall, hB, hb⟩ := hrel
    by_cases hf6 : f < 6
    · have hf5 : f ≤ 5 := by omega
      have f0 : (0 : Int) ≤ (f : Int) := by omega
      have f6 : (f : Int) < 6 := by omega
      have hix := HIx.out f hf5
      have HP := Lib.hid (HC.out.2 f)
      generalize Ch.fsl ⟨⟨dA, dn, dc⟩, y, m, t, h, i, s⟩ f = S at HP hix
      obtain ⟨A, n, cc⟩ := S
      dsimp only at hix
      have HP : Hid (PtsAt w w.heap.size A n (l.fld f)) := HP
      have hlen := HP.out.1
      have HL := Lib.hid hlen
      clear hlen
      by_cases hs1 : n < 1
      · have HF := Lib.hid (fields_no hf5 (mayF_long (f := f) (.inl (by rw [HL.out]; exact hs1))))
        have hs1' : (n : Int) < 1 := by omega
        go_wp2_with fail
        go_ret
        exact ⟨ret_bool (by rw [HS.out, HF.out]; simp), hb.out⟩
      by_cases hs4 : 4 < n
      · have HF := Lib.hid (fields_no hf5 (mayF_long (f := f) (.inr (by rw [HL.out]; exact hs4))))
        have hs1' : (1 : Int) ≤ n := by omega
        have hs4' : (4 : Int) < n := by omega
        have u1 : (0 : Nat) ≤ 1 := Nat.zero_le _
        clear hs1 hs4
        go_wp2_with fail
        go_ret
        exact ⟨ret_bool (by rw [HS.out, HF.out]; simp), hb.out⟩
      have hs1' : (1 : Int) ≤ n := by omega
      have hs4' : (n : Int) ≤ 4 := by omega
      have hs5' : n ≤ 4 := by omega
      have hs6' : 1 ≤ n := by omega
      have u1 : (0 : Nat) ≤ 1 := Nat.zero_le _
      have u2 : (0 : Nat) ≤ 2 := Nat.zero_le _
      have u3 : (0 : Nat) ≤ 3 := Nat.zero_le _
      clear hs1 hs4
      go_wp2_with fail
      clear hix
      go_loopw [23] (fun x wr => ∃ j : Nat, j ≤ n ∧ x = .int .i64 j ∧ Hid (∀ g, g < j → ∀ p, (l.fld f)[g]? = some p → mayP f p = true) ∧ Hid (Blk wr w.heap.size 63 #[.slice dA dn dc, .slice y.A y.n y.c, .slice m.A m.n m.c, .slice t.A t.n t.c, .slice h.A h.n h.c, .slice i.A i.n i.c, .slice s.A s.n s.c]) ∧ Hid (Below w.heap.size w wr)) (fun x wr => n - (intOf x).toNat)
      case atStart => exact ⟨0, Nat.zero_le _, rfl, fun g hg => absurd hg (by omega), hB, hb⟩
      case round =>
        obtain ⟨j, hj, rfl, hpall, hB2, hb2⟩ := hrel
        by_cases hjn : j < n
        · obtain ⟨ad, p, rfl, hbl, hlk, e0, e1, e2⟩ := (HP.out.below hb2.out).at_ hjn
          have HLK := Lib.hid hlk
          have HTr := Lib.hid (HT.out.below hb2.out)
          obtain ⟨pa, pb, ps⟩ := p
          dsimp only at e0 e1 e2
          have HPc := Lib.hid (fun W => devPart_any ⟨pa, pb, ps⟩ f W)
          dsimp only at HPc
          have hz : w.heap.size < wr.heap.size := hB2.out.lt
          clear hlk
          go_wp2_with fail
          have q0 := (HTr.out.below ((Below.refl _ _).alloc (Nat.le_refl _) (.cells #[.int .i64 pa, .int .i64 pb, .int .i64 ps] 111))).rng0 hf5
          have q1 := (HTr.out.below ((Below.refl _ _).alloc (Nat.le_refl _) (.cells #[.int .i64 pa, .int .i64 pb, .int .i64 ps] 111))).rng1 hf5
          have HB1 := Lib.hid (hB2.out.alloc (.cells #[.int .i64 pa, .int .i64 pb, .int .i64 ps] 111))
          have Hb1 := Lib.hid (hb2.out.alloc hb2.out.size (.cells #[.int .i64 pa, .int .i64 pb, .int .i64 ps] 111))
          have HMP : ∃ mp, Hid (mayP f ⟨pa, pb, ps⟩ = mp) := ⟨_, rfl⟩
          go_region_with ((go_at_call 104; refine (HPc.out _).mono ?_; rintro e w2 ⟨rfl, hb3⟩; have HB3 : Hid (Blk w2 w.heap.size 63 #[.slice dA dn dc, .slice y.A y.n y.c, .slice m.A m.n m.c, .slice t.A t.n t.c, .slice h.A h.n h.c, .slice i.A i.n i.c, .slice s.A s.n s.c]) := (Blk.below (by exact HB1.out) hb3 (by exact HB1.out.lt)); (first | have Hb3 := Lib.hid (more3 Hb1.out Hb1.out.size hb3) | have Hb3 := Lib.hid (more3 Hb1.out.drew Hb1.out.size hb3) | have Hb3 := Lib.hid (more3 Hb1.out.drew.drew Hb1.out.size hb3) | have Hb3 := Lib.hid (more3 Hb1.out.drew.drew.drew Hb1.out.size hb3) | have Hb3 := Lib.hid (more3 (below_drewN Hb1.out _) Hb1.out.size hb3)); clear hb3))
          all_goals
            clear q0 q1
            rcases hmp : mayP f ⟨pa, pb, ps⟩ with _ | _
            · have HF := Lib.hid (fields_no hf5 (mayF_bad HLK.out hmp))
              clear hmp
              go_wp2_with fail
              go_ret
              exact ⟨ret_bool (by rw [HS.out, HF.out]; simp), Hb3.out⟩
            · have HN : Hid (∀ g, g < j + 1 → ∀ p, (l.fld f)[g]? = some p → mayP f p = true) := by
                intro g hg p hp
                by_cases e : g = j
                · rw [e, HLK.out] at hp
                  rw [← Option.some.inj hp]; exact hmp
                · exact hpall.out g (by omega) p hp
              clear hmp
              go_wp2_with fail
              go_roundw
              case rel => exact ⟨j + 1, by omega, by go_num, HN, HB3, Hb3⟩
              case measure => simp [intOf]; omega
        · obtain rfl : j = n := by omega
          have HN : Hid (∀ g, g < f + 1 → mayF g (l.fld g) = true) := by
            intro g hg
            by_cases e : g = f
            · rw [e]
              refine mayF_all (by rw [HL.out]; omega) (by rw [HL.out]; omega) fun j' hj' p hp => hpall.out j' (by rw [HL.out] at hj'; exact hj') p hp
            · exact hall.out g (by omega)
          clear hj hjn
          go_wp2_with fail
          go_roundw
          case rel => exact ⟨f + 1, by omega, by go_num, HN, hB2, hb2⟩
          case measure => simp [intOf]; omega
    · obtain rfl : f = 6 := by omega
      have HF := Lib.hid (fields_yes hall.out)
      obtain ⟨c0, c1, c2, c3, c4, c5, c6⟩ := cells7c hB.out
      have HDr := Lib.hid (HD.out.below hb.out)
      have HDw := Lib.hid (IntsAt.wide HDr.out hb.out.size)
      clear hf hf6
      go_wp2_with fail
      refine (mayDays_any _ _ _ _ _ HDw.out).mono ?_
      rintro e w2 ⟨rfl, rfl⟩
      go_wp2_with fail
      go_ret
      exact ⟨ret_bool (by rw [HS.out, HF.out, Bool.and_true]), hb.out⟩
end Go.Proofs.YtadifolonbkamaaGreatDoor.Ca
namespace Go.Proofs.YtadifolonbkamaaGreatDoor.Ca
open Go.RowKit
end Go.Proofs.YtadifolonbkamaaGreatDoor.Ca
namespace Go.Proofs.YtadifolonbkamaaGreatDoor.Ca
open Go.RowKit
end Go.Proofs.YtadifolonbkamaaGreatDoor.Ca
namespace Go.Proofs.YtadifolonbkamaaGreatDoor.Ca
open Go.RowKit
end Go.Proofs.YtadifolonbkamaaGreatDoor.Ca
namespace Go.Proofs.YtadifolonbkamaaGreatDoor.Ca
open Go.RowKit
end Go.Proofs.YtadifolonbkamaaGreatDoor.Ca
namespace Go.Proofs.YtadifolonbkamaaGreatDoor.Ca
open Go.RowKit
theorem CalAt.at_ {w w' : World} {c : Ch} {l : Cl} (h : CalAt w w.heap.size c l) (hb : Below w.heap.size w w') : CalAt w' w'.heap.size c l :=
  ⟨(h.1.below hb).wide hb.size, fun f => ((h.2 f).below hb).wide hb.size⟩
end Go.Proofs.YtadifolonbkamaaGreatDoor.Ca
namespace Go.Proofs.YtadifolonbkamaaGreatDoor.Ca
open Go.RowKit
def Six.cells (v : Six) : Array Value := #[.int .i64 v.y, .int .i64 v.m, .int .i64 v.d, .int .i64 v.h, .int .i64 v.i, .int .i64 v.s]
theorem Blk.setCell {w : World} {g : Nat} {t : TypeId} {cs : Array Value} (h : Blk w g t cs) (i : Nat) (u : Value) : Blk (w.setCell ⟨g, i, none⟩ u) g t (cs.setIfInBounds i u) := by
  unfold Blk at *
  simp [World.setCell, Array.getElem?_modify, h]
theorem Blk.setOther {w : World} {g : Nat} {t : TypeId} {cs : Array Value} (h : Blk w g t cs) {a : Addr} (ha : g ≠ a.block) (u : Value) : Blk (w.setCell a u) g t cs := by
  unfold Blk at *
  simp [World.setCell, Array.getElem?_modify, Ne.symm ha, h]
theorem Tabs.heap {w w' : World} (h : Tabs w) (e : w'.heap = w.heap) : Tabs w' := by
  obtain ⟨h1, h2, h4⟩ := h
  have hv : ∀ nm, w'.var? Tryz.prog nm = w.var? Tryz.prog nm := fun nm => by unfold World.var?; rw [e]
  exact ⟨by rw [hv]; exact h1, by rw [hv]; exact h2, by unfold P10 Lib.TabIs at *; rw [hv]; exact h4⟩
end Go.Proofs.YtadifolonbkamaaGreatDoor.Ca
namespace Go.Proofs.YtadifolonbkamaaGreatDoor.Ca
open Go.RowKit
set_option maxHeartbeats 2000000 in
theorem short_any (s : ByteArray) (w : World) :
    Calls Tryz.prog 60 #[.string s] w fun e w' => e = .returned (.string (str (shortL s.data.toList))) ∧ w = w' := by
  by_cases h0 : s = str [109, 105, 110, 117, 116, 101, 108, 121]
  · have H := Lib.hid (show shortL s.data.toList = shortL [109, 105, 110, 117, 116, 101, 108, 121] by rw [h0]; rfl)
    have e0 := is_beq h0
    clear h0
    go_enter Tryz.func60, Tryz.ntmps60
    go_wp2_with fail
    go_ret
    exact ⟨ret_str (by rw [H.out]; rfl), rfl⟩
  by_cases h1 : s = str [104, 111, 117, 114, 108, 121]
  · have H := Lib.hid (show shortL s.data.toList = shortL [104, 111, 117, 114, 108, 121] by rw [h1]; rfl)
    have e0 := ne_beq h0
    have e1 := is_beq h1
    clear h0 h1
    go_enter Tryz.func60, Tryz.ntmps60
    go_wp2_with fail
    go_ret
    exact ⟨ret_str (by rw [H.out]; rfl), rfl⟩
  by_cases h2 : s = str [100, 97, 105, 108, 121]
  · have H := Lib.hid (show shortL s.data.toList = shortL [100, 97, 105, 108, 121] by rw [h2]; rfl)
    have e0 := ne_beq h0
    have e1 := ne_beq h1
    have e2 := is_beq h2
    clear h0 h1 h2
    go_enter Tryz.func60, Tryz.ntmps60
    go_wp2_with fail
    go_ret
    exact ⟨ret_str (by rw [H.out]; rfl), rfl⟩
  by_cases h3 : s = str [119, 101, 101, 107, 108, 121]
  · have H := Lib.hid (show shortL s.data.toList = shortL [119, 101, 101, 107, 108, 121] by rw [h3]; rfl)
    have e0 := ne_beq h0
    have e1 := ne_beq h1
    have e2 := ne_beq h2
    have e3 := is_beq h3
    clear h0 h1 h2 h3
    go_enter Tryz.func60, Tryz.ntmps60
    go_wp2_with fail
    go_ret
    exact ⟨ret_str (by rw [H.out]; rfl), rfl⟩
  by_cases h4 : s = str [109, 111, 110, 116, 104, 108, 121]
  · have H := Lib.hid (show shortL s.data.toList = shortL [109, 111, 110, 116, 104, 108, 121] by rw [h4]; rfl)
    have e0 := ne_beq h0
    have e1 := ne_beq h1
    have e2 := ne_beq h2
    have e3 := ne_beq h3
    have e4 := is_beq h4
    clear h0 h1 h2 h3 h4
    go_enter Tryz.func60, Tryz.ntmps60
    go_wp2_with fail
    go_ret
    exact ⟨ret_str (by rw [H.out]; rfl), rfl⟩
  by_cases h5 : s = str [121, 101, 97, 114, 108, 121]
  · have H := Lib.hid (show shortL s.data.toList = shortL [121, 101, 97, 114, 108, 121] by rw [h5]; rfl)
    have e0 := ne_beq h0
    have e1 := ne_beq h1
    have e2 := ne_beq h2
    have e3 := ne_beq h3
    have e4 := ne_beq h4
    have e5 := is_beq h5
    clear h0 h1 h2 h3 h4 h5
    go_enter Tryz.func60, Tryz.ntmps60
    go_wp2_with fail
    go_ret
    exact ⟨ret_str (by rw [H.out]; rfl), rfl⟩
  have H : Hid (shortL s.data.toList = s.data.toList) := by
    show _ = _
    unfold shortL
    rw [if_neg (fun e => h0 (eq_str.2 e))]
    rw [if_neg (fun e => h1 (eq_str.2 e))]
    rw [if_neg (fun e => h2 (eq_str.2 e))]
    rw [if_neg (fun e => h3 (eq_str.2 e))]
    rw [if_neg (fun e => h4 (eq_str.2 e))]
    rw [if_neg (fun e => h5 (eq_str.2 e))]
  have e0 := ne_beq h0
  have e1 := ne_beq h1
  have e2 := ne_beq h2
  have e3 := ne_beq h3
  have e4 := ne_beq h4
  have e5 := ne_beq h5
  clear h0 h1 h2 h3 h4 h5
  go_enter Tryz.func60, Tryz.ntmps60
  go_wp2_with fail
  go_ret
  exact ⟨ret_str (by rw [H.out, str_data]), rfl⟩
end Go.Proofs.YtadifolonbkamaaGreatDoor.Ca
