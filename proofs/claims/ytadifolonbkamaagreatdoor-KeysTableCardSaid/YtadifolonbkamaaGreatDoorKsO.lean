/- The walks of the document's Find, and of Same and SameKey at what is alike. -/
import Derived.Test.YtadifolonbkamaaGreatDoorKsN
import Derived.BigQuiet
import Derived.BigRegion
namespace Go.Proofs.YtadifolonbkamaaGreatDoor
open Go.RowKit

theorem find_take {l : List Ky} {p : Ky → Bool} {k : Nat} {x : Ky} (h : (l.take k).find? p = none) (hx : l[k]? = some x) : (p x = true → l.find? p = some x) ∧ (p x = false → (l.take (k + 1)).find? p = none) := by
  have hk : k < l.length := by
    rcases Nat.lt_or_ge k l.length with h' | h'
    · exact h'
    · rw [List.getElem?_eq_none h'] at hx; cases hx
  have he : l[k] = x := by rw [List.getElem?_eq_getElem hk] at hx; exact Option.some.inj hx
  constructor
  · intro e
    conv => lhs; rw [← List.take_append_drop k l]
    rw [List.find?_append, h, List.drop_eq_getElem_cons hk, he, List.find?_cons, e]
    rfl
  · intro e
    rw [List.take_succ_eq_append_getElem hk, he, List.find?_append, h]
    simp [e]
set_option maxHeartbeats 8000000 in
theorem rFind_any (s nm : ByteArray) (w : World) :
    Calls Tryz.prog 14 #[.string s, .string nm] w (NamedP (findT s.data.toList nm.data.toList) w) := by
  rw [← findD_T]
  have HR0 : Hid (Blk (w.alloc (.cells #[.string ⟨#[]⟩, .string ⟨#[]⟩, .int .i64 0, .bool false, .int .i64 0, .slice none 0 0] 28)) w.heap.size 28 (krA noKr)) := Blk.new w _ _
  have HB0 : Hid (Below w.heap.size w (w.alloc (.cells #[.string ⟨#[]⟩, .string ⟨#[]⟩, .int .i64 0, .bool false, .int .i64 0, .slice none 0 0] 28))) := (Below.refl _ w).alloc (Nat.le_refl _) _
  have HFD : Hid (findD s.data.toList nm.data.toList = allT.find? (fun x => decide (x.s = s.data.toList) && decide (x.n = nm.data.toList))) := rfl
  obtain ⟨p, hp⟩ : ∃ p : Ky → Bool, p = fun x => decide (x.s = s.data.toList) && decide (x.n = nm.data.toList) := ⟨_, rfl⟩
  rw [← hp] at HFD
  have HP := Lib.hid hp
  clear hp
  have HN0 : Hid ((allT.take 0).find? p = none) := rfl
  go_enter Tryz.func14, Tryz.ntmps14
  go_wp2_with fail
  generalize w.alloc (.cells #[.string ⟨#[]⟩, .string ⟨#[]⟩, .int .i64 0, .bool false, .int .i64 0, .slice none 0 0] 28) = w0 at *
  refine (Keys_any _).mono ?_
  rintro e1 w1 ⟨v, rfl, hk⟩
  have hb1 := hk.below
  obtain ⟨A, c, rfl, hkeys⟩ := hk.at_ (by decide +kernel)
  have HR1 := Lib.hid (HR0.out.below hb1 HR0.out.lt)
  have HB1 := Lib.hid (more3 HB0.out HB0.out.size hb1)
  have HL := Lib.hid hkeys
  clear hb1 hk hkeys
  have hn : allT.length = 42 := allT_len
  generalize hal : allT = al at *
  generalize al.length = n at *
  subst hn
  go_wp2_with fail
  go_loopw [10] (fun i wr => ∃ k : Nat, k ≤ 42 ∧ i = .int .i64 k ∧ Hid (Below w1.heap.size w1 wr) ∧ Hid (Blk wr w.heap.size 28 (krA noKr)) ∧ Hid (Below w.heap.size w wr) ∧ Hid ((al.take k).find? p = none)) (fun i wr => 42 - (intOf i).toNat)
  case atStart => exact ⟨0, Nat.zero_le _, rfl, Below.refl _ _, HR1, HB1, HN0⟩
  case round =>
    obtain ⟨k, hk, rfl, hb, hR, hB, hN⟩ := hrel
    have hRl : w.heap.size < wr.heap.size := hR.out.lt
    by_cases hlt : k < 42
    · have b0 : (0 : Int) ≤ (k : Int) := by omega
      have b1 : (k : Int) < (42 : Int) := by omega
      obtain ⟨ad, r, x, rfl, hab, hx, hr, q0, q1, q2, q3, q4, q5⟩ := (HL.out.below hb.out).at_ hlt
      have z1 : (ad.add (k * 6)).block < wr.heap.size := by rw [block_addR]; have := hb.out.size; omega
      have HX := Lib.hid hr
      obtain ⟨n1, n2⟩ := find_take hN.out hx
      have hs : ((str r.s).toList == s.toList) = decide (x.s = s.data.toList) := by
        rw [Lib.toList_data, Lib.toList_data, str_list, hr.1, Bool.eq_iff_iff, decide_eq_true_eq, beq_iff_eq]
      have hq : ((str r.n).toList == nm.toList) = decide (x.n = nm.data.toList) := by
        rw [Lib.toList_data, Lib.toList_data, str_list, hr.2.1, Bool.eq_iff_iff, decide_eq_true_eq, beq_iff_eq]
      have hpx : p x = (decide (x.s = s.data.toList) && decide (x.n = nm.data.toList)) := by rw [HP.out]
      clear hr
      rcases hd1 : decide (x.s = s.data.toList) with _ | _
      · rw [hd1] at hs
        have HF := Lib.hid (n2 (by rw [hpx, hd1]; rfl))
        clear n1 n2 hx hpx hd1 hq HX
        go_wp2_with fail
        go_roundw
        case rel => exact ⟨k + 1, by omega, by go_num, hb.out.alloc hb.out.size _, hR.out.alloc _, hB.out.alloc hB.out.size _, HF⟩
        case measure => simp [intOf]; omega
      · rw [hd1] at hs
        rcases hd2 : decide (x.n = nm.data.toList) with _ | _
        · rw [hd2] at hq
          have HF := Lib.hid (n2 (by rw [hpx, hd1, hd2]; rfl))
          clear n1 n2 hx hpx hd1 hd2 HX
          go_wp2_with fail
          go_roundw
          case rel => exact ⟨k + 1, by omega, by go_num, hb.out.alloc hb.out.size _, hR.out.alloc _, hB.out.alloc hB.out.size _, HF⟩
          case measure => simp [intOf]; omega
        · rw [hd2] at hq
          have HF : Hid (findD s.data.toList nm.data.toList = some x) := by show _ = _; rw [HFD.out]; exact n1 (by rw [hpx, hd1, hd2]; rfl)
          clear n1 n2 hx hpx hd1 hd2
          have HR1 : Hid (Blk (wr.alloc (.cells #[.string (str r.s), .string (str r.n), .int .i64 r.f, .bool r.l, .int .i64 r.k, .slice r.A r.m r.c] 28)) w.heap.size 28 (krA noKr)) := hR.out.alloc _
          have HB1 : Hid (Below w.heap.size w (wr.alloc (.cells #[.string (str r.s), .string (str r.n), .int .i64 r.f, .bool r.l, .int .i64 r.k, .slice r.A r.m r.c] 28))) := hB.out.alloc hB.out.size _
          have HX1 : Hid (r.is (wr.alloc (.cells #[.string (str r.s), .string (str r.n), .int .i64 r.f, .bool r.l, .int .i64 r.k, .slice r.A r.m r.c] 28)) w1.heap.size x) := HX.out.below (((Below.refl wr.heap.size wr).alloc (Nat.le_refl _) _).mono (by have := hb.out.size; omega))
          go_wp2_with (refine wpList_store_row rfl 28 (.tmp 4) (.tmp 24) (by rfl) w.heap.size (krA r) (by rfl) (by rfl) 28 (krA noKr) HR1.out (by kernel_rfl) rfl (krA_all _) ?_)
          refine bodyPost_ret (results_cell_tmp (p := 4) (q := 5) rfl _ _ w.heap.size 28 (krA r) _ _ rfl rfl (Blk.row HR1.out _) Tryz.underlying28 rfl (by kernel_rfl)) rfl ⟨r, by rw [HF.out]; rfl, ?_, below_setRow HB1.out (Nat.le_refl _) _⟩
          rw [HF.out]
          exact (HX1.out.keep HR1.out (by decide) (heap_row_other _ _ _)).wide (by rw [size_row]; simp; have := hb.out.size; omega)
    · obtain rfl : k = 42 := by omega
      have HF : Hid (findD s.data.toList nm.data.toList = none) := by
        show _ = _
        have := hN.out
        rw [List.take_of_length_le (by have := HL.out.1; omega)] at this
        rw [HFD.out]
        exact this
      go_wp2_with (refine wpList_store_row rfl 28 (.tmp 4) (.tmp 26) (by rfl) w.heap.size (krA noKr) (by rfl) (by rfl) 28 (krA noKr) hR.out (by kernel_rfl) rfl (krA_all _) ?_)
      exact bodyPost_ret (results_cell_tmp (p := 4) (q := 5) rfl _ _ w.heap.size 28 (krA noKr) _ _ rfl rfl (Blk.row hR.out _) Tryz.underlying28 rfl (by kernel_rfl)) rfl ⟨noKr, by rw [HF.out]; rfl, by rw [HF.out]; exact noKr_is, below_setRow hB.out (Nat.le_refl _) _⟩
set_option maxHeartbeats 4000000 in
/-- Rows of texts that are alike. -/
theorem Same_same (A A' : Option Addr) (n n' c c' B B' : Nat) (l : List (List UInt8)) (w : World) (h : RowAt w B A n l) (h' : RowAt w B' A' n' l) :
    Calls Tryz.prog 25 #[.slice A n c, .slice A' n' c'] w fun e w' => e = .returned (.bool true) ∧ ∃ j, w' = w.drewN j := by
  obtain rfl : n = n' := h.1.symm.trans h'.1
  have hm := h.2.1
  unfold maxLen at hm
  have hnn : ((n : Int) != (n : Int)) = false := by simp
  have HL := Lib.hid h
  have HL' := Lib.hid h'
  clear h h'
  go_enter Tryz.func25, Tryz.ntmps25
  go_wp2_with fail
  go_loopw [13] (fun i wr => ∃ k j : Nat, k ≤ n ∧ i = .int .i64 k ∧ wr = w.drewN j) (fun i wr => n - (intOf i).toNat)
  case atStart => exact ⟨0, 0, Nat.zero_le _, rfl, rfl⟩
  case round =>
    obtain ⟨k, j, hk, rfl, rfl⟩ := hrel
    by_cases hlt : k < n
    · have b0 : (0 : Int) ≤ (k : Int) := by omega
      have b1 : (k : Int) < (n : Int) := by omega
      obtain ⟨ad, x, rfl, _, hx, q0⟩ := HL.out.at_ hlt
      obtain ⟨ad', x', rfl, _, hx', p0⟩ := HL'.out.at_ hlt
      rw [hx] at hx'
      obtain rfl : x = x' := Option.some.inj hx'
      have hq : ((str x).toList != (str x).toList) = false := by simp
      clear hx hx'
      go_wp2_with fail
      go_region
      all_goals
        go_wp2_with fail
        go_roundw
        case rel => exact ⟨k + 1, j + 1, by omega, by go_num, rfl⟩
        case measure => simp [intOf]; omega
    · obtain rfl : k = n := by omega
      go_wp2_with fail
      go_ret
      exact ⟨rfl, j, rfl⟩
set_option maxHeartbeats 4000000 in
/-- Keys that are alike. -/
theorem SameKey_same (r r' : Kr) (x : Ky) (B B' : Nat) (w : World) (h : r.is w B x) (h' : r'.is w B' x) (hB : B ≤ w.heap.size) (hB' : B' ≤ w.heap.size) :
    Calls Tryz.prog 12 #[.agg (krA r), .agg (krA r')] w fun e w' => e = .returned (.bool true) ∧ Below w.heap.size w w' := by
  obtain ⟨s, n, f, l, k, A, m, c⟩ := r
  obtain ⟨s', n', f', l', k', A', m', c'⟩ := r'
  obtain ⟨a0, a1, a2, a3, a4, a5, _⟩ := h
  obtain ⟨e0, e1, e2, e3, e4, e5, _⟩ := h'
  simp only at a0 a1 a2 a3 a4 a5 e0 e1 e2 e3 e4 e5
  obtain rfl : s' = s := e0.trans a0.symm
  obtain rfl : n' = n := e1.trans a1.symm
  obtain rfl : f' = f := e2.trans a2.symm
  obtain rfl : l' = l := e3.trans a3.symm
  obtain rfl : k' = k := e4.trans a4.symm
  clear a0 a1 a2 a3 a4 e0 e1 e2 e3 e4
  unfold krA
  have HA : Hid (∀ X, Below w.heap.size w X → Calls Tryz.prog 25 #[.slice A m c, .slice A' m' c'] X fun e w' => e = .returned (.bool true) ∧ ∃ j, w' = X.drewN j) :=
    fun X hX => Same_same A A' m m' c c' B B' x.w X (a5.below (hX.mono hB)) (e5.below (hX.mono hB'))
  clear a5 e5
  go_enter Tryz.func12, Tryz.ntmps12
  go_wp2_with (go_at_call 25; refine (HA.out _ (((Below.refl _ w).alloc (Nat.le_refl _) _).alloc (by simp) _)).mono ?_; rintro e w1 ⟨rfl, j, rfl⟩)
  go_ret
  exact ⟨rfl, below_drewN (((Below.refl _ w).alloc (Nat.le_refl _) _).alloc (by simp) _) _⟩
end Go.Proofs.YtadifolonbkamaaGreatDoor
