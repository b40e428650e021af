/- The walks of the document's Find, and of Same and SameKey at what is alike. -/
import Derived.Test.YtfjfhbmbngogpaaKsN
import Derived.BigQuiet
import Derived.BigRegion
namespace Go.Proofs.Ytfjfhbmbngogpaa
open Go.RowKit

theorem find_take {l : List Ky} {p : Ky → Bool} {k : Nat} {x : Ky} (h : (l.take k).find? p = none) (hx : l[k]? = some x) : (p x = true → l.find? p = some x) ∧ (p x = false → (l.take (k + 1)).find? p = none) := by
  have hk : k < l.length := by
    rcases Nat.lt_or_ge k l.length with h' | h'
    · exact h'
    · rw [List.getElem?_eq_none h'] at hx; cases hx
  have he : l[k] = x := by rw [List.getElem?_eq_getElem hk] at hx; exact Option.some.inj hx
  constructor
  · intro e
    conv => lhs; rw [← List.take_append_drop k l]
    rw [List.find?_append, h, List.drop_eq_getElem_cons hk, he, List.find?_cons, e]
    rfl
  · intro e
    rw [List.take_succ_eq_append_getElem hk, he, List.find?_append, h]
    simp [e]
set_option maxHeartbeats 8000000 in
theorem rFind_any (s nm : ByteArray) (w : World) :
    Calls Try.prog 18 #[.string s, .string nm] w (NamedP (findT s.data.toList nm.data.toList) w) := by
  rw [← findD_T]
  have HR0 : Hid (Blk (w.alloc (.cells #[.string ⟨#[]⟩, .string ⟨#[]⟩, .int .i64 0, .bool false, .int .i64 0, .slice none 0 0] 33)) w.heap.size 33 (krA noKr)) := Blk.new w _ _
  have HB0 : Hid (Below w.heap.size w (w.alloc (.cells #[.string ⟨#[]⟩, .string ⟨#[]⟩, .int .i64 0, .bool false, .int .i64 0, .slice none 0 0] 33))) := (Below.refl _ w).alloc (Nat.le_refl _) _
  have HFD : Hid (findD s.data.toList nm.data.toList = allT.find? (fun x => decide (x.s = s.data.toList) && decide (x.n = nm.data.toList))) := rfl
  obtain ⟨p, hp⟩ : ∃ p : Ky → Bool, p = fun x => decide (x.s = s.data.toList) && decide (x.n = nm.data.toList) := ⟨_, rfl⟩
  rw [← hp] at HFD
  have HP := Lib.hid hp
  clear hp
  have HN0 : Hid ((allT.take 0).find? p = none) := rfl
  go_enter Try.func18, Try.ntmps18
  go_wp2_with fail
  generalize w.alloc (.cells #[.string ⟨#[]⟩, .string ⟨#[]⟩, .int .i64 0, .bool false, .int .i64 0, .slice none 0 0] 33) = w0 at *
  refine (Keys_any _).mono ?_
  rintro e1 w1 ⟨v, rfl, hk⟩
  have hb1 := hk.below
  obtain ⟨A, c, rfl, hkeys⟩ := hk.at_ (by decide +kernel)
  have HR1 := Lib.hid (HR0.out.below hb1 HR0.out.lt)
  have HB1 := Lib.hid (more3 HB0.out HB0.out.size hb1)
  have HL := Lib.hid hkeys
  clear hb1 hk hkeys
  have hn : allT.length = 42 := allT_len
  generalize hal : allT = al at *
  generalize al.length = n at *
  subst hn
  go_wp2_with fail
  go_loopw [10] (fun i wr => ∃ k : Nat, k ≤ 42 ∧ i = .int .i64 k ∧ Hid (Below w1.heap.size w1 wr) ∧ Hid (Blk wr w.heap.size 33 (krA noKr)) ∧ Hid (Below w.heap.size w wr) ∧ Hid ((al.take k).find? p = none)) (fun i wr => 42 - (intOf i).toNat)
  case atStart => exact ⟨0, Nat.zero_le _, rfl, Below.refl _ _, HR1, HB1, HN0⟩
  case round =>
    obtain ⟨k, hk, rfl, hb, hR, hB, hN⟩ := hrel
    have hRl : w.heap.size < wr.heap.size := hR.out.lt
    by_cases hlt : k < 42
    · have b0 : (0 : Int) ≤ (k : Int) := by omega
      have b1 : (k : Int) < (42 : Int) := by omega
      obtain ⟨ad, r, x, rfl, hab, hx, hr, q0, q1, q2, q3, q4, q5⟩ := (HL.out.below hb.out).at_ hlt
      have z1 : (ad.add (k * 6)).block < wr.heap.size := by rw [block_addR]; have := hb.out.size; omega
      have HX := Lib.hid hr
      obtain ⟨n1, n2⟩ := find_take hN.out hx
      have hs : ((str r.s).toList == s.toList) = decide (x.s = s.data.toList) := by
        rw [Lib.toList_data, Lib.toList_data, str_list, hr.1, Bool.eq_iff_iff, decide_eq_true_eq, beq_iff_eq]
      have hq : ((str r.n).toList == nm.toList) = decide (x.n = nm.data.toList) := by
        rw [Lib.toList_data, Lib.toList_data, str_list, hr.2.1, Bool.eq_iff_iff, decide_eq_true_eq, beq_iff_eq]
      have hpx : p x = (decide (x.s = s.data.toList) && decide (x.n = nm.data.toList)) := by rw [HP.out]
      clear hr
      rcases hd1 : decide (x.s = s.data.toList) with _ | _
      · rw [hd1] at hs
        have HF := Lib.hid (n2 (by rw [hpx, hd1]; rfl))
        clear n1 n2 hx hpx hd1 hq HX
        go_wp2_with fail
        go_roundw
        case rel => exact ⟨k + 1, by omega, by go_num, hb.out.alloc hb.out.size _, hR.out.alloc _, hB.out.alloc hB.out.size _, HF⟩
        case measure => simp [intOf]; omega
      · rw [hd1] at hs
        rcases hd2 : decide (x.n = nm.data.toList) with _ | _
        · rw [hd2] at hq
          have HF := Lib.hid (n2 (by rw [hpx, hd1, hd2]; rfl))
          clear n1 n2 hx hpx hd1 hd2 HX
          go_wp2_with fail
          go_roundw
          case rel => exact ⟨k + 1, by omega, by go_num, hb.out.alloc hb.out.size _, hR.out.alloc _, hB.out.alloc hB.out.size _, HF⟩
          case measure => simp [intOf]; omega
        · rw [hd2] at hq
          have HF : Hid (findD s.data.toList nm.data.toList = some x) := by show _ = _; rw [HFD.out]; exact n1 (by rw [hpx, hd1, hd2]; rfl)
          clear n1 n2 hx hpx hd1 hd2
          have HR1 : Hid (Blk (wr.alloc (.cells #[.string (str r.s), .string (str r.n), .int .i64 r.f, .bool r.l, .int .i64 r.k, .slice r.A r.m r.c] 33)) w.heap.size 33 (krA noKr)) := hR.out.alloc _
          have HB1 : Hid (Below w.heap.size w (wr.alloc (.cells #[.string (str r.s), .string (str r.n), .int .i64 r.f, .bool r.l, .int .i64 r.k, .slice r.A r.m r.c] 33))) := hB.out.alloc hB.out.size _
          have HX1 : Hid (r.is (wr.alloc (.cells #[.string (str r.s), .string (str r.n), .int .i64 r.f, .bool r.l, .int .i64 r.k, .slice r.A r.m r.c] 33)) w1.heap.size x) := HX.out.below (((Below.refl wr.heap.size wr).alloc (Nat.le_refl _) _).mono (by have := hb.out.size; omega))
          go_wp2_with (refine wpList_store_row rfl 33 (.tmp 4) (.tmp 24) (by rfl) w.heap.size (krA r) (by rfl) (by rfl) 33 (krA noKr) HR1.out (by kernel_rfl) rfl (krA_all _) ?_)
          refine bodyPost_ret (results_cell_tmp (p := 4) (q := 5) rfl _ _ w.heap.size 33 (krA r) _ _ rfl rfl (Blk.row HR1.out _) Try.underlying33 rfl (by kernel_rfl)) rfl ⟨r, by rw [HF.out]; rfl, ?_, below_setRow HB1.out (Nat.le_refl _) _⟩
          rw [HF.out]
          exact (HX1.out.keep HR1.out (by decide) (heap_row_other _ _ _)).wide (by rw [size_row]; simp; have := hb.out.size; omega)
    · obtain rfl : k = 42 := by omega
      have HF : Hid (findD s.data.toList nm.data.toList = none) := by
        show _ = _
        have := hN.out
        rw [List.take_of_length_le (by have := HL.out.1; omega)] at this
        rw [HFD.out]
        exact this
      go_wp2_with (refine wpList_store_row rfl 33 (.tmp 4) (.tmp 26) (by rfl) w.heap.size (krA noKr) (by rfl) (by rfl) 33 (krA noKr) hR.out (by kernel_rfl) rfl (krA_all _) ?_)
      exact bodyPost_ret (results_cell_tmp (p := 4) (q := 5) rfl _ _ w.heap.size 33 (krA noKr) _ _ rfl rfl (Blk.row hR.out _) Try.underlying33 rfl (by kernel_rfl)) rfl ⟨noKr, by rw [HF.out]; rfl, by rw [HF.out]; exact noKr_is, below_setRow hB.out (Nat.le_refl _) _⟩
end Go.Proofs.Ytfjfhbmbngogpaa
