/- The walk of the law LinesPrefix. -/
import Derived.Test.YthgpocbmkmmecaaDoorLoC
import Derived.Laws.BitsAllLaws
import Derived.Laws.BitsLemmas
namespace Go.Proofs.YthgpocbmkmmecaaDoor
open Go.RowKit

theorem and_low (a : Int) (m : Nat) (hm : m ≤ 65535) : ∃ k : Nat, bits .and .i64 a (m : Int) = (k : Int) ∧ k ≤ m := by
  have hx : (BitVec.ofInt 64 (m : Int)).toNat = m := by
    rw [BitVec.ofInt_natCast, BitVec.toNat_ofNat]; exact Nat.mod_eq_of_lt (by omega)
  refine ⟨(BitVec.ofInt 64 a).toNat &&& m, ?_, Nat.and_le_right⟩
  have hle : (BitVec.ofInt 64 a).toNat &&& m ≤ m := Nat.and_le_right
  show IntKind.i64.wrap ((BitVec.ofInt 64 a &&& BitVec.ofInt 64 (m : Int)).toNat : Int) = _
  rw [BitVec.toNat_and, hx, IntKind.wrap_i64]
  omega
theorem LnsAt.take {w : World} {B n k : Nat} {A : Option Addr} {l : List Ln} (h : LnsAt w B A n l) (hk : k ≤ n) : LnsAt w B A k (l.take k) := by
  obtain ⟨h1, h2, h3⟩ := h
  refine ⟨by rw [List.length_take]; omega, by omega, fun h0 => ?_⟩
  obtain ⟨ad, e, hb, hc⟩ := h3 (by omega)
  refine ⟨ad, e, hb, fun j u hj => hc j u ?_⟩
  have e2 : lns l = lns (l.take k) ++ lns (l.drop k) := by
    unfold lns
    rw [← List.flatMap_append, List.take_append_drop]
  have hjl : j < (lns (l.take k)).length := by
    rcases Nat.lt_or_ge j (lns (l.take k)).length with h' | h'
    · exact h'
    · rw [List.getElem?_eq_none h'] at hj; cases hj
  rw [e2, List.getElem?_append_left hjl]; exact hj
set_option maxRecDepth 100000 in
set_option maxHeartbeats 8000000 in
theorem LinesPrefix_any (A : Option Addr) (n c : Nat) (l : List Ln) (a : Int) (w : World) (h : LnsAt w w.heap.size A n l) (hz : ∀ x ∈ l, SizeLn x) (hnc : n ≤ c) (hc : c * 56 ≤ 140737488355328) : Calls Tryd.prog 9 #[.slice A n c, .int .i64 a] w fun e w' => e = .returned (.bool true) ∧ Below w.heap.size w w' := by
  have HL := Lib.hid h
  have HZ := Lib.hid hz
  clear h hz
  rcases hm : mayT l with _ | _
  · have HM := Lib.hid hm
    clear hm
    go_enter Tryd.func9, Tryd.ntmps9
    go_wp2_with fail
    refine (shown_any _).mono ?_
    rintro e w0 ⟨rfl, hb0⟩
    have Hb0 := Lib.hid hb0
    clear hb0
    go_wp2_with fail
    refine (May_any A n c w.heap.size l _ (HL.out.below Hb0.out) Hb0.out.size HZ.out).mono ?_
    rintro e w2 ⟨rfl, hb2⟩
    rw [HM.out]
    have Hb2 := Lib.hid (more3 Hb0.out Hb0.out.size hb2)
    clear hb2
    go_wp2_with fail
    go_ret
    exact ⟨ret_bool (by simp), Hb2.out⟩
  · obtain ⟨m, hbm, hml⟩ := and_low a 65535 (Nat.le_refl _)
    have hbm : bits .and .i64 a 65535 = (m : Int) := hbm
    obtain ⟨k, hk⟩ : ∃ k, m % (n + 1) = k := ⟨_, rfl⟩
    have hkn : k ≤ n := by
      have hlt := Nat.mod_lt m (show 0 < n + 1 by omega)
      rw [hk] at hlt
      omega
    have hk1 : (m : Int) % ((n : Int) + 1) = (k : Int) := by rw [← hk]; simp
    have hk2 : (m : Int).tmod ((n : Int) + 1) = (k : Int) := by rw [Int.tmod_eq_emod_of_nonneg (by omega)]; exact hk1
    obtain ⟨hmt, hpre⟩ := may_take hm k
    obtain ⟨rest, hrest⟩ := hpre
    have HM := Lib.hid hm
    have HMT := Lib.hid hmt
    have HN : Hid (printT l = writeT l) := by show _ = _; unfold printT; rw [hm, if_pos rfl]
    have HNT : Hid (printT (l.take k) = writeT (l.take k)) := by show _ = _; unfold printT; rw [hmt, if_pos rfl]
    have HZT : Hid (∀ x ∈ l.take k, SizeLn x) := Lib.hid (fun x hx => HZ.out x (List.mem_of_mem_take hx))
    have hsz : (str (writeT (l.take k))).size ≤ (str (writeT l)).size := by rw [str_size, str_size, ← hrest, List.length_append]; omega
    have hszl : (str (writeT l)).size ≤ 20000 := (may_all hm).2
    have heq : (((str (writeT l)).extract 0 (str (writeT (l.take k))).size).toList == (str (writeT (l.take k))).toList) = true := by
      rw [beq_str, decide_eq_true_eq]
      apply ext_list
      rw [Lib.extract_data, List.drop_zero, Nat.sub_zero, str_list, str_list, str_size, ← hrest]
      simp
    have b0 : (0 : Int) ≤ (k : Int) := by omega
    have b1 : (k : Int) ≤ (c : Int) := by omega
    have b2 : (n : Int) + 1 ≤ 9007199254740992 := by omega
    have b3 : (0 : Int) ≤ (m : Int) := by omega
    have b4 : (m : Int) ≤ 65535 := by omega
    clear hm hmt hk hrest
    go_enter Tryd.func9, Tryd.ntmps9
    go_wp2_with fail
    refine (shown_any _).mono ?_
    rintro e w0 ⟨rfl, hb0⟩
    have Hb0 := Lib.hid hb0
    clear hb0
    go_wp2_with fail
    refine (May_any A n c w.heap.size l _ (HL.out.below Hb0.out) Hb0.out.size HZ.out).mono ?_
    rintro e w2 ⟨rfl, hb2⟩
    rw [HM.out]
    have Hb2 := Lib.hid (more3 Hb0.out Hb0.out.size hb2)
    clear hb2
    go_wp2_with fail
    refine (Print_any A k c w.heap.size (l.take k) _ ((HL.out.below Hb2.out).take hkn) Hb2.out.size HZT.out).mono ?_
    rintro e w3 ⟨rfl, hb3⟩
    rw [HNT.out]
    have Hb3 := Lib.hid (more3 Hb2.out Hb2.out.size hb3)
    clear hb3
    go_wp2_with fail
    refine (Print_any A n c w.heap.size l _ (HL.out.below Hb3.out) Hb3.out.size HZ.out).mono ?_
    rintro e w4 ⟨rfl, hb4⟩
    rw [HN.out]
    have Hb4 := Lib.hid (more3 Hb3.out Hb3.out.size hb4)
    clear hb4
    go_wp2_with fail
    refine (May_any A k c w.heap.size (l.take k) _ ((HL.out.below Hb4.out).take hkn) Hb4.out.size HZT.out).mono ?_
    rintro e w5 ⟨rfl, hb5⟩
    rw [HMT.out]
    have Hb5 := Lib.hid (more3 Hb4.out Hb4.out.size hb5)
    clear hb5
    go_wp2_with fail
    go_ret
    exact ⟨ret_bool (by simp), Hb5.out⟩
end Go.Proofs.YthgpocbmkmmecaaDoor
