/- The walks of the developers' parseNumber, dayOf, fullForm. The walks of the developers' mayDays, lists. -/
import Derived.Test.YtncolcjejgmhjaaGreatDoorCxaj
import Derived.Test.YtncolcjejgmhjaaGreatDoorCxak
import Derived.Test.YtncolcjejgmhjaaGreatDoorCxam
import Derived.Test.YtncolcjejgmhjaaGreatDoorCxan
namespace Go.Proofs.YtncolcjejgmhjaaGreatDoor
open Go.RowKit
structure TabM (w : World) : Prop where
  t : Tabs w
  ml : ∃ m : Int, w.cell? ⟨3, 0, none⟩ = some (.int .i64 m)
theorem TabM.below {w w' : World} (h : TabM w) (hb : Below w.heap.size w w') : TabM w' := by
  obtain ⟨m, hm⟩ := h.ml
  exact ⟨h.t.below hb, m, (hb.cell (p := ⟨3, 0, none⟩) (World.block_lt_of_cell? w _ hm)).trans hm⟩
def numD (l : List UInt8) : Int := match numL l with
  | some n => n
  | none => 0
def numOk (l : List UInt8) : Bool := (numL l).isSome
theorem numD_no {l : List UInt8} (h : numL l = none) : numD l = 0 ∧ numOk l = false := by unfold numD numOk; rw [h]; exact ⟨rfl, rfl⟩
theorem numD_yes {l : List UInt8} {n : Nat} (h : numL l = some n) : numD l = n ∧ numOk l = true := by unfold numD numOk; rw [h]; exact ⟨rfl, rfl⟩
theorem numL_long {l : List UInt8} (h : l.length < 1 ∨ 4 < l.length) : numL l = none := by
  unfold numL; rw [if_neg (by omega)]
theorem numL_bad {l : List UInt8} {k : Nat} (h : k < l.length) (hd : isDig (l[k]'h) = false) : numL l = none := by
  unfold numL
  rw [if_neg]
  rintro ⟨_, _, h3⟩
  have := List.all_eq_true.1 h3 (l[k]'h) (List.getElem_mem h)
  rw [hd] at this; cases this
theorem numL_ok {l : List UInt8} (h0 : 1 ≤ l.length) (h4 : l.length ≤ 4) (h : ∀ c ∈ l, isDig c = true) : numL l = some (valL l) := by
  unfold numL
  rw [if_pos ⟨h0, h4, List.all_eq_true.2 h⟩]
theorem val_snoc4 (l : List UInt8) (c : UInt8) : valL (l ++ [c]) = 10 * valL l + (c.toNat - 48) := by
  unfold valL; rw [List.foldl_append, List.foldl_cons, List.foldl_nil]
set_option maxHeartbeats 4000000 in
theorem parseNumber_any (s : ByteArray) (hs : s.size ≤ 4194304) (w : World) :
    Calls Tryz.prog 96 #[.string s] w fun e w' => e = .returned (.tuple #[.int .i64 (numD s.data.toList), .bool (numOk s.data.toList)]) ∧ w = w' := by
  have hlen := size_list s
  by_cases h1 : s.size < 1
  · have HN := Lib.hid (numD_no (numL_long (l := s.data.toList) (.inl (by omega))))
    have h1' : (s.size : Int) < 1 := by omega
    clear hlen h1
    go_enter Tryz.func96, Tryz.ntmps96
    go_wp2_with fail
    go_ret2
    exact ⟨ret_ib' HN.out.1.symm HN.out.2.symm, rfl⟩
  by_cases h4 : 4 < s.size
  · have HN := Lib.hid (numD_no (numL_long (l := s.data.toList) (.inr (by omega))))
    have h1' : (1 : Int) ≤ (s.size : Int) := by omega
    have h4' : (4 : Int) < (s.size : Int) := by omega
    have u1 : (0 : Nat) ≤ 1 := Nat.zero_le _
    clear hlen h1 h4
    go_enter Tryz.func96, Tryz.ntmps96
    go_wp2_with fail
    go_ret2
    exact ⟨ret_ib' HN.out.1.symm HN.out.2.symm, rfl⟩
  have h1' : (1 : Int) ≤ (s.size : Int) := by omega
  have h4' : (s.size : Int) ≤ 4 := by omega
  have u1 : (0 : Nat) ≤ 1 := Nat.zero_le _
  have u2 : (0 : Nat) ≤ 2 := Nat.zero_le _
  have HL := Lib.hid hlen
  clear hlen h1 h4
  go_enter Tryz.func96, Tryz.ntmps96
  go_wp2_with fail
  go_loop [4, 5, 16] (fun n _ i => ∃ (k v : Nat), k ≤ s.size ∧ v < 10 ^ k ∧ i = .int .i64 k ∧ n = .int .i64 v ∧ Hid (v = valL (s.data.toList.take k)) ∧ Hid (∀ c ∈ s.data.toList.take k, isDig c = true)) (fun _ _ i => s.size - (intOf i).toNat)
  case atStart => exact ⟨0, 0, Nat.zero_le _, by omega, rfl, rfl, by simp [Hid, valL], by intro c hc; simp at hc⟩
  case round =>
    obtain ⟨k, v, hk, hv, rfl, rfl, hval, hdig⟩ := hrel
    have hv4 : v < 10000 := Nat.lt_of_lt_of_le hv (Nat.le_trans (Nat.pow_le_pow_right (by omega) (show k ≤ 4 by omega)) (by decide))
    have HV := Lib.hid hv
    clear hv
    by_cases hlt : k < s.size
    · have b0 : (0 : Int) ≤ (k : Int) := by omega
      have b1 : (k : Int) < (s.size : Int) := by omega
      have hr := s[k].toNat_lt
      have HT := Lib.hid (take_at s k hlt)
      rcases hg : isDig s[k] with _ | _
      · have HN := Lib.hid (numD_no (numL_bad (l := s.data.toList) (k := k) (by rw [HL.out]; exact hlt) (by exact hg)))
        have hd : (s[k].toNat : Int) < 48 ∨ 57 < (s[k].toNat : Int) := by
          simp only [isDig, Bool.and_eq_false_iff, decide_eq_false_iff_not] at hg
          omega
        clear hg
        rcases hd with hd | hd
        · go_wp2_with fail
          go_ret2
          exact ⟨ret_ib' HN.out.1.symm HN.out.2.symm, rfl⟩
        · have d0 : (48 : Int) ≤ (s[k].toNat : Int) := by omega
          have u3 : (0 : Nat) ≤ 3 := Nat.zero_le _
          go_wp2_with fail
          go_ret2
          exact ⟨ret_ib' HN.out.1.symm HN.out.2.symm, rfl⟩
      · have hd : 48 ≤ s[k].toNat ∧ s[k].toNat ≤ 57 := by simpa [isDig, Bool.and_eq_true] using hg
        obtain ⟨d0, d1⟩ := hd
        have d0' : (48 : Int) ≤ (s[k].toNat : Int) := by omega
        have d1' : (s[k].toNat : Int) ≤ 57 := by omega
        have HG := Lib.hid hg
        have HV1 : Hid (10 * v + (s[k].toNat - 48) < 10 ^ (k + 1)) := by
          have := HV.out
          show _ < _
          rw [Nat.pow_succ]; omega
        have HW : Hid (10 * v + (s[k].toNat - 48) = valL (s.data.toList.take (k + 1))) := by
          show _ = _
          rw [HT.out, val_snoc4, ← hval.out]
        have HD1 : Hid (∀ c ∈ s.data.toList.take (k + 1), isDig c = true) := by
          intro c hc
          rw [HT.out] at hc
          rcases List.mem_append.1 hc with hc | hc
          · exact hdig.out c hc
          · rw [List.mem_singleton.1 hc]; exact HG.out
        have u3 : (0 : Nat) ≤ 3 := Nat.zero_le _
        have u4 : (0 : Nat) ≤ 4 := Nat.zero_le _
        clear hg d0 d1
        go_wp2_with fail
        go_round
        case rel => exact ⟨k + 1, 10 * v + (s[k].toNat - 48), by omega, HV1.out, by go_num, by congr 1; omega, HW, HD1⟩
        case measure => simp [intOf]; omega
    · obtain rfl : k = s.size := by omega
      have HN : Hid (numD s.data.toList = v ∧ numOk s.data.toList = true) := by
        have a := hval.out
        have b := hdig.out
        rw [List.take_of_length_le (by rw [HL.out]; exact Nat.le_refl _)] at a b
        have := numD_yes (numL_ok (by rw [HL.out]; omega) (by rw [HL.out]; omega) b)
        rw [← a] at this; exact this
      clear hlt
      go_wp2_with fail
      go_ret2
      exact ⟨ret_ib' HN.out.1.symm HN.out.2.symm, rfl⟩
end Go.Proofs.YtncolcjejgmhjaaGreatDoor
namespace Go.Proofs.YtncolcjejgmhjaaGreatDoor
open Go.RowKit
set_option maxHeartbeats 4000000 in
theorem mayDays_any (A : Option Addr) (n c : Nat) (ds : List Int) (w : World) (hd : IntsAt w w.heap.size A n ds) :
    Calls Tryz.prog 30 #[.slice A n c] w fun e w' => e = .returned (.bool (risesB 0 ds)) ∧ w = w' := by
  have HD := Lib.hid hd
  clear hd
  have hn := HD.out.2.1
  unfold maxLen at hn
  go_enter Tryz.func30, Tryz.ntmps30
  go_wp2_with fail
  go_loop [3, 5, 8] (fun x _ i => ∃ (k : Nat) (z : Int), k ≤ n ∧ i = .int .i64 k ∧ x = .int .i64 z ∧ Hid (risesB 0 ds = risesB z (ds.drop k))) (fun _ _ i => n - (intOf i).toNat)
  case atStart => exact ⟨0, 0, Nat.zero_le _, rfl, rfl, by show risesB 0 ds = _; rw [List.drop_zero]⟩
  case round =>
    obtain ⟨k, z, hk, rfl, rfl, hr⟩ := hrel
    by_cases hlt : k < n
    · obtain ⟨ad, rfl, hbl, hcell⟩ := HD.out.at_ hlt
      have hdr := drop_cons (l := ds) (k := k) (by rw [HD.out.1]; exact hlt)
      generalize ds.getD k 0 = d at hdr hcell
      have HR : Hid (risesB 0 ds = risesB z (d :: ds.drop (k + 1))) := by rw [← hdr]; exact hr
      clear hdr
      have hln : (n : Int) ≤ 9223372036854775807 := by omega
      by_cases h1 : d ≤ z
      · have HF := Lib.hid (rises_no (r := ds.drop (k + 1)) (.inl h1))
        go_wp2_with fail
        go_ret
        exact ⟨ret_bool (by rw [HR.out, HF.out]), rfl⟩
      · by_cases h7 : 7 < d
        · have HF := Lib.hid (rises_no (x := z) (r := ds.drop (k + 1)) (.inr h7))
          have h1' : z < d := by omega
          have u1 : (0 : Nat) ≤ 1 := Nat.zero_le _
          go_wp2_with fail
          go_ret
          exact ⟨ret_bool (by rw [HR.out, HF.out]), rfl⟩
        · have HF := Lib.hid (rises_yes (r := ds.drop (k + 1)) (show z < d by omega) (show d ≤ 7 by omega))
          have h1' : z < d := by omega
          have h7' : d ≤ 7 := by omega
          have HN : Hid (risesB 0 ds = risesB d (ds.drop (k + 1))) := by rw [HR.out, HF.out]; rfl
          have u1 : (0 : Nat) ≤ 1 := Nat.zero_le _
          have u2 : (0 : Nat) ≤ 2 := Nat.zero_le _
          clear h1 h7
          go_wp2_with fail
          go_round
          case rel => exact ⟨k + 1, d, by omega, by go_num, rfl, HN⟩
          case measure => simp [intOf]; omega
    · obtain rfl : k = n := by omega
      have HT : Hid (risesB 0 ds = true) := by
        show _ = true
        rw [hr.out, List.drop_of_length_le (by rw [HD.out.1]; exact Nat.le_refl _)]; rfl
      clear hr hlt
      go_wp2_with fail
      go_ret
      exact ⟨ret_bool HT.out.symm, rfl⟩
def Ch.six (c : Ch) : Array Value := #[.slice c.y.A c.y.n c.y.c, .slice c.m.A c.m.n c.m.c, .slice c.t.A c.t.n c.t.c, .slice c.h.A c.h.n c.h.c, .slice c.i.A c.i.n c.i.c, .slice c.s.A c.s.n c.s.c]
set_option maxHeartbeats 4000000 in
theorem lists_any (c : Ch) (w : World) :
    Calls Tryz.prog 17 #[.agg c.cells] w fun e w' => e = .returned (.agg c.six) ∧ Below w.heap.size w w' := by
  unfold Ch.cells Ch.six
  go_enter Tryz.func17, Tryz.ntmps17
  go_wp2_with fail
  refine bodyPost_ret (v := .agg #[.slice c.y.A c.y.n c.y.c, .slice c.m.A c.m.n c.m.c, .slice c.t.A c.t.n c.t.c, .slice c.h.A c.h.n c.h.c, .slice c.i.A c.i.n c.i.c, .slice c.s.A c.s.n c.s.c]) (by simp [results, Tryz.results17, go_sem]) rfl ⟨rfl, ?_⟩
  exact ((Below.refl _ _).alloc (Nat.le_refl _) _).alloc (by simp) _
end Go.Proofs.YtncolcjejgmhjaaGreatDoor
