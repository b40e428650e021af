/- The walks of the developers' intervalOf and leastOfPart. -/
import Derived.Test.YtncolcjejgmhjaaGreatDoorCxag
import Derived.Test.YtncolcjejgmhjaaGreatDoorCxah
namespace Go.Proofs.YtncolcjejgmhjaaGreatDoor
open Go.RowKit
def IntervalPost (f : Nat) (p : Pt) (w : World) (e : Ending) (w' : World) : Prop := e = .returned (.agg #[.int .i64 (ptA f p), .int .i64 (ptB f p)]) ∧ Below w.heap.size w w'
set_option maxHeartbeats 2000000 in
theorem intervalOf_any (p : Pt) (f : Nat) (w : World) :
    Calls Tryz.prog 67 #[.agg #[.int .i64 p.a, .int .i64 p.b, .int .i64 p.s], .agg #[.int .i64 (lo f), .int .i64 (hi f)]] w (IntervalPost f p w) := by
  obtain ⟨a, b, s⟩ := p
  dsimp only
  by_cases ha : a = -1
  · have ha' : (a == -1) = true := by simp [ha]
    have HA := Lib.hid (show ptA f ⟨a, b, s⟩ = lo f by unfold ptA; rw [if_pos ha])
    have HB := Lib.hid (show ptB f ⟨a, b, s⟩ = hi f by unfold ptB; rw [if_pos ha])
    clear ha
    go_enter Tryz.func67, Tryz.ntmps67
    go_wp2_with fail
    refine bodyPost_ret (v := .agg #[.int .i64 (lo f), .int .i64 (hi f)]) (by simp [results, Tryz.results67, go_sem]) rfl ⟨by rw [HA.out, HB.out], ?_⟩
    exact (((Below.refl _ _).alloc (Nat.le_refl _) _).alloc (by simp) _).alloc (by simp; omega) _
  · have ha' : (a == -1) = false := by simpa using ha
    have HA := Lib.hid (show ptA f ⟨a, b, s⟩ = a by unfold ptA; rw [if_neg ha])
    have u1 : (0 : Nat) ≤ 1 := Nat.zero_le _
    by_cases hb : b = -1
    · have hb' : (b == -1) = true := by simp [hb]
      have u2 : (0 : Nat) ≤ 2 := Nat.zero_le _
      by_cases hs : s = 0
      · have hs' : (s == 0) = true := by simp [hs]
        have HB := Lib.hid (show ptB f ⟨a, b, s⟩ = a by unfold ptB; rw [if_neg ha, if_pos hb, if_pos hs])
        have u3 : (0 : Nat) ≤ 3 := Nat.zero_le _
        clear ha hb hs
        go_enter Tryz.func67, Tryz.ntmps67
        go_wp2_with fail
        refine bodyPost_ret (v := .agg #[.int .i64 a, .int .i64 a]) (by simp [results, Tryz.results67, go_sem]) rfl ⟨by rw [HA.out, HB.out], ?_⟩
        exact (((Below.refl _ _).alloc (Nat.le_refl _) _).alloc (by simp) _).alloc (by simp; omega) _
      · have hs' : (s == 0) = false := by simpa using hs
        have HB := Lib.hid (show ptB f ⟨a, b, s⟩ = hi f by unfold ptB; rw [if_neg ha, if_pos hb, if_neg hs])
        have u3 : (0 : Nat) ≤ 3 := Nat.zero_le _
        have u4 : (0 : Nat) ≤ 4 := Nat.zero_le _
        clear ha hb hs
        go_enter Tryz.func67, Tryz.ntmps67
        go_wp2_with fail
        refine bodyPost_ret (v := .agg #[.int .i64 a, .int .i64 (hi f)]) (by simp [results, Tryz.results67, go_sem]) rfl ⟨by rw [HA.out, HB.out], ?_⟩
        exact (((Below.refl _ _).alloc (Nat.le_refl _) _).alloc (by simp) _).alloc (by simp; omega) _
    · have hb' : (b == -1) = false := by simpa using hb
      have HB := Lib.hid (show ptB f ⟨a, b, s⟩ = b by unfold ptB; rw [if_neg ha, if_neg hb])
      clear ha hb
      go_enter Tryz.func67, Tryz.ntmps67
      go_wp2_with fail
      refine bodyPost_ret (v := .agg #[.int .i64 a, .int .i64 b]) (by simp [results, Tryz.results67, go_sem]) rfl ⟨by rw [HA.out, HB.out], ?_⟩
      exact (((Below.refl _ _).alloc (Nat.le_refl _) _).alloc (by simp) _).alloc (by simp; omega) _
theorem pLo_a {f : Nat} {p : Pt} {n : Int} (h : n ≤ ptA f p) : pLo f p n = ptA f p := if_pos h
theorem pLo_b {f : Nat} {p : Pt} {n : Int} (h : ¬ n ≤ ptA f p) : pLo f p n = ptA f p + ((n - ptA f p + ptS p - 1) / ptS p) * ptS p := if_neg h
def pN (f : Nat) (p : Pt) (n : Int) : Int := if pOk f p n = true then pLo f p n else 0
theorem ptA_bd {f : Nat} {p : Pt} (h : mayP f p = true) : 0 ≤ ptA f p ∧ ptA f p ≤ 2199 ∧ ptB f p ≤ 2199 ∧ ptA f p ≤ ptB f p := by
  have := ptAB h
  have := lo_bd f
  omega
theorem mul_div_bd {x S : Int} (h0 : 0 ≤ x) (hS : 1 ≤ S) : 0 ≤ x / S ∧ 0 ≤ x / S * S ∧ x / S * S ≤ x ∧ x / S ≤ x := by
  have e1 := Int.mul_ediv_add_emod x S
  have e2 := Int.emod_nonneg x (show S ≠ 0 by omega)
  have q0 : 0 ≤ x / S := Int.ediv_nonneg h0 (by omega)
  rw [Int.mul_comm] at e1
  refine ⟨q0, Int.mul_nonneg q0 (by omega), by omega, Int.ediv_le_self _ h0⟩
def LeastPost (f : Nat) (p : Pt) (n : Int) (w : World) (e : Ending) (w' : World) : Prop := e = .returned (.tuple #[.int .i64 (pN f p n), .bool (pOk f p n)]) ∧ Below w.heap.size w w'
theorem ret_ib' {a b : Int} {x y : Bool} (h : a = b) (g : x = y) : Ending.returned (.tuple #[.int .i64 a, .bool x]) = .returned (.tuple #[.int .i64 b, .bool y]) := by rw [h, g]
set_option maxHeartbeats 4000000 in
theorem leastOfPart_any (p : Pt) (f : Nat) (n : Int) (hm : mayP f p = true) (n0 : 0 ≤ n) (n1 : n ≤ 100000) (w : World) :
    Calls Tryz.prog 53 #[.agg #[.int .i64 p.a, .int .i64 p.b, .int .i64 p.s], .agg #[.int .i64 (lo f), .int .i64 (hi f)], .int .i64 n] w (LeastPost f p n w) := by
  obtain ⟨A0, A1, B1, AB⟩ := ptA_bd hm
  have s01 := (mayP_iff f p).1 hm
  have s0 := s01.1
  have s1 := s01.2.1
  have HIH : Hid (∀ W : World, Calls Tryz.prog 67 #[.agg #[.int .i64 p.a, .int .i64 p.b, .int .i64 p.s], .agg #[.int .i64 (lo f), .int .i64 (hi f)]] W fun e w' => e = .returned (.agg #[.int .i64 (ptA f p), .int .i64 (ptB f p)]) ∧ Below W.heap.size W w') := fun W => intervalOf_any p f W
  clear s01 hm
  have HNY : Hid (pOk f p n = true → pN f p n = pLo f p n) := fun h => if_pos h
  have HNN : Hid (pOk f p n = false → pN f p n = 0) := fun h => if_neg (by rw [h]; simp)
  have HOK : Hid (pOk f p n = decide (pLo f p n ≤ ptB f p)) := rfl
  have HLA := Lib.hid (pLo_a (f := f) (p := p) (n := n))
  have HLB := Lib.hid (pLo_b (f := f) (p := p) (n := n))
  have HS : Hid (ptS p = max p.s 1) := rfl
  unfold LeastPost
  generalize pOk f p n = ok at *
  generalize pN f p n = N at *
  generalize pLo f p n = L at *
  generalize ptA f p = A at *
  generalize ptB f p = B at *
  generalize ptS p = S at *
  obtain ⟨a, b, s⟩ := p
  dsimp only at *
  by_cases c : n ≤ A
  · have HO : Hid (ok = true) := by show _ = _; rw [HOK.out, HLA.out c]; exact decide_eq_true AB
    have HN : Hid (N = A) := by show _ = _; rw [HNY.out HO.out, HLA.out c]
    go_enter Tryz.func53, Tryz.ntmps53
    go_wp2_with fail
    refine (HIH.out _).mono ?_
    rintro e w1 ⟨rfl, hb1⟩
    have HB1 := Lib.hid (more3 (((Below.refl w.heap.size w).alloc (Nat.le_refl _) _).alloc (by simp) _) (by simp; omega) hb1)
    clear hb1
    go_wp2_with fail
    go_ret2
    exact ⟨ret_ib' HN.out.symm HO.out.symm, HB1.out.alloc HB1.out.size _⟩
  · have HL := Lib.hid (HLB.out c)
    have c' : A < n := by omega
    have key : ∀ T : Int, S = T → 1 ≤ T → T ≤ 9999 → 0 ≤ (n - A + T - 1) / T ∧ 0 ≤ (n - A + T - 1) / T * T ∧ (n - A + T - 1) / T * T ≤ 110000 ∧ (n - A + T - 1) / T ≤ 110000 := by
      intro T _ h1 h2
      obtain ⟨k0, k1, k2, k3⟩ := mul_div_bd (x := n - A + T - 1) (S := T) (by omega) h1
      exact ⟨k0, k1, by omega, by omega⟩
    by_cases cs : s < 1
    · obtain rfl : s = 0 := by omega
      have hS : S = 1 := HS.out
      obtain ⟨k0, k1, k2, k3⟩ := key 1 hS (by omega) (by omega)
      have HL1 : Hid (L = A + (n - A + 1 - 1) / 1 * 1) := by show _ = _; rw [HL.out, hS]
      by_cases cb : B < A + (n - A + 1 - 1) / 1 * 1
      · have HO : Hid (ok = false) := by show _ = _; rw [HOK.out, HL1.out]; exact decide_eq_false (by omega)
        have HN := Lib.hid (HNN.out HO.out)
        clear key hS cs c
        go_enter Tryz.func53, Tryz.ntmps53
        go_wp2_with fail
        refine (HIH.out _).mono ?_
        rintro e w1 ⟨rfl, hb1⟩
        have hz : w.heap.size + 1 < w1.heap.size := by have := hb1.size; simp at this; omega
        have hc : ∀ o : Obj, (w1.alloc o).cell? ⟨w.heap.size, 2, none⟩ = some (.int .i64 0) := fun o => ((((Blk.new w 58 #[.int .i64 a, .int .i64 b, .int .i64 0]).alloc (.cells #[.int .i64 (lo f), .int .i64 (hi f)] 61)).below hb1 (by simp; omega)).alloc o).cell 2
        have HB1 := Lib.hid (more3 (((Below.refl w.heap.size w).alloc (Nat.le_refl _) _).alloc (by simp) _) (by simp; omega) hb1)
        clear hb1
        go_wp2_with fail
        go_ret2
        exact ⟨ret_ib' HN.out.symm HO.out.symm, HB1.out.alloc HB1.out.size _⟩
      · have HO : Hid (ok = true) := by show _ = _; rw [HOK.out, HL1.out]; exact decide_eq_true (by omega)
        have HN : Hid (N = A + (n - A + 1 - 1) / 1 * 1) := by show _ = _; rw [HNY.out HO.out, HL1.out]
        clear key hS cs c
        go_enter Tryz.func53, Tryz.ntmps53
        go_wp2_with fail
        refine (HIH.out _).mono ?_
        rintro e w1 ⟨rfl, hb1⟩
        have hz : w.heap.size + 1 < w1.heap.size := by have := hb1.size; simp at this; omega
        have hc : ∀ o : Obj, (w1.alloc o).cell? ⟨w.heap.size, 2, none⟩ = some (.int .i64 0) := fun o => ((((Blk.new w 58 #[.int .i64 a, .int .i64 b, .int .i64 0]).alloc (.cells #[.int .i64 (lo f), .int .i64 (hi f)] 61)).below hb1 (by simp; omega)).alloc o).cell 2
        have HB1 := Lib.hid (more3 (((Below.refl w.heap.size w).alloc (Nat.le_refl _) _).alloc (by simp) _) (by simp; omega) hb1)
        clear hb1
        go_wp2_with fail
        go_ret2
        exact ⟨ret_ib' (by have := HN.out; omega) HO.out.symm, HB1.out.alloc HB1.out.size _⟩
    · have cs' : 1 ≤ s := by omega
      have hS : S = s := by rw [HS.out]; omega
      clear cs
      obtain ⟨k0, k1, k2, k3⟩ := key s hS (by omega) (by omega)
      have HL1 : Hid (L = A + (n - A + s - 1) / s * s) := by show _ = _; rw [HL.out, hS]
      by_cases cb : B < A + (n - A + s - 1) / s * s
      · have HO : Hid (ok = false) := by show _ = _; rw [HOK.out, HL1.out]; exact decide_eq_false (by omega)
        have HN := Lib.hid (HNN.out HO.out)
        clear key hS c
        go_enter Tryz.func53, Tryz.ntmps53
        go_wp2_with fail
        refine (HIH.out _).mono ?_
        rintro e w1 ⟨rfl, hb1⟩
        have hz : w.heap.size + 1 < w1.heap.size := by have := hb1.size; simp at this; omega
        have hc : ∀ o : Obj, (w1.alloc o).cell? ⟨w.heap.size, 2, none⟩ = some (.int .i64 s) := fun o => ((((Blk.new w 58 #[.int .i64 a, .int .i64 b, .int .i64 s]).alloc (.cells #[.int .i64 (lo f), .int .i64 (hi f)] 61)).below hb1 (by simp; omega)).alloc o).cell 2
        have HB1 := Lib.hid (more3 (((Below.refl w.heap.size w).alloc (Nat.le_refl _) _).alloc (by simp) _) (by simp; omega) hb1)
        clear hb1
        go_wp2_with fail
        go_ret2
        exact ⟨ret_ib' HN.out.symm HO.out.symm, HB1.out.alloc HB1.out.size _⟩
      · have HO : Hid (ok = true) := by show _ = _; rw [HOK.out, HL1.out]; exact decide_eq_true (by omega)
        have HN : Hid (N = A + (n - A + s - 1) / s * s) := by show _ = _; rw [HNY.out HO.out, HL1.out]
        clear key hS c
        go_enter Tryz.func53, Tryz.ntmps53
        go_wp2_with fail
        refine (HIH.out _).mono ?_
        rintro e w1 ⟨rfl, hb1⟩
        have hz : w.heap.size + 1 < w1.heap.size := by have := hb1.size; simp at this; omega
        have hc : ∀ o : Obj, (w1.alloc o).cell? ⟨w.heap.size, 2, none⟩ = some (.int .i64 s) := fun o => ((((Blk.new w 58 #[.int .i64 a, .int .i64 b, .int .i64 s]).alloc (.cells #[.int .i64 (lo f), .int .i64 (hi f)] 61)).below hb1 (by simp; omega)).alloc o).cell 2
        have HB1 := Lib.hid (more3 (((Below.refl w.heap.size w).alloc (Nat.le_refl _) _).alloc (by simp) _) (by simp; omega) hb1)
        clear hb1
        go_wp2_with fail
        go_ret2
        exact ⟨ret_ib' HN.out.symm HO.out.symm, HB1.out.alloc HB1.out.size _⟩
end Go.Proofs.YtncolcjejgmhjaaGreatDoor
