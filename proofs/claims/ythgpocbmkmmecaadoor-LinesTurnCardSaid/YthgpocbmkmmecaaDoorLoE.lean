/- The walk of the law LinesTurn. -/
import Derived.Test.YthgpocbmkmmecaaDoorLoC
import Derived.Test.YthgpocbmkmmecaaDoorLnQ
import Derived.IntWalk
namespace Go.Proofs.YthgpocbmkmmecaaDoor
open Go.RowKit

theorem rise_at {l : List Ln} (h : (l.map Ln.n).Pairwise (· < ·)) {k : Nat} {x y : Ln} (hx : l[k + 1]? = some x) (hy : l[k]? = some y) : decide (x.n ≤ y.n) = false := by
  obtain ⟨h1, e1⟩ := List.getElem?_eq_some_iff.1 hx
  obtain ⟨h2, e2⟩ := List.getElem?_eq_some_iff.1 hy
  have := List.pairwise_iff_getElem.1 h k (k + 1) (by rw [List.length_map]; exact h2) (by rw [List.length_map]; exact h1) (by omega)
  rw [List.getElem_map, List.getElem_map, e1, e2] at this
  rw [decide_eq_false_iff_not]
  omega
set_option maxRecDepth 100000 in
set_option maxHeartbeats 8000000 in
theorem LinesTurn_any (A : Option Addr) (n c : Nat) (l : List Ln) (w : World) (h : LnsAt w w.heap.size A n l) (hz : ∀ x ∈ l, SizeLn x) : Calls Tryd.prog 5 #[.slice A n c] w fun e w' => e = .returned (.bool true) ∧ Below w.heap.size w w' := by
  have HL := Lib.hid h
  have HZ := Lib.hid hz
  clear h hz
  rcases hm : mayT l with _ | _
  · have HM := Lib.hid hm
    have HN := Lib.hid (format_no hm)
    have he : (str ([] : List UInt8)).toList.isEmpty = true := by rw [isEmp_str]; rfl
    clear hm
    go_enter Tryd.func5, Tryd.ntmps5
    go_wp2_with fail
    refine (shown_any _).mono ?_
    rintro e w0 ⟨rfl, hb0⟩
    have Hb0 := Lib.hid hb0
    clear hb0
    go_wp2_with fail
    refine (Print_any A n c w.heap.size l _ (HL.out.below Hb0.out) Hb0.out.size HZ.out).mono ?_
    rintro e w1 ⟨rfl, hb1⟩
    rw [HN.out]
    have Hb1 := Lib.hid (more3 Hb0.out Hb0.out.size hb1)
    clear hb1
    go_wp2_with fail
    refine (May_any A n c w.heap.size l _ (HL.out.below Hb1.out) Hb1.out.size HZ.out).mono ?_
    rintro e w2 ⟨rfl, hb2⟩
    rw [HM.out]
    have Hb2 := Lib.hid (more3 Hb1.out Hb1.out.size hb2)
    clear hb2
    go_wp2_with fail
    go_ret
    exact ⟨ret_bool (by simp), Hb2.out⟩
  · obtain ⟨l', hp, hbare, hrise⟩ := parse_write l hm
    have HM := Lib.hid hm
    have HN : Hid (printT l = writeT l) := by show _ = _; unfold printT; rw [hm, if_pos rfl]
    have HP : Hid (parseT (str (writeT l)).data.toList = (l', 0, 0)) := hp
    have HBA : Hid (decide (l.map bare = l'.map bare) = true) := by show _ = _; rw [hbare]; simp
    have HRI := Lib.hid hrise
    clear hm hp hbare hrise
    go_enter Tryd.func5, Tryd.ntmps5
    go_wp2_with fail
    refine (shown_any _).mono ?_
    rintro e w0 ⟨rfl, hb0⟩
    have Hb0 := Lib.hid hb0
    clear hb0
    go_wp2_with fail
    refine (Print_any A n c w.heap.size l _ (HL.out.below Hb0.out) Hb0.out.size HZ.out).mono ?_
    rintro e w1 ⟨rfl, hb1⟩
    rw [HN.out]
    have Hb1 := Lib.hid (more3 Hb0.out Hb0.out.size hb1)
    clear hb1
    go_wp2_with fail
    refine (May_any A n c w.heap.size l _ (HL.out.below Hb1.out) Hb1.out.size HZ.out).mono ?_
    rintro e w2 ⟨rfl, hb2⟩
    rw [HM.out]
    have Hb2 := Lib.hid (more3 Hb1.out Hb1.out.size hb2)
    clear hb2
    go_wp2_with fail
    refine (Parse_any _ _).mono ?_
    rintro e w3 ⟨A2, n2, c2, rfl, hL2, hb3⟩
    rw [HP.out] at hL2 ⊢
    have HL2 : Hid (LnsAt w3 w3.heap.size A2 n2 l') := hL2
    have hn2 : l'.length = n2 := HL2.out.1
    have hm2 : n2 ≤ 9223372036854775807 := HL2.out.2.1
    have Hb3 := Lib.hid (more3 Hb2.out Hb2.out.size hb3)
    have HF : Hid (Blk (w3.alloc (.cells #[.int .i64 0, .int .i64 0] 26)) w3.heap.size 26 #[.int .i64 0, .int .i64 0]) := Blk.new w3 _ _
    have Hb4 : Hid (Below w.heap.size w (w3.alloc (.cells #[.int .i64 0, .int .i64 0] 26))) := Hb3.out.alloc Hb3.out.size _
    have HL4 : Hid (LnsAt (w3.alloc (.cells #[.int .i64 0, .int .i64 0] 26)) w3.heap.size A2 n2 l') := HL2.out.below ((Below.refl _ w3).alloc (Nat.le_refl _) _)
    have hs3 : w.heap.size ≤ w3.heap.size := Hb3.out.size
    clear hL2 hb3
    go_wp2_with fail
    generalize hw4 : w3.alloc (.cells #[.int .i64 0, .int .i64 0] 26) = w4 at *
    have hs4 : w4.heap.size = w3.heap.size + 1 := by rw [← hw4]; simp
    clear hw4
    go_loopw [6] (fun i wr => ∃ k j : Nat, 1 ≤ k ∧ k ≤ n2 + 1 ∧ i = .int .i64 k ∧ wr = w4.drewN j) (fun i wr => n2 + 1 - (intOf i).toNat)
    case atStart => exact ⟨1, 0, Nat.le_refl _, by omega, rfl, rfl⟩
    case round =>
      obtain ⟨k, j, hk1, hk, rfl, rfl⟩ := hrel
      by_cases hlt : k < n2
      · have b0 : (0 : Int) ≤ (k : Int) := by omega
        have b1 : (k : Int) < (n2 : Int) := by omega
        have b2 : (0 : Int) ≤ (k : Int) - 1 := by omega
        have b2' : (1 : Int) ≤ (k : Int) := by omega
        have b3 : (k : Int) - 1 < (n2 : Int) := by omega
        obtain ⟨ad, x, rfl, _, hx, q0, q1, q2, q3⟩ := HL4.out.at_ hlt
        obtain ⟨ad', y, hA, _, hy, p0, p1, p2, p3⟩ := HL4.out.at_ (k := k - 1) (by omega)
        injection hA with hA
        subst hA
        have hd := rise_at HRI.out (k := k - 1) (by rw [show k - 1 + 1 = k by omega]; exact hx) hy
        have s1 : IntKind.i64.wrap ((k : Int) - 1) = (k : Int) - 1 := IntWalk.i64_in _ (by omega)
        have s2 : ((k : Int) - 1).toNat = k - 1 := by omega
        clear hx hy
        go_wp2_with fail
        go_region
        all_goals
          clear s1 s2
          go_wp2_with fail
          go_roundw
          case rel => exact ⟨k + 1, j + 1, by omega, by omega, by go_num, rfl⟩
          case measure => simp [intOf]; omega
      · have b1 : (n2 : Int) ≤ (k : Int) := by omega
        have f0 : w4.cell? ⟨w3.heap.size, 0, none⟩ = some (.int .i64 0) := HF.out.cell 0
        have f1 : w4.cell? ⟨w3.heap.size, 1, none⟩ = some (.int .i64 0) := HF.out.cell 1
        have r1 := fun W : World => run_eql_fault W 0 0 0 0
        go_wp2_with fail
        refine (same_any A A2 n n2 _ _ w.heap.size w3.heap.size l l' _ ((HL.out.below Hb4.out).drewN j) (HL4.out.drewN j) (by simp; omega) (by simp; omega)).mono ?_
        rintro e w5 ⟨rfl, hb5⟩
        rw [HBA.out]
        have Hb5 := Lib.hid (more3 (below_drewN Hb4.out j) (by simp; omega) hb5)
        clear hb5
        go_wp2_with fail
        go_ret
        exact ⟨ret_bool (by simp), Hb5.out⟩
end Go.Proofs.YthgpocbmkmmecaaDoor
