/- The walk of the laws' own same: lines alike but for their numbers. -/
import Derived.Test.YthgpocbmkmmecaaDoorLnO
import Derived.BigRegion
namespace Go.Proofs.YthgpocbmkmmecaaDoor
open Go.RowKit

theorem bare_at {l : List Ln} {k : Nat} {x : Ln} (h : l[k]? = some x) : (l.map bare)[k]? = some (bare x) := by rw [List.getElem?_map, h]; rfl
set_option maxHeartbeats 8000000 in
theorem same_any (A A' : Option Addr) (n n' c c' B B' : Nat) (l l' : List Ln) (w : World) (h : LnsAt w B A n l) (h' : LnsAt w B' A' n' l') (hB : B ≤ w.heap.size) (hB' : B' ≤ w.heap.size) :
    Calls Tryd.prog 18 #[.slice A n c, .slice A' n' c'] w fun e w' => e = .returned (.bool (decide (l.map bare = l'.map bare))) ∧ Below w.heap.size w w' := by
  have hm := h.2.1
  unfold maxLen at hm
  by_cases hn : n = n'
  · subst hn
    have hnn : ((n : Int) != (n : Int)) = false := by simp
    have HL := Lib.hid h
    have HL' := Lib.hid h'
    have hl := h.1
    have hl' := h'.1
    clear h h'
    go_enter Tryd.func18, Tryd.ntmps18
    go_wp2_with fail
    go_loopw [15] (fun i wr => ∃ k : Nat, k ≤ n ∧ i = .int .i64 k ∧ Hid (Below w.heap.size w wr) ∧ Hid ((l.map bare).take k = (l'.map bare).take k)) (fun i wr => n - (intOf i).toNat)
    case atStart => exact ⟨0, Nat.zero_le _, rfl, Below.refl _ _, rfl⟩
    case round =>
      obtain ⟨k, hk, rfl, hb, htk⟩ := hrel
      have hbs : w.heap.size ≤ wr.heap.size := hb.out.size
      by_cases hlt : k < n
      · have b0 : (0 : Int) ≤ (k : Int) := by omega
        have b1 : (k : Int) < (n : Int) := by omega
        obtain ⟨ad, x, rfl, hab, hx, q0, q1, q2, q3⟩ := (HL.out.below (hb.out.mono hB)).at_ hlt
        obtain ⟨ad', x', rfl, hab', hx', p0, p1, p2, p3⟩ := (HL'.out.below (hb.out.mono hB')).at_ hlt
        have z1 : (ad.add (k * 4)).block < wr.heap.size := by rw [block_addW]; omega
        have z2 : (ad'.add (k * 4)).block < wr.heap.size := by rw [block_addW]; omega
        have hq : ∀ w : World, (binOp .neq 34 (.agg #[.string (str x.s), .string (str x.k), .string (str x.v), .int .i64 0]) (.agg #[.string (str x'.s), .string (str x'.k), .string (str x'.v), .int .i64 0])).run Tryd.prog w = .ok (.bool (!sameL (bare x) (bare x'))) w := neq_ln (bare x) (bare x')
        rcases hs : sameL (bare x) (bare x') with _ | _
        · have hxx : ¬ bare x = bare x' := by unfold sameL at hs; simpa using hs
          have HT : Hid (decide (l.map bare = l'.map bare) = false) := by
            show _ = _
            rw [decide_eq_false_iff_not]
            intro e
            have e1 := bare_at hx
            rw [e, bare_at hx'] at e1
            injection e1 with e1
            exact hxx e1.symm
          clear hx hx' hxx
          go_wp2_with fail
          go_region
          all_goals
            go_wp2_with fail
            go_ret
            exact ⟨ret_bool HT.out.symm, below_drewN ((hb.out.alloc hbs _).alloc (by simp; omega) _) 1⟩
        · have hxx : bare x = bare x' := by unfold sameL at hs; simpa using hs
          have HT : Hid ((l.map bare).take (k + 1) = (l'.map bare).take (k + 1)) := by
            show _ = _
            rw [List.take_add_one, List.take_add_one, htk.out, bare_at hx, bare_at hx', hxx]
          clear hx hx' hxx
          go_wp2_with fail
          go_region
          all_goals
            go_wp2_with fail
            go_roundw
            case rel => exact ⟨k + 1, by omega, by go_num, below_drewN ((hb.out.alloc hbs _).alloc (by simp; omega) _) 1, HT⟩
            case measure => simp [intOf]; omega
      · obtain rfl : k = n := by omega
        have HT : Hid (decide (l.map bare = l'.map bare) = true) := by
          show _ = _
          rw [decide_eq_true_eq]
          have := htk.out
          rwa [List.take_of_length_le (by rw [List.length_map]; omega), List.take_of_length_le (by rw [List.length_map]; omega)] at this
        go_wp2_with fail
        go_ret
        exact ⟨ret_bool HT.out.symm, hb.out⟩
  · have hnn : ((n : Int) != (n' : Int)) = true := by simp; omega
    have HT : Hid (decide (l.map bare = l'.map bare) = false) := by
      show _ = _
      rw [decide_eq_false_iff_not]
      intro e
      have h1 := h.1
      have h2 := h'.1
      have h3 := congrArg List.length e
      rw [List.length_map, List.length_map] at h3
      omega
    clear h h' hn
    go_enter Tryd.func18, Tryd.ntmps18
    go_wp2_with fail
    go_ret
    exact ⟨ret_bool HT.out.symm, Below.refl _ _⟩
end Go.Proofs.YthgpocbmkmmecaaDoor
