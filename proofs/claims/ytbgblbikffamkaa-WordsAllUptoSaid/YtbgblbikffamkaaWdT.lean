/- The walks of the document's Same, of slices.ContainsFunc at hasZero, and of the developers' Join. -/
import Derived.Test.YtbgblbikffamkaaWdS
import Derived.Test.YtbgblbikffamkaaWdJ
namespace Go.Proofs.Ytbgblbikffamkaa
open Go.RowKit

theorem RowAt.at_ {w : World} {B n : Nat} {A : Option Addr} {l : List (List UInt8)} (h : RowAt w B A n l) {k : Nat} (hk : k < n) : ∃ ad x, A = some ad ∧ ad.block < B ∧ l[k]? = some x ∧ w.cell? (ad.add k) = some (.string (str x)) := by
  obtain ⟨ad, e, hB, hc⟩ := h.2.2 (by omega)
  have hl : k < l.length := by have := h.1; omega
  exact ⟨ad, l[k], e, hB, List.getElem?_eq_getElem hl, hc k _ (List.getElem?_eq_getElem hl)⟩
theorem RowAt.drewN {w : World} {B n : Nat} {A : Option Addr} {l : List (List UInt8)} (h : RowAt w B A n l) (j : Nat) : RowAt (w.drewN j) B A n l := h
theorem str_inj {a b : List UInt8} : str a = str b ↔ a = b := ⟨fun h => by have := congrArg (fun s => s.data.toList) h; exact this, fun h => by rw [h]⟩

set_option maxHeartbeats 4000000 in
theorem Same5_any (A A' : Option Addr) (n n' c c' B : Nat) (l l' : List (List UInt8)) (w : World) (h : RowAt w B A n l) (h' : RowAt w B A' n' l') :
    Calls Try.prog 11 #[.slice A n c, .slice A' n' c'] w fun e w' => e = .returned (.bool (decide (l = l'))) ∧ ∃ j, w' = w.drewN j := by
  have hm := h.2.1
  unfold maxLen at hm
  by_cases hn : n = n'
  · subst hn
    have hnn : ((n : Int) != (n : Int)) = false := by simp
    have HL := Lib.hid h
    have HL' := Lib.hid h'
    have hl := h.1
    have hl' := h'.1
    clear h h'
    go_enter Try.func11, Try.ntmps11
    go_wp2_with fail
    go_loopw [13] (fun i wr => ∃ k j : Nat, k ≤ n ∧ i = .int .i64 k ∧ wr = w.drewN j ∧ Hid (l.take k = l'.take k)) (fun i wr => n - (intOf i).toNat)
    case atStart => exact ⟨0, 0, Nat.zero_le _, rfl, rfl, rfl⟩
    case round =>
      obtain ⟨k, j, hk, rfl, rfl, htk⟩ := hrel
      by_cases hlt : k < n
      · have b0 : (0 : Int) ≤ (k : Int) := by omega
        have b1 : (k : Int) < (n : Int) := by omega
        obtain ⟨ad, x, rfl, _, hx, hc⟩ := HL.out.at_ hlt
        obtain ⟨ad', x', rfl, _, hx', hc'⟩ := HL'.out.at_ hlt
        by_cases hxx : x = x'
        · subst hxx
          have HT : Hid (l.take (k + 1) = l'.take (k + 1)) := by
            show _ = _
            rw [List.take_add_one, List.take_add_one, htk.out, hx, hx']
          have hq : ((str x).toList == (str x).toList) = true := by simp
          clear hx hx'
          go_wp2_with fail
          go_region
          all_goals
            go_wp2_with fail
            go_roundw
            case rel => exact ⟨k + 1, j + 1, by omega, by go_num, rfl, HT⟩
            case measure => simp [intOf]; omega
        · have HT : Hid (decide (l = l') = false) := by
            show _ = _
            rw [decide_eq_false_iff_not]
            intro e
            rw [e, hx'] at hx
            injection hx with hx
            exact hxx hx.symm
          have hq : ((str x).toList == (str x').toList) = false := by
            rw [beq_str, decide_eq_false_iff_not, str_inj]
            exact hxx
          clear hx hx' hxx
          go_wp2_with fail
          go_region
          all_goals
            go_wp2_with fail
            go_ret
            exact ⟨ret_bool HT.out.symm, j + 1, rfl⟩
      · obtain rfl : k = n := by omega
        have HT : Hid (decide (l = l') = true) := by
          show _ = _
          rw [decide_eq_true_eq]
          have := htk.out
          rwa [List.take_of_length_le (by omega), List.take_of_length_le (by omega)] at this
        go_wp2_with fail
        go_ret
        exact ⟨ret_bool HT.out.symm, j, rfl⟩
  · have hnn : ((n : Int) != (n' : Int)) = true := by simp; omega
    have HT : Hid (decide (l = l') = false) := by
      show _ = _
      rw [decide_eq_false_iff_not]
      intro e
      have h1 := h.1
      have h2 := h'.1
      rw [e] at h1
      omega
    clear h h' hn
    go_enter Try.func11, Try.ntmps11
    go_wp2_with fail
    go_ret
    exact ⟨ret_bool HT.out.symm, 0, rfl⟩

theorem zero_take {l : List (List UInt8)} {k : Nat} {x : List UInt8} (h : zeroW (l.take k) = false) (hx : l[k]? = some x) (hz : (x.any fun c => c == 0) = false) : zeroW (l.take (k + 1)) = false := by
  rw [List.take_add_one, hx]
  unfold zeroW at *
  rw [List.any_append, h]
  simpa using hz
theorem zero_yes {l : List (List UInt8)} {k : Nat} {x : List UInt8} (hx : l[k]? = some x) (hz : (x.any fun c => c == 0) = true) : zeroW l = true := by
  unfold zeroW
  rw [List.any_eq_true]
  exact ⟨x, List.mem_of_getElem? hx, hz⟩

set_option maxHeartbeats 4000000 in
theorem IndexZero_any (A : Option Addr) (n c B : Nat) (l : List (List UInt8)) (w : World) (h : RowAt w B A n l) :
    Calls Try.prog 30 #[.slice A n c, .func (.func 20) #[] #[]] w fun e w' => ∃ i : Int, e = .returned (.int .i64 i) ∧ decide (0 ≤ i) = zeroW l ∧ w = w' := by
  have hm := h.2.1
  unfold maxLen at hm
  have HL := Lib.hid h
  have hl := h.1
  clear h
  go_enter Try.func30, Try.ntmps30
  go_wp2_with fail
  go_loop [8] (fun i => ∃ k : Nat, k ≤ n ∧ i = .int .i64 k ∧ Hid (zeroW (l.take k) = false)) (fun i => n - (intOf i).toNat)
  case atStart => exact ⟨0, Nat.zero_le _, rfl, rfl⟩
  case round =>
    obtain ⟨k, hk, rfl, htk⟩ := hrel
    by_cases hlt : k < n
    · have b0 : (0 : Int) ≤ (k : Int) := by omega
      have b1 : (k : Int) < (n : Int) := by omega
      obtain ⟨ad, x, rfl, _, hx, hc⟩ := HL.out.at_ hlt
      cases hz : (x.any fun c => c == 0) with
      | true =>
        have HZ := Lib.hid (zero_yes hx hz)
        have HY := Lib.hid hz
        clear hx hz
        go_wp2_with (go_at_call 20; refine (hasZero_any _ _).mono ?_; rintro e w' ⟨rfl, rfl⟩; rw [str_list, HY.out])
        go_ret
        exact ⟨k, rfl, by rw [HZ.out]; simp, rfl⟩
      | false =>
        have HZ := Lib.hid (zero_take htk.out hx hz)
        have HY := Lib.hid hz
        clear hx hz
        go_wp2_with (go_at_call 20; refine (hasZero_any _ _).mono ?_; rintro e w' ⟨rfl, rfl⟩; rw [str_list, HY.out])
        go_round
        case rel => exact ⟨k + 1, by omega, by go_num, HZ⟩
        case measure => simp [intOf]; omega
    · obtain rfl : k = n := by omega
      have HZ : Hid (zeroW l = false) := by
        have := htk.out
        rwa [List.take_of_length_le (by omega)] at this
      go_wp2_with fail
      go_ret
      exact ⟨-1, rfl, by rw [HZ.out]; rfl, rfl⟩
theorem ContainsZero_any (A : Option Addr) (n c B : Nat) (l : List (List UInt8)) (w : World) (h : RowAt w B A n l) :
    Calls Try.prog 19 #[.slice A n c, .func (.func 20) #[] #[]] w fun e w' => e = .returned (.bool (zeroW l)) ∧ w = w' := by
  go_enter Try.func19, Try.ntmps19
  go_wp2_with fail
  refine (IndexZero_any A n c B l _ h).mono ?_
  rintro e w' ⟨i, rfl, hi, rfl⟩
  have HI := Lib.hid hi
  clear hi
  go_wp2_with fail
  go_ret
  exact ⟨ret_bool HI.out, rfl⟩
end Go.Proofs.Ytbgblbikffamkaa
