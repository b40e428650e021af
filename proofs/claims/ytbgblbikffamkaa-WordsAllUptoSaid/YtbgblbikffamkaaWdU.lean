/- The walk of the developers' Join. -/
import Derived.Test.YtbgblbikffamkaaWdT
namespace Go.Proofs.Ytbgblbikffamkaa
open Go.RowKit

theorem rowW_succ {l : List (List UInt8)} {k : Nat} {x : List UInt8} (hx : l[k]? = some x) : rowW (l.take (k + 1)) = rowW (l.take k) ++ ((if k = 0 then [] else [32]) ++ textW x) := by
  unfold rowW
  rw [List.take_add_one, hx, List.flatMap_append]
  cases k with
  | zero => simp
  | succ k =>
    have hl : k + 1 < l.length := by
      rcases Nat.lt_or_ge (k + 1) l.length with h | h
      · exact h
      · rw [List.getElem?_eq_none h] at hx; cases hx
    match l, hl with
    | a :: l, _ =>
      rw [List.take_succ_cons, List.flatMap_cons]
      simp
theorem rowW_le {l : List (List UInt8)} (k : Nat) : (rowW (l.take k)).length ≤ (rowW l).length := by
  unfold rowW
  have h : l = l.take k ++ l.drop k := (List.take_append_drop _ _).symm
  have h2 := congrArg (fun l => (List.flatMap (fun w => 32 :: textW w) l).length) h
  simp only [List.flatMap_append, List.length_append] at h2
  rw [List.length_drop, List.length_drop]
  omega
theorem rowW_step {l : List (List UInt8)} {k : Nat} {x : List UInt8} (hx : l[k]? = some x) : (rowW (l.take k)).length + (if k = 0 then 0 else 1) + (textW x).length ≤ (rowW l).length := by
  have h1 := rowW_le (l := l) (k + 1)
  rw [rowW_succ hx, List.length_append, List.length_append] at h1
  split at h1 <;> rename_i hk
  · rw [if_pos hk]; simp at h1; omega
  · rw [if_neg hk]; simp at h1; omega
theorem textW_safe {x : List UInt8} (h : safeS (str x) = true) : textW x = x := by
  unfold textW
  rw [if_pos (show safeW x = true from h)]
theorem textW_quo {x : List UInt8} (h : safeS (str x) = false) : textW x = quoW (str x).data.toList := by
  unfold textW
  rw [if_neg (by rw [show safeW x = safeS (str x) from rfl, h]; simp)]
  rfl

set_option maxHeartbeats 8000000 in
theorem Join_row (A : Option Addr) (n c B : Nat) (l : List (List UInt8)) (w : World) (h : RowAt w B A n l) (hB : B ≤ w.heap.size) (hn : n ≤ 32) (hz : zeroW l = false) (hsz : ∀ x ∈ l, x.length ≤ maxLen) (hrow : (rowW l).length ≤ 140737488355328) :
    Calls Try.prog 12 #[.slice A n c] w fun e w' => e = .returned (.string (str (rowW l))) ∧ Below w.heap.size w w' := by
  have hfresh := Lib.hid (Lib.IsBuilderF.of (Lib.fresh_isBuilder 47 5 w))
  have HL := Lib.hid h
  have HZ := Lib.hid hz
  have HS := Lib.hid hsz
  have hl := h.1
  have n32 : decide ((32 : Int) < (n : Int)) = false := by simp; omega
  have n32' : (n : Int) ≤ 32 := by omega
  clear h hz hsz
  go_enter Try.func12, Try.ntmps12
  go_wp2_with fail
  refine (ContainsZero_any A n c B l _ HL.out).mono ?_
  rintro e w' ⟨rfl, rfl⟩
  rw [HZ.out]
  go_wp2_with fail
  go_loopw [15] (fun i wr => ∃ k : Nat, k ≤ n ∧ i = .int .i64 k ∧ Hid (Lib.IsBuilderF 47 5 w.heap.size w.heap.size (Lib.byteCells (rowW (l.take k))) wr) ∧ Hid (Below w.heap.size w wr)) (fun i wr => n - (intOf i).toNat)
  case atStart => exact ⟨0, Nat.zero_le _, rfl, hfresh, (Below.refl _ _).alloc (Nat.le_refl _) _⟩
  case round =>
    obtain ⟨k, hk, rfl, hBu, hb⟩ := hrel
    have hbs : w.heap.size ≤ wr.heap.size := hb.out.size
    by_cases hlt : k < n
    · have b0 : (0 : Int) ≤ (k : Int) := by omega
      have b1 : (k : Int) < (n : Int) := by omega
      obtain ⟨ad, x, rfl, _, hx, hc⟩ := ((HL.out.below (hb.out.mono hB))).at_ hlt
      have hxm := HS.out x (List.mem_of_getElem? hx)
      have hstep := rowW_step hx
      have HE := Lib.hid (rowW_succ hx)
      clear hx
      have hxs : (str x).size ≤ maxLen := hxm
      by_cases hk0 : k = 0
      · subst hk0
        rw [if_pos rfl] at hstep
        have hc0 : wr.cell? ad = some (.string (str x)) := by simpa [Addr.add] using hc
        cases hsf : safeS (str x) with
        | true =>
          have ht := textW_safe hsf
          rw [ht] at hstep
          have HF : Hid (Lib.byteCells (rowW (l.take 0)) ++ Lib.strCells (str x) = Lib.byteCells (rowW (l.take (0 + 1)))) := by
            show _ = _
            rw [HE.out, ht, cells_add]; rfl
          have hlen : (Lib.byteCells (rowW (l.take 0))).length + (str x).size ≤ 140737488355328 := by rw [cellsW_len, str_size]; omega
          have HQ := Lib.hid hsf
          clear ht hstep hsf hxm
          go_wp2_with fail
          refine (isPlainW_any _ hxs _).mono ?_
          rintro e w' ⟨rfl, rfl⟩
          rw [HQ.out]
          go_wp2_with fail
          refine (writeString_any _ _ _ _ _ hBu.out hlen hbs).mono ?_
          rintro e w1 ⟨rfl, hB1, hb1⟩
          rw [HF.out] at hB1
          have HB1 := Lib.hid hB1
          have Hb1 := Lib.hid (hb.out.trans hb1)
          clear hB1 hb1
          go_wp2_with fail
          go_roundw
          case rel => exact ⟨0 + 1, by omega, by go_num, HB1, Hb1⟩
          case measure => simp [intOf]; omega
        | false =>
          have ht := textW_quo hsf
          rw [ht] at hstep
          have HF : Hid (Lib.byteCells (rowW (l.take 0) ++ quoW (str x).data.toList) = Lib.byteCells (rowW (l.take (0 + 1)))) := by
            show _ = _
            rw [HE.out, ht]; rfl
          have hlen : (rowW (l.take 0)).length + (quoW (str x).data.toList).length ≤ 140737488355328 := by omega
          have HQ := Lib.hid hsf
          clear ht hstep hsf hxm
          go_wp2_with fail
          refine (isPlainW_any _ hxs _).mono ?_
          rintro e w' ⟨rfl, rfl⟩
          rw [HQ.out]
          go_wp2_with fail
          refine (writeQuoted_any _ _ _ _ _ hxs hBu.out hlen hbs).mono ?_
          rintro e w1 ⟨rfl, hB1, hb1⟩
          rw [HF.out] at hB1
          have HB1 := Lib.hid hB1
          have Hb1 := Lib.hid (hb.out.trans hb1)
          clear hB1 hb1
          go_wp2_with fail
          go_roundw
          case rel => exact ⟨0 + 1, by omega, by go_num, HB1, Hb1⟩
          case measure => simp [intOf]; omega
      · have kp : (0 : Int) < (k : Int) := by omega
        rw [if_neg hk0] at hstep HE
        have hlenb : (Lib.byteCells (rowW (l.take k))).length + 1 ≤ 140737488355328 := by rw [cellsW_len]; omega
        have HF0 : Hid (Lib.byteCells (rowW (l.take k)) ++ [.int .u8 32] = Lib.byteCells (rowW (l.take k) ++ [32])) := by
          show _ = _
          rw [cells_add]; rfl
        cases hsf : safeS (str x) with
        | true =>
          have ht := textW_safe hsf
          rw [ht] at hstep
          have HF : Hid (Lib.byteCells (rowW (l.take k) ++ [32]) ++ Lib.strCells (str x) = Lib.byteCells (rowW (l.take (k + 1)))) := by
            show _ = _
            rw [HE.out, ht, ← List.append_assoc, cells_add (rowW (l.take k) ++ [32])]; rfl
          have hlen : (Lib.byteCells (rowW (l.take k) ++ [32])).length + (str x).size ≤ 140737488355328 := by rw [cellsW_len, str_size, List.length_append]; simp only [List.length_singleton]; omega
          have HQ := Lib.hid hsf
          clear ht hstep hsf hxm hk0
          go_wp2_with fail
          refine (writeByte_any _ _ _ _ _ hBu.out hlenb hbs).mono ?_
          rintro e w0 ⟨rfl, hB0, hb0⟩
          rw [HF0.out] at hB0
          have HB0 := Lib.hid hB0
          have Hb0 := Lib.hid (hb.out.trans hb0)
          have hbs0 : w.heap.size ≤ w0.heap.size := Hb0.out.size
          clear hB0 hb0
          go_wp2_with fail
          refine (isPlainW_any _ hxs _).mono ?_
          rintro e w' ⟨rfl, rfl⟩
          rw [HQ.out]
          go_wp2_with fail
          refine (writeString_any _ _ _ _ _ HB0.out hlen hbs0).mono ?_
          rintro e w1 ⟨rfl, hB1, hb1⟩
          rw [HF.out] at hB1
          have HB1 := Lib.hid hB1
          have Hb1 := Lib.hid (Hb0.out.trans hb1)
          clear hB1 hb1
          go_wp2_with fail
          go_roundw
          case rel => exact ⟨k + 1, by omega, by go_num, HB1, Hb1⟩
          case measure => simp [intOf]; omega
        | false =>
          have ht := textW_quo hsf
          rw [ht] at hstep
          have HF : Hid (Lib.byteCells ((rowW (l.take k) ++ [32]) ++ quoW (str x).data.toList) = Lib.byteCells (rowW (l.take (k + 1)))) := by
            show _ = _
            rw [HE.out, ht, List.append_assoc]
          have hlen : (rowW (l.take k) ++ [32]).length + (quoW (str x).data.toList).length ≤ 140737488355328 := by rw [List.length_append]; simp only [List.length_singleton]; omega
          have HQ := Lib.hid hsf
          clear ht hstep hsf hxm hk0
          go_wp2_with fail
          refine (writeByte_any _ _ _ _ _ hBu.out hlenb hbs).mono ?_
          rintro e w0 ⟨rfl, hB0, hb0⟩
          rw [HF0.out] at hB0
          have HB0 := Lib.hid hB0
          have Hb0 := Lib.hid (hb.out.trans hb0)
          have hbs0 : w.heap.size ≤ w0.heap.size := Hb0.out.size
          clear hB0 hb0
          go_wp2_with fail
          refine (isPlainW_any _ hxs _).mono ?_
          rintro e w' ⟨rfl, rfl⟩
          rw [HQ.out]
          go_wp2_with fail
          refine (writeQuoted_any _ _ _ _ _ hxs HB0.out hlen hbs0).mono ?_
          rintro e w1 ⟨rfl, hB1, hb1⟩
          rw [HF.out] at hB1
          have HB1 := Lib.hid hB1
          have Hb1 := Lib.hid (Hb0.out.trans hb1)
          clear hB1 hb1
          go_wp2_with fail
          go_roundw
          case rel => exact ⟨k + 1, by omega, by go_num, HB1, Hb1⟩
          case measure => simp [intOf]; omega
    · obtain rfl : k = n := by omega
      have HE : Hid (rowW (l.take k) = rowW l) := by show _ = _; rw [List.take_of_length_le (by omega)]
      rw [HE.out] at hBu
      go_wp2_with fail
      refine (Try.Builder_String_any_k _ _ _ _ hBu.out hbs).mono ?_
      rintro e w1 ⟨rfl, hB1, hb1, _⟩
      go_wp2_with fail
      go_ret
      exact ⟨rfl, hb.out.trans hb1⟩

set_option maxHeartbeats 2000000 in
theorem Join_any (A : Option Addr) (n c B : Nat) (l : List (List UInt8)) (w : World) (h : RowAt w B A n l) (hB : B ≤ w.heap.size) (hsz : ∀ x ∈ l, x.length ≤ maxLen) (hrow : n ≤ 32 → (rowW l).length ≤ 140737488355328) :
    Calls Try.prog 12 #[.slice A n c] w fun e w' => e = .returned (.string (str (joinW l))) ∧ Below w.heap.size w w' := by
  have hl := h.1
  by_cases hn : n ≤ 32
  · cases hz : zeroW l with
    | false =>
      have e : joinW l = rowW l := by unfold joinW; rw [if_neg (by rw [hz, hl]; simp; omega)]
      rw [e]
      exact Join_row A n c B l w h hB hn hz hsz (hrow hn)
    | true =>
      have HJ : Hid (joinW l = []) := by show _ = _; unfold joinW; rw [if_pos (.inr hz)]
      have n32 : decide ((32 : Int) < (n : Int)) = false := by simp; omega
      have n32' : (n : Int) ≤ 32 := by omega
      have HZ := Lib.hid hz
      have HL := Lib.hid h
      clear h hz hn
      go_enter Try.func12, Try.ntmps12
      go_wp2_with fail
      refine (ContainsZero_any A n c B l _ HL.out).mono ?_
      rintro e w' ⟨rfl, rfl⟩
      rw [HZ.out]
      go_wp2_with fail
      go_ret
      exact ⟨ret_str (by rw [HJ.out]; rfl), Below.refl _ _⟩
  · have HJ : Hid (joinW l = []) := by show _ = _; unfold joinW; rw [if_pos (.inl (by omega))]
    have n32 : decide ((32 : Int) < (n : Int)) = true := by simp; omega
    have n32' : (32 : Int) < (n : Int) := by omega
    clear h hn
    go_enter Try.func12, Try.ntmps12
    go_wp2_with fail
    go_ret
    exact ⟨ret_str (by rw [HJ.out]; rfl), Below.refl _ _⟩
end Go.Proofs.Ytbgblbikffamkaa
