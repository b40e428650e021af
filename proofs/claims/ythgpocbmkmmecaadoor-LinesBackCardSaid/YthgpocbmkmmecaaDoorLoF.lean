/- The walk of the law LinesBack. -/
import Derived.Test.YthgpocbmkmmecaaDoorLoC
import Derived.Test.YthgpocbmkmmecaaDoorLnQ
import Derived.Test.YthgpocbmkmmecaaDoorLnK
namespace Go.Proofs.YthgpocbmkmmecaaDoor
open Go.RowKit

theorem fold_sizes (ws : List (List UInt8 × Nat)) (sec : List UInt8) (acc l : List Ln) (e i : Nat) (h : foldL sec acc ws = (l, e, i)) (ha : ∀ x ∈ acc, x.v.length ≤ 400) : ∀ x ∈ l, x.v.length ≤ 400 := by
  induction ws generalizing sec acc with
  | nil =>
    rw [foldL] at h
    injection h with h _
    subst h
    exact ha
  | cons p ws ih =>
    obtain ⟨w, j⟩ := p
    rw [foldL] at h
    cases hl : lineL sec w with
    | bad c =>
      rw [hl] at h
      dsimp only at h
      injection h with h _
      subst h
      intro x hx; cases hx
    | skip => rw [hl] at h; exact ih sec acc h ha
    | sect s => rw [hl] at h; exact ih s acc h ha
    | line k v =>
      rw [hl] at h
      obtain ⟨_, _, _, f4, f5, _⟩ := line_facts hl
      refine ih sec _ h (fun x hx => ?_)
      rcases List.mem_append.1 hx with hx | hx
      · exact ha x hx
      · simp only [List.mem_singleton] at hx
        subst hx
        show v.length ≤ 400
        omega
theorem parse_sizes {t : List UInt8} {l : List Ln} {e i : Nat} (h : parseT t = (l, e, i)) : ∀ x ∈ l, x.v.length ≤ 400 := by
  unfold parseT at h
  split at h
  · injection h with h _
    subst h
    intro x hx; cases hx
  · exact fold_sizes _ _ _ _ _ _ h (by simp)
theorem ok_size {x : Ln} (h : okLn x = true) : SizeLn x := by
  have h1 := (ofL_iff.1 (okLn_sec h).1).2.1
  have h2 : x.k.length + 1 + x.v.length ≤ 400 := by
    unfold okLn at h
    simp only [Bool.and_eq_true, decide_eq_true_eq] at h
    exact h.2
  exact ⟨by omega, by omega, by omega⟩
set_option maxRecDepth 100000 in
set_option maxHeartbeats 8000000 in
theorem LinesBack_bad (s : ByteArray) (l : List Ln) (c i : Nat) (hp : parseT s.data.toList = (l, c, i)) (hne : ¬ (c = 0 ∧ i = 0)) (w : World) : Calls Tryd.prog 6 #[.string s] w fun e w' => e = .returned (.bool true) ∧ Below w.heap.size w w' := by
  obtain ⟨rfl, hc⟩ := parse_bad hp (by intro e; injection e with e1 e2; exact hne ⟨e1, e2⟩)
  have HP := Lib.hid hp
  have r1 : ∀ W : World, (binOp .neq 26 (.agg #[.int .i64 c, .int .i64 i]) (.agg #[.int .i64 0, .int .i64 0])).run Tryd.prog W = .ok (.bool true) W := fun W => (run_neq_fault W c i 0 0).trans (by
    have : ((c : Int) == 0) = false := by rw [beq_eq_false_iff_ne]; omega
    rw [this]; rfl)
  have r2 : ((c : Int) != 0) = true := by rw [bne_iff_ne]; omega
  have r3 : (0 : Int) ≤ (i : Int) := by omega
  clear hp hc hne
  go_enter Tryd.func6, Tryd.ntmps6
  go_wp2_with fail
  refine (shown_any _).mono ?_
  rintro e w0 ⟨rfl, hb0⟩
  have Hb0 := Lib.hid hb0
  clear hb0
  go_wp2_with fail
  refine (Parse_any _ _).mono ?_
  rintro e w1 ⟨A, n, cp, rfl, hL, hb1⟩
  rw [HP.out] at hL ⊢
  obtain rfl : n = 0 := hL.1.symm
  have Hb1 := Lib.hid (more3 Hb0.out Hb0.out.size hb1)
  clear hL hb1
  go_wp2_with fail
  go_ret
  exact ⟨ret_bool (by simp), Hb1.out.alloc Hb1.out.size _⟩
set_option maxRecDepth 100000 in
set_option maxHeartbeats 8000000 in
theorem LinesBack_good (s : ByteArray) (l : List Ln) (hp : parseT s.data.toList = (l, 0, 0)) (w : World) : Calls Tryd.prog 6 #[.string s] w fun e w' => e = .returned (.bool true) ∧ Below w.heap.size w w' := by
  have HP := Lib.hid hp
  have r1 := fun W : World => run_neq_fault W 0 0 0 0
  clear hp
  go_enter Tryd.func6, Tryd.ntmps6
  go_wp2_with fail
  refine (shown_any _).mono ?_
  rintro e w0 ⟨rfl, hb0⟩
  have Hb0 := Lib.hid hb0
  clear hb0
  go_wp2_with fail
  refine (Parse_any _ _).mono ?_
  rintro e w1 ⟨A, n, cp, rfl, hL, hb1⟩
  rw [HP.out] at hL ⊢
  have HL : Hid (LnsAt w1 w1.heap.size A n l) := hL
  have hln : l.length = n := HL.out.1
  have hmx : n ≤ 9223372036854775807 := HL.out.2.1
  have Hb1 := Lib.hid (more3 Hb0.out Hb0.out.size hb1)
  have hs1 : w.heap.size ≤ w1.heap.size := Hb1.out.size
  clear hL hb1
  go_wp2_with fail
  clear r1
  go_loopw [35] (fun i wr => ∃ k : Nat, k ≤ n ∧ i = .int .i64 k ∧ Hid (∀ x ∈ l.take k, lastB x.v = false) ∧ Hid (Below w1.heap.size w1 wr)) (fun i wr => n - (intOf i).toNat)
  case atStart => exact ⟨0, Nat.zero_le _, rfl, Lib.hid (fun x hx => by simp at hx), (Below.refl _ _).alloc (Nat.le_refl _) _⟩
  case round =>
    obtain ⟨k, hk, rfl, hlv, hb⟩ := hrel
    have hbs : w1.heap.size ≤ wr.heap.size := hb.out.size
    have b0 : (0 : Int) ≤ (k : Int) := by omega
    by_cases hlt : k < n
    · have b1 : (k : Int) < (n : Int) := by omega
      obtain ⟨ad, x, rfl, hab, hx, q0, q1, q2, q3⟩ := (HL.out.below hb.out).at_ hlt
      have z1 : (ad.add (k * 4)).block < wr.heap.size := by rw [block_addW]; omega
      have Hba : Hid (Below w1.heap.size w1 (wr.alloc (.cells #[.string (str x.s), .string (str x.k), .string (str x.v), .int .i64 x.n] 34))) := hb.out.alloc hbs _
      have hvs : (str x.v).size ≤ 400 := by rw [str_size]; exact parse_sizes HP.out x (List.mem_of_getElem? hx)
      have HT := Lib.hid (take_snocL hx)
      have hnx : ∀ (h : lastB x.v = false), ∀ y ∈ l.take (k + 1), lastB y.v = false := by
        intro h y hy
        rw [HT.out, List.mem_append] at hy
        rcases hy with hy | hy
        · exact hlv.out y hy
        · simp only [List.mem_singleton] at hy; subst hy; exact h
      have HNX := Lib.hid hnx
      clear hnx hx
      by_cases h0 : 0 < (str x.v).size
      · have e0 : decide ((0 : Int) < ((str x.v).size : Int)) = true := by rw [decide_eq_true_eq]; omega
        have e0' : decide (0 < (str x.v).size) = true := by rw [decide_eq_true_eq]; omega
        have b5 : (0 : Int) ≤ ((str x.v).size : Int) - 1 := by omega
        have b6 : ((str x.v).size : Int) - 1 < ((str x.v).size : Int) := by omega
        have b7 : (((str x.v).size : Int) - 1).toNat = (str x.v).size - 1 := by omega
        have hl := lastIs_at (c := 92) h0
        rcases h5 : lastIs 92 (str x.v) with _ | _
        · have e2 : ((((str x.v)[(str x.v).size - 1]'(by omega)).toNat : Int) == 92) = false := hl.symm.trans h5
          have HN := Lib.hid (HNX.out h5)
          clear hl h5
          go_wp2_with fail
          go_roundw
          case rel => exact ⟨k + 1, by omega, by go_num, HN, Hba⟩
          case measure => simp [intOf]; omega
        · have e2 : ((((str x.v)[(str x.v).size - 1]'(by omega)).toNat : Int) == 92) = true := hl.symm.trans h5
          clear hl h5
          go_wp2_with fail
          go_ret
          exact ⟨ret_bool (by simp), more3 Hb1.out Hb1.out.size Hba.out⟩
      · have e0 : decide ((0 : Int) < ((str x.v).size : Int)) = false := by rw [decide_eq_false_iff_not]; omega
        have e0' : decide (0 < (str x.v).size) = false := by rw [decide_eq_false_iff_not]; omega
        have HN := Lib.hid (HNX.out (lastIs_empty (c := 92) (s := str x.v) (by omega)))
        go_wp2_with fail
        go_roundw
        case rel => exact ⟨k + 1, by omega, by go_num, HN, Hba⟩
        case measure => simp [intOf]; omega
    · have b1 : (n : Int) ≤ (k : Int) := by omega
      have Hbw : Hid (Below w.heap.size w wr) := more3 Hb1.out Hb1.out.size hb.out
      have hsw : w.heap.size ≤ wr.heap.size := Hbw.out.size
      by_cases h9 : 9000 < s.size
      · have e9 : decide ((9000 : Int) < (s.size : Int)) = true := by rw [decide_eq_true_eq]; omega
        go_wp2_with fail
        go_ret
        exact ⟨ret_bool (by simp), Hbw.out⟩
      · have e9 : decide ((9000 : Int) < (s.size : Int)) = false := by rw [decide_eq_false_iff_not]; omega
        have hlv2 : ∀ x ∈ l, lastB x.v = false := by
          have h1 := hlv.out
          rwa [List.take_of_length_le (by omega)] at h1
        have hm : mayT l = true := parse_back HP.out (by rw [size_list]; omega) hlv2
        obtain ⟨l', hp2, hbare, _⟩ := parse_write l hm
        have HZ : Hid (∀ x ∈ l, SizeLn x) := Lib.hid (fun x hx => ok_size ((may_all hm).1 x hx))
        have HM := Lib.hid hm
        have HN : Hid (printT l = writeT l) := by show _ = _; unfold printT; rw [hm, if_pos rfl]
        have HP2 : Hid (parseT (str (writeT l)).data.toList = (l', 0, 0)) := hp2
        have HBA : Hid (decide (l.map bare = l'.map bare) = true) := by show _ = _; rw [hbare]; simp
        clear hlv2 hm hp2 hbare h9
        go_wp2_with fail
        refine (Print_any A n _ w1.heap.size l _ (HL.out.below hb.out) hbs HZ.out).mono ?_
        rintro e w2 ⟨rfl, hb2⟩
        rw [HN.out]
        have Hb2 : Hid (Below w1.heap.size w1 w2) := more3 hb.out hbs hb2
        clear hb2
        go_wp2_with fail
        refine (Parse_any _ _).mono ?_
        rintro e w3 ⟨A3, n3, c3, rfl, hL3, hb3⟩
        rw [HP2.out] at hL3 ⊢
        have HL3 : Hid (LnsAt w3 w3.heap.size A3 n3 l') := hL3
        have Hb3 : Hid (Below w1.heap.size w1 w3) := more3 Hb2.out Hb2.out.size hb3
        have HF : Hid (Blk (w3.alloc (.cells #[.int .i64 0, .int .i64 0] 26)) w3.heap.size 26 #[.int .i64 0, .int .i64 0]) := Blk.new w3 _ _
        have Hb4 : Hid (Below w1.heap.size w1 (w3.alloc (.cells #[.int .i64 0, .int .i64 0] 26))) := Hb3.out.alloc Hb3.out.size _
        have HL4 : Hid (LnsAt (w3.alloc (.cells #[.int .i64 0, .int .i64 0] 26)) w3.heap.size A3 n3 l') := HL3.out.below ((Below.refl _ w3).alloc (Nat.le_refl _) _)
        have hs3 : w1.heap.size ≤ w3.heap.size := Hb3.out.size
        clear hL3 hb3
        go_wp2_with fail
        generalize hw4 : w3.alloc (.cells #[.int .i64 0, .int .i64 0] 26) = w4 at *
        have hs4 : w4.heap.size = w3.heap.size + 1 := by rw [← hw4]; simp
        clear hw4
        refine (May_any A n _ w1.heap.size l _ (HL.out.below Hb4.out) Hb4.out.size HZ.out).mono ?_
        rintro e w5 ⟨rfl, hb5⟩
        rw [HM.out]
        have HF5 := Lib.hid (HF.out.below hb5 HF.out.lt)
        have Hb5 : Hid (Below w1.heap.size w1 w5) := more3 Hb4.out Hb4.out.size hb5
        have HL5 : Hid (LnsAt w5 w3.heap.size A3 n3 l') := HL4.out.below (hb5.mono (by omega))
        have hs5 : w4.heap.size ≤ w5.heap.size := hb5.size
        have f0 : w5.cell? ⟨w3.heap.size, 0, none⟩ = some (.int .i64 0) := HF5.out.cell 0
        have f1 : w5.cell? ⟨w3.heap.size, 1, none⟩ = some (.int .i64 0) := HF5.out.cell 1
        have r2 := fun W : World => run_eql_fault W 0 0 0 0
        clear hb5
        go_wp2_with fail
        refine (same_any A A3 n n3 _ _ w1.heap.size w3.heap.size l l' _ (HL.out.below Hb5.out) HL5.out (by omega) (by omega)).mono ?_
        rintro e w6 ⟨rfl, hb6⟩
        rw [HBA.out]
        have Hb6 := Lib.hid (more3 Hb1.out Hb1.out.size (more3 Hb5.out Hb5.out.size hb6))
        clear hb6
        go_wp2_with fail
        go_ret
        exact ⟨ret_bool (by simp), Hb6.out⟩
theorem LinesBack_any (s : ByteArray) (w : World) : Calls Tryd.prog 6 #[.string s] w fun e w' => e = .returned (.bool true) ∧ Below w.heap.size w w' := by
  obtain ⟨l, c, i, hp⟩ : ∃ l c i, parseT s.data.toList = (l, c, i) := ⟨_, _, _, rfl⟩
  by_cases h : c = 0 ∧ i = 0
  · obtain ⟨rfl, rfl⟩ := h
    exact LinesBack_good s l hp w
  · exact LinesBack_bad s l c i hp h w
end Go.Proofs.YthgpocbmkmmecaaDoor
