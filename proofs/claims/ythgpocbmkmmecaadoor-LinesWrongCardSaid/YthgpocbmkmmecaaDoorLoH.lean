/- The walk of the law LinesWrong. -/
import Derived.Test.YthgpocbmkmmecaaDoorLoG
namespace Go.Proofs.YthgpocbmkmmecaaDoor
open Go.RowKit

def badL : List (List UInt8) := [[110, 111, 116, 104, 105, 110, 103], [91, 85, 110, 105, 116], [91, 93], [61, 120], [97, 32, 98, 61, 99], [65, 61, 1], [91, 85, 93, 120]]
def codeL : List Nat := [9, 10, 10, 9, 9, 1, 10]
def badCells : Array Value := #[.string ⟨#[110, 111, 116, 104, 105, 110, 103]⟩, .string ⟨#[91, 85, 110, 105, 116]⟩, .string ⟨#[91, 93]⟩, .string ⟨#[61, 120]⟩, .string ⟨#[97, 32, 98, 61, 99]⟩, .string ⟨#[65, 61, 1]⟩, .string ⟨#[91, 85, 93, 120]⟩]
def codeCells : Array Value := #[.int .i64 9, .int .i64 10, .int .i64 10, .int .i64 9, .int .i64 9, .int .i64 1, .int .i64 10]
theorem bad_at (q : Nat) (h : q < 7) : ∃ (b : List UInt8) (e : Nat), badL[q]? = some b ∧ codeL[q]? = some e ∧ badCells[q]? = some (.string (str b)) ∧ codeCells[q]? = some (.int .i64 e) ∧ b.length ≤ 7 ∧ skipR b = false ∧ lastB b = false ∧ (10 : UInt8) ∉ b ∧ ∀ sec, lineL sec b = .bad e := by
  match q, h with
  | 0, _ => exact ⟨[110, 111, 116, 104, 105, 110, 103], 9, rfl, rfl, rfl, rfl, by decide, by decide +kernel, by decide +kernel, by decide, fun sec => by rfl⟩
  | 1, _ => exact ⟨[91, 85, 110, 105, 116], 10, rfl, rfl, rfl, rfl, by decide, by decide +kernel, by decide +kernel, by decide, fun sec => by rfl⟩
  | 2, _ => exact ⟨[91, 93], 10, rfl, rfl, rfl, rfl, by decide, by decide +kernel, by decide +kernel, by decide, fun sec => by rfl⟩
  | 3, _ => exact ⟨[61, 120], 9, rfl, rfl, rfl, rfl, by decide, by decide +kernel, by decide +kernel, by decide, fun sec => by rfl⟩
  | 4, _ => exact ⟨[97, 32, 98, 61, 99], 9, rfl, rfl, rfl, rfl, by decide, by decide +kernel, by decide +kernel, by decide, fun sec => by rfl⟩
  | 5, _ => exact ⟨[65, 61, 1], 1, rfl, rfl, rfl, rfl, by decide, by decide +kernel, by decide +kernel, by decide, fun sec => by rfl⟩
  | 6, _ => exact ⟨[91, 85, 93, 120], 10, rfl, rfl, rfl, rfl, by decide, by decide +kernel, by decide +kernel, by decide, fun sec => by rfl⟩
theorem count_rows (rs : List (List UInt8)) (h : ∀ r ∈ rs, (10 : UInt8) ∉ r) : (textR rs).count 10 = rs.length := by
  induction rs with
  | nil => rfl
  | cons r rs ih =>
    rw [textR_cons, List.count_append, List.count_cons, ih (fun x hx => h x (by simp [hx])), List.count_eq_zero.2 (h r (by simp))]
    simp
theorem count_succ (s : ByteArray) (k : Nat) (h : k < s.size) : (s.data.toList.take (k + 1)).count 10 = (s.data.toList.take k).count 10 + if s[k] = 10 then 1 else 0 := by
  rw [take_at s k h, List.count_append, List.count_singleton]
  congr 1
  by_cases h1 : s[k] = 10
  · rw [if_pos h1, h1]; rfl
  · rw [if_neg h1]
    have : (s[k] == 10) = false := by rw [beq_eq_false_iff_ne]; exact h1
    rw [this]; rfl
set_option maxRecDepth 100000 in
set_option maxHeartbeats 8000000 in
theorem LinesWrong_any (A : Option Addr) (n c : Nat) (l : List Ln) (a : Int) (more : ByteArray) (hmo : more.size ≤ 140737488355328) (w : World) (h : LnsAt w w.heap.size A n l) (hz : ∀ x ∈ l, SizeLn x) : Calls Tryd.prog 8 #[.slice A n c, .int .i64 a, .string more] w fun e w' => e = .returned (.bool true) ∧ Below w.heap.size w w' := by
  have HL := Lib.hid h
  have HZ := Lib.hid hz
  clear h hz
  rcases hm : mayT l with _ | _
  · have HM := Lib.hid hm
    have HN := Lib.hid (format_no hm)
    clear hm
    go_enter Tryd.func8, Tryd.ntmps8
    go_wp2_with fail
    refine (shown_any _).mono ?_
    rintro e w0 ⟨rfl, hb0⟩
    have Hb0 := Lib.hid hb0
    clear hb0
    go_wp2_with fail
    refine (Print_any A n c w.heap.size l _ (HL.out.below Hb0.out) Hb0.out.size HZ.out).mono ?_
    rintro e w1 ⟨rfl, hb1⟩
    have Hb1 := Lib.hid (more3 Hb0.out Hb0.out.size hb1)
    clear hb1
    go_wp2_with fail
    refine (May_any A n c w.heap.size l _ (HL.out.below Hb1.out) Hb1.out.size HZ.out).mono ?_
    rintro e w2 ⟨rfl, hb2⟩
    rw [HM.out]
    have Hb2 := Lib.hid (more3 Hb1.out Hb1.out.size hb2)
    clear hb2
    go_wp2_with fail
    go_ret
    exact ⟨ret_bool (by simp), Hb2.out⟩
  have HM := Lib.hid hm
  have HN : Hid (printT l = writeT l) := by show _ = _; unfold printT; rw [hm, if_pos rfl]
  have hall := may_all hm
  have hsz : (str (writeT l)).size ≤ 20000 := hall.2
  obtain ⟨m, hbm, hml⟩ := and_low a 7 (by omega)
  have hbm : bits .and .i64 a 7 = (m : Int) := hbm
  obtain ⟨q, hq⟩ : ∃ q, m % 7 = q := ⟨_, rfl⟩
  have hq7 : q < 7 := by omega
  have hq1 : (m : Int) % 7 = (q : Int) := by omega
  have hq2 : (m : Int).tmod 7 = (q : Int) := by rw [Int.tmod_eq_emod_of_nonneg (by omega)]; exact hq1
  have b3 : (0 : Int) ≤ (m : Int) := by omega
  have b4 : (m : Int) ≤ 7 := by omega
  have q0 : (0 : Int) ≤ (q : Int) := by omega
  have q1 : (q : Int) < 7 := by omega
  obtain ⟨b, ec, _, _, hbc, hcc, hbl, hb1, hb2, hb3, hb4⟩ := bad_at q hq7
  by_cases h15 : 15000 < (str (writeT l)).size
  · have e15 : decide ((15000 : Int) < ((str (writeT l)).size : Int)) = true := by rw [decide_eq_true_eq]; omega
    clear hbm hq1 hq2 hb1 hb2 hb3 hb4 hall hm
    go_enter Tryd.func8, Tryd.ntmps8
    go_wp2_with fail
    refine (shown_any _).mono ?_
    rintro e w0 ⟨rfl, hb0⟩
    have Hb0 := Lib.hid hb0
    clear hb0
    go_wp2_with fail
    refine (Print_any A n c w.heap.size l _ (HL.out.below Hb0.out) Hb0.out.size HZ.out).mono ?_
    rintro e w1 ⟨rfl, hb1⟩
    rw [HN.out]
    have Hb1 := Lib.hid (more3 Hb0.out Hb0.out.size hb1)
    clear hb1
    go_wp2_with fail
    refine (May_any A n c w.heap.size l _ (HL.out.below Hb1.out) Hb1.out.size HZ.out).mono ?_
    rintro e w2 ⟨rfl, hb2⟩
    rw [HM.out]
    have Hb2 := Lib.hid (more3 Hb1.out Hb1.out.size hb2)
    clear hb2
    go_wp2_with fail
    go_ret
    exact ⟨ret_bool (by simp), Hb2.out⟩
  have e15 : decide ((15000 : Int) < ((str (writeT l)).size : Int)) = false := by rw [decide_eq_false_iff_not]; omega
  by_cases h1k : 1000 < more.size
  · have e1k : decide ((1000 : Int) < (more.size : Int)) = true := by rw [decide_eq_true_eq]; omega
    clear hbm hq1 hq2 hb1 hb2 hb3 hb4 hall hm
    go_enter Tryd.func8, Tryd.ntmps8
    go_wp2_with fail
    refine (shown_any _).mono ?_
    rintro e w0 ⟨rfl, hb0⟩
    have Hb0 := Lib.hid hb0
    clear hb0
    go_wp2_with fail
    refine (Print_any A n c w.heap.size l _ (HL.out.below Hb0.out) Hb0.out.size HZ.out).mono ?_
    rintro e w1 ⟨rfl, hb1⟩
    rw [HN.out]
    have Hb1 := Lib.hid (more3 Hb0.out Hb0.out.size hb1)
    clear hb1
    go_wp2_with fail
    refine (May_any A n c w.heap.size l _ (HL.out.below Hb1.out) Hb1.out.size HZ.out).mono ?_
    rintro e w2 ⟨rfl, hb2⟩
    rw [HM.out]
    have Hb2 := Lib.hid (more3 Hb1.out Hb1.out.size hb2)
    clear hb2
    go_wp2_with fail
    go_ret
    exact ⟨ret_bool (by simp), Hb2.out⟩
  have e1k : decide ((1000 : Int) < (more.size : Int)) = false := by rw [decide_eq_false_iff_not]; omega
  have hbs7 : (str b).size ≤ 7 := hbl
  have HPL : Hid ((str (writeT l) ++ str b ++ (⟨#[10]⟩ : ByteArray) ++ more).data.toList = writeT l ++ (b ++ 10 :: more.data.toList)) := by
    show _ = _
    rw [app_list, app_list, app_list, str_list, str_list]
    simp
  have z1 : (str (writeT l) ++ str b).size ≤ 20007 := by rw [← size_list, app_list, List.length_append, size_list, size_list]; omega
  have z2 : (str (writeT l) ++ str b ++ (⟨#[10]⟩ : ByteArray)).size ≤ 20008 := by
    rw [← size_list, app_list, List.length_append, size_list]
    show _ + 1 ≤ _
    omega
  have hlen : (writeT l ++ (b ++ 10 :: more.data.toList)).length ≤ 20000 := by
    have h1 : (writeT l).length ≤ 15000 := by rw [str_size] at h15; omega
    simp only [List.length_append, List.length_cons, size_list]
    omega
  have HP : Hid (parseT (str (writeT l) ++ str b ++ (⟨#[10]⟩ : ByteArray) ++ more).data.toList = ([], ec, 1 + (rowsP [] l).length)) := by
    show _ = _
    rw [HPL.out]
    exact parse_wrong l hall.1 b _ ec ⟨hb1, hb2, hb3, hb4⟩ hlen
  have HCT : Hid ((str (writeT l)).data.toList.count 10 = (rowsP [] l).length) := by
    show (writeT l).count 10 = _
    exact count_rows _ (fun r hr => (rows_good l hall.1 [] r hr).1)
  clear hb1 hb2 hb3 hb4 hall hm hlen
  go_enter Tryd.func8, Tryd.ntmps8
  go_wp2_with fail
  refine (shown_any _).mono ?_
  rintro e w0 ⟨rfl, hb0⟩
  have Hb0 := Lib.hid hb0
  clear hb0
  go_wp2_with fail
  refine (Print_any A n c w.heap.size l _ (HL.out.below Hb0.out) Hb0.out.size HZ.out).mono ?_
  rintro e w1 ⟨rfl, hb1⟩
  rw [HN.out]
  have Hb1 := Lib.hid (more3 Hb0.out Hb0.out.size hb1)
  clear hb1
  go_wp2_with fail
  refine (May_any A n c w.heap.size l _ (HL.out.below Hb1.out) Hb1.out.size HZ.out).mono ?_
  rintro e w2 ⟨rfl, hb2⟩
  rw [HM.out]
  have Hb2 := Lib.hid (more3 Hb1.out Hb1.out.size hb2)
  have hs2 : w.heap.size ≤ w2.heap.size := Hb2.out.size
  clear hb2
  have HBM := Lib.hid hbm
  have HQ1 := Lib.hid hq1
  have HQ2 := Lib.hid hq2
  clear hbm hq1 hq2
  go_wp2_with fail
  generalize hS : str (writeT l) = S at *
  have HSE := Lib.hid hS
  clear hS
  go_loop [8, 9] (fun x i => ∃ k t : Nat, k ≤ S.size ∧ t ≤ k ∧ i = .int .i64 k ∧ x = .int .i64 ((t : Int) + 1) ∧ Hid (t = (S.data.toList.take k).count 10)) (fun x i => S.size - (intOf i).toNat)
  case atStart => exact ⟨0, 0, Nat.zero_le _, Nat.le_refl _, rfl, rfl, rfl⟩
  case round =>
    obtain ⟨k, t, hk, htk, rfl, rfl, hct⟩ := hrel
    have b0 : (0 : Int) ≤ (k : Int) := by omega
    by_cases hlt : k < S.size
    · have b1 : (k : Int) < (S.size : Int) := by omega
      have HC := Lib.hid (count_succ S k hlt)
      by_cases h10 : S[k] = 10
      · have e10 : ((S[k].toNat : Int) == 10) = true := by rw [h10]; rfl
        have HT : Hid (t + 1 = (S.data.toList.take (k + 1)).count 10) := by show _ = _; rw [HC.out, if_pos h10, ← hct.out]
        clear h10
        go_wp2_with fail
        go_round
        case rel => exact ⟨k + 1, t + 1, by omega, by omega, by go_num, by go_num, HT⟩
        case measure => simp [intOf]; omega
      · have e10 : ((S[k].toNat : Int) == 10) = false := by
          rw [beq_eq_false_iff_ne]
          intro e
          exact h10 (UInt8.toNat_inj.1 (by show S[k].toNat = 10; omega))
        have HT : Hid (t = (S.data.toList.take (k + 1)).count 10) := by show _ = _; rw [HC.out, if_neg h10, ← hct.out]; rfl
        clear h10
        go_wp2_with fail
        go_round
        case rel => exact ⟨k + 1, t, by omega, by omega, by go_num, rfl, HT⟩
        case measure => simp [intOf]; omega
    · have b1 : (S.size : Int) ≤ (k : Int) := by omega
      have HTE : Hid (t = (rowsP [] l).length) := by
        show _ = _
        have h1 := hct.out
        rw [List.take_of_length_le (by rw [size_list]; omega)] at h1
        rw [h1, HCT.out]
      have hbm := HBM.out
      have hq1 := HQ1.out
      have hq2 := HQ2.out
      have c1 : (w2.alloc (.cells badCells 9)).cell? ⟨w2.heap.size, q, none⟩ = some (.string (str b)) := ((Blk.new w2 9 badCells).cell q).trans hbc
      have c2 : ((w2.alloc (.cells badCells 9)).alloc (.cells codeCells 24)).cell? ⟨w2.heap.size + 1, q, none⟩ = some (.int .i64 ec) := by
        have := ((Blk.new (w2.alloc (.cells badCells 9)) 24 codeCells).cell q).trans hcc
        simpa using this
      unfold badCells at c1 c2
      unfold codeCells at c2
      go_wp2_with fail
      have Hb3 : Hid (Below w.heap.size w ((w2.alloc (.cells badCells 9)).alloc (.cells codeCells 24))) := (Hb2.out.alloc hs2 _).alloc (by simp; omega) _
      unfold badCells codeCells at Hb3
      clear c1 c2 hbm hq1 hq2
      refine (Parse_any _ _).mono ?_
      rintro e w3 ⟨A3, n3, c3, rfl, hL3, hb3⟩
      rw [HP.out] at hL3 ⊢
      obtain rfl : n3 = 0 := hL3.1.symm
      have Hb4 := Lib.hid (more3 Hb3.out Hb3.out.size hb3)
      have r1 : ∀ W : World, (binOp .eql 26 (.agg #[.int .i64 ec, .int .i64 (1 + ((rowsP [] l).length : Int))]) (.agg #[.int .i64 ec, .int .i64 ((t : Int) + 1)])).run Tryd.prog W = .ok (.bool true) W := fun W => (run_eql_fault W _ _ _ _).trans (by
        have h1 : ((1 + ((rowsP [] l).length : Int)) == (t : Int) + 1) = true := by rw [beq_iff_eq, ← HTE.out]; omega
        rw [h1]; simp)
      clear hL3 hb3
      go_wp2_with fail
      go_ret
      exact ⟨ret_bool (by simp), Hb4.out.alloc Hb4.out.size _⟩
end Go.Proofs.YthgpocbmkmmecaaDoor
