/- The walks of the document's MayLines, Print. -/
import Derived.Test.YthgpocbmkmmecaaDoorLoA
namespace Go.Proofs.YthgpocbmkmmecaaDoor
open Go.RowKit

theorem may_iff {l : List Ln} (h : ∀ x ∈ l, okLn x = true) : mayT l = decide ((writeT l).length ≤ 20000) := by
  unfold mayT
  have : l.all okLn = true := List.all_eq_true.2 h
  rw [this, Bool.true_and]
set_option maxRecDepth 100000 in
set_option maxHeartbeats 8000000 in
theorem rMay_any (A : Option Addr) (n c B : Nat) (l : List Ln) (w : World) (h : LnsAt w B A n l) (hB : B ≤ w.heap.size) (hz : ∀ x ∈ l, SizeLn x) :
    Calls Tryd.prog 15 #[.slice A n c] w fun e w' => e = .returned (.bool (mayT l)) ∧ Below w.heap.size w w' := by
  have hm := h.2.1
  unfold maxLen at hm
  have hln := h.1
  have HL := Lib.hid h
  have HS := Lib.hid hz
  clear h hz
  go_enter Tryd.func15, Tryd.ntmps15
  go_wp2_with fail
  go_loopw [3, 8] (fun v i wr => ∃ (k m : Nat), k ≤ n ∧ i = .int .i64 k ∧ v = .int .i64 m ∧ m ≤ 20000 ∧ Hid (m = nT (l.take k)) ∧ Hid (∀ x ∈ l.take k, okLn x = true) ∧ Hid (Below w.heap.size w wr)) (fun v i wr => n - (intOf i).toNat)
  case atStart => exact ⟨0, 0, Nat.zero_le _, rfl, rfl, Nat.zero_le _, rfl, Lib.hid (fun x hx => by simp at hx), Below.refl _ _⟩
  case round =>
    obtain ⟨k, m, hk, rfl, rfl, hml, hmm, hok, hb⟩ := hrel
    have hbs : w.heap.size ≤ wr.heap.size := hb.out.size
    have b0 : (0 : Int) ≤ (k : Int) := by omega
    by_cases hlt : k < n
    · have b1 : (k : Int) < (n : Int) := by omega
      obtain ⟨ad, x, rfl, hab, hx, q0, q1, q2, q3⟩ := (HL.out.below (hb.out.mono hB)).at_ hlt
      have hxm : x ∈ l := List.mem_of_getElem? hx
      have hsz := HS.out x hxm
      have HG : Hid (Blk (wr.alloc (.cells #[.string (str x.s), .string (str x.k), .string (str x.v), .int .i64 x.n] 34)) wr.heap.size 34 #[.string (str x.s), .string (str x.k), .string (str x.v), .int .i64 x.n]) := Blk.new wr _ _
      have Hba : Hid (Below w.heap.size w (wr.alloc (.cells #[.string (str x.s), .string (str x.k), .string (str x.v), .int .i64 x.n] 34))) := hb.out.alloc hbs _
      rcases hs : okLn x with _ | _
      · have HN : Hid (mayT l = false) := may_bad hxm hs
        have HS1 := Lib.hid hs
        clear hx hxm hs
        go_wp2_with fail
        refine (mayLine_any x hsz _).mono ?_
        rintro e w1 ⟨rfl, hb1⟩
        rw [HS1.out]
        go_wp2_with fail
        go_ret
        exact ⟨ret_bool HN.out.symm, more3 Hba.out Hba.out.size hb1⟩
      · have HT := Lib.hid (take_snocL hx)
        have HOK : Hid (∀ y ∈ l.take (k + 1), okLn y = true) := by
          show ∀ _, _
          intro y hy
          rw [HT.out, List.mem_append] at hy
          rcases hy with hy | hy
          · exact hok.out y hy
          · simp only [List.mem_singleton] at hy; subst hy; exact hs
        have hkv : x.k.length + 1 + x.v.length ≤ 400 := by
          have h := hs
          unfold okLn at h
          simp only [Bool.and_eq_true, decide_eq_true_eq] at h
          exact h.2
        have HM : Hid (m + ((str x.k).size + (str x.v).size + 2) = nT (l.take (k + 1))) := by
          show _ = _
          rw [HT.out, nT_snoc, ← hmm.out, str_size, str_size]
        have hkl : (str x.k).size ≤ 400 := by rw [str_size]; omega
        have hvl : (str x.v).size ≤ 400 := by rw [str_size]; omega
        have HS1 := Lib.hid hs
        clear hx hxm hs
        rcases hlong : decide ((20000 : Int) < (m : Int) + (((str x.k).size : Int) + ((str x.v).size : Int) + 2)) with _ | _
        · have hm2 : m + ((str x.k).size + (str x.v).size + 2) ≤ 20000 := by have h := of_decide_eq_false hlong; omega
          go_wp2_with fail
          refine (mayLine_any x hsz _).mono ?_
          rintro e w1 ⟨rfl, hb1⟩
          rw [HS1.out]
          have HG1 : Hid (Blk w1 wr.heap.size 34 #[.string (str x.s), .string (str x.k), .string (str x.v), .int .i64 x.n]) := HG.out.below hb1 HG.out.lt
          have Hb1 : Hid (Below w.heap.size w w1) := more3 Hba.out Hba.out.size hb1
          have g1 : w1.cell? ⟨wr.heap.size, 1, none⟩ = some (.string (str x.k)) := HG1.out.cell 1
          have g2 : w1.cell? ⟨wr.heap.size, 2, none⟩ = some (.string (str x.v)) := HG1.out.cell 2
          clear hb1
          go_wp2_with fail
          go_roundw
          case rel => exact ⟨k + 1, m + ((str x.k).size + (str x.v).size + 2), by omega, by go_num, by go_num, hm2, HM, HOK, Hb1⟩
          case measure => simp [intOf]; omega
        · have HN : Hid (mayT l = false) := may_long (k + 1) (by
            have h := of_decide_eq_true hlong
            have h2 := rows_len (l.take (k + 1)) []
            rw [← HM.out] at h2
            unfold writeT
            omega)
          go_wp2_with fail
          refine (mayLine_any x hsz _).mono ?_
          rintro e w1 ⟨rfl, hb1⟩
          rw [HS1.out]
          have HG1 : Hid (Blk w1 wr.heap.size 34 #[.string (str x.s), .string (str x.k), .string (str x.v), .int .i64 x.n]) := HG.out.below hb1 HG.out.lt
          have Hb1 : Hid (Below w.heap.size w w1) := more3 Hba.out Hba.out.size hb1
          have g1 : w1.cell? ⟨wr.heap.size, 1, none⟩ = some (.string (str x.k)) := HG1.out.cell 1
          have g2 : w1.cell? ⟨wr.heap.size, 2, none⟩ = some (.string (str x.v)) := HG1.out.cell 2
          clear hb1
          go_wp2_with fail
          go_ret
          exact ⟨ret_bool HN.out.symm, Hb1.out⟩
    · obtain rfl : k = n := by omega
      have hok2 : ∀ x ∈ l, okLn x = true := by
        have h1 := hok.out
        rwa [List.take_of_length_le (by omega)] at h1
      have hlen : (writeT l).length ≤ 1000000 := by
        have h1 := rows_most l hok2 []
        have h2 := nT_len l
        have h3 := hmm.out
        rw [List.take_of_length_le (by omega)] at h3
        unfold writeT
        omega
      have HN := Lib.hid (may_iff hok2)
      have HE : Hid (decide (((str (writeT l)).size : Int) ≤ 20000) = decide ((writeT l).length ≤ 20000)) := by
        show _ = _
        rw [Bool.eq_iff_iff, decide_eq_true_eq, decide_eq_true_eq, str_size]; omega
      have HOK2 := Lib.hid hok2
      clear hok2
      go_wp2_with fail
      refine (write_any A k c B l _ (HL.out.below (hb.out.mono hB)) (by omega) HOK2.out hlen).mono ?_
      rintro e w1 ⟨rfl, hb1⟩
      have Hb1 := Lib.hid (more3 hb.out hbs hb1)
      clear hb1
      go_wp2_with fail
      go_ret
      exact ⟨ret_bool (by rw [HN.out, ← HE.out]), Hb1.out⟩
theorem rPrint_any (A : Option Addr) (n c B : Nat) (l : List Ln) (w : World) (h : LnsAt w B A n l) (hB : B ≤ w.heap.size) (hz : ∀ x ∈ l, SizeLn x) :
    Calls Tryd.prog 17 #[.slice A n c] w fun e w' => e = .returned (.string (str (printT l))) ∧ Below w.heap.size w w' := by
  rcases hm : mayT l with _ | _
  · have HN := Lib.hid (format_no hm)
    go_enter Tryd.func17, Tryd.ntmps17
    go_wp2_with fail
    refine (rMay_any A n c B l _ h hB hz).mono ?_
    rintro e w1 ⟨rfl, hb1⟩
    rw [hm]
    go_wp2_with fail
    go_ret
    exact ⟨ret_str (by rw [HN.out]; rfl), hb1⟩
  · have HN : Hid (printT l = writeT l) := by show _ = _; unfold printT; rw [hm, if_pos rfl]
    obtain ⟨h1, h2⟩ := may_all hm
    have H1 := Lib.hid h1
    have HM := Lib.hid hm
    clear h1 hm
    go_enter Tryd.func17, Tryd.ntmps17
    go_wp2_with fail
    refine (rMay_any A n c B l _ h hB hz).mono ?_
    rintro e w1 ⟨rfl, hb1⟩
    rw [HM.out]
    have Hb1 := Lib.hid hb1
    have hs1 := hb1.size
    clear hb1
    go_wp2_with fail
    refine (write_any A n c B l _ (h.below (Hb1.out.mono hB)) (by omega) H1.out (by omega)).mono ?_
    rintro e w2 ⟨rfl, hb2⟩
    have Hb2 := Lib.hid (more3 Hb1.out hs1 hb2)
    clear hb2
    go_wp2_with fail
    go_ret
    exact ⟨ret_str (by rw [HN.out]), Hb2.out⟩
end Go.Proofs.YthgpocbmkmmecaaDoor
