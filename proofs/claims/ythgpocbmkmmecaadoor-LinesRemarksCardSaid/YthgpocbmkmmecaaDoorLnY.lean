/- The walks of the developers' format, May, Print. -/
import Derived.Test.YthgpocbmkmmecaaDoorLnX
namespace Go.Proofs.YthgpocbmkmmecaaDoor
open Go.RowKit

def FormatP (l : List Ln) (w : World) (e : Ending) (w' : World) : Prop := e = .returned (.tuple #[.string (str (printT l)), .bool (mayT l)]) ∧ Below w.heap.size w w'
theorem format_no {l : List Ln} (h : mayT l = false) : printT l = [] := by unfold printT; rw [h, if_neg (by simp)]
theorem may_bad {l : List Ln} {x : Ln} (hx : x ∈ l) (h : okLn x = false) : mayT l = false := by
  rw [Bool.eq_false_iff]
  intro e
  have := (may_all e).1 x hx
  rw [h] at this; cases this
theorem may_long {l : List Ln} (k : Nat) (h : 20000 < (writeT (l.take k)).length) : mayT l = false := by
  rw [Bool.eq_false_iff]
  intro e
  have h1 := (may_all e).2
  have h2 := write_app (l.take k) (l.drop k)
  rw [List.take_append_drop] at h2
  rw [h2, List.length_append] at h1
  omega
theorem may_yes {l : List Ln} (h : ∀ x ∈ l, okLn x = true) (h2 : (writeT l).length ≤ 20000) : mayT l = true := by
  unfold mayT
  simp only [Bool.and_eq_true, List.all_eq_true, decide_eq_true_eq]
  exact ⟨h, h2⟩
theorem take_snocL {α : Type} {l : List α} {k : Nat} {x : α} (h : l[k]? = some x) : l.take (k + 1) = l.take k ++ [x] := by rw [List.take_add_one, h]; rfl
theorem str_ne (a b : List UInt8) : ((str a).toList != (str b).toList) = !decide (a = b) := by
  rw [bne, beq_str]
  congr 1
  rw [Bool.eq_iff_iff, decide_eq_true_eq, decide_eq_true_eq]
  exact ⟨fun h => congrArg (fun s => s.data.toList) h, fun h => by rw [h]⟩
set_option maxRecDepth 100000 in
set_option maxHeartbeats 8000000 in
theorem format_any (A : Option Addr) (n c B : Nat) (l : List Ln) (w : World) (h : LnsAt w B A n l) (hB : B ≤ w.heap.size) (hz : ∀ x ∈ l, SizeLn x) :
    Calls Tryd.prog 26 #[.slice A n c] w (FormatP l w) := by
  have hm := h.2.1
  unfold maxLen at hm
  have hln := h.1
  have HL := Lib.hid h
  have HS := Lib.hid hz
  have hfresh := Lib.hid (Lib.IsBuilderF.of (Lib.fresh_isBuilder 68 5 w))
  clear h hz
  go_enter Tryd.func26, Tryd.ntmps26
  go_wp2_with fail
  go_loopw [5, 10] (fun v i wr => ∃ (k : Nat) (acc sec : List UInt8), k ≤ n ∧ i = .int .i64 k ∧ v = .string (str sec) ∧ acc.length ≤ 20000 ∧ Hid (acc = writeT (l.take k)) ∧ Hid (sec = secOf [] (l.take k)) ∧ Hid (∀ x ∈ l.take k, okLn x = true) ∧
      Hid (Lib.IsBuilderF 68 5 w.heap.size w.heap.size (Lib.byteCells acc) wr) ∧ Hid (Below w.heap.size w wr)) (fun v i wr => n - (intOf i).toNat)
  case atStart => exact ⟨0, [], [], Nat.zero_le _, rfl, rfl, Nat.zero_le _, rfl, rfl, Lib.hid (fun x hx => by simp at hx), hfresh, (Below.refl _ _).alloc (Nat.le_refl _) _⟩
  case round =>
    obtain ⟨k, acc, sec, hk, rfl, rfl, hal, hacc, hsec, hok, hBd, hb⟩ := hrel
    have hbs : w.heap.size ≤ wr.heap.size := hb.out.size
    have HBlt : Hid (w.heap.size < wr.heap.size) := by
      show _ < _
      rcases hBd.out with ⟨_, v, hv, _⟩ | ⟨_, v, hv, _⟩ <;> exact (Array.getElem?_eq_some_iff.1 hv).1
    have b0 : (0 : Int) ≤ (k : Int) := by omega
    by_cases hlt : k < n
    · have b1 : (k : Int) < (n : Int) := by omega
      obtain ⟨ad, x, rfl, hab, hx, q0, q1, q2, q3⟩ := (HL.out.below (hb.out.mono hB)).at_ hlt
      have hxm : x ∈ l := List.mem_of_getElem? hx
      have hsz := HS.out x hxm
      have z1 : (ad.add (k * 4)).block < wr.heap.size := by rw [block_addW]; omega
      have HG : Hid (Blk (wr.alloc (.cells #[.string (str x.s), .string (str x.k), .string (str x.v), .int .i64 x.n] 34)) wr.heap.size 34 #[.string (str x.s), .string (str x.k), .string (str x.v), .int .i64 x.n]) := Blk.new wr _ _
      have HBa : Hid (Lib.IsBuilderF 68 5 w.heap.size w.heap.size (Lib.byteCells acc) (wr.alloc (.cells #[.string (str x.s), .string (str x.k), .string (str x.v), .int .i64 x.n] 34))) := isB_below hBd.out ((Below.refl _ _).alloc (Nat.le_refl _) _)
      have Hba : Hid (Below w.heap.size w (wr.alloc (.cells #[.string (str x.s), .string (str x.k), .string (str x.v), .int .i64 x.n] 34))) := hb.out.alloc hbs _
      rcases hs : okLn x with _ | _
      · have HN : Hid (mayT l = false) := may_bad hxm hs
        clear hx hxm
        go_wp2_with fail
        refine (isSound_any x hsz _).mono ?_
        rintro e w1 ⟨rfl, hb1⟩
        rw [hs]
        go_wp2_with fail
        go_ret2
        refine ⟨?_, more3 Hba.out Hba.out.size hb1⟩
        rw [HN.out, format_no HN.out]
        rfl
      · have HT := Lib.hid (take_snocL hx)
        have hW : writeT (l.take (k + 1)) = acc ++ moreT acc sec x := by
          rw [HT.out, write_more _ _ (write_ne _ hok.out), ← hacc.out, ← hsec.out]
        have HW := Lib.hid hW
        have hml := moreT_len acc sec x hs
        have HOK : Hid (∀ y ∈ l.take (k + 1), okLn y = true) := by
          show ∀ _, _
          intro y hy
          rw [HT.out, List.mem_append] at hy
          rcases hy with hy | hy
          · exact hok.out y hy
          · simp only [List.mem_singleton] at hy; subst hy; exact hs
        have HSE : Hid (x.s = secOf [] (l.take (k + 1))) := by show _ = _; rw [HT.out, secOf_snoc]
        have hsl := (ofL_iff.1 (okLn_sec hs).1).2.1
        have hkv : x.k.length + 1 + x.v.length ≤ 400 := by
          have h := hs
          unfold okLn at h
          simp only [Bool.and_eq_true, decide_eq_true_eq] at h
          exact h.2
        have HKV : Hid (((str x.k) ++ (⟨#[61]⟩ : ByteArray) ++ (str x.v) ++ (⟨#[10]⟩ : ByteArray)).data.toList = x.k ++ 61 :: (x.v ++ [10])) := by
          show _ = _
          rw [app_list, app_list, app_list, str_list, str_list]
          simp
        have hkl : (str x.k).size ≤ 400 := by rw [str_size]; omega
        have hvl : (str x.v).size ≤ 400 := by rw [str_size]; omega
        have HS1 := Lib.hid hs
        clear hx hxm hW
        by_cases hse : x.s = sec
        · have hne : ((str x.s).toList == (str sec).toList) = true := by rw [hse]; simp
          obtain ⟨acc2, hE2⟩ : ∃ acc2, acc2 = acc ++ moreT acc sec x := ⟨_, rfl⟩
          have HA2 : Hid (acc2 = acc ++ (x.k ++ 61 :: (x.v ++ [10]))) := by show _ = _; rw [hE2]; unfold moreT; rw [if_pos hse]; rfl
          have HE2 := Lib.hid hE2
          have HSX := Lib.hid hse
          clear hE2 hse hs
          go_wp2_with fail
          refine (isSound_any x hsz _).mono ?_
          rintro e w1 ⟨rfl, hb1⟩
          rw [HS1.out]
          have HG1 : Hid (Blk w1 wr.heap.size 34 #[.string (str x.s), .string (str x.k), .string (str x.v), .int .i64 x.n]) := HG.out.below hb1 HG.out.lt
          have HB1 := Lib.hid (isB_below HBa.out hb1)
          have Hb4 : Hid (Below w.heap.size w w1) := more3 Hba.out Hba.out.size hb1
          have hs1 : w.heap.size ≤ w1.heap.size := Hb4.out.size
          have g0 : w1.cell? ⟨wr.heap.size, 0, none⟩ = some (.string (str x.s)) := HG1.out.cell 0
          have g1 : w1.cell? ⟨wr.heap.size, 1, none⟩ = some (.string (str x.k)) := HG1.out.cell 1
          have g2 : w1.cell? ⟨wr.heap.size, 2, none⟩ = some (.string (str x.v)) := HG1.out.cell 2
          clear hb1
          go_wp2_with fail
          refine (writeString_k w.heap.size w.heap.size _ _ _ HB1.out (by rw [Lib.byteCells_length, ← size_list, HKV.out]; simp; omega) hs1).mono ?_
          rintro e w5 ⟨rfl, hB5, hb5, hk5⟩
          have HBt : Hid (Lib.IsBuilderF 68 5 w.heap.size w.heap.size (Lib.byteCells acc2) w5) := by rw [HA2.out, ← HKV.out, Lib.byteCells_append]; exact hB5
          have Hbt : Hid (Below w.heap.size w w5) := Hb4.out.trans hb5
          have hst : w.heap.size ≤ w5.heap.size := Hbt.out.size
          clear hB5 hb5 hk5
          go_wp2_with fail
          rcases hlong : decide ((20000 : Int) < ((Lib.byteCells acc2).length : Int)) with _ | _
          · have hal2 : acc2.length ≤ 20000 := by
              have h := of_decide_eq_false hlong
              rw [Lib.byteCells_length] at h
              omega
            refine (Tryd.Builder_Len_f _ _ _ _ HBt.out).mono ?_
            rintro e w6 ⟨rfl, rfl⟩
            go_wp2_with fail
            go_roundw
            case rel => exact ⟨k + 1, acc2, x.s, by omega, by go_num, by rw [HSX.out], hal2, Lib.hid (by rw [HW.out, HE2.out]), HSE, HOK, HBt, Hbt⟩
            case measure => simp [intOf]; omega
          · have HN : Hid (mayT l = false) := may_long (k + 1) (by
              have h := of_decide_eq_true hlong
              rw [Lib.byteCells_length] at h
              rw [HW.out, ← HE2.out]; omega)
            refine (Tryd.Builder_Len_f _ _ _ _ HBt.out).mono ?_
            rintro e w6 ⟨rfl, rfl⟩
            go_wp2_with fail
            go_ret2
            refine ⟨?_, Hbt.out⟩
            rw [HN.out, format_no HN.out]
            rfl
        · have hne : ((str x.s).toList == (str sec).toList) = false := by
            have h := str_ne x.s sec
            rw [decide_eq_false hse, bne] at h
            simpa using h
          obtain ⟨acc2, hE2⟩ : ∃ acc2, acc2 = acc ++ moreT acc sec x := ⟨_, rfl⟩
          have HA2 : Hid (acc2 = (acc ++ headW acc (str x.s).data.toList) ++ (x.k ++ 61 :: (x.v ++ [10]))) := by show _ = _; rw [hE2]; unfold moreT; rw [if_neg hse, str_list, List.append_assoc]
          have HE2 := Lib.hid hE2
          have hhl := headW_len acc (str x.s).data.toList
          rw [str_list] at hhl
          clear hE2 hse hs
          go_wp2_with fail
          refine (isSound_any x hsz _).mono ?_
          rintro e w1 ⟨rfl, hb1⟩
          rw [HS1.out]
          have HG1 : Hid (Blk w1 wr.heap.size 34 #[.string (str x.s), .string (str x.k), .string (str x.v), .int .i64 x.n]) := HG.out.below hb1 HG.out.lt
          have HB1 := Lib.hid (isB_below HBa.out hb1)
          have Hb1 : Hid (Below w.heap.size w w1) := more3 Hba.out Hba.out.size hb1
          have hs1 : w.heap.size ≤ w1.heap.size := Hb1.out.size
          have g0 : w1.cell? ⟨wr.heap.size, 0, none⟩ = some (.string (str x.s)) := HG1.out.cell 0
          clear hb1
          go_wp2_with fail
          refine (writeHeader_any w.heap.size w.heap.size acc (str x.s) (by rw [str_size]; omega) _ HB1.out (by omega) hs1).mono ?_
          rintro e w2 ⟨rfl, hB2, hb2, hk2⟩
          have HB2 := Lib.hid hB2
          have HG2 : Hid (Blk w2 wr.heap.size 34 #[.string (str x.s), .string (str x.k), .string (str x.v), .int .i64 x.n]) := hk2 _ _ _ (by have := HBlt.out; omega) (by decide) HG1.out
          have Hb4 : Hid (Below w.heap.size w w2) := Hb1.out.trans hb2
          have hs2 : w.heap.size ≤ w2.heap.size := Hb4.out.size
          have g1 : w2.cell? ⟨wr.heap.size, 1, none⟩ = some (.string (str x.k)) := HG2.out.cell 1
          have g2 : w2.cell? ⟨wr.heap.size, 2, none⟩ = some (.string (str x.v)) := HG2.out.cell 2
          clear hB2 hb2 hk2 g0
          go_wp2_with fail
          refine (writeString_k w.heap.size w.heap.size _ _ _ HB2.out (by rw [Lib.byteCells_length, List.length_append, ← size_list, HKV.out, str_list]; simp; omega) hs2).mono ?_
          rintro e w5 ⟨rfl, hB5, hb5, hk5⟩
          have HBt : Hid (Lib.IsBuilderF 68 5 w.heap.size w.heap.size (Lib.byteCells acc2) w5) := by rw [HA2.out, ← HKV.out, Lib.byteCells_append]; exact hB5
          have Hbt : Hid (Below w.heap.size w w5) := Hb4.out.trans hb5
          have hst : w.heap.size ≤ w5.heap.size := Hbt.out.size
          clear hB5 hb5 hk5
          go_wp2_with fail
          rcases hlong : decide ((20000 : Int) < ((Lib.byteCells acc2).length : Int)) with _ | _
          · have hal2 : acc2.length ≤ 20000 := by
              have h := of_decide_eq_false hlong
              rw [Lib.byteCells_length] at h
              omega
            refine (Tryd.Builder_Len_f _ _ _ _ HBt.out).mono ?_
            rintro e w6 ⟨rfl, rfl⟩
            go_wp2_with fail
            go_roundw
            case rel => exact ⟨k + 1, acc2, x.s, by omega, by go_num, rfl, hal2, Lib.hid (by rw [HW.out, HE2.out]), HSE, HOK, HBt, Hbt⟩
            case measure => simp [intOf]; omega
          · have HN : Hid (mayT l = false) := may_long (k + 1) (by
              have h := of_decide_eq_true hlong
              rw [Lib.byteCells_length] at h
              rw [HW.out, ← HE2.out]; omega)
            refine (Tryd.Builder_Len_f _ _ _ _ HBt.out).mono ?_
            rintro e w6 ⟨rfl, rfl⟩
            go_wp2_with fail
            go_ret2
            refine ⟨?_, Hbt.out⟩
            rw [HN.out, format_no HN.out]
            rfl
    · obtain rfl : k = n := by omega
      have HN : Hid (mayT l = true ∧ printT l = acc) := by
        show _ ∧ _
        have h1 := hok.out
        have h2 := hacc.out
        rw [List.take_of_length_le (by omega)] at h1 h2
        have h3 := may_yes h1 (by rw [← h2]; exact hal)
        refine ⟨h3, ?_⟩
        unfold printT
        rw [h3, if_pos rfl, h2]
      go_wp2_with fail
      refine (Tryd.Builder_String_any_k _ _ _ _ hBd.out hbs).mono ?_
      rintro e w4 ⟨rfl, hB4, hb4, _⟩
      have HBx := Lib.hid (hb.out.trans hb4)
      clear hb4 hB4
      go_wp2_with fail
      go_ret2
      refine ⟨?_, HBx.out⟩
      rw [HN.out.1, HN.out.2]
      rfl
theorem May_any (A : Option Addr) (n c B : Nat) (l : List Ln) (w : World) (h : LnsAt w B A n l) (hB : B ≤ w.heap.size) (hz : ∀ x ∈ l, SizeLn x) :
    Calls Tryd.prog 14 #[.slice A n c] w fun e w' => e = .returned (.bool (mayT l)) ∧ Below w.heap.size w w' := by
  go_enter Tryd.func14, Tryd.ntmps14
  go_wp2_with (go_at_call 26; refine (format_any A n c B l _ h hB hz).mono ?_; rintro e w' ⟨rfl, hb⟩)
  go_ret
  exact ⟨rfl, hb⟩
theorem Print_any (A : Option Addr) (n c B : Nat) (l : List Ln) (w : World) (h : LnsAt w B A n l) (hB : B ≤ w.heap.size) (hz : ∀ x ∈ l, SizeLn x) :
    Calls Tryd.prog 16 #[.slice A n c] w fun e w' => e = .returned (.string (str (printT l))) ∧ Below w.heap.size w w' := by
  go_enter Tryd.func16, Tryd.ntmps16
  go_wp2_with (go_at_call 26; refine (format_any A n c B l _ h hB hz).mono ?_; rintro e w' ⟨rfl, hb⟩)
  go_ret
  exact ⟨rfl, hb⟩
end Go.Proofs.YthgpocbmkmmecaaDoor
