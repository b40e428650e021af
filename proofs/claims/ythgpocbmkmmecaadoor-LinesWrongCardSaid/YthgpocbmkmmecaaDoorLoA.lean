/- The walks of the document's write, MayLines, Print. -/
import Derived.Test.YthgpocbmkmmecaaDoorLnZ
namespace Go.Proofs.YthgpocbmkmmecaaDoor
open Go.RowKit

/-- The bytes of keys and values. -/
def nT (l : List Ln) : Nat := (l.map fun x => x.k.length + x.v.length + 2).sum
theorem nT_snoc (l : List Ln) (x : Ln) : nT (l ++ [x]) = nT l + (x.k.length + x.v.length + 2) := by simp [nT]
theorem rows_len (l : List Ln) (sec : List UInt8) : nT l ≤ (textR (rowsP sec l)).length := by
  induction l generalizing sec with
  | nil => simp [nT]
  | cons x l ih =>
    have e : nT (x :: l) = (x.k.length + x.v.length + 2) + nT l := by simp [nT]
    rw [rowsP, textR_app, textR_cons, e]
    have := ih x.s
    simp only [List.length_append, List.length_cons]
    omega
theorem rows_most (l : List Ln) (h : ∀ x ∈ l, okLn x = true) (sec : List UInt8) : (textR (rowsP sec l)).length ≤ nT l + 24 * l.length := by
  induction l generalizing sec with
  | nil => simp [nT, rowsP, textR]
  | cons x l ih =>
    have e : nT (x :: l) = (x.k.length + x.v.length + 2) + nT l := by simp [nT]
    rw [rowsP, textR_app, textR_cons, e]
    have h1 := ih (fun y hy => h y (by simp [hy])) x.s
    have h2 := head_len sec x.s
    have h3 := (ofL_iff.1 (okLn_sec (h x (by simp))).1).2.1
    have h4 : (textR (headP sec x.s)).length ≤ 24 := by
      split at h2 <;> omega
    simp only [List.length_append, List.length_cons]
    omega
theorem nT_len (l : List Ln) : l.length ≤ nT l := by
  induction l with
  | nil => simp [nT]
  | cons x l ih =>
    have e : nT (x :: l) = (x.k.length + x.v.length + 2) + nT l := by simp [nT]
    rw [e, List.length_cons]; omega
theorem write_take (l : List Ln) (k : Nat) : (writeT (l.take k)).length ≤ (writeT l).length := by
  have h2 := write_app (l.take k) (l.drop k)
  rw [List.take_append_drop] at h2
  rw [h2, List.length_append]
  omega
set_option maxRecDepth 100000 in
set_option maxHeartbeats 8000000 in
theorem write_any (A : Option Addr) (n c B : Nat) (l : List Ln) (w : World) (h : LnsAt w B A n l) (hB : B ≤ w.heap.size) (hok : ∀ x ∈ l, okLn x = true) (hlen : (writeT l).length ≤ 1000000) :
    Calls Tryd.prog 28 #[.slice A n c] w fun e w' => e = .returned (.string (str (writeT l))) ∧ Below w.heap.size w w' := by
  have hm := h.2.1
  unfold maxLen at hm
  have hln := h.1
  have HL := Lib.hid h
  have HK := Lib.hid hok
  clear h hok
  go_enter Tryd.func28, Tryd.ntmps28
  go_wp2_with fail
  go_loopw [3, 4, 9] (fun u v i wr => ∃ (k : Nat) (acc sec : List UInt8), k ≤ n ∧ i = .int .i64 k ∧ u = .string (str acc) ∧ v = .string (str sec) ∧ acc.length ≤ 1000000 ∧ Hid (acc = writeT (l.take k)) ∧ Hid (sec = secOf [] (l.take k)) ∧ Hid (Below w.heap.size w wr)) (fun u v i wr => n - (intOf i).toNat)
  case atStart => exact ⟨0, [], [], Nat.zero_le _, rfl, rfl, rfl, Nat.zero_le _, rfl, rfl, Below.refl _ _⟩
  case round =>
    obtain ⟨k, acc, sec, hk, rfl, rfl, rfl, hal, hacc, hsec, hb⟩ := hrel
    have hbs : w.heap.size ≤ wr.heap.size := hb.out.size
    have b0 : (0 : Int) ≤ (k : Int) := by omega
    by_cases hlt : k < n
    · have b1 : (k : Int) < (n : Int) := by omega
      obtain ⟨ad, x, rfl, hab, hx, q0, q1, q2, q3⟩ := (HL.out.below (hb.out.mono hB)).at_ hlt
      have hxm : x ∈ l := List.mem_of_getElem? hx
      have hs := HK.out x hxm
      have HT := Lib.hid (take_snocL hx)
      have HW : Hid (writeT (l.take (k + 1)) = acc ++ moreT acc sec x) := by
        show _ = _
        rw [HT.out, write_more _ _ (write_ne _ (fun y hy => HK.out y (List.mem_of_mem_take hy))), ← hacc.out, ← hsec.out]
      have hml := write_take l (k + 1)
      have hsl := (ofL_iff.1 (okLn_sec hs).1).2.1
      have hkv : x.k.length + 1 + x.v.length ≤ 400 := by
        have h := hs
        unfold okLn at h
        simp only [Bool.and_eq_true, decide_eq_true_eq] at h
        exact h.2
      have HSE : Hid (x.s = secOf [] (l.take (k + 1))) := by show _ = _; rw [HT.out, secOf_snoc]
      have HKV : Hid (((str x.k) ++ (⟨#[61]⟩ : ByteArray) ++ (str x.v) ++ (⟨#[10]⟩ : ByteArray)).data.toList = x.k ++ 61 :: (x.v ++ [10])) := by
        show _ = _
        rw [app_list, app_list, app_list, str_list, str_list]
        simp
      have hkl : (str x.k).size ≤ 400 := by rw [str_size]; omega
      have hvl : (str x.v).size ≤ 400 := by rw [str_size]; omega
      have hsl2 : (str x.s).size ≤ 20 := by rw [str_size]; omega
      have hal2 : (str acc).size ≤ 1000000 := hal
      have Hba : Hid (Below w.heap.size w (wr.alloc (.cells #[.string (str x.s), .string (str x.k), .string (str x.v), .int .i64 x.n] 34))) := hb.out.alloc hbs _
      obtain ⟨acc2, hE2⟩ : ∃ acc2, acc2 = acc ++ moreT acc sec x := ⟨_, rfl⟩
      have HE2 := Lib.hid hE2
      have hal3 : acc2.length ≤ 1000000 := by rw [hE2, ← HW.out]; omega
      have HA : Hid (acc2 = writeT (l.take (k + 1))) := by show _ = _; rw [HW.out, hE2]
      have z63 : ((str x.k) ++ (⟨#[61]⟩ : ByteArray) ++ (str x.v) ++ (⟨#[10]⟩ : ByteArray)).size ≤ 1000 := by
        rw [← size_list, HKV.out]; simp; omega
      have z64 : ((⟨#[91]⟩ : ByteArray) ++ str x.s ++ (⟨#[93, 10]⟩ : ByteArray)).size ≤ 1000 := by
        rw [← size_list, app_list, app_list, str_list]; simp; omega
      clear hx hxm hE2 hml hs
      by_cases hse : x.s = sec
      · have hne : ((str x.s).toList == (str sec).toList) = true := by rw [hse]; simp
        have HF : Hid (str acc ++ ((str x.k) ++ (⟨#[61]⟩ : ByteArray) ++ (str x.v) ++ (⟨#[10]⟩ : ByteArray)) = str acc2) := by
          show _ = _
          rw [HE2.out]
          refine ext_list ?_
          rw [app_list, HKV.out, str_list, str_list]
          unfold moreT
          rw [if_pos hse]
          rfl
        have HSX := Lib.hid hse
        clear hse
        go_wp2_with fail
        go_roundw
        case rel => exact ⟨k + 1, acc2, sec, by omega, by go_num, congrArg Value.string HF.out, rfl, hal3, HA, Lib.hid (by rw [← HSX.out]; exact HSE.out), Hba⟩
        case measure => simp [intOf]; omega
      · have hne : ((str x.s).toList == (str sec).toList) = false := by
          have h := str_ne x.s sec
          rw [decide_eq_false hse, bne] at h
          simpa using h
        by_cases hac : acc = []
        · have he : (str acc).toList.isEmpty = true := by rw [isEmp_str, hac]; rfl
          have HF : Hid (str acc ++ ((⟨#[91]⟩ : ByteArray) ++ str x.s ++ (⟨#[93, 10]⟩ : ByteArray)) ++ ((str x.k) ++ (⟨#[61]⟩ : ByteArray) ++ (str x.v) ++ (⟨#[10]⟩ : ByteArray)) = str acc2) := by
            show _ = _
            rw [HE2.out]
            refine ext_list ?_
            rw [app_list, app_list, HKV.out, app_list, app_list, str_list, str_list, str_list]
            unfold moreT headW
            rw [if_neg hse, if_pos hac]
            simp
          have z65 : (str acc ++ ((⟨#[91]⟩ : ByteArray) ++ str x.s ++ (⟨#[93, 10]⟩ : ByteArray))).size ≤ 1001000 := by
            rw [← size_list, app_list, List.length_append, size_list, size_list]; omega
          clear hse hac
          go_wp2_with fail
          go_roundw
          case rel => exact ⟨k + 1, acc2, x.s, by omega, by go_num, congrArg Value.string HF.out, rfl, hal3, HA, HSE, Hba⟩
          case measure => simp [intOf]; omega
        · have he : (str acc).toList.isEmpty = false := by rw [isEmp_str, decide_eq_false_iff_not]; exact hac
          have HF : Hid (str acc ++ (⟨#[10]⟩ : ByteArray) ++ ((⟨#[91]⟩ : ByteArray) ++ str x.s ++ (⟨#[93, 10]⟩ : ByteArray)) ++ ((str x.k) ++ (⟨#[61]⟩ : ByteArray) ++ (str x.v) ++ (⟨#[10]⟩ : ByteArray)) = str acc2) := by
            show _ = _
            rw [HE2.out]
            refine ext_list ?_
            rw [app_list, app_list, app_list, HKV.out, app_list, app_list, str_list, str_list, str_list]
            unfold moreT headW
            rw [if_neg hse, if_neg hac]
            simp
          have z65 : (str acc ++ (⟨#[10]⟩ : ByteArray)).size ≤ 1000100 := by
            rw [← size_list, app_list, List.length_append, size_list]
            show (str acc).size + 1 ≤ _
            omega
          have z66 : (str acc ++ (⟨#[10]⟩ : ByteArray) ++ ((⟨#[91]⟩ : ByteArray) ++ str x.s ++ (⟨#[93, 10]⟩ : ByteArray))).size ≤ 1002000 := by
            rw [← size_list, app_list, List.length_append, size_list, size_list]; omega
          clear hse hac
          go_wp2_with fail
          go_roundw
          case rel => exact ⟨k + 1, acc2, x.s, by omega, by go_num, congrArg Value.string HF.out, rfl, hal3, HA, HSE, Hba⟩
          case measure => simp [intOf]; omega
    · obtain rfl : k = n := by omega
      have HN : Hid (acc = writeT l) := by
        have h2 := hacc.out
        rw [List.take_of_length_le (by omega)] at h2
        exact h2
      go_wp2_with fail
      go_ret
      exact ⟨ret_str (by rw [HN.out]), hb.out⟩
end Go.Proofs.YthgpocbmkmmecaaDoor
