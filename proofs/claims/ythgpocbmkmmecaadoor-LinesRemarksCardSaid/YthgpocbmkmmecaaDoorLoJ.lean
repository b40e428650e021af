/- The walk of the law LinesRemarks. -/
import Derived.Test.YthgpocbmkmmecaaDoorLoG
import Derived.Test.YthgpocbmkmmecaaDoorLnQ
namespace Go.Proofs.YthgpocbmkmmecaaDoor
open Go.RowKit

/-- What is put between: a blank line, a remark, an empty remark. -/
def insR (rem : List UInt8) : List (List UInt8) := [[32, 9], 32 :: 32 :: 35 :: rem, [59]]
def insF (f : Nat → Bool) (rem : List UInt8) (n : Nat) : List (List UInt8) := if f n = true then insR rem else []
/-- The rows with what is put between. -/
def mixR (f : Nat → Bool) (rem : List UInt8) : Nat → List (List UInt8) → List (List UInt8)
  | _, [] => []
  | n, r :: rs => (r :: insF f rem (n + 1)) ++ mixR f rem (n + 1) rs
/-- The same by bytes. -/
def scanR (f : Nat → Bool) (rem : List UInt8) : List UInt8 → List UInt8 → Nat → List UInt8 → List UInt8
  | x, _, _, [] => x
  | x, y, n, c :: r => if c = 10 then scanR f rem (x ++ (y ++ [c]) ++ textR (insF f rem (n + 1))) [] (n + 1) r else scanR f rem x (y ++ [c]) n r
theorem scan_row (f : Nat → Bool) (rem x y : List UInt8) (n : Nat) (r rest : List UInt8) (h : (10 : UInt8) ∉ r) : scanR f rem x y n (r ++ rest) = scanR f rem x (y ++ r) n rest := by
  induction r generalizing y with
  | nil => simp
  | cons c r ih =>
    rw [List.cons_append, scanR, if_neg (by rintro rfl; exact h (by simp)), ih _ (fun hm => h (by simp [hm]))]
    simp
theorem scan_rows (f : Nat → Bool) (rem : List UInt8) (rs : List (List UInt8)) (h : ∀ r ∈ rs, (10 : UInt8) ∉ r) (x : List UInt8) (n : Nat) : scanR f rem x [] n (textR rs) = x ++ textR (mixR f rem n rs) := by
  induction rs generalizing x n with
  | nil => simp [mixR, textR, scanR]
  | cons r rs ih =>
    rw [textR_cons, scan_row f rem x [] n r _ (h r (by simp)), scanR, if_pos rfl, ih (fun y hy => h y (by simp [hy])), mixR, textR_app, textR_cons]
    simp
theorem skip_ins (rem : List UInt8) : ∀ r ∈ insR rem, skipR r = true := by
  intro r hr
  unfold insR at hr
  simp only [List.mem_cons, List.not_mem_nil, or_false] at hr
  rcases hr with rfl | rfl | rfl
  · decide
  · unfold skipR remL ltrim
    rw [List.dropWhile_cons, if_pos (by decide), List.dropWhile_cons, if_pos (by decide), List.dropWhile_cons, if_neg (by decide)]
    simp
  · decide
theorem ins_nl {rem : List UInt8} (h : cleanL rem = true) : ∀ r ∈ insR rem, (10 : UInt8) ∉ r := by
  intro r hr
  unfold insR at hr
  simp only [List.mem_cons, List.not_mem_nil, or_false] at hr
  rcases hr with rfl | rfl | rfl
  · decide
  · have := clean_nl h
    simp [this]
  · decide
theorem ins_f {f : Nat → Bool} {rem : List UInt8} {n : Nat} {r : List UInt8} (h : r ∈ insF f rem n) : r ∈ insR rem := by
  unfold insF at h
  split at h
  · exact h
  · cases h
theorem mix_filter (f : Nat → Bool) (rem : List UInt8) (rs : List (List UInt8)) (n : Nat) : (mixR f rem n rs).filter (fun r => !skipR r) = rs.filter fun r => !skipR r := by
  induction rs generalizing n with
  | nil => rfl
  | cons r rs ih =>
    rw [mixR, List.filter_append, ih]
    have e : (insF f rem (n + 1)).filter (fun r => !skipR r) = [] := by
      rw [List.filter_eq_nil_iff]
      intro x hx
      rw [skip_ins rem x (ins_f hx)]; simp
    rw [List.filter_cons, e]
    rw [List.filter_cons]
    split <;> rfl
theorem mix_mem (f : Nat → Bool) (rem : List UInt8) (rs : List (List UInt8)) (n : Nat) (r : List UInt8) (h : r ∈ mixR f rem n rs) : r ∈ rs ∨ r ∈ insR rem := by
  induction rs generalizing n with
  | nil => cases h
  | cons y rs ih =>
    rw [mixR, List.mem_append] at h
    rcases h with h | h
    · rcases List.mem_cons.1 h with rfl | h
      · exact .inl (by simp)
      · exact .inr (ins_f h)
    · rcases ih (n + 1) h with h | h
      · exact .inl (by simp [h])
      · exact .inr h
/-- What comes of lines with remarks between. -/
theorem parse_mix (l : List Ln) (hm : mayT l = true) (f : Nat → Bool) (rem : List UInt8) (hr : cleanL rem = true) (hlen : (textR (mixR f rem 0 (rowsP [] l))).length ≤ 20000) :
    ∃ l', parseT (textR (mixR f rem 0 (rowsP [] l))) = (l', 0, 0) ∧ l'.map bare = l.map bare := by
  obtain ⟨h1, h2⟩ := may_all hm
  obtain ⟨l', a, b, _⟩ := parse_rows l h1 _ (mix_filter f rem (rowsP [] l) 0) (fun r hx => by
    rcases mix_mem f rem _ 0 r hx with h | h
    · obtain ⟨q1, q2⟩ := rows_good l h1 [] r h
      exact ⟨q1, fun _ => q2⟩
    · exact ⟨ins_nl hr r h, fun hs => by rw [skip_ins rem r h] at hs; cases hs⟩) hlen
  exact ⟨l', a, b⟩
def evF (m : Nat) (n : Nat) : Bool := decide (m = 0) || decide (n % 3 = m)
theorem ins_len (f : Nat → Bool) (rem : List UInt8) (n : Nat) (h : rem.length ≤ 100) : (textR (insF f rem n)).length ≤ 120 := by
  unfold insF
  split
  · simp [textR, insR]; omega
  · simp [textR]
set_option maxRecDepth 100000 in
set_option maxHeartbeats 8000000 in
theorem LinesRemarks_pass (A : Option Addr) (n c : Nat) (l : List Ln) (a : Int) (rem : ByteArray) (hre : rem.size ≤ 140737488355328) (w : World) (h : LnsAt w w.heap.size A n l) (hz : ∀ x ∈ l, SizeLn x)
    (hno : mayT l = false ∨ 60 < n ∨ cleanL rem.data.toList = false ∨ 100 < rem.size) : Calls Tryd.prog 7 #[.slice A n c, .int .i64 a, .string rem] w fun e w' => e = .returned (.bool true) ∧ Below w.heap.size w w' := by
  have HL := Lib.hid h
  have HZ := Lib.hid hz
  have hrm : rem.size ≤ maxLen := by unfold maxLen; omega
  clear h hz
  rcases hm : mayT l with _ | _
  · have HM := Lib.hid hm
    clear hm hno
    go_enter Tryd.func7, Tryd.ntmps7
    go_wp2_with fail
    refine (shown_any _).mono ?_
    rintro e w0 ⟨rfl, hb0⟩
    have Hb0 := Lib.hid hb0
    clear hb0
    go_wp2_with fail
    refine (May_any A n c w.heap.size l _ (HL.out.below Hb0.out) Hb0.out.size HZ.out).mono ?_
    rintro e w1 ⟨rfl, hb1⟩
    rw [HM.out]
    have Hb1 := Lib.hid (more3 Hb0.out Hb0.out.size hb1)
    clear hb1
    go_wp2_with fail
    go_ret
    exact ⟨ret_bool (by simp), Hb1.out⟩
  by_cases h60 : 60 < n
  · have e60 : decide ((60 : Int) < (n : Int)) = true := by rw [decide_eq_true_eq]; omega
    have HM := Lib.hid hm
    clear hm hno
    go_enter Tryd.func7, Tryd.ntmps7
    go_wp2_with fail
    refine (shown_any _).mono ?_
    rintro e w0 ⟨rfl, hb0⟩
    have Hb0 := Lib.hid hb0
    clear hb0
    go_wp2_with fail
    refine (May_any A n c w.heap.size l _ (HL.out.below Hb0.out) Hb0.out.size HZ.out).mono ?_
    rintro e w1 ⟨rfl, hb1⟩
    rw [HM.out]
    have Hb1 := Lib.hid (more3 Hb0.out Hb0.out.size hb1)
    clear hb1
    go_wp2_with fail
    go_ret
    exact ⟨ret_bool (by simp), Hb1.out⟩
  have e60 : decide ((60 : Int) < (n : Int)) = false := by rw [decide_eq_false_iff_not]; omega
  rcases hc : cleanL rem.data.toList with _ | _
  · have HM := Lib.hid hm
    clear hm hno
    go_enter Tryd.func7, Tryd.ntmps7
    go_wp2_with fail
    refine (shown_any _).mono ?_
    rintro e w0 ⟨rfl, hb0⟩
    have Hb0 := Lib.hid hb0
    clear hb0
    go_wp2_with fail
    refine (May_any A n c w.heap.size l _ (HL.out.below Hb0.out) Hb0.out.size HZ.out).mono ?_
    rintro e w1 ⟨rfl, hb1⟩
    rw [HM.out]
    have Hb1 := Lib.hid (more3 Hb0.out Hb0.out.size hb1)
    clear hb1
    go_wp2_with (go_at_call 19; refine (Clean_any _ hrm _).mono ?_; rintro e w2 ⟨rfl, rfl⟩)
    go_ret
    exact ⟨ret_bool (by simp), Hb1.out⟩
  have h100 : 100 < rem.size := by
    rcases hno with h | h | h | h
    · rw [hm] at h; cases h
    · exact absurd h h60
    · rw [hc] at h; cases h
    · exact h
  have e100 : decide ((100 : Int) < (rem.size : Int)) = true := by rw [decide_eq_true_eq]; omega
  · have HM := Lib.hid hm
    clear hm
    go_enter Tryd.func7, Tryd.ntmps7
    go_wp2_with fail
    refine (shown_any _).mono ?_
    rintro e w0 ⟨rfl, hb0⟩
    have Hb0 := Lib.hid hb0
    clear hb0
    go_wp2_with fail
    refine (May_any A n c w.heap.size l _ (HL.out.below Hb0.out) Hb0.out.size HZ.out).mono ?_
    rintro e w1 ⟨rfl, hb1⟩
    rw [HM.out]
    have Hb1 := Lib.hid (more3 Hb0.out Hb0.out.size hb1)
    clear hb1
    go_wp2_with (go_at_call 19; refine (Clean_any _ hrm _).mono ?_; rintro e w2 ⟨rfl, rfl⟩)
    go_ret
    exact ⟨ret_bool (by simp), Hb1.out⟩
theorem scan_step {f : Nat → Bool} {rem x y : List UInt8} {n : Nat} {s : ByteArray} {k : Nat} (h : k < s.size) : scanR f rem x y n (s.data.toList.drop k) = if s[k] = 10 then scanR f rem (x ++ (y ++ [s[k]]) ++ textR (insF f rem (n + 1))) [] (n + 1) (s.data.toList.drop (k + 1)) else scanR f rem x (y ++ [s[k]]) n (s.data.toList.drop (k + 1)) := by
  rw [drop_at s k h, scanR]
set_option maxRecDepth 100000 in
set_option maxHeartbeats 8000000 in
theorem LinesRemarks_go (A : Option Addr) (n c : Nat) (l : List Ln) (a : Int) (rem : ByteArray) (w : World) (h : LnsAt w w.heap.size A n l) (hz : ∀ x ∈ l, SizeLn x)
    (hm : mayT l = true) (h60 : n ≤ 60) (hc : cleanL rem.data.toList = true) (h100 : rem.size ≤ 100) : Calls Tryd.prog 7 #[.slice A n c, .int .i64 a, .string rem] w fun e w' => e = .returned (.bool true) ∧ Below w.heap.size w w' := by
  have HL := Lib.hid h
  have HZ := Lib.hid hz
  have hrm : rem.size ≤ maxLen := by unfold maxLen; omega
  clear h hz
  obtain ⟨m, hbm, hml⟩ := and_low a 3 (by omega)
  have hbm : bits .and .i64 a 3 = (m : Int) := hbm
  have HBM := Lib.hid hbm
  have e60 : decide ((60 : Int) < (n : Int)) = false := by rw [decide_eq_false_iff_not]; omega
  have e100 : decide ((100 : Int) < (rem.size : Int)) = false := by rw [decide_eq_false_iff_not]; omega
  have HM := Lib.hid hm
  have HN : Hid (printT l = writeT l) := by show _ = _; unfold printT; rw [hm, if_pos rfl]
  have hall := may_all hm
  have hsz : (str (writeT l)).size ≤ 20000 := hall.2
  have HEND : Hid (scanR (evF m) rem.data.toList [] [] 0 (str (writeT l)).data.toList = textR (mixR (evF m) rem.data.toList 0 (rowsP [] l))) := by
    show scanR _ _ _ _ _ (textR (rowsP [] l)) = _
    rw [scan_rows _ _ _ (fun r hr => (rows_good l hall.1 [] r hr).1)]
    rfl
  have HC := Lib.hid hc
  clear hm hbm hall
  go_enter Tryd.func7, Tryd.ntmps7
  go_wp2_with fail
  refine (shown_any _).mono ?_
  rintro e w0 ⟨rfl, hb0⟩
  have Hb0 := Lib.hid hb0
  clear hb0
  go_wp2_with fail
  refine (May_any A n c w.heap.size l _ (HL.out.below Hb0.out) Hb0.out.size HZ.out).mono ?_
  rintro e w1 ⟨rfl, hb1⟩
  rw [HM.out]
  have Hb1 := Lib.hid (more3 Hb0.out Hb0.out.size hb1)
  clear hb1
  go_wp2_with (go_at_call 19; refine (Clean_any _ hrm _).mono ?_; rintro e w2 ⟨rfl, rfl⟩)
  clear hc
  refine (Print_any A n c w.heap.size l _ (HL.out.below Hb1.out) Hb1.out.size HZ.out).mono ?_
  rintro e w3 ⟨rfl, hb3⟩
  rw [HN.out]
  have Hb3 := Lib.hid (more3 Hb1.out Hb1.out.size hb3)
  clear hb3
  go_wp2_with fail
  generalize hS : str (writeT l) = S at *
  clear hS
  go_loop [7, 8, 9, 11] (fun u v i p => ∃ (k t : Nat) (x y : ByteArray), k ≤ S.size ∧ t ≤ k ∧ x.size + y.size ≤ k + 120 * t ∧ p = .int .i64 k ∧ i = .int .i64 t ∧ u = .string x ∧ v = .string y ∧
    Hid (scanR (evF m) rem.data.toList [] [] 0 S.data.toList = scanR (evF m) rem.data.toList x.data.toList y.data.toList t (S.data.toList.drop k))) (fun u v i p => S.size - (intOf p).toNat)
  case atStart => exact ⟨0, 0, ⟨#[]⟩, ⟨#[]⟩, Nat.zero_le _, Nat.le_refl _, Nat.zero_le _, rfl, rfl, rfl, rfl, Lib.hid (by rw [List.drop_zero])⟩
  case round =>
    obtain ⟨k, t, x, y, hk, htk, hxy, rfl, rfl, rfl, rfl, hat⟩ := hrel
    have b0 : (0 : Int) ≤ (k : Int) := by omega
    by_cases hlt : k < S.size
    · have b1 : (k : Int) < (S.size : Int) := by omega
      have b2 : (k : Int) ≤ (S.size : Int) := by omega
      have b4 : (k : Int) ≤ (k : Int) + 1 := by omega
      have b5 : (k : Int) + 1 ≤ (S.size : Int) := by omega
      have hone : (S.extract k (k + 1)).size ≤ 1 := by rw [ByteArray.size_extract]; omega
      have HY : Hid ((y ++ S.extract k (k + 1)).data.toList = y.data.toList ++ [S[k]]) := by show _ = _; rw [app_list, one_slice S k hlt]; rfl
      have HS := Lib.hid (scan_step (f := evF m) (rem := rem.data.toList) (x := x.data.toList) (y := y.data.toList) (n := t) hlt)
      have hys : (y ++ S.extract k (k + 1)).size = y.size + 1 := by rw [← size_list, HY.out, List.length_append, size_list]; rfl
      have HYS := Lib.hid hys
      have hxl : x.size ≤ 3000000 := by omega
      have hyl : y.size ≤ 3000000 := by omega
      have hyl2 : (y ++ S.extract k (k + 1)).size ≤ 3000001 := by omega
      clear hys
      by_cases h10 : S[k] = 10
      · have e10 : ((S[k].toNat : Int) != 10) = false := by rw [h10]; rfl
        have HNX : Hid (scanR (evF m) rem.data.toList [] [] 0 S.data.toList = scanR (evF m) rem.data.toList (x.data.toList ++ (y ++ S.extract k (k + 1)).data.toList ++ textR (insF (evF m) rem.data.toList (t + 1))) [] (t + 1) (S.data.toList.drop (k + 1))) := by
          show _ = _
          rw [hat.out, HS.out, if_pos h10, HY.out]
        clear h10
        have HXY : Hid ((x ++ (y ++ S.extract k (k + 1))).size = x.size + (y ++ S.extract k (k + 1)).size) := by show _ = _; rw [← size_list, app_list, List.length_append, size_list, size_list]
        have hxy2 : (x ++ (y ++ S.extract k (k + 1))).size ≤ 3000000 := by rw [HXY.out, HYS.out]; omega
        obtain ⟨r, hr⟩ : ∃ r : Nat, (t + 1) % 3 = r := ⟨_, rfl⟩
        have hr1 : ((t : Int) + 1) % 3 = (r : Int) := by omega
        have hr2 : ((t : Int) + 1).tmod 3 = (r : Int) := by rw [Int.tmod_eq_emod_of_nonneg (by omega)]; exact hr1
        have t0 : (0 : Int) ≤ (t : Int) := by omega
        have t1 : (t : Int) ≤ 9007199254740992 := by omega
        have hbm := HBM.out
        have HR := Lib.hid hr
        clear hr
        rcases hev : evF m (t + 1) with _ | _
        · have hev2 := hev
          unfold evF at hev2
          simp only [Bool.or_eq_false_iff, decide_eq_false_iff_not] at hev2
          have e1 : ((m : Int) == 0) = false := by rw [beq_eq_false_iff_ne]; omega
          have e2 : ((r : Int) == (m : Int)) = false := by rw [beq_eq_false_iff_ne, ← HR.out]; omega
          have HI : Hid (insF (evF m) rem.data.toList (t + 1) = []) := by show _ = _; unfold insF; rw [hev, if_neg (by simp)]
          clear hev hev2
          go_wp2_with fail
          go_round
          case rel => exact ⟨k + 1, t + 1, x ++ (y ++ S.extract k (k + 1)), ⟨#[]⟩, by omega, by omega, by (rw [HXY.out, HYS.out]; show _ + 0 ≤ _; omega), by go_num, by go_num, rfl, rfl, Lib.hid (by rw [HNX.out, HI.out, app_list]; simp [textR])⟩
          case measure => simp [intOf]; omega
        · have HI : Hid ((⟨#[32, 9, 10, 32, 32, 35]⟩ ++ rem ++ ⟨#[10, 59, 10]⟩ : ByteArray).data.toList = textR (insF (evF m) rem.data.toList (t + 1))) := by
            show _ = _
            unfold insF
            rw [hev, if_pos rfl, app_list, app_list]
            simp [insR, textR]
          have HIS : Hid ((⟨#[32, 9, 10, 32, 32, 35]⟩ ++ rem ++ ⟨#[10, 59, 10]⟩ : ByteArray).size ≤ 120) := by
            show _ ≤ _
            rw [← size_list, HI.out]
            exact ins_len _ _ _ (by rw [size_list]; exact h100)
          have his := HIS.out
          have his2 : (⟨#[32, 9, 10, 32, 32, 35]⟩ ++ rem : ByteArray).size ≤ 200 := by
            rw [← size_list, app_list, List.length_append, size_list]
            show 6 + rem.size ≤ _
            omega
          have HF : Hid ((x ++ (y ++ S.extract k (k + 1)) ++ (⟨#[32, 9, 10, 32, 32, 35]⟩ ++ rem ++ ⟨#[10, 59, 10]⟩ : ByteArray)).data.toList = x.data.toList ++ (y ++ S.extract k (k + 1)).data.toList ++ textR (insF (evF m) rem.data.toList (t + 1))) := by
            show _ = _
            rw [app_list, app_list, HI.out]
          have HFS : Hid ((x ++ (y ++ S.extract k (k + 1)) ++ (⟨#[32, 9, 10, 32, 32, 35]⟩ ++ rem ++ ⟨#[10, 59, 10]⟩ : ByteArray)).size ≤ x.size + (y ++ S.extract k (k + 1)).size + 120) := by
            show _ ≤ _
            rw [← size_list, app_list, List.length_append, size_list, size_list, HXY.out]
            omega
          by_cases hm0 : m = 0
          · have e1 : ((m : Int) == 0) = true := by rw [hm0]; rfl
            clear hev hm0
            go_wp2_with fail
            go_round
            case rel => exact ⟨k + 1, t + 1, _, ⟨#[]⟩, by omega, by omega, by (have h1 := HFS.out; have h2 := HYS.out; show _ + 0 ≤ _; omega), by go_num, by go_num, rfl, rfl, Lib.hid (by rw [HNX.out, HF.out])⟩
            case measure => simp [intOf]; omega
          · have e1 : ((m : Int) == 0) = false := by rw [beq_eq_false_iff_ne]; omega
            have hev2 := hev
            unfold evF at hev2
            simp only [Bool.or_eq_true, decide_eq_true_eq] at hev2
            have e2 : ((r : Int) == (m : Int)) = true := by rw [beq_iff_eq, ← HR.out]; omega
            clear hev hev2 hm0
            go_wp2_with fail
            go_round
            case rel => exact ⟨k + 1, t + 1, _, ⟨#[]⟩, by omega, by omega, by (have h1 := HFS.out; have h2 := HYS.out; show _ + 0 ≤ _; omega), by go_num, by go_num, rfl, rfl, Lib.hid (by rw [HNX.out, HF.out])⟩
            case measure => simp [intOf]; omega
      · have e10 : ((S[k].toNat : Int) != 10) = true := by
          rw [bne_iff_ne]
          intro e
          exact h10 (UInt8.toNat_inj.1 (by show S[k].toNat = 10; omega))
        have HNX : Hid (scanR (evF m) rem.data.toList [] [] 0 S.data.toList = scanR (evF m) rem.data.toList x.data.toList (y ++ S.extract k (k + 1)).data.toList t (S.data.toList.drop (k + 1))) := by
          show _ = _
          rw [hat.out, HS.out, if_neg h10, HY.out]
        clear h10
        go_wp2_with fail
        go_round
        case rel => exact ⟨k + 1, t, x, y ++ S.extract k (k + 1), by omega, by omega, by (rw [HYS.out]; omega), by go_num, rfl, rfl, rfl, HNX⟩
        case measure => simp [intOf]; omega
    · have b1 : (S.size : Int) ≤ (k : Int) := by omega
      have HT : Hid (x.data.toList = textR (mixR (evF m) rem.data.toList 0 (rowsP [] l))) := by
        show _ = _
        rw [← HEND.out, hat.out, List.drop_of_length_le (by rw [size_list]; omega), scanR]
      by_cases hlong : 20000 < x.size
      · have el : decide ((20000 : Int) < (x.size : Int)) = true := by rw [decide_eq_true_eq]; omega
        have HP : Hid (parseT x.data.toList = ([], 2, 0)) := by show _ = _; unfold parseT; rw [if_pos (by rw [size_list]; exact hlong)]
        clear hlong
        go_wp2_with fail
        refine (Parse_any _ _).mono ?_
        rintro e w4 ⟨A4, n4, c4, rfl, _, hb4⟩
        rw [HP.out]
        have Hb4 := Lib.hid (more3 Hb3.out Hb3.out.size hb4)
        clear hb4
        go_wp2_with fail
        go_ret
        exact ⟨ret_bool (by simp), Hb4.out.alloc Hb4.out.size _⟩
      · have el : decide ((20000 : Int) < (x.size : Int)) = false := by rw [decide_eq_false_iff_not]; omega
        obtain ⟨l', hp, hbare⟩ := parse_mix l HM.out (evF m) rem.data.toList HC.out (by rw [← HT.out, size_list]; omega)
        have HP : Hid (parseT x.data.toList = (l', 0, 0)) := by show _ = _; rw [HT.out, hp]
        have HBA : Hid (decide (l.map bare = l'.map bare) = true) := by show _ = _; rw [hbare]; simp
        clear hlong hp hbare
        go_wp2_with fail
        refine (Parse_any _ _).mono ?_
        rintro e w4 ⟨A4, n4, c4, rfl, hL4, hb4⟩
        rw [HP.out] at hL4 ⊢
        have HL4 : Hid (LnsAt w4 w4.heap.size A4 n4 l') := hL4
        have Hb4 := Lib.hid (more3 Hb3.out Hb3.out.size hb4)
        have HF : Hid (Blk (w4.alloc (.cells #[.int .i64 0, .int .i64 0] 26)) w4.heap.size 26 #[.int .i64 0, .int .i64 0]) := Blk.new w4 _ _
        have Hb5 : Hid (Below w.heap.size w (w4.alloc (.cells #[.int .i64 0, .int .i64 0] 26))) := Hb4.out.alloc Hb4.out.size _
        have HL5 : Hid (LnsAt (w4.alloc (.cells #[.int .i64 0, .int .i64 0] 26)) w4.heap.size A4 n4 l') := HL4.out.below ((Below.refl _ w4).alloc (Nat.le_refl _) _)
        have hs4 : w.heap.size ≤ w4.heap.size := Hb4.out.size
        have r2 := fun W : World => run_eql_fault W 0 0 0 0
        clear hL4 hb4
        go_wp2_with fail
        generalize hw5 : w4.alloc (.cells #[.int .i64 0, .int .i64 0] 26) = w5 at *
        have hs5 : w5.heap.size = w4.heap.size + 1 := by rw [← hw5]; simp
        clear hw5
        refine (same_any A A4 n n4 _ _ w.heap.size w4.heap.size l l' _ (HL.out.below Hb5.out) HL5.out (by omega) (by omega)).mono ?_
        rintro e w6 ⟨rfl, hb6⟩
        rw [HBA.out]
        have Hb6 := Lib.hid (more3 Hb5.out Hb5.out.size hb6)
        clear hb6
        go_wp2_with fail
        go_ret
        exact ⟨ret_bool (by simp), Hb6.out⟩
theorem LinesRemarks_any (A : Option Addr) (n c : Nat) (l : List Ln) (a : Int) (rem : ByteArray) (hre : rem.size ≤ 140737488355328) (w : World) (h : LnsAt w w.heap.size A n l) (hz : ∀ x ∈ l, SizeLn x) : Calls Tryd.prog 7 #[.slice A n c, .int .i64 a, .string rem] w fun e w' => e = .returned (.bool true) ∧ Below w.heap.size w w' := by
  by_cases hno : mayT l = false ∨ 60 < n ∨ cleanL rem.data.toList = false ∨ 100 < rem.size
  · exact LinesRemarks_pass A n c l a rem hre w h hz hno
  · simp only [not_or, Bool.not_eq_false, Nat.not_lt] at hno
    exact LinesRemarks_go A n c l a rem w h hz hno.1 hno.2.1 hno.2.2.1 hno.2.2.2
end Go.Proofs.YthgpocbmkmmecaaDoor
