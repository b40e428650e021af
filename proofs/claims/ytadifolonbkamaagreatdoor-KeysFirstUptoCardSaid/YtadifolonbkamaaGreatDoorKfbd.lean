/- The walks of slices.Index, Contains at texts, of the developers' isForm, Value over takes. The walks of the developers' isCommand, isEnvironment. -/
import Derived.Test.YtadifolonbkamaaGreatDoorKfao
import Derived.Test.YtadifolonbkamaaGreatDoorKfbc
namespace Go.Proofs.YtadifolonbkamaaGreatDoor
open Go.RowKit
set_option maxHeartbeats 4000000 in
theorem txtIndex_any (A : Option Addr) (n c B : Nat) (l : List (List UInt8)) (v : ByteArray) (w : World) (h : RowAt w B A n l) :
    Calls Tryz.prog 86 #[.slice A n c, .string v] w fun e w' => ∃ i : Int, e = .returned (.int .i64 i) ∧ decide (0 ≤ i) = l.any (fun x => decide (x = v.data.toList)) ∧ w' = w := by
  have hm := h.2.1
  unfold maxLen at hm
  have hl := h.1
  have HL := Lib.hid h
  have HN0 : Hid ((l.take 0).any (fun x => decide (x = v.data.toList)) = false) := rfl
  clear h
  go_enter Tryz.func86, Tryz.ntmps86
  go_wp2_with fail
  go_loopw [8] (fun i wr => ∃ k : Nat, k ≤ n ∧ i = .int .i64 k ∧ w = wr ∧ Hid ((l.take k).any (fun x => decide (x = v.data.toList)) = false)) (fun i wr => n - (intOf i).toNat)
  case atStart => exact ⟨0, Nat.zero_le _, rfl, rfl, HN0⟩
  case round =>
    obtain ⟨k, hk, rfl, rfl, hN⟩ := hrel
    by_cases hlt : k < n
    · have b0 : (0 : Int) ≤ (k : Int) := by omega
      have b1 : (k : Int) < (n : Int) := by omega
      obtain ⟨ad, x, rfl, hab, hx, q0⟩ := HL.out.at_ hlt
      obtain ⟨n1, n2⟩ := any_take hN.out hx
      have hq : (v.toList == (str x).toList) = decide (x = v.data.toList) := by
        rw [Lib.toList_data, Lib.toList_data, str_list, Bool.eq_iff_iff, decide_eq_true_eq, beq_iff_eq]
        exact eq_comm
      clear hx
      by_cases hf : x = v.data.toList
      · have HF := Lib.hid (n1 (decide_eq_true hf))
        rw [decide_eq_true hf] at hq
        clear hf n1 n2
        go_wp2_with fail
        go_ret
        exact ⟨_, rfl, by rw [HF.out]; simp, by first | rfl | trivial⟩
      · have HF := Lib.hid (n2 (decide_eq_false hf))
        rw [decide_eq_false hf] at hq
        clear hf n1 n2
        go_wp2_with fail
        go_roundw
        case rel => exact ⟨k + 1, by omega, by go_num, by first | rfl | trivial, HF⟩
        case measure => simp [intOf]; omega
    · obtain rfl : k = n := by omega
      have HF : Hid (l.any (fun x => decide (x = v.data.toList)) = false) := by
        have := hN.out
        rwa [List.take_of_length_le (by omega)] at this
      go_wp2_with fail
      go_ret
      exact ⟨_, rfl, by rw [HF.out]; simp, by first | rfl | trivial⟩
theorem txtHas_any (A : Option Addr) (n c B : Nat) (l : List (List UInt8)) (v : ByteArray) (w : World) (h : RowAt w B A n l) :
    Calls Tryz.prog 56 #[.slice A n c, .string v] w fun e w' => e = .returned (.bool (l.any (fun x => decide (x = v.data.toList)))) ∧ w' = w := by
  have HC := Lib.hid (txtIndex_any A n c B l v w h)
  clear h
  go_enter Tryz.func56, Tryz.ntmps56
  go_wp2_with fail
  refine HC.out.mono ?_
  rintro e w1 ⟨i, rfl, hi, rfl⟩
  have HI := Lib.hid hi
  clear hi
  go_wp2_with fail
  go_ret
  exact ⟨ret_bool HI.out, rfl⟩
theorem isForm_any (f : Int) (w : World) : Calls Tryz.prog 27 #[.int .i64 f] w fun e w' => e = .returned (.bool (decide (1 ≤ f) && decide (f ≤ 11))) ∧ w' = w := by
  by_cases h1 : 1 ≤ f
  · by_cases h2 : f ≤ 11
    · go_enter Tryz.func27, Tryz.ntmps27
      go_wp2_with fail
      go_ret
      exact ⟨ret_bool (by first | (simp [h1, h2]; done) | rfl), rfl⟩
    · have h2' : 11 < f := by omega
      have hd : decide (f ≤ 11) = false := decide_eq_false h2
      go_enter Tryz.func27, Tryz.ntmps27
      go_wp2_with fail
      go_ret
      exact ⟨ret_bool (by first | rfl | (simp [h1, hd]; done)), rfl⟩
  · have h1' : f < 1 := by omega
    have hd : decide (1 ≤ f) = false := decide_eq_false h1
    go_enter Tryz.func27, Tryz.ntmps27
    go_wp2_with fail
    go_ret
    exact ⟨ret_bool (by first | rfl | (simp [hd]; done)), rfl⟩
/-- takes, of a key with cells r and of form f, says b. -/
def TakesAt (f : Int) (r : Kr) (v : ByteArray) (b : Bool) (w : World) : Prop :=
  Calls Tryz.prog 28 #[.agg #[.string (str r.s), .string (str r.n), .int .i64 f, .bool r.l, .int .i64 r.k, .slice r.A r.m r.c], .string v] w fun e w' => e = .returned (.bool b) ∧ Below w.heap.size w w'
theorem takes_text (r : Kr) (v : ByteArray) (w : World) : TakesAt 1 r v true w := by
  unfold TakesAt
  rcases he : v.toList.isEmpty with _ | _
  · go_enter Tryz.func28, Tryz.ntmps28
    go_wp2_with fail
    go_ret
    exact ⟨rfl, (Below.refl _ w).alloc (Nat.le_refl _) _⟩
  · rcases hl : r.l with _ | _
    all_goals
      go_enter Tryz.func28, Tryz.ntmps28
      go_wp2_with fail
      go_ret
      exact ⟨rfl, (Below.refl _ w).alloc (Nat.le_refl _) _⟩
theorem takes_empty (f : Int) (hf : f ≠ 1) (r : Kr) (v : ByteArray) (he : v.toList.isEmpty = true) (w : World) : TakesAt f r v r.l w := by
  unfold TakesAt
  have hd : ((f : Int) == 1) = false := by simpa using hf
  rcases hl : r.l with _ | _
  all_goals
    go_enter Tryz.func28, Tryz.ntmps28
    go_wp2_with fail
    go_ret
    exact ⟨rfl, (Below.refl _ w).alloc (Nat.le_refl _) _⟩
theorem takes_word (r : Kr) (v : ByteArray) (he : v.toList.isEmpty = false) (w : World) (B : Nat) (l : List (List UInt8)) (h : RowAt w B r.A r.m l) (hB : B ≤ w.heap.size) : TakesAt 10 r v (l.any (fun x => decide (x = v.data.toList))) w := by
  unfold TakesAt
  have HC := Lib.hid (txtHas_any r.A r.m r.c B l v (w.alloc (.cells #[.string (str r.s), .string (str r.n), .int .i64 10, .bool r.l, .int .i64 r.k, .slice r.A r.m r.c] 28)) (h.below (((Below.refl _ w).alloc (Nat.le_refl _) _).mono hB)))
  clear h
  go_enter Tryz.func28, Tryz.ntmps28
  go_wp2_with fail
  refine HC.out.mono ?_
  rintro e w1 ⟨rfl, rfl⟩
  go_wp2_with fail
  go_ret
  exact ⟨rfl, (Below.refl _ w).alloc (Nat.le_refl _) _⟩
theorem Value_of (f : Int) (h1 : 1 ≤ f) (h2 : f ≤ 11) (r : Kr) (v : ByteArray) (b : Bool) (w : World) (h : TakesAt f r v b (w.alloc (.cells #[.string (str r.s), .string (str r.n), .int .i64 f, .bool r.l, .int .i64 r.k, .slice r.A r.m r.c] 28))) :
    Calls Tryz.prog 15 #[.agg #[.string (str r.s), .string (str r.n), .int .i64 f, .bool r.l, .int .i64 r.k, .slice r.A r.m r.c], .string v] w fun e w' => e = .returned (.int .i64 (if b = true then 0 else 12)) ∧ Below w.heap.size w w' := by
  have HC := Lib.hid h
  have HF := fun w => isForm_any f w
  rw [decide_eq_true h1, decide_eq_true h2] at HF
  have HF := Lib.hid HF
  clear h h1 h2
  rcases b with _ | _
  all_goals
    go_enter Tryz.func15, Tryz.ntmps15
    go_wp2_with (go_at_call 27; refine (HF.out _).mono ?_; rintro e w1 ⟨rfl, rfl⟩)
    refine HC.out.mono ?_
    rintro e w2 ⟨rfl, hb⟩
    go_wp2_with fail
    go_ret
    exact ⟨rfl, more ((Below.refl _ w).alloc (Nat.le_refl _) _) hb⟩
end Go.Proofs.YtadifolonbkamaaGreatDoor
namespace Go.Proofs.YtadifolonbkamaaGreatDoor
open Go.RowKit
theorem rowW {w : World} {B n : Nat} {A : Option Addr} {l : List (List UInt8)} (h : Wd.RowAt w B A n l) : RowAt w B A n l := h
theorem split_out (s : ByteArray) (hs : s.size ≤ 140737488355327) (w : World) :
    Calls Tryz.prog 82 #[.string s] w fun e w' => ∃ (A : Option Addr) (n c : Nat), e = .returned (.tuple #[.slice A n c, .int .i64 (Wd.splitW s.data.toList).2]) ∧ RowAt w' w'.heap.size A n (Wd.splitW s.data.toList).1 ∧ Below w.heap.size w w' := by
  refine (Wd.Split_any s (by unfold maxLen; omega) (by have := Wd.topS_le s.data.toList; rw [size_list] at this; omega) w).mono ?_
  rintro e w' ⟨A, n, c, he, _, _, h, hb⟩
  exact ⟨A, n, c, he, rowW h, hb⟩
/-- What is behind a first '-'. -/
def dashT (s : ByteArray) : ByteArray := str (Lib.trimPrefix s.data.toList [45])
theorem dashT_size (s : ByteArray) : (dashT s).size ≤ s.size := by
  unfold dashT Lib.trimPrefix
  rw [str_size]
  split
  · rw [List.length_drop, size_list]; omega
  · rw [size_list]; exact Nat.le_refl _
/-- Is a text a command? -/
def cmdW (l : List UInt8) : Bool := decide ((Wd.splitW l).2 = 0) && (match (Wd.splitW l).1 with | [] => false | x :: _ => !decide (x = []))
def cmdS (s : ByteArray) : Bool := cmdW (dashT s).data.toList
/-- Is a text a row of assignments? -/
def envS (s : ByteArray) : Bool := decide ((Wd.splitW s.data.toList).2 = 0) && (!decide ((Wd.splitW s.data.toList).1 = []) && !(Wd.splitW s.data.toList).1.any noAsgL)
set_option maxHeartbeats 2000000 in
theorem isEnv_any (s : ByteArray) (hs : s.size ≤ 140737488355327) (w : World) :
    Calls Tryz.prog 55 #[.string s] w fun e w' => e = .returned (.bool (envS s)) ∧ Below w.heap.size w w' := by
  have HS := Lib.hid fun w => split_out s hs w
  have HML := Lib.hid (Wd.split_mem_le s.data.toList)
  have hsz : s.data.toList.length = s.size := size_list s
  unfold envS
  generalize Wd.splitW s.data.toList = sp at *
  obtain ⟨l, k⟩ := sp
  dsimp only at HS HML ⊢
  by_cases hk : k = 0
  · subst hk
    have HL : Hid (∀ x ∈ l, x.length ≤ maxLen) := fun x hx => by have := HML.out rfl x hx; unfold maxLen; omega
    rw [decide_eq_true rfl, Bool.true_and]
    by_cases hl : l = []
    · subst hl
      go_enter Tryz.func55, Tryz.ntmps55
      go_wp2_with fail
      refine (HS.out _).mono ?_
      rintro e w1 ⟨A, n, c, rfl, hr, hb⟩
      obtain rfl : n = 0 := hr.1.symm
      go_wp2_with fail
      go_ret
      exact ⟨rfl, hb⟩
    · have h0 : 0 < l.length := List.length_pos_iff.2 hl
      rw [decide_eq_false hl, Bool.not_false, Bool.true_and]
      have HC : Hid (∀ A n c w1, RowAt w1 w1.heap.size A n l → Calls Tryz.prog 84 #[.slice A n c, .func (.func 85) #[] #[]] w1 fun e w' => e = .returned (.bool (l.any noAsgL)) ∧ Below w1.heap.size w1 w') := fun A n c w1 hr => asgHas_any A n c _ l w1 hr (Nat.le_refl _) HL.out
      rcases ha : l.any noAsgL with _ | _
      all_goals
        rw [ha] at HC
        clear ha hl
        go_enter Tryz.func55, Tryz.ntmps55
        go_wp2_with fail
        refine (HS.out _).mono ?_
        rintro e w1 ⟨A, n, c, rfl, hr, hb⟩
        have hn : l.length = n := hr.1
        have i0 : (0 : Int) < (n : Int) := by omega
        have i0n : 0 < n := by omega
        have HC1 := Lib.hid (HC.out A n c w1 hr)
        clear hr
        go_wp2_with (go_at_call 84; refine HC1.out.mono ?_; rintro e w2 ⟨rfl, hb2⟩)
        go_ret
        exact ⟨rfl, more hb hb2⟩
  · have hk0 : ((k : Int) == 0) = false := by simp; omega
    rw [decide_eq_false hk, Bool.false_and]
    go_enter Tryz.func55, Tryz.ntmps55
    go_wp2_with fail
    refine (HS.out _).mono ?_
    rintro e w1 ⟨A, n, c, rfl, hr, hb⟩
    go_wp2_with fail
    go_ret
    exact ⟨rfl, hb⟩
set_option maxHeartbeats 2000000 in
theorem isCmd_any (s : ByteArray) (hs : s.size ≤ 140737488355327) (w : World) :
    Calls Tryz.prog 54 #[.string s] w fun e w' => e = .returned (.bool (cmdS s)) ∧ Below w.heap.size w w' := by
  have HS := Lib.hid fun w => split_out (dashT s) (by have := dashT_size s; omega) w
  have HP : Hid (∀ w, Calls Tryz.prog 83 #[.string s, .string ⟨#[45]⟩] w fun e w' => e = .returned (.string (dashT s)) ∧ w = w') := fun w => by
    refine (Tryz.strings_TrimPrefix s ⟨#[45]⟩ w).mono ?_
    rintro e w' ⟨he, hw⟩
    exact ⟨he, hw.symm⟩
  unfold cmdS cmdW
  generalize dashT s = d at *
  generalize Wd.splitW d.data.toList = sp at *
  obtain ⟨l, k⟩ := sp
  dsimp only at HS ⊢
  by_cases hk : k = 0
  · subst hk
    rw [decide_eq_true rfl, Bool.true_and]
    cases l with
    | nil =>
      go_enter Tryz.func54, Tryz.ntmps54
      go_wp2_with (go_at_call 83; refine (HP.out _).mono ?_; rintro e w1 ⟨rfl, rfl⟩)
      refine (HS.out _).mono ?_
      rintro e w1 ⟨A, n, c, rfl, hr, hb⟩
      obtain rfl : n = 0 := hr.1.symm
      go_wp2_with fail
      go_ret
      exact ⟨rfl, hb⟩
    | cons x l =>
      have hxe : (str x).toList.isEmpty = decide (x = []) := by rw [isEmpty_iff]; rfl
      dsimp only
      rcases hd : decide (x = []) with _ | _
      all_goals
        rw [hd] at hxe
        clear hd
        go_enter Tryz.func54, Tryz.ntmps54
        go_wp2_with (go_at_call 83; refine (HP.out _).mono ?_; rintro e w1 ⟨rfl, rfl⟩)
        refine (HS.out _).mono ?_
        rintro e w1 ⟨A, n, c, rfl, hr, hb⟩
        have hn : (x :: l).length = n := hr.1
        have hn0 : 0 < n := by rw [← hn]; simp
        have i0 : (0 : Int) < (n : Int) := by omega
        have i0n : 0 < n := by omega
        obtain ⟨ad, y, rfl, _, hy, q0⟩ := hr.at_ hn0
        rw [show ad.add 0 = ad from by simp [Addr.add]] at q0
        simp only [List.getElem?_cons_zero, Option.some.injEq] at hy
        subst hy
        clear hr hn
        go_wp2_with fail
        go_ret
        exact ⟨rfl, hb⟩
  · have hk0 : ((k : Int) == 0) = false := by simp; omega
    rw [decide_eq_false hk, Bool.false_and]
    go_enter Tryz.func54, Tryz.ntmps54
    go_wp2_with (go_at_call 83; refine (HP.out _).mono ?_; rintro e w1 ⟨rfl, rfl⟩)
    refine (HS.out _).mono ?_
    rintro e w1 ⟨A, n, c, rfl, hr, hb⟩
    go_wp2_with fail
    go_ret
    exact ⟨rfl, hb⟩
end Go.Proofs.YtadifolonbkamaaGreatDoor
