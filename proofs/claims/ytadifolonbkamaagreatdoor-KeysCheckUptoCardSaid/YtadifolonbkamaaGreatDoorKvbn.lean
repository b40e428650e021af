/- The walks of the developers' isCommand, isEnvironment. The walks of the developers' takes at every form, and what Value  -/
import Derived.Test.YtadifolonbkamaaGreatDoorKvam
import Derived.Test.YtadifolonbkamaaGreatDoorKvbb
import Derived.Test.YtadifolonbkamaaGreatDoorKvax
import Derived.Test.YtadifolonbkamaaGreatDoorKvbd
import Derived.Test.YtadifolonbkamaaGreatDoorKvbl
import Derived.Test.YtadifolonbkamaaGreatDoorKvad
import Derived.Test.YtadifolonbkamaaGreatDoorKvbm
import Derived.Test.YtadifolonbkamaaGreatDoorKvaw
import Derived.Laws.BitsAllLaws
import Derived.Laws.BitsLemmas
import Derived.BigQuiet
namespace Go.Proofs.YtadifolonbkamaaGreatDoor
open Go.RowKit
theorem rowW {w : World} {B n : Nat} {A : Option Addr} {l : List (List UInt8)} (h : Wd.RowAt w B A n l) : RowAt w B A n l := h
theorem split_out (s : ByteArray) (hs : s.size ≤ 140737488355327) (w : World) :
    Calls Tryz.prog 82 #[.string s] w fun e w' => ∃ (A : Option Addr) (n c : Nat), e = .returned (.tuple #[.slice A n c, .int .i64 (Wd.splitW s.data.toList).2]) ∧ RowAt w' w'.heap.size A n (Wd.splitW s.data.toList).1 ∧ Below w.heap.size w w' := by
  refine (Wd.Split_any s (by unfold maxLen; omega) (by have := Wd.topS_le s.data.toList; rw [size_list] at this; omega) w).mono ?_
  rintro e w' ⟨A, n, c, he, _, _, h, hb⟩
  exact ⟨A, n, c, he, rowW h, hb⟩
def dashT (s : ByteArray) : ByteArray := str (Lib.trimPrefix s.data.toList [45])
theorem dashT_size (s : ByteArray) : (dashT s).size ≤ s.size := by
  unfold dashT Lib.trimPrefix
  rw [str_size]
  split
  · rw [List.length_drop, size_list]; omega
  · rw [size_list]; exact Nat.le_refl _
def cmdW (l : List UInt8) : Bool := decide ((Wd.splitW l).2 = 0) && (match (Wd.splitW l).1 with | [] => false | x :: _ => !decide (x = []))
def cmdS (s : ByteArray) : Bool := cmdW (dashT s).data.toList
def envS (s : ByteArray) : Bool := decide ((Wd.splitW s.data.toList).2 = 0) && (!decide ((Wd.splitW s.data.toList).1 = []) && !(Wd.splitW s.data.toList).1.any noAsgL)
set_option maxHeartbeats 2000000 in
theorem isEnv_any (s : ByteArray) (hs : s.size ≤ 140737488355327) (w : World) :
    Calls Tryz.prog 55 #[.string s] w fun e w' => e = .returned (.bool (envS s)) ∧ Below w.heap.size w w' := by
  have HS := Lib.hid fun w => split_out s hs w
  have HML := Lib.hid (Wd.split_mem_le s.data.toList)
  have hsz : s.data.toList.length = s.size := size_list s
  unfold envS
  generalize Wd.splitW s.data.toList = sp at *
  obtain ⟨l, k⟩ := sp
  dsimp only at HS HML ⊢
  by_cases hk : k = 0
  · subst hk
    have HL : Hid (∀ x ∈ l, x.length ≤ maxLen) := fun x hx => by have := HML.out rfl x hx; unfold maxLen; omega
    rw [decide_eq_true rfl, Bool.true_and]
    by_cases hl : l = []
    · subst hl
      go_enter Tryz.func55, Tryz.ntmps55
      go_wp2_with fail
      refine (HS.out _).mono ?_
      rintro e w1 ⟨A, n, c, rfl, hr, hb⟩
      obtain rfl : n = 0 := hr.1.symm
      go_wp2_with fail
      go_ret
      exact ⟨rfl, hb⟩
    · have h0 : 0 < l.length := List.length_pos_iff.2 hl
      rw [decide_eq_false hl, Bool.not_false, Bool.true_and]
      have HC : Hid (∀ A n c w1, RowAt w1 w1.heap.size A n l → Calls Tryz.prog 84 #[.slice A n c, .func (.func 85) #[] #[]] w1 fun e w' => e = .returned (.bool (l.any noAsgL)) ∧ Below w1.heap.size w1 w') := fun A n c w1 hr => asgHas_any A n c _ l w1 hr (Nat.le_refl _) HL.out
      rcases ha : l.any noAsgL with _ | _
      all_goals
        rw [ha] at HC
        clear ha hl
        go_enter Tryz.func55, Tryz.ntmps55
        go_wp2_with fail
        refine (HS.out _).mono ?_
        rintro e w1 ⟨A, n, c, rfl, hr, hb⟩
        have hn : l.length = n := hr.1
        have i0 : (0 : Int) < (n : Int) := by omega
        have i0n : 0 < n := by omega
        have HC1 := Lib.hid (HC.out A n c w1 hr)
        clear hr
        go_wp2_with (go_at_call 84; refine HC1.out.mono ?_; rintro e w2 ⟨rfl, hb2⟩)
        go_ret
        exact ⟨rfl, more hb hb2⟩
  · have hk0 : ((k : Int) == 0) = false := by simp; omega
    rw [decide_eq_false hk, Bool.false_and]
    go_enter Tryz.func55, Tryz.ntmps55
    go_wp2_with fail
    refine (HS.out _).mono ?_
    rintro e w1 ⟨A, n, c, rfl, hr, hb⟩
    go_wp2_with fail
    go_ret
    exact ⟨rfl, hb⟩
set_option maxHeartbeats 2000000 in
theorem isCmd_any (s : ByteArray) (hs : s.size ≤ 140737488355327) (w : World) :
    Calls Tryz.prog 54 #[.string s] w fun e w' => e = .returned (.bool (cmdS s)) ∧ Below w.heap.size w w' := by
  have HS := Lib.hid fun w => split_out (dashT s) (by have := dashT_size s; omega) w
  have HP : Hid (∀ w, Calls Tryz.prog 83 #[.string s, .string ⟨#[45]⟩] w fun e w' => e = .returned (.string (dashT s)) ∧ w = w') := fun w => by
    refine (Tryz.strings_TrimPrefix s ⟨#[45]⟩ w).mono ?_
    rintro e w' ⟨he, hw⟩
    exact ⟨he, hw.symm⟩
  unfold cmdS cmdW
  generalize dashT s = d at *
  generalize Wd.splitW d.data.toList = sp at *
  obtain ⟨l, k⟩ := sp
  dsimp only at HS ⊢
  by_cases hk : k = 0
  · subst hk
    rw [decide_eq_true rfl, Bool.true_and]
    cases l with
    | nil =>
      go_enter Tryz.func54, Tryz.ntmps54
      go_wp2_with (go_at_call 83; refine (HP.out _).mono ?_; rintro e w1 ⟨rfl, rfl⟩)
      refine (HS.out _).mono ?_
      rintro e w1 ⟨A, n, c, rfl, hr, hb⟩
      obtain rfl : n = 0 := hr.1.symm
      go_wp2_with fail
      go_ret
      exact ⟨rfl, hb⟩
    | cons x l =>
      have hxe : (str x).toList.isEmpty = decide (x = []) := by rw [isEmpty_iff]; rfl
      dsimp only
      rcases hd : decide (x = []) with _ | _
      all_goals
        rw [hd] at hxe
        clear hd
        go_enter Tryz.func54, Tryz.ntmps54
        go_wp2_with (go_at_call 83; refine (HP.out _).mono ?_; rintro e w1 ⟨rfl, rfl⟩)
        refine (HS.out _).mono ?_
        rintro e w1 ⟨A, n, c, rfl, hr, hb⟩
        have hn : (x :: l).length = n := hr.1
        have hn0 : 0 < n := by rw [← hn]; simp
        have i0 : (0 : Int) < (n : Int) := by omega
        have i0n : 0 < n := by omega
        obtain ⟨ad, y, rfl, _, hy, q0⟩ := hr.at_ hn0
        rw [show ad.add 0 = ad from by simp [Addr.add]] at q0
        simp only [List.getElem?_cons_zero, Option.some.injEq] at hy
        subst hy
        clear hr hn
        go_wp2_with fail
        go_ret
        exact ⟨rfl, hb⟩
  · have hk0 : ((k : Int) == 0) = false := by simp; omega
    rw [decide_eq_false hk, Bool.false_and]
    go_enter Tryz.func54, Tryz.ntmps54
    go_wp2_with (go_at_call 83; refine (HP.out _).mono ?_; rintro e w1 ⟨rfl, rfl⟩)
    refine (HS.out _).mono ?_
    rintro e w1 ⟨A, n, c, rfl, hr, hb⟩
    go_wp2_with fail
    go_ret
    exact ⟨rfl, hb⟩
theorem takes_bool (r : Kr) (v : ByteArray) (he : v.toList.isEmpty = false) (hv : v.size ≤ 140737488355327) (w : World) : TakesAt 2 r v (boolS v) w := by
  unfold TakesAt
  have hm : v.size ≤ maxLen := by unfold maxLen; omega
  have HC := Lib.hid fun w => isBool_any v w
  go_enter Tryz.func28, Tryz.ntmps28
  go_wp2_with fail
  refine (HC.out _).mono ?_
  rintro e w1 ⟨rfl, hb⟩
  go_wp2_with fail
  go_ret
  exact ⟨rfl, more ((Below.refl _ w).alloc (Nat.le_refl _) _) hb⟩
theorem takes_num (r : Kr) (v : ByteArray) (he : v.toList.isEmpty = false) (hv : v.size ≤ 140737488355327) (w : World) : TakesAt 3 r v (numS v) w := by
  unfold TakesAt
  have hm : v.size ≤ maxLen := by unfold maxLen; omega
  have HC := Lib.hid fun w => isNumber_any v hm w
  go_enter Tryz.func28, Tryz.ntmps28
  go_wp2_with fail
  refine (HC.out _).mono ?_
  rintro e w1 ⟨rfl, hb⟩
  go_wp2_with fail
  go_ret
  exact ⟨rfl, more ((Below.refl _ w).alloc (Nat.le_refl _) _) hb⟩
theorem takes_unit (r : Kr) (v : ByteArray) (he : v.toList.isEmpty = false) (hv : v.size ≤ 140737488355327) (w : World) : TakesAt 5 r v (unitS v) w := by
  unfold TakesAt
  have hm : v.size ≤ maxLen := by unfold maxLen; omega
  have HC := Lib.hid fun w => isUnit_any v hm w
  go_enter Tryz.func28, Tryz.ntmps28
  go_wp2_with fail
  refine (HC.out _).mono ?_
  rintro e w1 ⟨rfl, hb⟩
  go_wp2_with fail
  go_ret
  exact ⟨rfl, more ((Below.refl _ w).alloc (Nat.le_refl _) _) hb⟩
theorem takes_cmd (r : Kr) (v : ByteArray) (he : v.toList.isEmpty = false) (hv : v.size ≤ 140737488355327) (w : World) : TakesAt 7 r v (cmdS v) w := by
  unfold TakesAt
  have hm : v.size ≤ maxLen := by unfold maxLen; omega
  have HC := Lib.hid fun w => isCmd_any v hv w
  go_enter Tryz.func28, Tryz.ntmps28
  go_wp2_with fail
  refine (HC.out _).mono ?_
  rintro e w1 ⟨rfl, hb⟩
  go_wp2_with fail
  go_ret
  exact ⟨rfl, more ((Below.refl _ w).alloc (Nat.le_refl _) _) hb⟩
theorem takes_env (r : Kr) (v : ByteArray) (he : v.toList.isEmpty = false) (hv : v.size ≤ 140737488355327) (w : World) : TakesAt 8 r v (envS v) w := by
  unfold TakesAt
  have hm : v.size ≤ maxLen := by unfold maxLen; omega
  have HC := Lib.hid fun w => isEnv_any v hv w
  go_enter Tryz.func28, Tryz.ntmps28
  go_wp2_with fail
  refine (HC.out _).mono ?_
  rintro e w1 ⟨rfl, hb⟩
  go_wp2_with fail
  go_ret
  exact ⟨rfl, more ((Below.refl _ w).alloc (Nat.le_refl _) _) hb⟩
theorem takes_nums (r : Kr) (v : ByteArray) (he : v.toList.isEmpty = false) (hv : v.size ≤ 140737488355327) (w : World) : TakesAt 11 r v (listS numS v) w := by
  unfold TakesAt
  have hm : v.size ≤ maxLen := by unfold maxLen; omega
  have HC := Lib.hid fun w => listGn_any v hm w
  go_enter Tryz.func28, Tryz.ntmps28
  go_wp2_with fail
  refine (HC.out _).mono ?_
  rintro e w1 ⟨rfl, hb⟩
  go_wp2_with fail
  go_ret
  exact ⟨rfl, more ((Below.refl _ w).alloc (Nat.le_refl _) _) hb⟩
theorem takes_span (r : Kr) (v : ByteArray) (he : v.toList.isEmpty = false) (hv : v.size ≤ 140737488355327) (w : World) : TakesAt 4 r v (Sn.parseOk v) w := by
  unfold TakesAt
  have HC := Lib.hid fun w => Sn.Parse_any v (by unfold maxLen; omega) w
  go_enter Tryz.func28, Tryz.ntmps28
  go_wp2_with fail
  refine (HC.out _).mono ?_
  rintro e w1 ⟨rfl, hb⟩
  go_wp2_with fail
  go_ret
  exact ⟨rfl, more ((Below.refl _ w).alloc (Nat.le_refl _) _) hb⟩
def calS (v : ByteArray) : Bool := (Ca.parseC v.data.toList).isSome
theorem takes_cal (r : Kr) (v : ByteArray) (he : v.toList.isEmpty = false) (hv : v.size ≤ 140737488355327) (w : World) (ht : Ca.TabM w) : TakesAt 9 r v (calS v) w := by
  unfold TakesAt
  have HC := Lib.hid (Ca.Parse_any v (by unfold maxLen; omega) (w.alloc (.cells #[.string (str r.s), .string (str r.n), .int .i64 9, .bool r.l, .int .i64 r.k, .slice r.A r.m r.c] 28)) (ht.below ((Below.refl _ w).alloc (Nat.le_refl _) _)))
  clear ht
  go_enter Tryz.func28, Tryz.ntmps28
  go_wp2_with fail
  refine HC.out.mono ?_
  rintro e w1 ⟨c, rfl, _, _, hb⟩
  change Below _ _ _ at hb
  have HB := Lib.hid (more ((Below.refl _ w).alloc (Nat.le_refl _) _) hb)
  have HA : Hid (Blk (w1.alloc (.cells #[.slice none 0 0, .slice none 0 0, .slice none 0 0, .slice none 0 0, .slice none 0 0, .slice none 0 0, .slice none 0 0] 63)) w1.heap.size 63 Ca.nilCh.cells) := Blk.new w1 _ _
  clear hb HC
  go_wp2_with (refine wpList_store_row rfl 63 (.tmp 7) (.tmp 47) (by rfl) w1.heap.size c.cells (by rfl) (by rfl) 63 Ca.nilCh.cells HA.out (by kernel_rfl) rfl (Ca.ch_all _) ?_)
  go_ret
  exact ⟨rfl, below_setRow (HB.out.alloc HB.out.size _) HB.out.size _⟩
def takesT (x : Ky) (v : ByteArray) : Bool :=
  if x.f = 1 then true else if v.toList.isEmpty = true then x.l else
  if x.f = 2 then boolS v else if x.f = 3 then numS v else if x.f = 4 then Sn.parseOk v else if x.f = 5 then unitS v else if x.f = 6 then listS unitS v else
  if x.f = 7 then cmdS v else if x.f = 8 then envS v else if x.f = 9 then calS v else if x.f = 10 then x.w.any (fun y => decide (y = v.data.toList)) else listS numS v
def valueT (x : Ky) (v : ByteArray) : Int := if takesT x v = true then 0 else 12
def numJ (l : List UInt8) : Int := if 1 ≤ l.length ∧ l.length ≤ 5 ∧ l.all isDig = true ∧ valL l ≤ 65535 then valL l else -1
theorem numJ_long {l : List UInt8} (h : l.length < 1 ∨ 5 < l.length) : numJ l = -1 := by
  unfold numJ; rw [if_neg (by omega)]
theorem numJ_bad {l : List UInt8} {k : Nat} (h : k < l.length) (hd : isDig (l[k]'h) = false) : numJ l = -1 := by
  unfold numJ
  rw [if_neg]
  rintro ⟨_, _, h3, _⟩
  have := List.all_eq_true.1 h3 (l[k]'h) (List.getElem_mem h)
  rw [hd] at this; cases this
theorem numJ_ok {l : List UInt8} (h0 : 1 ≤ l.length) (h4 : l.length ≤ 5) (h : ∀ c ∈ l, isDig c = true) : numJ l = if (valL l : Int) ≤ 65535 then (valL l : Int) else -1 := by
  unfold numJ
  by_cases hb : valL l ≤ 65535
  · rw [if_pos ⟨h0, h4, List.all_eq_true.2 h, hb⟩, if_pos (by omega)]
  · rw [if_neg (fun q => hb q.2.2.2), if_neg (by omega)]
theorem val_snocJ (l : List UInt8) (c : UInt8) : valL (l ++ [c]) = 10 * valL l + (c.toNat - 48) := by
  unfold valL; rw [List.foldl_append, List.foldl_cons, List.foldl_nil]
theorem dec_val (l : List UInt8) (acc : Nat) (h : l.all digV = true) : Lib.decFrom acc l = some (l.foldl (fun n c => 10 * n + (c.toNat - 48)) acc) := by
  induction l generalizing acc with
  | nil => rfl
  | cons c l ih =>
    rw [List.all_cons, Bool.and_eq_true] at h
    have hc : 48 ≤ c.toNat ∧ c.toNat ≤ 57 := by have := h.1; unfold digV at this; simpa using this
    have hd : Lib.digitVal c = some (c.toNat - 48) := by unfold Lib.digitVal; rw [if_pos hc]
    rw [Lib.decFrom, hd]
    simp only
    rw [ih _ h.2, List.foldl_cons, Nat.mul_comm acc 10]
theorem numS_J (s : ByteArray) : numS s = decide (0 ≤ numJ s.data.toList) := by
  unfold numS numJ consS
  have hl : s.data.toList.length = s.size := by rw [Array.length_toList]; rfl
  have he : s.toList.isEmpty = decide (s.data.toList = []) := by
    rw [Lib.toList_data]
    cases s.data.toList <;> rfl
  rw [he]
  have hdig : s.data.toList.all digV = s.data.toList.all isDig := rfl
  rw [hdig]
  by_cases h1 : s.data.toList.all isDig = true
  · have hn : numN s = valL s.data.toList := by unfold numN valL; rw [dec_val _ 0 (hdig.trans h1)]; rfl
    rw [h1, hn]
    generalize s.data.toList = l at *
    by_cases h0 : l = []
    · subst h0
      simp
    · have h2 : 1 ≤ l.length := List.length_pos_iff.2 h0
      by_cases h5 : l.length ≤ 5
      · by_cases hv : valL l ≤ 65535
        · rw [if_pos ⟨h2, h5, rfl, hv⟩]
          simp [h0, hv]; omega
        · rw [if_neg (fun q => hv q.2.2.2)]
          simp [hv]
      · rw [if_neg (fun q => h5 q.2.1)]
        simp; omega
  · rw [if_neg (fun q => h1 q.2.2.1)]
    have : s.data.toList.all isDig = false := by simpa using h1
    rw [this]
    simp
set_option maxHeartbeats 2000000 in
theorem Number_any (s : ByteArray) (hs : s.size ≤ 4194304) (w : World) :
    Calls Tryz.prog 31 #[.string s] w fun e w' => e = .returned (.int .i64 (numJ s.data.toList)) ∧ w = w' := by
  have hlen := size_list s
  by_cases h1 : s.size < 1
  · have HN := Lib.hid (numJ_long (l := s.data.toList) (.inl (by omega)))
    have h1' : (s.size : Int) < 1 := by omega
    clear hlen h1
    go_enter Tryz.func31, Tryz.ntmps31
    go_wp2_with fail
    go_ret
    exact ⟨ret_int (by rw [HN.out]), rfl⟩
  by_cases h4 : 5 < s.size
  · have HN := Lib.hid (numJ_long (l := s.data.toList) (.inr (by omega)))
    have h1' : (1 : Int) ≤ (s.size : Int) := by omega
    have h4' : (5 : Int) < (s.size : Int) := by omega
    have u1 : (0 : Nat) ≤ 1 := Nat.zero_le _
    clear hlen h1 h4
    go_enter Tryz.func31, Tryz.ntmps31
    go_wp2_with fail
    go_ret
    exact ⟨ret_int (by rw [HN.out]), rfl⟩
  have h1' : (1 : Int) ≤ (s.size : Int) := by omega
  have h4' : (s.size : Int) ≤ 5 := by omega
  have u1 : (0 : Nat) ≤ 1 := Nat.zero_le _
  have u2 : (0 : Nat) ≤ 2 := Nat.zero_le _
  have HL := Lib.hid hlen
  clear hlen h1 h4
  go_enter Tryz.func31, Tryz.ntmps31
  go_wp2_with fail
  go_loop [3, 4] (fun n i => ∃ (k v : Nat), k ≤ s.size ∧ v < 10 ^ k ∧ i = .int .i64 k ∧ n = .int .i64 v ∧ Hid (v = valL (s.data.toList.take k)) ∧ Hid (∀ c ∈ s.data.toList.take k, isDig c = true)) (fun _ i => s.size - (intOf i).toNat)
  case atStart => exact ⟨0, 0, Nat.zero_le _, by omega, rfl, rfl, by simp [Hid, valL], by intro c hc; simp at hc⟩
  case round =>
    obtain ⟨k, v, hk, hv, rfl, rfl, hval, hdig⟩ := hrel
    have hv4 : v < 100000 := Nat.lt_of_lt_of_le hv (Nat.le_trans (Nat.pow_le_pow_right (by omega) (show k ≤ 5 by omega)) (by decide))
    have HV := Lib.hid hv
    clear hv
    by_cases hlt : k < s.size
    · have b0 : (0 : Int) ≤ (k : Int) := by omega
      have b1 : (k : Int) < (s.size : Int) := by omega
      have hr := s[k].toNat_lt
      have HT := Lib.hid (take_at s k hlt)
      rcases hg : isDig s[k] with _ | _
      · have HN := Lib.hid (numJ_bad (l := s.data.toList) (k := k) (by rw [HL.out]; exact hlt) (by exact hg))
        have HG := Lib.hid hg
        clear hg
        go_wp2_with fail
        refine (Digit_any s[k] _).mono ?_
        rintro e w1 ⟨rfl, rfl⟩
        rw [HG.out]
        go_wp2_with fail
        go_ret
        exact ⟨ret_int (by rw [HN.out]), rfl⟩
      · have hd : 48 ≤ s[k].toNat ∧ s[k].toNat ≤ 57 := by simpa [isDig, Bool.and_eq_true] using hg
        obtain ⟨d0, d1⟩ := hd
        have d0' : (48 : Int) ≤ (s[k].toNat : Int) := by omega
        have d1' : (s[k].toNat : Int) ≤ 57 := by omega
        have HG := Lib.hid hg
        have HV1 : Hid (v * 10 + (s[k].toNat - 48) < 10 ^ (k + 1)) := by
          have := HV.out
          show _ < _
          rw [Nat.pow_succ]; omega
        have HW : Hid (v * 10 + (s[k].toNat - 48) = valL (s.data.toList.take (k + 1))) := by
          show _ = _
          rw [HT.out, val_snocJ, ← hval.out]; omega
        have HD1 : Hid (∀ c ∈ s.data.toList.take (k + 1), isDig c = true) := by
          intro c hc
          rw [HT.out] at hc
          rcases List.mem_append.1 hc with hc | hc
          · exact hdig.out c hc
          · rw [List.mem_singleton.1 hc]; exact HG.out
        clear hg d0 d1
        go_wp2_with fail
        refine (Digit_any s[k] _).mono ?_
        rintro e w1 ⟨rfl, rfl⟩
        rw [HG.out]
        go_wp2_with fail
        go_round
        case rel => exact ⟨k + 1, v * 10 + (s[k].toNat - 48), by omega, HV1.out, by go_num, by congr 1; omega, HW, HD1⟩
        case measure => simp [intOf]; omega
    · obtain rfl : k = s.size := by omega
      have HN : Hid (numJ s.data.toList = if (v : Int) ≤ 65535 then (v : Int) else -1) := by
        have a := hval.out
        have b := hdig.out
        rw [List.take_of_length_le (by rw [HL.out]; exact Nat.le_refl _)] at a b
        show _ = _
        rw [numJ_ok (by rw [HL.out]; omega) (by rw [HL.out]; omega) b, a]
      clear hlt
      by_cases hbig : v ≤ 65535
      · have t9 : (v : Int) ≤ 65535 := by omega
        have HN2 : Hid (numJ s.data.toList = v) := by show _ = _; rw [HN.out, if_pos t9]
        clear hbig HN
        go_wp2_with fail
        go_ret
        exact ⟨ret_int (by rw [HN2.out]), rfl⟩
      · have t9 : (65535 : Int) < (v : Int) := by omega
        have HN2 : Hid (numJ s.data.toList = -1) := by show _ = _; rw [HN.out, if_neg (by omega)]
        clear hbig HN
        go_wp2_with fail
        go_ret
        exact ⟨ret_int (by rw [HN2.out]), rfl⟩
set_option maxHeartbeats 4000000 in
theorem Has_any (A : Option Addr) (n c B : Nat) (l : List (List UInt8)) (v : ByteArray) (w : World) (h : RowAt w B A n l) :
    Calls Tryz.prog 30 #[.slice A n c, .string v] w fun e w' => e = .returned (.bool (l.any (fun x => decide (x = v.data.toList)))) ∧ w = w' := by
  have hm := h.2.1
  unfold maxLen at hm
  have hl := h.1
  have HL := Lib.hid h
  have HN0 : Hid ((l.take 0).any (fun x => decide (x = v.data.toList)) = false) := rfl
  clear h
  go_enter Tryz.func30, Tryz.ntmps30
  go_wp2_with fail
  go_loopw [9] (fun i wr => ∃ k : Nat, k ≤ n ∧ i = .int .i64 k ∧ w = wr ∧ Hid ((l.take k).any (fun x => decide (x = v.data.toList)) = false)) (fun i wr => n - (intOf i).toNat)
  case atStart => exact ⟨0, Nat.zero_le _, rfl, rfl, HN0⟩
  case round =>
    obtain ⟨k, hk, rfl, rfl, hN⟩ := hrel
    by_cases hlt : k < n
    · have b0 : (0 : Int) ≤ (k : Int) := by omega
      have b1 : (k : Int) < (n : Int) := by omega
      obtain ⟨ad, x, rfl, hab, hx, q0⟩ := HL.out.at_ hlt
      obtain ⟨n1, n2⟩ := any_take hN.out hx
      have hq : ((str x).toList == v.toList) = decide (x = v.data.toList) := by
        rw [Lib.toList_data, Lib.toList_data, str_list, Bool.eq_iff_iff, decide_eq_true_eq, beq_iff_eq]
      clear hx
      by_cases hf : x = v.data.toList
      · have HF := Lib.hid (n1 (decide_eq_true hf))
        rw [decide_eq_true hf] at hq
        clear hf n1 n2
        go_wp2_with fail
        go_ret
        exact ⟨ret_bool HF.out.symm, by first | rfl | trivial⟩
      · have HF := Lib.hid (n2 (decide_eq_false hf))
        rw [decide_eq_false hf] at hq
        clear hf n1 n2
        go_wp2_with fail
        go_roundw
        case rel => exact ⟨k + 1, by omega, by go_num, by first | rfl | trivial, HF⟩
        case measure => simp [intOf]; omega
    · obtain rfl : k = n := by omega
      have HF : Hid (l.any (fun x => decide (x = v.data.toList)) = false) := by
        have := hN.out
        rwa [List.take_of_length_le (by omega)] at this
      go_wp2_with fail
      go_ret
      exact ⟨ret_bool HF.out.symm, by first | rfl | trivial⟩
theorem unit_named (s : ByteArray) : unitS s = (Nm.goodP s && !(Nm.atP s && (Nm.instP s).toList.isEmpty)) := by
  unfold unitS
  cases Nm.atP s <;> cases (Nm.instP s).toList.isEmpty <;> simp
set_option maxHeartbeats 4000000 in
theorem named7_any (s : ByteArray) (hs : s.size ≤ maxLen) (w : World) :
    Calls Tryz.prog 32 #[.string s] w fun e w' => e = .returned (.bool (unitS s)) ∧ Below w.heap.size w w' := by
  have HM := fun w => Nm.rMay_any s hs w
  have HI := fun w => Nm.rIsTemplate_any s hs w
  rw [unit_named]
  generalize Nm.goodP s = gp at *
  generalize (Nm.atP s && (Nm.instP s).toList.isEmpty) = tm at *
  have HM := Lib.hid HM
  have HI := Lib.hid HI
  rcases gp with _ | _
  · rw [Bool.false_and]
    go_enter Tryz.func32, Tryz.ntmps32
    go_wp2_with fail
    refine (HM.out _).mono ?_
    rintro e1 w1 ⟨rfl, hb1⟩
    go_wp2_with fail
    go_ret
    exact ⟨rfl, hb1⟩
  · rw [Bool.true_and]
    go_enter Tryz.func32, Tryz.ntmps32
    go_wp2_with fail
    refine (HM.out _).mono ?_
    rintro e1 w1 ⟨rfl, hb1⟩
    have HB1 := Lib.hid hb1
    clear hb1
    go_wp2_with fail
    refine (HI.out _).mono ?_
    rintro e2 w2 ⟨rfl, hb2⟩
    go_wp2_with fail
    go_ret
    exact ⟨rfl, more3 HB1.out HB1.out.size hb2⟩
theorem emp_str (w : List UInt8) : (str w).toList.isEmpty = decide (w = []) := by rw [isEmpty_iff]; rfl
end Go.Proofs.YtadifolonbkamaaGreatDoor
