/- The walks of slices.Index, Contains at texts, of the developers' isForm, Value over takes. Lines of unit files on plain lists of bytes: how a text is parted in logical lines, what one of them says, how lines are written, and the laws between. It speaks of no code. The walks of the developers' isUnit, and of isListOf at it. The walks of the document's kinds, row, worded. The walks of the document's worded and Keys. The walks of the document's Find, and of Same and SameKey at what is alike. The walks of the developers' isNoAssignment, slices.IndexFunc and ContainsFunc at it. -/
import Derived.Test.YtadifolonbkamaaGreatDoorKkah
import Derived.Test.YtadifolonbkamaaGreatDoorKkaa
import Derived.Test.YtadifolonbkamaaGreatDoorKkai
import Derived.Test.YtadifolonbkamaaGreatDoorKkaf
import Derived.Test.YtadifolonbkamaaGreatDoorKkak
import Derived.TacticsInMore
import Derived.Test.YtadifolonbkamaaGreatDoorKkal
import Derived.BigQuiet
import Derived.BigRegion
import Derived.Test.YtadifolonbkamaaGreatDoorKkan
import Derived.Test.YtadifolonbkamaaGreatDoorKkac
namespace Go.Proofs.YtadifolonbkamaaGreatDoor
open Go.RowKit
set_option maxHeartbeats 4000000 in
theorem txtIndex_any (A : Option Addr) (n c B : Nat) (l : List (List UInt8)) (v : ByteArray) (w : World) (h : RowAt w B A n l) :
    Calls Tryz.prog 86 #[.slice A n c, .string v] w fun e w' => ∃ i : Int, e = .returned (.int .i64 i) ∧ decide (0 ≤ i) = l.any (fun x => decide (x = v.data.toList)) ∧ w' = w := by
  have hm := h.2.1
  unfold maxLen at hm
  have hl := h.1
  have HL := Lib.hid h
  have HN0 : Hid ((l.take 0).any (fun x => decide (x = v.data.toList)) = false) := rfl
  clear h
  go_enter Tryz.func86, Tryz.ntmps86
  go_wp2_with fail
  go_loopw [8] (fun i wr => ∃ k : Nat, k ≤ n ∧ i = .int .i64 k ∧ w = wr ∧ Hid ((l.take k).any (fun x => decide (x = v.data.toList)) = false)) (fun i wr => n - (intOf i).toNat)
  case atStart => exact ⟨0, Nat.zero_le _, rfl, rfl, HN0⟩
  case round =>
    obtain ⟨k, hk, rfl, rfl, hN⟩ := hrel
    by_cases hlt : k < n
    · have b0 : (0 : Int) ≤ (k : Int) := by omega
      have b1 : (k : Int) < (n : Int) := by omega
      obtain ⟨ad, x, rfl, hab, hx, q0⟩ := HL.out.at_ hlt
      obtain ⟨n1, n2⟩ := any_take hN.out hx
      have hq : (v.toList == (str x).toList) = decide (x = v.data.toList) := by
        rw [Lib.toList_data, Lib.toList_data, str_list, Bool.eq_iff_iff, decide_eq_true_eq, beq_iff_eq]
        exact eq_comm
      clear hx
      by_cases hf : x = v.data.toList
      · have HF := Lib.hid (n1 (decide_eq_true hf))
        rw [decide_eq_true hf] at hq
        clear hf n1 n2
        go_wp2_with fail
        go_ret
        exact ⟨_, rfl, by rw [HF.out]; simp, by first | rfl | trivial⟩
      · have HF := Lib.hid (n2 (decide_eq_false hf))
        rw [decide_eq_false hf] at hq
        clear hf n1 n2
        go_wp2_with fail
        go_roundw
        case rel => exact ⟨k + 1, by omega, by go_num, by first | rfl | trivial, HF⟩
        case measure => simp [intOf]; omega
    · obtain rfl : k = n := by omega
      have HF : Hid (l.any (fun x => decide (x = v.data.toList)) = false) := by
        have := hN.out
        rwa [List.take_of_length_le (by omega)] at this
      go_wp2_with fail
      go_ret
      exact ⟨_, rfl, by rw [HF.out]; simp, by first | rfl | trivial⟩
theorem txtHas_any (A : Option Addr) (n c B : Nat) (l : List (List UInt8)) (v : ByteArray) (w : World) (h : RowAt w B A n l) :
    Calls Tryz.prog 56 #[.slice A n c, .string v] w fun e w' => e = .returned (.bool (l.any (fun x => decide (x = v.data.toList)))) ∧ w' = w := by
  have HC := Lib.hid (txtIndex_any A n c B l v w h)
  clear h
  go_enter Tryz.func56, Tryz.ntmps56
  go_wp2_with fail
  refine HC.out.mono ?_
  rintro e w1 ⟨i, rfl, hi, rfl⟩
  have HI := Lib.hid hi
  clear hi
  go_wp2_with fail
  go_ret
  exact ⟨ret_bool HI.out, rfl⟩
theorem isForm_any (f : Int) (w : World) : Calls Tryz.prog 27 #[.int .i64 f] w fun e w' => e = .returned (.bool (decide (1 ≤ f) && decide (f ≤ 11))) ∧ w' = w := by
  by_cases h1 : 1 ≤ f
  · by_cases h2 : f ≤ 11
    · go_enter Tryz.func27, Tryz.ntmps27
      go_wp2_with fail
      go_ret
      exact ⟨ret_bool (by first | (simp [h1, h2]; done) | rfl), rfl⟩
    · have h2' : 11 < f := by omega
      have hd : decide (f ≤ 11) = false := decide_eq_false h2
      go_enter Tryz.func27, Tryz.ntmps27
      go_wp2_with fail
      go_ret
      exact ⟨ret_bool (by first | rfl | (simp [h1, hd]; done)), rfl⟩
  · have h1' : f < 1 := by omega
    have hd : decide (1 ≤ f) = false := decide_eq_false h1
    go_enter Tryz.func27, Tryz.ntmps27
    go_wp2_with fail
    go_ret
    exact ⟨ret_bool (by first | rfl | (simp [hd]; done)), rfl⟩
/-- takes, of a key with cells r and of form f, says b. -/
def TakesAt (f : Int) (r : Kr) (v : ByteArray) (b : Bool) (w : World) : Prop :=
  Calls Tryz.prog 28 #[.agg #[.string (str r.s), .string (str r.n), .int .i64 f, .bool r.l, .int .i64 r.k, .slice r.A r.m r.c], .string v] w fun e w' => e = .returned (.bool b) ∧ Below w.heap.size w w'
theorem takes_text (r : Kr) (v : ByteArray) (w : World) : TakesAt 1 r v true w := by
  unfold TakesAt
  rcases he : v.toList.isEmpty with _ | _
  · go_enter Tryz.func28, Tryz.ntmps28
    go_wp2_with fail
    go_ret
    exact ⟨rfl, (Below.refl _ w).alloc (Nat.le_refl _) _⟩
  · rcases hl : r.l with _ | _
    all_goals
      go_enter Tryz.func28, Tryz.ntmps28
      go_wp2_with fail
      go_ret
      exact ⟨rfl, (Below.refl _ w).alloc (Nat.le_refl _) _⟩
theorem takes_empty (f : Int) (hf : f ≠ 1) (r : Kr) (v : ByteArray) (he : v.toList.isEmpty = true) (w : World) : TakesAt f r v r.l w := by
  unfold TakesAt
  have hd : ((f : Int) == 1) = false := by simpa using hf
  rcases hl : r.l with _ | _
  all_goals
    go_enter Tryz.func28, Tryz.ntmps28
    go_wp2_with fail
    go_ret
    exact ⟨rfl, (Below.refl _ w).alloc (Nat.le_refl _) _⟩
theorem takes_word (r : Kr) (v : ByteArray) (he : v.toList.isEmpty = false) (w : World) (B : Nat) (l : List (List UInt8)) (h : RowAt w B r.A r.m l) (hB : B ≤ w.heap.size) : TakesAt 10 r v (l.any (fun x => decide (x = v.data.toList))) w := by
  unfold TakesAt
  have HC := Lib.hid (txtHas_any r.A r.m r.c B l v (w.alloc (.cells #[.string (str r.s), .string (str r.n), .int .i64 10, .bool r.l, .int .i64 r.k, .slice r.A r.m r.c] 28)) (h.below (((Below.refl _ w).alloc (Nat.le_refl _) _).mono hB)))
  clear h
  go_enter Tryz.func28, Tryz.ntmps28
  go_wp2_with fail
  refine HC.out.mono ?_
  rintro e w1 ⟨rfl, rfl⟩
  go_wp2_with fail
  go_ret
  exact ⟨rfl, (Below.refl _ w).alloc (Nat.le_refl _) _⟩
theorem Value_of (f : Int) (h1 : 1 ≤ f) (h2 : f ≤ 11) (r : Kr) (v : ByteArray) (b : Bool) (w : World) (h : TakesAt f r v b (w.alloc (.cells #[.string (str r.s), .string (str r.n), .int .i64 f, .bool r.l, .int .i64 r.k, .slice r.A r.m r.c] 28))) :
    Calls Tryz.prog 15 #[.agg #[.string (str r.s), .string (str r.n), .int .i64 f, .bool r.l, .int .i64 r.k, .slice r.A r.m r.c], .string v] w fun e w' => e = .returned (.int .i64 (if b = true then 0 else 12)) ∧ Below w.heap.size w w' := by
  have HC := Lib.hid h
  have HF := fun w => isForm_any f w
  rw [decide_eq_true h1, decide_eq_true h2] at HF
  have HF := Lib.hid HF
  clear h h1 h2
  rcases b with _ | _
  all_goals
    go_enter Tryz.func15, Tryz.ntmps15
    go_wp2_with (go_at_call 27; refine (HF.out _).mono ?_; rintro e w1 ⟨rfl, rfl⟩)
    refine HC.out.mono ?_
    rintro e w2 ⟨rfl, hb⟩
    go_wp2_with fail
    go_ret
    exact ⟨rfl, more ((Below.refl _ w).alloc (Nat.le_refl _) _) hb⟩
end Go.Proofs.YtadifolonbkamaaGreatDoor
namespace Go.Proofs.YtadifolonbkamaaGreatDoor
def blkL (c : UInt8) : Bool := c == 32 || c == 9
def ltrim (l : List UInt8) : List UInt8 := l.dropWhile blkL
def rtrim (l : List UInt8) : List UInt8 := (l.reverse.dropWhile blkL).reverse
def trimL (l : List UInt8) : List UInt8 := rtrim (ltrim l)
def remL (l : List UInt8) : Bool := match ltrim l with | [] => false | c :: _ => c == 35 || c == 59
def skipR (r : List UInt8) : Bool := decide (trimL r = []) || remL r
structure Ln where
  s : List UInt8
  k : List UInt8
  v : List UInt8
  n : Int
deriving DecidableEq
/-- The rows that are written. -/
def headP (sec s : List UInt8) : List (List UInt8) := if s = sec then [] else (if sec = [] then [] else [[]]) ++ [91 :: (s ++ [93])]
/-- Lines of which none goes on, numbered, those that are skipped left out. -/
def numL : Nat → List (List UInt8) → List (List UInt8 × Nat)
  | _, [] => []
  | i, r :: rs => if skipR r = true then numL (i + 1) rs else (r, i) :: numL (i + 1) rs
end Go.Proofs.YtadifolonbkamaaGreatDoor
namespace Go.Proofs.YtadifolonbkamaaGreatDoor
open Go.RowKit
attribute [local go_sem] Oper.semAt_some
/-- Is a text a unit's name, and no template? -/
def unitS (s : ByteArray) : Bool := Nm.goodP s && (!Nm.atP s || !(Nm.instP s).toList.isEmpty)
set_option maxHeartbeats 2000000 in
theorem isUnit_any (s : ByteArray) (hs : s.size ≤ maxLen) (w : World) :
    Calls Tryz.prog 53 #[.string s] w fun e w' => e = .returned (.bool (unitS s)) ∧ Below w.heap.size w w' := by
  have HM := fun w => Nm.May_any s hs w
  have HP := fun w => Nm.Parts_any s hs w
  unfold unitS
  rcases hg : Nm.goodP s with _ | _ <;> rcases ha : Nm.atP s with _ | _ <;> rcases he : (Nm.instP s).toList.isEmpty with _ | _
  all_goals rw [hg] at HM
  all_goals rw [ha] at HP
  all_goals
    have H1 := Lib.hid HM
    have H2 := Lib.hid HP
    clear HM HP hg ha
    go_enter Tryz.func53, Tryz.ntmps53
    go_wp2_with fail
    refine (H2.out _).mono ?_
    rintro e w1 ⟨rfl, hb⟩
    go_wp2_with fail
    refine (H1.out _).mono ?_
    rintro e w2 ⟨rfl, hb2⟩
    go_wp2_with fail
    go_ret
    exact ⟨rfl, more hb hb2⟩
end Go.Proofs.YtadifolonbkamaaGreatDoor
namespace Go.Proofs.YtadifolonbkamaaGreatDoor
open Go.RowKit
end Go.Proofs.YtadifolonbkamaaGreatDoor
namespace Go.Proofs.YtadifolonbkamaaGreatDoor
open Go.RowKit
end Go.Proofs.YtadifolonbkamaaGreatDoor
namespace Go.Proofs.YtadifolonbkamaaGreatDoor
open Go.RowKit
end Go.Proofs.YtadifolonbkamaaGreatDoor
namespace Go.Proofs.YtadifolonbkamaaGreatDoor
open Go.RowKit
theorem cutA_size (c : UInt8) (s : ByteArray) : (cutA c s).size ≤ s.size := by
  rcases h : cutF c s with _ | _
  · rw [(cutC_no h).2]; exact Nat.le_refl _
  · have := (cutC_yes h).2.2; omega
/-- Is a word no variable's name, '=' and any value? -/
def noAsg (s : ByteArray) : Bool := !cutF 61 s || !isVarS (cutA 61 s)
set_option maxHeartbeats 2000000 in
theorem noAsg_any (s : ByteArray) (hs : s.size ≤ maxLen) (w : World) :
    Calls Tryz.prog 85 #[.string s] w fun e w' => e = .returned (.bool (noAsg s)) ∧ Below w.heap.size w w' := by
  have hA := cutA_size 61 s
  have HC := Lib.hid fun w => cut_c 61 s hs w
  have HV := Lib.hid fun w => isVariable_any (cutA 61 s) (by omega) w
  unfold noAsg
  rcases hf : cutF 61 s with _ | _
  · rw [hf] at HC
    clear hf
    go_enter Tryz.func85, Tryz.ntmps85
    go_wp2_with (go_at_call 112; refine (HC.out _).mono ?_; rintro e w1 ⟨rfl, nd, rfl⟩)
    go_ret
    exact ⟨rfl, below_drewN (Below.refl _ _) _⟩
  · rw [hf] at HC
    clear hf
    rcases hv : isVarS (cutA 61 s) with _ | _
    all_goals
      rw [hv] at HV
      clear hv
      go_enter Tryz.func85, Tryz.ntmps85
      go_wp2_with (first
        | (go_at_call 112; refine (HC.out _).mono ?_; rintro e w1 ⟨rfl, nd, rfl⟩)
        | (go_at_call 113; refine (HV.out _).mono ?_; rintro e w2 ⟨rfl, hb⟩))
      go_ret
      exact ⟨rfl, more (below_drewN (Below.refl _ _) _) hb⟩
theorem any_takeV {α : Type} {l : List α} {p : α → Bool} {k : Nat} {x : α} (h : (l.take k).any p = false) (hx : l[k]? = some x) : (p x = true → l.any p = true) ∧ (p x = false → (l.take (k + 1)).any p = false) := by
  have hk : k < l.length := by
    rcases Nat.lt_or_ge k l.length with h' | h'
    · exact h'
    · rw [List.getElem?_eq_none h'] at hx; cases hx
  have he : l[k] = x := by rw [List.getElem?_eq_getElem hk] at hx; exact Option.some.inj hx
  constructor
  · intro e
    exact List.any_eq_true.2 ⟨x, by rw [← he]; exact List.getElem_mem hk, e⟩
  · intro e
    rw [List.take_succ_eq_append_getElem hk, he, List.any_append, h]
    simp [e]
def noAsgL (x : List UInt8) : Bool := noAsg (str x)
set_option maxHeartbeats 4000000 in
theorem asgIndex_any (A : Option Addr) (n c B : Nat) (l : List (List UInt8)) (w : World) (h : RowAt w B A n l) (hB : B ≤ w.heap.size) (hs : ∀ x ∈ l, x.length ≤ maxLen) :
    Calls Tryz.prog 111 #[.slice A n c, .func (.func 85) #[] #[]] w fun e w' => ∃ i : Int, e = .returned (.int .i64 i) ∧ decide (0 ≤ i) = l.any noAsgL ∧ Below w.heap.size w w' := by
  have hm := h.2.1
  unfold maxLen at hm
  have hl := h.1
  have HL := Lib.hid h
  have HS := Lib.hid hs
  have HN0 : Hid ((l.take 0).any noAsgL = false) := rfl
  clear h hs
  go_enter Tryz.func111, Tryz.ntmps111
  go_wp2_with fail
  go_loopw [8] (fun i wr => ∃ k : Nat, k ≤ n ∧ i = .int .i64 k ∧ Hid (Below w.heap.size w wr) ∧ Hid ((l.take k).any noAsgL = false)) (fun i wr => n - (intOf i).toNat)
  case atStart => exact ⟨0, Nat.zero_le _, rfl, Below.refl _ _, HN0⟩
  case round =>
    obtain ⟨k, hk, rfl, hb, hN⟩ := hrel
    by_cases hlt : k < n
    · have b0 : (0 : Int) ≤ (k : Int) := by omega
      have b1 : (k : Int) < (n : Int) := by omega
      obtain ⟨ad, x, rfl, hab, hx, q0⟩ := (HL.out.below (hb.out.mono hB)).at_ hlt
      obtain ⟨n1, n2⟩ := any_takeV hN.out hx
      have HC := Lib.hid fun w => noAsg_any (str x) (by rw [str_size]; exact HS.out x (List.mem_of_getElem? hx)) w
      clear hx
      rcases hf : noAsg (str x) with _ | _
      · have HF := Lib.hid (n2 hf)
        rw [hf] at HC
        clear hf n1 n2
        go_wp2_with (go_at_call 85; refine (HC.out _).mono ?_; rintro e w1 ⟨rfl, hb1⟩)
        go_roundw
        case rel => exact ⟨k + 1, by omega, by go_num, more hb.out hb1, HF⟩
        case measure => simp [intOf]; omega
      · have HF := Lib.hid (n1 hf)
        rw [hf] at HC
        clear hf n1 n2
        go_wp2_with (go_at_call 85; refine (HC.out _).mono ?_; rintro e w1 ⟨rfl, hb1⟩)
        go_ret
        exact ⟨_, rfl, by rw [HF.out]; simp, more hb.out hb1⟩
    · obtain rfl : k = n := by omega
      have HF : Hid (l.any noAsgL = false) := by
        have := hN.out
        rwa [List.take_of_length_le (by omega)] at this
      go_wp2_with fail
      go_ret
      exact ⟨_, rfl, by rw [HF.out]; simp, hb.out⟩
theorem asgHas_any (A : Option Addr) (n c B : Nat) (l : List (List UInt8)) (w : World) (h : RowAt w B A n l) (hB : B ≤ w.heap.size) (hs : ∀ x ∈ l, x.length ≤ maxLen) :
    Calls Tryz.prog 84 #[.slice A n c, .func (.func 85) #[] #[]] w fun e w' => e = .returned (.bool (l.any noAsgL)) ∧ Below w.heap.size w w' := by
  have HC := Lib.hid (asgIndex_any A n c B l w h hB hs)
  clear h hs
  go_enter Tryz.func84, Tryz.ntmps84
  go_wp2_with fail
  refine HC.out.mono ?_
  rintro e w1 ⟨i, rfl, hi, hb⟩
  have HI := Lib.hid hi
  clear hi
  go_wp2_with fail
  go_ret
  exact ⟨ret_bool HI.out, hb⟩
end Go.Proofs.YtadifolonbkamaaGreatDoor
