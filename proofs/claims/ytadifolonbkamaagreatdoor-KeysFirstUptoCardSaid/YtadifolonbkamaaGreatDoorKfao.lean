/- A parameter that is a row of texts: opened to what it holds, its texts no longer than a machine's memory, and read again in any later memory. The walks of the developers' Find, isFor, checkLine's predicate, slices.IndexFunc and ContainsFunc at it. The walks of the developers' isUnit, and of isListOf at it. The walks of the document's kinds, row, worded. The walks of the document's worded and Keys. The walks of the document's Find, and of Same and SameKey at what is alike. The walks of the developers' isNoAssignment, slices.IndexFunc and ContainsFunc at it. The document's own Digit, Dec. -/
import Derived.Test.YtadifolonbkamaaGreatDoorKfai
import Derived.Test.YtadifolonbkamaaGreatDoorKfah
import Derived.BigQuiet
import Derived.Test.YtadifolonbkamaaGreatDoorKfaf
import Derived.Test.YtadifolonbkamaaGreatDoorKfab
import Derived.Test.YtadifolonbkamaaGreatDoorKfad
import Derived.Test.YtadifolonbkamaaGreatDoorKfak
import Derived.TacticsInMore
import Derived.Test.YtadifolonbkamaaGreatDoorKfal
import Derived.BigRegion
import Derived.Test.YtadifolonbkamaaGreatDoorKfan
namespace Go.Proofs.YtadifolonbkamaaGreatDoor
open Go.RowKit Go.Joins Go.ChangeShapes Go.WideShapes Go.ChangeAt Go.Deep
end Go.Proofs.YtadifolonbkamaaGreatDoor
namespace Go.Proofs.YtadifolonbkamaaGreatDoor
open Go.RowKit
set_option maxHeartbeats 4000000 in
theorem Find_any (s nm : ByteArray) (w : World) :
    Calls Tryz.prog 13 #[.string s, .string nm] w (NamedP (findT s.data.toList nm.data.toList) w) := by
  have HR0 : Hid (Blk (w.alloc (.cells #[.string ⟨#[]⟩, .string ⟨#[]⟩, .int .i64 0, .bool false, .int .i64 0, .slice none 0 0] 28)) w.heap.size 28 (krA noKr)) := Blk.new w _ _
  have HB0 : Hid (Below w.heap.size w (w.alloc (.cells #[.string ⟨#[]⟩, .string ⟨#[]⟩, .int .i64 0, .bool false, .int .i64 0, .slice none 0 0] 28))) := (Below.refl _ w).alloc (Nat.le_refl _) _
  go_enter Tryz.func13, Tryz.ntmps13
  go_wp2_with fail
  generalize w.alloc (.cells #[.string ⟨#[]⟩, .string ⟨#[]⟩, .int .i64 0, .bool false, .int .i64 0, .slice none 0 0] 28) = w0 at *
  refine (keysOf_any s _).mono ?_
  rintro e1 w1 ⟨A, c, rfl, hk, hb1⟩
  have HR1 := Lib.hid (HR0.out.below hb1 HR0.out.lt)
  have HB1 := Lib.hid (more3 HB0.out HB0.out.size hb1)
  clear hb1
  go_wp2_with fail
  refine (named_any A _ c _ _ nm _ hk (Nat.le_refl _)).mono ?_
  rintro e2 w2 ⟨r, rfl, hr, hb2⟩
  have HR2 := Lib.hid (HR1.out.below hb2 HR1.out.lt)
  have HB2 := Lib.hid (more3 HB1.out HB1.out.size hb2)
  have HX := Lib.hid hr
  clear hb2 hr hk
  go_wp2_with (refine wpList_store_row rfl 28 (.tmp 4) (.tmp 10) (by rfl) w.heap.size (krA r) (by rfl) (by rfl) 28 (krA noKr) HR2.out (by kernel_rfl) rfl (krA_all _) ?_)
  refine bodyPost_ret (results_cell_tmp (p := 4) (q := 5) rfl _ _ w.heap.size 28 (krA r) _ _ rfl rfl (Blk.row HR2.out _) Tryz.underlying28 rfl (by kernel_rfl)) rfl ⟨r, rfl, by rw [size_row]; exact HX.out.keep HR2.out (by decide) (heap_row_other _ _ _), below_setRow HB2.out (Nat.le_refl _) _⟩
theorem isFor_no (r : Kr) (kind : Int) (h : decide (0 ≤ kind) = false) (w : World) :
    Calls Tryz.prog 68 #[.agg #[.string (str r.s), .string (str r.n), .int .i64 r.f, .bool r.l, .int .i64 r.k, .slice r.A r.m r.c], .int .i64 kind] w fun e w' => e = .returned (.bool false) ∧ Below w.heap.size w w' := by
  go_enter Tryz.func68, Tryz.ntmps68
  go_wp2_with fail
  go_region
  all_goals
    go_wp2_with fail
    go_ret
    exact ⟨rfl, below_drewN ((Below.refl _ w).alloc (Nat.le_refl _) _) 1⟩
theorem isFor_yes (r : Kr) (kind : Int) (h : 0 ≤ kind) (w : World) :
    Calls Tryz.prog 68 #[.agg #[.string (str r.s), .string (str r.n), .int .i64 r.f, .bool r.l, .int .i64 r.k, .slice r.A r.m r.c], .int .i64 kind] w fun e w' => e = .returned (.bool (bits .and .i64 r.k (wrap64 (2 ^ min kind.toNat 64)) != 0)) ∧ Below w.heap.size w w' := by
  go_enter Tryz.func68, Tryz.ntmps68
  go_wp2_with fail
  go_region
  all_goals
    go_wp2_with fail
    go_ret
    exact ⟨rfl, below_drewN ((Below.refl _ w).alloc (Nat.le_refl _) _) 1⟩
set_option maxRecDepth 100000 in
theorem bits_for : ∀ k ∈ ([2, 4, 8, 30] : List Int), ∀ m, m < 65 → (bits .and .i64 k (wrap64 (2 ^ m)) != 0) = k.toNat.testBit m := by decide +kernel
theorem isFor_any (r : Kr) (kind : Int) (hk : r.k ∈ ([2, 4, 8, 30] : List Int)) (w : World) :
    Calls Tryz.prog 68 #[.agg #[.string (str r.s), .string (str r.n), .int .i64 r.f, .bool r.l, .int .i64 r.k, .slice r.A r.m r.c], .int .i64 kind] w fun e w' => e = .returned (.bool (isForK r.k kind)) ∧ Below w.heap.size w w' := by
  by_cases h : 0 ≤ kind
  · have := isFor_yes r kind h w
    rw [bits_for r.k hk _ (by omega)] at this
    unfold isForK
    rw [decide_eq_true h, Bool.true_and]
    exact this
  · unfold isForK
    rw [decide_eq_false h, Bool.false_and]
    exact isFor_no r kind (decide_eq_false h) w
theorem isAllowed_any (r : Kr) (kind : Int) (hk : r.k ∈ ([2, 4, 8, 30] : List Int)) (K : Nat) (w : World) (hK : w.cell? ⟨K, 0, none⟩ = some (.int .i64 kind)) (hKl : K < w.heap.size) :
    Calls Tryz.prog 67 #[.agg #[.string (str r.s), .string (str r.n), .int .i64 r.f, .bool r.l, .int .i64 r.k, .slice r.A r.m r.c], .pointer (some ⟨K, 0, none⟩)] w fun e w' => e = .returned (.bool (isForK r.k kind)) ∧ Below w.heap.size w w' := by
  go_enter Tryz.func67, Tryz.ntmps67
  go_wp2_with (go_at_call 68; refine (isFor_any r kind hk _).mono ?_; rintro e w1 ⟨rfl, hb⟩)
  go_ret
  exact ⟨rfl, more ((Below.refl _ w).alloc (Nat.le_refl _) _) hb⟩
theorem any_take {α : Type} {l : List α} {p : α → Bool} {k : Nat} {x : α} (h : (l.take k).any p = false) (hx : l[k]? = some x) : (p x = true → l.any p = true) ∧ (p x = false → (l.take (k + 1)).any p = false) := by
  have hk : k < l.length := by
    rcases Nat.lt_or_ge k l.length with h' | h'
    · exact h'
    · rw [List.getElem?_eq_none h'] at hx; cases hx
  have he : l[k] = x := by rw [List.getElem?_eq_getElem hk] at hx; exact Option.some.inj hx
  constructor
  · intro e
    exact List.any_eq_true.2 ⟨x, by rw [← he]; exact List.getElem_mem hk, e⟩
  · intro e
    rw [List.take_succ_eq_append_getElem hk, he, List.any_append, h]
    simp [e]
set_option maxHeartbeats 8000000 in
theorem keyIndex_any (A : Option Addr) (n c B : Nat) (l : List Ky) (kind : Int) (K : Nat) (w : World) (h : KysAt w B A n l) (hB : B ≤ w.heap.size) (hk : ∀ x ∈ l, x.k ∈ ([2, 4, 8, 30] : List Int)) (hK : w.cell? ⟨K, 0, none⟩ = some (.int .i64 kind)) (hKl : K < w.heap.size) :
    Calls Tryz.prog 94 #[.slice A n c, .func (.func 67) #[] #[.pointer (some ⟨K, 0, none⟩)]] w fun e w' => ∃ i : Int, e = .returned (.int .i64 i) ∧ decide (0 ≤ i) = l.any (fun x => isForT x kind) ∧ Below w.heap.size w w' := by
  have hm := h.2.1
  unfold maxLen at hm
  have hl := h.1
  have HL := Lib.hid h
  have HKK := Lib.hid hk
  have HN0 : Hid ((l.take 0).any (fun x => isForT x kind) = false) := rfl
  clear h hk
  go_enter Tryz.func94, Tryz.ntmps94
  go_wp2_with fail
  go_loopw [8] (fun i wr => ∃ k : Nat, k ≤ n ∧ i = .int .i64 k ∧ Hid (Below w.heap.size w wr) ∧ Hid ((l.take k).any (fun x => isForT x kind) = false)) (fun i wr => n - (intOf i).toNat)
  case atStart => exact ⟨0, Nat.zero_le _, rfl, Below.refl _ _, HN0⟩
  case round =>
    obtain ⟨k, hk, rfl, hb, hN⟩ := hrel
    have hbs : w.heap.size ≤ wr.heap.size := hb.out.size
    by_cases hlt : k < n
    · have b0 : (0 : Int) ≤ (k : Int) := by omega
      have b1 : (k : Int) < (n : Int) := by omega
      obtain ⟨ad, r, x, rfl, hab, hx, hr, q0, q1, q2, q3, q4, q5⟩ := (HL.out.below (hb.out.mono hB)).at_ hlt
      have hxl : x ∈ l := List.mem_of_getElem? hx
      have hrk : r.k ∈ ([2, 4, 8, 30] : List Int) := by rw [hr.2.2.2.2.1]; exact HKK.out x hxl
      have hp : isForT x kind = isForK r.k kind := by unfold isForT; rw [hr.2.2.2.2.1]
      obtain ⟨n1, n2⟩ := any_take hN.out hx
      have HC := Lib.hid (isAllowed_any r kind hrk K wr ((hb.out.cell hKl).trans hK) (by omega))
      clear hr hxl hrk hx
      rcases hf : isForT x kind with _ | _
      · have HF := Lib.hid (n2 hf)
        rw [← hp, hf] at HC
        clear hf hp n1 n2
        go_wp2_with (go_at_call 67; refine HC.out.mono ?_; rintro e w1 ⟨rfl, hb1⟩)
        go_roundw
        case rel => exact ⟨k + 1, by omega, by go_num, more hb.out hb1, HF⟩
        case measure => simp [intOf]; omega
      · have HF := Lib.hid (n1 hf)
        rw [← hp, hf] at HC
        clear hf hp n1 n2
        go_wp2_with (go_at_call 67; refine HC.out.mono ?_; rintro e w1 ⟨rfl, hb1⟩)
        go_ret
        exact ⟨_, rfl, by rw [HF.out]; simp, more hb.out hb1⟩
    · obtain rfl : k = n := by omega
      have HF : Hid (l.any (fun x => isForT x kind) = false) := by
        have := hN.out
        rwa [List.take_of_length_le (by omega)] at this
      go_wp2_with fail
      go_ret
      exact ⟨_, rfl, by rw [HF.out]; simp, hb.out⟩
theorem keyHas_any (A : Option Addr) (n c B : Nat) (l : List Ky) (kind : Int) (K : Nat) (w : World) (h : KysAt w B A n l) (hB : B ≤ w.heap.size) (hk : ∀ x ∈ l, x.k ∈ ([2, 4, 8, 30] : List Int)) (hK : w.cell? ⟨K, 0, none⟩ = some (.int .i64 kind)) (hKl : K < w.heap.size) :
    Calls Tryz.prog 69 #[.slice A n c, .func (.func 67) #[] #[.pointer (some ⟨K, 0, none⟩)]] w fun e w' => e = .returned (.bool (l.any (fun x => isForT x kind))) ∧ Below w.heap.size w w' := by
  have HC := Lib.hid (keyIndex_any A n c B l kind K w h hB hk hK hKl)
  clear h hk hK
  go_enter Tryz.func69, Tryz.ntmps69
  go_wp2_with fail
  refine HC.out.mono ?_
  rintro e w1 ⟨i, rfl, hi, hb⟩
  have HI := Lib.hid hi
  clear hi
  go_wp2_with fail
  go_ret
  exact ⟨ret_bool HI.out, hb⟩
end Go.Proofs.YtadifolonbkamaaGreatDoor
namespace Go.Proofs.YtadifolonbkamaaGreatDoor
open Go.RowKit
attribute [local go_sem] Oper.semAt_some
/-- Is a text a unit's name, and no template? -/
def unitS (s : ByteArray) : Bool := Nm.goodP s && (!Nm.atP s || !(Nm.instP s).toList.isEmpty)
set_option maxHeartbeats 2000000 in
theorem isUnit_any (s : ByteArray) (hs : s.size ≤ maxLen) (w : World) :
    Calls Tryz.prog 53 #[.string s] w fun e w' => e = .returned (.bool (unitS s)) ∧ Below w.heap.size w w' := by
  have HM := fun w => Nm.May_any s hs w
  have HP := fun w => Nm.Parts_any s hs w
  unfold unitS
  rcases hg : Nm.goodP s with _ | _ <;> rcases ha : Nm.atP s with _ | _ <;> rcases he : (Nm.instP s).toList.isEmpty with _ | _
  all_goals rw [hg] at HM
  all_goals rw [ha] at HP
  all_goals
    have H1 := Lib.hid HM
    have H2 := Lib.hid HP
    clear HM HP hg ha
    go_enter Tryz.func53, Tryz.ntmps53
    go_wp2_with fail
    refine (H2.out _).mono ?_
    rintro e w1 ⟨rfl, hb⟩
    go_wp2_with fail
    refine (H1.out _).mono ?_
    rintro e w2 ⟨rfl, hb2⟩
    go_wp2_with fail
    go_ret
    exact ⟨rfl, more hb hb2⟩
end Go.Proofs.YtadifolonbkamaaGreatDoor
namespace Go.Proofs.YtadifolonbkamaaGreatDoor
open Go.RowKit
end Go.Proofs.YtadifolonbkamaaGreatDoor
namespace Go.Proofs.YtadifolonbkamaaGreatDoor
open Go.RowKit
end Go.Proofs.YtadifolonbkamaaGreatDoor
namespace Go.Proofs.YtadifolonbkamaaGreatDoor
open Go.RowKit
end Go.Proofs.YtadifolonbkamaaGreatDoor
namespace Go.Proofs.YtadifolonbkamaaGreatDoor
open Go.RowKit
theorem cutA_size (c : UInt8) (s : ByteArray) : (cutA c s).size ≤ s.size := by
  rcases h : cutF c s with _ | _
  · rw [(cutC_no h).2]; exact Nat.le_refl _
  · have := (cutC_yes h).2.2; omega
/-- Is a word no variable's name, '=' and any value? -/
def noAsg (s : ByteArray) : Bool := !cutF 61 s || !isVarS (cutA 61 s)
set_option maxHeartbeats 2000000 in
theorem noAsg_any (s : ByteArray) (hs : s.size ≤ maxLen) (w : World) :
    Calls Tryz.prog 85 #[.string s] w fun e w' => e = .returned (.bool (noAsg s)) ∧ Below w.heap.size w w' := by
  have hA := cutA_size 61 s
  have HC := Lib.hid fun w => cut_c 61 s hs w
  have HV := Lib.hid fun w => isVariable_any (cutA 61 s) (by omega) w
  unfold noAsg
  rcases hf : cutF 61 s with _ | _
  · rw [hf] at HC
    clear hf
    go_enter Tryz.func85, Tryz.ntmps85
    go_wp2_with (go_at_call 112; refine (HC.out _).mono ?_; rintro e w1 ⟨rfl, nd, rfl⟩)
    go_ret
    exact ⟨rfl, below_drewN (Below.refl _ _) _⟩
  · rw [hf] at HC
    clear hf
    rcases hv : isVarS (cutA 61 s) with _ | _
    all_goals
      rw [hv] at HV
      clear hv
      go_enter Tryz.func85, Tryz.ntmps85
      go_wp2_with (first
        | (go_at_call 112; refine (HC.out _).mono ?_; rintro e w1 ⟨rfl, nd, rfl⟩)
        | (go_at_call 113; refine (HV.out _).mono ?_; rintro e w2 ⟨rfl, hb⟩))
      go_ret
      exact ⟨rfl, more (below_drewN (Below.refl _ _) _) hb⟩
theorem any_takeV {α : Type} {l : List α} {p : α → Bool} {k : Nat} {x : α} (h : (l.take k).any p = false) (hx : l[k]? = some x) : (p x = true → l.any p = true) ∧ (p x = false → (l.take (k + 1)).any p = false) := by
  have hk : k < l.length := by
    rcases Nat.lt_or_ge k l.length with h' | h'
    · exact h'
    · rw [List.getElem?_eq_none h'] at hx; cases hx
  have he : l[k] = x := by rw [List.getElem?_eq_getElem hk] at hx; exact Option.some.inj hx
  constructor
  · intro e
    exact List.any_eq_true.2 ⟨x, by rw [← he]; exact List.getElem_mem hk, e⟩
  · intro e
    rw [List.take_succ_eq_append_getElem hk, he, List.any_append, h]
    simp [e]
def noAsgL (x : List UInt8) : Bool := noAsg (str x)
set_option maxHeartbeats 4000000 in
theorem asgIndex_any (A : Option Addr) (n c B : Nat) (l : List (List UInt8)) (w : World) (h : RowAt w B A n l) (hB : B ≤ w.heap.size) (hs : ∀ x ∈ l, x.length ≤ maxLen) :
    Calls Tryz.prog 111 #[.slice A n c, .func (.func 85) #[] #[]] w fun e w' => ∃ i : Int, e = .returned (.int .i64 i) ∧ decide (0 ≤ i) = l.any noAsgL ∧ Below w.heap.size w w' := by
  have hm := h.2.1
  unfold maxLen at hm
  have hl := h.1
  have HL := Lib.hid h
  have HS := Lib.hid hs
  have HN0 : Hid ((l.take 0).any noAsgL = false) := rfl
  clear h hs
  go_enter Tryz.func111, Tryz.ntmps111
  go_wp2_with fail
  go_loopw [8] (fun i wr => ∃ k : Nat, k ≤ n ∧ i = .int .i64 k ∧ Hid (Below w.heap.size w wr) ∧ Hid ((l.take k).any noAsgL = false)) (fun i wr => n - (intOf i).toNat)
  case atStart => exact ⟨0, Nat.zero_le _, rfl, Below.refl _ _, HN0⟩
  case round =>
    obtain ⟨k, hk, rfl, hb, hN⟩ := hrel
    by_cases hlt : k < n
    · have b0 : (0 : Int) ≤ (k : Int) := by omega
      have b1 : (k : Int) < (n : Int) := by omega
      obtain ⟨ad, x, rfl, hab, hx, q0⟩ := (HL.out.below (hb.out.mono hB)).at_ hlt
      obtain ⟨n1, n2⟩ := any_takeV hN.out hx
      have HC := Lib.hid fun w => noAsg_any (str x) (by rw [str_size]; exact HS.out x (List.mem_of_getElem? hx)) w
      clear hx
      rcases hf : noAsg (str x) with _ | _
      · have HF := Lib.hid (n2 hf)
        rw [hf] at HC
        clear hf n1 n2
        go_wp2_with (go_at_call 85; refine (HC.out _).mono ?_; rintro e w1 ⟨rfl, hb1⟩)
        go_roundw
        case rel => exact ⟨k + 1, by omega, by go_num, more hb.out hb1, HF⟩
        case measure => simp [intOf]; omega
      · have HF := Lib.hid (n1 hf)
        rw [hf] at HC
        clear hf n1 n2
        go_wp2_with (go_at_call 85; refine (HC.out _).mono ?_; rintro e w1 ⟨rfl, hb1⟩)
        go_ret
        exact ⟨_, rfl, by rw [HF.out]; simp, more hb.out hb1⟩
    · obtain rfl : k = n := by omega
      have HF : Hid (l.any noAsgL = false) := by
        have := hN.out
        rwa [List.take_of_length_le (by omega)] at this
      go_wp2_with fail
      go_ret
      exact ⟨_, rfl, by rw [HF.out]; simp, hb.out⟩
theorem asgHas_any (A : Option Addr) (n c B : Nat) (l : List (List UInt8)) (w : World) (h : RowAt w B A n l) (hB : B ≤ w.heap.size) (hs : ∀ x ∈ l, x.length ≤ maxLen) :
    Calls Tryz.prog 84 #[.slice A n c, .func (.func 85) #[] #[]] w fun e w' => e = .returned (.bool (l.any noAsgL)) ∧ Below w.heap.size w w' := by
  have HC := Lib.hid (asgIndex_any A n c B l w h hB hs)
  clear h hs
  go_enter Tryz.func84, Tryz.ntmps84
  go_wp2_with fail
  refine HC.out.mono ?_
  rintro e w1 ⟨i, rfl, hi, hb⟩
  have HI := Lib.hid hi
  clear hi
  go_wp2_with fail
  go_ret
  exact ⟨ret_bool HI.out, hb⟩
end Go.Proofs.YtadifolonbkamaaGreatDoor
namespace Go.Proofs.YtadifolonbkamaaGreatDoor
open Go.RowKit
end Go.Proofs.YtadifolonbkamaaGreatDoor
