/- The walks of the developers' Find, isFor, checkLine's predicate, slices.IndexFunc and ContainsFunc at it. The walks of s -/
import Derived.Test.YtadifolonbkamaaGreatDoorKcag
import Derived.BigQuiet
import Derived.Test.YtadifolonbkamaaGreatDoorKcal
import Derived.BigRegion
import Derived.Test.YtadifolonbkamaaGreatDoorKcak
import Derived.Test.YtadifolonbkamaaGreatDoorKcaf
namespace Go.Proofs.YtadifolonbkamaaGreatDoor
open Go.RowKit
set_option maxHeartbeats 4000000 in
theorem Find_any (s nm : ByteArray) (w : World) :
    Calls Tryz.prog 13 #[.string s, .string nm] w (NamedP (findT s.data.toList nm.data.toList) w) := by
  have HR0 : Hid (Blk (w.alloc (.cells #[.string ⟨#[]⟩, .string ⟨#[]⟩, .int .i64 0, .bool false, .int .i64 0, .slice none 0 0] 28)) w.heap.size 28 (krA noKr)) := Blk.new w _ _
  have HB0 : Hid (Below w.heap.size w (w.alloc (.cells #[.string ⟨#[]⟩, .string ⟨#[]⟩, .int .i64 0, .bool false, .int .i64 0, .slice none 0 0] 28))) := (Below.refl _ w).alloc (Nat.le_refl _) _
  go_enter Tryz.func13, Tryz.ntmps13
  go_wp2_with fail
  generalize w.alloc (.cells #[.string ⟨#[]⟩, .string ⟨#[]⟩, .int .i64 0, .bool false, .int .i64 0, .slice none 0 0] 28) = w0 at *
  refine (keysOf_any s _).mono ?_
  rintro e1 w1 ⟨A, c, rfl, hk, hb1⟩
  have HR1 := Lib.hid (HR0.out.below hb1 HR0.out.lt)
  have HB1 := Lib.hid (more3 HB0.out HB0.out.size hb1)
  clear hb1
  go_wp2_with fail
  refine (named_any A _ c _ _ nm _ hk (Nat.le_refl _)).mono ?_
  rintro e2 w2 ⟨r, rfl, hr, hb2⟩
  have HR2 := Lib.hid (HR1.out.below hb2 HR1.out.lt)
  have HB2 := Lib.hid (more3 HB1.out HB1.out.size hb2)
  have HX := Lib.hid hr
  clear hb2 hr hk
  go_wp2_with (refine wpList_store_row rfl 28 (.tmp 4) (.tmp 10) (by rfl) w.heap.size (krA r) (by rfl) (by rfl) 28 (krA noKr) HR2.out (by kernel_rfl) rfl (krA_all _) ?_)
  refine bodyPost_ret (results_cell_tmp (p := 4) (q := 5) rfl _ _ w.heap.size 28 (krA r) _ _ rfl rfl (Blk.row HR2.out _) Tryz.underlying28 rfl (by kernel_rfl)) rfl ⟨r, rfl, by rw [size_row]; exact HX.out.keep HR2.out (by decide) (heap_row_other _ _ _), below_setRow HB2.out (Nat.le_refl _) _⟩
theorem isFor_no (r : Kr) (kind : Int) (h : decide (0 ≤ kind) = false) (w : World) :
    Calls Tryz.prog 68 #[.agg #[.string (str r.s), .string (str r.n), .int .i64 r.f, .bool r.l, .int .i64 r.k, .slice r.A r.m r.c], .int .i64 kind] w fun e w' => e = .returned (.bool false) ∧ Below w.heap.size w w' := by
  go_enter Tryz.func68, Tryz.ntmps68
  go_wp2_with fail
  go_region
  all_goals
    go_wp2_with fail
    go_ret
    exact ⟨rfl, below_drewN ((Below.refl _ w).alloc (Nat.le_refl _) _) 1⟩
theorem isFor_yes (r : Kr) (kind : Int) (h : 0 ≤ kind) (w : World) :
    Calls Tryz.prog 68 #[.agg #[.string (str r.s), .string (str r.n), .int .i64 r.f, .bool r.l, .int .i64 r.k, .slice r.A r.m r.c], .int .i64 kind] w fun e w' => e = .returned (.bool (bits .and .i64 r.k (wrap64 (2 ^ min kind.toNat 64)) != 0)) ∧ Below w.heap.size w w' := by
  go_enter Tryz.func68, Tryz.ntmps68
  go_wp2_with fail
  go_region
  all_goals
    go_wp2_with fail
    go_ret
    exact ⟨rfl, below_drewN ((Below.refl _ w).alloc (Nat.le_refl _) _) 1⟩
set_option maxRecDepth 100000 in
theorem bits_for : ∀ k ∈ ([2, 4, 8, 30] : List Int), ∀ m, m < 65 → (bits .and .i64 k (wrap64 (2 ^ m)) != 0) = k.toNat.testBit m := by decide +kernel
theorem isFor_any (r : Kr) (kind : Int) (hk : r.k ∈ ([2, 4, 8, 30] : List Int)) (w : World) :
    Calls Tryz.prog 68 #[.agg #[.string (str r.s), .string (str r.n), .int .i64 r.f, .bool r.l, .int .i64 r.k, .slice r.A r.m r.c], .int .i64 kind] w fun e w' => e = .returned (.bool (isForK r.k kind)) ∧ Below w.heap.size w w' := by
  by_cases h : 0 ≤ kind
  · have := isFor_yes r kind h w
    rw [bits_for r.k hk _ (by omega)] at this
    unfold isForK
    rw [decide_eq_true h, Bool.true_and]
    exact this
  · unfold isForK
    rw [decide_eq_false h, Bool.false_and]
    exact isFor_no r kind (decide_eq_false h) w
theorem isAllowed_any (r : Kr) (kind : Int) (hk : r.k ∈ ([2, 4, 8, 30] : List Int)) (K : Nat) (w : World) (hK : w.cell? ⟨K, 0, none⟩ = some (.int .i64 kind)) (hKl : K < w.heap.size) :
    Calls Tryz.prog 67 #[.agg #[.string (str r.s), .string (str r.n), .int .i64 r.f, .bool r.l, .int .i64 r.k, .slice r.A r.m r.c], .pointer (some ⟨K, 0, none⟩)] w fun e w' => e = .returned (.bool (isForK r.k kind)) ∧ Below w.heap.size w w' := by
  go_enter Tryz.func67, Tryz.ntmps67
  go_wp2_with (go_at_call 68; refine (isFor_any r kind hk _).mono ?_; rintro e w1 ⟨rfl, hb⟩)
  go_ret
  exact ⟨rfl, more ((Below.refl _ w).alloc (Nat.le_refl _) _) hb⟩
theorem any_take {α : Type} {l : List α} {p : α → Bool} {k : Nat} {x : α} (h : (l.take k).any p = false) (hx : l[k]? = some x) : (p x = true → l.any p = true) ∧ (p x = false → (l.take (k + 1)).any p = false) := by
  have hk : k < l.length := by
    rcases Nat.lt_or_ge k l.length with h' | h'
    · exact h'
    · rw [List.getElem?_eq_none h'] at hx; cases hx
  have he : l[k] = x := by rw [List.getElem?_eq_getElem hk] at hx; exact Option.some.inj hx
  constructor
  · intro e
    exact List.any_eq_true.2 ⟨x, by rw [← he]; exact List.getElem_mem hk, e⟩
  · intro e
    rw [List.take_succ_eq_append_getElem hk, he, List.any_append, h]
    simp [e]
set_option maxHeartbeats 8000000 in
theorem keyIndex_any (A : Option Addr) (n c B : Nat) (l : List Ky) (kind : Int) (K : Nat) (w : World) (h : KysAt w B A n l) (hB : B ≤ w.heap.size) (hk : ∀ x ∈ l, x.k ∈ ([2, 4, 8, 30] : List Int)) (hK : w.cell? ⟨K, 0, none⟩ = some (.int .i64 kind)) (hKl : K < w.heap.size) :
    Calls Tryz.prog 94 #[.slice A n c, .func (.func 67) #[] #[.pointer (some ⟨K, 0, none⟩)]] w fun e w' => ∃ i : Int, e = .returned (.int .i64 i) ∧ decide (0 ≤ i) = l.any (fun x => isForT x kind) ∧ Below w.heap.size w w' := by
  have hm := h.2.1
  unfold maxLen at hm
  have hl := h.1
  have HL := Lib.hid h
  have HKK := Lib.hid hk
  have HN0 : Hid ((l.take 0).any (fun x => isForT x kind) = false) := rfl
  clear h hk
  go_enter Tryz.func94, Tryz.ntmps94
  go_wp2_with fail
  go_loopw [8] (fun i wr => ∃ k : Nat, k ≤ n ∧ i = .int .i64 k ∧ Hid (Below w.heap.size w wr) ∧ Hid ((l.take k).any (fun x => isForT x kind) = false)) (fun i wr => n - (intOf i).toNat)
  case atStart => exact ⟨0, Nat.zero_le _, rfl, Below.refl _ _, HN0⟩
  case round =>
    obtain ⟨k, hk, rfl, hb, hN⟩ := hrel
    have hbs : w.heap.size ≤ wr.heap.size := hb.out.size
    by_cases hlt : k < n
    · have b0 : (0 : Int) ≤ (k : Int) := by omega
      have b1 : (k : Int) < (n : Int) := by omega
      obtain ⟨ad, r, x, rfl, hab, hx, hr, q0, q1, q2, q3, q4, q5⟩ := (HL.out.below (hb.out.mono hB)).at_ hlt
      have hxl : x ∈ l := List.mem_of_getElem? hx
      have hrk : r.k ∈ ([2, 4, 8, 30] : List Int) := by rw [hr.2.2.2.2.1]; exact HKK.out x hxl
      have hp : isForT x kind = isForK r.k kind := by unfold isForT; rw [hr.2.2.2.2.1]
      obtain ⟨n1, n2⟩ := any_take hN.out hx
      have HC := Lib.hid (isAllowed_any r kind hrk K wr ((hb.out.cell hKl).trans hK) (by omega))
      clear hr hxl hrk hx
      rcases hf : isForT x kind with _ | _
      · have HF := Lib.hid (n2 hf)
        rw [← hp, hf] at HC
        clear hf hp n1 n2
        go_wp2_with (go_at_call 67; refine HC.out.mono ?_; rintro e w1 ⟨rfl, hb1⟩)
        go_roundw
        case rel => exact ⟨k + 1, by omega, by go_num, more hb.out hb1, HF⟩
        case measure => simp [intOf]; omega
      · have HF := Lib.hid (n1 hf)
        rw [← hp, hf] at HC
        clear hf hp n1 n2
        go_wp2_with (go_at_call 67; refine HC.out.mono ?_; rintro e w1 ⟨rfl, hb1⟩)
        go_ret
        exact ⟨_, rfl, by rw [HF.out]; simp, more hb.out hb1⟩
    · obtain rfl : k = n := by omega
      have HF : Hid (l.any (fun x => isForT x kind) = false) := by
        have := hN.out
        rwa [List.take_of_length_le (by omega)] at this
      go_wp2_with fail
      go_ret
      exact ⟨_, rfl, by rw [HF.out]; simp, hb.out⟩
theorem keyHas_any (A : Option Addr) (n c B : Nat) (l : List Ky) (kind : Int) (K : Nat) (w : World) (h : KysAt w B A n l) (hB : B ≤ w.heap.size) (hk : ∀ x ∈ l, x.k ∈ ([2, 4, 8, 30] : List Int)) (hK : w.cell? ⟨K, 0, none⟩ = some (.int .i64 kind)) (hKl : K < w.heap.size) :
    Calls Tryz.prog 69 #[.slice A n c, .func (.func 67) #[] #[.pointer (some ⟨K, 0, none⟩)]] w fun e w' => e = .returned (.bool (l.any (fun x => isForT x kind))) ∧ Below w.heap.size w w' := by
  have HC := Lib.hid (keyIndex_any A n c B l kind K w h hB hk hK hKl)
  clear h hk hK
  go_enter Tryz.func69, Tryz.ntmps69
  go_wp2_with fail
  refine HC.out.mono ?_
  rintro e w1 ⟨i, rfl, hi, hb⟩
  have HI := Lib.hid hi
  clear hi
  go_wp2_with fail
  go_ret
  exact ⟨ret_bool HI.out, hb⟩
end Go.Proofs.YtadifolonbkamaaGreatDoor
namespace Go.Proofs.YtadifolonbkamaaGreatDoor
open Go.RowKit
set_option maxHeartbeats 4000000 in
theorem txtIndex_any (A : Option Addr) (n c B : Nat) (l : List (List UInt8)) (v : ByteArray) (w : World) (h : RowAt w B A n l) :
    Calls Tryz.prog 86 #[.slice A n c, .string v] w fun e w' => ∃ i : Int, e = .returned (.int .i64 i) ∧ decide (0 ≤ i) = l.any (fun x => decide (x = v.data.toList)) ∧ w' = w := by
  have hm := h.2.1
  unfold maxLen at hm
  have hl := h.1
  have HL := Lib.hid h
  have HN0 : Hid ((l.take 0).any (fun x => decide (x = v.data.toList)) = false) := rfl
  clear h
  go_enter Tryz.func86, Tryz.ntmps86
  go_wp2_with fail
  go_loopw [8] (fun i wr => ∃ k : Nat, k ≤ n ∧ i = .int .i64 k ∧ w = wr ∧ Hid ((l.take k).any (fun x => decide (x = v.data.toList)) = false)) (fun i wr => n - (intOf i).toNat)
  case atStart => exact ⟨0, Nat.zero_le _, rfl, rfl, HN0⟩
  case round =>
    obtain ⟨k, hk, rfl, rfl, hN⟩ := hrel
    by_cases hlt : k < n
    · have b0 : (0 : Int) ≤ (k : Int) := by omega
      have b1 : (k : Int) < (n : Int) := by omega
      obtain ⟨ad, x, rfl, hab, hx, q0⟩ := HL.out.at_ hlt
      obtain ⟨n1, n2⟩ := any_take hN.out hx
      have hq : (v.toList == (str x).toList) = decide (x = v.data.toList) := by
        rw [Lib.toList_data, Lib.toList_data, str_list, Bool.eq_iff_iff, decide_eq_true_eq, beq_iff_eq]
        exact eq_comm
      clear hx
      by_cases hf : x = v.data.toList
      · have HF := Lib.hid (n1 (decide_eq_true hf))
        rw [decide_eq_true hf] at hq
        clear hf n1 n2
        go_wp2_with fail
        go_ret
        exact ⟨_, rfl, by rw [HF.out]; simp, by first | rfl | trivial⟩
      · have HF := Lib.hid (n2 (decide_eq_false hf))
        rw [decide_eq_false hf] at hq
        clear hf n1 n2
        go_wp2_with fail
        go_roundw
        case rel => exact ⟨k + 1, by omega, by go_num, by first | rfl | trivial, HF⟩
        case measure => simp [intOf]; omega
    · obtain rfl : k = n := by omega
      have HF : Hid (l.any (fun x => decide (x = v.data.toList)) = false) := by
        have := hN.out
        rwa [List.take_of_length_le (by omega)] at this
      go_wp2_with fail
      go_ret
      exact ⟨_, rfl, by rw [HF.out]; simp, by first | rfl | trivial⟩
theorem txtHas_any (A : Option Addr) (n c B : Nat) (l : List (List UInt8)) (v : ByteArray) (w : World) (h : RowAt w B A n l) :
    Calls Tryz.prog 56 #[.slice A n c, .string v] w fun e w' => e = .returned (.bool (l.any (fun x => decide (x = v.data.toList)))) ∧ w' = w := by
  have HC := Lib.hid (txtIndex_any A n c B l v w h)
  clear h
  go_enter Tryz.func56, Tryz.ntmps56
  go_wp2_with fail
  refine HC.out.mono ?_
  rintro e w1 ⟨i, rfl, hi, rfl⟩
  have HI := Lib.hid hi
  clear hi
  go_wp2_with fail
  go_ret
  exact ⟨ret_bool HI.out, rfl⟩
theorem isForm_any (f : Int) (w : World) : Calls Tryz.prog 27 #[.int .i64 f] w fun e w' => e = .returned (.bool (decide (1 ≤ f) && decide (f ≤ 11))) ∧ w' = w := by
  by_cases h1 : 1 ≤ f
  · by_cases h2 : f ≤ 11
    · go_enter Tryz.func27, Tryz.ntmps27
      go_wp2_with fail
      go_ret
      exact ⟨ret_bool (by first | (simp [h1, h2]; done) | rfl), rfl⟩
    · have h2' : 11 < f := by omega
      have hd : decide (f ≤ 11) = false := decide_eq_false h2
      go_enter Tryz.func27, Tryz.ntmps27
      go_wp2_with fail
      go_ret
      exact ⟨ret_bool (by first | rfl | (simp [h1, hd]; done)), rfl⟩
  · have h1' : f < 1 := by omega
    have hd : decide (1 ≤ f) = false := decide_eq_false h1
    go_enter Tryz.func27, Tryz.ntmps27
    go_wp2_with fail
    go_ret
    exact ⟨ret_bool (by first | rfl | (simp [hd]; done)), rfl⟩
def TakesAt (f : Int) (r : Kr) (v : ByteArray) (b : Bool) (w : World) : Prop :=
  Calls Tryz.prog 28 #[.agg #[.string (str r.s), .string (str r.n), .int .i64 f, .bool r.l, .int .i64 r.k, .slice r.A r.m r.c], .string v] w fun e w' => e = .returned (.bool b) ∧ Below w.heap.size w w'
theorem takes_text (r : Kr) (v : ByteArray) (w : World) : TakesAt 1 r v true w := by
  unfold TakesAt
  rcases he : v.toList.isEmpty with _ | _
  · go_enter Tryz.func28, Tryz.ntmps28
    go_wp2_with fail
    go_ret
    exact ⟨rfl, (Below.refl _ w).alloc (Nat.le_refl _) _⟩
  · rcases hl : r.l with _ | _
    all_goals
      go_enter Tryz.func28, Tryz.ntmps28
      go_wp2_with fail
      go_ret
      exact ⟨rfl, (Below.refl _ w).alloc (Nat.le_refl _) _⟩
theorem takes_empty (f : Int) (hf : f ≠ 1) (r : Kr) (v : ByteArray) (he : v.toList.isEmpty = true) (w : World) : TakesAt f r v r.l w := by
  unfold TakesAt
  have hd : ((f : Int) == 1) = false := by simpa using hf
  rcases hl : r.l with _ | _
  all_goals
    go_enter Tryz.func28, Tryz.ntmps28
    go_wp2_with fail
    go_ret
    exact ⟨rfl, (Below.refl _ w).alloc (Nat.le_refl _) _⟩
theorem takes_word (r : Kr) (v : ByteArray) (he : v.toList.isEmpty = false) (w : World) (B : Nat) (l : List (List UInt8)) (h : RowAt w B r.A r.m l) (hB : B ≤ w.heap.size) : TakesAt 10 r v (l.any (fun x => decide (x = v.data.toList))) w := by
  unfold TakesAt
  have HC := Lib.hid (txtHas_any r.A r.m r.c B l v (w.alloc (.cells #[.string (str r.s), .string (str r.n), .int .i64 10, .bool r.l, .int .i64 r.k, .slice r.A r.m r.c] 28)) (h.below (((Below.refl _ w).alloc (Nat.le_refl _) _).mono hB)))
  clear h
  go_enter Tryz.func28, Tryz.ntmps28
  go_wp2_with fail
  refine HC.out.mono ?_
  rintro e w1 ⟨rfl, rfl⟩
  go_wp2_with fail
  go_ret
  exact ⟨rfl, (Below.refl _ w).alloc (Nat.le_refl _) _⟩
theorem Value_of (f : Int) (h1 : 1 ≤ f) (h2 : f ≤ 11) (r : Kr) (v : ByteArray) (b : Bool) (w : World) (h : TakesAt f r v b (w.alloc (.cells #[.string (str r.s), .string (str r.n), .int .i64 f, .bool r.l, .int .i64 r.k, .slice r.A r.m r.c] 28))) :
    Calls Tryz.prog 15 #[.agg #[.string (str r.s), .string (str r.n), .int .i64 f, .bool r.l, .int .i64 r.k, .slice r.A r.m r.c], .string v] w fun e w' => e = .returned (.int .i64 (if b = true then 0 else 12)) ∧ Below w.heap.size w w' := by
  have HC := Lib.hid h
  have HF := fun w => isForm_any f w
  rw [decide_eq_true h1, decide_eq_true h2] at HF
  have HF := Lib.hid HF
  clear h h1 h2
  rcases b with _ | _
  all_goals
    go_enter Tryz.func15, Tryz.ntmps15
    go_wp2_with (go_at_call 27; refine (HF.out _).mono ?_; rintro e w1 ⟨rfl, rfl⟩)
    refine HC.out.mono ?_
    rintro e w2 ⟨rfl, hb⟩
    go_wp2_with fail
    go_ret
    exact ⟨rfl, more ((Below.refl _ w).alloc (Nat.le_refl _) _) hb⟩
end Go.Proofs.YtadifolonbkamaaGreatDoor
namespace Go.Proofs.YtadifolonbkamaaGreatDoor
open Go.RowKit
theorem find_take {l : List Ky} {p : Ky → Bool} {k : Nat} {x : Ky} (h : (l.take k).find? p = none) (hx : l[k]? = some x) : (p x = true → l.find? p = some x) ∧ (p x = false → (l.take (k + 1)).find? p = none) := by
  have hk : k < l.length := by
    rcases Nat.lt_or_ge k l.length with h' | h'
    · exact h'
    · rw [List.getElem?_eq_none h'] at hx; cases hx
  have he : l[k] = x := by rw [List.getElem?_eq_getElem hk] at hx; exact Option.some.inj hx
  constructor
  · intro e
    conv => lhs; rw [← List.take_append_drop k l]
    rw [List.find?_append, h, List.drop_eq_getElem_cons hk, he, List.find?_cons, e]
    rfl
  · intro e
    rw [List.take_succ_eq_append_getElem hk, he, List.find?_append, h]
    simp [e]
set_option maxHeartbeats 8000000 in
theorem rFind_any (s nm : ByteArray) (w : World) :
    Calls Tryz.prog 14 #[.string s, .string nm] w (NamedP (findT s.data.toList nm.data.toList) w) := by
  rw [← findD_T]
  have HR0 : Hid (Blk (w.alloc (.cells #[.string ⟨#[]⟩, .string ⟨#[]⟩, .int .i64 0, .bool false, .int .i64 0, .slice none 0 0] 28)) w.heap.size 28 (krA noKr)) := Blk.new w _ _
  have HB0 : Hid (Below w.heap.size w (w.alloc (.cells #[.string ⟨#[]⟩, .string ⟨#[]⟩, .int .i64 0, .bool false, .int .i64 0, .slice none 0 0] 28))) := (Below.refl _ w).alloc (Nat.le_refl _) _
  have HFD : Hid (findD s.data.toList nm.data.toList = allT.find? (fun x => decide (x.s = s.data.toList) && decide (x.n = nm.data.toList))) := rfl
  obtain ⟨p, hp⟩ : ∃ p : Ky → Bool, p = fun x => decide (x.s = s.data.toList) && decide (x.n = nm.data.toList) := ⟨_, rfl⟩
  rw [← hp] at HFD
  have HP := Lib.hid hp
  clear hp
  have HN0 : Hid ((allT.take 0).find? p = none) := rfl
  go_enter Tryz.func14, Tryz.ntmps14
  go_wp2_with fail
  generalize w.alloc (.cells #[.string ⟨#[]⟩, .string ⟨#[]⟩, .int .i64 0, .bool false, .int .i64 0, .slice none 0 0] 28) = w0 at *
  refine (Keys_any _).mono ?_
  rintro e1 w1 ⟨v, rfl, hk⟩
  have hb1 := hk.below
  obtain ⟨A, c, rfl, hkeys⟩ := hk.at_ (by decide +kernel)
  have HR1 := Lib.hid (HR0.out.below hb1 HR0.out.lt)
  have HB1 := Lib.hid (more3 HB0.out HB0.out.size hb1)
  have HL := Lib.hid hkeys
  clear hb1 hk hkeys
  have hn : allT.length = 42 := allT_len
  generalize hal : allT = al at *
  generalize al.length = n at *
  subst hn
  go_wp2_with fail
  go_loopw [10] (fun i wr => ∃ k : Nat, k ≤ 42 ∧ i = .int .i64 k ∧ Hid (Below w1.heap.size w1 wr) ∧ Hid (Blk wr w.heap.size 28 (krA noKr)) ∧ Hid (Below w.heap.size w wr) ∧ Hid ((al.take k).find? p = none)) (fun i wr => 42 - (intOf i).toNat)
  case atStart => exact ⟨0, Nat.zero_le _, rfl, Below.refl _ _, HR1, HB1, HN0⟩
  case round =>
    obtain ⟨k, hk, rfl, hb, hR, hB, hN⟩ := hrel
    have hRl : w.heap.size < wr.heap.size := hR.out.lt
    by_cases hlt : k < 42
    · have b0 : (0 : Int) ≤ (k : Int) := by omega
      have b1 : (k : Int) < (42 : Int) := by omega
      obtain ⟨ad, r, x, rfl, hab, hx, hr, q0, q1, q2, q3, q4, q5⟩ := (HL.out.below hb.out).at_ hlt
      have z1 : (ad.add (k * 6)).block < wr.heap.size := by rw [block_addR]; have := hb.out.size; omega
      have HX := Lib.hid hr
      obtain ⟨n1, n2⟩ := find_take hN.out hx
      have hs : ((str r.s).toList == s.toList) = decide (x.s = s.data.toList) := by
        rw [Lib.toList_data, Lib.toList_data, str_list, hr.1, Bool.eq_iff_iff, decide_eq_true_eq, beq_iff_eq]
      have hq : ((str r.n).toList == nm.toList) = decide (x.n = nm.data.toList) := by
        rw [Lib.toList_data, Lib.toList_data, str_list, hr.2.1, Bool.eq_iff_iff, decide_eq_true_eq, beq_iff_eq]
      have hpx : p x = (decide (x.s = s.data.toList) && decide (x.n = nm.data.toList)) := by rw [HP.out]
      clear hr
      rcases hd1 : decide (x.s = s.data.toList) with _ | _
      · rw [hd1] at hs
        have HF := Lib.hid (n2 (by rw [hpx, hd1]; rfl))
        clear n1 n2 hx hpx hd1 hq HX
        go_wp2_with fail
        go_roundw
        case rel => exact ⟨k + 1, by omega, by go_num, hb.out.alloc hb.out.size _, hR.out.alloc _, hB.out.alloc hB.out.size _, HF⟩
        case measure => simp [intOf]; omega
      · rw [hd1] at hs
        rcases hd2 : decide (x.n = nm.data.toList) with _ | _
        · rw [hd2] at hq
          have HF := Lib.hid (n2 (by rw [hpx, hd1, hd2]; rfl))
          clear n1 n2 hx hpx hd1 hd2 HX
          go_wp2_with fail
          go_roundw
          case rel => exact ⟨k + 1, by omega, by go_num, hb.out.alloc hb.out.size _, hR.out.alloc _, hB.out.alloc hB.out.size _, HF⟩
          case measure => simp [intOf]; omega
        · rw [hd2] at hq
          have HF : Hid (findD s.data.toList nm.data.toList = some x) := by show _ = _; rw [HFD.out]; exact n1 (by rw [hpx, hd1, hd2]; rfl)
          clear n1 n2 hx hpx hd1 hd2
          have HR1 : Hid (Blk (wr.alloc (.cells #[.string (str r.s), .string (str r.n), .int .i64 r.f, .bool r.l, .int .i64 r.k, .slice r.A r.m r.c] 28)) w.heap.size 28 (krA noKr)) := hR.out.alloc _
          have HB1 : Hid (Below w.heap.size w (wr.alloc (.cells #[.string (str r.s), .string (str r.n), .int .i64 r.f, .bool r.l, .int .i64 r.k, .slice r.A r.m r.c] 28))) := hB.out.alloc hB.out.size _
          have HX1 : Hid (r.is (wr.alloc (.cells #[.string (str r.s), .string (str r.n), .int .i64 r.f, .bool r.l, .int .i64 r.k, .slice r.A r.m r.c] 28)) w1.heap.size x) := HX.out.below (((Below.refl wr.heap.size wr).alloc (Nat.le_refl _) _).mono (by have := hb.out.size; omega))
          go_wp2_with (refine wpList_store_row rfl 28 (.tmp 4) (.tmp 24) (by rfl) w.heap.size (krA r) (by rfl) (by rfl) 28 (krA noKr) HR1.out (by kernel_rfl) rfl (krA_all _) ?_)
          refine bodyPost_ret (results_cell_tmp (p := 4) (q := 5) rfl _ _ w.heap.size 28 (krA r) _ _ rfl rfl (Blk.row HR1.out _) Tryz.underlying28 rfl (by kernel_rfl)) rfl ⟨r, by rw [HF.out]; rfl, ?_, below_setRow HB1.out (Nat.le_refl _) _⟩
          rw [HF.out]
          exact (HX1.out.keep HR1.out (by decide) (heap_row_other _ _ _)).wide (by rw [size_row]; simp; have := hb.out.size; omega)
    · obtain rfl : k = 42 := by omega
      have HF : Hid (findD s.data.toList nm.data.toList = none) := by
        show _ = _
        have := hN.out
        rw [List.take_of_length_le (by have := HL.out.1; omega)] at this
        rw [HFD.out]
        exact this
      go_wp2_with (refine wpList_store_row rfl 28 (.tmp 4) (.tmp 26) (by rfl) w.heap.size (krA noKr) (by rfl) (by rfl) 28 (krA noKr) hR.out (by kernel_rfl) rfl (krA_all _) ?_)
      exact bodyPost_ret (results_cell_tmp (p := 4) (q := 5) rfl _ _ w.heap.size 28 (krA noKr) _ _ rfl rfl (Blk.row hR.out _) Tryz.underlying28 rfl (by kernel_rfl)) rfl ⟨noKr, by rw [HF.out]; rfl, by rw [HF.out]; exact noKr_is, below_setRow hB.out (Nat.le_refl _) _⟩
end Go.Proofs.YtadifolonbkamaaGreatDoor
namespace Go.Proofs.YtadifolonbkamaaGreatDoor
open Go.RowKit
attribute [local go_sem] Oper.semAt_some
set_option maxRecDepth 100000 in
set_option maxHeartbeats 8000000 in
theorem listGn_any (s : ByteArray) (hs : s.size ≤ maxLen) (w : World) :
    Calls Tryz.prog 50 #[.string s, .func (.func 49) #[] #[]] w fun e w' => e = .returned (.bool (listS numS s)) ∧ Below w.heap.size w w' := by
  refine (callsIn_wide (n := 9)).1 ?_
  refine callsIn_of_wp_marks Tryz.func50 rfl trivial ?_ rfl
  simp only [Tryz.ntmps50, List.size_toArray, List.length_cons, List.length_nil, Nat.reduceAdd, Nat.reduceSub, Array.replicate_succ, Array.replicate_zero, List.push_toArray, List.append_toArray, List.nil_append, List.cons_append]
  gi_wp2_with (refine ⟨trivial, ?_⟩; gi_at_call 75; refine (callsIn_wide.2 (blankSeq_any _ _)).mono ?_; rintro e w' ⟨rfl, rfl⟩)
  obtain ⟨hB0, hR0, hR1, hP0, hS0, hZ0⟩ := boxes6 w 41 4 4 (.func (.func 49) #[] #[]) (.bool false) (.bool false) s _ rfl
  have hI0 : UI 41 49 numS w [] ((((((w.alloc (.cells #[.func (.func 49) #[] #[]] 41)).alloc (.cells #[.bool false] 4)).alloc (.cells #[.bool false] 4)).alloc (.cells #[.string s] 9)).alloc (.cells #[.string ⟨#[32]⟩] 9)).alloc (.cells #[.int .i64 0] 3)) := ⟨rfl, hR0, hR1, hP0, hB0, by omega⟩
  generalize (((((w.alloc (.cells #[.func (.func 49) #[] #[]] 41)).alloc (.cells #[.bool false] 4)).alloc (.cells #[.bool false] 4)).alloc (.cells #[.string s] 9)).alloc (.cells #[.string ⟨#[32]⟩] 9)).alloc (.cells #[.int .i64 0] 3) = W0 at *
  refine range_boxD (C := w.heap.size + 1 + 1 + 1) (D := w.heap.size + 1 + 1 + 1 + 3) rfl (by omega) rfl trivial (enters_of Tryz.func124 (by kernel_rfl) rfl) (by omega) (by omega)
    (split_seq _ (by omega) _ s hs W0 (by omega) hS0) (UI 41 49 numS w) (UX numS w) (fun _ _ _ h hb => h.below hb) (fun _ _ _ ht h => h.turn ht) (fun _ _ _ _ ht h => h.turn ht) hI0
    (fun x => { tmps := #[.string s, .func (.func 49) #[] #[], undef, .pointer (some ⟨w.heap.size, 0, none⟩), .pointer (some ⟨w.heap.size + 1, 0, none⟩), .pointer (some ⟨w.heap.size + 1 + 1, 0, none⟩), .string x, .string s, .func (.func 124) #[] #[.pointer (some ⟨w.heap.size + 1 + 1 + 1 + 1, 0, none⟩), .pointer (some ⟨w.heap.size + 1 + 1 + 1, 0, none⟩), .pointer (some ⟨w.heap.size + 1 + 1 + 1 + 2, 0, none⟩)], .string x, undef, undef, undef, undef, undef, undef, undef], defers := [] }) ?assign ?body ?done ?stop
  case assign =>
    intro l x W K hK
    gi_wp2
    exact hK
  case body =>
    rintro l pre x post W hxs hI hD hl hlo hde
    have hx : x.size ≤ maxLen := by
      have := piece_size (s := s) (x := x) (by rw [hxs]; simp)
      omega
    obtain ⟨hg, h0, h1, h2, hb, hsz⟩ := hI
    have HS0 := Lib.hid (stand_below (C := w.heap.size + 1 + 1 + 1) (Y := W) (Below.refl _ W) hD hlo)
    have HLO := Lib.hid hlo
    have HG := Lib.hid hg
    have H0 := Lib.hid h0
    have H1 := Lib.hid h1
    have H2 := Lib.hid h2
    have HB := Lib.hid hb
    have c0 : W.cell? ⟨w.heap.size, 0, none⟩ = some (.func (.func 49) #[] #[]) := h0.cell 0
    clear hxs hlo hde hg h0 h1 h2 hb
    rcases he : x.toList.isEmpty with _ | _
    · rcases hp : numS x with _ | _
      · have HX : Hid (goodU numS (pre ++ [x]) = false) := by show _ = _; rw [goodU_snoc]; unfold pieceOk; rw [he, hp]; simp
        have HC := Lib.hid (isNumber_any x hx W)
        rw [hp] at HC
        clear hp
        gi_wp2_with (refine ⟨trivial, ?_⟩; gi_at_call 49; refine (CallsIn.inRound l (callsIn_wide.2 HC.out)).mono ?_; rintro e w1 ⟨rfl, hb1⟩; have HB1 := Lib.hid (more3 HB.out HB.out.size hb1); have H1a := Lib.hid (H1.out.below hb1 H1.out.lt); have HS1 := Lib.hid (stand_below (C := w.heap.size + 1 + 1 + 1) hb1 hD HLO.out); have hs1 := hb1.size; have c1 : w1.cell? ⟨w.heap.size + 1, 0, none⟩ = some (.bool false) := H1a.out.cell 0; have f1 : w1.frozen? ⟨w.heap.size + 1, 0, none⟩ = false := H1a.out.frozen 0; clear hb1)
        refine ⟨stand_set HS1.out _ (by show w.heap.size + 1 < _; omega) hl (by omega), rfl, HX.out, H1a.out.setCell 0 (.bool false), HB1.out.setCell (p := ⟨w.heap.size + 1, 0, none⟩) (by show w.heap.size ≤ w.heap.size + 1; omega) _, by simp [World.setCell]; omega⟩
      · have HX : Hid (goodU numS (pre ++ [x]) = true) := by show _ = _; rw [goodU_snoc, HG.out]; unfold pieceOk; rw [he, hp]; simp
        have HF : Hid (foundU (pre ++ [x]) = true) := by show _ = _; rw [foundU_snoc, he]; simp
        have HC := Lib.hid (isNumber_any x hx W)
        rw [hp] at HC
        clear hp
        gi_wp2_with (refine ⟨trivial, ?_⟩; gi_at_call 49; refine (CallsIn.inRound l (callsIn_wide.2 HC.out)).mono ?_; rintro e w1 ⟨rfl, hb1⟩; have HB1 := Lib.hid (more3 HB.out HB.out.size hb1); have H0a := Lib.hid (H0.out.below hb1 H0.out.lt); have H1a := Lib.hid (H1.out.below hb1 H1.out.lt); have H2a := Lib.hid (H2.out.below hb1 H2.out.lt); have HS1 := Lib.hid (stand_below (C := w.heap.size + 1 + 1 + 1) hb1 hD HLO.out); have hs1 := hb1.size; have c1 : w1.cell? ⟨w.heap.size + 1 + 1, 0, none⟩ = some (.bool (foundU pre)) := H2a.out.cell 0; have f1 : w1.frozen? ⟨w.heap.size + 1 + 1, 0, none⟩ = false := H2a.out.frozen 0; clear hb1)
        refine ⟨stand_set HS1.out _ (by show w.heap.size + 1 + 1 < _; omega) hl (by omega), HX.out, H0a.out.setOther (a := ⟨w.heap.size + 1 + 1, 0, none⟩) (by simp; omega) _, H1a.out.setOther (a := ⟨w.heap.size + 1 + 1, 0, none⟩) (by simp) _, ?_, HB1.out.setCell (p := ⟨w.heap.size + 1 + 1, 0, none⟩) (by show w.heap.size ≤ w.heap.size + 1 + 1; omega) _, by simp [World.setCell]; omega⟩
        rw [HF.out]
        exact H2a.out.setCell 0 (.bool true)
    · have HX : Hid (goodU numS (pre ++ [x]) = true) := by show _ = _; rw [goodU_snoc, HG.out]; unfold pieceOk; rw [he]; simp
      have HF : Hid (foundU (pre ++ [x]) = foundU pre) := by show _ = _; rw [foundU_snoc, he]; simp
      gi_wp2
      exact ⟨HS0.out, HX.out, H0.out, H1.out, by rw [HF.out]; exact H2.out, HB.out, hsz⟩
  case done =>
    rintro M W hM ⟨hg, h0, h1, h2, hb, hsz⟩ hK
    have HV : Hid (listS numS s = foundU (piecesS s)) := by show _ = _; unfold listS; rw [hg, Bool.true_and]
    have c2 : W.cell? ⟨w.heap.size + 1 + 1, 0, none⟩ = some (.bool (foundU (piecesS s))) := h2.cell 0
    have c1 : W.cell? ⟨w.heap.size + 1, 0, none⟩ = some (.bool false) := h1.cell 0
    have f1 : W.frozen? ⟨w.heap.size + 1, 0, none⟩ = false := h1.frozen 0
    have hMlt : M < W.heap.size := (Array.getElem?_eq_some_iff.1 hK).1
    have H1 : Hid (Blk (W.setCell ⟨w.heap.size + 1, 0, none⟩ (.bool (foundU (piecesS s)))) (w.heap.size + 1) 4 #[.bool (foundU (piecesS s))]) := h1.setCell 0 _
    have HK : Hid ((W.setCell ⟨w.heap.size + 1, 0, none⟩ (.bool (foundU (piecesS s)))).heap[M]? = some (.deferred (some []))) := (Below.heap_setCell W ⟨w.heap.size + 1, 0, none⟩ _ M (by show M ≠ w.heap.size + 1; omega)).trans hK
    have HB : Hid (Below w.heap.size w (W.setCell ⟨w.heap.size + 1, 0, none⟩ (.bool (foundU (piecesS s))))) := hb.setCell (p := ⟨w.heap.size + 1, 0, none⟩) (by show w.heap.size ≤ w.heap.size + 1; omega) _
    clear hg h0 h1 h2 hb hK
    gi_wp2
    generalize W.setCell ⟨w.heap.size + 1, 0, none⟩ (.bool (foundU (piecesS s))) = Wz at *
    refine ⟨by simp, .inl ⟨_, _, rfl, run_takeDeferred (w := Wz) HK.out, ?_⟩⟩
    have e1 : (Wz.putObj M (.deferred none)).cell? ⟨w.heap.size + 1, 0, none⟩ = some (.bool (foundU (piecesS s))) := (World.cell?_of_block ((below_put Wz M (.deferred none) (Nat.le_refl M)).block _ (by show w.heap.size + 1 < M; omega))).trans (H1.out.cell 0)
    refine ⟨.bool (foundU (piecesS s)), ?_, ret_bool HV.out.symm, HB.out.trans (below_put _ _ _ (by omega))⟩
    simp [results, Tryz.f50, go_sem, e1]
  case stop =>
    rintro M c pre W hM hpre ⟨rfl, hg, h1, hb, hsz⟩ hK
    gi_wp2
    refine ⟨by simp, .inl ⟨_, _, rfl, run_takeDeferred hK, ?_⟩⟩
    have e1 : (W.putObj M (.deferred none)).cell? ⟨w.heap.size + 1, 0, none⟩ = some (.bool false) := (World.cell?_of_block ((below_put W M (.deferred none) (Nat.le_refl M)).block _ (by show w.heap.size + 1 < M; omega))).trans (h1.cell 0)
    have hno : listS numS s = false := by
      obtain ⟨post, hp⟩ := hpre
      unfold listS goodU at *
      rw [← hp, List.all_append, hg]
      rfl
    refine ⟨.bool false, ?_, ret_bool hno.symm, hb.trans (below_put _ _ _ (by omega))⟩
    simp [results, Tryz.f50, go_sem, e1]
end Go.Proofs.YtadifolonbkamaaGreatDoor
