/- The walks of the developers' named and Find. The walks of the developers' Find, isFor, checkLine's predicate, slices.IndexFunc and ContainsFunc at it. -/
import Derived.Test.YtadifolonbkamaaGreatDoorKkag
import Derived.Great.BuildSlice
import Derived.BigQuiet
namespace Go.Proofs.YtadifolonbkamaaGreatDoor
open Go.RowKit
theorem Blk.row {w : World} {g : Nat} {t : TypeId} {cs : Array Value} (h : Blk w g t cs) (cs' : Array Value) : Blk (w.setRow g cs') g t cs' := setRow_heap w g cs cs' t (0, 0) h
theorem heap_row_other (w : World) (F : Nat) (cs : Array Value) (i : Nat) (h : i ≠ F) : (w.setRow F cs).heap[i]? = w.heap[i]? := by
  unfold World.setRow
  simp only [Array.getElem?_modify]
  rw [if_neg (Ne.symm h)]
theorem size_row (w : World) (F : Nat) (cs : Array Value) : (w.setRow F cs).heap.size = w.heap.size := by simp [World.setRow]
theorem below_setRow {B : Nat} {a w : World} (h : Below B a w) {g : Nat} (hg : B ≤ g) (cs : Array Value) : Below B a (w.setRow g cs) :=
  ⟨h.os, h.tape, h.output, by rw [size_row]; exact h.size, fun i hi => by rw [heap_row_other w g cs i (by omega)]; exact h.block i hi⟩
theorem results_cell_tmp {P : Program} {fn : Func} {p q : Tmp} {ty : TypeId} (h : fn.results = #[.cell p ty, .tmp q]) (tmps : Array Value) (w : World) (g : Nat) (t : TypeId) (cs : Array Value) (d : TypeDesc) (v : Value)
    (hp : tmps.getD p undef = .pointer (some ⟨g, 0, none⟩)) (hv : tmps.getD q undef = v) (hg : w.heap[g]? = some (.cells cs t (0, 0)))
    (hu : P.underlying ty = some d) (hd : (match d with | .struct _ | .array _ _ => true | _ => false) = true) (hi : (P.info? ty).map (·.size) = some cs.size) :
    (results fn tmps).run P w = .ok (.tuple #[.agg cs, v]) w := by
  have hp' : tmps[p]?.getD undef = .pointer (some ⟨g, 0, none⟩) := by simpa using hp
  have hv' : tmps[q]?.getD undef = v := by simpa using hv
  simp [results, h, hp', hv', asAddr, run_loadVar_row w g t ty cs (0, 0) d hg hu hd hi]
/-- The cells of a key. -/
def krA (r : Kr) : Array Value := #[.string (str r.s), .string (str r.n), .int .i64 r.f, .bool r.l, .int .i64 r.k, .slice r.A r.m r.c]
theorem krA_all (r : Kr) : (krA r).all (·.oneCell') = true := by simp [krA, Value.oneCell']
def noKr : Kr := noKy.raw
theorem noKr_is {w : World} {B : Nat} : noKr.is w B noKy := ⟨rfl, rfl, rfl, rfl, rfl, RowS.none_⟩
/-- What named gives. -/
def NamedP (o : Option Ky) (w : World) (e : Ending) (w' : World) : Prop :=
  ∃ r : Kr, e = .returned (.tuple #[.agg (krA r), .bool o.isSome]) ∧ r.is w' w'.heap.size (o.getD noKy) ∧ Below w.heap.size w w'
theorem named_take {l : List Ky} {n : List UInt8} {k : Nat} {x : Ky} (h : namedT (l.take k) n = none) (hx : l[k]? = some x) : (x.n = n → namedT l n = some x) ∧ (¬ x.n = n → namedT (l.take (k + 1)) n = none) := by
  have hk : k < l.length := by
    rcases Nat.lt_or_ge k l.length with h' | h'
    · exact h'
    · rw [List.getElem?_eq_none h'] at hx; cases hx
  have he : l[k] = x := by rw [List.getElem?_eq_getElem hk] at hx; exact Option.some.inj hx
  unfold namedT at *
  constructor
  · intro e
    conv => lhs; rw [← List.take_append_drop k l]
    rw [List.find?_append, h, List.drop_eq_getElem_cons hk, he, List.find?_cons]
    simp [e]
  · intro e
    rw [List.take_succ_eq_append_getElem hk, he, List.find?_append, h]
    simp [e]
set_option maxHeartbeats 8000000 in
theorem named_any (A : Option Addr) (n c B : Nat) (l : List Ky) (nm : ByteArray) (w : World) (h : KysAt w B A n l) (hB : B ≤ w.heap.size) :
    Calls Tryz.prog 26 #[.slice A n c, .string nm] w (NamedP (namedT l nm.data.toList) w) := by
  have hm := h.2.1
  unfold maxLen at hm
  have hl := h.1
  have HL := Lib.hid h
  clear h
  have HR0 : Hid (Blk (w.alloc (.cells #[.string ⟨#[]⟩, .string ⟨#[]⟩, .int .i64 0, .bool false, .int .i64 0, .slice none 0 0] 28)) w.heap.size 28 (krA noKr)) := Blk.new w _ _
  have HB0 : Hid (Below w.heap.size w (w.alloc (.cells #[.string ⟨#[]⟩, .string ⟨#[]⟩, .int .i64 0, .bool false, .int .i64 0, .slice none 0 0] 28))) := (Below.refl _ w).alloc (Nat.le_refl _) _
  have HN0 : Hid (namedT (l.take 0) nm.data.toList = none) := rfl
  go_enter Tryz.func26, Tryz.ntmps26
  go_wp2_with fail
  generalize w.alloc (.cells #[.string ⟨#[]⟩, .string ⟨#[]⟩, .int .i64 0, .bool false, .int .i64 0, .slice none 0 0] 28) = w0 at *
  go_loopw [10] (fun i wr => ∃ k : Nat, k ≤ n ∧ i = .int .i64 k ∧ Hid (Below w.heap.size w wr) ∧ Hid (Blk wr w.heap.size 28 (krA noKr)) ∧ Hid (namedT (l.take k) nm.data.toList = none)) (fun i wr => n - (intOf i).toNat)
  case atStart => exact ⟨0, Nat.zero_le _, rfl, HB0, HR0, HN0⟩
  case round =>
    obtain ⟨k, hk, rfl, hb, hR, hN⟩ := hrel
    have hRl : w.heap.size < wr.heap.size := hR.out.lt
    by_cases hlt : k < n
    · have b0 : (0 : Int) ≤ (k : Int) := by omega
      have b1 : (k : Int) < (n : Int) := by omega
      obtain ⟨ad, r, x, rfl, hab, hx, hr, q0, q1, q2, q3, q4, q5⟩ := (HL.out.below (hb.out.mono hB)).at_ hlt
      have z1 : (ad.add (k * 6)).block < wr.heap.size := by rw [block_addR]; omega
      have HX := Lib.hid hr
      obtain ⟨n1, n2⟩ := named_take hN.out hx
      have hq : ((str r.n).toList == nm.toList) = decide (x.n = nm.data.toList) := by
        rw [Lib.toList_data, Lib.toList_data, str_list, hr.2.1, Bool.eq_iff_iff, decide_eq_true_eq, beq_iff_eq]
      clear hr
      by_cases hxn : x.n = nm.data.toList
      · have HF := Lib.hid (n1 hxn)
        rw [decide_eq_true hxn] at hq
        clear hxn n1 n2 hx
        have HR1 : Hid (Blk (wr.alloc (.cells #[.string (str r.s), .string (str r.n), .int .i64 r.f, .bool r.l, .int .i64 r.k, .slice r.A r.m r.c] 28)) w.heap.size 28 (krA noKr)) := hR.out.alloc _
        have HB1 : Hid (Below w.heap.size w (wr.alloc (.cells #[.string (str r.s), .string (str r.n), .int .i64 r.f, .bool r.l, .int .i64 r.k, .slice r.A r.m r.c] 28))) := hb.out.alloc hb.out.size _
        have HX1 : Hid (r.is (wr.alloc (.cells #[.string (str r.s), .string (str r.n), .int .i64 r.f, .bool r.l, .int .i64 r.k, .slice r.A r.m r.c] 28)) B x) := HX.out.below (((Below.refl wr.heap.size wr).alloc (Nat.le_refl _) _).mono (by omega))
        go_wp2_with (refine wpList_store_row rfl 28 (.tmp 4) (.tmp 18) (by rfl) w.heap.size (krA r) (by rfl) (by rfl) 28 (krA noKr) HR1.out (by kernel_rfl) rfl (krA_all _) ?_)
        refine bodyPost_ret (results_cell_tmp (p := 4) (q := 5) rfl _ _ w.heap.size 28 (krA r) _ _ rfl rfl (Blk.row HR1.out _) Tryz.underlying28 rfl (by kernel_rfl)) rfl ⟨r, by rw [HF.out]; rfl, ?_, below_setRow HB1.out (Nat.le_refl _) _⟩
        rw [HF.out]
        refine (HX1.out.below (w' := (wr.alloc (.cells #[.string (str r.s), .string (str r.n), .int .i64 r.f, .bool r.l, .int .i64 r.k, .slice r.A r.m r.c] 28)).setRow w.heap.size (krA r)) (below_setRow (Below.refl _ _) hB _)).wide (by rw [size_row]; simp; omega)
      · have HF := Lib.hid (n2 hxn)
        rw [decide_eq_false hxn] at hq
        clear hxn n1 n2 hx HX
        go_wp2_with fail
        go_roundw
        case rel => exact ⟨k + 1, by omega, by go_num, hb.out.alloc hb.out.size _, hR.out.alloc _, HF⟩
        case measure => simp [intOf]; omega
    · obtain rfl : k = n := by omega
      have HF : Hid (namedT l nm.data.toList = none) := by
        have := hN.out
        rwa [List.take_of_length_le (by omega)] at this
      go_wp2_with (refine wpList_store_row rfl 28 (.tmp 4) (.tmp 20) (by rfl) w.heap.size (krA noKr) (by rfl) (by rfl) 28 (krA noKr) hR.out (by kernel_rfl) rfl (krA_all _) ?_)
      exact bodyPost_ret (results_cell_tmp (p := 4) (q := 5) rfl _ _ w.heap.size 28 (krA noKr) _ _ rfl rfl (Blk.row hR.out _) Tryz.underlying28 rfl (by kernel_rfl)) rfl ⟨noKr, by rw [HF.out]; rfl, by rw [HF.out]; exact noKr_is, below_setRow hb.out (Nat.le_refl _) _⟩
end Go.Proofs.YtadifolonbkamaaGreatDoor
namespace Go.Proofs.YtadifolonbkamaaGreatDoor
open Go.RowKit
set_option maxHeartbeats 4000000 in
theorem Find_any (s nm : ByteArray) (w : World) :
    Calls Tryz.prog 13 #[.string s, .string nm] w (NamedP (findT s.data.toList nm.data.toList) w) := by
  have HR0 : Hid (Blk (w.alloc (.cells #[.string ⟨#[]⟩, .string ⟨#[]⟩, .int .i64 0, .bool false, .int .i64 0, .slice none 0 0] 28)) w.heap.size 28 (krA noKr)) := Blk.new w _ _
  have HB0 : Hid (Below w.heap.size w (w.alloc (.cells #[.string ⟨#[]⟩, .string ⟨#[]⟩, .int .i64 0, .bool false, .int .i64 0, .slice none 0 0] 28))) := (Below.refl _ w).alloc (Nat.le_refl _) _
  go_enter Tryz.func13, Tryz.ntmps13
  go_wp2_with fail
  generalize w.alloc (.cells #[.string ⟨#[]⟩, .string ⟨#[]⟩, .int .i64 0, .bool false, .int .i64 0, .slice none 0 0] 28) = w0 at *
  refine (keysOf_any s _).mono ?_
  rintro e1 w1 ⟨A, c, rfl, hk, hb1⟩
  have HR1 := Lib.hid (HR0.out.below hb1 HR0.out.lt)
  have HB1 := Lib.hid (more3 HB0.out HB0.out.size hb1)
  clear hb1
  go_wp2_with fail
  refine (named_any A _ c _ _ nm _ hk (Nat.le_refl _)).mono ?_
  rintro e2 w2 ⟨r, rfl, hr, hb2⟩
  have HR2 := Lib.hid (HR1.out.below hb2 HR1.out.lt)
  have HB2 := Lib.hid (more3 HB1.out HB1.out.size hb2)
  have HX := Lib.hid hr
  clear hb2 hr hk
  go_wp2_with (refine wpList_store_row rfl 28 (.tmp 4) (.tmp 10) (by rfl) w.heap.size (krA r) (by rfl) (by rfl) 28 (krA noKr) HR2.out (by kernel_rfl) rfl (krA_all _) ?_)
  refine bodyPost_ret (results_cell_tmp (p := 4) (q := 5) rfl _ _ w.heap.size 28 (krA r) _ _ rfl rfl (Blk.row HR2.out _) Tryz.underlying28 rfl (by kernel_rfl)) rfl ⟨r, rfl, by rw [size_row]; exact HX.out.keep HR2.out (by decide) (heap_row_other _ _ _), below_setRow HB2.out (Nat.le_refl _) _⟩
theorem isFor_no (r : Kr) (kind : Int) (h : decide (0 ≤ kind) = false) (w : World) :
    Calls Tryz.prog 68 #[.agg #[.string (str r.s), .string (str r.n), .int .i64 r.f, .bool r.l, .int .i64 r.k, .slice r.A r.m r.c], .int .i64 kind] w fun e w' => e = .returned (.bool false) ∧ Below w.heap.size w w' := by
  go_enter Tryz.func68, Tryz.ntmps68
  go_wp2_with fail
  go_region
  all_goals
    go_wp2_with fail
    go_ret
    exact ⟨rfl, below_drewN ((Below.refl _ w).alloc (Nat.le_refl _) _) 1⟩
theorem isFor_yes (r : Kr) (kind : Int) (h : 0 ≤ kind) (w : World) :
    Calls Tryz.prog 68 #[.agg #[.string (str r.s), .string (str r.n), .int .i64 r.f, .bool r.l, .int .i64 r.k, .slice r.A r.m r.c], .int .i64 kind] w fun e w' => e = .returned (.bool (bits .and .i64 r.k (wrap64 (2 ^ min kind.toNat 64)) != 0)) ∧ Below w.heap.size w w' := by
  go_enter Tryz.func68, Tryz.ntmps68
  go_wp2_with fail
  go_region
  all_goals
    go_wp2_with fail
    go_ret
    exact ⟨rfl, below_drewN ((Below.refl _ w).alloc (Nat.le_refl _) _) 1⟩
set_option maxRecDepth 100000 in
theorem bits_for : ∀ k ∈ ([2, 4, 8, 30] : List Int), ∀ m, m < 65 → (bits .and .i64 k (wrap64 (2 ^ m)) != 0) = k.toNat.testBit m := by decide +kernel
theorem isFor_any (r : Kr) (kind : Int) (hk : r.k ∈ ([2, 4, 8, 30] : List Int)) (w : World) :
    Calls Tryz.prog 68 #[.agg #[.string (str r.s), .string (str r.n), .int .i64 r.f, .bool r.l, .int .i64 r.k, .slice r.A r.m r.c], .int .i64 kind] w fun e w' => e = .returned (.bool (isForK r.k kind)) ∧ Below w.heap.size w w' := by
  by_cases h : 0 ≤ kind
  · have := isFor_yes r kind h w
    rw [bits_for r.k hk _ (by omega)] at this
    unfold isForK
    rw [decide_eq_true h, Bool.true_and]
    exact this
  · unfold isForK
    rw [decide_eq_false h, Bool.false_and]
    exact isFor_no r kind (decide_eq_false h) w
theorem isAllowed_any (r : Kr) (kind : Int) (hk : r.k ∈ ([2, 4, 8, 30] : List Int)) (K : Nat) (w : World) (hK : w.cell? ⟨K, 0, none⟩ = some (.int .i64 kind)) (hKl : K < w.heap.size) :
    Calls Tryz.prog 67 #[.agg #[.string (str r.s), .string (str r.n), .int .i64 r.f, .bool r.l, .int .i64 r.k, .slice r.A r.m r.c], .pointer (some ⟨K, 0, none⟩)] w fun e w' => e = .returned (.bool (isForK r.k kind)) ∧ Below w.heap.size w w' := by
  go_enter Tryz.func67, Tryz.ntmps67
  go_wp2_with (go_at_call 68; refine (isFor_any r kind hk _).mono ?_; rintro e w1 ⟨rfl, hb⟩)
  go_ret
  exact ⟨rfl, more ((Below.refl _ w).alloc (Nat.le_refl _) _) hb⟩
theorem any_take {α : Type} {l : List α} {p : α → Bool} {k : Nat} {x : α} (h : (l.take k).any p = false) (hx : l[k]? = some x) : (p x = true → l.any p = true) ∧ (p x = false → (l.take (k + 1)).any p = false) := by
  have hk : k < l.length := by
    rcases Nat.lt_or_ge k l.length with h' | h'
    · exact h'
    · rw [List.getElem?_eq_none h'] at hx; cases hx
  have he : l[k] = x := by rw [List.getElem?_eq_getElem hk] at hx; exact Option.some.inj hx
  constructor
  · intro e
    exact List.any_eq_true.2 ⟨x, by rw [← he]; exact List.getElem_mem hk, e⟩
  · intro e
    rw [List.take_succ_eq_append_getElem hk, he, List.any_append, h]
    simp [e]
set_option maxHeartbeats 8000000 in
theorem keyIndex_any (A : Option Addr) (n c B : Nat) (l : List Ky) (kind : Int) (K : Nat) (w : World) (h : KysAt w B A n l) (hB : B ≤ w.heap.size) (hk : ∀ x ∈ l, x.k ∈ ([2, 4, 8, 30] : List Int)) (hK : w.cell? ⟨K, 0, none⟩ = some (.int .i64 kind)) (hKl : K < w.heap.size) :
    Calls Tryz.prog 94 #[.slice A n c, .func (.func 67) #[] #[.pointer (some ⟨K, 0, none⟩)]] w fun e w' => ∃ i : Int, e = .returned (.int .i64 i) ∧ decide (0 ≤ i) = l.any (fun x => isForT x kind) ∧ Below w.heap.size w w' := by
  have hm := h.2.1
  unfold maxLen at hm
  have hl := h.1
  have HL := Lib.hid h
  have HKK := Lib.hid hk
  have HN0 : Hid ((l.take 0).any (fun x => isForT x kind) = false) := rfl
  clear h hk
  go_enter Tryz.func94, Tryz.ntmps94
  go_wp2_with fail
  go_loopw [8] (fun i wr => ∃ k : Nat, k ≤ n ∧ i = .int .i64 k ∧ Hid (Below w.heap.size w wr) ∧ Hid ((l.take k).any (fun x => isForT x kind) = false)) (fun i wr => n - (intOf i).toNat)
  case atStart => exact ⟨0, Nat.zero_le _, rfl, Below.refl _ _, HN0⟩
  case round =>
    obtain ⟨k, hk, rfl, hb, hN⟩ := hrel
    have hbs : w.heap.size ≤ wr.heap.size := hb.out.size
    by_cases hlt : k < n
    · have b0 : (0 : Int) ≤ (k : Int) := by omega
      have b1 : (k : Int) < (n : Int) := by omega
      obtain ⟨ad, r, x, rfl, hab, hx, hr, q0, q1, q2, q3, q4, q5⟩ := (HL.out.below (hb.out.mono hB)).at_ hlt
      have hxl : x ∈ l := List.mem_of_getElem? hx
      have hrk : r.k ∈ ([2, 4, 8, 30] : List Int) := by rw [hr.2.2.2.2.1]; exact HKK.out x hxl
      have hp : isForT x kind = isForK r.k kind := by unfold isForT; rw [hr.2.2.2.2.1]
      obtain ⟨n1, n2⟩ := any_take hN.out hx
      have HC := Lib.hid (isAllowed_any r kind hrk K wr ((hb.out.cell hKl).trans hK) (by omega))
      clear hr hxl hrk hx
      rcases hf : isForT x kind with _ | _
      · have HF := Lib.hid (n2 hf)
        rw [← hp, hf] at HC
        clear hf hp n1 n2
        go_wp2_with (go_at_call 67; refine HC.out.mono ?_; rintro e w1 ⟨rfl, hb1⟩)
        go_roundw
        case rel => exact ⟨k + 1, by omega, by go_num, more hb.out hb1, HF⟩
        case measure => simp [intOf]; omega
      · have HF := Lib.hid (n1 hf)
        rw [← hp, hf] at HC
        clear hf hp n1 n2
        go_wp2_with (go_at_call 67; refine HC.out.mono ?_; rintro e w1 ⟨rfl, hb1⟩)
        go_ret
        exact ⟨_, rfl, by rw [HF.out]; simp, more hb.out hb1⟩
    · obtain rfl : k = n := by omega
      have HF : Hid (l.any (fun x => isForT x kind) = false) := by
        have := hN.out
        rwa [List.take_of_length_le (by omega)] at this
      go_wp2_with fail
      go_ret
      exact ⟨_, rfl, by rw [HF.out]; simp, hb.out⟩
theorem keyHas_any (A : Option Addr) (n c B : Nat) (l : List Ky) (kind : Int) (K : Nat) (w : World) (h : KysAt w B A n l) (hB : B ≤ w.heap.size) (hk : ∀ x ∈ l, x.k ∈ ([2, 4, 8, 30] : List Int)) (hK : w.cell? ⟨K, 0, none⟩ = some (.int .i64 kind)) (hKl : K < w.heap.size) :
    Calls Tryz.prog 69 #[.slice A n c, .func (.func 67) #[] #[.pointer (some ⟨K, 0, none⟩)]] w fun e w' => e = .returned (.bool (l.any (fun x => isForT x kind))) ∧ Below w.heap.size w w' := by
  have HC := Lib.hid (keyIndex_any A n c B l kind K w h hB hk hK hKl)
  clear h hk hK
  go_enter Tryz.func69, Tryz.ntmps69
  go_wp2_with fail
  refine HC.out.mono ?_
  rintro e w1 ⟨i, rfl, hi, hb⟩
  have HI := Lib.hid hi
  clear hi
  go_wp2_with fail
  go_ret
  exact ⟨ret_bool HI.out, hb⟩
end Go.Proofs.YtadifolonbkamaaGreatDoor
