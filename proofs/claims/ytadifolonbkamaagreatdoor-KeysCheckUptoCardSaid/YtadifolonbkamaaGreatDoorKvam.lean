/- A parameter that is a row of texts: opened to what it holds, its texts no longer than a machine's memory, and read again -/
import Derived.Test.YtadifolonbkamaaGreatDoorKvae
import Derived.Test.YtadifolonbkamaaGreatDoorKvai
import Derived.Test.YtadifolonbkamaaGreatDoorKvag
import Derived.Test.YtadifolonbkamaaGreatDoorKvaa
import Derived.Test.YtadifolonbkamaaGreatDoorKvad
import Derived.Test.YtadifolonbkamaaGreatDoorKvak
import Derived.TacticsInMore
import Derived.Test.YtadifolonbkamaaGreatDoorKval
import Derived.BigQuiet
import Derived.BigRegion
import Derived.Test.YtadifolonbkamaaGreatDoorKvaf
namespace Go.Proofs.YtadifolonbkamaaGreatDoor
open Go.RowKit Go.Joins Go.ChangeShapes Go.WideShapes Go.ChangeAt Go.Deep
end Go.Proofs.YtadifolonbkamaaGreatDoor
namespace Go.Proofs.YtadifolonbkamaaGreatDoor
open Go.RowKit
set_option maxHeartbeats 4000000 in
theorem txtIndex_any (A : Option Addr) (n c B : Nat) (l : List (List UInt8)) (v : ByteArray) (w : World) (h : RowAt w B A n l) :
    Calls Tryz.prog 86 #[.slice A n c, .string v] w fun e w' => ∃ i : Int, e = .returned (.int .i64 i) ∧ decide (0 ≤ i) = l.any (fun x => decide (x = v.data.toList)) ∧ w' = w := by
  have hm := h.2.1
  unfold maxLen at hm
  have hl := h.1
  have HL := Lib.hid h
  have HN0 : Hid ((l.take 0).any (fun x => decide (x = v.data.toList)) = false) := rfl
  clear h
  go_enter Tryz.func86, Tryz.ntmps86
  go_wp2_with fail
  go_loopw [8] (fun i wr => ∃ k : Nat, k ≤ n ∧ i = .int .i64 k ∧ w = wr ∧ Hid ((l.take k).any (fun x => decide (x = v.data.toList)) = false)) (fun i wr => n - (intOf i).toNat)
  case atStart => exact ⟨0, Nat.zero_le _, rfl, rfl, HN0⟩
  case round =>
    obtain ⟨k, hk, rfl, rfl, hN⟩ := hrel
    by_cases hlt : k < n
    · have b0 : (0 : Int) ≤ (k : Int) := by omega
      have b1 : (k : Int) < (n : Int) := by omega
      obtain ⟨ad, x, rfl, hab, hx, q0⟩ := HL.out.at_ hlt
      obtain ⟨n1, n2⟩ := any_take hN.out hx
      have hq : (v.toList == (str x).toList) = decide (x = v.data.toList) := by
        rw [Lib.toList_data, Lib.toList_data, str_list, Bool.eq_iff_iff, decide_eq_true_eq, beq_iff_eq]
        exact eq_comm
      clear hx
      by_cases hf : x = v.data.toList
      · have HF := Lib.hid (n1 (decide_eq_true hf))
        rw [decide_eq_true hf] at hq
        clear hf n1 n2
        go_wp2_with fail
        go_ret
        exact ⟨_, rfl, by rw [HF.out]; simp, by first | rfl | trivial⟩
      · have HF := Lib.hid (n2 (decide_eq_false hf))
        rw [decide_eq_false hf] at hq
        clear hf n1 n2
        go_wp2_with fail
        go_roundw
        case rel => exact ⟨k + 1, by omega, by go_num, by first | rfl | trivial, HF⟩
        case measure => simp [intOf]; omega
    · obtain rfl : k = n := by omega
      have HF : Hid (l.any (fun x => decide (x = v.data.toList)) = false) := by
        have := hN.out
        rwa [List.take_of_length_le (by omega)] at this
      go_wp2_with fail
      go_ret
      exact ⟨_, rfl, by rw [HF.out]; simp, by first | rfl | trivial⟩
theorem txtHas_any (A : Option Addr) (n c B : Nat) (l : List (List UInt8)) (v : ByteArray) (w : World) (h : RowAt w B A n l) :
    Calls Tryz.prog 56 #[.slice A n c, .string v] w fun e w' => e = .returned (.bool (l.any (fun x => decide (x = v.data.toList)))) ∧ w' = w := by
  have HC := Lib.hid (txtIndex_any A n c B l v w h)
  clear h
  go_enter Tryz.func56, Tryz.ntmps56
  go_wp2_with fail
  refine HC.out.mono ?_
  rintro e w1 ⟨i, rfl, hi, rfl⟩
  have HI := Lib.hid hi
  clear hi
  go_wp2_with fail
  go_ret
  exact ⟨ret_bool HI.out, rfl⟩
theorem isForm_any (f : Int) (w : World) : Calls Tryz.prog 27 #[.int .i64 f] w fun e w' => e = .returned (.bool (decide (1 ≤ f) && decide (f ≤ 11))) ∧ w' = w := by
  by_cases h1 : 1 ≤ f
  · by_cases h2 : f ≤ 11
    · go_enter Tryz.func27, Tryz.ntmps27
      go_wp2_with fail
      go_ret
      exact ⟨ret_bool (by first | (simp [h1, h2]; done) | rfl), rfl⟩
    · have h2' : 11 < f := by omega
      have hd : decide (f ≤ 11) = false := decide_eq_false h2
      go_enter Tryz.func27, Tryz.ntmps27
      go_wp2_with fail
      go_ret
      exact ⟨ret_bool (by first | rfl | (simp [h1, hd]; done)), rfl⟩
  · have h1' : f < 1 := by omega
    have hd : decide (1 ≤ f) = false := decide_eq_false h1
    go_enter Tryz.func27, Tryz.ntmps27
    go_wp2_with fail
    go_ret
    exact ⟨ret_bool (by first | rfl | (simp [hd]; done)), rfl⟩
def TakesAt (f : Int) (r : Kr) (v : ByteArray) (b : Bool) (w : World) : Prop :=
  Calls Tryz.prog 28 #[.agg #[.string (str r.s), .string (str r.n), .int .i64 f, .bool r.l, .int .i64 r.k, .slice r.A r.m r.c], .string v] w fun e w' => e = .returned (.bool b) ∧ Below w.heap.size w w'
theorem takes_text (r : Kr) (v : ByteArray) (w : World) : TakesAt 1 r v true w := by
  unfold TakesAt
  rcases he : v.toList.isEmpty with _ | _
  · go_enter Tryz.func28, Tryz.ntmps28
    go_wp2_with fail
    go_ret
    exact ⟨rfl, (Below.refl _ w).alloc (Nat.le_refl _) _⟩
  · rcases hl : r.l with _ | _
    all_goals
      go_enter Tryz.func28, Tryz.ntmps28
      go_wp2_with fail
      go_ret
      exact ⟨rfl, (Below.refl _ w).alloc (Nat.le_refl _) _⟩
theorem takes_empty (f : Int) (hf : f ≠ 1) (r : Kr) (v : ByteArray) (he : v.toList.isEmpty = true) (w : World) : TakesAt f r v r.l w := by
  unfold TakesAt
  have hd : ((f : Int) == 1) = false := by simpa using hf
  rcases hl : r.l with _ | _
  all_goals
    go_enter Tryz.func28, Tryz.ntmps28
    go_wp2_with fail
    go_ret
    exact ⟨rfl, (Below.refl _ w).alloc (Nat.le_refl _) _⟩
theorem takes_word (r : Kr) (v : ByteArray) (he : v.toList.isEmpty = false) (w : World) (B : Nat) (l : List (List UInt8)) (h : RowAt w B r.A r.m l) (hB : B ≤ w.heap.size) : TakesAt 10 r v (l.any (fun x => decide (x = v.data.toList))) w := by
  unfold TakesAt
  have HC := Lib.hid (txtHas_any r.A r.m r.c B l v (w.alloc (.cells #[.string (str r.s), .string (str r.n), .int .i64 10, .bool r.l, .int .i64 r.k, .slice r.A r.m r.c] 28)) (h.below (((Below.refl _ w).alloc (Nat.le_refl _) _).mono hB)))
  clear h
  go_enter Tryz.func28, Tryz.ntmps28
  go_wp2_with fail
  refine HC.out.mono ?_
  rintro e w1 ⟨rfl, rfl⟩
  go_wp2_with fail
  go_ret
  exact ⟨rfl, (Below.refl _ w).alloc (Nat.le_refl _) _⟩
theorem Value_of (f : Int) (h1 : 1 ≤ f) (h2 : f ≤ 11) (r : Kr) (v : ByteArray) (b : Bool) (w : World) (h : TakesAt f r v b (w.alloc (.cells #[.string (str r.s), .string (str r.n), .int .i64 f, .bool r.l, .int .i64 r.k, .slice r.A r.m r.c] 28))) :
    Calls Tryz.prog 15 #[.agg #[.string (str r.s), .string (str r.n), .int .i64 f, .bool r.l, .int .i64 r.k, .slice r.A r.m r.c], .string v] w fun e w' => e = .returned (.int .i64 (if b = true then 0 else 12)) ∧ Below w.heap.size w w' := by
  have HC := Lib.hid h
  have HF := fun w => isForm_any f w
  rw [decide_eq_true h1, decide_eq_true h2] at HF
  have HF := Lib.hid HF
  clear h h1 h2
  rcases b with _ | _
  all_goals
    go_enter Tryz.func15, Tryz.ntmps15
    go_wp2_with (go_at_call 27; refine (HF.out _).mono ?_; rintro e w1 ⟨rfl, rfl⟩)
    refine HC.out.mono ?_
    rintro e w2 ⟨rfl, hb⟩
    go_wp2_with fail
    go_ret
    exact ⟨rfl, more ((Below.refl _ w).alloc (Nat.le_refl _) _) hb⟩
theorem Value_no (f : Int) (h : f < 1 ∨ 11 < f) (r : Kr) (v : ByteArray) (w : World) :
    Calls Tryz.prog 15 #[.agg #[.string (str r.s), .string (str r.n), .int .i64 f, .bool r.l, .int .i64 r.k, .slice r.A r.m r.c], .string v] w fun e w' => e = .returned (.int .i64 3) ∧ Below w.heap.size w w' := by
  have HF := fun w => isForm_any f w
  rw [show (decide (1 ≤ f) && decide (f ≤ 11)) = false by rw [Bool.and_eq_false_iff, decide_eq_false_iff_not, decide_eq_false_iff_not]; omega] at HF
  have HF := Lib.hid HF
  clear h
  go_enter Tryz.func15, Tryz.ntmps15
  go_wp2_with (go_at_call 27; refine (HF.out _).mono ?_; rintro e w1 ⟨rfl, rfl⟩)
  go_ret
  exact ⟨rfl, (Below.refl _ w).alloc (Nat.le_refl _) _⟩
end Go.Proofs.YtadifolonbkamaaGreatDoor
namespace Go.Proofs.YtadifolonbkamaaGreatDoor
open Go.RowKit
def lineV (V : Ky → ByteArray → Int) (kind : Int) (s k v : ByteArray) : Int :=
  if oftenT s.data.toList kind = true then (match findT s.data.toList k.data.toList with | some x => V x v | none => 11) else 10
def ValueSays (V : Ky → ByteArray → Int) (s k : List UInt8) (v : ByteArray) (w0 : World) : Prop :=
  ∀ (x : Ky) (r : Kr) (B : Nat) (w : World), Below w0.heap.size w0 w → r.is w B x → B ≤ w.heap.size → findT s k = some x →
    Calls Tryz.prog 15 #[.agg #[.string (str r.s), .string (str r.n), .int .i64 r.f, .bool r.l, .int .i64 r.k, .slice r.A r.m r.c], .string v] w fun e w' => e = .returned (.int .i64 (V x v)) ∧ Below w.heap.size w w'
set_option maxHeartbeats 8000000 in
theorem checkLine_of (V : Ky → ByteArray → Int) (kind : Int) (s k v : ByteArray) (n : Int) (w0 w : World) (hw : Below w0.heap.size w0 w) (hV : ValueSays V s.data.toList k.data.toList v w0) :
    Calls Tryz.prog 37 #[.int .i64 kind, .agg #[.string s, .string k, .string v, .int .i64 n]] w fun e w' => e = .returned (.int .i64 (lineV V kind s k v)) ∧ Below w.heap.size w w' := by
  have HV := Lib.hid hV
  have HW := Lib.hid hw
  have hB0 : Below w.heap.size w ((w.alloc (.cells #[.int .i64 kind] 3)).alloc (.cells #[.string s, .string k, .string v, .int .i64 n] 44)) := ((Below.refl _ w).alloc (Nat.le_refl _) _).alloc (by simp) _
  have hK0 : Blk ((w.alloc (.cells #[.int .i64 kind] 3)).alloc (.cells #[.string s, .string k, .string v, .int .i64 n] 44)) w.heap.size 3 #[.int .i64 kind] := (Blk.new w _ _).alloc _
  have hL0 : Blk ((w.alloc (.cells #[.int .i64 kind] 3)).alloc (.cells #[.string s, .string k, .string v, .int .i64 n] 44)) (w.heap.size + 1) 44 #[.string s, .string k, .string v, .int .i64 n] := by
    have := Blk.new (w.alloc (.cells #[.int .i64 kind] 3)) 44 #[.string s, .string k, .string v, .int .i64 n]
    rwa [World.size_alloc] at this
  have HB0 := Lib.hid hB0
  have HK0 := Lib.hid hK0
  have HL0 := Lib.hid hL0
  clear hV hw hB0 hK0 hL0
  go_enter Tryz.func37, Tryz.ntmps37
  go_wp2_with fail
  generalize (w.alloc (.cells #[.int .i64 kind] 3)).alloc (.cells #[.string s, .string k, .string v, .int .i64 n] 44) = w1 at *
  refine (keysOf_any s _).mono ?_
  rintro e2 w2 ⟨A, c, rfl, hk, hb⟩
  have HB2 := Lib.hid (more3 HB0.out HB0.out.size hb)
  have HK2 := Lib.hid (HK0.out.below hb HK0.out.lt)
  have HL2 := Lib.hid (HL0.out.below hb HL0.out.lt)
  have HS2 := Lib.hid hk
  clear hb hk
  have HC2 := Lib.hid (keyHas_any A _ c _ _ kind w.heap.size w2 HS2.out (Nat.le_refl _) (keysT_k _) (HK2.out.cell 0) HK2.out.lt)
  rcases ho : (keysT s.data.toList).any (fun x => isForT x kind) with _ | _
  · have HR : Hid (lineV V kind s k v = 10) := by show _ = _; unfold lineV oftenT; rw [if_neg (by rw [ho]; simp)]
    rw [ho] at HC2
    clear ho
    go_wp2_with fail
    refine HC2.out.mono ?_
    rintro e3 w3 ⟨rfl, hb3⟩
    go_wp2_with fail
    go_ret
    exact ⟨ret_int HR.out.symm, more3 HB2.out HB2.out.size hb3⟩
  · have HR : Hid (lineV V kind s k v = match findT s.data.toList k.data.toList with | some x => V x v | none => 11) := by show _ = _; unfold lineV oftenT; rw [if_pos ho]
    rw [ho] at HC2
    clear ho
    go_wp2_with fail
    refine HC2.out.mono ?_
    rintro e3 w3 ⟨rfl, hb3⟩
    have HB3 := Lib.hid (more3 HB2.out HB2.out.size hb3)
    have HL3 := Lib.hid (HL2.out.below hb3 HL2.out.lt)
    have HS3 := Lib.hid (HS2.out.below hb3)
    have hz3 : w2.heap.size ≤ w3.heap.size := hb3.size
    have l1 : w3.cell? ⟨w.heap.size + 1, 1, none⟩ = some (.string k) := HL3.out.cell 1
    clear hb3 HC2
    go_wp2_with fail
    refine (named_any A _ c _ _ k _ HS3.out hz3).mono ?_
    rintro e4 w4 ⟨r, rfl, hr, hb4⟩
    have HB4 := Lib.hid (more3 HB3.out HB3.out.size hb4)
    have HL4 := Lib.hid (HL3.out.below hb4 HL3.out.lt)
    have HX4 := Lib.hid hr
    clear hb4 hr l1
    unfold krA
    change Hid (_ = match namedT (keysT s.data.toList) k.data.toList with | some x => V x v | none => 11) at HR
    rcases hf : namedT (keysT s.data.toList) k.data.toList with _ | x
    · rw [hf] at HR
      rw [show (none : Option Ky).isSome = false from rfl]
      go_wp2_with fail
      go_ret
      exact ⟨ret_int HR.out.symm, HB4.out.alloc HB4.out.size _⟩
    · have hfx : findT s.data.toList k.data.toList = some x := hf
      rw [hf] at HR HX4
      rw [show (some x : Option Ky).isSome = true from rfl]
      have l2 : (w4.alloc (.cells #[.string (str r.s), .string (str r.n), .int .i64 r.f, .bool r.l, .int .i64 r.k, .slice r.A r.m r.c] 28)).cell? ⟨w.heap.size + 1, 2, none⟩ = some (.string v) := (HL4.out.alloc _).cell 2
      have HB5 : Hid (Below w.heap.size w (w4.alloc (.cells #[.string (str r.s), .string (str r.n), .int .i64 r.f, .bool r.l, .int .i64 r.k, .slice r.A r.m r.c] 28))) := HB4.out.alloc HB4.out.size _
      have HX5 : Hid (r.is (w4.alloc (.cells #[.string (str r.s), .string (str r.n), .int .i64 r.f, .bool r.l, .int .i64 r.k, .slice r.A r.m r.c] 28)) w4.heap.size x) := HX4.out.below ((Below.refl _ _).alloc (Nat.le_refl _) _)
      have HC5 := Lib.hid (HV.out x r _ _ (more3 HW.out HW.out.size HB5.out) HX5.out (by simp) hfx)
      clear hf hfx
      go_wp2_with fail
      refine HC5.out.mono ?_
      rintro e6 w6 ⟨rfl, hb6⟩
      go_wp2_with fail
      go_ret
      exact ⟨ret_int HR.out.symm, more3 HB5.out HB5.out.size hb6⟩
def checkV (V : Ky → ByteArray → Int) (kind : Int) : List Ln → Int × Int
  | [] => (0, 0)
  | x :: l => if lineV V kind (str x.s) (str x.k) (str x.v) = 0 then checkV V kind l else (lineV V kind (str x.s) (str x.k) (str x.v), x.n)
theorem checkV_app (V : Ky → ByteArray → Int) (kind : Int) (a b : List Ln) (h : ∀ x ∈ a, lineV V kind (str x.s) (str x.k) (str x.v) = 0) : checkV V kind (a ++ b) = checkV V kind b := by
  induction a with
  | nil => rfl
  | cons x a ih =>
    rw [List.cons_append, checkV, if_pos (h x (by simp)), ih fun y hy => h y (by simp [hy])]
theorem checkV_clean (V : Ky → ByteArray → Int) (kind : Int) (a : List Ln) (h : ∀ x ∈ a, lineV V kind (str x.s) (str x.k) (str x.v) = 0) : checkV V kind a = (0, 0) := by
  induction a with
  | nil => rfl
  | cons x a ih => rw [checkV, if_pos (h x (by simp)), ih fun y hy => h y (by simp [hy])]
theorem results_cell_one {P : Program} {fn : Func} {p : Tmp} {ty : TypeId} (h : fn.results = #[.cell p ty]) (tmps : Array Value) (w : World) (g : Nat) (t : TypeId) (cs : Array Value) (d : TypeDesc)
    (hp : tmps.getD p undef = .pointer (some ⟨g, 0, none⟩)) (hg : w.heap[g]? = some (.cells cs t (0, 0)))
    (hu : P.underlying ty = some d) (hd : (match d with | .struct _ | .array _ _ => true | _ => false) = true) (hi : (P.info? ty).map (·.size) = some cs.size) :
    (results fn tmps).run P w = .ok (.agg cs) w := results_cell_row h tmps w g t cs (0, 0) d hp hg hu hd hi
def fltA (c n : Int) : Array Value := #[.int .i64 c, .int .i64 n]
theorem fltA_all (c n : Int) : (fltA c n).all (·.oneCell') = true := by simp [fltA, Value.oneCell']
set_option maxHeartbeats 8000000 in
theorem Check_of (V : Ky → ByteArray → Int) (kind : Int) (A : Option Addr) (n c B : Nat) (l : List Ln) (w0 w : World) (h : LnsAt w B A n l) (hB : B ≤ w.heap.size) (hw : Below w0.heap.size w0 w) (hV : ∀ x ∈ l, ValueSays V x.s x.k (str x.v) w0) :
    Calls Tryz.prog 17 #[.int .i64 kind, .slice A n c] w fun e w' => e = .returned (.agg (fltA (checkV V kind l).1 (checkV V kind l).2)) ∧ Below w.heap.size w w' := by
  have hm := h.2.1
  unfold maxLen at hm
  have hl := h.1
  have HL := Lib.hid h
  have HV := Lib.hid hV
  have HW := Lib.hid hw
  clear h hV hw
  have HR0 : Hid (Blk (w.alloc (.cells #[.int .i64 0, .int .i64 0] 37)) w.heap.size 37 (fltA 0 0)) := Blk.new w _ _
  have HB0 : Hid (Below w.heap.size w (w.alloc (.cells #[.int .i64 0, .int .i64 0] 37))) := (Below.refl _ w).alloc (Nat.le_refl _) _
  have HN0 : Hid (∀ x ∈ l.take 0, lineV V kind (str x.s) (str x.k) (str x.v) = 0) := fun x hx => by simp at hx
  go_enter Tryz.func17, Tryz.ntmps17
  go_wp2_with fail
  generalize w.alloc (.cells #[.int .i64 0, .int .i64 0] 37) = w1 at *
  go_loopw [10] (fun i wr => ∃ k : Nat, k ≤ n ∧ i = .int .i64 k ∧ Hid (Below w.heap.size w wr) ∧ Hid (Blk wr w.heap.size 37 (fltA 0 0)) ∧ Hid (∀ x ∈ l.take k, lineV V kind (str x.s) (str x.k) (str x.v) = 0)) (fun i wr => n - (intOf i).toNat)
  case atStart => exact ⟨0, Nat.zero_le _, rfl, HB0, HR0, HN0⟩
  case round =>
    obtain ⟨k, hk, rfl, hb, hR, hN⟩ := hrel
    have hRl : w.heap.size < wr.heap.size := hR.out.lt
    by_cases hlt : k < n
    · have b0 : (0 : Int) ≤ (k : Int) := by omega
      have b1 : (k : Int) < (n : Int) := by omega
      obtain ⟨ad, x, rfl, hab, hx, q0, q1, q2, q3⟩ := (HL.out.below (hb.out.mono hB)).at_ hlt
      have z1 : (ad.add (k * 4)).block < wr.heap.size := by rw [block_addW]; omega
      have hxl : x ∈ l := List.mem_of_getElem? hx
      have HB1 : Hid (Below w.heap.size w (wr.alloc (.cells #[.string (str x.s), .string (str x.k), .string (str x.v), .int .i64 x.n] 44))) := hb.out.alloc hb.out.size _
      have HR1 : Hid (Blk (wr.alloc (.cells #[.string (str x.s), .string (str x.k), .string (str x.v), .int .i64 x.n] 44)) w.heap.size 37 (fltA 0 0)) := hR.out.alloc _
      have HA1 : Hid (Blk (wr.alloc (.cells #[.string (str x.s), .string (str x.k), .string (str x.v), .int .i64 x.n] 44)) wr.heap.size 44 #[.string (str x.s), .string (str x.k), .string (str x.v), .int .i64 x.n]) := Blk.new wr _ _
      have HC := Lib.hid (checkLine_of V kind (str x.s) (str x.k) (str x.v) x.n w0 _ (more3 HW.out HW.out.size HB1.out) (HV.out x hxl))
      have hkl : k < l.length := by omega
      have hxe : l[k] = x := by rw [List.getElem?_eq_getElem hkl] at hx; exact Option.some.inj hx
      by_cases h0 : lineV V kind (str x.s) (str x.k) (str x.v) = 0
      · have HN1 : Hid (∀ y ∈ l.take (k + 1), lineV V kind (str y.s) (str y.k) (str y.v) = 0) := by
          intro y hy
          rw [List.take_succ_eq_append_getElem hkl, hxe, List.mem_append] at hy
          rcases hy with hy | hy
          · exact hN.out y hy
          · simp at hy; subst hy; exact h0
        rw [h0] at HC
        clear h0 hx hxl hxe
        go_wp2_with fail
        refine HC.out.mono ?_
        rintro e w2 ⟨rfl, hb2⟩
        have HB2 := Lib.hid (more3 HB1.out HB1.out.size hb2)
        have HR2 := Lib.hid (HR1.out.below hb2 HR1.out.lt)
        clear hb2
        go_wp2_with fail
        go_roundw
        case rel => exact ⟨k + 1, by omega, by go_num, HB2, HR2, HN1⟩
        case measure => simp [intOf]; omega
      · have HE : Hid (checkV V kind l = (lineV V kind (str x.s) (str x.k) (str x.v), x.n)) := by
          show _ = _
          conv => lhs; rw [← List.take_append_drop k l]
          rw [checkV_app V kind _ _ hN.out, List.drop_eq_getElem_cons hkl, hxe, checkV, if_neg h0]
        have hne : (lineV V kind (str x.s) (str x.k) (str x.v) != 0) = true := by simpa using h0
        obtain ⟨q, hq⟩ : ∃ q, lineV V kind (str x.s) (str x.k) (str x.v) = q := ⟨_, rfl⟩
        rw [hq] at HC hne HE
        clear h0 hx hxl hxe hq
        go_wp2_with fail
        refine HC.out.mono ?_
        rintro e w2 ⟨rfl, hb2⟩
        have HB2 := Lib.hid (more3 HB1.out HB1.out.size hb2)
        have HR2 := Lib.hid (HR1.out.below hb2 HR1.out.lt)
        have HA2 := Lib.hid (HA1.out.below hb2 HA1.out.lt)
        have c3 : w2.cell? ⟨wr.heap.size, 3, none⟩ = some (.int .i64 x.n) := HA2.out.cell 3
        clear hb2
        go_wp2_with (refine wpList_store_row rfl 37 (.tmp 4) (.tmp 22) (by rfl) w.heap.size (fltA q x.n) (by rfl) (by rfl) 37 (fltA 0 0) HR2.out (by kernel_rfl) rfl (fltA_all _ _) ?_)
        exact bodyPost_ret (results_cell_one (p := 4) rfl _ _ w.heap.size 37 (fltA q x.n) _ rfl (Blk.row HR2.out _) Tryz.underlying37 rfl (by kernel_rfl)) rfl ⟨by rw [HE.out], below_setRow HB2.out (Nat.le_refl _) _⟩
    · obtain rfl : k = n := by omega
      have HE : Hid (checkV V kind l = (0, 0)) := by
        have := hN.out
        rw [List.take_of_length_le (by omega)] at this
        exact checkV_clean V kind l this
      go_wp2_with (refine wpList_store_row rfl 37 (.tmp 4) (.tmp 24) (by rfl) w.heap.size (fltA 0 0) (by rfl) (by rfl) 37 (fltA 0 0) hR.out (by kernel_rfl) rfl (fltA_all _ _) ?_)
      exact bodyPost_ret (results_cell_one (p := 4) rfl _ _ w.heap.size 37 (fltA 0 0) _ rfl (Blk.row hR.out _) Tryz.underlying37 rfl (by kernel_rfl)) rfl ⟨by rw [HE.out], below_setRow hb.out (Nat.le_refl _) _⟩
end Go.Proofs.YtadifolonbkamaaGreatDoor
namespace Go.Proofs.YtadifolonbkamaaGreatDoor
open Go.RowKit
attribute [local go_sem] Oper.semAt_some
def unitS (s : ByteArray) : Bool := Nm.goodP s && (!Nm.atP s || !(Nm.instP s).toList.isEmpty)
set_option maxHeartbeats 2000000 in
theorem isUnit_any (s : ByteArray) (hs : s.size ≤ maxLen) (w : World) :
    Calls Tryz.prog 53 #[.string s] w fun e w' => e = .returned (.bool (unitS s)) ∧ Below w.heap.size w w' := by
  have HM := fun w => Nm.May_any s hs w
  have HP := fun w => Nm.Parts_any s hs w
  unfold unitS
  rcases hg : Nm.goodP s with _ | _ <;> rcases ha : Nm.atP s with _ | _ <;> rcases he : (Nm.instP s).toList.isEmpty with _ | _
  all_goals rw [hg] at HM
  all_goals rw [ha] at HP
  all_goals
    have H1 := Lib.hid HM
    have H2 := Lib.hid HP
    clear HM HP hg ha
    go_enter Tryz.func53, Tryz.ntmps53
    go_wp2_with fail
    refine (H2.out _).mono ?_
    rintro e w1 ⟨rfl, hb⟩
    go_wp2_with fail
    refine (H1.out _).mono ?_
    rintro e w2 ⟨rfl, hb2⟩
    go_wp2_with fail
    go_ret
    exact ⟨rfl, more hb hb2⟩
end Go.Proofs.YtadifolonbkamaaGreatDoor
namespace Go.Proofs.YtadifolonbkamaaGreatDoor
open Go.RowKit
end Go.Proofs.YtadifolonbkamaaGreatDoor
namespace Go.Proofs.YtadifolonbkamaaGreatDoor
open Go.RowKit
theorem cutA_size (c : UInt8) (s : ByteArray) : (cutA c s).size ≤ s.size := by
  rcases h : cutF c s with _ | _
  · rw [(cutC_no h).2]; exact Nat.le_refl _
  · have := (cutC_yes h).2.2; omega
def noAsg (s : ByteArray) : Bool := !cutF 61 s || !isVarS (cutA 61 s)
set_option maxHeartbeats 2000000 in
theorem noAsg_any (s : ByteArray) (hs : s.size ≤ maxLen) (w : World) :
    Calls Tryz.prog 85 #[.string s] w fun e w' => e = .returned (.bool (noAsg s)) ∧ Below w.heap.size w w' := by
  have hA := cutA_size 61 s
  have HC := Lib.hid fun w => cut_c 61 s hs w
  have HV := Lib.hid fun w => isVariable_any (cutA 61 s) (by omega) w
  unfold noAsg
  rcases hf : cutF 61 s with _ | _
  · rw [hf] at HC
    clear hf
    go_enter Tryz.func85, Tryz.ntmps85
    go_wp2_with (go_at_call 112; refine (HC.out _).mono ?_; rintro e w1 ⟨rfl, nd, rfl⟩)
    go_ret
    exact ⟨rfl, below_drewN (Below.refl _ _) _⟩
  · rw [hf] at HC
    clear hf
    rcases hv : isVarS (cutA 61 s) with _ | _
    all_goals
      rw [hv] at HV
      clear hv
      go_enter Tryz.func85, Tryz.ntmps85
      go_wp2_with (first
        | (go_at_call 112; refine (HC.out _).mono ?_; rintro e w1 ⟨rfl, nd, rfl⟩)
        | (go_at_call 113; refine (HV.out _).mono ?_; rintro e w2 ⟨rfl, hb⟩))
      go_ret
      exact ⟨rfl, more (below_drewN (Below.refl _ _) _) hb⟩
theorem any_takeV {α : Type} {l : List α} {p : α → Bool} {k : Nat} {x : α} (h : (l.take k).any p = false) (hx : l[k]? = some x) : (p x = true → l.any p = true) ∧ (p x = false → (l.take (k + 1)).any p = false) := by
  have hk : k < l.length := by
    rcases Nat.lt_or_ge k l.length with h' | h'
    · exact h'
    · rw [List.getElem?_eq_none h'] at hx; cases hx
  have he : l[k] = x := by rw [List.getElem?_eq_getElem hk] at hx; exact Option.some.inj hx
  constructor
  · intro e
    exact List.any_eq_true.2 ⟨x, by rw [← he]; exact List.getElem_mem hk, e⟩
  · intro e
    rw [List.take_succ_eq_append_getElem hk, he, List.any_append, h]
    simp [e]
def noAsgL (x : List UInt8) : Bool := noAsg (str x)
set_option maxHeartbeats 4000000 in
theorem asgIndex_any (A : Option Addr) (n c B : Nat) (l : List (List UInt8)) (w : World) (h : RowAt w B A n l) (hB : B ≤ w.heap.size) (hs : ∀ x ∈ l, x.length ≤ maxLen) :
    Calls Tryz.prog 111 #[.slice A n c, .func (.func 85) #[] #[]] w fun e w' => ∃ i : Int, e = .returned (.int .i64 i) ∧ decide (0 ≤ i) = l.any noAsgL ∧ Below w.heap.size w w' := by
  have hm := h.2.1
  unfold maxLen at hm
  have hl := h.1
  have HL := Lib.hid h
  have HS := Lib.hid hs
  have HN0 : Hid ((l.take 0).any noAsgL = false) := rfl
  clear h hs
  go_enter Tryz.func111, Tryz.ntmps111
  go_wp2_with fail
  go_loopw [8] (fun i wr => ∃ k : Nat, k ≤ n ∧ i = .int .i64 k ∧ Hid (Below w.heap.size w wr) ∧ Hid ((l.take k).any noAsgL = false)) (fun i wr => n - (intOf i).toNat)
  case atStart => exact ⟨0, Nat.zero_le _, rfl, Below.refl _ _, HN0⟩
  case round =>
    obtain ⟨k, hk, rfl, hb, hN⟩ := hrel
    by_cases hlt : k < n
    · have b0 : (0 : Int) ≤ (k : Int) := by omega
      have b1 : (k : Int) < (n : Int) := by omega
      obtain ⟨ad, x, rfl, hab, hx, q0⟩ := (HL.out.below (hb.out.mono hB)).at_ hlt
      obtain ⟨n1, n2⟩ := any_takeV hN.out hx
      have HC := Lib.hid fun w => noAsg_any (str x) (by rw [str_size]; exact HS.out x (List.mem_of_getElem? hx)) w
      clear hx
      rcases hf : noAsg (str x) with _ | _
      · have HF := Lib.hid (n2 hf)
        rw [hf] at HC
        clear hf n1 n2
        go_wp2_with (go_at_call 85; refine (HC.out _).mono ?_; rintro e w1 ⟨rfl, hb1⟩)
        go_roundw
        case rel => exact ⟨k + 1, by omega, by go_num, more hb.out hb1, HF⟩
        case measure => simp [intOf]; omega
      · have HF := Lib.hid (n1 hf)
        rw [hf] at HC
        clear hf n1 n2
        go_wp2_with (go_at_call 85; refine (HC.out _).mono ?_; rintro e w1 ⟨rfl, hb1⟩)
        go_ret
        exact ⟨_, rfl, by rw [HF.out]; simp, more hb.out hb1⟩
    · obtain rfl : k = n := by omega
      have HF : Hid (l.any noAsgL = false) := by
        have := hN.out
        rwa [List.take_of_length_le (by omega)] at this
      go_wp2_with fail
      go_ret
      exact ⟨_, rfl, by rw [HF.out]; simp, hb.out⟩
theorem asgHas_any (A : Option Addr) (n c B : Nat) (l : List (List UInt8)) (w : World) (h : RowAt w B A n l) (hB : B ≤ w.heap.size) (hs : ∀ x ∈ l, x.length ≤ maxLen) :
    Calls Tryz.prog 84 #[.slice A n c, .func (.func 85) #[] #[]] w fun e w' => e = .returned (.bool (l.any noAsgL)) ∧ Below w.heap.size w w' := by
  have HC := Lib.hid (asgIndex_any A n c B l w h hB hs)
  clear h hs
  go_enter Tryz.func84, Tryz.ntmps84
  go_wp2_with fail
  refine HC.out.mono ?_
  rintro e w1 ⟨i, rfl, hi, hb⟩
  have HI := Lib.hid hi
  clear hi
  go_wp2_with fail
  go_ret
  exact ⟨ret_bool HI.out, hb⟩
end Go.Proofs.YtadifolonbkamaaGreatDoor
