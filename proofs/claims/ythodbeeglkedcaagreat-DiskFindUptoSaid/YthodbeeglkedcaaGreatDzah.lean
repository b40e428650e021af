/- The walks of the document's at, places, first, add. The walk of the document's first. -/
import Derived.Test.YthodbeeglkedcaaGreatDzag
import Derived.BigQuiet
namespace Go.Proofs.YthodbeeglkedcaaGreat
open Go.RowKit
theorem Blk.row {w : World} {g : Nat} {t : TypeId} {cs : Array Value} (h : Blk w g t cs) (cs' : Array Value) : Blk (w.setRow g cs') g t cs' := setRow_heap w g cs cs' t (0, 0) h
theorem heap_row_other (w : World) (F : Nat) (cs : Array Value) (i : Nat) (h : i ≠ F) : (w.setRow F cs).heap[i]? = w.heap[i]? := by
  unfold World.setRow
  simp only [Array.getElem?_modify]
  rw [if_neg (Ne.symm h)]
theorem size_row (w : World) (F : Nat) (cs : Array Value) : (w.setRow F cs).heap.size = w.heap.size := by simp [World.setRow]
theorem below_setRow {B : Nat} {a w : World} (h : Below B a w) {g : Nat} (hg : B ≤ g) (cs : Array Value) : Below B a (w.setRow g cs) :=
  ⟨h.os, h.tape, h.output, by rw [size_row]; exact h.size, fun i hi => by rw [heap_row_other w g cs i (by omega)]; exact h.block i hi⟩
theorem Blk.setRowOther {w : World} {g j : Nat} {t : TypeId} {cs : Array Value} (h : Blk w g t cs) (hne : g ≠ j) (xs : Array Value) : Blk (w.setRow j xs) g t cs := (heap_row_other w j xs g hne).trans h
theorem results_cell_tmp {P : Program} {fn : Func} {p q : Tmp} {ty : TypeId} (h : fn.results = #[.cell p ty, .tmp q]) (tmps : Array Value) (w : World) (g : Nat) (t : TypeId) (cs : Array Value) (d : TypeDesc) (v : Value)
    (hp : tmps.getD p undef = .pointer (some ⟨g, 0, none⟩)) (hv : tmps.getD q undef = v) (hg : w.heap[g]? = some (.cells cs t (0, 0)))
    (hu : P.underlying ty = some d) (hd : (match d with | .struct _ | .array _ _ => true | _ => false) = true) (hi : (P.info? ty).map (·.size) = some cs.size) :
    (results fn tmps).run P w = .ok (.tuple #[.agg cs, v]) w := by
  have hp' : tmps[p]?.getD undef = .pointer (some ⟨g, 0, none⟩) := by simpa using hp
  have hv' : tmps[q]?.getD undef = v := by simpa using hv
  simp [results, h, hp', hv', asAddr, run_loadVar_row w g t ty cs (0, 0) d hg hu hd hi]
def fiA (x : Fi) : Array Value := #[.string (str x.p), .string (str x.t), .string (str x.l)]
theorem fiA_all (x : Fi) : (fiA x).all (·.oneCell') = true := by simp [fiA, Value.oneCell']
def noFi : Fi := ⟨[], [], []⟩
def atV (o : Option Fi) : Value := .tuple #[.agg (fiA (o.getD noFi)), .bool o.isSome]
theorem at_take {l : List Fi} {v : List UInt8} {k : Nat} {x : Fi} (h : atL (l.take k) v = none) (hx : l[k]? = some x) : (x.p = v → atL l v = some x) ∧ (¬ x.p = v → atL (l.take (k + 1)) v = none) := by
  have hk : k < l.length := by
    rcases Nat.lt_or_ge k l.length with h' | h'
    · exact h'
    · rw [List.getElem?_eq_none h'] at hx; cases hx
  have he : l[k] = x := by rw [List.getElem?_eq_getElem hk] at hx; exact Option.some.inj hx
  unfold atL at *
  constructor
  · intro e
    conv => lhs; rw [← List.take_append_drop k l]
    rw [List.find?_append, h, List.drop_eq_getElem_cons hk, he, List.find?_cons]
    simp [e]
  · intro e
    rw [List.take_succ_eq_append_getElem hk, he, List.find?_append, h]
    simp [e]
set_option maxHeartbeats 8000000 in
theorem at_any (A : Option Addr) (n c B : Nat) (l : List Fi) (v : ByteArray) (w : World) (h : FisAt w B A n l) (hB : B ≤ w.heap.size) :
    Calls Tryz.prog 40 #[.slice A n c, .string v] w fun e w' => e = .returned (atV (atL l v.data.toList)) ∧ Below w.heap.size w w' := by
  have hm := h.2.1
  unfold maxLen at hm
  have hl := h.1
  have HL := Lib.hid h
  clear h
  have HR0 : Hid (Blk (w.alloc (.cells #[.string ⟨#[]⟩, .string ⟨#[]⟩, .string ⟨#[]⟩] 34)) w.heap.size 34 (fiA noFi)) := Blk.new w _ _
  have HB0 : Hid (Below w.heap.size w (w.alloc (.cells #[.string ⟨#[]⟩, .string ⟨#[]⟩, .string ⟨#[]⟩] 34))) := (Below.refl _ w).alloc (Nat.le_refl _) _
  have HN0 : Hid (atL (l.take 0) v.data.toList = none) := rfl
  go_enter Tryz.func40, Tryz.ntmps40
  go_wp2_with fail
  generalize w.alloc (.cells #[.string ⟨#[]⟩, .string ⟨#[]⟩, .string ⟨#[]⟩] 34) = w0 at *
  go_loopw [10] (fun i wr => ∃ k : Nat, k ≤ n ∧ i = .int .i64 k ∧ Hid (Below w.heap.size w wr) ∧ Hid (Blk wr w.heap.size 34 (fiA noFi)) ∧ Hid (atL (l.take k) v.data.toList = none)) (fun i wr => n - (intOf i).toNat)
  case atStart => exact ⟨0, Nat.zero_le _, rfl, HB0, HR0, HN0⟩
  case round =>
    obtain ⟨k, hk, rfl, hb, hR, hN⟩ := hrel
    have hRl : w.heap.size < wr.heap.size := hR.out.lt
    by_cases hlt : k < n
    · have b0 : (0 : Int) ≤ (k : Int) := by omega
      have b1 : (k : Int) < (n : Int) := by omega
      obtain ⟨ad, x, rfl, hab, hx, q0, q1, q2⟩ := (HL.out.below (hb.out.mono hB)).at_ hlt
      have z1 : (ad.add (k * 3)).block < wr.heap.size := by rw [block_addR]; omega
      obtain ⟨n1, n2⟩ := at_take hN.out hx
      have hq : ((str x.p).toList == v.toList) = decide (x.p = v.data.toList) := by
        rw [Lib.toList_data, Lib.toList_data, str_list, Bool.eq_iff_iff, decide_eq_true_eq, beq_iff_eq]
      by_cases hxn : x.p = v.data.toList
      · have HF := Lib.hid (n1 hxn)
        rw [decide_eq_true hxn] at hq
        clear hxn n1 n2 hx
        have HR1 : Hid (Blk (wr.alloc (.cells #[.string (str x.p), .string (str x.t), .string (str x.l)] 34)) w.heap.size 34 (fiA noFi)) := hR.out.alloc _
        have HB1 : Hid (Below w.heap.size w (wr.alloc (.cells #[.string (str x.p), .string (str x.t), .string (str x.l)] 34))) := hb.out.alloc hb.out.size _
        go_wp2_with (refine wpList_store_row rfl 34 (.tmp 4) (.tmp 18) (by rfl) w.heap.size (fiA x) (by rfl) (by rfl) 34 (fiA noFi) HR1.out (by kernel_rfl) rfl (fiA_all _) ?_)
        refine bodyPost_ret (results_cell_tmp (p := 4) (q := 5) rfl _ _ w.heap.size 34 (fiA x) _ _ rfl rfl (Blk.row HR1.out _) Tryz.underlying34 rfl (by kernel_rfl)) rfl ⟨by rw [HF.out]; rfl, below_setRow HB1.out (Nat.le_refl _) _⟩
      · have HF := Lib.hid (n2 hxn)
        rw [decide_eq_false hxn] at hq
        clear hxn n1 n2 hx
        go_wp2_with fail
        go_roundw
        case rel => exact ⟨k + 1, by omega, by go_num, hb.out.alloc hb.out.size _, hR.out.alloc _, HF⟩
        case measure => simp [intOf]; omega
    · obtain rfl : k = n := by omega
      have HF : Hid (atL l v.data.toList = none) := by
        have := hN.out
        rwa [List.take_of_length_le (by omega)] at this
      go_wp2_with (refine wpList_store_row rfl 34 (.tmp 4) (.tmp 20) (by rfl) w.heap.size (fiA noFi) (by rfl) (by rfl) 34 (fiA noFi) hR.out (by kernel_rfl) rfl (fiA_all _) ?_)
      exact bodyPost_ret (results_cell_tmp (p := 4) (q := 5) rfl _ _ w.heap.size 34 (fiA noFi) _ _ rfl rfl (Blk.row hR.out _) Tryz.underlying34 rfl (by kernel_rfl)) rfl ⟨by rw [HF.out]; rfl, below_setRow hb.out (Nat.le_refl _) _⟩
theorem rowAt_new (w : World) (t : TypeId) (l : List (List UInt8)) (hl : l.length ≤ maxLen) : RowAt (w.alloc (.cells (wcells l).toArray t)) (w.alloc (.cells (wcells l).toArray t)).heap.size (some ⟨w.heap.size, 0, none⟩) l.length l :=
  ⟨rfl, hl, fun _ => ⟨_, rfl, by simp, fun j x hj => by
    rw [add_cellO, (Blk.new w t (wcells l).toArray).cell j]
    simp [wcells, hj]⟩⟩
theorem places_any (w : World) :
    Calls Tryz.prog 39 #[] w fun e w' => ∃ A c, e = .returned (.slice A 3 c) ∧ RowAt w' w'.heap.size A 3 plc ∧ Below w.heap.size w w' := by
  go_enter Tryz.func39, Tryz.ntmps39
  go_wp2_with fail
  go_ret
  exact ⟨_, _, rfl, rowAt_new w _ plc (by decide), (Below.refl _ w).alloc (Nat.le_refl _) _⟩
end Go.Proofs.YthodbeeglkedcaaGreat
namespace Go.Proofs.YthodbeeglkedcaaGreat
open Go.RowKit
theorem own_list (a : List UInt8) (u : ByteArray) : (str a ++ (⟨#[47]⟩ : ByteArray) ++ u).data.toList = a ++ 47 :: u.data.toList := by
  rw [app_list, app_list, str_list, List.append_assoc]
  rfl
def firstTo (l : List Fi) (u : List UInt8) (k : Nat) : Option Fi := (plc.take k).findSome? (fun a => atL l (a ++ 47 :: u))
theorem first_take {l : List Fi} {u : List UInt8} {k : Nat} {a : List UInt8} (h : firstTo l u k = none) (ha : plc[k]? = some a) : firstTo l u (k + 1) = atL l (a ++ 47 :: u) ∧ (∀ x, atL l (a ++ 47 :: u) = some x → firstL l u = some x) := by
  have hk : k < plc.length := by
    rcases Nat.lt_or_ge k plc.length with h' | h'
    · exact h'
    · rw [List.getElem?_eq_none h'] at ha; cases ha
  have he : plc[k] = a := by rw [List.getElem?_eq_getElem hk] at ha; exact Option.some.inj ha
  unfold firstTo firstL at *
  constructor
  · rw [List.take_succ_eq_append_getElem hk, he, List.findSome?_append, h]
    simp
  · intro x hx
    conv => lhs; rw [← List.take_append_drop k plc]
    rw [List.findSome?_append, h, List.drop_eq_getElem_cons hk, he]
    simp [hx]
theorem plc_len {a : List UInt8} {k : Nat} (h : plc[k]? = some a) : a.length = 3 := by
  have := List.mem_of_getElem? h
  simp [plc] at this
  rcases this with rfl | rfl | rfl <;> rfl
theorem atV_none : atV none = .tuple #[.agg #[.string ⟨#[]⟩, .string ⟨#[]⟩, .string ⟨#[]⟩], .bool false] := rfl
theorem atV_some (x : Fi) : atV (some x) = .tuple #[.agg #[.string (str x.p), .string (str x.t), .string (str x.l)], .bool true] := rfl
set_option maxHeartbeats 8000000 in
theorem first_any (A : Option Addr) (n c B : Nat) (l : List Fi) (u : ByteArray) (hu : u.size ≤ 140737488351232) (w : World) (h : FisAt w B A n l) (hB : B ≤ w.heap.size) :
    Calls Tryz.prog 19 #[.slice A n c, .string u] w fun e w' => e = .returned (atV (firstL l u.data.toList)) ∧ Below w.heap.size w w' := by
  have HL := Lib.hid h
  clear h
  have HR0 : Hid (Blk (w.alloc (.cells #[.string ⟨#[]⟩, .string ⟨#[]⟩, .string ⟨#[]⟩] 34)) w.heap.size 34 (fiA noFi)) := Blk.new w _ _
  have HB0 : Hid (Below w.heap.size w (w.alloc (.cells #[.string ⟨#[]⟩, .string ⟨#[]⟩, .string ⟨#[]⟩] 34))) := (Below.refl _ w).alloc (Nat.le_refl _) _
  have HN0 : Hid (firstTo l u.data.toList 0 = none) := rfl
  go_enter Tryz.func19, Tryz.ntmps19
  go_wp2_with fail
  generalize w.alloc (.cells #[.string ⟨#[]⟩, .string ⟨#[]⟩, .string ⟨#[]⟩] 34) = w0 at *
  refine (places_any _).mono ?_
  rintro e1 w1 ⟨PA, pc, rfl, hp, hb1⟩
  have HR1 := Lib.hid (HR0.out.below hb1 HR0.out.lt)
  have HB1 := Lib.hid (more3 HB0.out HB0.out.size hb1)
  have HP := Lib.hid hp
  clear hb1 hp
  go_wp2_with fail
  go_loopw [12] (fun i wr => ∃ k : Nat, k ≤ 3 ∧ i = .int .i64 k ∧ Hid (Below w1.heap.size w1 wr) ∧ Hid (firstTo l u.data.toList k = none)) (fun i wr => 3 - (intOf i).toNat)
  case atStart => exact ⟨0, by omega, rfl, Below.refl _ _, HN0⟩
  case round =>
    obtain ⟨k, hk, rfl, hb, hN⟩ := hrel
    have hb' : Hid (Below w.heap.size w wr) := more3 HB1.out HB1.out.size hb.out
    have hR : Hid (Blk wr w.heap.size 34 (fiA noFi)) := HR1.out.below hb.out HR1.out.lt
    have hRl : w.heap.size < wr.heap.size := hR.out.lt
    by_cases hlt : k < 3
    · have b0 : (0 : Int) ≤ (k : Int) := by omega
      have b1 : (k : Int) < 3 := by omega
      obtain ⟨ad, a, rfl, hab, ha, q0⟩ := (HP.out.below hb.out).at_ hlt
      have hal := plc_len ha
      have hsz : (str a).size = 3 := hal
      obtain ⟨n1, n2⟩ := first_take hN.out ha
      have HA := Lib.hid (at_any A n c B l (str a ++ (⟨#[47]⟩ : ByteArray) ++ u) wr (HL.out.below (hb'.out.mono hB)) (Nat.le_trans hB hb'.out.size))
      rw [own_list] at HA
      have HN1 := Lib.hid n1
      have HN2 := Lib.hid n2
      have hs1 : (str a).size + 1 ≤ 9223372036854775807 := by omega
      have hs2 : (str a).size + 1 + u.size ≤ 9223372036854775807 := by omega
      clear n1 n2 ha
      rcases hf : atL l (a ++ 47 :: u.data.toList) with _ | x
      · rw [hf, atV_none] at HA
        have HN3 : Hid (firstTo l u.data.toList (k + 1) = none) := by show _ = _; rw [HN1.out, hf]
        clear HN1 HN2 hf
        go_wp2_with (go_at_call 40; refine HA.out.mono ?_; rintro e2 w2 ⟨rfl, hb2⟩)
        go_roundw
        case rel => exact ⟨k + 1, by omega, by go_num, (more3 hb.out hb.out.size hb2).alloc (by have := hb.out.size; have := hb2.size; omega) _, HN3⟩
        case measure => simp [intOf]; omega
      · rw [hf, atV_some] at HA
        have HF := Lib.hid (HN2.out x hf)
        clear HN1 HN2 hf
        go_wp2_with (first | (go_at_call 40; refine HA.out.mono ?_; rintro e2 w2 ⟨rfl, hb2⟩; have HR2 := Lib.hid (hR.out.below hb2 hRl); have HB2 := Lib.hid (more3 hb'.out hb'.out.size hb2)) | (refine wpList_store_row rfl 34 (.tmp 4) (.tmp 26) (by rfl) w.heap.size (fiA x) (by rfl) (by rfl) 34 (fiA noFi) (HR2.out.alloc _) (by kernel_rfl) rfl (fiA_all _) ?_))
        exact bodyPost_ret (results_cell_tmp (p := 4) (q := 5) rfl _ _ w.heap.size 34 (fiA x) _ _ rfl rfl (Blk.row (HR2.out.alloc _) _) Tryz.underlying34 rfl (by kernel_rfl)) rfl ⟨by rw [HF.out]; rfl, below_setRow (HB2.out.alloc HB2.out.size _) (Nat.le_refl _) _⟩
    · obtain rfl : k = 3 := by omega
      have HF : Hid (firstL l u.data.toList = none) := hN.out
      go_wp2_with (refine wpList_store_row rfl 34 (.tmp 4) (.tmp 28) (by rfl) w.heap.size (fiA noFi) (by rfl) (by rfl) 34 (fiA noFi) hR.out (by kernel_rfl) rfl (fiA_all _) ?_)
      exact bodyPost_ret (results_cell_tmp (p := 4) (q := 5) rfl _ _ w.heap.size 34 (fiA noFi) _ _ rfl rfl (Blk.row hR.out _) Tryz.underlying34 rfl (by kernel_rfl)) rfl ⟨by rw [HF.out]; rfl, below_setRow hb'.out (Nat.le_refl _) _⟩
end Go.Proofs.YthodbeeglkedcaaGreat
