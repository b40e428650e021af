/- The walks of the developers' named and Find. -/
import Derived.Test.YtfjfhbmbngogpaaKsC
import Derived.Great.BuildSlice
namespace Go.Proofs.Ytfjfhbmbngogpaa
open Go.RowKit

theorem Blk.row {w : World} {g : Nat} {t : TypeId} {cs : Array Value} (h : Blk w g t cs) (cs' : Array Value) : Blk (w.setRow g cs') g t cs' := setRow_heap w g cs cs' t (0, 0) h
theorem heap_row_other (w : World) (F : Nat) (cs : Array Value) (i : Nat) (h : i ≠ F) : (w.setRow F cs).heap[i]? = w.heap[i]? := by
  unfold World.setRow
  simp only [Array.getElem?_modify]
  rw [if_neg (Ne.symm h)]
theorem size_row (w : World) (F : Nat) (cs : Array Value) : (w.setRow F cs).heap.size = w.heap.size := by simp [World.setRow]
theorem below_setRow {B : Nat} {a w : World} (h : Below B a w) {g : Nat} (hg : B ≤ g) (cs : Array Value) : Below B a (w.setRow g cs) :=
  ⟨h.os, h.tape, h.output, by rw [size_row]; exact h.size, fun i hi => by rw [heap_row_other w g cs i (by omega)]; exact h.block i hi⟩
theorem Blk.setRowOther {w : World} {g j : Nat} {t : TypeId} {cs : Array Value} (h : Blk w g t cs) (hne : g ≠ j) (xs : Array Value) : Blk (w.setRow j xs) g t cs := (heap_row_other w j xs g hne).trans h
theorem results_cell_tmp {P : Program} {fn : Func} {p q : Tmp} {ty : TypeId} (h : fn.results = #[.cell p ty, .tmp q]) (tmps : Array Value) (w : World) (g : Nat) (t : TypeId) (cs : Array Value) (d : TypeDesc) (v : Value)
    (hp : tmps.getD p undef = .pointer (some ⟨g, 0, none⟩)) (hv : tmps.getD q undef = v) (hg : w.heap[g]? = some (.cells cs t (0, 0)))
    (hu : P.underlying ty = some d) (hd : (match d with | .struct _ | .array _ _ => true | _ => false) = true) (hi : (P.info? ty).map (·.size) = some cs.size) :
    (results fn tmps).run P w = .ok (.tuple #[.agg cs, v]) w := by
  have hp' : tmps[p]?.getD undef = .pointer (some ⟨g, 0, none⟩) := by simpa using hp
  have hv' : tmps[q]?.getD undef = v := by simpa using hv
  simp [results, h, hp', hv', asAddr, run_loadVar_row w g t ty cs (0, 0) d hg hu hd hi]
/-- The cells of a key. -/
def krA (r : Kr) : Array Value := #[.string (str r.s), .string (str r.n), .int .i64 r.f, .bool r.l, .int .i64 r.k, .slice r.A r.m r.c]
theorem krA_all (r : Kr) : (krA r).all (·.oneCell') = true := by simp [krA, Value.oneCell']
def noKr : Kr := noKy.raw
theorem noKr_is {w : World} {B : Nat} : noKr.is w B noKy := ⟨rfl, rfl, rfl, rfl, rfl, RowS.none_⟩
/-- What named gives. -/
def NamedP (o : Option Ky) (w : World) (e : Ending) (w' : World) : Prop :=
  ∃ r : Kr, e = .returned (.tuple #[.agg (krA r), .bool o.isSome]) ∧ r.is w' w'.heap.size (o.getD noKy) ∧ Below w.heap.size w w'
theorem named_take {l : List Ky} {n : List UInt8} {k : Nat} {x : Ky} (h : namedT (l.take k) n = none) (hx : l[k]? = some x) : (x.n = n → namedT l n = some x) ∧ (¬ x.n = n → namedT (l.take (k + 1)) n = none) := by
  have hk : k < l.length := by
    rcases Nat.lt_or_ge k l.length with h' | h'
    · exact h'
    · rw [List.getElem?_eq_none h'] at hx; cases hx
  have he : l[k] = x := by rw [List.getElem?_eq_getElem hk] at hx; exact Option.some.inj hx
  unfold namedT at *
  constructor
  · intro e
    conv => lhs; rw [← List.take_append_drop k l]
    rw [List.find?_append, h, List.drop_eq_getElem_cons hk, he, List.find?_cons]
    simp [e]
  · intro e
    rw [List.take_succ_eq_append_getElem hk, he, List.find?_append, h]
    simp [e]
set_option maxHeartbeats 8000000 in
theorem named_any (A : Option Addr) (n c B : Nat) (l : List Ky) (nm : ByteArray) (w : World) (h : KysAt w B A n l) (hB : B ≤ w.heap.size) :
    Calls Try.prog 19 #[.slice A n c, .string nm] w (NamedP (namedT l nm.data.toList) w) := by
  have hm := h.2.1
  unfold maxLen at hm
  have hl := h.1
  have HL := Lib.hid h
  clear h
  have HR0 : Hid (Blk (w.alloc (.cells #[.string ⟨#[]⟩, .string ⟨#[]⟩, .int .i64 0, .bool false, .int .i64 0, .slice none 0 0] 33)) w.heap.size 33 (krA noKr)) := Blk.new w _ _
  have HB0 : Hid (Below w.heap.size w (w.alloc (.cells #[.string ⟨#[]⟩, .string ⟨#[]⟩, .int .i64 0, .bool false, .int .i64 0, .slice none 0 0] 33))) := (Below.refl _ w).alloc (Nat.le_refl _) _
  have HN0 : Hid (namedT (l.take 0) nm.data.toList = none) := rfl
  go_enter Try.func19, Try.ntmps19
  go_wp2_with fail
  generalize w.alloc (.cells #[.string ⟨#[]⟩, .string ⟨#[]⟩, .int .i64 0, .bool false, .int .i64 0, .slice none 0 0] 33) = w0 at *
  go_loopw [10] (fun i wr => ∃ k : Nat, k ≤ n ∧ i = .int .i64 k ∧ Hid (Below w.heap.size w wr) ∧ Hid (Blk wr w.heap.size 33 (krA noKr)) ∧ Hid (namedT (l.take k) nm.data.toList = none)) (fun i wr => n - (intOf i).toNat)
  case atStart => exact ⟨0, Nat.zero_le _, rfl, HB0, HR0, HN0⟩
  case round =>
    obtain ⟨k, hk, rfl, hb, hR, hN⟩ := hrel
    have hRl : w.heap.size < wr.heap.size := hR.out.lt
    by_cases hlt : k < n
    · have b0 : (0 : Int) ≤ (k : Int) := by omega
      have b1 : (k : Int) < (n : Int) := by omega
      obtain ⟨ad, r, x, rfl, hab, hx, hr, q0, q1, q2, q3, q4, q5⟩ := (HL.out.below (hb.out.mono hB)).at_ hlt
      have z1 : (ad.add (k * 6)).block < wr.heap.size := by rw [block_addR]; omega
      have HX := Lib.hid hr
      obtain ⟨n1, n2⟩ := named_take hN.out hx
      have hq : ((str r.n).toList == nm.toList) = decide (x.n = nm.data.toList) := by
        rw [Lib.toList_data, Lib.toList_data, str_list, hr.2.1, Bool.eq_iff_iff, decide_eq_true_eq, beq_iff_eq]
      clear hr
      by_cases hxn : x.n = nm.data.toList
      · have HF := Lib.hid (n1 hxn)
        rw [decide_eq_true hxn] at hq
        clear hxn n1 n2 hx
        have HR1 : Hid (Blk (wr.alloc (.cells #[.string (str r.s), .string (str r.n), .int .i64 r.f, .bool r.l, .int .i64 r.k, .slice r.A r.m r.c] 33)) w.heap.size 33 (krA noKr)) := hR.out.alloc _
        have HB1 : Hid (Below w.heap.size w (wr.alloc (.cells #[.string (str r.s), .string (str r.n), .int .i64 r.f, .bool r.l, .int .i64 r.k, .slice r.A r.m r.c] 33))) := hb.out.alloc hb.out.size _
        have HX1 : Hid (r.is (wr.alloc (.cells #[.string (str r.s), .string (str r.n), .int .i64 r.f, .bool r.l, .int .i64 r.k, .slice r.A r.m r.c] 33)) B x) := HX.out.below (((Below.refl wr.heap.size wr).alloc (Nat.le_refl _) _).mono (by omega))
        go_wp2_with (refine wpList_store_row rfl 33 (.tmp 4) (.tmp 18) (by rfl) w.heap.size (krA r) (by rfl) (by rfl) 33 (krA noKr) HR1.out (by kernel_rfl) rfl (krA_all _) ?_)
        refine bodyPost_ret (results_cell_tmp (p := 4) (q := 5) rfl _ _ w.heap.size 33 (krA r) _ _ rfl rfl (Blk.row HR1.out _) Try.underlying33 rfl (by kernel_rfl)) rfl ⟨r, by rw [HF.out]; rfl, ?_, below_setRow HB1.out (Nat.le_refl _) _⟩
        rw [HF.out]
        refine (HX1.out.below (w' := (wr.alloc (.cells #[.string (str r.s), .string (str r.n), .int .i64 r.f, .bool r.l, .int .i64 r.k, .slice r.A r.m r.c] 33)).setRow w.heap.size (krA r)) (below_setRow (Below.refl _ _) hB _)).wide (by rw [size_row]; simp; omega)
      · have HF := Lib.hid (n2 hxn)
        rw [decide_eq_false hxn] at hq
        clear hxn n1 n2 hx HX
        go_wp2_with fail
        go_roundw
        case rel => exact ⟨k + 1, by omega, by go_num, hb.out.alloc hb.out.size _, hR.out.alloc _, HF⟩
        case measure => simp [intOf]; omega
    · obtain rfl : k = n := by omega
      have HF : Hid (namedT l nm.data.toList = none) := by
        have := hN.out
        rwa [List.take_of_length_le (by omega)] at this
      go_wp2_with (refine wpList_store_row rfl 33 (.tmp 4) (.tmp 20) (by rfl) w.heap.size (krA noKr) (by rfl) (by rfl) 33 (krA noKr) hR.out (by kernel_rfl) rfl (krA_all _) ?_)
      exact bodyPost_ret (results_cell_tmp (p := 4) (q := 5) rfl _ _ w.heap.size 33 (krA noKr) _ _ rfl rfl (Blk.row hR.out _) Try.underlying33 rfl (by kernel_rfl)) rfl ⟨noKr, by rw [HF.out]; rfl, by rw [HF.out]; exact noKr_is, below_setRow hb.out (Nat.le_refl _) _⟩
end Go.Proofs.Ytfjfhbmbngogpaa
