/- The walks of the developers' Find, isFor, checkLine's predicate, slices.IndexFunc and ContainsFunc at it. -/
import Derived.Test.YtfjfhbmbngogpaaKsD
import Derived.BigQuiet
namespace Go.Proofs.Ytfjfhbmbngogpaa
open Go.RowKit

set_option maxHeartbeats 4000000 in
theorem Find_any (s nm : ByteArray) (w : World) :
    Calls Try.prog 12 #[.string s, .string nm] w (NamedP (findT s.data.toList nm.data.toList) w) := by
  have HR0 : Hid (Blk (w.alloc (.cells #[.string ⟨#[]⟩, .string ⟨#[]⟩, .int .i64 0, .bool false, .int .i64 0, .slice none 0 0] 33)) w.heap.size 33 (krA noKr)) := Blk.new w _ _
  have HB0 : Hid (Below w.heap.size w (w.alloc (.cells #[.string ⟨#[]⟩, .string ⟨#[]⟩, .int .i64 0, .bool false, .int .i64 0, .slice none 0 0] 33))) := (Below.refl _ w).alloc (Nat.le_refl _) _
  go_enter Try.func12, Try.ntmps12
  go_wp2_with fail
  generalize w.alloc (.cells #[.string ⟨#[]⟩, .string ⟨#[]⟩, .int .i64 0, .bool false, .int .i64 0, .slice none 0 0] 33) = w0 at *
  refine (keysOf_any s _).mono ?_
  rintro e1 w1 ⟨A, c, rfl, hk, hb1⟩
  have HR1 := Lib.hid (HR0.out.below hb1 HR0.out.lt)
  have HB1 := Lib.hid (more3 HB0.out HB0.out.size hb1)
  clear hb1
  go_wp2_with fail
  refine (named_any A _ c _ _ nm _ hk (Nat.le_refl _)).mono ?_
  rintro e2 w2 ⟨r, rfl, hr, hb2⟩
  have HR2 := Lib.hid (HR1.out.below hb2 HR1.out.lt)
  have HB2 := Lib.hid (more3 HB1.out HB1.out.size hb2)
  have HX := Lib.hid hr
  clear hb2 hr hk
  go_wp2_with (refine wpList_store_row rfl 33 (.tmp 4) (.tmp 10) (by rfl) w.heap.size (krA r) (by rfl) (by rfl) 33 (krA noKr) HR2.out (by kernel_rfl) rfl (krA_all _) ?_)
  refine bodyPost_ret (results_cell_tmp (p := 4) (q := 5) rfl _ _ w.heap.size 33 (krA r) _ _ rfl rfl (Blk.row HR2.out _) Try.underlying33 rfl (by kernel_rfl)) rfl ⟨r, rfl, by rw [size_row]; exact HX.out.keep HR2.out (by decide) (heap_row_other _ _ _), below_setRow HB2.out (Nat.le_refl _) _⟩

set_option maxRecDepth 100000 in
theorem bits_for : ∀ k ∈ ([2, 4, 8, 30] : List Int), ∀ m, m < 65 → (bits .and .i64 k (wrap64 (2 ^ m)) != 0) = k.toNat.testBit m := by decide +kernel
theorem any_take {α : Type} {l : List α} {p : α → Bool} {k : Nat} {x : α} (h : (l.take k).any p = false) (hx : l[k]? = some x) : (p x = true → l.any p = true) ∧ (p x = false → (l.take (k + 1)).any p = false) := by
  have hk : k < l.length := by
    rcases Nat.lt_or_ge k l.length with h' | h'
    · exact h'
    · rw [List.getElem?_eq_none h'] at hx; cases hx
  have he : l[k] = x := by rw [List.getElem?_eq_getElem hk] at hx; exact Option.some.inj hx
  constructor
  · intro e
    exact List.any_eq_true.2 ⟨x, by rw [← he]; exact List.getElem_mem hk, e⟩
  · intro e
    rw [List.take_succ_eq_append_getElem hk, he, List.any_append, h]
    simp [e]
end Go.Proofs.Ytfjfhbmbngogpaa
