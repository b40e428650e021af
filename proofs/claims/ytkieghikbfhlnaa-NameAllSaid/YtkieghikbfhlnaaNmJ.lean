/- The walk of the law's own shown. -/
import Derived.Test.YtkieghikbfhlnaaNmI
namespace Go.Proofs.Ytkieghikbfhlnaa
open Go.RowKit

theorem more {a w w2 : World} (h : Below a.heap.size a w) (h2 : Below w.heap.size w w2) : Below a.heap.size a w2 := h.trans (h2.mono h.size)

set_option maxHeartbeats 2000000 in
theorem shown_any (w : World) :
    Calls Try.prog 9 #[] w fun e w' => e = .returned (.bool true) ∧ Below w.heap.size w w' := by
  go_enter Try.func9, Try.ntmps9
  go_wp2_with fail
  refine (Parts_any _ (by decide) _).mono ?_
  rintro e w1 ⟨rfl, hb1⟩
  rw [show preP (⟨#[97, 45, 98, 64, 120, 46, 121, 46, 115, 111, 99, 107, 101, 116]⟩ : ByteArray) = ⟨#[97, 45, 98]⟩ by kernel_rfl,
    show instP (⟨#[97, 45, 98, 64, 120, 46, 121, 46, 115, 111, 99, 107, 101, 116]⟩ : ByteArray) = ⟨#[120, 46, 121]⟩ by kernel_rfl,
    show atP (⟨#[97, 45, 98, 64, 120, 46, 121, 46, 115, 111, 99, 107, 101, 116]⟩ : ByteArray) = true by kernel_rfl]
  go_wp2_with fail
  refine (Instance_any _ _ (by decide) (by decide) _).mono ?_
  rintro e w2 ⟨rfl, hb2⟩
  rw [show insS (⟨#[102, 64, 46, 116, 105, 109, 101, 114]⟩ : ByteArray) (⟨#[49]⟩ : ByteArray) = ⟨#[102, 64, 49, 46, 116, 105, 109, 101, 114]⟩ by kernel_rfl,
    show insOk (⟨#[102, 64, 46, 116, 105, 109, 101, 114]⟩ : ByteArray) (⟨#[49]⟩ : ByteArray) = true by kernel_rfl]
  go_wp2_with fail
  refine (Unescape_any _ (by decide) _).mono ?_
  rintro e w3 ⟨rfl, hb3⟩
  rw [show unescS (⟨#[97, 45, 98, 92, 120, 50, 100]⟩ : ByteArray) = ⟨#[97, 47, 98, 45]⟩ by kernel_rfl,
    show unescOk (⟨#[97, 45, 98, 92, 120, 50, 100]⟩ : ByteArray) = true by kernel_rfl]
  go_wp2_with fail
  refine (May_any _ (by decide) _).mono ?_
  rintro e w4 ⟨rfl, hb4⟩
  rw [show goodP (⟨#[97, 46, 115, 101, 114, 118, 105, 99, 101]⟩ : ByteArray) = true by kernel_rfl]
  go_wp2_with fail
  refine (May_any _ (by decide) _).mono ?_
  rintro e w5 ⟨rfl, hb5⟩
  rw [show goodP (⟨#[97, 46, 98]⟩ : ByteArray) = false by kernel_rfl]
  go_wp2_with fail
  refine (Kind_any _ (by decide) _).mono ?_
  rintro e w6 ⟨rfl, hb6⟩
  rw [show kindP (⟨#[120, 46, 116, 97, 114, 103, 101, 116]⟩ : ByteArray) = 4 by kernel_rfl]
  go_wp2_with fail
  refine (Template_any _ (by decide) _).mono ?_
  rintro e w7 ⟨rfl, hb7⟩
  rw [show tmplS (⟨#[102, 64, 49, 46, 116, 105, 109, 101, 114]⟩ : ByteArray) = ⟨#[102, 64, 46, 116, 105, 109, 101, 114]⟩ by kernel_rfl]
  go_wp2_with fail
  refine (Change_any _ _ (by decide) _).mono ?_
  rintro e w8 ⟨rfl, hb8⟩
  rw [show chgS (⟨#[97, 46, 115, 111, 99, 107, 101, 116]⟩ : ByteArray) 1 = ⟨#[97, 46, 115, 101, 114, 118, 105, 99, 101]⟩ by kernel_rfl]
  go_wp2_with fail
  refine (Escape_any _ (by decide) _).mono ?_
  rintro e w9 ⟨rfl, hb9⟩
  rw [show escS (⟨#[47, 97, 46, 98, 45]⟩ : ByteArray) = ⟨#[45, 97, 46, 98, 92, 120, 50, 100]⟩ by kernel_rfl]
  go_wp2_with fail
  go_ret
  exact ⟨rfl, more (more (more (more (more (more (more (more hb1 hb2) hb3) hb4) hb5) hb6) hb7) hb8) hb9⟩
end Go.Proofs.Ytkieghikbfhlnaa
