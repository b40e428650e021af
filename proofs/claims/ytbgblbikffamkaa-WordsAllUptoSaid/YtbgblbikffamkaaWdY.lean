/- The walk of the law WordsAll. -/
import Derived.Test.YtbgblbikffamkaaWdE
import Derived.Test.YtbgblbikffamkaaWdG
namespace Go.Proofs.Ytbgblbikffamkaa
open Go.RowKit

set_option maxHeartbeats 8000000 in
theorem WordsAll_any (s : ByteArray) (A : Option Addr) (n c B : Nat) (l : List (List UInt8)) (w : World) (h : RowAt w B A n l) (hB : B ≤ w.heap.size) (hs : s.size ≤ 1048576) (hsz : ∀ x ∈ l, x.length ≤ 1048576) :
    Calls Try.prog 3 #[.string s, .slice A n c] w fun e w' => e = .returned (.bool true) ∧ Below w.heap.size w w' := by
  have hm : s.size ≤ maxLen := by unfold maxLen; omega
  have ht : topS s.data.toList + 1 ≤ 140737488355328 := by have := topS_le s.data.toList; rw [size_list] at this; omega
  have hln := h.1
  have HL0 := Lib.hid h
  have HS := Lib.hid hsz
  have HJS : Hid (n ≤ 32 → (rowW l).length ≤ 135000000) := fun hn => row32 (by omega) hsz
  clear h hsz
  go_enter Try.func3, Try.ntmps3
  go_wp2_with fail
  refine (shown5_any _).mono ?_
  rintro e w1 ⟨rfl, hb1⟩
  have HB1 := Lib.hid hb1
  have HL1 := Lib.hid (HL0.out.below (hb1.mono hB))
  have hB1 : B ≤ w1.heap.size := Nat.le_trans hB hb1.size
  clear hb1 HL0
  go_wp2_with fail
  refine (Split_any _ hm ht _).mono ?_
  rintro e w2 ⟨A2, n2, c2, rfl, hnc2, hn32, hrow2, hb2⟩
  have HR2 := Lib.hid hrow2
  have HB2 := Lib.hid (below_more HB1.out HB1.out.size hb2)
  have HL2 := Lib.hid (HL1.out.below (hb2.mono hB1))
  have hB2 : B ≤ w2.heap.size := Nat.le_trans hB1 hb2.size
  clear hb2 hrow2 HL1 HB1
  go_wp2_with fail
  refine (rSplit_any _ hs _).mono ?_
  rintro e w3 ⟨A3, n3, c3, rfl, hnc3, hn33, hrow3, hb3⟩
  have HR3 := Lib.hid hrow3
  have HB3 := Lib.hid (below_more HB2.out HB2.out.size hb3)
  have HL3 := Lib.hid (HL2.out.below (hb3.mono hB2))
  have hB3 : B ≤ w3.heap.size := Nat.le_trans hB2 hb3.size
  have HR2b : Hid (RowAt w3 w3.heap.size A2 n2 (splitW s.data.toList).1) := (HR2.out.below hb3).wide hb3.size
  clear hb3 hrow3 HL2 HB2
  generalize (splitW s.data.toList).2 = er at *
  go_wp2_with fail
  refine (Same5_any A2 A3 n2 n3 c2 c3 w3.heap.size _ _ _ HR2b.out HR3.out).mono ?_
  rintro e w4 ⟨rfl, j, rfl⟩
  rw [decide_eq_true (rfl : (splitW s.data.toList).1 = _)]
  have HB4 := Lib.hid (below_drewN HB3.out j)
  have HL4 : Hid (RowAt (w3.drewN j) B A n l) := HL3.out
  have hB4 : B ≤ (w3.drewN j).heap.size := hB3
  clear HL3 HB3 HR2b HR3 HR2
  generalize w3.drewN j = w4 at *
  have he : ((er : Int) == (er : Int)) = true := by simp
  go_wp2_with fail
  refine (Join_any A n c B l _ HL4.out hB4 (fun x hx => by have := HS.out x hx; unfold maxLen; omega) (fun hn => by have := HJS.out hn; omega)).mono ?_
  rintro e w5 ⟨rfl, hb5⟩
  have HB5 := Lib.hid (below_more HB4.out HB4.out.size hb5)
  have HL5 := Lib.hid (HL4.out.below (hb5.mono hB4))
  clear hb5
  go_wp2_with fail
  refine (rJoin_any A n c B l _ HL5.out HS.out).mono ?_
  rintro e w6 ⟨rfl, j6, rfl⟩
  have HB6 := Lib.hid (below_drewN HB5.out j6)
  have hq : ((str (joinW l)).toList == (str (joinW l)).toList) = true := by simp
  go_wp2_with fail
  go_ret
  exact ⟨rfl, HB6.out⟩
end Go.Proofs.Ytbgblbikffamkaa
