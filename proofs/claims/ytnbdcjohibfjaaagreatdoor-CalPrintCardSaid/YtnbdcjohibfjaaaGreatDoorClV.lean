/- The walks of the developers' mayDays, lists. -/
import Derived.Test.YtnbdcjohibfjaaaGreatDoorClU
namespace Go.Proofs.YtnbdcjohibfjaaaGreatDoor
open Go.RowKit

set_option maxHeartbeats 4000000 in
theorem mayDays_any (A : Option Addr) (n c : Nat) (ds : List Int) (w : World) (hd : IntsAt w w.heap.size A n ds) :
    Calls Tryz.prog 38 #[.slice A n c] w fun e w' => e = .returned (.bool (risesB 0 ds)) ∧ w = w' := by
  have HD := Lib.hid hd
  clear hd
  have hn := HD.out.2.1
  unfold maxLen at hn
  go_enter Tryz.func38, Tryz.ntmps38
  go_wp2_with fail
  go_loop [3, 5, 8] (fun x _ i => ∃ (k : Nat) (z : Int), k ≤ n ∧ i = .int .i64 k ∧ x = .int .i64 z ∧ Hid (risesB 0 ds = risesB z (ds.drop k))) (fun _ _ i => n - (intOf i).toNat)
  case atStart => exact ⟨0, 0, Nat.zero_le _, rfl, rfl, by show risesB 0 ds = _; rw [List.drop_zero]⟩
  case round =>
    obtain ⟨k, z, hk, rfl, rfl, hr⟩ := hrel
    by_cases hlt : k < n
    · obtain ⟨ad, rfl, hbl, hcell⟩ := HD.out.at_ hlt
      have hdr := drop_cons (l := ds) (k := k) (by rw [HD.out.1]; exact hlt)
      generalize ds.getD k 0 = d at hdr hcell
      have HR : Hid (risesB 0 ds = risesB z (d :: ds.drop (k + 1))) := by rw [← hdr]; exact hr
      clear hdr
      have hln : (n : Int) ≤ 9223372036854775807 := by omega
      by_cases h1 : d ≤ z
      · have HF := Lib.hid (rises_no (r := ds.drop (k + 1)) (.inl h1))
        go_wp2_with fail
        go_ret
        exact ⟨ret_bool (by rw [HR.out, HF.out]), rfl⟩
      · by_cases h7 : 7 < d
        · have HF := Lib.hid (rises_no (x := z) (r := ds.drop (k + 1)) (.inr h7))
          have h1' : z < d := by omega
          have u1 : (0 : Nat) ≤ 1 := Nat.zero_le _
          go_wp2_with fail
          go_ret
          exact ⟨ret_bool (by rw [HR.out, HF.out]), rfl⟩
        · have HF := Lib.hid (rises_yes (r := ds.drop (k + 1)) (show z < d by omega) (show d ≤ 7 by omega))
          have h1' : z < d := by omega
          have h7' : d ≤ 7 := by omega
          have HN : Hid (risesB 0 ds = risesB d (ds.drop (k + 1))) := by rw [HR.out, HF.out]; rfl
          have u1 : (0 : Nat) ≤ 1 := Nat.zero_le _
          have u2 : (0 : Nat) ≤ 2 := Nat.zero_le _
          clear h1 h7
          go_wp2_with fail
          go_round
          case rel => exact ⟨k + 1, d, by omega, by go_num, rfl, HN⟩
          case measure => simp [intOf]; omega
    · obtain rfl : k = n := by omega
      have HT : Hid (risesB 0 ds = true) := by
        show _ = true
        rw [hr.out, List.drop_of_length_le (by rw [HD.out.1]; exact Nat.le_refl _)]; rfl
      clear hr hlt
      go_wp2_with fail
      go_ret
      exact ⟨ret_bool HT.out.symm, rfl⟩

/-- The six lists as one value. -/
def Ch.six (c : Ch) : Array Value := #[.slice c.y.A c.y.n c.y.c, .slice c.m.A c.m.n c.m.c, .slice c.t.A c.t.n c.t.c, .slice c.h.A c.h.n c.h.c, .slice c.i.A c.i.n c.i.c, .slice c.s.A c.s.n c.s.c]
set_option maxHeartbeats 4000000 in
theorem lists_any (c : Ch) (w : World) :
    Calls Tryz.prog 36 #[.agg c.cells] w fun e w' => e = .returned (.agg c.six) ∧ Below w.heap.size w w' := by
  unfold Ch.cells Ch.six
  go_enter Tryz.func36, Tryz.ntmps36
  go_wp2_with fail
  refine bodyPost_ret (v := .agg #[.slice c.y.A c.y.n c.y.c, .slice c.m.A c.m.n c.m.c, .slice c.t.A c.t.n c.t.c, .slice c.h.A c.h.n c.h.c, .slice c.i.A c.i.n c.i.c, .slice c.s.A c.s.n c.s.c]) (by simp [results, Tryz.results36, go_sem]) rfl ⟨rfl, ?_⟩
  exact ((Below.refl _ _).alloc (Nat.le_refl _) _).alloc (by simp) _
end Go.Proofs.YtnbdcjohibfjaaaGreatDoor
