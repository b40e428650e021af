/- The walk of the developers' Print. -/
import Derived.Test.YteoflefahoamnaaDoorSpP
namespace Go.Proofs.YteoflefahoamnaaDoor
open Go.RowKit

def joinW (ws : List (List UInt8)) : List UInt8 := (ws.flatMap fun w => 32 :: w).drop 1
theorem joinW_nil {ws : List (List UInt8)} (h : ∀ w ∈ ws, w ≠ []) : joinW ws = [] ↔ ws = [] := by
  cases ws with
  | nil => simp [joinW]
  | cons w ws =>
    have := h w (by simp)
    simp [joinW, this]
theorem joinW_snoc (ws : List (List UInt8)) (w : List UInt8) (h0 : ws ≠ []) : joinW (ws ++ [w]) = joinW ws ++ 32 :: w := by
  cases ws with
  | nil => exact absurd rfl h0
  | cons v ws => simp [joinW]
theorem addL_joinW {ws : List (List UInt8)} (h : ∀ w ∈ ws, w ≠ []) (n : Nat) (u : List UInt8) : addL (joinW ws) n u = joinW (ws ++ partW n u) := by
  unfold addL partW
  by_cases h0 : n = 0
  · rw [if_pos h0, if_pos h0, List.append_nil]
  · rw [if_neg h0, if_neg h0]
    by_cases hw : ws = []
    · subst hw
      rw [if_pos (by simp [joinW])]
      simp [joinW]
    · rw [if_neg (fun e => hw ((joinW_nil h).1 e)), joinW_snoc _ _ hw]
      simp
theorem partW_ne (n : Nat) (u : List UInt8) : ∀ w ∈ partW n u, w ≠ [] := by
  intro w hw
  unfold partW at hw
  split at hw
  · simp at hw
  · rw [List.mem_singleton.1 hw]
    have := decL_ne n
    simp [this]
theorem app_ne {a b : List (List UInt8)} (ha : ∀ w ∈ a, w ≠ []) (hb : ∀ w ∈ b, w ≠ []) : ∀ w ∈ a ++ b, w ≠ [] := by
  intro w hw
  rcases List.mem_append.1 hw with hw | hw
  · exact ha w hw
  · exact hb w hw
theorem print_chain (n : Nat) (h0 : n ≠ 0) (h : n ≤ maxSpan) : addL (addL (addL (addL [] (n / 86400) [100]) (n % 86400 / 3600) [104]) (n % 3600 / 60) [109, 105, 110]) (n % 60) [115] = printL n := by
  have hf : n ≠ forever := by unfold maxSpan at h; unfold forever; omega
  unfold printL
  rw [if_neg hf, if_neg (by omega), if_neg h0]
  have e0 : ([] : List UInt8) = joinW [] := rfl
  rw [e0, addL_joinW (by simp), addL_joinW (app_ne (by simp) (partW_ne _ _)), addL_joinW (app_ne (app_ne (by simp) (partW_ne _ _)) (partW_ne _ _)), addL_joinW (app_ne (app_ne (app_ne (by simp) (partW_ne _ _)) (partW_ne _ _)) (partW_ne _ _))]
  rfl
theorem addL_len (l : List UInt8) (n : Nat) (u : List UInt8) (h : n < 10 ^ 10) (hu : u.length ≤ 3) : (addL l n u).length ≤ l.length + 14 := by
  have := decL_len 9 n h
  unfold addL
  split
  · omega
  · split
    · simp; omega
    · simp; omega

/-- What Print gives. -/
def printZ (n : Int) : List UInt8 := if n < 0 then [] else printL n.toNat

set_option maxHeartbeats 2000000 in
set_option maxRecDepth 100000 in
theorem print_mid (n : Nat) (h0 : n ≠ 0) (h : n ≤ 6311433600) (w : World) (ht : P10 w) :
    Calls Tryd.prog 10 #[.int .i64 n] w fun e w' => e = .returned (.string (str (printL n))) ∧ Below w.heap.size w w' := by
  have hfresh := Lib.hid (Lib.IsBuilderF.of (Lib.fresh_isBuilder 41 5 w))
  have HP := Lib.hid (print_chain n h0 h)
  have hl1 := addL_len [] (n / 86400) [100] (by omega) (by simp)
  have hl2 := addL_len (addL [] (n / 86400) [100]) (n % 86400 / 3600) [104] (by omega) (by simp)
  have hl3 := addL_len (addL (addL [] (n / 86400) [100]) (n % 86400 / 3600) [104]) (n % 3600 / 60) [109, 105, 110] (by omega) (by simp)
  simp only [List.length_nil] at hl1
  have z0 : ((n : Int) == 1099511627776) = false := by simp; omega
  have z1 : ((n : Int) == 0) = false := by simp; omega
  have Ht := Lib.hid ht
  have E1 := Lib.hid (show (n : Int) / 86400 = ((n / 86400 : Nat) : Int) by omega)
  have E2 := Lib.hid (show (n : Int) % 86400 / 3600 = ((n % 86400 / 3600 : Nat) : Int) by omega)
  have E3 := Lib.hid (show (n : Int) % 3600 / 60 = ((n % 3600 / 60 : Nat) : Int) by omega)
  have E4 := Lib.hid (show (n : Int) % 60 = ((n % 60 : Nat) : Int) by omega)
  have hb0 := Lib.hid ((Below.refl _ w).alloc (Nat.le_refl _) (.cells #[.pointer none, .slice none 0 0] 41))
  have hs0 : w.heap.size ≤ (w.alloc (.cells #[.pointer none, .slice none 0 0] 41)).heap.size := by simp
  clear ht h0
  go_enter Tryd.func10, Tryd.ntmps10
  go_wp2_with fail
  generalize (w.alloc (.cells #[.pointer none, .slice none 0 0] 41)) = w0 at *
  rw [E1.out]
  refine (component_any w.heap.size w.heap.size [] _ [100] _ hfresh.out (by simp) (by omega) (by simp) hs0 (fun w' hw' => Ht.out.below (hb0.out.trans hw'))).mono ?_
  rintro e w1 ⟨rfl, h1, hb1⟩
  have hs1 := hb1.size
  have HB1 := Lib.hid (hb0.out.trans hb1)
  clear hb1
  go_wp2_with fail
  rw [E2.out]
  refine (component_any w.heap.size w.heap.size _ _ [104] _ h1 (by omega) (by omega) (by simp) (by omega) (fun w' hw' => Ht.out.below (HB1.out.trans hw'))).mono ?_
  rintro e w2 ⟨rfl, h2, hb2⟩
  have hs2 := hb2.size
  have HB2 := Lib.hid (HB1.out.trans hb2)
  clear hb2 h1
  go_wp2_with fail
  rw [E3.out]
  refine (component_any w.heap.size w.heap.size _ _ [109, 105, 110] _ h2 (by omega) (by omega) (by simp) (by omega) (fun w' hw' => Ht.out.below (HB2.out.trans hw'))).mono ?_
  rintro e w3 ⟨rfl, h3, hb3⟩
  have hs3 := hb3.size
  have HB3 := Lib.hid (HB2.out.trans hb3)
  clear hb3 h2
  go_wp2_with fail
  rw [E4.out]
  refine (component_any w.heap.size w.heap.size _ _ [115] _ h3 (by omega) (by omega) (by simp) (by omega) (fun w' hw' => Ht.out.below (HB3.out.trans hw'))).mono ?_
  rintro e w4 ⟨rfl, h4, hb4⟩
  have hs4 := hb4.size
  have HB4 := Lib.hid (HB3.out.trans hb4)
  rw [HP.out] at h4
  clear hb4 h3
  go_wp2_with fail
  refine (Tryd.Builder_String_any_f w.heap.size w.heap.size (printL n) _ h4 (by omega)).mono ?_
  rintro e w5 ⟨rfl, h5, hb5⟩
  have HB5 := Lib.hid (HB4.out.trans hb5)
  clear hb5 h4 h5
  go_wp2_with fail
  go_ret
  exact ⟨rfl, HB5.out⟩

set_option maxHeartbeats 1000000 in
theorem Print_any (n : Int) (w : World) (ht : P10 w) :
    Calls Tryd.prog 10 #[.int .i64 n] w fun e w' => e = .returned (.string (str (printZ n))) ∧ Below w.heap.size w w' := by
  by_cases h1 : n = 1099511627776
  · have HZ := Lib.hid (show printZ n = infL by rw [h1]; rfl)
    have z0 : (n == 1099511627776) = true := by simp [h1]
    clear h1 ht
    go_enter Tryd.func10, Tryd.ntmps10
    go_wp2
    go_ret
    exact ⟨ret_str (by rw [HZ.out]; rfl), Below.refl _ _⟩
  · have z0 : (n == 1099511627776) = false := by simp [h1]
    by_cases h2 : n < 0
    · have HZ := Lib.hid (show printZ n = [] by unfold printZ; rw [if_pos h2])
      clear h1 ht
      go_enter Tryd.func10, Tryd.ntmps10
      go_wp2
      go_ret
      exact ⟨ret_str (by rw [HZ.out]; rfl), Below.refl _ _⟩
    · by_cases h3 : 6311433600 < n
      · have HZ := Lib.hid (show printZ n = [] by
          unfold printZ printL
          rw [if_neg h2, if_neg (by unfold forever; omega), if_pos (by unfold maxSpan; omega)])
        have h2' : 0 ≤ n := by omega
        clear h1 ht
        go_enter Tryd.func10, Tryd.ntmps10
        go_wp2
        go_ret
        exact ⟨ret_str (by rw [HZ.out]; rfl), Below.refl _ _⟩
      · by_cases h4 : n = 0
        · have HZ := Lib.hid (show printZ n = [48] by rw [h4]; decide)
          have z1 : (n == 0) = true := by simp [h4]
          have h2' : 0 ≤ n := by omega
          have h3' : n ≤ 6311433600 := by omega
          clear h1 h4 ht
          go_enter Tryd.func10, Tryd.ntmps10
          go_wp2
          go_ret
          exact ⟨ret_str (by rw [HZ.out]; rfl), Below.refl _ _⟩
        · obtain ⟨m, rfl⟩ : ∃ m : Nat, n = m := ⟨n.toNat, by omega⟩
          have := print_mid m (by omega) (by omega) w ht
          unfold printZ
          rw [if_neg h2, Int.toNat_natCast]
          exact this

def sumZ (a b : Int) : Int := if max b 0 ≤ 6311433600 - max a 0 then max a 0 + max b 0 else 1099511627776
theorem Sum_any (a b : Int) (ha0 : -9223372036854775808 ≤ a) (ha1 : a ≤ 9223372036854775807) (hb0 : -9223372036854775808 ≤ b) (hb1 : b ≤ 9223372036854775807) (w : World) :
    Calls Tryd.prog 12 #[.int .i64 a, .int .i64 b] w fun e w' => e = .returned (.int .i64 (sumZ a b)) ∧ w = w' := by
  go_enter Tryd.func12, Tryd.ntmps12
  go_wp2
  · go_ret
    exact ⟨ret_int (by unfold sumZ; rw [if_neg (by omega)]), rfl⟩
  · go_ret
    exact ⟨ret_int (by unfold sumZ; rw [if_pos (by omega)]), rfl⟩
end Go.Proofs.YteoflefahoamnaaDoor
