/- The walks of the developers' isBool, isDigit, isOfVariable, consistsOf, isNumber. -/
import Derived.Test.YtadifolonbkamaaGreatDoorKfac
import Derived.Test.YtadifolonbkamaaGreatDoorKfad
namespace Go.Proofs.YtadifolonbkamaaGreatDoor
open Go.RowKit
theorem eq_litV (s : ByteArray) (l : List UInt8) : (s.toList == l) = decide (s.data.toList = l) := by
  rw [Lib.toList_data, Bool.eq_iff_iff, decide_eq_true_eq, beq_iff_eq]
def boolWs : List (List UInt8) := [[121, 101, 115], [116, 114, 117, 101], [49], [110, 111], [102, 97, 108, 115, 101], [48]]
def boolS (s : ByteArray) : Bool := boolWs.any fun x => decide (s.data.toList = x)
set_option maxHeartbeats 4000000 in
theorem isBool_any (s : ByteArray) (w : World) : Calls Tryz.prog 48 #[.string s] w fun e w' => e = .returned (.bool (boolS s)) ∧ Below w.heap.size w w' := by
  have q0 : (s.toList == ([121, 101, 115] : List UInt8)) = decide (s.data.toList = [121, 101, 115]) := eq_litV s _
  have q1 : (s.toList == ([116, 114, 117, 101] : List UInt8)) = decide (s.data.toList = [116, 114, 117, 101]) := eq_litV s _
  have q2 : (s.toList == ([49] : List UInt8)) = decide (s.data.toList = [49]) := eq_litV s _
  have q3 : (s.toList == ([110, 111] : List UInt8)) = decide (s.data.toList = [110, 111]) := eq_litV s _
  have q4 : (s.toList == ([102, 97, 108, 115, 101] : List UInt8)) = decide (s.data.toList = [102, 97, 108, 115, 101]) := eq_litV s _
  have q5 : (s.toList == ([48] : List UInt8)) = decide (s.data.toList = [48]) := eq_litV s _
  have hb : boolS s = (decide (s.data.toList = [121, 101, 115]) || (decide (s.data.toList = [116, 114, 117, 101]) || (decide (s.data.toList = [49]) || (decide (s.data.toList = [110, 111]) || (decide (s.data.toList = [102, 97, 108, 115, 101]) || decide (s.data.toList = [48])))))) := by
    simp [boolS, boolWs]
  rw [hb]
  clear hb
  generalize decide (s.data.toList = [121, 101, 115]) = b0 at *
  generalize decide (s.data.toList = [116, 114, 117, 101]) = b1 at *
  generalize decide (s.data.toList = [49]) = b2 at *
  generalize decide (s.data.toList = [110, 111]) = b3 at *
  generalize decide (s.data.toList = [102, 97, 108, 115, 101]) = b4 at *
  generalize decide (s.data.toList = [48]) = b5 at *
  rcases b0 with _ | _
  · rcases b1 with _ | _
    · rcases b2 with _ | _
      · rcases b3 with _ | _
        · rcases b4 with _ | _
          · rcases b5 with _ | _
            all_goals
              go_enter Tryz.func48, Tryz.ntmps48
              go_wp2_with fail
              go_ret
              exact ⟨rfl, Below.refl _ _⟩
          · go_enter Tryz.func48, Tryz.ntmps48
            go_wp2_with fail
            go_ret
            exact ⟨rfl, Below.refl _ _⟩
        · go_enter Tryz.func48, Tryz.ntmps48
          go_wp2_with fail
          go_ret
          exact ⟨rfl, Below.refl _ _⟩
      · go_enter Tryz.func48, Tryz.ntmps48
        go_wp2_with fail
        go_ret
        exact ⟨rfl, Below.refl _ _⟩
    · go_enter Tryz.func48, Tryz.ntmps48
      go_wp2_with fail
      go_ret
      exact ⟨rfl, Below.refl _ _⟩
  · go_enter Tryz.func48, Tryz.ntmps48
    go_wp2_with fail
    go_ret
    exact ⟨rfl, Below.refl _ _⟩
def digV (c : UInt8) : Bool := decide (48 ≤ c.toNat) && decide (c.toNat ≤ 57)
def varV (c : UInt8) : Bool := (decide (97 ≤ c.toNat) && decide (c.toNat ≤ 122)) || (decide (65 ≤ c.toNat) && decide (c.toNat ≤ 90)) || digV c || decide (c.toNat = 95)
theorem isDigitV_any (c : UInt8) (w : World) : Calls Tryz.prog 73 #[.int .u8 c.toNat] w fun e w' => e = .returned (.bool (digV c)) ∧ w = w' := by
  unfold digV
  by_cases h1 : c.toNat < 48
  · have h1' : (c.toNat : Int) < 48 := by omega
    have d1 : decide ((48 : Int) ≤ (c.toNat : Int)) = false := by simp; omega
    have HD := Lib.hid (show (decide (48 ≤ c.toNat) && decide (c.toNat ≤ 57)) = false by simp; omega)
    go_enter Tryz.func73, Tryz.ntmps73
    go_wp2_with fail
    go_ret
    exact ⟨ret_bool HD.out.symm, rfl⟩
  · have h1' : (48 : Int) ≤ (c.toNat : Int) := by omega
    by_cases h2 : c.toNat ≤ 57
    · have h2' : (c.toNat : Int) ≤ 57 := by omega
      have HD := Lib.hid (show (decide (48 ≤ c.toNat) && decide (c.toNat ≤ 57)) = true by simp; omega)
      clear h1 h2
      go_enter Tryz.func73, Tryz.ntmps73
      go_wp2_with fail
      go_ret
      exact ⟨ret_bool HD.out.symm, rfl⟩
    · have h2' : (57 : Int) < (c.toNat : Int) := by omega
      have d1 : decide ((c.toNat : Int) ≤ 57) = false := by simp; omega
      have HD := Lib.hid (show (decide (48 ≤ c.toNat) && decide (c.toNat ≤ 57)) = false by simp; omega)
      clear h1 h2
      go_enter Tryz.func73, Tryz.ntmps73
      go_wp2_with fail
      go_ret
      exact ⟨ret_bool HD.out.symm, rfl⟩
set_option maxRecDepth 100000 in
theorem isVar1_0 (c : UInt8) (ha : 0 ≤ c.toNat) (hb : c.toNat ≤ 47) (w : World) : Calls Tryz.prog 139 #[.int .u8 c.toNat] w fun e w' => e = .returned (.bool (varV c)) ∧ w = w' := by
  have hr : varV c = false := by unfold varV digV; simp; omega
  have hd : digV c = false := by unfold digV; simp; omega
  have HD := Lib.hid fun w => isDigitV_any c w
  rw [hd] at HD
  rw [hr]
  clear hd hr
  have d1 : decide ((97 : Int) ≤ (c.toNat : Int)) = false := by simp; omega
  have d2 : decide ((c.toNat : Int) ≤ 122) = true := by simp; omega
  have d3 : decide ((65 : Int) ≤ (c.toNat : Int)) = false := by simp; omega
  have d4 : decide ((c.toNat : Int) ≤ 90) = true := by simp; omega
  have d5 : ((c.toNat : Int) == 95) = false := by simp; omega
  clear ha hb
  generalize c.toNat = n at *
  go_enter Tryz.func139, Tryz.ntmps139
  go_wp2_with (go_at_call 73; refine (HD.out _).mono ?_; rintro e w1 ⟨rfl, rfl⟩)
  go_ret
  exact ⟨rfl, rfl⟩
set_option maxRecDepth 100000 in
theorem isVar1_1 (c : UInt8) (ha : 48 ≤ c.toNat) (hb : c.toNat ≤ 57) (w : World) : Calls Tryz.prog 139 #[.int .u8 c.toNat] w fun e w' => e = .returned (.bool (varV c)) ∧ w = w' := by
  have hr : varV c = true := by unfold varV digV; simp; omega
  have hd : digV c = true := by unfold digV; simp; omega
  have HD := Lib.hid fun w => isDigitV_any c w
  rw [hd] at HD
  rw [hr]
  clear hd hr
  have d1 : decide ((97 : Int) ≤ (c.toNat : Int)) = false := by simp; omega
  have d2 : decide ((c.toNat : Int) ≤ 122) = true := by simp; omega
  have d3 : decide ((65 : Int) ≤ (c.toNat : Int)) = false := by simp; omega
  have d4 : decide ((c.toNat : Int) ≤ 90) = true := by simp; omega
  have d5 : ((c.toNat : Int) == 95) = false := by simp; omega
  clear ha hb
  generalize c.toNat = n at *
  go_enter Tryz.func139, Tryz.ntmps139
  go_wp2_with (go_at_call 73; refine (HD.out _).mono ?_; rintro e w1 ⟨rfl, rfl⟩)
  go_ret
  exact ⟨rfl, rfl⟩
set_option maxRecDepth 100000 in
theorem isVar1_2 (c : UInt8) (ha : 58 ≤ c.toNat) (hb : c.toNat ≤ 64) (w : World) : Calls Tryz.prog 139 #[.int .u8 c.toNat] w fun e w' => e = .returned (.bool (varV c)) ∧ w = w' := by
  have hr : varV c = false := by unfold varV digV; simp; omega
  have hd : digV c = false := by unfold digV; simp; omega
  have HD := Lib.hid fun w => isDigitV_any c w
  rw [hd] at HD
  rw [hr]
  clear hd hr
  have d1 : decide ((97 : Int) ≤ (c.toNat : Int)) = false := by simp; omega
  have d2 : decide ((c.toNat : Int) ≤ 122) = true := by simp; omega
  have d3 : decide ((65 : Int) ≤ (c.toNat : Int)) = false := by simp; omega
  have d4 : decide ((c.toNat : Int) ≤ 90) = true := by simp; omega
  have d5 : ((c.toNat : Int) == 95) = false := by simp; omega
  clear ha hb
  generalize c.toNat = n at *
  go_enter Tryz.func139, Tryz.ntmps139
  go_wp2_with (go_at_call 73; refine (HD.out _).mono ?_; rintro e w1 ⟨rfl, rfl⟩)
  go_ret
  exact ⟨rfl, rfl⟩
set_option maxRecDepth 100000 in
theorem isVar1_3 (c : UInt8) (ha : 65 ≤ c.toNat) (hb : c.toNat ≤ 90) (w : World) : Calls Tryz.prog 139 #[.int .u8 c.toNat] w fun e w' => e = .returned (.bool (varV c)) ∧ w = w' := by
  have hr : varV c = true := by unfold varV digV; simp; omega
  have hd : digV c = false := by unfold digV; simp; omega
  have HD := Lib.hid fun w => isDigitV_any c w
  rw [hd] at HD
  rw [hr]
  clear hd hr
  have d1 : decide ((97 : Int) ≤ (c.toNat : Int)) = false := by simp; omega
  have d2 : decide ((c.toNat : Int) ≤ 122) = true := by simp; omega
  have d3 : decide ((65 : Int) ≤ (c.toNat : Int)) = true := by simp; omega
  have d4 : decide ((c.toNat : Int) ≤ 90) = true := by simp; omega
  have d5 : ((c.toNat : Int) == 95) = false := by simp; omega
  clear ha hb
  generalize c.toNat = n at *
  go_enter Tryz.func139, Tryz.ntmps139
  go_wp2_with (go_at_call 73; refine (HD.out _).mono ?_; rintro e w1 ⟨rfl, rfl⟩)
  go_ret
  exact ⟨rfl, rfl⟩
set_option maxRecDepth 100000 in
theorem isVar1_4 (c : UInt8) (ha : 91 ≤ c.toNat) (hb : c.toNat ≤ 94) (w : World) : Calls Tryz.prog 139 #[.int .u8 c.toNat] w fun e w' => e = .returned (.bool (varV c)) ∧ w = w' := by
  have hr : varV c = false := by unfold varV digV; simp; omega
  have hd : digV c = false := by unfold digV; simp; omega
  have HD := Lib.hid fun w => isDigitV_any c w
  rw [hd] at HD
  rw [hr]
  clear hd hr
  have d1 : decide ((97 : Int) ≤ (c.toNat : Int)) = false := by simp; omega
  have d2 : decide ((c.toNat : Int) ≤ 122) = true := by simp; omega
  have d3 : decide ((65 : Int) ≤ (c.toNat : Int)) = true := by simp; omega
  have d4 : decide ((c.toNat : Int) ≤ 90) = false := by simp; omega
  have d5 : ((c.toNat : Int) == 95) = false := by simp; omega
  clear ha hb
  generalize c.toNat = n at *
  go_enter Tryz.func139, Tryz.ntmps139
  go_wp2_with (go_at_call 73; refine (HD.out _).mono ?_; rintro e w1 ⟨rfl, rfl⟩)
  go_ret
  exact ⟨rfl, rfl⟩
set_option maxRecDepth 100000 in
theorem isVar1_5 (c : UInt8) (ha : 95 ≤ c.toNat) (hb : c.toNat ≤ 95) (w : World) : Calls Tryz.prog 139 #[.int .u8 c.toNat] w fun e w' => e = .returned (.bool (varV c)) ∧ w = w' := by
  have hr : varV c = true := by unfold varV digV; simp; omega
  have hd : digV c = false := by unfold digV; simp; omega
  have HD := Lib.hid fun w => isDigitV_any c w
  rw [hd] at HD
  rw [hr]
  clear hd hr
  have d1 : decide ((97 : Int) ≤ (c.toNat : Int)) = false := by simp; omega
  have d2 : decide ((c.toNat : Int) ≤ 122) = true := by simp; omega
  have d3 : decide ((65 : Int) ≤ (c.toNat : Int)) = true := by simp; omega
  have d4 : decide ((c.toNat : Int) ≤ 90) = false := by simp; omega
  have d5 : ((c.toNat : Int) == 95) = true := by simp; omega
  clear ha hb
  generalize c.toNat = n at *
  go_enter Tryz.func139, Tryz.ntmps139
  go_wp2_with (go_at_call 73; refine (HD.out _).mono ?_; rintro e w1 ⟨rfl, rfl⟩)
  go_ret
  exact ⟨rfl, rfl⟩
set_option maxRecDepth 100000 in
theorem isVar1_6 (c : UInt8) (ha : 96 ≤ c.toNat) (hb : c.toNat ≤ 96) (w : World) : Calls Tryz.prog 139 #[.int .u8 c.toNat] w fun e w' => e = .returned (.bool (varV c)) ∧ w = w' := by
  have hr : varV c = false := by unfold varV digV; simp; omega
  have hd : digV c = false := by unfold digV; simp; omega
  have HD := Lib.hid fun w => isDigitV_any c w
  rw [hd] at HD
  rw [hr]
  clear hd hr
  have d1 : decide ((97 : Int) ≤ (c.toNat : Int)) = false := by simp; omega
  have d2 : decide ((c.toNat : Int) ≤ 122) = true := by simp; omega
  have d3 : decide ((65 : Int) ≤ (c.toNat : Int)) = true := by simp; omega
  have d4 : decide ((c.toNat : Int) ≤ 90) = false := by simp; omega
  have d5 : ((c.toNat : Int) == 95) = false := by simp; omega
  clear ha hb
  generalize c.toNat = n at *
  go_enter Tryz.func139, Tryz.ntmps139
  go_wp2_with (go_at_call 73; refine (HD.out _).mono ?_; rintro e w1 ⟨rfl, rfl⟩)
  go_ret
  exact ⟨rfl, rfl⟩
set_option maxRecDepth 100000 in
theorem isVar1_7 (c : UInt8) (ha : 97 ≤ c.toNat) (hb : c.toNat ≤ 122) (w : World) : Calls Tryz.prog 139 #[.int .u8 c.toNat] w fun e w' => e = .returned (.bool (varV c)) ∧ w = w' := by
  have hr : varV c = true := by unfold varV digV; simp; omega
  have hd : digV c = false := by unfold digV; simp; omega
  have HD := Lib.hid fun w => isDigitV_any c w
  rw [hd] at HD
  rw [hr]
  clear hd hr
  have d1 : decide ((97 : Int) ≤ (c.toNat : Int)) = true := by simp; omega
  have d2 : decide ((c.toNat : Int) ≤ 122) = true := by simp; omega
  have d3 : decide ((65 : Int) ≤ (c.toNat : Int)) = true := by simp; omega
  have d4 : decide ((c.toNat : Int) ≤ 90) = false := by simp; omega
  have d5 : ((c.toNat : Int) == 95) = false := by simp; omega
  clear ha hb
  generalize c.toNat = n at *
  go_enter Tryz.func139, Tryz.ntmps139
  go_wp2_with (go_at_call 73; refine (HD.out _).mono ?_; rintro e w1 ⟨rfl, rfl⟩)
  go_ret
  exact ⟨rfl, rfl⟩
set_option maxRecDepth 100000 in
theorem isVar1_8 (c : UInt8) (ha : 123 ≤ c.toNat) (hb : c.toNat ≤ 255) (w : World) : Calls Tryz.prog 139 #[.int .u8 c.toNat] w fun e w' => e = .returned (.bool (varV c)) ∧ w = w' := by
  have hr : varV c = false := by unfold varV digV; simp; omega
  have hd : digV c = false := by unfold digV; simp; omega
  have HD := Lib.hid fun w => isDigitV_any c w
  rw [hd] at HD
  rw [hr]
  clear hd hr
  have d1 : decide ((97 : Int) ≤ (c.toNat : Int)) = true := by simp; omega
  have d2 : decide ((c.toNat : Int) ≤ 122) = false := by simp; omega
  have d3 : decide ((65 : Int) ≤ (c.toNat : Int)) = true := by simp; omega
  have d4 : decide ((c.toNat : Int) ≤ 90) = false := by simp; omega
  have d5 : ((c.toNat : Int) == 95) = false := by simp; omega
  clear ha hb
  generalize c.toNat = n at *
  go_enter Tryz.func139, Tryz.ntmps139
  go_wp2_with (go_at_call 73; refine (HD.out _).mono ?_; rintro e w1 ⟨rfl, rfl⟩)
  go_ret
  exact ⟨rfl, rfl⟩
theorem isVar1_any (c : UInt8) (w : World) : Calls Tryz.prog 139 #[.int .u8 c.toNat] w fun e w' => e = .returned (.bool (varV c)) ∧ w = w' := by
  have hr := c.toNat_lt
  by_cases h0 : c.toNat ≤ 47
  · exact isVar1_0 c (by omega) h0 w
  by_cases h1 : c.toNat ≤ 57
  · exact isVar1_1 c (by omega) h1 w
  by_cases h2 : c.toNat ≤ 64
  · exact isVar1_2 c (by omega) h2 w
  by_cases h3 : c.toNat ≤ 90
  · exact isVar1_3 c (by omega) h3 w
  by_cases h4 : c.toNat ≤ 94
  · exact isVar1_4 c (by omega) h4 w
  by_cases h5 : c.toNat ≤ 95
  · exact isVar1_5 c (by omega) h5 w
  by_cases h6 : c.toNat ≤ 96
  · exact isVar1_6 c (by omega) h6 w
  by_cases h7 : c.toNat ≤ 122
  · exact isVar1_7 c (by omega) h7 w
  exact isVar1_8 c (by omega) (by omega) w
end Go.Proofs.YtadifolonbkamaaGreatDoor
