/- The walks of package words' hexByte, readEscape, readByte, isPrintable. -/
import Derived.Test.YtadifolonbkamaaGreatDoorKfay
import Derived.Test.YtadifolonbkamaaGreatDoorKfab
import Derived.Test.YtadifolonbkamaaGreatDoorKfac
import Derived.Laws.BitsAllLaws
import Derived.Laws.BitsLemmas
namespace Go.Proofs.YtadifolonbkamaaGreatDoor.Wd
open Go.RowKit
/-- Which digit a byte is, or -1. -/
def hexIW (c : UInt8) : Int := Lib.indexByte [48, 49, 50, 51, 52, 53, 54, 55, 56, 57, 97, 98, 99, 100, 101, 102] c
theorem hexIW_eq (c : UInt8) : hexIW c = if hexW c < 16 then (hexW c : Int) else -1 := by
  have H : ∀ m : Fin 256, hexIW m.1.toUInt8 = if hexW m.1.toUInt8 < 16 then (hexW m.1.toUInt8 : Int) else -1 := by decide +kernel
  have e : c.toNat.toUInt8 = c := by simp
  have := H ⟨c.toNat, c.toNat_lt⟩
  rwa [e] at this
theorem hexIxW_any (c : UInt8) (w : World) :
    Calls Tryz.prog 176 #[.string ⟨#[48, 49, 50, 51, 52, 53, 54, 55, 56, 57, 97, 98, 99, 100, 101, 102]⟩, .int .u8 c.toNat] w fun e w' => e = .returned (.int .i64 (hexIW c)) ∧ w = w' := by
  refine (Tryz.strings_IndexByte _ _ _).mono ?_
  rintro e w' ⟨rfl, rfl⟩
  refine ⟨?_, rfl⟩
  unfold hexIW
  rw [show (((c.toNat : Nat) : Int)).toNat.toUInt8 = c by simp]
theorem or_hexW (a b : Nat) (ha : a < 16) (hb : b < 16) : bits .or .i64 ((a : Int) * 16) (b : Int) % 256 = 16 * (a : Int) + (b : Int) := by
  have H : ∀ a b : Fin 16, bits .or .i64 ((a.1 : Int) * 16) (b.1 : Int) % 256 = 16 * (a.1 : Int) + (b.1 : Int) := by decide +kernel
  exact H ⟨a, ha⟩ ⟨b, hb⟩
/-- What two digits at the beginning stand for. -/
def two : List UInt8 → UInt8
  | a :: b :: _ => hex2 a b
  | _ => 0
def twoS (s : ByteArray) : UInt8 := two s.data.toList
theorem two_at (s : ByteArray) (h : 2 ≤ s.size) : twoS s = hex2 s[0] s[1] := by
  obtain ⟨⟨l⟩⟩ := s
  match l, h with
  | [], h => simp [ByteArray.size] at h
  | [_], h => simp [ByteArray.size] at h
  | _ :: _ :: _, _ => rfl
theorem two_short (s : ByteArray) (h : s.size < 2) : twoS s = 0 := by
  obtain ⟨⟨l⟩⟩ := s
  match l, h with
  | [], _ => rfl
  | [_], _ => rfl
  | _ :: _ :: _, h => simp [ByteArray.size] at h; omega
theorem escX_two (l : List UInt8) : escX l = if two l = 0 then (0, 0) else (two l, 3) := by
  match l with
  | [] => rfl
  | [_] => rfl
  | _ :: _ :: _ => rfl
theorem ret_u8 {a c : Int} (h : a = c) : Ending.returned (.int .u8 a) = .returned (.int .u8 c) := by rw [h]
set_option maxHeartbeats 2000000 in
theorem hexByteW_any (s : ByteArray) (hm : s.size ≤ maxLen) (w : World) :
    Calls Tryz.prog 154 #[.string s] w fun e w' => e = .returned (.int .u8 (twoS s).toNat) ∧ w = w' := by
  unfold maxLen at hm
  by_cases h2 : s.size < 2
  · rw [two_short s h2]
    go_enter Tryz.func154, Tryz.ntmps154
    go_wp2_with fail
    go_ret
    exact ⟨rfl, rfl⟩
  · have h2' : (2 : Int) ≤ s.size := by omega
    have h2t : decide ((s.size : Int) < 2) = false := by simp; omega
    have i0 : 0 < s.size := by omega
    have i1 : 1 < s.size := by omega
    rw [two_at s (by omega)]
    by_cases ha : hexW s[0] < 16
    · have A1 : Hid (hexIW s[0] = (hexW s[0] : Int)) := by show _ = _; rw [hexIW_eq, if_pos ha]
      by_cases hb : hexW s[1] < 16
      · have B1 : Hid (hexIW s[1] = (hexW s[1] : Int)) := by show _ = _; rw [hexIW_eq, if_pos hb]
        have HR : Hid (bits .or .i64 ((hexW s[0] : Int) * 16) (hexW s[1] : Int) % (256 : Int) = ((hex2 s[0] s[1]).toNat : Int)) := by
          show _ = _
          rw [or_hexW _ _ ha hb]
          unfold hex2
          rw [if_pos ⟨ha, hb⟩]
          simp
          omega
        generalize hexW s[0] = a at *
        generalize hexW s[1] = b at *
        go_enter Tryz.func154, Tryz.ntmps154
        go_wp2_with fail
        refine (hexIxW_any _ _).mono ?_
        rintro e w' ⟨rfl, rfl⟩
        rw [A1.out]
        go_wp2_with fail
        refine (hexIxW_any _ _).mono ?_
        rintro e w' ⟨rfl, rfl⟩
        rw [B1.out]
        go_wp2_with fail
        go_ret
        exact ⟨ret_u8 HR.out, rfl⟩
      · have B1 : Hid (hexIW s[1] = -1) := by show _ = _; rw [hexIW_eq, if_neg hb]
        have HR : Hid (hex2 s[0] s[1] = 0) := by show _ = _; unfold hex2; rw [if_neg (fun h => hb h.2)]
        clear hb
        generalize hexW s[0] = a at *
        go_enter Tryz.func154, Tryz.ntmps154
        go_wp2_with fail
        refine (hexIxW_any _ _).mono ?_
        rintro e w' ⟨rfl, rfl⟩
        rw [A1.out]
        go_wp2_with fail
        refine (hexIxW_any _ _).mono ?_
        rintro e w' ⟨rfl, rfl⟩
        rw [B1.out]
        go_wp2_with fail
        go_ret
        exact ⟨ret_u8 (by rw [HR.out]; rfl), rfl⟩
    · have A1 : Hid (hexIW s[0] = -1) := by show _ = _; rw [hexIW_eq, if_neg ha]
      have HR : Hid (hex2 s[0] s[1] = 0) := by show _ = _; unfold hex2; rw [if_neg (fun h => ha h.1)]
      clear ha
      go_enter Tryz.func154, Tryz.ntmps154
      go_wp2_with fail
      refine (hexIxW_any _ _).mono ?_
      rintro e w' ⟨rfl, rfl⟩
      rw [A1.out]
      go_wp2_with fail
      refine (hexIxW_any _ _).mono ?_
      rintro e w' ⟨rfl, rfl⟩
      go_wp2_with fail
      go_ret
      exact ⟨ret_u8 (by rw [HR.out]; rfl), rfl⟩
/-- The escape at the beginning of a text: the byte, and how long it is. -/
def escP (l : List UInt8) : UInt8 × Nat := ((escW (l.drop 1)).1, if (escW (l.drop 1)).2 = 0 then 0 else (escW (l.drop 1)).2 + 1)
def escPS (s : ByteArray) : UInt8 × Nat := escP s.data.toList
theorem escP_cons {l : List UInt8} {c : UInt8} {t : List UInt8} (h : l.drop 1 = c :: t) (b : UInt8) (n : Nat) (he : escW (c :: t) = (b, n)) : escP l = (b, if n = 0 then 0 else n + 1) := by
  unfold escP
  rw [h, he]
theorem byte_ne {c : UInt8} {k : Nat} (h : ¬ c.toNat = k) : ((c.toNat : Int) == (k : Int)) = false := by simp; omega
theorem byte_is {c : UInt8} {k : Nat} (h : c.toNat = k) : ((c.toNat : Int) == (k : Int)) = true := by simp; omega
theorem ne_of_nat {c d : UInt8} (h : ¬ c.toNat = d.toNat) : ¬ c = d := fun e => h (by rw [e])
set_option maxHeartbeats 4000000 in
theorem readEscape_any (s : ByteArray) (hm : s.size ≤ maxLen) (w : World) :
    Calls Tryz.prog 136 #[.string s] w fun e w' => e = .returned (.tuple #[.int .u8 (escPS s).1.toNat, .int .i64 (escPS s).2]) ∧ w = w' := by
  unfold maxLen at hm
  by_cases h2 : s.size < 2
  · have HR : Hid (escPS s = (0, 0)) := by
      show _ = _
      unfold escPS escP
      rw [List.drop_eq_nil_of_le (by simp; omega)]
      rfl
    go_enter Tryz.func136, Tryz.ntmps136
    go_wp2_with fail
    go_ret2
    rw [HR.out]
    exact ⟨rfl, rfl⟩
  have h2' : (2 : Int) ≤ s.size := by omega
  have h2t : decide ((s.size : Int) < 2) = false := by simp; omega
  have i1 : 1 < s.size := by omega
  have hd := drop_at s 1 i1
  have hlt := s[1].toNat_lt
  have E := escW_cons s[1] (s.data.toList.drop 2)
  have htl : twoS (s.extract 2 s.size) = two (s.data.toList.drop 2) := by unfold twoS; rw [tail_list]
  by_cases h92 : s[1].toNat = 92
  · have t1 := byte_is h92
    have hc : s[1] = 92 := byte_eq.2 h92
    have HR : Hid (escPS s = (92, 2)) := by show _ = _; rw [escPS, escP_cons hd s[1] 1 (by rw [E, if_pos (.inl hc)]), hc]; rfl
    clear E hd htl hc
    go_enter Tryz.func136, Tryz.ntmps136
    go_wp2_with fail
    go_ret2
    rw [HR.out]
    exact ⟨rfl, rfl⟩
  have t1 := byte_ne h92
  have n1 : ¬ s[1] = 92 := ne_of_nat h92
  by_cases h34 : s[1].toNat = 34
  · have t2 := byte_is h34
    have hc : s[1] = 34 := byte_eq.2 h34
    have HR : Hid (escPS s = (34, 2)) := by show _ = _; rw [escPS, escP_cons hd s[1] 1 (by rw [E, if_pos (.inr (.inl hc))]), hc]; rfl
    clear E hd htl hc n1
    go_enter Tryz.func136, Tryz.ntmps136
    go_wp2_with fail
    go_ret2
    rw [HR.out]
    exact ⟨rfl, rfl⟩
  have t2 := byte_ne h34
  have n2 : ¬ s[1] = 34 := ne_of_nat h34
  by_cases h39 : s[1].toNat = 39
  · have t3 := byte_is h39
    have hc : s[1] = 39 := byte_eq.2 h39
    have HR : Hid (escPS s = (39, 2)) := by show _ = _; rw [escPS, escP_cons hd s[1] 1 (by rw [E, if_pos (.inr (.inr hc))]), hc]; rfl
    clear E hd htl hc n1 n2
    go_enter Tryz.func136, Tryz.ntmps136
    go_wp2_with fail
    go_ret2
    rw [HR.out]
    exact ⟨rfl, rfl⟩
  have t3 := byte_ne h39
  have n3 : ¬ s[1] = 39 := ne_of_nat h39
  rw [if_neg (by rintro (h | h | h) <;> contradiction)] at E
  clear n1 n2 n3
  by_cases h110 : s[1].toNat = 110
  · have t4 := byte_is h110
    have hc : s[1] = 110 := byte_eq.2 h110
    have HR : Hid (escPS s = (10, 2)) := by show _ = _; rw [escPS, escP_cons hd 10 1 (by rw [E, if_pos hc])]; rfl
    clear E hd htl hc
    go_enter Tryz.func136, Tryz.ntmps136
    go_wp2_with fail
    go_ret2
    rw [HR.out]
    exact ⟨rfl, rfl⟩
  have t4 := byte_ne h110
  have n4 : ¬ s[1] = 110 := ne_of_nat h110
  rw [if_neg n4] at E
  clear n4
  by_cases h116 : s[1].toNat = 116
  · have t5 := byte_is h116
    have hc : s[1] = 116 := byte_eq.2 h116
    have HR : Hid (escPS s = (9, 2)) := by show _ = _; rw [escPS, escP_cons hd 9 1 (by rw [E, if_pos hc])]; rfl
    clear E hd htl hc
    go_enter Tryz.func136, Tryz.ntmps136
    go_wp2_with fail
    go_ret2
    rw [HR.out]
    exact ⟨rfl, rfl⟩
  have t5 := byte_ne h116
  have n5 : ¬ s[1] = 116 := ne_of_nat h116
  rw [if_neg n5] at E
  clear n5
  by_cases h115 : s[1].toNat = 115
  · have t6 := byte_is h115
    have hc : s[1] = 115 := byte_eq.2 h115
    have HR : Hid (escPS s = (32, 2)) := by show _ = _; rw [escPS, escP_cons hd 32 1 (by rw [E, if_pos hc])]; rfl
    clear E hd htl hc
    go_enter Tryz.func136, Tryz.ntmps136
    go_wp2_with fail
    go_ret2
    rw [HR.out]
    exact ⟨rfl, rfl⟩
  have t6 := byte_ne h115
  have n6 : ¬ s[1] = 115 := ne_of_nat h115
  rw [if_neg n6] at E
  clear n6
  by_cases h120 : s[1].toNat = 120
  · have t7 := byte_is h120
    have hc : s[1] = 120 := byte_eq.2 h120
    rw [if_pos hc, escX_two] at E
    have hsz : (s.extract 2 s.size).size ≤ maxLen := by rw [ByteArray.size_extract]; unfold maxLen; omega
    have b2 : (2 : Int) ≤ (s.size : Int) := h2'
    by_cases hz : two (s.data.toList.drop 2) = 0
    · have HR : Hid (escPS s = (0, 0)) := by show _ = _; rw [escPS, escP_cons hd 0 0 (by rw [E, if_pos hz])]; rfl
      have HT : Hid (twoS (s.extract 2 s.size) = 0) := by show _ = _; rw [htl]; exact hz
      clear E hd htl hc hz
      go_enter Tryz.func136, Tryz.ntmps136
      go_wp2_with fail
      refine (hexByteW_any _ hsz _).mono ?_
      rintro e w' ⟨rfl, rfl⟩
      rw [HT.out]
      go_wp2_with fail
      go_ret2
      rw [HR.out]
      exact ⟨rfl, rfl⟩
    · have HR : Hid (escPS s = (twoS (s.extract 2 s.size), 4)) := by show _ = _; rw [escPS, escP_cons hd _ 3 (by rw [E, if_neg hz])]; rw [htl]; rfl
      have HT : Hid ((((twoS (s.extract 2 s.size)).toNat : Int) != 0) = true) := by
        show _ = _
        rw [htl]
        simp
        intro e
        exact hz (byte_eq.2 (by simpa using e))
      clear E hd htl hc hz
      go_enter Tryz.func136, Tryz.ntmps136
      go_wp2_with fail
      refine (hexByteW_any _ hsz _).mono ?_
      rintro e w' ⟨rfl, rfl⟩
      have ht := HT.out
      go_wp2_with fail
      go_ret2
      rw [HR.out]
      exact ⟨rfl, rfl⟩
  · have t7 := byte_ne h120
    have n7 : ¬ s[1] = 120 := ne_of_nat h120
    rw [if_neg n7] at E
    have HR : Hid (escPS s = (0, 0)) := by show _ = _; rw [escPS, escP_cons hd 0 0 E]; rfl
    clear E hd htl n7
    go_enter Tryz.func136, Tryz.ntmps136
    go_wp2_with fail
    go_ret2
    rw [HR.out]
    exact ⟨rfl, rfl⟩
/-- The byte that stands first in a text. -/
def readP (l : List UInt8) : UInt8 × Nat × Nat := match l with | [] => (0, 0, 0) | c :: t => readW c t
def readPS (s : ByteArray) : UInt8 × Nat × Nat := readP s.data.toList
theorem readP_at (s : ByteArray) (h : 0 < s.size) : readPS s = readW s[0] (s.data.toList.drop 1) := by
  have := drop_at s 0 h
  rw [List.drop_zero] at this
  unfold readPS
  rw [this]; rfl
set_option maxHeartbeats 4000000 in
theorem readByte_any (s : ByteArray) (hm : s.size ≤ maxLen) (h0 : 0 < s.size) (w : World) :
    Calls Tryz.prog 107 #[.string s] w fun e w' => e = .returned (.tuple #[.int .u8 (readPS s).1.toNat, .int .i64 (readPS s).2.1, .int .i64 (readPS s).2.2]) ∧ w = w' := by
  have hm0 := hm
  unfold maxLen at hm
  have hlt := s[0].toNat_lt
  have hb : (0 : Int) < s.size := by omega
  rw [readP_at s h0]
  have HU := Lib.hid (show readW s[0] (s.data.toList.drop 1) = _ from rfl)
  by_cases h1 : s[0].toNat < 32 ∧ ¬ s[0].toNat = 9
  · have d1 : decide ((s[0].toNat : Int) < 32) = true := by simp; omega
    have d2 : ((s[0].toNat : Int) != 9) = true := by simp; omega
    have HR : Hid (readW s[0] (s.data.toList.drop 1) = (0, 0, 1)) := by
      show _ = _
      unfold readW badW
      rw [if_pos]
      have : (s[0] == 9) = false := by simp only [beq_eq_false_iff_ne]; exact ne_of_nat h1.2
      rw [this]
      simp [h1.1]
    clear HU h1
    go_enter Tryz.func107, Tryz.ntmps107
    go_wp2_with fail
    refine bodyPost_ret (results_tmp3 rfl _ _ _) rfl ?_
    rw [HR.out]
    exact ⟨rfl, rfl⟩
  by_cases h2 : s[0].toNat = 127
  · have d1 : decide ((s[0].toNat : Int) < 32) = false := by simp; omega
    have d2 : ((s[0].toNat : Int) == 127) = true := by simp; omega
    have HR : Hid (readW s[0] (s.data.toList.drop 1) = (0, 0, 1)) := by
      show _ = _
      unfold readW badW
      rw [if_pos]
      have : s[0] = 127 := byte_eq.2 h2
      rw [this]
      rfl
    clear HU h1 h2
    go_enter Tryz.func107, Tryz.ntmps107
    go_wp2_with fail
    refine bodyPost_ret (results_tmp3 rfl _ _ _) rfl ?_
    rw [HR.out]
    exact ⟨rfl, rfl⟩
  have HG : ¬ badW s[0] = true := by
    unfold badW
    simp only [Bool.or_eq_true, Bool.and_eq_true, decide_eq_true_eq, Bool.not_eq_true', beq_eq_false_iff_ne, ne_eq, beq_iff_eq, not_or]
    refine ⟨fun h => h1 ⟨h.1, fun e => h.2 (byte_eq.2 e)⟩, ne_of_nat h2⟩
  have HU2 : readW s[0] (s.data.toList.drop 1) = if s[0] = 92 then (if (escW (s.data.toList.drop 1)).2 = 0 then (0, 0, 13) else ((escW (s.data.toList.drop 1)).1, (escW (s.data.toList.drop 1)).2 + 1, 0)) else (s[0], 1, 0) := by
    unfold readW
    rw [if_neg HG]
  by_cases h9 : s[0].toNat = 9
  · have d1 : decide ((s[0].toNat : Int) < 32) = true := by simp; omega
    have d2 : ((s[0].toNat : Int) != 9) = false := by simp; omega
    have d3 : ((s[0].toNat : Int) == 127) = false := by simp; omega
    have d4 : ((s[0].toNat : Int) != 92) = true := by simp; omega
    have HR : Hid (readW s[0] (s.data.toList.drop 1) = (s[0], 1, 0)) := by show _ = _; rw [HU2, if_neg (ne_of_nat (by rw [h9]; decide))]
    clear HU HU2 HG h1 h2 h9
    go_enter Tryz.func107, Tryz.ntmps107
    go_wp2_with fail
    refine bodyPost_ret (results_tmp3 rfl _ _ _) rfl ?_
    rw [HR.out]
    exact ⟨rfl, rfl⟩
  have d1 : decide ((s[0].toNat : Int) < 32) = false := by simp; omega
  have d3 : ((s[0].toNat : Int) == 127) = false := by simp; omega
  by_cases h92 : s[0].toNat = 92
  · have d4 : ((s[0].toNat : Int) != 92) = false := by simp; omega
    rw [if_pos (byte_eq.2 h92)] at HU2
    by_cases hz : (escW (s.data.toList.drop 1)).2 = 0
    · have HR : Hid (readW s[0] (s.data.toList.drop 1) = (0, 0, 13)) := by show _ = _; rw [HU2, if_pos hz]
      have HE : Hid ((escPS s).2 = 0) := by show _ = _; unfold escPS escP; rw [if_pos hz]
      clear HU HU2 HG h1 h2 h9 h92 hz
      go_enter Tryz.func107, Tryz.ntmps107
      go_wp2_with fail
      refine (readEscape_any _ hm0 _).mono ?_
      rintro e w' ⟨rfl, rfl⟩
      rw [HE.out]
      go_wp2_with fail
      refine bodyPost_ret (results_tmp3 rfl _ _ _) rfl ?_
      rw [HR.out]
      exact ⟨rfl, rfl⟩
    · have HR : Hid (readW s[0] (s.data.toList.drop 1) = ((escPS s).1, (escPS s).2, 0)) := by show _ = _; rw [HU2, if_neg hz]; unfold escPS escP; rw [if_neg hz]
      have HE : Hid ((((escPS s).2 : Int) == 0) = false) := by show _ = _; unfold escPS escP; rw [if_neg hz]; simp; omega
      clear HU HU2 HG h1 h2 h9 h92 hz
      go_enter Tryz.func107, Tryz.ntmps107
      go_wp2_with fail
      refine (readEscape_any _ hm0 _).mono ?_
      rintro e w' ⟨rfl, rfl⟩
      have he := HE.out
      go_wp2_with fail
      refine bodyPost_ret (results_tmp3 rfl _ _ _) rfl ?_
      rw [HR.out]
      exact ⟨rfl, rfl⟩
  · have d4 : ((s[0].toNat : Int) != 92) = true := by simp; omega
    have HR : Hid (readW s[0] (s.data.toList.drop 1) = (s[0], 1, 0)) := by show _ = _; rw [HU2, if_neg (ne_of_nat h92)]
    clear HU HU2 HG h1 h2 h9 h92
    go_enter Tryz.func107, Tryz.ntmps107
    go_wp2_with fail
    refine bodyPost_ret (results_tmp3 rfl _ _ _) rfl ?_
    rw [HR.out]
    exact ⟨rfl, rfl⟩
end Go.Proofs.YtadifolonbkamaaGreatDoor.Wd
