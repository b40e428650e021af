/- The walks of package words' hexByte, readEscape, readByte, isPrintable. The walks of the splitter's endWord and take. -/
import Derived.Test.YtadifolonbkamaaGreatDoorKvay
import Derived.Test.YtadifolonbkamaaGreatDoorKvaa
import Derived.Test.YtadifolonbkamaaGreatDoorKvac
import Derived.Laws.BitsAllLaws
import Derived.Laws.BitsLemmas
import Derived.Test.YtadifolonbkamaaGreatDoorKvab
import Derived.Test.YtadifolonbkamaaGreatDoorKvap
import Derived.Deep.AppendLies
import Derived.Deep.RegionLaw
import Derived.Deep.DrawnRows
import Derived.Laws.IdiomStrings
namespace Go.Proofs.YtadifolonbkamaaGreatDoor.Wd
open Go.RowKit
def hexIW (c : UInt8) : Int := Lib.indexByte [48, 49, 50, 51, 52, 53, 54, 55, 56, 57, 97, 98, 99, 100, 101, 102] c
theorem hexIW_eq (c : UInt8) : hexIW c = if hexW c < 16 then (hexW c : Int) else -1 := by
  have H : ∀ m : Fin 256, hexIW m.1.toUInt8 = if hexW m.1.toUInt8 < 16 then (hexW m.1.toUInt8 : Int) else -1 := by decide +kernel
  have e : c.toNat.toUInt8 = c := by simp
  have := H ⟨c.toNat, c.toNat_lt⟩
  rwa [e] at this
theorem hexIxW_any (c : UInt8) (w : World) :
    Calls Tryz.prog 176 #[.string ⟨#[48, 49, 50, 51, 52, 53, 54, 55, 56, 57, 97, 98, 99, 100, 101, 102]⟩, .int .u8 c.toNat] w fun e w' => e = .returned (.int .i64 (hexIW c)) ∧ w = w' := by
  refine (Tryz.strings_IndexByte _ _ _).mono ?_
  rintro e w' ⟨rfl, rfl⟩
  refine ⟨?_, rfl⟩
  unfold hexIW
  rw [show (((c.toNat : Nat) : Int)).toNat.toUInt8 = c by simp]
theorem or_hexW (a b : Nat) (ha : a < 16) (hb : b < 16) : bits .or .i64 ((a : Int) * 16) (b : Int) % 256 = 16 * (a : Int) + (b : Int) := by
  have H : ∀ a b : Fin 16, bits .or .i64 ((a.1 : Int) * 16) (b.1 : Int) % 256 = 16 * (a.1 : Int) + (b.1 : Int) := by decide +kernel
  exact H ⟨a, ha⟩ ⟨b, hb⟩
def two : List UInt8 → UInt8
  | a :: b :: _ => hex2 a b
  | _ => 0
def twoS (s : ByteArray) : UInt8 := two s.data.toList
theorem two_at (s : ByteArray) (h : 2 ≤ s.size) : twoS s = hex2 s[0] s[1] := by
  obtain ⟨⟨l⟩⟩ := s
  match l, h with
  | [], h => simp [ByteArray.size] at h
  | [_], h => simp [ByteArray.size] at h
  | _ :: _ :: _, _ => rfl
theorem two_short (s : ByteArray) (h : s.size < 2) : twoS s = 0 := by
  obtain ⟨⟨l⟩⟩ := s
  match l, h with
  | [], _ => rfl
  | [_], _ => rfl
  | _ :: _ :: _, h => simp [ByteArray.size] at h; omega
theorem escX_two (l : List UInt8) : escX l = if two l = 0 then (0, 0) else (two l, 3) := by
  match l with
  | [] => rfl
  | [_] => rfl
  | _ :: _ :: _ => rfl
theorem ret_u8 {a c : Int} (h : a = c) : Ending.returned (.int .u8 a) = .returned (.int .u8 c) := by rw [h]
set_option maxHeartbeats 2000000 in
theorem hexByteW_any (s : ByteArray) (hm : s.size ≤ maxLen) (w : World) :
    Calls Tryz.prog 154 #[.string s] w fun e w' => e = .returned (.int .u8 (twoS s).toNat) ∧ w = w' := by
  unfold maxLen at hm
  by_cases h2 : s.size < 2
  · rw [two_short s h2]
    go_enter Tryz.func154, Tryz.ntmps154
    go_wp2_with fail
    go_ret
    exact ⟨rfl, rfl⟩
  · have h2' : (2 : Int) ≤ s.size := by omega
    have h2t : decide ((s.size : Int) < 2) = false := by simp; omega
    have i0 : 0 < s.size := by omega
    have i1 : 1 < s.size := by omega
    rw [two_at s (by omega)]
    by_cases ha : hexW s[0] < 16
    · have A1 : Hid (hexIW s[0] = (hexW s[0] : Int)) := by show _ = _; rw [hexIW_eq, if_pos ha]
      by_cases hb : hexW s[1] < 16
      · have B1 : Hid (hexIW s[1] = (hexW s[1] : Int)) := by show _ = _; rw [hexIW_eq, if_pos hb]
        have HR : Hid (bits .or .i64 ((hexW s[0] : Int) * 16) (hexW s[1] : Int) % (256 : Int) = ((hex2 s[0] s[1]).toNat : Int)) := by
          show _ = _
          rw [or_hexW _ _ ha hb]
          unfold hex2
          rw [if_pos ⟨ha, hb⟩]
          simp
          omega
        generalize hexW s[0] = a at *
        generalize hexW s[1] = b at *
        go_enter Tryz.func154, Tryz.ntmps154
        go_wp2_with fail
        refine (hexIxW_any _ _).mono ?_
        rintro e w' ⟨rfl, rfl⟩
        rw [A1.out]
        go_wp2_with fail
        refine (hexIxW_any _ _).mono ?_
        rintro e w' ⟨rfl, rfl⟩
        rw [B1.out]
        go_wp2_with fail
        go_ret
        exact ⟨ret_u8 HR.out, rfl⟩
      · have B1 : Hid (hexIW s[1] = -1) := by show _ = _; rw [hexIW_eq, if_neg hb]
        have HR : Hid (hex2 s[0] s[1] = 0) := by show _ = _; unfold hex2; rw [if_neg (fun h => hb h.2)]
        clear hb
        generalize hexW s[0] = a at *
        go_enter Tryz.func154, Tryz.ntmps154
        go_wp2_with fail
        refine (hexIxW_any _ _).mono ?_
        rintro e w' ⟨rfl, rfl⟩
        rw [A1.out]
        go_wp2_with fail
        refine (hexIxW_any _ _).mono ?_
        rintro e w' ⟨rfl, rfl⟩
        rw [B1.out]
        go_wp2_with fail
        go_ret
        exact ⟨ret_u8 (by rw [HR.out]; rfl), rfl⟩
    · have A1 : Hid (hexIW s[0] = -1) := by show _ = _; rw [hexIW_eq, if_neg ha]
      have HR : Hid (hex2 s[0] s[1] = 0) := by show _ = _; unfold hex2; rw [if_neg (fun h => ha h.1)]
      clear ha
      go_enter Tryz.func154, Tryz.ntmps154
      go_wp2_with fail
      refine (hexIxW_any _ _).mono ?_
      rintro e w' ⟨rfl, rfl⟩
      rw [A1.out]
      go_wp2_with fail
      refine (hexIxW_any _ _).mono ?_
      rintro e w' ⟨rfl, rfl⟩
      go_wp2_with fail
      go_ret
      exact ⟨ret_u8 (by rw [HR.out]; rfl), rfl⟩
def escP (l : List UInt8) : UInt8 × Nat := ((escW (l.drop 1)).1, if (escW (l.drop 1)).2 = 0 then 0 else (escW (l.drop 1)).2 + 1)
def escPS (s : ByteArray) : UInt8 × Nat := escP s.data.toList
theorem escP_cons {l : List UInt8} {c : UInt8} {t : List UInt8} (h : l.drop 1 = c :: t) (b : UInt8) (n : Nat) (he : escW (c :: t) = (b, n)) : escP l = (b, if n = 0 then 0 else n + 1) := by
  unfold escP
  rw [h, he]
theorem byte_ne {c : UInt8} {k : Nat} (h : ¬ c.toNat = k) : ((c.toNat : Int) == (k : Int)) = false := by simp; omega
theorem byte_is {c : UInt8} {k : Nat} (h : c.toNat = k) : ((c.toNat : Int) == (k : Int)) = true := by simp; omega
theorem ne_of_nat {c d : UInt8} (h : ¬ c.toNat = d.toNat) : ¬ c = d := fun e => h (by rw [e])
set_option maxHeartbeats 4000000 in
theorem readEscape_any (s : ByteArray) (hm : s.size ≤ maxLen) (w : World) :
    Calls Tryz.prog 136 #[.string s] w fun e w' => e = .returned (.tuple #[.int .u8 (escPS s).1.toNat, .int .i64 (escPS s).2]) ∧ w = w' := by
  unfold maxLen at hm
  by_cases h2 : s.size < 2
  · have HR : Hid (escPS s = (0, 0)) := by
      show _ = _
      unfold escPS escP
      rw [List.drop_eq_nil_of_le (by simp; omega)]
      rfl
    go_enter Tryz.func136, Tryz.ntmps136
    go_wp2_with fail
    go_ret2
    rw [HR.out]
    exact ⟨rfl, rfl⟩
  have h2' : (2 : Int) ≤ s.size := by omega
  have h2t : decide ((s.size : Int) < 2) = false := by simp; omega
  have i1 : 1 < s.size := by omega
  have hd := drop_at s 1 i1
  have hlt := s[1].toNat_lt
  have E := escW_cons s[1] (s.data.toList.drop 2)
  have htl : twoS (s.extract 2 s.size) = two (s.data.toList.drop 2) := by unfold twoS; rw [tail_list]
  by_cases h92 : s[1].toNat = 92
  · have t1 := byte_is h92
    have hc : s[1] = 92 := byte_eq.2 h92
    have HR : Hid (escPS s = (92, 2)) := by show _ = _; rw [escPS, escP_cons hd s[1] 1 (by rw [E, if_pos (.inl hc)]), hc]; rfl
    clear E hd htl hc
    go_enter Tryz.func136, Tryz.ntmps136
    go_wp2_with fail
    go_ret2
    rw [HR.out]
    exact ⟨rfl, rfl⟩
  have t1 := byte_ne h92
  have n1 : ¬ s[1] = 92 := ne_of_nat h92
  by_cases h34 : s[1].toNat = 34
  · have t2 := byte_is h34
    have hc : s[1] = 34 := byte_eq.2 h34
    have HR : Hid (escPS s = (34, 2)) := by show _ = _; rw [escPS, escP_cons hd s[1] 1 (by rw [E, if_pos (.inr (.inl hc))]), hc]; rfl
    clear E hd htl hc n1
    go_enter Tryz.func136, Tryz.ntmps136
    go_wp2_with fail
    go_ret2
    rw [HR.out]
    exact ⟨rfl, rfl⟩
  have t2 := byte_ne h34
  have n2 : ¬ s[1] = 34 := ne_of_nat h34
  by_cases h39 : s[1].toNat = 39
  · have t3 := byte_is h39
    have hc : s[1] = 39 := byte_eq.2 h39
    have HR : Hid (escPS s = (39, 2)) := by show _ = _; rw [escPS, escP_cons hd s[1] 1 (by rw [E, if_pos (.inr (.inr hc))]), hc]; rfl
    clear E hd htl hc n1 n2
    go_enter Tryz.func136, Tryz.ntmps136
    go_wp2_with fail
    go_ret2
    rw [HR.out]
    exact ⟨rfl, rfl⟩
  have t3 := byte_ne h39
  have n3 : ¬ s[1] = 39 := ne_of_nat h39
  rw [if_neg (by rintro (h | h | h) <;> contradiction)] at E
  clear n1 n2 n3
  by_cases h110 : s[1].toNat = 110
  · have t4 := byte_is h110
    have hc : s[1] = 110 := byte_eq.2 h110
    have HR : Hid (escPS s = (10, 2)) := by show _ = _; rw [escPS, escP_cons hd 10 1 (by rw [E, if_pos hc])]; rfl
    clear E hd htl hc
    go_enter Tryz.func136, Tryz.ntmps136
    go_wp2_with fail
    go_ret2
    rw [HR.out]
    exact ⟨rfl, rfl⟩
  have t4 := byte_ne h110
  have n4 : ¬ s[1] = 110 := ne_of_nat h110
  rw [if_neg n4] at E
  clear n4
  by_cases h116 : s[1].toNat = 116
  · have t5 := byte_is h116
    have hc : s[1] = 116 := byte_eq.2 h116
    have HR : Hid (escPS s = (9, 2)) := by show _ = _; rw [escPS, escP_cons hd 9 1 (by rw [E, if_pos hc])]; rfl
    clear E hd htl hc
    go_enter Tryz.func136, Tryz.ntmps136
    go_wp2_with fail
    go_ret2
    rw [HR.out]
    exact ⟨rfl, rfl⟩
  have t5 := byte_ne h116
  have n5 : ¬ s[1] = 116 := ne_of_nat h116
  rw [if_neg n5] at E
  clear n5
  by_cases h115 : s[1].toNat = 115
  · have t6 := byte_is h115
    have hc : s[1] = 115 := byte_eq.2 h115
    have HR : Hid (escPS s = (32, 2)) := by show _ = _; rw [escPS, escP_cons hd 32 1 (by rw [E, if_pos hc])]; rfl
    clear E hd htl hc
    go_enter Tryz.func136, Tryz.ntmps136
    go_wp2_with fail
    go_ret2
    rw [HR.out]
    exact ⟨rfl, rfl⟩
  have t6 := byte_ne h115
  have n6 : ¬ s[1] = 115 := ne_of_nat h115
  rw [if_neg n6] at E
  clear n6
  by_cases h120 : s[1].toNat = 120
  · have t7 := byte_is h120
    have hc : s[1] = 120 := byte_eq.2 h120
    rw [if_pos hc, escX_two] at E
    have hsz : (s.extract 2 s.size).size ≤ maxLen := by rw [ByteArray.size_extract]; unfold maxLen; omega
    have b2 : (2 : Int) ≤ (s.size : Int) := h2'
    by_cases hz : two (s.data.toList.drop 2) = 0
    · have HR : Hid (escPS s = (0, 0)) := by show _ = _; rw [escPS, escP_cons hd 0 0 (by rw [E, if_pos hz])]; rfl
      have HT : Hid (twoS (s.extract 2 s.size) = 0) := by show _ = _; rw [htl]; exact hz
      clear E hd htl hc hz
      go_enter Tryz.func136, Tryz.ntmps136
      go_wp2_with fail
      refine (hexByteW_any _ hsz _).mono ?_
      rintro e w' ⟨rfl, rfl⟩
      rw [HT.out]
      go_wp2_with fail
      go_ret2
      rw [HR.out]
      exact ⟨rfl, rfl⟩
    · have HR : Hid (escPS s = (twoS (s.extract 2 s.size), 4)) := by show _ = _; rw [escPS, escP_cons hd _ 3 (by rw [E, if_neg hz])]; rw [htl]; rfl
      have HT : Hid ((((twoS (s.extract 2 s.size)).toNat : Int) != 0) = true) := by
        show _ = _
        rw [htl]
        simp
        intro e
        exact hz (byte_eq.2 (by simpa using e))
      clear E hd htl hc hz
      go_enter Tryz.func136, Tryz.ntmps136
      go_wp2_with fail
      refine (hexByteW_any _ hsz _).mono ?_
      rintro e w' ⟨rfl, rfl⟩
      have ht := HT.out
      go_wp2_with fail
      go_ret2
      rw [HR.out]
      exact ⟨rfl, rfl⟩
  · have t7 := byte_ne h120
    have n7 : ¬ s[1] = 120 := ne_of_nat h120
    rw [if_neg n7] at E
    have HR : Hid (escPS s = (0, 0)) := by show _ = _; rw [escPS, escP_cons hd 0 0 E]; rfl
    clear E hd htl n7
    go_enter Tryz.func136, Tryz.ntmps136
    go_wp2_with fail
    go_ret2
    rw [HR.out]
    exact ⟨rfl, rfl⟩
def readP (l : List UInt8) : UInt8 × Nat × Nat := match l with | [] => (0, 0, 0) | c :: t => readW c t
def readPS (s : ByteArray) : UInt8 × Nat × Nat := readP s.data.toList
theorem readP_at (s : ByteArray) (h : 0 < s.size) : readPS s = readW s[0] (s.data.toList.drop 1) := by
  have := drop_at s 0 h
  rw [List.drop_zero] at this
  unfold readPS
  rw [this]; rfl
set_option maxHeartbeats 4000000 in
theorem readByte_any (s : ByteArray) (hm : s.size ≤ maxLen) (h0 : 0 < s.size) (w : World) :
    Calls Tryz.prog 107 #[.string s] w fun e w' => e = .returned (.tuple #[.int .u8 (readPS s).1.toNat, .int .i64 (readPS s).2.1, .int .i64 (readPS s).2.2]) ∧ w = w' := by
  have hm0 := hm
  unfold maxLen at hm
  have hlt := s[0].toNat_lt
  have hb : (0 : Int) < s.size := by omega
  rw [readP_at s h0]
  have HU := Lib.hid (show readW s[0] (s.data.toList.drop 1) = _ from rfl)
  by_cases h1 : s[0].toNat < 32 ∧ ¬ s[0].toNat = 9
  · have d1 : decide ((s[0].toNat : Int) < 32) = true := by simp; omega
    have d2 : ((s[0].toNat : Int) != 9) = true := by simp; omega
    have HR : Hid (readW s[0] (s.data.toList.drop 1) = (0, 0, 1)) := by
      show _ = _
      unfold readW badW
      rw [if_pos]
      have : (s[0] == 9) = false := by simp only [beq_eq_false_iff_ne]; exact ne_of_nat h1.2
      rw [this]
      simp [h1.1]
    clear HU h1
    go_enter Tryz.func107, Tryz.ntmps107
    go_wp2_with fail
    refine bodyPost_ret (results_tmp3 rfl _ _ _) rfl ?_
    rw [HR.out]
    exact ⟨rfl, rfl⟩
  by_cases h2 : s[0].toNat = 127
  · have d1 : decide ((s[0].toNat : Int) < 32) = false := by simp; omega
    have d2 : ((s[0].toNat : Int) == 127) = true := by simp; omega
    have HR : Hid (readW s[0] (s.data.toList.drop 1) = (0, 0, 1)) := by
      show _ = _
      unfold readW badW
      rw [if_pos]
      have : s[0] = 127 := byte_eq.2 h2
      rw [this]
      rfl
    clear HU h1 h2
    go_enter Tryz.func107, Tryz.ntmps107
    go_wp2_with fail
    refine bodyPost_ret (results_tmp3 rfl _ _ _) rfl ?_
    rw [HR.out]
    exact ⟨rfl, rfl⟩
  have HG : ¬ badW s[0] = true := by
    unfold badW
    simp only [Bool.or_eq_true, Bool.and_eq_true, decide_eq_true_eq, Bool.not_eq_true', beq_eq_false_iff_ne, ne_eq, beq_iff_eq, not_or]
    refine ⟨fun h => h1 ⟨h.1, fun e => h.2 (byte_eq.2 e)⟩, ne_of_nat h2⟩
  have HU2 : readW s[0] (s.data.toList.drop 1) = if s[0] = 92 then (if (escW (s.data.toList.drop 1)).2 = 0 then (0, 0, 13) else ((escW (s.data.toList.drop 1)).1, (escW (s.data.toList.drop 1)).2 + 1, 0)) else (s[0], 1, 0) := by
    unfold readW
    rw [if_neg HG]
  by_cases h9 : s[0].toNat = 9
  · have d1 : decide ((s[0].toNat : Int) < 32) = true := by simp; omega
    have d2 : ((s[0].toNat : Int) != 9) = false := by simp; omega
    have d3 : ((s[0].toNat : Int) == 127) = false := by simp; omega
    have d4 : ((s[0].toNat : Int) != 92) = true := by simp; omega
    have HR : Hid (readW s[0] (s.data.toList.drop 1) = (s[0], 1, 0)) := by show _ = _; rw [HU2, if_neg (ne_of_nat (by rw [h9]; decide))]
    clear HU HU2 HG h1 h2 h9
    go_enter Tryz.func107, Tryz.ntmps107
    go_wp2_with fail
    refine bodyPost_ret (results_tmp3 rfl _ _ _) rfl ?_
    rw [HR.out]
    exact ⟨rfl, rfl⟩
  have d1 : decide ((s[0].toNat : Int) < 32) = false := by simp; omega
  have d3 : ((s[0].toNat : Int) == 127) = false := by simp; omega
  by_cases h92 : s[0].toNat = 92
  · have d4 : ((s[0].toNat : Int) != 92) = false := by simp; omega
    rw [if_pos (byte_eq.2 h92)] at HU2
    by_cases hz : (escW (s.data.toList.drop 1)).2 = 0
    · have HR : Hid (readW s[0] (s.data.toList.drop 1) = (0, 0, 13)) := by show _ = _; rw [HU2, if_pos hz]
      have HE : Hid ((escPS s).2 = 0) := by show _ = _; unfold escPS escP; rw [if_pos hz]
      clear HU HU2 HG h1 h2 h9 h92 hz
      go_enter Tryz.func107, Tryz.ntmps107
      go_wp2_with fail
      refine (readEscape_any _ hm0 _).mono ?_
      rintro e w' ⟨rfl, rfl⟩
      rw [HE.out]
      go_wp2_with fail
      refine bodyPost_ret (results_tmp3 rfl _ _ _) rfl ?_
      rw [HR.out]
      exact ⟨rfl, rfl⟩
    · have HR : Hid (readW s[0] (s.data.toList.drop 1) = ((escPS s).1, (escPS s).2, 0)) := by show _ = _; rw [HU2, if_neg hz]; unfold escPS escP; rw [if_neg hz]
      have HE : Hid ((((escPS s).2 : Int) == 0) = false) := by show _ = _; unfold escPS escP; rw [if_neg hz]; simp; omega
      clear HU HU2 HG h1 h2 h9 h92 hz
      go_enter Tryz.func107, Tryz.ntmps107
      go_wp2_with fail
      refine (readEscape_any _ hm0 _).mono ?_
      rintro e w' ⟨rfl, rfl⟩
      have he := HE.out
      go_wp2_with fail
      refine bodyPost_ret (results_tmp3 rfl _ _ _) rfl ?_
      rw [HR.out]
      exact ⟨rfl, rfl⟩
  · have d4 : ((s[0].toNat : Int) != 92) = true := by simp; omega
    have HR : Hid (readW s[0] (s.data.toList.drop 1) = (s[0], 1, 0)) := by show _ = _; rw [HU2, if_neg (ne_of_nat h92)]
    clear HU HU2 HG h1 h2 h9 h92
    go_enter Tryz.func107, Tryz.ntmps107
    go_wp2_with fail
    refine bodyPost_ret (results_tmp3 rfl _ _ _) rfl ?_
    rw [HR.out]
    exact ⟨rfl, rfl⟩
end Go.Proofs.YtadifolonbkamaaGreatDoor.Wd
namespace Go.Proofs.YtadifolonbkamaaGreatDoor.Wd
open Go.Proofs.YtadifolonbkamaaGreatDoor.Ca
open Go.RowKit
theorem strInfoW : (Tryz.prog.info? 9).map (fun i => (i.zero, i.size, i.bytes)) = some (some (.string ⟨#[]⟩), 1, 16) := by kernel_rfl
theorem byteInfoW : (Tryz.prog.info? 5).map (fun i => (i.zero, i.size, i.bytes)) = some (some (.int .u8 0), 1, 1) := by kernel_rfl
theorem conv_rowW (w : World) (B : Nat) (v : Value) (l : List UInt8) (h : w.ownsRow B 5 1 v l.length (Lib.byteCells l)) :
    (convert 120 9 v).run Tryz.prog w = .ok (.string (str l)) w := by
  have h' := h
  rcases h.2 with ⟨rfl, h0⟩ | ⟨g, cap, cur, rfl, _⟩
  · have : l = [] := List.eq_nil_of_length_eq_zero (by omega)
    subst this
    exact run_convert_bytes_nil w _ _ Tryz.underlying120 Tryz.underlying5 0 0 _ Tryz.underlying9
  · refine run_convert_bytes_back w _ _ _ _ cap l Tryz.underlying120 Tryz.underlying5 Tryz.underlying9 fun j hj => ?_
    refine h'.cells (g := g) rfl j _ ?_
    unfold Lib.byteCells
    rw [List.getElem?_map, List.getElem?_eq_getElem hj]
    rfl
section
variable {w w' : World} {g : Nat} {t : TypeId} {cs : Array Value}
theorem Blk.setAt (h : Blk w g t cs) (i : Nat) (u : Value) : Blk (w.setCell ⟨g, i, none⟩ u) g t (cs.setIfInBounds i u) := by
  unfold Blk at h ⊢
  simp [World.setCell, Array.getElem?_modify, h]
theorem Blk.grownW {row : Option Nat} (h : Blk w g t cs) (hb : w.grownBy w' row) (hg : some g ≠ row) : Blk w' g t cs := (hb.block g h.lt hg).trans h
theorem Blk.neq {g' : Nat} {t' : TypeId} {cs' : Array Value} (h : Blk w g t cs) (h' : Blk w g' t' cs') (hne : t ≠ t') : g ≠ g' := by
  rintro rfl
  unfold Blk at h h'
  rw [h] at h'
  injection h' with h'
  injection h' with _ ht
  exact hne ht
theorem own_blk_neW {base : Nat} {e : TypeId} {size n : Nat} {v : Value} {xs : List Value} (h : w.ownsRow base e size v n xs) (hg : Blk w g t cs) (hne : e ≠ t) : v.ownBlock ≠ some g := by
  rcases h.2 with ⟨rfl, _⟩ | ⟨g', cap, cur, rfl, _, hh, _⟩
  · simp [Value.ownBlock]
  · intro he
    have : g' = g := by simpa [Value.ownBlock] using he
    subst this
    exact Blk.neq (t := e) hh hg hne rfl
end
def SpB (w : World) (p : Nat) (v u : Value) (b : Bool) (q : UInt8) : Prop := Blk w p 140 #[v, .bool b, u, .int .u8 q.toNat]
def SpAt (w : World) (B p : Nat) (st : List (List UInt8) × Option (List UInt8) × UInt8) : Prop :=
  ∃ v u : Value, SpB w p v u st.2.1.isSome st.2.2 ∧ B ≤ p ∧ w.ownsRow B 9 1 v st.1.length (wcells st.1) ∧ w.ownsRow B 5 1 u (st.2.1.getD []).length (Lib.byteCells (st.2.1.getD []))
theorem SpB.cells {w : World} {p : Nat} {v u : Value} {b : Bool} {q : UInt8} (h : SpB w p v u b q) : w.cell? ⟨p, 0, none⟩ = some v ∧ w.cell? ⟨p, 1, none⟩ = some (.bool b) ∧ w.cell? ⟨p, 2, none⟩ = some u ∧ w.cell? ⟨p, 3, none⟩ = some (.int .u8 q.toNat) ∧
    w.frozen? ⟨p, 0, none⟩ = false ∧ w.frozen? ⟨p, 1, none⟩ = false ∧ w.frozen? ⟨p, 2, none⟩ = false ∧ w.frozen? ⟨p, 3, none⟩ = false :=
  ⟨Blk.cell h 0, Blk.cell h 1, Blk.cell h 2, Blk.cell h 3, Blk.frozen h 0, Blk.frozen h 1, Blk.frozen h 2, Blk.frozen h 3⟩
theorem own_setCell {w : World} {B p i n : Nat} {e t : TypeId} {v u : Value} {xs : List Value} {cs : Array Value} (h : w.ownsRow B e 1 v n xs) (hp : Blk w p t cs) (hne : e ≠ t) : (w.setCell ⟨p, i, none⟩ u).ownsRow B e 1 v n xs := by
  refine ⟨h.1, ?_⟩
  rcases h.2 with h2 | ⟨g, cap, cur, rfl, h1, h2, h3⟩
  · exact .inl h2
  · refine .inr ⟨g, cap, cur, rfl, h1, ?_, h3⟩
    have : g ≠ p := Blk.neq (t := e) h2 hp hne
    rw [← h2]
    exact Below.heap_setCell w ⟨p, i, none⟩ u g this
theorem own_other {w w' : World} {B n m : Nat} {e t : TypeId} {v x : Value} {xs ys : List Value} (h : w.ownsRow B e 1 v n xs) (hx : w.ownsRow B t 1 x m ys) (hne : e ≠ t) (hg : w.grownBy w' x.ownBlock) : w'.ownsRow B e 1 v n xs := by
  refine ⟨h.1, ?_⟩
  rcases h.2 with h2 | ⟨g, cap, cur, rfl, h1, h2, h3⟩
  · exact .inl h2
  · refine .inr ⟨g, cap, cur, rfl, h1, ?_, h3⟩
    rw [← h2]
    refine hg.block g (Blk.lt (t := e) h2) ?_
    intro e2
    rcases hx.2 with ⟨rfl, _⟩ | ⟨g', cap', cur', rfl, _, h4, _⟩
    · cases e2
    · have e3 : g = g' := by simpa [Value.ownBlock] using e2
      subst e3
      exact Blk.neq (t := e) (g := g) (g' := g) h2 h4 hne rfl
theorem own_cut0 {w : World} {B g n cap : Nat} {e : TypeId} {xs : List Value} (h : w.ownsRow B e 1 (.slice (some ⟨g, 0, none⟩) n cap) n xs) : w.ownsRow B e 1 (.slice (some ⟨g, 0, none⟩) 0 cap) 0 [] := by
  refine ⟨rfl, ?_⟩
  rcases h.2 with ⟨h2, _⟩ | ⟨g', cap', cur, h0, h1, h2, h3, h4, h5, h6⟩
  · cases h2
  · injection h0 with h0 h00 h01
    injection h0 with h0
    injection h0 with h0
    subst h0
    subst h01
    exact .inr ⟨g, cap, cur, rfl, h1, h2, Nat.zero_le _, h4, h5, by simp⟩
theorem SpB.put0 {w : World} {p : Nat} {v u : Value} {b : Bool} {q : UInt8} (h : SpB w p v u b q) (x : Value) : SpB (w.setCell ⟨p, 0, none⟩ x) p x u b q := Blk.setAt h 0 x
theorem SpB.put1 {w : World} {p : Nat} {v u : Value} {b : Bool} {q : UInt8} (h : SpB w p v u b q) (x : Bool) : SpB (w.setCell ⟨p, 1, none⟩ (.bool x)) p v u x q := Blk.setAt h 1 (.bool x)
theorem SpB.put2 {w : World} {p : Nat} {v u : Value} {b : Bool} {q : UInt8} (h : SpB w p v u b q) (x : Value) : SpB (w.setCell ⟨p, 2, none⟩ x) p v x b q := Blk.setAt h 2 x
theorem SpB.put3 {w : World} {p : Nat} {v u : Value} {b : Bool} {q : UInt8} (h : SpB w p v u b q) (x : UInt8) : SpB (w.setCell ⟨p, 3, none⟩ (.int .u8 x.toNat)) p v u b x := Blk.setAt h 3 (.int .u8 x.toNat)
theorem SpB.grown {w w' : World} {B p n : Nat} {e : TypeId} {v u x : Value} {b : Bool} {q : UInt8} {xs : List Value} (h : SpB w p v u b q) (hx : w.ownsRow B e 1 x n xs) (hne : e ≠ 140) (hg : w.grownBy w' x.ownBlock) : SpB w' p v u b q :=
  Blk.grownW h hg (fun e2 => own_blk_neW hx h hne e2.symm)
theorem spAt_end {w w0 : World} {B p n : Nat} {v u : Value} {q : UInt8} {ws : List (List UInt8)} {c x0 : List UInt8} (hp : SpB w p v u true q) (hB : B ≤ p) (hv : w.ownsRow B 9 1 v (ws.length + 1) (wcells ws ++ [.string (str c)])) (_ : w.ownsRow B 5 1 u n (Lib.byteCells x0)) (hb : Below B w0 w)
    (x : Value) (hx : w.ownsRow B 5 1 x 0 []) : SpAt ((w.setCell ⟨p, 2, none⟩ x).setCell ⟨p, 1, none⟩ (.bool false)) B p (ws ++ [c], none, q) ∧ Below B w0 ((w.setCell ⟨p, 2, none⟩ x).setCell ⟨p, 1, none⟩ (.bool false)) := by
  have h1 := hp.put2 x
  refine ⟨⟨v, x, h1.put1 false, hB, ?_, own_setCell (own_setCell hx hp (by decide)) h1 (by decide)⟩, (hb.setCell (p := ⟨p, 2, none⟩) hB _).setCell (p := ⟨p, 1, none⟩) hB _⟩
  have e : wcells (ws ++ [c]) = wcells ws ++ [.string (str c)] := wcells_app ws [c]
  rw [e, List.length_append]
  exact own_setCell (own_setCell hv hp (by decide)) h1 (by decide)
set_option maxHeartbeats 4000000 in
theorem endWord_none (B p : Nat) (ws : List (List UInt8)) (q : UInt8) (w : World) (h : SpAt w B p (ws, none, q)) :
    Calls Tryz.prog 109 #[.pointer (some ⟨p, 0, none⟩)] w fun e w' => e = .returned (.tuple #[]) ∧ w = w' := by
  obtain ⟨v, u, hp, _, _, _⟩ := h
  obtain ⟨c0, c1, c2, c3, f0, f1, f2, f3⟩ := hp.cells
  go_enter Tryz.func109, Tryz.ntmps109
  go_wp2_with fail
  go_end0
  exact ⟨rfl, rfl⟩
set_option maxHeartbeats 4000000 in
theorem endWord_some (B p : Nat) (ws : List (List UInt8)) (c : List UInt8) (q : UInt8) (w : World) (h : SpAt w B p (ws, some c, q)) (hB : B ≤ w.heap.size) (hl : ws.length ≤ 100000) :
    Calls Tryz.prog 109 #[.pointer (some ⟨p, 0, none⟩)] w fun e w' => e = .returned (.tuple #[]) ∧ (SpAt w' B p (ws ++ [c], none, q) ∧ Below B w w') := by
  obtain ⟨i0, hi, hz0, hz1, hz2⟩ := info_parts strInfoW
  obtain ⟨v, u, hp, hBp, hv, hu⟩ := h
  obtain ⟨c0, c1, c2, c3, f0, f1, f2, f3⟩ := hp.cells
  have hpl : p < w.heap.size := Blk.lt hp
  have hcv := conv_rowW w.drew B u c hu
  have HP := Lib.hid hp
  have HV := Lib.hid hv
  have HU := Lib.hid hu
  clear hp hv hu
  have hz63 : ws.length + 1 ≤ maxLen := by unfold maxLen; omega
  have hz47 : (ws.length + 1) * 16 ≤ 140737488355328 := by omega
  have hzb : B ≤ (w.alloc (.cells #[.string (str c)] 9)).drew.heap.size := by simp; omega
  have hnw : ∀ (j : Nat) (x : Value), [Value.string (str c)][j]? = some x → (w.alloc (.cells #[.string (str c)] 9)).drew.cell? ((⟨w.heap.size, 0, none⟩ : Addr).add j) = some x := by
    intro j x hj
    match j, hj with
    | 0, hj => simp at hj; subst hj; simp [Addr.add]
  have hone : ∀ x ∈ [Value.string (str c)], x.oneCell' = true := by intro x hx; simp at hx; subst hx; rfl
  have Hnw := Lib.hid hnw
  have Hone := Lib.hid hone
  clear hnw hone
  go_enter Tryz.func109, Tryz.ntmps109
  go_wp2_with fail
  have HPa : Hid (SpB (w.alloc (.cells #[.string (str c)] 9)).drew p v u true q) := Blk.alloc HP.out _
  have HVa : Hid ((w.alloc (.cells #[.string (str c)] 9)).drew.ownsRow B 9 1 v ws.length (wcells ws)) := (HV.out.alloc _).drew
  have HUa : Hid ((w.alloc (.cells #[.string (str c)] 9)).drew.ownsRow B 5 1 u c.length (Lib.byteCells c)) := (HU.out.alloc _).drew
  have HBa : Hid (Below B w (w.alloc (.cells #[.string (str c)] 9)).drew) := below_drewN ((Below.refl B w).alloc hB (.cells #[.string (str c)] 9)) 1
  go_region_law (refine step_append_lies _ (by rfl) _ _ 26 (by rfl) B 9 i0 (.string ⟨#[]⟩) 1 16 Tryz.underlying26 hi hz0 hz1 hz2 rfl (by decide) _ ws.length (wcells ws) (by rfl) HVa.out ⟨w.heap.size, 0, none⟩ 1 1 [.string (str c)] (by rfl) rfl Hnw.out Hone.out (by decide) hz63 hz47 hzb _ rfl ?_; intro g cap w1 hown1 hgrow hat1 hlt1; have HP1 := Lib.hid (SpB.grown HPa.out HVa.out (by decide) hgrow); have HU1 := Lib.hid (own_other HUa.out HVa.out (by decide) hgrow); have HB1 := Lib.hid (HBa.out.grown hgrow hzb (fun k hk => (HVa.out.lt k hk).1)); obtain ⟨d0, d1, d2, d3, e0, e1, e2, e3⟩ := HP1.out.cells; have HO1 := Lib.hid hown1; clear hown1 hgrow hat1)
  all_goals
    have HP2 := Lib.hid (HP1.out.put0 (.slice (some ⟨g, 0, none⟩) (ws.length + 1) cap))
    have HU2 := Lib.hid (own_setCell (i := 0) (u := .slice (some ⟨g, 0, none⟩) (ws.length + 1) cap) HU1.out HP1.out (by decide))
    have HO2 := Lib.hid (own_setCell (i := 0) (u := .slice (some ⟨g, 0, none⟩) (ws.length + 1) cap) HO1.out HP1.out (by decide))
    have HB2 := Lib.hid (HB1.out.setCell (p := ⟨p, 0, none⟩) hBp (.slice (some ⟨g, 0, none⟩) (ws.length + 1) cap))
    clear d0 d1 d2 d3 e0 e1 e2 e3 c0 c1 c2 c3 f0 f1 f2 f3
    generalize w1.setCell ⟨p, 0, none⟩ (.slice (some ⟨g, 0, none⟩) (ws.length + 1) cap) = w2 at *
    obtain ⟨d0, d1, d2, d3, e0, e1, e2, e3⟩ := HP2.out.cells
    rcases HU2.out.2 with ⟨rfl, h0⟩ | ⟨g', cap', cur, rfl, _, _, _, h4, _⟩
    · have HX := Lib.hid (spAt_end HP2.out hBp HO2.out HU2.out HB2.out (.slice none 0 0) (World.ownsRow_nil _ _ _ _))
      go_wp2_with fail
      go_end0
      exact ⟨rfl, HX.out⟩
    · have HX := Lib.hid (spAt_end HP2.out hBp HO2.out HU2.out HB2.out (.slice (some ⟨g', 0, none⟩) 0 cap') (own_cut0 HU2.out))
      go_wp2_with fail
      go_end0
      exact ⟨rfl, HX.out⟩
theorem endWord_any (B p : Nat) (ws : List (List UInt8)) (cur : Option (List UInt8)) (q : UInt8) (w : World) (h : SpAt w B p (ws, cur, q)) (hB : B ≤ w.heap.size) (hl : ws.length ≤ 100000) :
    Calls Tryz.prog 109 #[.pointer (some ⟨p, 0, none⟩)] w fun e w' => e = .returned (.tuple #[]) ∧ (SpAt w' B p (endW ws cur, none, q) ∧ Below B w w') := by
  cases cur with
  | none =>
    refine (endWord_none B p ws q w h).mono ?_
    rintro e w' ⟨rfl, rfl⟩
    exact ⟨rfl, h, Below.refl _ _⟩
  | some c => exact endWord_some B p ws c q w h hB hl
end Go.Proofs.YtadifolonbkamaaGreatDoor.Wd
