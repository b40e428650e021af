/- The walk of the document's own Spec. -/
import Derived.Test.YtjoedgkmpklhfaaExC
namespace Go.Proofs.Ytjoedgkmpklhfaa
open Go.RowKit

theorem good_kind (s : ByteArray) : decide (0 < kindP s) = goodP s := by
  unfold kindP
  rcases h : goodP s with _ | _
  · rw [if_neg (by simp)]; rfl
  · rw [if_pos rfl]
    have hk : kindS (tailP s) ≠ 0 := by
      unfold goodP at h
      simp only [Bool.and_eq_true, decide_eq_true_eq] at h
      exact h.2.2.1
    have : 0 < kindS (tailP s) := by
      unfold kindS at *
      rcases kindL_cases (tailP s).data.toList with h1 | h1
      · exact absurd h1 hk
      · omega
    simpa using this

theorem fld0 (k : Int) (p i : ByteArray) (a : Bool) (w : World) : (Instr.field 53 (.agg #[.int .i64 k, .string p, .string i, .bool a]) 0).run Try.prog w = .ok (.int .i64 k) w := by kernel_rfl
theorem fld2 (k : Int) (p i : ByteArray) (a : Bool) (w : World) : (Instr.field 53 (.agg #[.int .i64 k, .string p, .string i, .bool a]) 2).run Try.prog w = .ok (.string i) w := by kernel_rfl
theorem fld3 (k : Int) (p i : ByteArray) (a : Bool) (w : World) : (Instr.field 53 (.agg #[.int .i64 k, .string p, .string i, .bool a]) 3).run Try.prog w = .ok (.bool a) w := by kernel_rfl

theorem kind_bad (s : ByteArray) : ((kindP s : Int) == 0) = !goodP s := by
  rw [← good_kind]
  have h : 0 ≤ kindP s := by
    unfold kindP
    split
    · unfold kindS; rcases kindL_cases (tailP s).data.toList with h1 | h1 <;> omega
    · omega
  rw [Bool.eq_iff_iff]
  simp
  omega

theorem good_kQ {u : ByteArray} (h : goodP u = true) : kQ u = kindP u ∧ kQ u ≠ 0 := by
  have h' := h
  unfold goodP at h
  simp only [Bool.and_eq_true, decide_eq_true_eq] at h
  obtain ⟨_, h1, h2, h3, _⟩ := h
  have h4 : 0 < (headP u).size := by
    rcases Nat.eq_zero_or_pos (headP u).size with e | e
    · exfalso
      apply h3
      unfold cutAt
      rw [show (headP u).data.toList = [] from List.eq_nil_of_length_eq_zero (by rw [size_list]; exact e)]
      rfl
    · exact e
  unfold kQ kindP
  rw [if_pos ⟨h1, h2, h4⟩, if_pos h']
  exact ⟨rfl, h2⟩
theorem head_cut {u : ByteArray} (h : goodP u = true) : (str (sfx (kindP u))).size + 1 < u.size ∧ u.extract 0 (u.size - (str (sfx (kindP u))).size - 1) = headP u := by
  obtain ⟨h1, h2⟩ := good_kQ h
  obtain ⟨h3, _, h4⟩ := kQ_hit u _ rfl h2
  rw [h1, endS_size] at h3 h4
  refine ⟨h3, ?_⟩
  rw [← h4]
  congr 1
/-- How far the text is read: acc is what stands for its first k bytes. -/
def specK (s u : ByteArray) (k : Nat) (acc : List UInt8) : Prop := specL (signV u) s.data.toList = (specL (signV u) (s.data.toList.drop k)).map (acc ++ ·)
theorem specK_zero (s u : ByteArray) : specK s u 0 [] := by unfold specK; simp
theorem specK_other {s u : ByteArray} {k : Nat} {acc : List UInt8} (h : specK s u k acc) (hk : k < s.size) (hc : s[k] ≠ 37) : specK s u (k + 1) (acc ++ [s[k]]) := by
  unfold specK at *
  rw [h, drop_at s k hk, specL_other _ hc, Option.map_map]
  congr 1
  funext z
  simp
theorem specK_last {s u : ByteArray} {k : Nat} {acc : List UInt8} (h : specK s u k acc) (hk : k < s.size) (hc : s[k] = 37) (hl : k + 1 = s.size) : specL (signV u) s.data.toList = none := by
  unfold specK at *
  rw [h, drop_at s k hk, hc, show s.data.toList.drop (k + 1) = [] from List.drop_of_length_le (by rw [size_list]; omega), specL_last]
  rfl
theorem specK_none {s u : ByteArray} {k : Nat} {acc : List UInt8} (h : specK s u k acc) (hk : k + 1 < s.size) (hc : s[k] = 37) (hv : signV u s[k + 1] = none) : specL (signV u) s.data.toList = none := by
  unfold specK at *
  rw [h, drop_at s k (by omega), hc, drop_at s (k + 1) hk, specL_none hv]
  rfl
theorem specK_sign {s u : ByteArray} {k : Nat} {acc v : List UInt8} (h : specK s u k acc) (hk : k + 1 < s.size) (hc : s[k] = 37) (hv : signV u s[k + 1] = some v) : specK s u (k + 2) (acc ++ v) := by
  unfold specK at *
  rw [h, drop_at s k (by omega), hc, drop_at s (k + 1) hk, specL_some hv, Option.map_map]
  congr 1
  funext z
  simp
theorem specK_end {s u : ByteArray} {k : Nat} {acc : List UInt8} (h : specK s u k acc) (hk : s.size ≤ k) : specL (signV u) s.data.toList = some acc := by
  unfold specK at *
  rw [h, List.drop_of_length_le (by rw [size_list]; exact hk)]
  simp [specL]
theorem str_app2 (a : List UInt8) (b : ByteArray) : str a ++ b = str (a ++ b.data.toList) := by
  rw [← str_app, str_data]

set_option maxHeartbeats 40000000 in
set_option maxRecDepth 100000 in
theorem rSpec_any (s u : ByteArray) (hs : s.size ≤ 4194304) (hu : u.size ≤ maxLen) (w : World) :
    Calls Try.prog 10 #[.string s, .string u] w fun e w' => e = .returned (.tuple #[.string (specS s u), .int .i64 (specE s u)]) ∧ Below w.heap.size w w' := by
  have hkb := kind_bad u
  rcases hg : goodP u with _ | _
  · have HN := Lib.hid (spec_bad (s := s) hg)
    have hk0 : ((kindP u : Int) == 0) = true := by rw [hkb, hg]; rfl
    clear hkb hg
    go_enter Try.func10, Try.ntmps10
    go_wp2_with fail
    refine (Of_any _ hu _).mono ?_
    rintro e w1 ⟨rfl, hb1⟩
    go_wp2_with fail
    go_ret2
    exact ⟨ret_si HN.out, hb1.alloc hb1.size _⟩
  have HG := Lib.hid hg
  obtain ⟨_, h60⟩ := pt_good hg
  have hk0 : ((kindP u : Int) == 0) = false := by rw [hkb, hg]; rfl
  have hat0 := Lib.hid (specK_zero s u)
  obtain ⟨hc1, hc2⟩ := head_cut hg
  have HC2 := Lib.hid hc2
  have hp60 := preP_size u
  have hi60 := instP_size u
  have hU60 : (unescS (instP u)).size ≤ 60 := by have := unescS_size (instP u); omega
  clear hkb hg hc2
  go_enter Try.func10, Try.ntmps10
  go_wp2_with fail
  refine (Of_any _ hu _).mono ?_
  rintro e w1 ⟨rfl, hb1⟩
  have HB0 : Hid (Below w.heap.size w (w1.alloc (.cells #[.int .i64 (kindP u), .string (preP u), .string (instP u), .bool (atP u)] 53))) := hb1.alloc hb1.size _
  have HK0 : Hid (Blk (w1.alloc (.cells #[.int .i64 (kindP u), .string (preP u), .string (instP u), .bool (atP u)] 53)) w1.heap.size 53 #[.int .i64 (kindP u), .string (preP u), .string (instP u), .bool (atP u)]) := Blk.new _ _ _
  have hs1 := hb1.size
  clear hb1
  go_wp2_with fail
  go_loopw [7, 8] (fun x i wr => ∃ (k : Nat) (acc : List UInt8), k ≤ s.size ∧ acc.length ≤ 60 * k ∧ x = .string (str acc) ∧ i = .int .i64 k ∧ Hid (specK s u k acc) ∧ Hid (Blk wr w1.heap.size 53 #[.int .i64 (kindP u), .string (preP u), .string (instP u), .bool (atP u)]) ∧ Hid (Below w.heap.size w wr)) (fun x i wr => s.size - (intOf i).toNat)
  case atStart => exact ⟨0, [], Nat.zero_le _, Nat.zero_le _, rfl, rfl, hat0, HK0, HB0⟩
  case round =>
    obtain ⟨k, acc, hk, hacc, rfl, rfl, hat, HK, HB⟩ := hrel
    obtain ⟨c0, c1, c2, c3, f0, f1, f2, f3⟩ := HK.out.four
    have hal : (str acc).size ≤ 60 * k := hacc
    by_cases hlt : k < s.size
    · have hr := s[k].toNat_lt
      have j0 : (0 : Int) ≤ (k : Int) := by omega
      have j1 : (k : Int) < (s.size : Int) := by omega
      have j2 : (k : Int) ≤ (k : Int) + 1 := by omega
      have j3 : (k : Int) + 1 ≤ (s.size : Int) := by omega
      have H1 := Lib.hid (one_slice s k hlt)
      have z1 : (s.extract k (k + 1)).size ≤ 1 := by rw [H1.out]; exact Nat.le_refl _
      by_cases hc : s[k] = 37
      · have p1 : ((s[k].toNat : Int) != 37) = false := by rw [hc]; rfl
        by_cases hlast : k + 1 = s.size
        · have HN := Lib.hid (spec_none HG.out (specK_last hat.out hlt hc hlast))
          have p2 : ((k : Int) + 1 == (s.size : Int)) = true := by simp; omega
          clear hc hlast
          go_wp2_with fail
          go_ret2
          exact ⟨ret_si HN.out, HB.out⟩
        · have hk2 : k + 1 < s.size := by omega
          have p2 : ((k : Int) + 1 == (s.size : Int)) = false := by simp; omega
          have p3 : (k : Int) + 1 < (s.size : Int) := by omega
          have p4 : (0 : Int) ≤ (k : Int) + 1 := by omega
          have hr2 := s[k + 1].toNat_lt
          by_cases h37 : s[k + 1] = 37
          · have HV : signV u s[k + 1] = some (⟨#[37]⟩ : ByteArray).data.toList := by unfold signV; rw [if_pos h37]
            have hat1 := Lib.hid (specK_sign hat.out hk2 hc HV)
            have HE : Hid (str acc ++ (⟨#[37]⟩ : ByteArray) = str (acc ++ (⟨#[37]⟩ : ByteArray).data.toList)) := str_app2 acc _
            have q37 : ((s[k + 1].toNat : Int) == 37) = true := by rw [h37]; rfl
            have zx : (⟨#[37]⟩ : ByteArray).size ≤ 60 := by decide
            clear HV hc hlast h37
            go_wp2_with fail
            go_roundw
            case rel => exact ⟨k + 2, _, by omega, by rw [List.length_append, size_list]; omega, by rw [← HE.out], by go_num, hat1, HK, HB⟩
            case measure => simp [intOf]; omega
          have q37 : ((s[k + 1].toNat : Int) == 37) = false := by simp; exact fun e => h37 (u8_eq (d := 37) e)
          by_cases h110 : s[k + 1] = 110
          · have HV : signV u s[k + 1] = some (u : ByteArray).data.toList := by unfold signV; rw [if_neg h37, if_pos h110]
            have hat1 := Lib.hid (specK_sign hat.out hk2 hc HV)
            have HE : Hid (str acc ++ (u : ByteArray) = str (acc ++ (u : ByteArray).data.toList)) := str_app2 acc _
            have q110 : ((s[k + 1].toNat : Int) == 110) = true := by rw [h110]; rfl
            have zx : (u : ByteArray).size ≤ 60 := h60
            clear HV hc hlast h37 h110
            go_wp2_with fail
            go_roundw
            case rel => exact ⟨k + 2, _, by omega, by rw [List.length_append, size_list]; omega, by rw [← HE.out], by go_num, hat1, HK, HB⟩
            case measure => simp [intOf]; omega
          have q110 : ((s[k + 1].toNat : Int) == 110) = false := by simp; exact fun e => h110 (u8_eq (d := 110) e)
          by_cases h78 : s[k + 1] = 78
          · have HV : signV u s[k + 1] = some (headP u : ByteArray).data.toList := by unfold signV; rw [if_neg h37, if_neg h110, if_pos h78]
            have hat1 := Lib.hid (specK_sign hat.out hk2 hc HV)
            have HE : Hid (str acc ++ (headP u : ByteArray) = str (acc ++ (headP u : ByteArray).data.toList)) := str_app2 acc _
            have q78 : ((s[k + 1].toNat : Int) == 78) = true := by rw [h78]; rfl
            have zx : (headP u : ByteArray).size ≤ 60 := by unfold headP; rw [ByteArray.size_extract]; omega
            rw [← HC2.out] at HE zx hat1
            have y0 : (0 : Int) ≤ (u.size : Int) - ((str (sfx (kindP u))).size : Int) - 1 := by omega
            have y1 : (u.size : Int) - ((str (sfx (kindP u))).size : Int) - 1 ≤ (u.size : Int) := by omega
            have y2 : (0 : Int) ≤ (u.size : Int) - ((str (sfx (kindP u))).size : Int) := by omega
            have y3 : ((u.size : Int) - ((str (sfx (kindP u))).size : Int) - 1).toNat = u.size - (str (sfx (kindP u))).size - 1 := by omega
            clear HV hc hlast h37 h110 h78
            go_wp2_with fail
            refine (rSuffix_any _ _).mono ?_
            rintro e w' ⟨rfl, rfl⟩
            go_wp2_with fail
            go_roundw
            case rel => exact ⟨k + 2, _, by omega, by rw [List.length_append, size_list]; omega, by rw [← HE.out], by go_num, hat1, HK, HB⟩
            case measure => simp [intOf]; omega
          have q78 : ((s[k + 1].toNat : Int) == 78) = false := by simp; exact fun e => h78 (u8_eq (d := 78) e)
          by_cases h112 : s[k + 1] = 112
          · have HV : signV u s[k + 1] = some (preP u : ByteArray).data.toList := by unfold signV; rw [if_neg h37, if_neg h110, if_neg h78, if_pos h112]
            have hat1 := Lib.hid (specK_sign hat.out hk2 hc HV)
            have HE : Hid (str acc ++ (preP u : ByteArray) = str (acc ++ (preP u : ByteArray).data.toList)) := str_app2 acc _
            have q112 : ((s[k + 1].toNat : Int) == 112) = true := by rw [h112]; rfl
            have zx : (preP u : ByteArray).size ≤ 60 := hp60
            clear HV hc hlast h37 h110 h78 h112
            go_wp2_with fail
            go_roundw
            case rel => exact ⟨k + 2, _, by omega, by rw [List.length_append, size_list]; omega, by rw [← HE.out], by go_num, hat1, HK, HB⟩
            case measure => simp [intOf]; omega
          have q112 : ((s[k + 1].toNat : Int) == 112) = false := by simp; exact fun e => h112 (u8_eq (d := 112) e)
          by_cases h105 : s[k + 1] = 105
          · have HV : signV u s[k + 1] = some (instP u : ByteArray).data.toList := by unfold signV; rw [if_neg h37, if_neg h110, if_neg h78, if_neg h112, if_pos h105]
            have hat1 := Lib.hid (specK_sign hat.out hk2 hc HV)
            have HE : Hid (str acc ++ (instP u : ByteArray) = str (acc ++ (instP u : ByteArray).data.toList)) := str_app2 acc _
            have q105 : ((s[k + 1].toNat : Int) == 105) = true := by rw [h105]; rfl
            have zx : (instP u : ByteArray).size ≤ 60 := hi60
            clear HV hc hlast h37 h110 h78 h112 h105
            go_wp2_with fail
            go_roundw
            case rel => exact ⟨k + 2, _, by omega, by rw [List.length_append, size_list]; omega, by rw [← HE.out], by go_num, hat1, HK, HB⟩
            case measure => simp [intOf]; omega
          have q105 : ((s[k + 1].toNat : Int) == 105) = false := by simp; exact fun e => h105 (u8_eq (d := 105) e)
          by_cases h73 : s[k + 1] = 73
          · have HV : signV u s[k + 1] = some (instU u : ByteArray).data.toList := by unfold signV; rw [if_neg h37, if_neg h110, if_neg h78, if_neg h112, if_neg h105, if_pos h73]
            have hat1 := Lib.hid (specK_sign hat.out hk2 hc HV)
            have HE : Hid (str acc ++ (instU u : ByteArray) = str (acc ++ (instU u : ByteArray).data.toList)) := str_app2 acc _
            have q73 : ((s[k + 1].toNat : Int) == 73) = true := by rw [h73]; rfl
            have zx : (instU u : ByteArray).size ≤ 60 := by unfold instU; split <;> omega
            clear HV hc hlast h37 h110 h78 h112 h105 h73
            rcases hk3 : unescOk (instP u) with _ | _
            · have HU : Hid (instU u = instP u) := by show _ = _; unfold instU; rw [if_neg (by rw [hk3]; simp)]
              rw [HU.out] at zx
              go_wp2_with fail
              refine (rUnescape_any _ (by omega) _).mono ?_
              rintro e w3 ⟨rfl, hb3⟩
              have HK3 : Hid (Blk w3 w1.heap.size 53 #[.int .i64 (kindP u), .string (preP u), .string (instP u), .bool (atP u)]) := HK.out.below hb3
              have HB3 := Lib.hid (below_more HB.out HB.out.size hb3)
              obtain ⟨d0, d1, d2, d3, g0, g1, g2, g3⟩ := HK3.out.four
              clear hb3
              go_wp2_with fail
              go_roundw
              case rel => exact ⟨k + 2, _, by omega, by rw [List.length_append, size_list, HU.out]; omega, by rw [← HE.out, HU.out], by go_num, hat1, HK3, HB3⟩
              case measure => simp [intOf]; omega
            · have HU : Hid (instU u = unescS (instP u)) := by show _ = _; unfold instU; rw [if_pos hk3]
              rw [HU.out] at zx
              go_wp2_with fail
              refine (rUnescape_any _ (by omega) _).mono ?_
              rintro e w3 ⟨rfl, hb3⟩
              have HK3 : Hid (Blk w3 w1.heap.size 53 #[.int .i64 (kindP u), .string (preP u), .string (instP u), .bool (atP u)]) := HK.out.below hb3
              have HB3 := Lib.hid (below_more HB.out HB.out.size hb3)
              obtain ⟨d0, d1, d2, d3, g0, g1, g2, g3⟩ := HK3.out.four
              clear hb3
              go_wp2_with fail
              go_roundw
              case rel => exact ⟨k + 2, _, by omega, by rw [List.length_append, size_list, HU.out]; omega, by rw [← HE.out, HU.out], by go_num, hat1, HK3, HB3⟩
              case measure => simp [intOf]; omega
          have q73 : ((s[k + 1].toNat : Int) == 73) = false := by simp; exact fun e => h73 (u8_eq (d := 73) e)
          have HN := Lib.hid (spec_none HG.out (specK_none hat.out hk2 hc (by unfold signV; rw [if_neg h37, if_neg h110, if_neg h78, if_neg h112, if_neg h105, if_neg h73])))
          clear hc hlast h37 h110 h78 h112 h105 h73
          go_wp2_with fail
          go_ret2
          exact ⟨ret_si HN.out, HB.out⟩
      · have p1 : ((s[k].toNat : Int) != 37) = true := by simp; exact fun e => hc (u8_eq (d := 37) e)
        have hat1 := Lib.hid (specK_other hat.out hlt hc)
        have HE : Hid (str acc ++ s.extract k (k + 1) = str (acc ++ [s[k]])) := by show _ = _; rw [H1.out, str_app]
        clear hc
        go_wp2_with fail
        go_roundw
        case rel => exact ⟨k + 1, _, by omega, by rw [List.length_append]; show _ + 1 ≤ _; omega, by rw [← HE.out], by go_num, hat1, HK, HB⟩
        case measure => simp [intOf]; omega
    · have HN := Lib.hid (spec_some HG.out (specK_end hat.out (by omega)))
      go_wp2_with fail
      go_ret2
      exact ⟨ret_si HN.out, HB.out⟩
end Go.Proofs.Ytjoedgkmpklhfaa
