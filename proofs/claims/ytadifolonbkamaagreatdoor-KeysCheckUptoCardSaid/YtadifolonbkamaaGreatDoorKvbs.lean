/- The walk of the document's own Span. -/
import Derived.Test.YtadifolonbkamaaGreatDoorKvab
import Derived.Test.YtadifolonbkamaaGreatDoorKvbd
import Derived.Test.YtadifolonbkamaaGreatDoorKvad
namespace Go.Proofs.YtadifolonbkamaaGreatDoor.Sn
open Go.RowKit
def wordsS (s : ByteArray) : List (List UInt8) := blanksL [32] s.data.toList
theorem take_next {ws : List (List UInt8)} {j n : Nat} (h : sumV 0 (ws.take j) = some n) (hj : j < ws.length) :
    sumV 0 (ws.take (j + 1)) = match wordV ws[j] with | none => none | some v => if n + v ≤ 6311433600 then some (n + v) else none := by
  rw [List.take_succ_eq_append_getElem hj, sumV_app, h]
  dsimp only
  rw [sumV]
  cases wordV ws[j] with
  | none => rfl
  | some v => rfl
theorem take_none {ws : List (List UInt8)} {j : Nat} (h : sumV 0 (ws.take j) = none) : sumV 0 ws = none := by
  conv => lhs; rw [← List.take_append_drop j ws]
  rw [sumV_app, h]
theorem span_stop {s : ByteArray} {j : Nat} (h : s.data.toList ≠ infL) (hs : sumV 0 ((wordsS s).take j) = none) : parseN s = 0 ∧ parseOk s = false := by
  have h1 : sumV 0 (blanksL [32] s.data.toList) = none := take_none hs
  have h2 : blanksL [32] s.data.toList ≠ [] := by intro e; rw [e] at h1; simp [sumV] at h1
  unfold parseN parseOk spanL
  rw [if_neg h, if_neg h2, h1]
  exact ⟨rfl, rfl⟩
theorem span_done {s : ByteArray} {n j : Nat} (h : s.data.toList ≠ infL) (hj : (wordsS s).length ≤ j) (hs : sumV 0 ((wordsS s).take j) = some n) : parseN s = n ∧ parseOk s = decide (0 < (wordsS s).length) := by
  rw [List.take_of_length_le hj] at hs
  unfold wordsS at *
  unfold parseN parseOk spanL
  rw [if_neg h]
  by_cases h2 : blanksL [32] s.data.toList = []
  · rw [if_pos h2]
    rw [h2] at hs ⊢
    have : n = 0 := by simpa [sumV] using hs.symm
    simp [this]
  · rw [if_neg h2, hs]
    have := List.length_pos_iff.2 h2
    simp [this]
theorem words_size {s : ByteArray} {j : Nat} (hj : j < (wordsS s).length) : (wordsS s)[j].length ≤ s.size := by
  have hm : (wordsS s)[j] ∈ wordsS s := List.getElem_mem hj
  generalize (wordsS s)[j] = p at hm
  unfold wordsS blanksL at hm
  rw [bgo_splitL] at hm
  have := pieces_size _ _ p (List.mem_filter.1 hm).1
  simpa using this
theorem addr_add (g j : Nat) : (⟨g, 0, none⟩ : Addr).add j = ⟨g, j, none⟩ := by
  unfold Addr.add
  split
  · next h => subst h; rfl
  · simp
def EndAt (x : ByteArray) (k : Nat) : Prop := digS x k ∧ ∀ h : k < x.size, isDig x[k] = false
theorem rspan_inf (s : ByteArray) (h : s = str infL) (w : World) :
    Calls Tryz.prog 33 #[.string s] w fun e w' => e = .returned (.tuple #[.int .i64 (parseN s), .bool (parseOk s)]) ∧ Below w.heap.size w w' := by
  have HN := Lib.hid (show parseN s = 1099511627776 by rw [h]; decide)
  have HO := Lib.hid (show parseOk s = true by rw [h]; decide)
  have e0 : (s.toList == [105, 110, 102, 105, 110, 105, 116, 121]) = true := by
    have := beq_str s (str infL)
    rw [Lib.toList_data (str infL)] at this
    rw [show ([105, 110, 102, 105, 110, 105, 116, 121] : List UInt8) = (str infL).data.toList from rfl, this]
    simpa using h
  clear h
  go_enter Tryz.func33, Tryz.ntmps33
  go_wp2
  go_ret2
  exact ⟨ret_ib (by rw [HN.out]; rfl) (by rw [HO.out]), Below.refl _ _⟩
set_option maxRecDepth 100000 in
set_option maxHeartbeats 4000000 in
theorem rspan_other (s : ByteArray) (hs : s.size ≤ 4194304) (h : s ≠ str infL) (w : World) :
    Calls Tryz.prog 33 #[.string s] w fun e w' => e = .returned (.tuple #[.int .i64 (parseN s), .bool (parseOk s)]) ∧ Below w.heap.size w w' := by
  have e0 : (s.toList == [105, 110, 102, 105, 110, 105, 116, 121]) = false := by
    have := beq_str s (str infL)
    rw [Lib.toList_data (str infL)] at this
    rw [show ([105, 110, 102, 105, 110, 105, 116, 121] : List UInt8) = (str infL).data.toList from rfl, this]
    simpa using h
  have hinf := Lib.hid (show s.data.toList ≠ infL from fun e => h (eq_str.2 e))
  clear h
  go_enter Tryz.func33, Tryz.ntmps33
  go_wp2_with fail
  refine (Blanks_any s ⟨#[32]⟩ hs (by decide) _).mono ?_
  rintro e w1 ⟨v, rfl, hown, hb1⟩
  have HB1 := Lib.hid hb1
  have hown' : w1.ownsRow w.heap.size 9 1 v (wordsS s).length (wcells (wordsS s)) := hown
  clear hb1 hown
  rcases hown'.2 with ⟨hv, h0⟩ | ⟨g, cap, cur, hv, hrest⟩
  · subst hv
    have h0' : (wordsS s).length = 0 := h0
    have hd := span_done (n := 0) (j := 0) hinf.out (by omega) rfl
    have HN := Lib.hid hd.1
    have HO := Lib.hid (show parseOk s = false by rw [hd.2, h0']; rfl)
    clear hd
    go_wp2_with fail
    refine wp_loop_rounds 1 ?_
    rw [rounds_succ]
    go_wp2_with fail
    go_ret2
    exact ⟨ret_ib (by rw [HN.out]; rfl) (by rw [HO.out]), HB1.out⟩
  · have hcells : ∀ j (hj : j < (wordsS s).length), w1.cell? ((⟨g, 0, none⟩ : Addr).add j) = some (.string (str (wordsS s)[j])) := by
      intro j hj
      refine hown'.cells (g := g) (by rw [hv]; rfl) j _ ?_
      unfold wcells
      rw [List.getElem?_map, List.getElem?_eq_getElem hj]
      rfl
    subst hv
    have HC := Lib.hid hcells
    have HW := Lib.hid hown'
    have hlen : (wordsS s).length ≤ 9223372036854775807 := by
      obtain ⟨_, _, h3, h4, _⟩ := hrest
      unfold maxLen at h4; omega
    clear hrest
    clear hcells hown'
    go_wp2_with fail
    go_loop [5, 17] (fun a i => ∃ j n : Nat, j ≤ (wordsS s).length ∧ i = .int .i64 j ∧ a = .int .i64 n ∧ Hid (sumV 0 ((wordsS s).take j) = some n)) (fun _ i => (wordsS s).length - (intOf i).toNat)
    case atStart => exact ⟨0, 0, Nat.zero_le _, rfl, rfl, rfl⟩
    case round =>
      obtain ⟨j, n, hj, rfl, rfl, hsum⟩ := hrel
      have hn := sum_le hsum.out
      by_cases hjl : j < (wordsS s).length
      · have hcell : w1.cell? ⟨g, j, none⟩ = some (.string (str (wordsS s)[j])) := by
          have := HC.out j hjl
          rwa [addr_add] at this
        have hxs : (str (wordsS s)[j]).size ≤ s.size := words_size hjl
        have HX := Lib.hid (take_next hsum.out hjl)
        have hwv : wordV (wordsS s)[j] = wordV (str (wordsS s)[j]).data.toList := rfl
        rw [hwv] at HX
        clear hwv
        generalize str (wordsS s)[j] = x at *
        go_upto_block 2 with fail
        go_cut [8, 9] (fun s8 s9 wx => ∃ k : Nat, k ≤ x.size ∧ k ≤ 10 ∧ s8 = .int .i64 k ∧ s9 = .int .i64 (valS x k) ∧ Hid (EndAt x k) ∧ wx = w1)
        case first =>
          go_wp2_with fail
          go_loop [8, 9] (fun d m => ∃ k : Nat, k ≤ x.size ∧ k ≤ 10 ∧ d = .int .i64 k ∧ m = .int .i64 (valS x k) ∧ Hid (digS x k)) (fun d _ => x.size - (intOf d).toNat)
          case atStart => exact ⟨0, Nat.zero_le _, by omega, rfl, rfl, digS_zero x⟩
          case round =>
            obtain ⟨k, hk, h10, rfl, rfl, hd⟩ := hrel
            have hv0 := valS_le hd.out h10
            by_cases hlt : k < x.size
            · have hr := x[k].toNat_lt
              have b0 : (0 : Int) ≤ (k : Int) := by omega
              have b1 : (k : Int) < (x.size : Int) := by omega
              rcases hg : isDig x[k] with _ | _
              · have HE : Hid (EndAt x k) := ⟨hd.out, fun _ => hg⟩
                have HG := Lib.hid hg
                clear hg
                go_wp2_with (go_at_call 57; refine (Digit_any _ _).mono ?_; rintro e w' ⟨rfl, rfl⟩; rw [HG.out])
                go_meet
                exact ⟨k, hk, h10, rfl, rfl, HE, rfl⟩
              · obtain ⟨g1, g2⟩ := dig_bounds hg
                have HG := Lib.hid hg
                by_cases hten : k = 10
                · have HN := Lib.hid (show sumV 0 ((wordsS s).take (j + 1)) = none by
                    subst hten
                    rw [HX.out, word_long hd.out hlt hg])
                  obtain ⟨hN, hO⟩ := span_stop hinf.out HN.out
                  have HN1 := Lib.hid hN
                  have HO1 := Lib.hid hO
                  have t1 : (10 : Int) ≤ (k : Int) := by omega
                  clear hg hN hO hten
                  go_wp2_with (go_at_call 57; refine (Digit_any _ _).mono ?_; rintro e w' ⟨rfl, rfl⟩; rw [HG.out])
                  go_ret2
                  exact ⟨ret_ib (by rw [HN1.out]; rfl) (by rw [HO1.out]), HB1.out⟩
                · have hd1 := Lib.hid (digS_succ hd.out hlt hg)
                  have hv1 := valS_le9 hd.out (by omega)
                  have HV := Lib.hid (valS_succ (s := x) hlt)
                  have t1 : (k : Int) < 10 := by omega
                  clear hg
                  go_wp2_with (go_at_call 57; refine (Digit_any _ _).mono ?_; rintro e w' ⟨rfl, rfl⟩; rw [HG.out])
                  go_round
                  case rel => exact ⟨k + 1, by omega, by omega, by go_num, by rw [HV.out]; go_num, hd1⟩
                  case measure => simp [intOf]; omega
            · have HE : Hid (EndAt x k) := ⟨hd.out, fun h => absurd h hlt⟩
              have b1 : (x.size : Int) ≤ (k : Int) := by omega
              go_wp2_with fail
              go_meet
              exact ⟨k, hk, h10, rfl, rfl, HE, rfl⟩
        case rest =>
          obtain ⟨k, hk, h10, rfl, rfl, hE, rfl⟩ := hcut
          have hv0 := valS_le hE.out.1 h10
          have HWV := Lib.hid (word_at hE.out.1 hk hE.out.2 h10)
          have hu := unitS_le (x.extract k x.size)
          have b0 : (0 : Int) ≤ (k : Int) := by omega
          have b1 : (k : Int) ≤ (x.size : Int) := by omega
          have hlen2 : x.size ≤ 9223372036854775807 := by omega
          by_cases hz : k = 0 ∨ unitS (x.extract k x.size) = 0
          · rw [if_pos hz] at HWV
            have HN := Lib.hid (show sumV 0 ((wordsS s).take (j + 1)) = none by rw [HX.out, HWV.out])
            obtain ⟨hN, hO⟩ := span_stop hinf.out HN.out
            have HN1 := Lib.hid hN
            have HO1 := Lib.hid hO
            clear hN hO
            by_cases hk0 : k = 0
            · have z1 : ((k : Int) == 0) = true := by simp [hk0]
              clear hz hk0
              go_wp2_with fail
              refine (runit_any _ _).mono ?_
              rintro e w' ⟨rfl, rfl⟩
              go_wp2_with fail
              go_ret2
              exact ⟨ret_ib (by rw [HN1.out]; rfl) (by rw [HO1.out]), HB1.out⟩
            · have z1 : ((k : Int) == 0) = false := by simp [hk0]
              have HU := Lib.hid (hz.resolve_left hk0)
              clear hz hk0
              go_wp2_with fail
              refine (runit_any _ _).mono ?_
              rintro e w' ⟨rfl, rfl⟩
              rw [HU.out]
              go_wp2_with fail
              go_ret2
              exact ⟨ret_ib (by rw [HN1.out]; rfl) (by rw [HO1.out]), HB1.out⟩
          · rw [if_neg hz] at HWV
            have hu1 : 1 ≤ unitS (x.extract k x.size) := by omega
            have hk1 : 1 ≤ k := by omega
            have hbig := unit_big _ _ hv0 hu
            have hgen : ∃ u, unitS (x.extract k x.size) = u := ⟨_, rfl⟩
            obtain ⟨u, hue⟩ := hgen
            rw [hue] at HWV hu1 hbig hu
            have HU := Lib.hid hue
            clear hz hue
            obtain ⟨m, hme⟩ : ∃ m, valS x k = m := ⟨_, rfl⟩
            rw [hme] at HWV hbig hv0
            have HM := Lib.hid hme
            clear hme
            have z1 : ((k : Int) == 0) = false := by simp; omega
            have z2 : ((u : Int) == 0) = false := by simp; omega
            have u1 : (1 : Int) ≤ (u : Int) := by omega
            have p0 : (0 : Int) ≤ (m : Int) * (u : Int) := by rw [← Int.natCast_mul]; omega
            have p1 : (m : Int) * (u : Int) ≤ 6047999999395200 := by rw [← Int.natCast_mul]; omega
            have hdv : m ≤ 6311433600 / u ↔ m * u ≤ 6311433600 := Nat.le_div_iff_mul_le hu1
            by_cases hok : n + m * u ≤ 6311433600
            · have HS2 := Lib.hid (show sumV 0 ((wordsS s).take (j + 1)) = some (n + m * u) by rw [HX.out, HWV.out]; exact if_pos hok)
              have q1 : (m : Int) ≤ 6311433600 / (u : Int) := by
                have := hdv.2 (by omega)
                have e : (6311433600 : Int) / (u : Int) = ((6311433600 / u : Nat) : Int) := (Int.natCast_ediv 6311433600 u).symm
                rw [e]; omega
              have q2 : (m : Int) * (u : Int) ≤ 6311433600 - (n : Int) := by rw [← Int.natCast_mul]; omega
              have q3 : (n : Int) + (m : Int) * (u : Int) ≤ 6311433600 := by omega
              have HE := Lib.hid (show (n : Int) + (m : Int) * (u : Int) = ((n + m * u : Nat) : Int) by rw [Int.natCast_add, Int.natCast_mul])
              clear hdv hok
              go_wp2_with fail
              refine (runit_any _ _).mono ?_
              rintro e w' ⟨rfl, rfl⟩
              rw [HU.out]
              try rw [HM.out]
              go_wp2_with fail
              go_round
              case rel => exact ⟨j + 1, n + m * u, by omega, by go_num, by rw [HE.out], HS2⟩
              case measure => simp [intOf]; omega
            · have HN := Lib.hid (show sumV 0 ((wordsS s).take (j + 1)) = none by rw [HX.out, HWV.out]; exact if_neg hok)
              obtain ⟨hN, hO⟩ := span_stop hinf.out HN.out
              have HN1 := Lib.hid hN
              have HO1 := Lib.hid hO
              clear hN hO
              by_cases hq : m ≤ 6311433600 / u
              · have q1 : (m : Int) ≤ 6311433600 / (u : Int) := by
                  have e : (6311433600 : Int) / (u : Int) = ((6311433600 / u : Nat) : Int) := (Int.natCast_ediv 6311433600 u).symm
                  rw [e]; omega
                have q2 : 6311433600 - (n : Int) < (m : Int) * (u : Int) := by rw [← Int.natCast_mul]; omega
                clear hdv hok hq
                go_wp2_with fail
                refine (runit_any _ _).mono ?_
                rintro e w' ⟨rfl, rfl⟩
                rw [HU.out]
                try rw [HM.out]
                go_wp2_with fail
                go_ret2
                exact ⟨ret_ib (by rw [HN1.out]; rfl) (by rw [HO1.out]), HB1.out⟩
              · have q1 : 6311433600 / (u : Int) < (m : Int) := by
                  have e : (6311433600 : Int) / (u : Int) = ((6311433600 / u : Nat) : Int) := (Int.natCast_ediv 6311433600 u).symm
                  rw [e]; omega
                clear hdv hok hq
                go_wp2_with fail
                refine (runit_any _ _).mono ?_
                rintro e w' ⟨rfl, rfl⟩
                rw [HU.out]
                try rw [HM.out]
                go_wp2_with fail
                go_ret2
                exact ⟨ret_ib (by rw [HN1.out]; rfl) (by rw [HO1.out]), HB1.out⟩
      · obtain ⟨hN, hO⟩ := span_done hinf.out (by omega) hsum.out
        have hjl2 : ((wordsS s).length : Int) ≤ (j : Int) := by omega
        have HN1 := Lib.hid hN
        have HO1 := Lib.hid hO
        clear hN hO
        go_wp2_with fail
        go_ret2
        exact ⟨ret_ib (by rw [HN1.out]) (by rw [HO1.out]), HB1.out⟩
theorem rSpan_any (s : ByteArray) (hs : s.size ≤ 4194304) (w : World) :
    Calls Tryz.prog 33 #[.string s] w fun e w' => e = .returned (.tuple #[.int .i64 (parseN s), .bool (parseOk s)]) ∧ Below w.heap.size w w' := by
  by_cases h : s = str infL
  · exact rspan_inf s h w
  · exact rspan_other s hs h w
end Go.Proofs.YtadifolonbkamaaGreatDoor.Sn
