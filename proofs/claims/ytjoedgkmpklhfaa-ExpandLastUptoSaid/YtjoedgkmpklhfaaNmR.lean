/- The walk of the document's own Unescape. -/
import Derived.Test.YtjoedgkmpklhfaaNmQ
import Derived.Deep.AppendLies
import Derived.Deep.RegionLaw
import Derived.Deep.DrawnRows
namespace Go.Proofs.Ytjoedgkmpklhfaa
open Go.RowKit

theorem rHex_still (c : UInt8) (w : World) :
    Calls Try.prog 41 #[.int .u8 c.toNat] w fun e w' => e = .returned (.int .i64 (hex16 c)) ∧ w' = w :=
  (rHex_any c w).mono fun _ _ h => ⟨h.1, h.2.symm⟩

theorem hexS_tail_short (s : ByteArray) (k : Nat) (h : s.size < k + 4) : hexS (s.extract (k + 1) s.size) = (0, false) :=
  hexS_short _ (by rw [ByteArray.size_extract]; omega)
theorem hexS_tail (s : ByteArray) (k : Nat) (h : k + 4 ≤ s.size) : hexS (s.extract (k + 1) s.size) = if s[k + 1] = 120 ∧ 0 ≤ hexI s[k + 2] ∧ 0 ≤ hexI s[k + 3] then (16 * hexI s[k + 2] + hexI s[k + 3], true) else (0, false) := by
  unfold hexS
  rw [tail_list, drop_at s (k + 1) (by omega), drop_at s (k + 1 + 1) (by omega), drop_at s (k + 1 + 1 + 1) (by omega)]
  rfl
theorem hex16_cases (c : UInt8) : (hexI c = -1 ∧ hex16 c = 16) ∨ ∃ n : Nat, n < 16 ∧ hexI c = n ∧ hex16 c = n := by
  unfold hex16
  rcases hexI_cases c with h | ⟨n, hn, h⟩
  · exact .inl ⟨h, by rw [if_pos h]⟩
  · exact .inr ⟨n, hn, h, by rw [h, if_neg (by omega)]⟩
theorem hex_cells (a b : Nat) (ha : a < 16) (hb : b < 16) : Lib.byteCells [(16 * (a : Int) + (b : Int)).toNat.toUInt8] = [Value.int .u8 (16 * (a : Int) + (b : Int))] := by
  have e : (((16 * (a : Int) + (b : Int)).toNat.toUInt8.toNat : Nat) : Int) = 16 * (a : Int) + (b : Int) := by simp; omega
  show [Value.int .u8 (((16 * (a : Int) + (b : Int)).toNat.toUInt8.toNat : Nat) : Int)] = _
  rw [e]
theorem conv_row (w : World) (B : Nat) (v : Value) (l : List UInt8) (h : w.ownsRow B 5 1 v l.length (Lib.byteCells l)) :
    (convert 40 9 v).run Try.prog w = .ok (.string ⟨l.toArray⟩) w := by
  have h' := h
  rcases h.2 with ⟨rfl, h0⟩ | ⟨g, cap, cur, rfl, _⟩
  · have : l = [] := List.eq_nil_of_length_eq_zero (by omega)
    subst this
    exact run_convert_bytes_nil w _ _ Try.underlying40 Try.underlying5 0 0 _ Try.underlying9
  · refine run_convert_bytes_back w _ _ _ _ cap l Try.underlying40 Try.underlying5 Try.underlying9 fun j hj => ?_
    refine h'.cells (g := g) rfl j _ ?_
    unfold Lib.byteCells
    rw [List.getElem?_map, List.getElem?_eq_getElem hj]
    rfl

set_option maxHeartbeats 4000000 in
set_option maxRecDepth 100000 in
theorem rUnescape_any (s : ByteArray) (hs : s.size ≤ 140737488351232) (w : World) :
    Calls Try.prog 23 #[.string s] w fun e w' => e = .returned (.tuple #[.string (unescS s), .bool (unescOk s)]) ∧ Below w.heap.size w w' := by
  obtain ⟨i0, hi, hz0, hz1, hz2⟩ := info_parts byteInfo
  have hat0 := Lib.hid (unescAt_zero s)
  go_enter Try.func23, Try.ntmps23
  go_wp2_with fail
  go_loopw [4, 5] (fun v i wr => ∃ (k : Nat) (acc : List UInt8), k ≤ s.size ∧ acc.length ≤ k ∧ i = .int .i64 k ∧ Hid (unescAt s k acc) ∧ Hid (wr.ownsRow w.heap.size 5 1 v acc.length (Lib.byteCells acc)) ∧ Hid (Below w.heap.size w wr)) (fun v i wr => s.size - (intOf i).toNat)
  case atStart => exact ⟨0, [], Nat.zero_le _, Nat.le_refl _, rfl, hat0, World.ownsRow_nil _ _ _ _, Below.refl _ _⟩
  case round =>
    obtain ⟨k, acc, hk, hacc, rfl, hat, hB, hb⟩ := hrel
    have hbs : w.heap.size ≤ wr.heap.size := hb.out.size
    by_cases hlt : k < s.size
    · have hr := s[k].toNat_lt
      have b0 : (0 : Int) ≤ (k : Int) := by omega
      have b1 : (k : Int) < (s.size : Int) := by omega
      by_cases h45 : s[k] = 45
      · have h45' : ((s[k].toNat : Int) == 45) = true := by rw [h45]; rfl
        have hat1 := Lib.hid (unescAt_slash hat.out hlt h45)
        clear h45
        go_wp2_with (at_builtin; refine wpList_append_own _ rfl _ _ 40 rfl w.heap.size 5 i0 (.int .u8 0) 1 1 Try.underlying40 hi hz0 hz1 hz2 rfl (by decide) _ _ _ rfl (hB.out.alloc _) ⟨wr.heap.size, 0, none⟩ 1 1 [.int .u8 47] rfl rfl ?c1 ?c2 ?c3 ?c4 ?c5 ?_)
        case c1 =>
          intro j u hj
          match j, hj with
          | 0, hj => simp at hj; subst hj; simp [Addr.add]
        case c2 => intro u hu; simp at hu; subst hu; rfl
        case c3 => unfold maxLen; omega
        case c4 => omega
        case c5 => simp; omega
        intro v' w2 hown' hgrow _
        have HB1 : Hid (w2.ownsRow w.heap.size 5 1 v' (acc ++ [47]).length (Lib.byteCells (acc ++ [47]))) := by rw [Lib.byteCells_append, List.length_append]; exact hown'
        have Hb1 : Hid (Below w.heap.size w w2) := (hb.out.alloc hbs _).grown hgrow (by simp; omega) (fun g hg => (hB.out.lt g hg).1)
        clear hown' hgrow
        go_wp2_with fail
        go_roundw
        case rel => exact ⟨k + 1, acc ++ [47], by omega, by simp; omega, by go_num, hat1, HB1, Hb1⟩
        case measure => simp [intOf]; omega
      · have h45' : ((s[k].toNat : Int) == 45) = false := by
          simp
          intro e
          exact h45 (UInt8.toNat_inj.1 (by show _ = 45; omega))
        rcases hp : plainB s[k].toNat with _ | _
        · by_cases h92 : s[k] = 92
          · have h92' : ((s[k].toNat : Int) == 92) = true := by rw [h92]; rfl
            by_cases h4 : k + 4 ≤ s.size
            · have h4' : (4 : Int) ≤ (s.size : Int) - (k : Int) := by omega
              have h4t : decide ((s.size : Int) - (k : Int) < 4) = false := by simp; omega
              have g0 : (0 : Int) ≤ (k : Int) + 1 := by omega
              have g1 : (k : Int) + 1 < (s.size : Int) := by omega
              have g2 : (0 : Int) ≤ (k : Int) + 2 := by omega
              have g3 : (k : Int) + 2 < (s.size : Int) := by omega
              have g4 : (0 : Int) ≤ (k : Int) + 3 := by omega
              have g5 : (k : Int) + 3 < (s.size : Int) := by omega
              have hT := hexS_tail s k h4
              by_cases hx : s[k + 1] = 120
              · have hx' : ((s[k + 1].toNat : Int) == 120) = true := by rw [hx]; rfl
                rcases hex16_cases s[k + 2] with ⟨e1, e2⟩ | ⟨a, ha, e1, e2⟩
                · rw [if_neg (by rw [e1]; omega)] at hT
                  have hN := Lib.hid (unesc_none (unescAt_nohex hat.out hlt h92 (by rw [hT])))
                  have E2 := Lib.hid e2
                  clear hT hx e1 e2 h45 h92
                  go_wp2_with fail
                  refine (rplain_any _ (by omega) _).mono ?_
                  rintro e w' ⟨rfl, rfl⟩
                  go_wp2_with fail
                  refine (rHex_any _ _).mono ?_
                  rintro e w' ⟨rfl, rfl⟩
                  rw [E2.out]
                  go_wp2_with fail
                  go_ret2
                  exact ⟨ret_strb hN.out, hb.out⟩
                · have ha' : (a : Int) < 16 := by omega
                  rcases hex16_cases s[k + 3] with ⟨e3, e4⟩ | ⟨b, hbb, e3, e4⟩
                  · rw [if_neg (by rw [e3]; omega)] at hT
                    have hN := Lib.hid (unesc_none (unescAt_nohex hat.out hlt h92 (by rw [hT])))
                    have E2 := Lib.hid e2
                    have E4 := Lib.hid e4
                    clear hT hx e1 e2 e3 e4 h45 h92
                    go_wp2_with fail
                    refine (rplain_any _ (by omega) _).mono ?_
                    rintro e w' ⟨rfl, rfl⟩
                    go_wp2_with fail
                    refine (rHex_any _ _).mono ?_
                    rintro e w' ⟨rfl, rfl⟩
                    rw [E2.out]
                    go_wp2_with fail
                    refine (rHex_any _ _).mono ?_
                    rintro e w' ⟨rfl, rfl⟩
                    rw [E4.out]
                    go_wp2_with fail
                    go_ret2
                    exact ⟨ret_strb hN.out, hb.out⟩
                  · have hb' : (b : Int) < 16 := by omega
                    rw [if_pos ⟨hx, by omega, by omega⟩] at hT
                    obtain ⟨_, hat1⟩ := unescAt_hex hat.out hlt h92 (by rw [hT])
                    rw [hT, e1, e3] at hat1
                    have hat1' := Lib.hid hat1
                    have E2 := Lib.hid e2
                    have E4 := Lib.hid e4
                    clear hT hx e1 e2 e3 e4 h45 h92 hat1
                    go_wp2_with fail
                    refine (rplain_any _ (by omega) _).mono ?_
                    rintro e w' ⟨rfl, rfl⟩
                    go_wp2_with fail
                    refine (rHex_any _ _).mono ?_
                    rintro e w' ⟨rfl, rfl⟩
                    rw [E2.out]
                    go_wp2_with fail
                    refine (rHex_any _ _).mono ?_
                    rintro e w' ⟨rfl, rfl⟩
                    rw [E4.out]
                    go_wp2_with fail
                    have q1 : IntKind.i64.wrap ((k : Int) + 2) = (k : Int) + 2 := IntWalk.i64_in _ (by omega)
                    have q2 : IntKind.i64.wrap ((k : Int) + 3) = (k : Int) + 3 := IntWalk.i64_in _ (by omega)
                    have q3 : IntKind.i64.wrap (16 * (a : Int)) = 16 * (a : Int) := IntWalk.i64_in _ (by omega)
                    have q4 : IntKind.i64.wrap (16 * (a : Int) + (b : Int)) = 16 * (a : Int) + (b : Int) := IntWalk.i64_in _ (by omega)
                    have q5 : IntKind.u8.wrap (16 * (a : Int) + (b : Int)) = 16 * (a : Int) + (b : Int) := IntWalk.u8_in _ (by omega)
                    have q6 : ((k : Int) + 2).toNat = k + 2 := by omega
                    have q7 : ((k : Int) + 3).toNat = k + 3 := by omega
                    have HX : Hid (Lib.byteCells [(16 * (a : Int) + (b : Int)).toNat.toUInt8] = [Value.int .u8 (16 * (a : Int) + (b : Int))]) := hex_cells a b ha hbb
                    have hz63 : acc.length + 1 ≤ maxLen := by unfold maxLen; omega
                    have hz47 : (acc.length + 1) * 1 ≤ 140737488355328 := by omega
                    have hzb : w.heap.size ≤ (wr.alloc (.cells #[.int .u8 (16 * (a : Int) + (b : Int))] 5)).drew.heap.size := by simp; omega
                    have hnw : ∀ (j : Nat) (u : Value), [Value.int .u8 (16 * (a : Int) + (b : Int))][j]? = some u → (wr.alloc (.cells #[.int .u8 (16 * (a : Int) + (b : Int))] 5)).drew.cell? ((⟨wr.heap.size, 0, none⟩ : Addr).add j) = some u := by
                      intro j u hj
                      match j, hj with
                      | 0, hj => simp at hj; subst hj; simp [Addr.add]
                    have hone : ∀ u ∈ [Value.int .u8 (16 * (a : Int) + (b : Int))], u.oneCell' = true := by intro u hu; simp at hu; subst hu; rfl
                    have Hnw := Lib.hid hnw
                    have Hone := Lib.hid hone
                    clear hnw hone
                    go_region_law (first | ((refine step_append_lies _ (by rfl) _ _ 40 (by rfl) w.heap.size 5 i0 (.int .u8 0) 1 1 Try.underlying40 hi hz0 hz1 hz2 rfl (by decide) _ acc.length (Lib.byteCells acc) (by rfl) ((hB.out.alloc _).drew) ⟨wr.heap.size, 0, none⟩ 1 1 [.int .u8 (16 * (a : Int) + (b : Int))] (by rfl) rfl Hnw.out Hone.out (by decide) hz63 hz47 hzb _ rfl ?_; intro g cap w1 hown1 hgrow hat1 hlt1)) | (go_simp; go_at_call 41; refine (rHex_any _ _).mono ?_; rintro e w' ⟨rfl, rfl⟩; first | rw [E2.out] | rw [E4.out]))
                    all_goals
                      clear q1 q2 q3 q4 q5
                      have HB1 : Hid (w1.ownsRow w.heap.size 5 1 (.slice (some ⟨g, 0, none⟩) (acc.length + 1) cap) (acc ++ [(16 * (a : Int) + (b : Int)).toNat.toUInt8]).length (Lib.byteCells (acc ++ [(16 * (a : Int) + (b : Int)).toNat.toUInt8]))) := by
                        rw [Lib.byteCells_append, HX.out, List.length_append]
                        exact hown1
                      have Hb1 : Hid (Below w.heap.size w w1) := (hb.out.alloc hbs _).drew.grown hgrow hzb (fun g hg => (hB.out.lt g hg).1)
                      clear hown1 hgrow hat1 hlt1 hz63 hz47 hzb
                      go_wp2_with fail
                      go_roundw
                      case rel => exact ⟨k + 4, acc ++ [(16 * (a : Int) + (b : Int)).toNat.toUInt8], by omega, by simp; omega, by go_num, hat1', HB1, Hb1⟩
                      case measure => simp [intOf]; omega
              · have hx' : ((s[k + 1].toNat : Int) == 120) = false := by
                  simp
                  intro e
                  exact hx (UInt8.toNat_inj.1 (by show _ = 120; omega))
                rw [if_neg (by simp [hx])] at hT
                have hN := Lib.hid (unesc_none (unescAt_nohex hat.out hlt h92 (by rw [hT])))
                clear hT hx h45 h92
                go_wp2_with fail
                refine (rplain_any _ (by omega) _).mono ?_
                rintro e w' ⟨rfl, rfl⟩
                go_wp2_with fail
                go_ret2
                exact ⟨ret_strb hN.out, hb.out⟩
            · have h4' : (s.size : Int) - (k : Int) < 4 := by omega
              have hN := Lib.hid (unesc_none (unescAt_nohex hat.out hlt h92 (by rw [hexS_tail_short s k (by omega)])))
              clear h45 h92
              go_wp2_with fail
              refine (rplain_any _ (by omega) _).mono ?_
              rintro e w' ⟨rfl, rfl⟩
              go_wp2_with fail
              go_ret2
              exact ⟨ret_strb hN.out, hb.out⟩
          · have h92' : ((s[k].toNat : Int) == 92) = false := by
              simp
              intro e
              exact h92 (UInt8.toNat_inj.1 (by show _ = 92; omega))
            have hN := Lib.hid (unesc_none (unescAt_other hat.out hlt h45 hp h92))
            clear h45 h92
            go_wp2_with fail
            refine (rplain_any _ (by omega) _).mono ?_
            rintro e w' ⟨rfl, rfl⟩
            go_wp2_with fail
            go_ret2
            exact ⟨ret_strb hN.out, hb.out⟩
        · have hat1 := Lib.hid (unescAt_plain hat.out hlt hp)
          clear h45
          go_wp2_with fail
          refine (rplain_any _ (by omega) _).mono ?_
          rintro e w' ⟨rfl, rfl⟩
          go_wp2_with (at_builtin; refine wpList_append_own _ rfl _ _ 40 rfl w.heap.size 5 i0 (.int .u8 0) 1 1 Try.underlying40 hi hz0 hz1 hz2 rfl (by decide) _ _ _ rfl (hB.out.alloc _) ⟨wr.heap.size, 0, none⟩ 1 1 [.int .u8 s[k].toNat] rfl rfl ?c1 ?c2 ?c3 ?c4 ?c5 ?_)
          case c1 =>
            intro j u hj
            match j, hj with
            | 0, hj => simp at hj; subst hj; simp [Addr.add]
          case c2 => intro u hu; simp at hu; subst hu; rfl
          case c3 => unfold maxLen; omega
          case c4 => omega
          case c5 => simp; omega
          intro v' w2 hown' hgrow _
          have HB1 : Hid (w2.ownsRow w.heap.size 5 1 v' (acc ++ [s[k]]).length (Lib.byteCells (acc ++ [s[k]]))) := by rw [Lib.byteCells_append, List.length_append]; exact hown'
          have Hb1 : Hid (Below w.heap.size w w2) := (hb.out.alloc hbs _).grown hgrow (by simp; omega) (fun g hg => (hB.out.lt g hg).1)
          clear hown' hgrow
          go_wp2_with fail
          go_roundw
          case rel => exact ⟨k + 1, acc ++ [s[k]], by omega, by simp; omega, by go_num, hat1, HB1, Hb1⟩
          case measure => simp [intOf]; omega
    · have hcv := conv_row _ _ _ _ hB.out
      have hN := Lib.hid (unesc_some (unescAt_end hat.out (by omega)))
      have hlt' : (s.size : Int) ≤ (k : Int) := by omega
      go_wp2_with fail
      go_ret2
      exact ⟨ret_strb hN.out, hb.out⟩
end Go.Proofs.Ytjoedgkmpklhfaa
