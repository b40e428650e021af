/- The walk of the law KeysNames. -/
import Derived.Test.YtadifolonbkamaaGreatDoorKsP
import Derived.Test.YtadifolonbkamaaGreatDoorKsT
import Derived.Test.YtadifolonbkamaaGreatDoorNoV
import Derived.Laws.BitsAllLaws
import Derived.Laws.BitsLemmas
namespace Go.Proofs.YtadifolonbkamaaGreatDoor
open Go.RowKit

theorem and_lowN (a : Int) (m : Nat) (hm : m ≤ 65535) : ∃ k : Nat, bits .and .i64 a (m : Int) = (k : Int) ∧ k ≤ m := by
  have hx : (BitVec.ofInt 64 (m : Int)).toNat = m := by
    rw [BitVec.ofInt_natCast, BitVec.toNat_ofNat]; exact Nat.mod_eq_of_lt (by omega)
  refine ⟨(BitVec.ofInt 64 a).toNat &&& m, ?_, Nat.and_le_right⟩
  have hle : (BitVec.ofInt 64 a).toNat &&& m ≤ m := Nat.and_le_right
  show IntKind.i64.wrap ((BitVec.ofInt 64 a &&& BitVec.ofInt 64 (m : Int)).toNat : Int) = _
  rw [BitVec.toNat_and, hx, IntKind.wrap_i64]
  omega
def kyW : Ky := ⟨nUnit, [87, 97, 110, 116, 115], 6, true, 30, []⟩
theorem find_W : findT nUnit [87, 97, 110, 116, 115] = some kyW := by decide +kernel
theorem RowAt.take {w : World} {B n m : Nat} {A : Option Addr} {l : List (List UInt8)} (h : RowAt w B A n l) (hm : m ≤ n) : RowAt w B A m (l.take m) := by
  obtain ⟨h1, h2, h3⟩ := h
  refine ⟨by rw [List.length_take]; omega, by omega, fun h0 => ?_⟩
  obtain ⟨ad, e, hB, hc⟩ := h3 (by omega)
  refine ⟨ad, e, hB, fun j x hj => hc j x ?_⟩
  rw [List.getElem?_take] at hj
  split at hj
  · exact hj
  · cases hj
/-- What the text so far says. -/
structure NmT (T : List UInt8) (g : Bool) : Prop where
  good : goodT unitS T = g
  found : foundT T = decide (T ≠ [])
theorem value_W (T : List UInt8) (g : Bool) (h : NmT T g) : valueB kyW (str T) = if g = true then 0 else 12 := by
  unfold valueB
  rw [emp_str]
  by_cases h0 : T = []
  · subst h0
    have := h.good
    rw [(good_nil unitS).1] at this
    rw [← this]
    rfl
  · rw [if_neg (by simpa using h0), if_pos (show kyW.f = 6 from rfl), list_val, h.good, h.found]
    simp [h0]
set_option maxRecDepth 100000 in
set_option maxHeartbeats 16000000 in
theorem KeysNames_any (A : Option Addr) (n c : Nat) (l : List (List UInt8)) (b : Int) (w : World) (h : RowAt w w.heap.size A n l) (hnc : n ≤ c) (hs : ∀ x ∈ l, x.length ≤ 140737488355328) :
    Calls Tryz.prog 7 #[.slice A n c, .int .i64 b] w fun e w' => e = .returned (.bool true) ∧ Below w.heap.size w w' := by
  obtain ⟨bq, hbm, hbl⟩ := and_lowN b 3 (by omega)
  have hbm : bits .and .i64 b 3 = (bq : Int) := hbm
  obtain ⟨m, hmd⟩ : ∃ m, min n 20 = m := ⟨_, rfl⟩
  have hmn : m ≤ n := by omega
  have hm20 : m ≤ 20 := by omega
  have hmin : min (n : Int) 20 = (m : Int) := by omega
  have hnm := h.2.1
  unfold maxLen at hnm
  have s0 : (0 : Int) ≤ (m : Int) := by omega
  have s1 : (m : Int) ≤ (c : Int) := by omega
  obtain ⟨l', hl'⟩ : ∃ l', l.take m = l' := ⟨_, rfl⟩
  have HL := Lib.hid (h.take hmn)
  rw [hl'] at HL
  have HS : Hid (∀ x ∈ l', x.length ≤ 140737488355328) := fun x hx => hs x (by rw [← hl'] at hx; exact List.mem_of_mem_take hx)
  have HF := Lib.hid fun w => Find_any ⟨#[85, 110, 105, 116]⟩ ⟨#[87, 97, 110, 116, 115]⟩ w
  clear h hs hl' hmd
  go_enter Tryz.func7, Tryz.ntmps7
  go_wp2_with fail
  refine (shown_any _).mono ?_
  rintro e1 w1 ⟨rfl, hb1⟩
  have HB1 := Lib.hid hb1
  clear hb1
  go_wp2_with fail
  refine (HF.out _).mono ?_
  rintro e2 w2 ⟨r, rfl, hr, hb2⟩
  change r.is w2 w2.heap.size kyW at hr
  rw [show (findT (⟨#[85, 110, 105, 116]⟩ : ByteArray).data.toList (⟨#[87, 97, 110, 116, 115]⟩ : ByteArray).data.toList).isSome = true from by decide +kernel]
  have HB2 := Lib.hid (more3 HB1.out HB1.out.size hb2)
  have HR2 := Lib.hid hr
  clear hb2 hr HF HB1
  unfold krA
  have HB3 : Hid (Below w.heap.size w (w2.alloc (.cells #[.string (str r.s), .string (str r.n), .int .i64 r.f, .bool r.l, .int .i64 r.k, .slice r.A r.m r.c] 28))) := HB2.out.alloc HB2.out.size _
  have HR3 : Hid (r.is (w2.alloc (.cells #[.string (str r.s), .string (str r.n), .int .i64 r.f, .bool r.l, .int .i64 r.k, .slice r.A r.m r.c] 28)) w2.heap.size kyW) := HR2.out.below ((Below.refl _ _).alloc (Nat.le_refl _) _)
  have HK3 : Hid (Blk (w2.alloc (.cells #[.string (str r.s), .string (str r.n), .int .i64 r.f, .bool r.l, .int .i64 r.k, .slice r.A r.m r.c] 28)) w2.heap.size 28 (krA r)) := Blk.new w2 _ _
  clear HB2 HR2
  have T0 : Hid (NmT [] true) := ⟨(good_nil unitS).1, (good_nil unitS).2⟩
  have T1 : Hid (Shutd []) := shutd_nil
  go_wp2_with fail
  generalize hw3 : w2.alloc (.cells #[.string (str r.s), .string (str r.n), .int .i64 r.f, .bool r.l, .int .i64 r.k, .slice r.A r.m r.c] 28) = w3 at *
  have hz3 : w3.heap.size = w2.heap.size + 1 := by rw [← hw3]; simp
  have HZ3 := Lib.hid hz3
  clear hw3 hz3
  go_loopw [7, 8, 26] (fun s g i wr => ∃ (k : Nat) (T : List UInt8) (gd : Bool), k ≤ m ∧ i = .int .i64 k ∧ s = .string (str T) ∧ g = .bool gd ∧ T.length ≤ k * 140737488355340 ∧ Hid (NmT T gd) ∧ Hid (Shutd T) ∧ Hid (Below w3.heap.size w3 wr)) (fun s g i wr => m - (intOf i).toNat)
  case atStart => exact ⟨0, [], true, Nat.zero_le _, rfl, rfl, rfl, by simp, T0, T1, Below.refl _ _⟩
  case round =>
    obtain ⟨k, T, gd, hk, rfl, rfl, rfl, hTl, HT, HSh, HB⟩ := hrel
    by_cases hlt : k < m
    · have b0 : (0 : Int) ≤ (k : Int) := by omega
      have b1 : (k : Int) < (m : Int) := by omega
      obtain ⟨ad, x, rfl, hab, hx, q0⟩ := (HL.out.below (HB.out.mono (show w.heap.size ≤ w3.heap.size from HB3.out.size) |> fun q => (HB3.out.trans q))).at_ hlt
      have hxl := HS.out x (List.mem_of_getElem? hx)
      have hxs : (str x).size = x.length := rfl
      clear hx
      go_wp2_with fail
      go_loopw [11] (fun i wq => ∃ j : Nat, j ≤ (str x).size ∧ i = .int .i64 j ∧ wr = wq ∧ Hid (∀ y ∈ x.take j, y ≠ 32)) (fun i wq => (str x).size - (intOf i).toNat)
      case atStart => exact ⟨0, Nat.zero_le _, rfl, rfl, Lib.hid (fun y hy => by simp at hy)⟩
      case round =>
        obtain ⟨j, hj, rfl, rfl, hno⟩ := hrel
        by_cases hjl : j < (str x).size
        · have j0 : (0 : Int) ≤ (j : Int) := by omega
          have j1 : (j : Int) < ((str x).size : Int) := by omega
          have hg : x[j]'(by rw [← hxs]; exact hjl) = (str x)[j] := rfl
          by_cases hc : (str x)[j] = 32
          · have hcb : (((str x)[j].toNat : Int) == 32) = true := by rw [hc]; rfl
            clear hc hg
            go_wp2_with fail
            go_ret
            exact ⟨rfl, more3 HB3.out HB3.out.size HB.out⟩
          · have hcb : (((str x)[j].toNat : Int) == 32) = false := by
              simp only [beq_eq_false_iff_ne]
              intro e
              exact hc (UInt8.toNat_inj.1 (by have : (32 : UInt8).toNat = 32 := rfl; omega))
            have HN : Hid (∀ y ∈ x.take (j + 1), y ≠ 32) := by
              intro y hy
              rw [List.take_succ_eq_append_getElem (by rw [← hxs]; exact hjl), List.mem_append] at hy
              rcases hy with hy | hy
              · exact hno.out y hy
              · simp at hy
                rw [hy, hg]
                exact hc
            clear hc hg
            go_wp2_with fail
            go_roundw
            case rel => exact ⟨j + 1, by omega, by go_num, by first | rfl | trivial, HN⟩
            case measure => simp [intOf]; omega
        · obtain rfl : j = (str x).size := by omega
          have HN : Hid ((32 : UInt8) ∉ x) := by
            intro hm
            exact hno.out 32 (by rw [hxs, List.take_length]; exact hm) rfl
          clear hno hjl hj
          rcases he : (str x).toList.isEmpty with _ | _
          · have hx0 : x ≠ [] := by rw [emp_str, decide_eq_false_iff_not] at he; exact he
            obtain ⟨g2, hg2⟩ : ∃ g2, (gd && unitS (str x)) = g2 := ⟨_, rfl⟩
            obtain ⟨aw1, aw2⟩ := add_word (p := unitS) HSh.out HN.out hx0
            rw [HT.out.good, hg2] at aw1
            have HT2 : Hid (NmT (T ++ x) g2) := ⟨aw1, by rw [aw2]; simp [hx0]⟩
            have hcat : str T ++ str x = str (T ++ x) := str_app T x
            have hszT : (str T).size = T.length := rfl
            have hmx : (str x).size ≤ maxLen := by rw [hxs]; unfold maxLen; omega
            have HG2 := Lib.hid hg2
            clear aw1 aw2 hg2 HSh HT
            obtain ⟨tm, htm⟩ : ∃ tm, (Nm.atP (str x) && (Nm.instP (str x)).toList.isEmpty) = tm := ⟨_, rfl⟩
            obtain ⟨gp, hgp⟩ : ∃ gp, Nm.goodP (str x) = gp := ⟨_, rfl⟩
            have hun : unitS (str x) = (gp && !tm) := by
              unfold unitS
              rw [← htm, ← hgp]
              cases Nm.atP (str x) <;> cases (Nm.instP (str x)).toList.isEmpty <;> simp
            have HM := fun w => Nm.rMay_any (str x) hmx w
            have HI := fun w => Nm.rIsTemplate_any (str x) hmx w
            rw [hgp] at HM
            rw [htm] at HI
            have HM := Lib.hid HM
            have HI := Lib.hid HI
            rw [hun] at HG2
            clear hun htm hgp
            have hTb : T.length ≤ 20 * 140737488355340 := Nat.le_trans hTl (Nat.mul_le_mul_right _ (by omega))
            have hTx : T.length + x.length + 4 ≤ (k + 1) * 140737488355340 := by rw [Nat.add_mul]; omega
            rcases gd with _ | _
            · have hg : g2 = false := by have := HG2.out; simpa using this.symm
              subst hg
              have HBZ := HB
              go_wp2_with fail
              go_loopw [7, 12] (fun s i wy => ∃ (q : Nat) (T2 : List UInt8), q ≤ bq + 1 ∧ i = .int .i64 q ∧ s = .string (str T2) ∧ T2.length ≤ T.length + x.length + q ∧ T2 ≠ [] ∧ wr = wy ∧ Hid (NmT T2 false) ∧ Hid (0 < q → Shutd T2)) (fun s i wy => bq + 1 - (intOf i).toNat)
              case atStart => exact ⟨0, T ++ x, Nat.zero_le _, rfl, rfl, by simp, by simp [hx0], rfl, HT2, Lib.hid (fun h => by omega)⟩
              case round =>
                obtain ⟨q, T2, hq, rfl, rfl, hT2l, hT20, rfl, HT3, HS3⟩ := hrel
                by_cases hqb : q ≤ bq
                · have d0 : (q : Int) ≤ (bq : Int) := by omega
                  have hsz2 : (str T2).size = T2.length := rfl
                  have hcat2 : str T2 ++ (⟨#[32]⟩ : ByteArray) = str (T2 ++ [32]) := str_app T2 [32]
                  obtain ⟨g3, g4, g5⟩ := add_blank (p := unitS) T2
                  have HT4 : Hid (NmT (T2 ++ [32]) false) := ⟨by rw [g3]; exact HT3.out.good, by rw [g4, HT3.out.found]; simp [hT20]⟩
                  have HS4 : Hid (0 < q + 1 → Shutd (T2 ++ [32])) := fun _ => g5
                  clear g3 g4 g5
                  go_wp2_with fail
                  go_roundw
                  case rel => exact ⟨q + 1, T2 ++ [32], by omega, by go_num, rfl, by rw [List.length_append]; simp; omega, by simp, by first | rfl | trivial, HT4, HS4⟩
                  case measure => simp [intOf]; omega
                · have d0 : (bq : Int) < (q : Int) := by omega
                  have HS5 := Lib.hid (HS3.out (by omega))
                  go_wp2_with fail
                  go_roundw
                  case rel => exact ⟨k + 1, T2, false, by omega, by go_num, rfl, rfl, by omega, HT3, HS5, HBZ⟩
                  case measure => simp [intOf]; omega
            · rcases gp with _ | _
              · have hg : g2 = false := by have := HG2.out; simpa using this.symm
                subst hg
                go_wp2_with fail
                refine (HM.out _).mono ?_
                rintro e5 wz ⟨rfl, hb5⟩
                have HBZ := Lib.hid (more3 HB.out HB.out.size hb5)
                clear hb5
                go_wp2_with fail
                go_loopw [7, 12] (fun s i wy => ∃ (q : Nat) (T2 : List UInt8), q ≤ bq + 1 ∧ i = .int .i64 q ∧ s = .string (str T2) ∧ T2.length ≤ T.length + x.length + q ∧ T2 ≠ [] ∧ wz = wy ∧ Hid (NmT T2 false) ∧ Hid (0 < q → Shutd T2)) (fun s i wy => bq + 1 - (intOf i).toNat)
                case atStart => exact ⟨0, T ++ x, Nat.zero_le _, rfl, rfl, by simp, by simp [hx0], rfl, HT2, Lib.hid (fun h => by omega)⟩
                case round =>
                  obtain ⟨q, T2, hq, rfl, rfl, hT2l, hT20, rfl, HT3, HS3⟩ := hrel
                  by_cases hqb : q ≤ bq
                  · have d0 : (q : Int) ≤ (bq : Int) := by omega
                    have hsz2 : (str T2).size = T2.length := rfl
                    have hcat2 : str T2 ++ (⟨#[32]⟩ : ByteArray) = str (T2 ++ [32]) := str_app T2 [32]
                    obtain ⟨g3, g4, g5⟩ := add_blank (p := unitS) T2
                    have HT4 : Hid (NmT (T2 ++ [32]) false) := ⟨by rw [g3]; exact HT3.out.good, by rw [g4, HT3.out.found]; simp [hT20]⟩
                    have HS4 : Hid (0 < q + 1 → Shutd (T2 ++ [32])) := fun _ => g5
                    clear g3 g4 g5
                    go_wp2_with fail
                    go_roundw
                    case rel => exact ⟨q + 1, T2 ++ [32], by omega, by go_num, rfl, by rw [List.length_append]; simp; omega, by simp, by first | rfl | trivial, HT4, HS4⟩
                    case measure => simp [intOf]; omega
                  · have d0 : (bq : Int) < (q : Int) := by omega
                    have HS5 := Lib.hid (HS3.out (by omega))
                    go_wp2_with fail
                    go_roundw
                    case rel => exact ⟨k + 1, T2, false, by omega, by go_num, rfl, rfl, by omega, HT3, HS5, HBZ⟩
                    case measure => simp [intOf]; omega
              · have hg : g2 = !tm := by have := HG2.out; simpa using this.symm
                subst hg
                go_wp2_with fail
                refine (HM.out _).mono ?_
                rintro e5 wz ⟨rfl, hb5⟩
                have HBY := Lib.hid (more3 HB.out HB.out.size hb5)
                clear hb5
                go_wp2_with fail
                refine (HI.out _).mono ?_
                rintro e6 wz ⟨rfl, hb6⟩
                have HBZ := Lib.hid (more3 HBY.out HBY.out.size hb6)
                clear hb6
                go_wp2_with fail
                go_loopw [7, 12] (fun s i wy => ∃ (q : Nat) (T2 : List UInt8), q ≤ bq + 1 ∧ i = .int .i64 q ∧ s = .string (str T2) ∧ T2.length ≤ T.length + x.length + q ∧ T2 ≠ [] ∧ wz = wy ∧ Hid (NmT T2 (!tm)) ∧ Hid (0 < q → Shutd T2)) (fun s i wy => bq + 1 - (intOf i).toNat)
                case atStart => exact ⟨0, T ++ x, Nat.zero_le _, rfl, rfl, by simp, by simp [hx0], rfl, HT2, Lib.hid (fun h => by omega)⟩
                case round =>
                  obtain ⟨q, T2, hq, rfl, rfl, hT2l, hT20, rfl, HT3, HS3⟩ := hrel
                  by_cases hqb : q ≤ bq
                  · have d0 : (q : Int) ≤ (bq : Int) := by omega
                    have hsz2 : (str T2).size = T2.length := rfl
                    have hcat2 : str T2 ++ (⟨#[32]⟩ : ByteArray) = str (T2 ++ [32]) := str_app T2 [32]
                    obtain ⟨g3, g4, g5⟩ := add_blank (p := unitS) T2
                    have HT4 : Hid (NmT (T2 ++ [32]) (!tm)) := ⟨by rw [g3]; exact HT3.out.good, by rw [g4, HT3.out.found]; simp [hT20]⟩
                    have HS4 : Hid (0 < q + 1 → Shutd (T2 ++ [32])) := fun _ => g5
                    clear g3 g4 g5
                    go_wp2_with fail
                    go_roundw
                    case rel => exact ⟨q + 1, T2 ++ [32], by omega, by go_num, rfl, by rw [List.length_append]; simp; omega, by simp, by first | rfl | trivial, HT4, HS4⟩
                    case measure => simp [intOf]; omega
                  · have d0 : (bq : Int) < (q : Int) := by omega
                    have HS5 := Lib.hid (HS3.out (by omega))
                    go_wp2_with fail
                    go_roundw
                    case rel => exact ⟨k + 1, T2, (!tm), by omega, by go_num, rfl, rfl, by omega, HT3, HS5, HBZ⟩
                    case measure => simp [intOf]; omega
          · go_wp2_with fail
            go_roundw
            case rel => exact ⟨k + 1, T, gd, by omega, by go_num, rfl, rfl, Nat.le_trans hTl (Nat.mul_le_mul_right _ (Nat.le_succ k)), HT, HSh, HB⟩
            case measure => simp [intOf]; omega
    · obtain rfl : k = m := by omega
      have HB4 := Lib.hid (more3 HB3.out HB3.out.size HB.out)
      have K4 := Lib.hid (HK3.out.below HB.out HK3.out.lt)
      have R4 := Lib.hid (HR3.out.below (HB.out.mono (by rw [HZ3.out]; omega)))
      have hz4 : w2.heap.size ≤ wr.heap.size := by have := HB.out.size; rw [HZ3.out] at this; omega
      have c0 : wr.cell? ⟨w2.heap.size, 0, none⟩ = some (.string (str r.s)) := K4.out.cell 0
      have c1 : wr.cell? ⟨w2.heap.size, 1, none⟩ = some (.string (str r.n)) := K4.out.cell 1
      have c2 : wr.cell? ⟨w2.heap.size, 2, none⟩ = some (.int .i64 r.f) := K4.out.cell 2
      have c3 : wr.cell? ⟨w2.heap.size, 3, none⟩ = some (.bool r.l) := K4.out.cell 3
      have c4 : wr.cell? ⟨w2.heap.size, 4, none⟩ = some (.int .i64 r.k) := K4.out.cell 4
      have c5 : wr.cell? ⟨w2.heap.size, 5, none⟩ = some (.slice r.A r.m r.c) := K4.out.cell 5
      have HV := Lib.hid (value_names kyW rfl r (str T) (by rw [str_size]; unfold maxLen; omega) w2.heap.size wr R4.out)
      rw [value_W T gd HT.out] at HV
      rcases gd with _ | _
      all_goals
        go_wp2_with (go_at_call 15; refine HV.out.mono ?_; rintro e5 w5 ⟨rfl, hb5⟩)
        go_ret
        exact ⟨rfl, more3 HB4.out HB4.out.size hb5⟩
end Go.Proofs.YtadifolonbkamaaGreatDoor
