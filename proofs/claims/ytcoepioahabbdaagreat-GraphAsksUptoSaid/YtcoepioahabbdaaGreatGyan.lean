/- The walk of the document's own Of: its three loops. -/
import Derived.Test.YtcoepioahabbdaaGreatGyal
namespace Go.Proofs.YtcoepioahabbdaaGreat.Nm
open Go.RowKit
set_option maxHeartbeats 2000000 in
set_option maxRecDepth 100000 in
theorem of_long (s : ByteArray) (hs : s.size ≤ maxLen) (h : 60 < s.size) (w : World) :
    Calls Tryz.prog 25 #[.string s] w fun e w' => e = .returned (.agg #[.int .i64 0, .string ⟨#[]⟩, .string ⟨#[]⟩, .bool false]) ∧ Below w.heap.size w w' := by
  unfold maxLen at hs
  have h' : (60 : Int) < s.size := by omega
  go_enter Tryz.func25, Tryz.ntmps25
  go_wp2_with fail
  refine bodyPost_ret (v := .agg #[.int .i64 0, .string ⟨#[]⟩, .string ⟨#[]⟩, .bool false]) (by simp [results, Tryz.results25, go_sem]) rfl ⟨rfl, ?_⟩
  exact (Below.refl _ _).alloc (Nat.le_refl _) _
def endS (k : Int) : ByteArray := str (46 :: sfx k)
theorem endS_eq (k : Int) : (⟨#[46]⟩ : ByteArray) ++ str (sfx k) = endS k := by
  apply ext_list
  rw [app_list]
  rfl
theorem endS_size (k : Int) : (endS k).size = (sfx k).length + 1 := rfl
def kQ (s : ByteArray) : Int := if 0 ≤ pt s ∧ kindS (tailP s) ≠ 0 ∧ 0 < (headP s).size then kindS (tailP s) else 0
theorem kindL_cases (l : List UInt8) : kindL l = 0 ∨ (1 ≤ kindL l ∧ kindL l ≤ 4) := by
  unfold kindL
  split
  · omega
  · split
    · omega
    · split
      · omega
      · split <;> omega
theorem kQ_cases (s : ByteArray) : kQ s = 0 ∨ (1 ≤ kQ s ∧ kQ s ≤ 4) := by
  unfold kQ
  split
  · exact kindL_cases _
  · exact .inl rfl
theorem kQ_split (s : ByteArray) (h : kQ s ≠ 0) : s.data.toList = (headP s).data.toList ++ 46 :: sfx (kQ s) ∧ (headP s).data.toList ≠ [] ∧ kindS (tailP s) = kQ s ∧ 0 ≤ pt s := by
  unfold kQ at *
  split at h
  · rename_i hc
    rw [if_pos hc]
    obtain ⟨h1, h2, h3⟩ := hc
    rcases pt_cases s with h4 | ⟨i, hi, h4⟩
    · omega
    · refine ⟨?_, ?_, rfl, h1⟩
      · rw [pt_split s i hi h4]
        congr 2
        exact (kindL_sfx _ h2).symm
      · intro e
        rw [Lib.size_eq, e] at h3
        exact absurd h3 (by decide)
  · exact absurd rfl h
theorem kQ_of (s : ByteArray) (k : Int) (h : List UInt8) (hk : 1 ≤ k ∧ k ≤ 4) (hne : h ≠ []) (e : s.data.toList = h ++ 46 :: sfx k) : kQ s = k ∧ headP s = str h := by
  obtain ⟨h1, h2⟩ := head_of_split s h (sfx k) e (sfx_nopoint k)
  have hp := pt_of_split s h (sfx k) e (sfx_nopoint k)
  have hs : sfx k ≠ [] := by
    obtain ⟨a, b⟩ := hk
    rcases (show k = 1 ∨ k = 2 ∨ k = 3 ∨ k = 4 by omega) with rfl | rfl | rfl | rfl <;> decide
  obtain ⟨hkk, hk0⟩ := kindL_of_sfx k hs
  have hks : kindS (tailP s) = k := by rw [h2]; exact hkk
  refine ⟨?_, h1⟩
  unfold kQ
  rw [if_pos ⟨by omega, by rw [hks]; exact hk0, by rw [h1, str_size]; exact List.length_pos_iff.2 hne⟩, hks]
theorem kQ_hit (s : ByteArray) (k : Int) (h : kQ s = k) (hk : k ≠ 0) : (endS k).size < s.size ∧ s.extract (s.size - (endS k).size) s.size = endS k ∧ s.extract 0 (s.size - (endS k).size) = headP s := by
  obtain ⟨e, hne, _⟩ := kQ_split s (by omega)
  rw [h] at e
  have hl : s.size = (headP s).data.toList.length + ((sfx k).length + 1) := by rw [Lib.size_eq, e]; simp
  have h1 := endS_size k
  have h2 : 0 < (headP s).data.toList.length := List.length_pos_iff.2 hne
  have h3 : s.size - (endS k).size = (headP s).data.toList.length := by omega
  refine ⟨by omega, ?_, ?_⟩
  · apply ext_list
    rw [Lib.extract_data, h3, List.take_of_length_le (by rw [List.length_drop, Lib.size_eq]; omega), e]
    simp [endS, str]
  · apply ext_list
    rw [Lib.extract_data, h3, e]
    simp
theorem kQ_miss (s : ByteArray) (k : Int) (h : kQ s ≠ k) (hk : 1 ≤ k ∧ k ≤ 4) (hl : (endS k).size < s.size) : ((s.extract (s.size - (endS k).size) s.size).toList == (endS k).toList) = false := by
  rw [beq_str, decide_eq_false_iff_not]
  intro e
  have e1 : (s.extract (s.size - (endS k).size) s.size).data.toList = 46 :: sfx k := by rw [e]; rfl
  rw [Lib.extract_data, List.take_of_length_le (by rw [List.length_drop, Lib.size_eq]; omega)] at e1
  have e2 : s.data.toList = s.data.toList.take (s.size - (endS k).size) ++ 46 :: sfx k := by rw [← e1, List.take_append_drop]
  refine h (kQ_of s k _ hk ?_ e2).1
  intro e3
  have := congrArg List.length e3
  rw [List.length_take, ← Lib.size_eq] at this
  simp at this
  omega
def stK (s : ByteArray) (k : Int) : Int := if kQ s < k then kQ s else 0
def stR (s : ByteArray) (k : Int) : ByteArray := if kQ s < k ∧ kQ s ≠ 0 then headP s else ⟨#[]⟩
theorem st_same (s : ByteArray) (k : Int) (h : kQ s ≠ k) (hk : 1 ≤ k) : stK s (k + 1) = stK s k ∧ stR s (k + 1) = stR s k := by
  unfold stK stR
  by_cases h1 : kQ s < k
  · rw [if_pos h1, if_pos (show kQ s < k + 1 by omega)]
    refine ⟨rfl, ?_⟩
    by_cases h2 : kQ s = 0
    · rw [if_neg (by omega), if_neg (by omega)]
    · rw [if_pos ⟨by omega, h2⟩, if_pos ⟨h1, h2⟩]
  · rw [if_neg h1, if_neg (show ¬ kQ s < k + 1 by omega)]
    exact ⟨rfl, by rw [if_neg (by omega), if_neg (by omega)]⟩
theorem st_hit (s : ByteArray) (k : Int) (h : kQ s = k) (hk : 1 ≤ k) : stK s (k + 1) = k ∧ stR s (k + 1) = headP s := by
  unfold stK stR
  rw [if_pos (by omega), if_pos (by omega)]
  exact ⟨h, rfl⟩
theorem bad_all (s : ByteArray) (h : goodP s = false) : kindP s = 0 ∧ preP s = ⟨#[]⟩ ∧ instP s = ⟨#[]⟩ ∧ atP s = false := by
  obtain ⟨h1, h2, h3⟩ := not_good s h
  exact ⟨by unfold kindP; rw [if_neg (by rw [h]; simp)], h1, h2, h3⟩
theorem bad_kind (s : ByteArray) (h : kQ s = 0) : goodP s = false := by
  rw [← Bool.not_eq_true]
  intro hg
  unfold kQ at h
  unfold goodP at hg
  simp only [Bool.and_eq_true, decide_eq_true_eq] at hg
  obtain ⟨_, h1, h2, h3, _⟩ := hg
  by_cases h0 : 0 < (headP s).size
  · rw [if_pos ⟨h1, h2, h0⟩] at h
    exact h2 h
  · rw [Lib.size_eq] at h0
    have : (headP s).data.toList = [] := List.eq_nil_of_length_eq_zero (by omega)
    unfold cutAt at h3
    rw [this] at h3
    exact h3 rfl
theorem bad_cut (s : ByteArray) (h : ((cutAt (headP s)).1 ≠ [] ∧ bodyL (cutAt (headP s)).1 = true ∧ bodyL (cutAt (headP s)).2.1 = true) → False) : goodP s = false := by
  rw [← Bool.not_eq_true]
  intro hg
  unfold goodP at hg
  simp only [Bool.and_eq_true, decide_eq_true_eq] at hg
  exact h hg.2.2.2
theorem good_all (s p i : ByteArray) (a : Bool) (h60 : s.size ≤ 60) (hk : kQ s ≠ 0) (hc : cutAt (headP s) = (p.data.toList, i.data.toList, a)) (hp : p.data.toList ≠ []) (hb1 : bodyL p.data.toList = true) (hb2 : bodyL i.data.toList = true) :
    kindP s = kQ s ∧ preP s = p ∧ instP s = i ∧ atP s = a := by
  obtain ⟨_, _, h1, h2⟩ := kQ_split s hk
  have hg : goodP s = true := by
    unfold goodP
    rw [hc, h1]
    simp only [Bool.and_eq_true, decide_eq_true_eq]
    exact ⟨h60, h2, hk, hp, hb1, hb2⟩
  unfold kindP preP instP atP
  rw [if_pos hg, if_pos hg, if_pos hg, if_pos hg, hc, h1]
  exact ⟨rfl, str_data p, str_data i, rfl⟩
theorem bodyL_app (a b : ByteArray) : bodyL (a ++ b).data.toList = (bodyL a.data.toList && bodyL b.data.toList) := by
  rw [app_list]; unfold bodyL; rw [List.all_append]
theorem ret_cut {k k' : Int} {p p' i i' : ByteArray} {a a' : Bool} (h : k' = k ∧ p' = p ∧ i' = i ∧ a' = a) : Ending.returned (.agg #[.int .i64 k, .string p, .string i, .bool a]) = .returned (.agg #[.int .i64 k', .string p', .string i', .bool a']) := by
  obtain ⟨rfl, rfl, rfl, rfl⟩ := h; rfl
theorem cut_break (H : ByteArray) (k : Nat) (hk : k < H.size) (hn : ∀ c ∈ H.data.toList.take k, c ≠ 64) (h64 : H[k] = 64) : cutAt H = ((H.extract 0 k).data.toList, (H.extract (k + 1) H.size).data.toList, true) := by
  have e : H.data.toList = H.data.toList.take k ++ 64 :: H.data.toList.drop (k + 1) := by
    rw [← h64, ← drop_at H k hk, List.take_append_drop]
  unfold cutAt
  rw [e, cut_of_join _ _ hn]
  rw [Lib.extract_data, Lib.extract_data, List.drop_zero, Nat.sub_zero, List.take_of_length_le (l := H.data.toList.drop (k + 1)) (by rw [List.length_drop, Lib.size_eq]; exact Nat.le_refl _)]
theorem cut_end (H : ByteArray) (hn : ∀ c ∈ H.data.toList, c ≠ 64) : cutAt H = (H.data.toList, (⟨#[]⟩ : ByteArray).data.toList, false) := cut_of_plain _ hn
theorem Blk.far {w : World} {g : Nat} {t : TypeId} {cs : Array Value} (h : Blk w g t cs) {p : Addr} (hp : g ≠ p.block) (u : Value) : Blk (w.setCell p u) g t cs := (Below.heap_setCell w p u g hp).trans h
set_option maxHeartbeats 4000000 in
set_option maxRecDepth 100000 in
theorem of_short (s : ByteArray) (h : s.size ≤ 60) (w : World) :
    Calls Tryz.prog 25 #[.string s] w fun e w' => e = .returned (.agg #[.int .i64 (kindP s), .string (preP s), .string (instP s), .bool (atP s)]) ∧ Below w.heap.size w w' := by
  have h' : (s.size : Int) ≤ 60 := by omega
  have hB0 := Lib.hid ((Blk.new w 60 #[.int .i64 0, .string ⟨#[]⟩, .string ⟨#[]⟩, .bool false]).alloc (.cells #[.int .i64 0, .string ⟨#[]⟩, .string ⟨#[]⟩, .bool false] 60))
  have hB1 : Hid (Blk ((w.alloc (.cells #[.int .i64 0, .string ⟨#[]⟩, .string ⟨#[]⟩, .bool false] 60)).alloc (.cells #[.int .i64 0, .string ⟨#[]⟩, .string ⟨#[]⟩, .bool false] 60)) (w.heap.size + 1) 60 #[.int .i64 0, .string ⟨#[]⟩, .string ⟨#[]⟩, .bool false]) := by
    have := Blk.new (w.alloc (.cells #[.int .i64 0, .string ⟨#[]⟩, .string ⟨#[]⟩, .bool false] 60)) 60 #[.int .i64 0, .string ⟨#[]⟩, .string ⟨#[]⟩, .bool false]
    rwa [World.size_alloc] at this
  go_enter Tryz.func25, Tryz.ntmps25
  go_wp2_with fail
  go_loopw [4, 5] (fun r i wr => ∃ k : Nat, 1 ≤ k ∧ k ≤ 5 ∧ i = .int .i64 k ∧ r = .string (stR s k) ∧ Hid (Blk wr (w.heap.size + 1) 60 #[.int .i64 (stK s k), .string ⟨#[]⟩, .string ⟨#[]⟩, .bool false]) ∧ Hid (Blk wr w.heap.size 60 #[.int .i64 0, .string ⟨#[]⟩, .string ⟨#[]⟩, .bool false]) ∧ Hid (Below w.heap.size w wr)) (fun r i wr => 5 - (intOf i).toNat)
  case atStart =>
    have e1 : stK s ((1 : Nat) : Int) = 0 := by unfold stK; rcases kQ_cases s with h | h; rw [h]; rfl; rw [if_neg (by omega)]
    have e2 : stR s ((1 : Nat) : Int) = ⟨#[]⟩ := by unfold stR; rw [if_neg (by rcases kQ_cases s with h | h <;> omega)]
    exact ⟨1, by omega, by omega, rfl, by rw [e2], by rw [e1]; exact hB1, hB0, ((Below.refl _ _).alloc (Nat.le_refl _) _).alloc (by simp) _⟩
  case round =>
    obtain ⟨k, hk1, hk5, rfl, rfl, hC, hR, hb⟩ := hrel
    by_cases hlt : k < 5
    · obtain ⟨c0, c1, c2, c3, f0, f1, f2, f3⟩ := hC.out.four
      have lt1 := hC.out.lt
      have hE := endS_eq (k : Int)
      have hsf := sfx_length (k : Int)
      have hes : (endS (k : Int)).size ≤ 8 := by rw [endS_size]; omega
      have hs7 : (str (sfx (k : Int))).size ≤ 7 := hsf
      have b0 : (k : Int) ≤ 4 := by omega
      by_cases hq : kQ s = (k : Int)
      · obtain ⟨q1, q2, q3⟩ := kQ_hit s k hq (by omega)
        have q1' : ((endS (k : Int)).size : Int) < (s.size : Int) := by omega
        have q4 : (0 : Int) ≤ (s.size : Int) - ((endS (k : Int)).size : Int) := by omega
        have q5 : (s.size : Int) - ((endS (k : Int)).size : Int) ≤ (s.size : Int) := by omega
        have q6 : ((s.extract (s.size - (endS (k : Int)).size) s.size).toList == (endS (k : Int)).toList) = true := by rw [q2]; simp
        obtain ⟨s1, s2⟩ := st_hit s k hq (by omega)
        have Q3 := Lib.hid q3
        have S1 := Lib.hid s1
        have S2 := Lib.hid s2
        clear q2 q3 s1 s2 hq
        go_wp2_with fail
        refine (rSuffix_any _ _).mono ?_
        rintro e w' ⟨rfl, rfl⟩
        go_wp2_with fail
        go_region
        go_wp2_with fail
        go_roundw
        case rel =>
          refine ⟨k + 1, by omega, by omega, by go_num, ?_, ?_, ?_, ?_⟩
          · rw [show ((k + 1 : Nat) : Int) = (k : Int) + 1 by omega, S2.out, ← Q3.out]
          · rw [show ((k + 1 : Nat) : Int) = (k : Int) + 1 by omega, S1.out]
            exact hC.out.set_ 0 (.int .i64 (k : Int))
          · exact hR.out.far (p := ⟨w.heap.size + 1, 0, none⟩) (by show _ ≠ w.heap.size + 1; omega) _
          · exact hb.out.drew.setCell (p := ⟨w.heap.size + 1, 0, none⟩) (by show _ ≤ w.heap.size + 1; omega) _
        case measure => simp [intOf]; omega
      · obtain ⟨s1, s2⟩ := st_same s k hq (by omega)
        have S1 := Lib.hid s1
        have S2 := Lib.hid s2
        by_cases hl : (endS (k : Int)).size < s.size
        · have q6 := kQ_miss s k hq (by omega) hl
          have q1' : ((endS (k : Int)).size : Int) < (s.size : Int) := by omega
          have q4 : (0 : Int) ≤ (s.size : Int) - ((endS (k : Int)).size : Int) := by omega
          have q5 : (s.size : Int) - ((endS (k : Int)).size : Int) ≤ (s.size : Int) := by omega
          clear s1 s2 hq
          go_wp2_with fail
          refine (rSuffix_any _ _).mono ?_
          rintro e w' ⟨rfl, rfl⟩
          go_wp2_with fail
          go_roundw
          case rel => exact ⟨k + 1, by omega, by omega, by go_num, by rw [show ((k + 1 : Nat) : Int) = (k : Int) + 1 by omega, S2.out], by rw [show ((k + 1 : Nat) : Int) = (k : Int) + 1 by omega, S1.out]; exact hC, hR, hb⟩
          case measure => simp [intOf]; omega
        · have q1' : (s.size : Int) ≤ ((endS (k : Int)).size : Int) := by omega
          clear s1 s2 hq hl
          go_wp2_with fail
          refine (rSuffix_any _ _).mono ?_
          rintro e w' ⟨rfl, rfl⟩
          go_wp2_with fail
          go_roundw
          case rel => exact ⟨k + 1, by omega, by omega, by go_num, by rw [show ((k + 1 : Nat) : Int) = (k : Int) + 1 by omega, S2.out], by rw [show ((k + 1 : Nat) : Int) = (k : Int) + 1 by omega, S1.out]; exact hC, hR, hb⟩
          case measure => simp [intOf]; omega
    · obtain rfl : k = 5 := by omega
      have e1 : stK s ((5 : Nat) : Int) = kQ s := by unfold stK; rw [if_pos (by rcases kQ_cases s with h | h <;> omega)]
      rw [e1] at hC
      clear e1
      obtain ⟨c0, c1, c2, c3, f0, f1, f2, f3⟩ := hC.out.four
      obtain ⟨r0, r1, r2, r3, g0, g1, g2, g3⟩ := hR.out.four
      have lt1 := hC.out.lt
      have lt0 := hR.out.lt
      by_cases hq0 : kQ s = 0
      · have hq0' : ((kQ s : Int) == 0) = true := by rw [hq0]; rfl
        have HQ := Lib.hid hq0
        clear hq0
        go_wp2_with fail
        refine bodyPost_ret (v := .agg #[.int .i64 0, .string ⟨#[]⟩, .string ⟨#[]⟩, .bool false]) (by simp [results, Tryz.results25, go_sem, r0, r1, r2, r3]) rfl ⟨ret_cut (bad_all s (bad_kind s HQ.out)), ?_⟩
        go_grown
        exact hb.out
      · have hq0' : ((kQ s : Int) == 0) = false := by simpa using hq0
        have e2 : stR s ((5 : Nat) : Int) = headP s := by unfold stR; rw [if_pos ⟨by rcases kQ_cases s with h | h <;> omega, hq0⟩]
        rw [e2]
        clear e2
        have Q0 := Lib.hid hq0
        clear hq0
        go_wp2_with fail
        have hHne : (headP s).toList.isEmpty = false := by
          have := (kQ_split s Q0.out).2.1
          rw [Lib.toList_data]
          simpa using this
        have hH60 : (headP s).size ≤ 60 := by unfold headP; rw [ByteArray.size_extract]; omega
        go_loop [7] (fun i => ∃ k : Nat, k ≤ (headP s).size ∧ i = .int .i64 k ∧ Hid (∀ c ∈ (headP s).data.toList.take k, c ≠ 64)) (fun i => (headP s).size - (intOf i).toNat)
        case atStart => exact ⟨0, Nat.zero_le _, rfl, fun c hc => by simp at hc⟩
        case round =>
          obtain ⟨k, hk, rfl, hn⟩ := hrel
          by_cases hlt : k < (headP s).size
          · have b0 : (0 : Int) ≤ (k : Int) := by omega
            have b1 : (k : Int) < ((headP s).size : Int) := by omega
            have b2 : (k : Int) ≤ ((headP s).size : Int) := by omega
            have b3 : (0 : Int) ≤ (k : Int) + 1 := by omega
            have b4 : (k : Int) + 1 ≤ ((headP s).size : Int) := by omega
            by_cases h64 : (headP s)[k] = 64
            · have h64' : (((headP s)[k].toNat : Int) == 64) = true := by rw [h64]; rfl
              have HC := Lib.hid (cut_break (headP s) k hlt hn.out h64)
              clear h64
              rcases hP0 : ((headP s).extract 0 k).toList.isEmpty with _ | _
              · go_wp2_with fail
                go_region
                go_wp2_with fail
                obtain ⟨all, hall⟩ : ∃ all : ByteArray, all = (headP s).extract 0 k ++ (headP s).extract (k + 1) (headP s).size := ⟨_, rfl⟩
                rw [← hall]
                have hsz : all.size ≤ maxLen := by rw [hall, ByteArray.size_append]; unfold maxLen; rw [ByteArray.size_extract, ByteArray.size_extract]; omega
                have HALL := Lib.hid hall
                clear hall
                unfold maxLen at hsz
                go_loop [9] (fun i => ∃ j : Nat, j ≤ all.size ∧ i = .int .i64 j ∧ Hid (bodyL (all.data.toList.take j) = true)) (fun i => all.size - (intOf i).toNat)
                case atStart => exact ⟨0, Nat.zero_le _, rfl, rfl⟩
                case round =>
                  obtain ⟨j, hj, rfl, hbo⟩ := hrel
                  by_cases hjl : j < all.size
                  · have hrj := all[j].toNat_lt
                    have d0 : (0 : Int) ≤ (j : Int) := by omega
                    have d1 : (j : Int) < (all.size : Int) := by omega
                    rcases hby : bodyByte all[j].toNat with _ | _
                    · have HF := Lib.hid (bodyL_false all j hjl hby)
                      go_wp2_with fail
                      refine (rnameByte_any _ (by omega) _).mono ?_
                      rintro e w' ⟨rfl, rfl⟩
                      go_wp2_with fail
                      refine bodyPost_ret (v := .agg #[.int .i64 0, .string ⟨#[]⟩, .string ⟨#[]⟩, .bool false]) (by simp [results, Tryz.results25, go_sem, r0, r1, r2, r3]) rfl ⟨ret_cut (bad_all s (bad_cut s (fun hg => ?_))), ?_⟩
                      · rw [HC.out] at hg
                        have := HF.out
                        rw [HALL.out, bodyL_app, hg.2.1, hg.2.2] at this
                        exact absurd this (by decide)
                      · go_grown
                        exact hb.out
                    · have HB : Hid (bodyL (all.data.toList.take (j + 1)) = true) := bodyL_take_succ all j hjl hbo.out hby
                      go_wp2_with fail
                      refine (rnameByte_any _ (by omega) _).mono ?_
                      rintro e w' ⟨rfl, rfl⟩
                      go_wp2_with fail
                      go_round
                      case rel => exact ⟨j + 1, by omega, by go_num, HB⟩
                      case measure => simp [intOf]; omega
                  · have d1 : (all.size : Int) ≤ (j : Int) := by omega
                    have HG : Hid (bodyL ((headP s).extract 0 k).data.toList = true ∧ bodyL ((headP s).extract (k + 1) (headP s).size).data.toList = true) := by
                      have := hbo.out
                      rw [List.take_of_length_le (by simp; omega), HALL.out, bodyL_app] at this
                      rwa [Bool.and_eq_true] at this
                    go_wp2_with fail
                    refine bodyPost_ret (v := .agg #[.int .i64 (kQ s), .string ((headP s).extract 0 k), .string ((headP s).extract (k + 1) (headP s).size), .bool true]) (by simp [results, Tryz.results25, go_sem, r0, r1, r2, r3]) rfl ⟨ret_cut (good_all s _ _ _ h Q0.out HC.out ?_ HG.out.1 HG.out.2), ?_⟩
                    · rw [Lib.toList_data] at hP0; simpa using hP0
                    · go_grown
                      exact hb.out
              · go_wp2_with fail
                go_region
                go_wp2_with fail
                refine bodyPost_ret (v := .agg #[.int .i64 0, .string ⟨#[]⟩, .string ⟨#[]⟩, .bool false]) (by simp [results, Tryz.results25, go_sem, r0, r1, r2, r3]) rfl ⟨ret_cut (bad_all s (bad_cut s (fun hg => ?_))), ?_⟩
                · rw [HC.out] at hg
                  rw [Lib.toList_data] at hP0
                  exact hg.1 (by simpa using hP0)
                · go_grown
                  exact hb.out
            · have h64' : (((headP s)[k].toNat : Int) == 64) = false := by
                simp
                intro e
                exact h64 (UInt8.toNat_inj.1 (by show _ = 64; omega))
              have HN : Hid (∀ c ∈ (headP s).data.toList.take (k + 1), c ≠ 64) := by
                intro c hc
                rw [List.take_succ_eq_append_getElem (by simpa using hlt)] at hc
                rcases List.mem_append.1 hc with hc | hc
                · exact hn.out c hc
                · simp at hc
                  rw [hc]
                  exact h64
              clear h64
              go_wp2_with fail
              go_round
              case rel => exact ⟨k + 1, by omega, by go_num, HN⟩
              case measure => simp [intOf]; omega
          · have HN : ∀ c ∈ (headP s).data.toList, c ≠ 64 := by
              have := hn.out
              rwa [List.take_of_length_le (by simp; omega)] at this
            have HC := Lib.hid (cut_end (headP s) HN)
            clear HN
            have b1 : ((headP s).size : Int) ≤ (k : Int) := by omega
            go_wp2_with fail
            obtain ⟨all, hall⟩ : ∃ all : ByteArray, all = headP s ++ (⟨#[]⟩ : ByteArray) := ⟨_, rfl⟩
            rw [← hall]
            have hsz : all.size ≤ maxLen := by rw [hall, ByteArray.size_append]; unfold maxLen; have : (⟨#[]⟩ : ByteArray).size = 0 := rfl; omega
            have HALL := Lib.hid hall
            clear hall
            unfold maxLen at hsz
            go_loop [9] (fun i => ∃ j : Nat, j ≤ all.size ∧ i = .int .i64 j ∧ Hid (bodyL (all.data.toList.take j) = true)) (fun i => all.size - (intOf i).toNat)
            case atStart => exact ⟨0, Nat.zero_le _, rfl, rfl⟩
            case round =>
              obtain ⟨j, hj, rfl, hbo⟩ := hrel
              by_cases hjl : j < all.size
              · have hrj := all[j].toNat_lt
                have d0 : (0 : Int) ≤ (j : Int) := by omega
                have d1 : (j : Int) < (all.size : Int) := by omega
                rcases hby : bodyByte all[j].toNat with _ | _
                · have HF := Lib.hid (bodyL_false all j hjl hby)
                  go_wp2_with fail
                  refine (rnameByte_any _ (by omega) _).mono ?_
                  rintro e w' ⟨rfl, rfl⟩
                  go_wp2_with fail
                  refine bodyPost_ret (v := .agg #[.int .i64 0, .string ⟨#[]⟩, .string ⟨#[]⟩, .bool false]) (by simp [results, Tryz.results25, go_sem, r0, r1, r2, r3]) rfl ⟨ret_cut (bad_all s (bad_cut s (fun hg => ?_))), ?_⟩
                  · rw [HC.out] at hg
                    have := HF.out
                    rw [HALL.out, bodyL_app, hg.2.1, hg.2.2] at this
                    exact absurd this (by decide)
                  · go_grown
                    exact hb.out
                · have HB : Hid (bodyL (all.data.toList.take (j + 1)) = true) := bodyL_take_succ all j hjl hbo.out hby
                  go_wp2_with fail
                  refine (rnameByte_any _ (by omega) _).mono ?_
                  rintro e w' ⟨rfl, rfl⟩
                  go_wp2_with fail
                  go_round
                  case rel => exact ⟨j + 1, by omega, by go_num, HB⟩
                  case measure => simp [intOf]; omega
              · have d1 : (all.size : Int) ≤ (j : Int) := by omega
                have HG : Hid (bodyL (headP s).data.toList = true ∧ bodyL ((⟨#[]⟩ : ByteArray)).data.toList = true) := by
                  have := hbo.out
                  rw [List.take_of_length_le (by simp; omega), HALL.out, bodyL_app] at this
                  rwa [Bool.and_eq_true] at this
                go_wp2_with fail
                refine bodyPost_ret (v := .agg #[.int .i64 (kQ s), .string (headP s), .string ((⟨#[]⟩ : ByteArray)), .bool false]) (by simp [results, Tryz.results25, go_sem, r0, r1, r2, r3]) rfl ⟨ret_cut (good_all s _ _ _ h Q0.out HC.out ?_ HG.out.1 HG.out.2), ?_⟩
                · rw [Lib.toList_data] at hHne; simpa using hHne
                · go_grown
                  exact hb.out
theorem Of_any (s : ByteArray) (hs : s.size ≤ maxLen) (w : World) :
    Calls Tryz.prog 25 #[.string s] w fun e w' => e = .returned (.agg #[.int .i64 (kindP s), .string (preP s), .string (instP s), .bool (atP s)]) ∧ Below w.heap.size w w' := by
  by_cases h : s.size ≤ 60
  · exact of_short s h w
  · have hb : goodP s = false := by
      rw [← Bool.not_eq_true]
      intro hg
      unfold goodP at hg
      simp only [Bool.and_eq_true, decide_eq_true_eq] at hg
      exact h hg.1
    obtain ⟨e1, e2, e3, e4⟩ := bad_all s hb
    rw [e1, e2, e3, e4]
    exact of_long s hs (by omega) w
end Go.Proofs.YtcoepioahabbdaaGreat.Nm
