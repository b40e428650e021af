/- The walks of package words' isPlain, writeQuoted, hasZero. -/
import Derived.Test.YtbgblbikffamkaaWdA
import Derived.Test.YtbgblbikffamkaaSpM
namespace Go.Proofs.Ytbgblbikffamkaa
open Go.RowKit

theorem indexByte_zero (l : List UInt8) : decide (0 ≤ Lib.indexByte l 0) = l.any fun c => c == 0 := by
  rcases Int.lt_or_le (Lib.indexByte l 0) 0 with h | h
  · have hm : Lib.indexByte l 0 = -1 := by
      by_cases e : Lib.indexByte l 0 = -1
      · exact e
      · exfalso
        have := Lib.indexByte_ge l 0
        omega
    rw [hm]
    have h1 := Lib.indexByte_none hm
    symm
    rw [show decide ((0 : Int) ≤ -1) = false by decide, List.any_eq_false]
    intro c hc
    obtain ⟨k, hk, rfl⟩ := List.getElem_of_mem hc
    simp only [beq_iff_eq]
    intro e
    exact h1 k (by rw [List.getElem?_eq_getElem hk, e])
  · obtain ⟨n, hn⟩ : ∃ n : Nat, Lib.indexByte l 0 = n := ⟨(Lib.indexByte l 0).toNat, by omega⟩
    obtain ⟨h1, _⟩ := Lib.indexByte_some hn
    obtain ⟨hk, h2⟩ := List.getElem?_eq_some_iff.1 h1
    rw [show decide (0 ≤ Lib.indexByte l 0) = true by simp [h]]
    symm
    rw [List.any_eq_true]
    exact ⟨l[n], List.getElem_mem _, by rw [h2]; rfl⟩
theorem hasZero_any (s : ByteArray) (w : World) :
    Calls Try.prog 20 #[.string s] w fun e w' => e = .returned (.bool (s.data.toList.any fun c => c == 0)) ∧ w = w' := by
  have H := Lib.hid (indexByte_zero s.data.toList)
  go_enter Try.func20, Try.ntmps20
  go_wp2_with fail
  refine (Try.strings_IndexByte _ _ _).mono ?_
  rintro e w' ⟨rfl, rfl⟩
  go_wp2_with fail
  go_ret
  exact ⟨ret_bool H.out, rfl⟩

def safeS (s : ByteArray) : Bool := safeW s.data.toList
def plainsL (l : List UInt8) : Bool := l.all plainW
theorem plainsL_succ (s : ByteArray) (k : Nat) (h : k < s.size) (hb : plainsL (s.data.toList.take k) = true) (hc : plainW s[k] = true) : plainsL (s.data.toList.take (k + 1)) = true := by
  rw [take_at s k h]
  unfold plainsL at *
  rw [List.all_append, hb]
  simpa using hc
theorem safeS_false (s : ByteArray) (k : Nat) (h : k < s.size) (hc : plainW s[k] = false) : safeS s = false := by
  unfold safeS safeW
  split
  · rfl
  · rename_i c t e
    rw [Bool.and_eq_false_iff]
    right
    rw [List.all_eq_false]
    exact ⟨s[k], by simp [ByteArray.getElem_eq_getElem_data], by simp [hc]⟩
theorem safeS_end (s : ByteArray) (hb : plainsL (s.data.toList.take s.size) = true) (h : 0 < s.size) : safeS s = ((s[0].toNat : Int) != 45) := by
  have hd := drop_at s 0 h
  rw [List.drop_zero] at hd
  rw [List.take_of_length_le (by simp)] at hb
  unfold safeS safeW
  unfold plainsL at hb
  rw [hd]
  dsimp only
  rw [← hd, hb, Bool.and_true, Bool.eq_iff_iff]
  simp only [Bool.not_eq_true', beq_eq_false_iff_ne, ne_eq, bne_iff_ne]
  constructor
  · intro h e
    exact h (byte_eq.2 (by show _ = 45; omega))
  · intro h e
    exact h (by rw [e]; rfl)
theorem safeS_nil (s : ByteArray) (h : s.size = 0) : safeS s = false := by
  have : s.data.toList = [] := List.eq_nil_of_length_eq_zero (by simpa using h)
  unfold safeS
  rw [this]; rfl
theorem plainW_eq (c : UInt8) : plainW c = (((((decide (32 ≤ c.toNat) && decide (c.toNat ≤ 126)) && !((c.toNat : Int) == 32)) && !((c.toNat : Int) == 39)) && !((c.toNat : Int) == 34)) && !((c.toNat : Int) == 92)) := by
  have H : ∀ m : Fin 256, plainW m.1.toUInt8 = (((((decide (32 ≤ m.1.toUInt8.toNat) && decide (m.1.toUInt8.toNat ≤ 126)) && !((m.1.toUInt8.toNat : Int) == 32)) && !((m.1.toUInt8.toNat : Int) == 39)) && !((m.1.toUInt8.toNat : Int) == 34)) && !((m.1.toUInt8.toNat : Int) == 92)) := by decide +kernel
  have e : c.toNat.toUInt8 = c := by simp
  have := H ⟨c.toNat, c.toNat_lt⟩
  rwa [e] at this

set_option maxHeartbeats 4000000 in
theorem isPlainW_any (s : ByteArray) (hs : s.size ≤ maxLen) (w : World) :
    Calls Try.prog 22 #[.string s] w fun e w' => e = .returned (.bool (safeS s)) ∧ w = w' := by
  unfold maxLen at hs
  go_enter Try.func22, Try.ntmps22
  go_wp2
  go_loop [7] (fun i => ∃ k : Nat, k ≤ s.size ∧ i = .int .i64 k ∧ Hid (plainsL (s.data.toList.take k) = true)) (fun i => s.size - (intOf i).toNat)
  case atStart => exact ⟨0, Nat.zero_le _, rfl, by simp [plainsL, Hid]⟩
  case round =>
    obtain ⟨k, hk, rfl, hb⟩ := hrel
    by_cases hlt : k < s.size
    · have hr := s[k].toNat_lt
      have b0 : (0 : Int) ≤ (k : Int) := by omega
      have b1 : (k : Int) < (s.size : Int) := by omega
      have HP := Lib.hid (plainW_eq s[k])
      rcases hp : plainW s[k] with _ | _
      · have HN := Lib.hid (safeS_false s k hlt hp)
        have HQ := Lib.hid (HP.out.symm.trans hp)
        clear hp HP
        rcases q1 : (decide (32 ≤ s[k].toNat) && decide (s[k].toNat ≤ 126)) with _ | _
        · clear HQ
          go_wp2_with fail
          refine (isPrintable_any _ _).mono ?_
          rintro e w' ⟨rfl, rfl⟩
          rw [q1]
          go_wp2_with fail
          go_ret
          exact ⟨ret_bool HN.out.symm, rfl⟩
        · rcases q2 : ((s[k].toNat : Int) == 32) with _ | _
          · rcases q3 : ((s[k].toNat : Int) == 39) with _ | _
            · rcases q4 : ((s[k].toNat : Int) == 34) with _ | _
              · have q5 : ((s[k].toNat : Int) == 92) = true := by
                  have := HQ.out
                  rw [q1, q2, q3, q4] at this
                  simpa using this
                clear HQ
                go_wp2_with fail
                refine (isPrintable_any _ _).mono ?_
                rintro e w' ⟨rfl, rfl⟩
                rw [q1]
                go_wp2_with fail
                go_ret
                exact ⟨ret_bool HN.out.symm, rfl⟩
              · clear HQ
                go_wp2_with fail
                refine (isPrintable_any _ _).mono ?_
                rintro e w' ⟨rfl, rfl⟩
                rw [q1]
                go_wp2_with fail
                go_ret
                exact ⟨ret_bool HN.out.symm, rfl⟩
            · clear HQ
              go_wp2_with fail
              refine (isPrintable_any _ _).mono ?_
              rintro e w' ⟨rfl, rfl⟩
              rw [q1]
              go_wp2_with fail
              go_ret
              exact ⟨ret_bool HN.out.symm, rfl⟩
          · clear HQ
            go_wp2_with fail
            refine (isPrintable_any _ _).mono ?_
            rintro e w' ⟨rfl, rfl⟩
            rw [q1]
            go_wp2_with fail
            go_ret
            exact ⟨ret_bool HN.out.symm, rfl⟩
      · have HB := Lib.hid (plainsL_succ s k hlt hb.out hp)
        have hq := HP.out.symm.trans hp
        simp only [Bool.and_eq_true, Bool.not_eq_true'] at hq
        obtain ⟨⟨⟨⟨q1, q2⟩, q3⟩, q4⟩, q5⟩ := hq
        have Q1 : Hid ((decide (32 ≤ s[k].toNat) && decide (s[k].toNat ≤ 126)) = true) := by show _ = _; rw [Bool.and_eq_true]; exact q1
        clear hp HP q1
        go_wp2_with fail
        refine (isPrintable_any _ _).mono ?_
        rintro e w' ⟨rfl, rfl⟩
        rw [Q1.out]
        go_wp2_with fail
        go_round
        case rel => exact ⟨k + 1, by omega, by go_num, HB⟩
        case measure => simp [intOf]; omega
    · obtain rfl : k = s.size := by omega
      clear hlt
      by_cases h0 : s.size = 0
      · have HN := Lib.hid (safeS_nil s h0)
        have he : s.toList.isEmpty = true := by rw [isEmpty_iff, decide_eq_true_eq]; exact List.eq_nil_of_length_eq_zero (by rw [size_list]; exact h0)
        clear h0
        go_wp2_with fail
        go_ret
        exact ⟨ret_bool HN.out.symm, rfl⟩
      · have he : s.toList.isEmpty = false := by
          rw [isEmpty_iff]
          simp only [decide_eq_false_iff_not]
          intro e
          have : s.data.toList.length = 0 := by rw [e]; rfl
          rw [size_list] at this
          exact h0 this
        have hp0 : 0 < s.size := by omega
        have b0 : (0 : Int) < (s.size : Int) := by omega
        have HN := Lib.hid (safeS_end s hb.out hp0)
        clear h0
        go_wp2_with fail
        go_ret
        exact ⟨ret_bool HN.out.symm, rfl⟩

/-- A word between quotes, up to a place. -/
def quoAt (s : ByteArray) (k : Nat) : List UInt8 := 34 :: (s.data.toList.take k).flatMap signW
theorem quoAt_succ (s : ByteArray) (k : Nat) (h : k < s.size) : quoAt s (k + 1) = quoAt s k ++ signW s[k] := by
  unfold quoAt
  rw [take_at s k h, List.flatMap_append]
  simp
theorem quoAt_all (s : ByteArray) (k : Nat) (h : s.size ≤ k) : quoW s.data.toList = quoAt s k ++ [34] := by
  unfold quoAt quoW
  rw [List.take_of_length_le (by simpa using h)]
  rfl
theorem quoAt_len (s : ByteArray) (k : Nat) : (quoAt s k).length + 1 ≤ (quoW s.data.toList).length := by
  unfold quoAt quoW
  simp only [List.length_cons, List.length_append, List.length_nil]
  have h : s.data.toList = s.data.toList.take k ++ s.data.toList.drop k := (List.take_append_drop _ _).symm
  have h2 := congrArg (fun l => (List.flatMap signW l).length) h
  simp only [List.flatMap_append, List.length_append] at h2
  omega
theorem quoAt_len2 (s : ByteArray) (k : Nat) (h : k < s.size) : (quoAt s k).length + (signW s[k]).length + 1 ≤ (quoW s.data.toList).length := by
  have := quoAt_len s (k + 1)
  rw [quoAt_succ s k h, List.length_append] at this
  exact this
theorem digW_get (n : Nat) (h : n < 16) : ((⟨#[48, 49, 50, 51, 52, 53, 54, 55, 56, 57, 97, 98, 99, 100, 101, 102]⟩ : ByteArray)[n]'h) = digW n := by
  have H : ∀ m : Fin 16, ((⟨#[48, 49, 50, 51, 52, 53, 54, 55, 56, 57, 97, 98, 99, 100, 101, 102]⟩ : ByteArray)[m.1]'m.2) = digW m.1 := by decide
  exact H ⟨n, h⟩
theorem cells_add (l m : List UInt8) : Lib.byteCells (l ++ m) = Lib.byteCells l ++ Lib.byteCells m := Lib.byteCells_append l m
theorem cellsW_len (l : List UInt8) : (Lib.byteCells l).length = l.length := by simp [Lib.byteCells]

set_option maxHeartbeats 8000000 in
theorem writeQuoted_any (B b : Nat) (l : List UInt8) (s : ByteArray) (w : World) (hs : s.size ≤ maxLen) (h : Lib.IsBuilderF 47 5 B b (Lib.byteCells l) w) (hl : l.length + (quoW s.data.toList).length ≤ 140737488355328) (hBw : B ≤ w.heap.size) :
    Calls Try.prog 24 #[.pointer (some ⟨b, 0, none⟩), .string s] w fun e w' => e = .returned (.tuple #[]) ∧ (Lib.IsBuilderF 47 5 B b (Lib.byteCells (l ++ quoW s.data.toList)) w' ∧ Below B w w') := by
  have hs0 := hs
  unfold maxLen at hs
  have hq0 := quoAt_len s 0
  have HQ0 := Lib.hid hq0
  have h1l : (quoAt s 0).length = 1 := by simp [quoAt]
  have e0 : Hid (Lib.byteCells l ++ [.int .u8 34] = Lib.byteCells (l ++ quoAt s 0)) := by show _ = _; rw [cells_add]; rfl
  go_enter Try.func24, Try.ntmps24
  go_wp2_with fail
  refine (writeByte_any _ _ _ _ _ h (by rw [cellsW_len]; omega) hBw).mono ?_
  rintro e w0 ⟨rfl, hB0, hb0⟩
  rw [e0.out] at hB0
  have HB0 := Lib.hid hB0
  have Hb0 := Lib.hid hb0
  clear hB0 hb0 h
  go_wp2_with fail
  go_loopw [10] (fun i wr => ∃ k : Nat, k ≤ s.size ∧ i = .int .i64 k ∧ Hid (Lib.IsBuilderF 47 5 B b (Lib.byteCells (l ++ quoAt s k)) wr) ∧ Hid (Below B w wr)) (fun i wr => s.size - (intOf i).toNat)
  case atStart => exact ⟨0, Nat.zero_le _, rfl, HB0, Hb0⟩
  case round =>
    obtain ⟨k, hk, rfl, hB, hb⟩ := hrel
    have hbs : B ≤ wr.heap.size := Nat.le_trans hBw hb.out.size
    by_cases hlt : k < s.size
    · have hr := s[k].toNat_lt
      have hql := quoAt_len2 s k hlt
      have HS := Lib.hid (quoAt_succ s k hlt)
      by_cases hq : s[k].toNat = 34 ∨ s[k].toNat = 92
      · have hsg : signW s[k] = [92, s[k]] := by
          unfold signW
          rw [if_pos]
          rcases hq with hq | hq
          · exact .inl (byte_eq.2 hq)
          · exact .inr (byte_eq.2 hq)
        have HE : Hid ((Lib.byteCells (l ++ quoAt s k) ++ [.int .u8 92]) ++ [.int .u8 s[k].toNat] = Lib.byteCells (l ++ quoAt s (k + 1))) := by
          show _ = _
          rw [HS.out, hsg, ← List.append_assoc, cells_add (l ++ quoAt s k), List.append_assoc]
          rfl
        rw [hsg] at hql
        have hlen : (Lib.byteCells (l ++ quoAt s k)).length + 2 ≤ 140737488355328 := by
          rw [cellsW_len, List.length_append]
          simp only [List.length_cons, List.length_nil] at hql
          omega
        clear hsg hql
        rcases q1 : ((s[k].toNat : Int) == 34) with _ | _
        · have q2 : ((s[k].toNat : Int) == 92) = true := by
            simp only [beq_eq_false_iff_ne, ne_eq] at q1
            simp only [beq_iff_eq]
            omega
          clear hq
          go_wp2_with fail
          refine (writeByte_any _ _ _ _ _ hB.out (by omega) hbs).mono ?_
          rintro e w1 ⟨rfl, hB1, hb1⟩
          have HB1 := Lib.hid hB1
          have Hb1 := Lib.hid (hb.out.trans hb1)
          have hbs1 : B ≤ w1.heap.size := Nat.le_trans hBw Hb1.out.size
          clear hB1 hb1
          go_wp2_with fail
          refine (writeByte_any _ _ _ _ _ HB1.out (by rw [List.length_append]; show _ + 1 + 1 ≤ _; omega) hbs1).mono ?_
          rintro e w2 ⟨rfl, hB2, hb2⟩
          rw [HE.out] at hB2
          have HB2 := Lib.hid hB2
          have Hb2 := Lib.hid (Hb1.out.trans hb2)
          clear hB2 hb2
          go_wp2_with fail
          go_roundw
          case rel => exact ⟨k + 1, by omega, by go_num, HB2, Hb2⟩
          case measure => simp [intOf]; omega
        · clear hq
          go_wp2_with fail
          refine (writeByte_any _ _ _ _ _ hB.out (by omega) hbs).mono ?_
          rintro e w1 ⟨rfl, hB1, hb1⟩
          have HB1 := Lib.hid hB1
          have Hb1 := Lib.hid (hb.out.trans hb1)
          have hbs1 : B ≤ w1.heap.size := Nat.le_trans hBw Hb1.out.size
          clear hB1 hb1
          go_wp2_with fail
          refine (writeByte_any _ _ _ _ _ HB1.out (by rw [List.length_append]; show _ + 1 + 1 ≤ _; omega) hbs1).mono ?_
          rintro e w2 ⟨rfl, hB2, hb2⟩
          rw [HE.out] at hB2
          have HB2 := Lib.hid hB2
          have Hb2 := Lib.hid (Hb1.out.trans hb2)
          clear hB2 hb2
          go_wp2_with fail
          go_roundw
          case rel => exact ⟨k + 1, by omega, by go_num, HB2, Hb2⟩
          case measure => simp [intOf]; omega
      · rw [not_or] at hq
        have q1 : ((s[k].toNat : Int) == 34) = false := by simp; omega
        have q2 : ((s[k].toNat : Int) == 92) = false := by simp; omega
        have hsn : ¬ (s[k] = 34 ∨ s[k] = 92) := by
          rintro (h | h)
          · exact hq.1 (by rw [h]; rfl)
          · exact hq.2 (by rw [h]; rfl)
        by_cases hp : 32 ≤ s[k].toNat ∧ s[k].toNat ≤ 126
        · have Q : Hid ((decide (32 ≤ s[k].toNat) && decide (s[k].toNat ≤ 126)) = true) := by show _ = _; simp [hp]
          have hsg : signW s[k] = [s[k]] := by unfold signW; rw [if_neg hsn, if_pos hp]
          have HE : Hid (Lib.byteCells (l ++ quoAt s k) ++ [.int .u8 s[k].toNat] = Lib.byteCells (l ++ quoAt s (k + 1))) := by
            show _ = _
            rw [HS.out, hsg, ← List.append_assoc, cells_add (l ++ quoAt s k)]
            rfl
          rw [hsg] at hql
          have hlen : (Lib.byteCells (l ++ quoAt s k)).length + 1 ≤ 140737488355328 := by
            rw [cellsW_len, List.length_append]
            simp only [List.length_cons, List.length_nil] at hql
            omega
          clear hsg hql hsn hq hp
          go_wp2_with fail
          refine (isPrintable_any _ _).mono ?_
          rintro e w' ⟨rfl, rfl⟩
          rw [Q.out]
          go_wp2_with fail
          refine (writeByte_any _ _ _ _ _ hB.out (by omega) hbs).mono ?_
          rintro e w1 ⟨rfl, hB1, hb1⟩
          rw [HE.out] at hB1
          have HB1 := Lib.hid hB1
          have Hb1 := Lib.hid (hb.out.trans hb1)
          clear hB1 hb1
          go_wp2_with fail
          go_roundw
          case rel => exact ⟨k + 1, by omega, by go_num, HB1, Hb1⟩
          case measure => simp [intOf]; omega
        · have Q : Hid ((decide (32 ≤ s[k].toNat) && decide (s[k].toNat ≤ 126)) = false) := by
            show _ = _
            rw [Bool.and_eq_false_iff]
            simp only [decide_eq_false_iff_not]
            omega
          have hsg : signW s[k] = [92, 120, digW (s[k].toNat / 16), digW (s[k].toNat % 16)] := by unfold signW; rw [if_neg hsn, if_neg hp]
          have HE : Hid (((Lib.byteCells (l ++ quoAt s k) ++ Lib.strCells (⟨#[92, 120]⟩ : ByteArray)) ++ [.int .u8 ((⟨#[48, 49, 50, 51, 52, 53, 54, 55, 56, 57, 97, 98, 99, 100, 101, 102]⟩ : ByteArray)[s[k].toNat / 16]'(by show _ < 16; omega)).toNat]) ++ [.int .u8 ((⟨#[48, 49, 50, 51, 52, 53, 54, 55, 56, 57, 97, 98, 99, 100, 101, 102]⟩ : ByteArray)[s[k].toNat % 16]'(by show _ < 16; omega)).toNat] = Lib.byteCells (l ++ quoAt s (k + 1))) := by
            show _ = _
            rw [HS.out, hsg, ← List.append_assoc, cells_add (l ++ quoAt s k), digW_get _ (by omega), digW_get _ (by omega), List.append_assoc, List.append_assoc]
            rfl
          rw [hsg] at hql
          have hlen : (Lib.byteCells (l ++ quoAt s k)).length + 4 ≤ 140737488355328 := by
            rw [cellsW_len, List.length_append]
            simp only [List.length_cons, List.length_nil] at hql
            omega
          clear hsg hql hsn hq hp
          go_wp2_with fail
          refine (isPrintable_any _ _).mono ?_
          rintro e w' ⟨rfl, rfl⟩
          rw [Q.out]
          go_wp2_with fail
          refine (writeString_any _ _ _ _ _ hB.out (by have e2 : (⟨#[92, 120]⟩ : ByteArray).size = 2 := rfl; omega) hbs).mono ?_
          rintro e w1 ⟨rfl, hB1, hb1⟩
          have HB1 := Lib.hid hB1
          have Hb1 := Lib.hid (hb.out.trans hb1)
          have hl1 : (Lib.byteCells (l ++ quoAt s k) ++ Lib.strCells (⟨#[92, 120]⟩ : ByteArray)).length + 2 ≤ 140737488355328 := by rw [List.length_append, Lib.strCells_length]; have e2 : (⟨#[92, 120]⟩ : ByteArray).size = 2 := rfl; omega
          have hbs1 : B ≤ w1.heap.size := Nat.le_trans hBw Hb1.out.size
          clear hB1 hb1
          go_wp2_with fail
          refine (writeByte_any _ _ _ _ _ HB1.out (by omega) hbs1).mono ?_
          rintro e w2 ⟨rfl, hB2, hb2⟩
          have HB2 := Lib.hid hB2
          have Hb2 := Lib.hid (Hb1.out.trans hb2)
          have hbs2 : B ≤ w2.heap.size := Nat.le_trans hBw Hb2.out.size
          clear hB2 hb2
          go_wp2_with fail
          refine (writeByte_any _ _ _ _ _ HB2.out (by rw [List.length_append]; show _ + 1 + 1 ≤ _; omega) hbs2).mono ?_
          rintro e w3 ⟨rfl, hB3, hb3⟩
          rw [HE.out] at hB3
          have HB3 := Lib.hid hB3
          have Hb3 := Lib.hid (Hb2.out.trans hb3)
          clear hB3 hb3
          go_wp2_with fail
          go_roundw
          case rel => exact ⟨k + 1, by omega, by go_num, HB3, Hb3⟩
          case measure => simp [intOf]; omega
    · have hql := quoAt_len s k
      have HE : Hid (Lib.byteCells (l ++ quoAt s k) ++ [.int .u8 34] = Lib.byteCells (l ++ quoW s.data.toList)) := by
        show _ = _
        rw [quoAt_all s k (by omega), ← List.append_assoc, cells_add (l ++ quoAt s k)]
        rfl
      have hlen : (Lib.byteCells (l ++ quoAt s k)).length + 1 ≤ 140737488355328 := by
        rw [cellsW_len, List.length_append]
        omega
      clear hql
      go_wp2_with fail
      refine (writeByte_any _ _ _ _ _ hB.out (by omega) hbs).mono ?_
      rintro e w1 ⟨rfl, hB1, hb1⟩
      rw [HE.out] at hB1
      go_wp2_with fail
      go_end0
      exact ⟨rfl, hB1, hb.out.trans hb1⟩
end Go.Proofs.Ytbgblbikffamkaa
