/- The walk of the developers' Split. The words of a command line are no longer than it. It speaks of no code. The walks of the document's Hex, HexByte, escape, wrongAt, safe, quoted. The walk of the document's Split. -/
import Derived.Test.YtadifolonbkamaaGreatDoorKfbb
import Derived.Test.YtadifolonbkamaaGreatDoorKfay
namespace Go.Proofs.YtadifolonbkamaaGreatDoor.Wd
open Go.Proofs.YtadifolonbkamaaGreatDoor.Ca
open Go.RowKit
/-- A row of texts. -/
def RowAt (w : World) (B : Nat) (A : Option Addr) (n : Nat) (l : List (List UInt8)) : Prop :=
  l.length = n ∧ n ≤ maxLen ∧ (0 < n → ∃ ad, A = some ad ∧ ad.block < B ∧ ∀ j x, l[j]? = some x → w.cell? (ad.add j) = some (.string (str x)))
theorem RowAt.none_ {w : World} {B : Nat} {A : Option Addr} : RowAt w B A 0 [] := ⟨rfl, Nat.zero_le _, fun h => by omega⟩
theorem rowAt_of_own {w : World} {base n nv cv : Nat} {A : Option Addr} {l : List (List UInt8)} (h : w.ownsRow base 9 1 (.slice A nv cv) n (wcells l)) (hn : n ≤ 100000) : nv = n ∧ n ≤ cv ∧ RowAt w w.heap.size A n l := by
  have hl : l.length = n := by have := h.1; rw [wcells_length] at this; omega
  rcases h.2 with ⟨h1, h2⟩ | ⟨g, cap, cur, h1, h2, h3, h4, h5, h6, h7⟩
  · injection h1 with h1 h11 h12
    subst h2
    exact ⟨h11, Nat.zero_le _, hl, Nat.zero_le _, fun h => by omega⟩
  · injection h1 with h1 h11 h12
    subst h1 h11 h12
    refine ⟨rfl, h4, hl, by unfold maxLen; omega, fun _ => ⟨_, rfl, Blk.lt (t := 9) h3, fun j x hj => ?_⟩⟩
    refine h.cells (g := g) rfl j _ ?_
    unfold wcells
    rw [List.getElem?_map, hj]
    rfl
theorem block_addW (a : Addr) (n : Nat) : (a.add n).block = a.block := by unfold Addr.add; split <;> rfl
theorem RowAt.below {w w' : World} {B n : Nat} {A : Option Addr} {l : List (List UInt8)} (h : RowAt w B A n l) (hb : Below B w w') : RowAt w' B A n l :=
  ⟨h.1, h.2.1, fun hn => by
    obtain ⟨ad, e, hB, hc⟩ := h.2.2 hn
    exact ⟨ad, e, hB, fun j x hj => (hb.cell (by rw [block_addW]; exact hB)).trans (hc j x hj)⟩⟩
theorem RowAt.wide {w : World} {B B' n : Nat} {A : Option Addr} {l : List (List UInt8)} (h : RowAt w B A n l) (hB : B ≤ B') : RowAt w B' A n l :=
  ⟨h.1, h.2.1, fun hn => by
    obtain ⟨ad, e, h2, hc⟩ := h.2.2 hn
    exact ⟨ad, e, by omega, hc⟩⟩
def SplitP (l : List UInt8) (w : World) (e : Ending) (w' : World) : Prop :=
  ∃ (A : Option Addr) (n c : Nat), e = .returned (.tuple #[.slice A n c, .int .i64 (splitW l).2]) ∧ n ≤ c ∧ n ≤ 32 ∧ RowAt w' w'.heap.size A n (splitW l).1 ∧ Below w.heap.size w w'
theorem splitP_err {l : List UInt8} {w w' : World} {k : Nat} (hs : splitW l = ([], k)) (hb : Below w.heap.size w w') : SplitP l w (.returned (.tuple #[.slice none 0 0, .int .i64 k])) w' :=
  ⟨none, 0, 0, by rw [hs], Nat.le_refl _, Nat.zero_le _, by rw [hs]; exact RowAt.none_, hb⟩
theorem sp_new (w : World) : SpAt (w.alloc (.cells #[.slice none 0 0, .bool false, .slice none 0 0, .int .u8 0] 140)) w.heap.size w.heap.size ([], none, 0) :=
  ⟨.slice none 0 0, .slice none 0 0, Blk.new _ _ _, Nat.le_refl _, World.ownsRow_nil _ _ _ _, World.ownsRow_nil _ _ _ _⟩
theorem readPS_tail (s : ByteArray) (k : Nat) (h : k < s.size) : readPS (s.extract k s.size) = readW s[k] (s.data.toList.drop (k + 1)) := by
  unfold readPS
  rw [tail_list, drop_at s k h]
  rfl
set_option maxHeartbeats 8000000 in
theorem Split_any (s : ByteArray) (hs : s.size ≤ maxLen) (ht : topS s.data.toList + 1 ≤ 140737488355328) (w : World) :
    Calls Tryz.prog 82 #[.string s] w (SplitP s.data.toList w) := by
  have hs0 := hs
  unfold maxLen at hs
  have HN := Lib.hid (sp_new w)
  have HT0 : Hid (topW (s.data.toList.drop 0) ([], none, 0) + 1 ≤ 140737488355328) := ht
  have HO0 : Hid (okW ([], none, 0)) := ⟨by simp, fun h => by cases h⟩
  go_enter Tryz.func82, Tryz.ntmps82
  go_wp2_with fail
  go_loopw [5] (fun i wr => ∃ (k : Nat) (ws : List (List UInt8)) (cur : Option (List UInt8)) (q : UInt8), k ≤ s.size ∧ i = .int .i64 k ∧ Hid (splitW s.data.toList = machW (s.data.toList.drop k) (ws, cur, q)) ∧ Hid (topW (s.data.toList.drop k) (ws, cur, q) + 1 ≤ 140737488355328) ∧ Hid (okW (ws, cur, q)) ∧ Hid (SpAt wr w.heap.size w.heap.size (ws, cur, q)) ∧ Hid (Below w.heap.size w wr)) (fun i wr => s.size - (intOf i).toNat)
  case atStart => exact ⟨0, [], none, 0, Nat.zero_le _, rfl, rfl, HT0, HO0, HN, (Below.refl _ _).alloc (Nat.le_refl _) _⟩
  case round =>
    obtain ⟨k, ws, cur, q, hk, rfl, hm, htp, hok, hsp, hb⟩ := hrel
    have hbs : w.heap.size ≤ wr.heap.size := hb.out.size
    have hw32 : ws.length ≤ 32 := hok.out.1
    by_cases hlt : k < s.size
    · have b0 : (0 : Int) ≤ (k : Int) := by omega
      have b1 : (k : Int) ≤ (s.size : Int) := by omega
      have hsz : (s.extract k s.size).size ≤ maxLen := by rw [ByteArray.size_extract]; unfold maxLen; omega
      have hpos : 0 < (s.extract k s.size).size := by rw [ByteArray.size_extract]; omega
      have HRB : Hid (∀ W, Calls Tryz.prog 107 #[.string (s.extract k s.size)] W fun e w' => e = .returned (.tuple #[.int .u8 (readPS (s.extract k s.size)).1.toNat, .int .i64 (readPS (s.extract k s.size)).2.1, .int .i64 (readPS (s.extract k s.size)).2.2]) ∧ W = w') := fun W => readByte_any _ hsz hpos W
      clear hsz hpos
      rw [readPS_tail s k hlt] at HRB
      obtain ⟨m1, m2, m3⟩ := mach_at (drop_at s k hlt) (ws, cur, q)
      have hrl := readW_len s[k] (s.data.toList.drop (k + 1))
      have hrp := readW_pos (c := s[k]) (t := s.data.toList.drop (k + 1))
      have hcl : (cur.getD []).length + 1 ≤ 140737488355328 := Nat.le_trans (Nat.succ_le_succ (topW_now (s.data.toList.drop k) (ws, cur, q))) htp.out
      rw [List.length_drop, size_list] at hrl
      have M1 := Lib.hid m1
      have M2 := Lib.hid m2
      have M3 := Lib.hid m3
      clear m1 m2 m3
      have hdd : ∀ n, (s.data.toList.drop (k + 1)).drop n = s.data.toList.drop (k + 1 + n) := fun n => by rw [List.drop_drop]
      have HDD := Lib.hid hdd
      clear hdd
      generalize readW s[k] (s.data.toList.drop (k + 1)) = r at *
      obtain ⟨b, n, er⟩ := r
      dsimp only at *
      by_cases her : er = 0
      · subst her
        have hn1 := hrp rfl
        have n1 : (1 : Int) ≤ (n : Int) := by omega
        have n2 : (k : Int) + (n : Int) ≤ (s.size : Int) := by omega
        have HTK : Hid (∀ W, SpAt W w.heap.size w.heap.size (ws, cur, q) → w.heap.size ≤ W.heap.size → Calls Tryz.prog 108 #[.pointer (some ⟨w.heap.size, 0, none⟩), .int .u8 b.toNat, .bool (decide ((1 : Int) < (n : Int)))] W (TakeP w.heap.size w.heap.size W (takeW b (decide (1 < n)) (ws, cur, q)))) := fun W hS hB => by
          have e : decide ((1 : Int) < (n : Int)) = decide (1 < n) := by
            rw [Bool.eq_iff_iff]
            simp only [decide_eq_true_eq]
            omega
          rw [e]
          exact take_any w.heap.size w.heap.size b (decide (1 < n)) ws cur q W hS hB hw32 hcl
        clear hrl hrp hcl
        generalize hdt : decide ((1 : Int) < (n : Int)) = dt at *
        cases hr : takeW b (decide (1 < n)) (ws, cur, q) with
        | none =>
          have HS : Hid (splitW s.data.toList = ([], 2)) := by show _ = _; rw [hm.out]; exact M2.out rfl hr
          rw [hr] at HTK
          clear hr
          go_wp2_with fail
          refine (HRB.out _).mono ?_
          rintro e w' ⟨rfl, rfl⟩
          go_wp2_with fail
          refine (HTK.out _ hsp.out hbs).mono ?_
          rintro e w1 ⟨he, hb1⟩
          obtain rfl : e = .returned (.bool false) := he
          go_wp2_with fail
          go_ret2
          exact splitP_err HS.out (hb.out.trans hb1)
        | some st' =>
          obtain ⟨ws', cur', q'⟩ := st'
          obtain ⟨m4, m5⟩ := M3.out _ rfl hr
          rw [HDD.out, show k + 1 + (n - 1) = k + n by omega] at m4 m5
          have M4 := Lib.hid (hm.out.trans m4)
          have M5 : Hid (topW (s.data.toList.drop (k + n)) (ws', cur', q') + 1 ≤ 140737488355328) := Nat.le_trans (Nat.succ_le_succ m5) htp.out
          have M6 := Lib.hid (takeW_ok hr hok.out)
          rw [hr] at HTK
          clear hr m4 m5 M1 M2 M3 HDD
          go_wp2_with fail
          refine (HRB.out _).mono ?_
          rintro e w' ⟨rfl, rfl⟩
          go_wp2_with fail
          refine (HTK.out _ hsp.out hbs).mono ?_
          rintro e w1 ⟨⟨rfl, hs1⟩, hb1⟩
          have HS1 := Lib.hid hs1
          have HB1 := Lib.hid (hb.out.trans hb1)
          clear hs1 hb1
          go_wp2_with fail
          go_roundw
          case rel => exact ⟨k + n, ws', cur', q', by omega, by go_num, M4, M5, M6, HS1, HB1⟩
          case measure => simp [intOf]; omega
      · have HS : Hid (splitW s.data.toList = ([], er)) := by show _ = _; rw [hm.out]; exact M1.out her
        have e0 : ((er : Int) != 0) = true := by simp; omega
        clear her
        go_wp2_with fail
        refine (HRB.out _).mono ?_
        rintro e w' ⟨rfl, rfl⟩
        go_wp2_with fail
        go_ret2
        exact splitP_err HS.out hb.out
    · obtain rfl : k = s.size := by omega
      have hnil : s.data.toList.drop s.size = [] := List.drop_eq_nil_of_le (by rw [size_list]; exact Nat.le_refl _)
      have hm2 := hm.out
      rw [hnil, machW_nil] at hm2
      have HSP := Lib.hid hsp.out
      obtain ⟨v, u, hp, hBp, hv, hu⟩ := hsp.out
      obtain ⟨c0, c1, c2, c3, f0, f1, f2, f3⟩ := hp.cells
      clear hp hv hu
      by_cases hq : q = 0
      · rw [if_pos hq] at hm2
        have q0 : ((q.toNat : Int) != 0) = false := by rw [hq]; rfl
        have HM := Lib.hid hm2
        clear hm2 hq
        go_wp2_with fail
        refine (endWord_any w.heap.size w.heap.size ws cur q _ HSP.out hbs (by omega)).mono ?_
        rintro e w1 ⟨rfl, hs1, hb1⟩
        obtain ⟨v1, u1, hp1, hBp1, hv1, hu1⟩ := hs1
        clear c0 c1 c2 c3 f0 f1 f2 f3
        obtain ⟨A, nv, cv, rfl⟩ : ∃ A nv cv, v1 = .slice A nv cv := by
          rcases hv1.2 with ⟨h1, _⟩ | ⟨g, cap, cur', h1, _⟩
          · exact ⟨_, _, _, h1⟩
          · exact ⟨_, _, _, h1⟩
        obtain ⟨d0, d1, d2, d3, _, _, _, _⟩ := hp1.cells
        have hle : (endW ws cur).length ≤ 32 := by
          have ho := hok.out
          cases cur with
          | none => exact ho.1
          | some x => have := ho.2 rfl; simp only [endW, List.length_append, List.length_singleton] at *; omega
        obtain ⟨r1, r2, r3⟩ := rowAt_of_own hv1 (by dsimp only; omega)
        dsimp only at r1 r2 r3 hle
        have HR := Lib.hid r3
        have HL := Lib.hid hle
        have HN1 := Lib.hid r1
        have HC1 := Lib.hid r2
        clear hv1 hu1 hp1 r1 r2 r3 hle
        go_wp2_with fail
        go_ret2
        refine ⟨A, nv, cv, by rw [HM.out]; rfl, by rw [HN1.out]; exact HC1.out, by rw [HN1.out]; exact HL.out, by rw [HM.out, HN1.out]; exact HR.out, hb.out.trans hb1⟩
      · rw [if_neg hq] at hm2
        have q0 : ((q.toNat : Int) != 0) = true := by
          simp only [bne_iff_ne, ne_eq]
          intro e
          exact hq (byte_eq.2 (by show _ = 0; omega))
        have HM := Lib.hid hm2
        clear hm2 hq
        go_wp2_with fail
        go_ret2
        exact splitP_err HM.out hb.out
end Go.Proofs.YtadifolonbkamaaGreatDoor.Wd
namespace Go.Proofs.YtadifolonbkamaaGreatDoor.Wd
theorem endW_mem {ws : List (List UInt8)} {cur : Option (List UInt8)} {x : List UInt8} (h : x ∈ endW ws cur) : x ∈ ws ∨ x.length ≤ (cur.getD []).length := by
  cases cur with
  | none => exact .inl h
  | some w =>
    unfold endW at h
    rcases List.mem_append.1 h with h | h
    · exact .inl h
    · simp at h; subst h; exact .inr (Nat.le_refl _)
theorem takeW_mem {c : UInt8} {b : Bool} {st st' : (List (List UInt8) × Option (List UInt8) × UInt8)} (h : takeW c b st = some st') {x : List UInt8} (hx : x ∈ st'.1) : x ∈ st.1 ∨ x.length ≤ (st.2.1.getD []).length := by
  unfold takeW at h
  split at h
  · injection h with h; subst h; exact endW_mem hx
  · split at h
    · cases h
    · split at h
      · injection h with h; subst h; exact .inl hx
      · split at h
        · injection h with h; subst h; exact .inl hx
        · split at h
          · injection h with h; subst h; exact .inl hx
          · injection h with h; subst h; exact .inl hx
theorem machW_mem (l : List UInt8) (st : (List (List UInt8) × Option (List UInt8) × UInt8)) (h : (machW l st).2 = 0) : ∀ x ∈ (machW l st).1, x ∈ st.1 ∨ x.length ≤ (st.2.1.getD []).length + l.length := by
  refine machW_ind (fun l st => ∀ x ∈ (machW l st).1, x ∈ st.1 ∨ x.length ≤ (st.2.1.getD []).length + l.length) ?_ ?_ l.length l st (Nat.le_refl _) h
  · intro ws cur x hx
    rw [machW_nil, if_pos rfl] at hx
    rcases endW_mem hx with h | h
    · exact .inl h
    · exact .inr (by simp; exact h)
  · intro c t st st' h1 h2 _ ih x hx
    rw [machW_step h1 h2] at hx
    have hw := takeW_word h2
    rcases ih x hx with h | h
    · rcases takeW_mem h2 h with h | h
      · exact .inl h
      · exact .inr (by omega)
    · refine .inr ?_
      simp only [List.length_drop, List.length_cons] at h ⊢
      omega
theorem split_mem_le (s : List UInt8) (h : (splitW s).2 = 0) : ∀ x ∈ (splitW s).1, x.length ≤ s.length := by
  intro x hx
  rcases machW_mem s _ h x hx with h' | h'
  · cases h'
  · simpa using h'
end Go.Proofs.YtadifolonbkamaaGreatDoor.Wd
namespace Go.Proofs.YtadifolonbkamaaGreatDoor.Wd
open Go.Proofs.YtadifolonbkamaaGreatDoor.Ca
open Go.RowKit
end Go.Proofs.YtadifolonbkamaaGreatDoor.Wd
namespace Go.Proofs.YtadifolonbkamaaGreatDoor.Wd
open Go.Proofs.YtadifolonbkamaaGreatDoor.Ca
open Go.RowKit
end Go.Proofs.YtadifolonbkamaaGreatDoor.Wd
