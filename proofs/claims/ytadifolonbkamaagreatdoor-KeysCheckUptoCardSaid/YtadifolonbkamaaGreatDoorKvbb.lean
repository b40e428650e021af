/- The walk of the developers' Split. The words of a command line are no longer than it. It speaks of no code. The walks of -/
import Derived.Test.YtadifolonbkamaaGreatDoorKvba
import Derived.Test.YtadifolonbkamaaGreatDoorKvay
namespace Go.Proofs.YtadifolonbkamaaGreatDoor.Wd
open Go.Proofs.YtadifolonbkamaaGreatDoor.Ca
open Go.RowKit
def RowAt (w : World) (B : Nat) (A : Option Addr) (n : Nat) (l : List (List UInt8)) : Prop :=
  l.length = n ∧ n ≤ maxLen ∧ (0 < n → ∃ ad, A = some ad ∧ ad.block < B ∧ ∀ j x, l[j]? = some x → w.cell? (ad.add j) = some (.string (str x)))
theorem RowAt.none_ {w : World} {B : Nat} {A : Option Addr} : RowAt w B A 0 [] := ⟨rfl, Nat.zero_le _, fun h => by omega⟩
theorem rowAt_of_own {w : World} {base n nv cv : Nat} {A : Option Addr} {l : List (List UInt8)} (h : w.ownsRow base 9 1 (.slice A nv cv) n (wcells l)) (hn : n ≤ 100000) : nv = n ∧ n ≤ cv ∧ RowAt w w.heap.size A n l := by
  have hl : l.length = n := by have := h.1; rw [wcells_length] at this; omega
  rcases h.2 with ⟨h1, h2⟩ | ⟨g, cap, cur, h1, h2, h3, h4, h5, h6, h7⟩
  · injection h1 with h1 h11 h12
    subst h2
    exact ⟨h11, Nat.zero_le _, hl, Nat.zero_le _, fun h => by omega⟩
  · injection h1 with h1 h11 h12
    subst h1 h11 h12
    refine ⟨rfl, h4, hl, by unfold maxLen; omega, fun _ => ⟨_, rfl, Blk.lt (t := 9) h3, fun j x hj => ?_⟩⟩
    refine h.cells (g := g) rfl j _ ?_
    unfold wcells
    rw [List.getElem?_map, hj]
    rfl
theorem block_addW (a : Addr) (n : Nat) : (a.add n).block = a.block := by unfold Addr.add; split <;> rfl
theorem RowAt.below {w w' : World} {B n : Nat} {A : Option Addr} {l : List (List UInt8)} (h : RowAt w B A n l) (hb : Below B w w') : RowAt w' B A n l :=
  ⟨h.1, h.2.1, fun hn => by
    obtain ⟨ad, e, hB, hc⟩ := h.2.2 hn
    exact ⟨ad, e, hB, fun j x hj => (hb.cell (by rw [block_addW]; exact hB)).trans (hc j x hj)⟩⟩
theorem RowAt.wide {w : World} {B B' n : Nat} {A : Option Addr} {l : List (List UInt8)} (h : RowAt w B A n l) (hB : B ≤ B') : RowAt w B' A n l :=
  ⟨h.1, h.2.1, fun hn => by
    obtain ⟨ad, e, h2, hc⟩ := h.2.2 hn
    exact ⟨ad, e, by omega, hc⟩⟩
def SplitP (l : List UInt8) (w : World) (e : Ending) (w' : World) : Prop :=
  ∃ (A : Option Addr) (n c : Nat), e = .returned (.tuple #[.slice A n c, .int .i64 (splitW l).2]) ∧ n ≤ c ∧ n ≤ 32 ∧ RowAt w' w'.heap.size A n (splitW l).1 ∧ Below w.heap.size w w'
theorem splitP_err {l : List UInt8} {w w' : World} {k : Nat} (hs : splitW l = ([], k)) (hb : Below w.heap.size w w') : SplitP l w (.returned (.tuple #[.slice none 0 0, .int .i64 k])) w' :=
  ⟨none, 0, 0, by rw [hs], Nat.le_refl _, Nat.zero_le _, by rw [hs]; exact RowAt.none_, hb⟩
theorem sp_new (w : World) : SpAt (w.alloc (.cells #[.slice none 0 0, .bool false, .slice none 0 0, .int .u8 0] 140)) w.heap.size w.heap.size ([], none, 0) :=
  ⟨.slice none 0 0, .slice none 0 0, Blk.new _ _ _, Nat.le_refl _, World.ownsRow_nil _ _ _ _, World.ownsRow_nil _ _ _ _⟩
theorem readPS_tail (s : ByteArray) (k : Nat) (h : k < s.size) : readPS (s.extract k s.size) = readW s[k] (s.data.toList.drop (k + 1)) := by
  unfold readPS
  rw [tail_list, drop_at s k h]
  rfl
set_option maxHeartbeats 8000000 in
theorem Split_any (s : ByteArray) (hs : s.size ≤ maxLen) (ht : topS s.data.toList + 1 ≤ 140737488355328) (w : World) :
    Calls Tryz.prog 82 #[.string s] w (SplitP s.data.toList w) := by
  have hs0 := hs
  unfold maxLen at hs
  have HN := Lib.hid (sp_new w)
  have HT0 : Hid (topW (s.data.toList.drop 0) ([], none, 0) + 1 ≤ 140737488355328) := ht
  have HO0 : Hid (okW ([], none, 0)) := ⟨by simp, fun h => by cases h⟩
  go_enter Tryz.func82, Tryz.ntmps82
  go_wp2_with fail
  go_loopw [5] (fun i wr => ∃ (k : Nat) (ws : List (List UInt8)) (cur : Option (List UInt8)) (q : UInt8), k ≤ s.size ∧ i = .int .i64 k ∧ Hid (splitW s.data.toList = machW (s.data.toList.drop k) (ws, cur, q)) ∧ Hid (topW (s.data.toList.drop k) (ws, cur, q) + 1 ≤ 140737488355328) ∧ Hid (okW (ws, cur, q)) ∧ Hid (SpAt wr w.heap.size w.heap.size (ws, cur, q)) ∧ Hid (Below w.heap.size w wr)) (fun i wr => s.size - (intOf i).toNat)
  case atStart => exact ⟨0, [], none, 0, Nat.zero_le _, rfl, rfl, HT0, HO0, HN, (Below.refl _ _).alloc (Nat.le_refl _) _⟩
  case round =>
    obtain ⟨k, ws, cur, q, hk, rfl, hm, htp, hok, hsp, hb⟩ := hrel
    have hbs : w.heap.size ≤ wr.heap.size := hb.out.size
    have hw32 : ws.length ≤ 32 := hok.out.1
    by_cases hlt : k < s.size
    · have b0 : (0 : Int) ≤ (k : Int) := by omega
      have b1 : (k : Int) ≤ (s.size : Int) := by omega
      have hsz : (s.extract k s.size).size ≤ maxLen := by rw [ByteArray.size_extract]; unfold maxLen; omega
      have hpos : 0 < (s.extract k s.size).size := by rw [ByteArray.size_extract]; omega
      have HRB : Hid (∀ W, Calls Tryz.prog 107 #[.string (s.extract k s.size)] W fun e w' => e = .returned (.tuple #[.int .u8 (readPS (s.extract k s.size)).1.toNat, .int .i64 (readPS (s.extract k s.size)).2.1, .int .i64 (readPS (s.extract k s.size)).2.2]) ∧ W = w') := fun W => readByte_any _ hsz hpos W
      clear hsz hpos
      rw [readPS_tail s k hlt] at HRB
      obtain ⟨m1, m2, m3⟩ := mach_at (drop_at s k hlt) (ws, cur, q)
      have hrl := readW_len s[k] (s.data.toList.drop (k + 1))
      have hrp := readW_pos (c := s[k]) (t := s.data.toList.drop (k + 1))
      have hcl : (cur.getD []).length + 1 ≤ 140737488355328 := Nat.le_trans (Nat.succ_le_succ (topW_now (s.data.toList.drop k) (ws, cur, q))) htp.out
      rw [List.length_drop, size_list] at hrl
      have M1 := Lib.hid m1
      have M2 := Lib.hid m2
      have M3 := Lib.hid m3
      clear m1 m2 m3
      have hdd : ∀ n, (s.data.toList.drop (k + 1)).drop n = s.data.toList.drop (k + 1 + n) := fun n => by rw [List.drop_drop]
      have HDD := Lib.hid hdd
      clear hdd
      generalize readW s[k] (s.data.toList.drop (k + 1)) = r at *
      obtain ⟨b, n, er⟩ := r
      dsimp only at *
      by_cases her : er = 0
      · subst her
        have hn1 := hrp rfl
        have n1 : (1 : Int) ≤ (n : Int) := by omega
        have n2 : (k : Int) + (n : Int) ≤ (s.size : Int) := by omega
        have HTK : Hid (∀ W, SpAt W w.heap.size w.heap.size (ws, cur, q) → w.heap.size ≤ W.heap.size → Calls Tryz.prog 108 #[.pointer (some ⟨w.heap.size, 0, none⟩), .int .u8 b.toNat, .bool (decide ((1 : Int) < (n : Int)))] W (TakeP w.heap.size w.heap.size W (takeW b (decide (1 < n)) (ws, cur, q)))) := fun W hS hB => by
          have e : decide ((1 : Int) < (n : Int)) = decide (1 < n) := by
            rw [Bool.eq_iff_iff]
            simp only [decide_eq_true_eq]
            omega
          rw [e]
          exact take_any w.heap.size w.heap.size b (decide (1 < n)) ws cur q W hS hB hw32 hcl
        clear hrl hrp hcl
        generalize hdt : decide ((1 : Int) < (n : Int)) = dt at *
        cases hr : takeW b (decide (1 < n)) (ws, cur, q) with
        | none =>
          have HS : Hid (splitW s.data.toList = ([], 2)) := by show _ = _; rw [hm.out]; exact M2.out rfl hr
          rw [hr] at HTK
          clear hr
          go_wp2_with fail
          refine (HRB.out _).mono ?_
          rintro e w' ⟨rfl, rfl⟩
          go_wp2_with fail
          refine (HTK.out _ hsp.out hbs).mono ?_
          rintro e w1 ⟨he, hb1⟩
          obtain rfl : e = .returned (.bool false) := he
          go_wp2_with fail
          go_ret2
          exact splitP_err HS.out (hb.out.trans hb1)
        | some st' =>
          obtain ⟨ws', cur', q'⟩ := st'
          obtain ⟨m4, m5⟩ := M3.out _ rfl hr
          rw [HDD.out, show k + 1 + (n - 1) = k + n by omega] at m4 m5
          have M4 := Lib.hid (hm.out.trans m4)
          have M5 : Hid (topW (s.data.toList.drop (k + n)) (ws', cur', q') + 1 ≤ 140737488355328) := Nat.le_trans (Nat.succ_le_succ m5) htp.out
          have M6 := Lib.hid (takeW_ok hr hok.out)
          rw [hr] at HTK
          clear hr m4 m5 M1 M2 M3 HDD
          go_wp2_with fail
          refine (HRB.out _).mono ?_
          rintro e w' ⟨rfl, rfl⟩
          go_wp2_with fail
          refine (HTK.out _ hsp.out hbs).mono ?_
          rintro e w1 ⟨⟨rfl, hs1⟩, hb1⟩
          have HS1 := Lib.hid hs1
          have HB1 := Lib.hid (hb.out.trans hb1)
          clear hs1 hb1
          go_wp2_with fail
          go_roundw
          case rel => exact ⟨k + n, ws', cur', q', by omega, by go_num, M4, M5, M6, HS1, HB1⟩
          case measure => simp [intOf]; omega
      · have HS : Hid (splitW s.data.toList = ([], er)) := by show _ = _; rw [hm.out]; exact M1.out her
        have e0 : ((er : Int) != 0) = true := by simp; omega
        clear her
        go_wp2_with fail
        refine (HRB.out _).mono ?_
        rintro e w' ⟨rfl, rfl⟩
        go_wp2_with fail
        go_ret2
        exact splitP_err HS.out hb.out
    · obtain rfl : k = s.size := by omega
      have hnil : s.data.toList.drop s.size = [] := List.drop_eq_nil_of_le (by rw [size_list]; exact Nat.le_refl _)
      have hm2 := hm.out
      rw [hnil, machW_nil] at hm2
      have HSP := Lib.hid hsp.out
      obtain ⟨v, u, hp, hBp, hv, hu⟩ := hsp.out
      obtain ⟨c0, c1, c2, c3, f0, f1, f2, f3⟩ := hp.cells
      clear hp hv hu
      by_cases hq : q = 0
      · rw [if_pos hq] at hm2
        have q0 : ((q.toNat : Int) != 0) = false := by rw [hq]; rfl
        have HM := Lib.hid hm2
        clear hm2 hq
        go_wp2_with fail
        refine (endWord_any w.heap.size w.heap.size ws cur q _ HSP.out hbs (by omega)).mono ?_
        rintro e w1 ⟨rfl, hs1, hb1⟩
        obtain ⟨v1, u1, hp1, hBp1, hv1, hu1⟩ := hs1
        clear c0 c1 c2 c3 f0 f1 f2 f3
        obtain ⟨A, nv, cv, rfl⟩ : ∃ A nv cv, v1 = .slice A nv cv := by
          rcases hv1.2 with ⟨h1, _⟩ | ⟨g, cap, cur', h1, _⟩
          · exact ⟨_, _, _, h1⟩
          · exact ⟨_, _, _, h1⟩
        obtain ⟨d0, d1, d2, d3, _, _, _, _⟩ := hp1.cells
        have hle : (endW ws cur).length ≤ 32 := by
          have ho := hok.out
          cases cur with
          | none => exact ho.1
          | some x => have := ho.2 rfl; simp only [endW, List.length_append, List.length_singleton] at *; omega
        obtain ⟨r1, r2, r3⟩ := rowAt_of_own hv1 (by dsimp only; omega)
        dsimp only at r1 r2 r3 hle
        have HR := Lib.hid r3
        have HL := Lib.hid hle
        have HN1 := Lib.hid r1
        have HC1 := Lib.hid r2
        clear hv1 hu1 hp1 r1 r2 r3 hle
        go_wp2_with fail
        go_ret2
        refine ⟨A, nv, cv, by rw [HM.out]; rfl, by rw [HN1.out]; exact HC1.out, by rw [HN1.out]; exact HL.out, by rw [HM.out, HN1.out]; exact HR.out, hb.out.trans hb1⟩
      · rw [if_neg hq] at hm2
        have q0 : ((q.toNat : Int) != 0) = true := by
          simp only [bne_iff_ne, ne_eq]
          intro e
          exact hq (byte_eq.2 (by show _ = 0; omega))
        have HM := Lib.hid hm2
        clear hm2 hq
        go_wp2_with fail
        go_ret2
        exact splitP_err HM.out hb.out
end Go.Proofs.YtadifolonbkamaaGreatDoor.Wd
namespace Go.Proofs.YtadifolonbkamaaGreatDoor.Wd
theorem endW_mem {ws : List (List UInt8)} {cur : Option (List UInt8)} {x : List UInt8} (h : x ∈ endW ws cur) : x ∈ ws ∨ x.length ≤ (cur.getD []).length := by
  cases cur with
  | none => exact .inl h
  | some w =>
    unfold endW at h
    rcases List.mem_append.1 h with h | h
    · exact .inl h
    · simp at h; subst h; exact .inr (Nat.le_refl _)
theorem takeW_mem {c : UInt8} {b : Bool} {st st' : (List (List UInt8) × Option (List UInt8) × UInt8)} (h : takeW c b st = some st') {x : List UInt8} (hx : x ∈ st'.1) : x ∈ st.1 ∨ x.length ≤ (st.2.1.getD []).length := by
  unfold takeW at h
  split at h
  · injection h with h; subst h; exact endW_mem hx
  · split at h
    · cases h
    · split at h
      · injection h with h; subst h; exact .inl hx
      · split at h
        · injection h with h; subst h; exact .inl hx
        · split at h
          · injection h with h; subst h; exact .inl hx
          · injection h with h; subst h; exact .inl hx
theorem machW_mem (l : List UInt8) (st : (List (List UInt8) × Option (List UInt8) × UInt8)) (h : (machW l st).2 = 0) : ∀ x ∈ (machW l st).1, x ∈ st.1 ∨ x.length ≤ (st.2.1.getD []).length + l.length := by
  refine machW_ind (fun l st => ∀ x ∈ (machW l st).1, x ∈ st.1 ∨ x.length ≤ (st.2.1.getD []).length + l.length) ?_ ?_ l.length l st (Nat.le_refl _) h
  · intro ws cur x hx
    rw [machW_nil, if_pos rfl] at hx
    rcases endW_mem hx with h | h
    · exact .inl h
    · exact .inr (by simp; exact h)
  · intro c t st st' h1 h2 _ ih x hx
    rw [machW_step h1 h2] at hx
    have hw := takeW_word h2
    rcases ih x hx with h | h
    · rcases takeW_mem h2 h with h | h
      · exact .inl h
      · exact .inr (by omega)
    · refine .inr ?_
      simp only [List.length_drop, List.length_cons] at h ⊢
      omega
theorem split_mem_le (s : List UInt8) (h : (splitW s).2 = 0) : ∀ x ∈ (splitW s).1, x.length ≤ s.length := by
  intro x hx
  rcases machW_mem s _ h x hx with h' | h'
  · cases h'
  · simpa using h'
end Go.Proofs.YtadifolonbkamaaGreatDoor.Wd
namespace Go.Proofs.YtadifolonbkamaaGreatDoor.Wd
open Go.Proofs.YtadifolonbkamaaGreatDoor.Ca
open Go.RowKit
theorem hexW_dig (c : UInt8) (n : Nat) (hn : n < 16) : hexW c = n ↔ digW n = c := by
  have H : ∀ m : Fin 256, ∀ n : Fin 16, hexW m.1.toUInt8 = n.1 ↔ digW n.1 = m.1.toUInt8 := by decide +kernel
  have e : c.toNat.toUInt8 = c := by simp
  have := H ⟨c.toNat, c.toNat_lt⟩ ⟨n, hn⟩
  rwa [e] at this
theorem hexW_le (c : UInt8) : hexW c ≤ 16 := by
  unfold hexW
  repeat' split
  all_goals omega
theorem hexW_no (c : UInt8) (h : ∀ j, j < 16 → digW j ≠ c) : hexW c = 16 := by
  have h1 := hexW_le c
  rcases Nat.lt_or_ge (hexW c) 16 with h2 | h2
  · exact absurd ((hexW_dig c (hexW c) h2).1 rfl) (h _ h2)
  · omega
theorem digW_at (n : Nat) (h : n < 16) : ((⟨#[48, 49, 50, 51, 52, 53, 54, 55, 56, 57, 97, 98, 99, 100, 101, 102]⟩ : ByteArray)[n]'h) = digW n := by
  have H : ∀ m : Fin 16, ((⟨#[48, 49, 50, 51, 52, 53, 54, 55, 56, 57, 97, 98, 99, 100, 101, 102]⟩ : ByteArray)[m.1]'m.2) = digW m.1 := by decide
  exact H ⟨n, h⟩
set_option maxHeartbeats 2000000 in
theorem rHexW_any (c : UInt8) (w : World) :
    Calls Tryz.prog 118 #[.int .u8 c.toNat] w fun e w' => e = .returned (.int .i64 (hexW c)) ∧ w = w' := by
  have hr := c.toNat_lt
  go_enter Tryz.func118, Tryz.ntmps118
  go_wp2
  go_loop [3] (fun i => ∃ k : Nat, k ≤ 16 ∧ i = .int .i64 k ∧ Hid (∀ j, j < k → digW j ≠ c)) (fun i => 16 - (intOf i).toNat)
  case atStart => exact ⟨0, by omega, rfl, fun j hj => by omega⟩
  case round =>
    obtain ⟨k, hk, rfl, hb⟩ := hrel
    by_cases hlt : k < 16
    · have hlt' : (k : Int) < 16 := by omega
      have hg := Lib.hid (digW_at k hlt)
      by_cases he : digW k = c
      · have ht : ((((⟨#[48, 49, 50, 51, 52, 53, 54, 55, 56, 57, 97, 98, 99, 100, 101, 102]⟩ : ByteArray)[k]'hlt).toNat : Int) == (c.toNat : Int)) = true := by rw [hg.out, he]; simp
        have HE := Lib.hid ((hexW_dig c k hlt).2 he)
        clear he
        go_wp2
        go_ret
        exact ⟨ret_int (by rw [HE.out]), rfl⟩
      · have ht : ((((⟨#[48, 49, 50, 51, 52, 53, 54, 55, 56, 57, 97, 98, 99, 100, 101, 102]⟩ : ByteArray)[k]'hlt).toNat : Int) == (c.toNat : Int)) = false := by
          rw [hg.out]
          simp
          intro e
          exact he (UInt8.toNat_inj.1 (by omega))
        have HB : Hid (∀ j, j < k + 1 → digW j ≠ c) := fun j hj => by
          rcases Nat.lt_succ_iff_lt_or_eq.1 hj with h | rfl
          · exact hb.out j h
          · exact he
        clear he
        go_wp2
        go_round
        case rel => exact ⟨k + 1, by omega, by go_num, HB⟩
        case measure => simp [intOf]; omega
    · have hlt' : (16 : Int) ≤ k := by omega
      have HE := Lib.hid (hexW_no c (fun j hj => hb.out j (by omega)))
      go_wp2
      go_ret
      exact ⟨ret_int (by rw [HE.out]; rfl), rfl⟩
theorem rHexW_q (c : UInt8) (n : Nat) (h : hexW c = n) (w : World) :
    Calls Tryz.prog 118 #[.int .u8 c.toNat] w fun e w' => e = .returned (.int .i64 n) ∧ w' = w :=
  (rHexW_any c w).mono fun _ _ hh => ⟨by rw [← h]; exact hh.1, hh.2.symm⟩
def escS5 (s : ByteArray) : UInt8 × Nat := escW s.data.toList
theorem escS5_at (s : ByteArray) (h : 0 < s.size) : escS5 s = if s[0] = 92 ∨ s[0] = 34 ∨ s[0] = 39 then (s[0], 1) else if s[0] = 110 then (10, 1) else if s[0] = 116 then (9, 1) else if s[0] = 115 then (32, 1) else if s[0] = 120 then escX (s.data.toList.drop 1) else (0, 0) := by
  have := drop_at s 0 h
  rw [List.drop_zero] at this
  rw [show escS5 s = escW (s[0] :: s.data.toList.drop 1) from congrArg escW this, escW_cons]
theorem escX_short (s : ByteArray) (h : s.size < 3) : escX (s.data.toList.drop 1) = (0, 0) := by
  rw [escX_two, if_pos]
  have hl : (s.data.toList.drop 1).length < 2 := by rw [List.length_drop, size_list]; omega
  match s.data.toList.drop 1, hl with
  | [], _ => rfl
  | [_], _ => rfl
theorem escX_three (s : ByteArray) (h : 3 ≤ s.size) : escX (s.data.toList.drop 1) = if hex2 s[1] s[2] = 0 then (0, 0) else (hex2 s[1] s[2], 3) := by
  rw [drop_at s 1 (by omega), drop_at s 2 (by omega), escX_cons]
theorem hex2_zero {a b : UInt8} (ha : hexW a < 16) (hb : hexW b < 16) : (hex2 a b = 0 ↔ hexW a = 0 ∧ hexW b = 0) ∧ ((hex2 a b).toNat : Int) = 16 * (hexW a : Int) + (hexW b : Int) := by
  have e : (hex2 a b).toNat = 16 * hexW a + hexW b := by
    unfold hex2
    rw [if_pos ⟨ha, hb⟩]
    simp
    omega
  refine ⟨?_, by rw [e]; omega⟩
  rw [byte_eq, e]
  show _ = 0 ↔ _
  omega
theorem two_zero (s : ByteArray) (h : 3 ≤ s.size) : ((s.extract 1 3).toList == [48, 48]) = (decide (hexW s[1] = 0) && decide (hexW s[2] = 0)) := by
  have e : (s.extract 1 3).toList = [s[1], s[2]] := by
    rw [Lib.toList_data, Lib.extract_data, drop_at s 1 (by omega), drop_at s 2 (by omega)]
    rfl
  rw [e, Bool.eq_iff_iff]
  have h1 := hexW_dig s[1] 0 (by omega)
  have h2 := hexW_dig s[2] 0 (by omega)
  simp only [beq_iff_eq, Bool.and_eq_true, decide_eq_true_eq, List.cons.injEq, and_true]
  rw [h1, h2]
  constructor
  · rintro ⟨h3, h4⟩; exact ⟨by rw [h3]; rfl, by rw [h4]; rfl⟩
  · rintro ⟨h3, h4⟩; exact ⟨h3.symm, h4.symm⟩
theorem ret_ui5 {a c : Int} {b d : Int} (h : a = c) (k : b = d) : Ending.returned (.tuple #[.int .u8 a, .int .i64 b]) = .returned (.tuple #[.int .u8 c, .int .i64 d]) := by rw [h, k]
set_option maxHeartbeats 4000000 in
theorem escape_x (s : ByteArray) (hm : s.size ≤ maxLen) (h0 : 0 < s.size) (h120 : s[0].toNat = 120) (w : World) :
    Calls Tryz.prog 92 #[.string s] w fun e w' => e = .returned (.tuple #[.int .u8 (escX (s.data.toList.drop 1)).1.toNat, .int .i64 (escX (s.data.toList.drop 1)).2]) ∧ ∃ n, w' = w.drewN n := by
  unfold maxLen at hm
  have hb : (0 : Int) < s.size := by omega
  have he : s.toList.isEmpty = false := by
    rw [isEmpty_iff, decide_eq_false_iff_not]
    intro e
    have := size_list s
    rw [e] at this
    simp at this
    omega
  by_cases h3 : s.size < 3
  · have HR := Lib.hid (escX_short s h3)
    have t1 : decide ((3 : Int) ≤ (s.size : Int)) = false := by simp; omega
    go_enter Tryz.func92, Tryz.ntmps92
    go_wp2_with fail
    go_ret2
    rw [HR.out]
    exact ⟨rfl, 0, rfl⟩
  have h3' : 3 ≤ s.size := by omega
  have t1 : decide ((3 : Int) ≤ (s.size : Int)) = true := by simp; omega
  have t2 : (3 : Int) ≤ (s.size : Int) := by omega
  have i1 : 1 < s.size := by omega
  have i2 : 2 < s.size := by omega
  have HX := Lib.hid (escX_three s h3')
  have r1 := s[1].toNat_lt
  have r2 := s[2].toNat_lt
  by_cases ha : hexW s[1] < 16
  · by_cases hbb : hexW s[2] < 16
    · obtain ⟨z1, z2⟩ := hex2_zero ha hbb
      have HTZ := Lib.hid (two_zero s h3')
      have A1 : Hid (hexW s[1] = hexW s[1]) := rfl
      obtain ⟨x, hx⟩ : ∃ x, hexW s[1] = x := ⟨_, rfl⟩
      obtain ⟨y, hy⟩ : ∃ y, hexW s[2] = y := ⟨_, rfl⟩
      rw [hx, hy] at HTZ z1 z2
      rw [hx] at ha
      rw [hy] at hbb
      have HX1 := Lib.hid hx
      have HY1 := Lib.hid hy
      clear hx hy A1
      have ta : (x : Int) < 16 := by omega
      have tb : (y : Int) < 16 := by omega
      by_cases hz : x = 0 ∧ y = 0
      · have HR : Hid (escX (s.data.toList.drop 1) = (0, 0)) := by show _ = _; rw [HX.out, if_pos (z1.2 hz)]
        have tz : ((s.extract 1 3).toList == [48, 48]) = true := by rw [HTZ.out, hz.1, hz.2]; rfl
        clear z1 z2 hz
        go_enter Tryz.func92, Tryz.ntmps92
        go_wp2_with fail
        refine (rHexW_any _ _).mono ?_
        rintro e w' ⟨rfl, rfl⟩
        rw [HX1.out]
        go_wp2_with fail
        refine (rHexW_any _ _).mono ?_
        rintro e w' ⟨rfl, rfl⟩
        rw [HY1.out]
        go_wp2_with fail
        go_ret2
        rw [HR.out]
        exact ⟨rfl, 0, rfl⟩
      · have HR : Hid (escX (s.data.toList.drop 1) = (hex2 s[1] s[2], 3)) := by show _ = _; rw [HX.out, if_neg (fun h => hz (z1.1 h))]
        have tz : ((s.extract 1 3).toList == [48, 48]) = false := by
          rw [HTZ.out, Bool.and_eq_false_iff]
          simp only [decide_eq_false_iff_not]
          omega
        have HV := Lib.hid z2
        clear z1 z2 hz
        have q1 : IntKind.i64.wrap (16 * (x : Int)) = 16 * (x : Int) := by rw [IntKind.wrap_i64]; omega
        have q2 : IntKind.i64.wrap (16 * (x : Int) + (y : Int)) = 16 * (x : Int) + (y : Int) := by rw [IntKind.wrap_i64]; omega
        go_enter Tryz.func92, Tryz.ntmps92
        go_wp2_with fail
        refine (rHexW_any _ _).mono ?_
        rintro e w' ⟨rfl, rfl⟩
        rw [HX1.out]
        go_wp2_with fail
        refine (rHexW_any _ _).mono ?_
        rintro e w' ⟨rfl, rfl⟩
        rw [HY1.out]
        go_wp2_with fail
        go_quiet ((go_at_call 118; exact Calls.quiet_of_same (rHexW_q _ _ (by with_reducible (first | exact HX1.out | exact HY1.out)) _)))
        go_wp2_with fail
        go_ret2
        rw [HR.out]
        exact ⟨ret_ui5 (by rw [HV.out]) rfl, _, rfl⟩
    · have HY1 := Lib.hid (show hexW s[2] = 16 by have := hexW_le s[2]; omega)
      have HR : Hid (escX (s.data.toList.drop 1) = (0, 0)) := by
        show _ = _
        rw [HX.out, if_pos]
        unfold hex2
        rw [if_neg (fun h => hbb h.2)]
      obtain ⟨x, hx⟩ : ∃ x, hexW s[1] = x := ⟨_, rfl⟩
      rw [hx] at ha
      have HX1 := Lib.hid hx
      have ta : (x : Int) < 16 := by omega
      clear hx hbb
      go_enter Tryz.func92, Tryz.ntmps92
      go_wp2_with fail
      refine (rHexW_any _ _).mono ?_
      rintro e w' ⟨rfl, rfl⟩
      rw [HX1.out]
      go_wp2_with fail
      refine (rHexW_any _ _).mono ?_
      rintro e w' ⟨rfl, rfl⟩
      rw [HY1.out]
      go_wp2_with fail
      go_ret2
      rw [HR.out]
      exact ⟨rfl, 0, rfl⟩
  · have HX1 := Lib.hid (show hexW s[1] = 16 by have := hexW_le s[1]; omega)
    have HR : Hid (escX (s.data.toList.drop 1) = (0, 0)) := by
      show _ = _
      rw [HX.out, if_pos]
      unfold hex2
      rw [if_neg (fun h => ha h.1)]
    clear ha
    go_enter Tryz.func92, Tryz.ntmps92
    go_wp2_with fail
    refine (rHexW_any _ _).mono ?_
    rintro e w' ⟨rfl, rfl⟩
    rw [HX1.out]
    go_wp2_with fail
    go_ret2
    rw [HR.out]
    exact ⟨rfl, 0, rfl⟩
set_option maxHeartbeats 4000000 in
theorem escape_any (s : ByteArray) (hm : s.size ≤ maxLen) (w : World) :
    Calls Tryz.prog 92 #[.string s] w fun e w' => e = .returned (.tuple #[.int .u8 (escS5 s).1.toNat, .int .i64 (escS5 s).2]) ∧ ∃ n, w' = w.drewN n := by
  by_cases h0 : s.size = 0
  · have hl : s.data.toList = [] := List.eq_nil_of_length_eq_zero (by rw [size_list]; exact h0)
    have he : s.toList.isEmpty = true := by rw [isEmpty_iff, hl]; rfl
    have HR : Hid (escS5 s = (0, 0)) := by show _ = _; unfold escS5; rw [hl]; rfl
    clear h0 hl
    go_enter Tryz.func92, Tryz.ntmps92
    go_wp2_with fail
    go_ret2
    rw [HR.out]
    exact ⟨rfl, 0, rfl⟩
  have h0' : 0 < s.size := by omega
  have hm0 := hm
  unfold maxLen at hm
  have hb : (0 : Int) < s.size := by omega
  have he : s.toList.isEmpty = false := by
    rw [isEmpty_iff, decide_eq_false_iff_not]
    intro e
    have := size_list s
    rw [e] at this
    simp at this
    omega
  have hlt := s[0].toNat_lt
  have E := escS5_at s h0'
  by_cases h92 : s[0].toNat = 92
  · have t1 := byte_is h92
    have hc : s[0] = 92 := byte_eq.2 h92
    have HR : Hid (escS5 s = (92, 1)) := by show _ = _; rw [E, if_pos (.inl hc), hc]
    clear E hc h0
    go_enter Tryz.func92, Tryz.ntmps92
    go_wp2_with fail
    go_ret2
    rw [HR.out]
    exact ⟨rfl, 0, rfl⟩
  have t1 := byte_ne h92
  have n1 : ¬ s[0] = 92 := ne_of_nat h92
  by_cases h34 : s[0].toNat = 34
  · have t2 := byte_is h34
    have hc : s[0] = 34 := byte_eq.2 h34
    have HR : Hid (escS5 s = (34, 1)) := by show _ = _; rw [E, if_pos (.inr (.inl hc)), hc]
    clear E hc h0 n1
    go_enter Tryz.func92, Tryz.ntmps92
    go_wp2_with fail
    go_ret2
    rw [HR.out]
    exact ⟨rfl, 0, rfl⟩
  have t2 := byte_ne h34
  have n2 : ¬ s[0] = 34 := ne_of_nat h34
  by_cases h39 : s[0].toNat = 39
  · have t3 := byte_is h39
    have hc : s[0] = 39 := byte_eq.2 h39
    have HR : Hid (escS5 s = (39, 1)) := by show _ = _; rw [E, if_pos (.inr (.inr hc)), hc]
    clear E hc h0 n1 n2
    go_enter Tryz.func92, Tryz.ntmps92
    go_wp2_with fail
    go_ret2
    rw [HR.out]
    exact ⟨rfl, 0, rfl⟩
  have t3 := byte_ne h39
  have n3 : ¬ s[0] = 39 := ne_of_nat h39
  rw [if_neg (by rintro (h | h | h) <;> contradiction)] at E
  clear n1 n2 n3
  by_cases h110 : s[0].toNat = 110
  · have t4 := byte_is h110
    have HR : Hid (escS5 s = (10, 1)) := by show _ = _; rw [E, if_pos (byte_eq.2 h110)]
    clear E h0
    go_enter Tryz.func92, Tryz.ntmps92
    go_wp2_with fail
    go_ret2
    rw [HR.out]
    exact ⟨rfl, 0, rfl⟩
  have t4 := byte_ne h110
  rw [if_neg (ne_of_nat h110)] at E
  by_cases h116 : s[0].toNat = 116
  · have t5 := byte_is h116
    have HR : Hid (escS5 s = (9, 1)) := by show _ = _; rw [E, if_pos (byte_eq.2 h116)]
    clear E h0
    go_enter Tryz.func92, Tryz.ntmps92
    go_wp2_with fail
    go_ret2
    rw [HR.out]
    exact ⟨rfl, 0, rfl⟩
  have t5 := byte_ne h116
  rw [if_neg (ne_of_nat h116)] at E
  by_cases h115 : s[0].toNat = 115
  · have t6 := byte_is h115
    have HR : Hid (escS5 s = (32, 1)) := by show _ = _; rw [E, if_pos (byte_eq.2 h115)]
    clear E h0
    go_enter Tryz.func92, Tryz.ntmps92
    go_wp2_with fail
    go_ret2
    rw [HR.out]
    exact ⟨rfl, 0, rfl⟩
  have t6 := byte_ne h115
  rw [if_neg (ne_of_nat h115)] at E
  by_cases h120 : s[0].toNat = 120
  · rw [if_pos (byte_eq.2 h120)] at E
    rw [E]
    exact escape_x s hm0 h0' h120 w
  · have t7 := byte_ne h120
    rw [if_neg (ne_of_nat h120)] at E
    have HR := Lib.hid E
    clear E h0
    go_enter Tryz.func92, Tryz.ntmps92
    go_wp2_with fail
    go_ret2
    rw [HR.out]
    exact ⟨rfl, 0, rfl⟩
theorem escS5_tail (s : ByteArray) (k : Nat) : escS5 (s.extract k s.size) = escW (s.data.toList.drop k) := by
  unfold escS5; rw [tail_list]
def wrongL : List UInt8 → Nat
  | [] => 2
  | c :: t => if c = 92 ∧ (escW t).2 = 0 then 13 else 2
def wrongC (s : ByteArray) : Nat := wrongL s.data.toList
theorem wrongC_at (s : ByteArray) (h : 0 < s.size) : wrongC s = if s[0] = 92 ∧ (escW (s.data.toList.drop 1)).2 = 0 then 13 else 2 := by
  have := drop_at s 0 h
  rw [List.drop_zero] at this
  exact congrArg wrongL this
set_option maxHeartbeats 2000000 in
theorem wrongAt_any (s : ByteArray) (hm : s.size ≤ maxLen) (h0 : 0 < s.size) (w : World) :
    Calls Tryz.prog 91 #[.string s] w fun e w' => e = .returned (.int .i64 (wrongC s)) ∧ ∃ n, w' = w.drewN n := by
  unfold maxLen at hm
  have b1 : (1 : Int) ≤ (s.size : Int) := by omega
  have b0 : (0 : Int) < (s.size : Int) := by omega
  have hsz : (s.extract 1 s.size).size ≤ maxLen := by rw [ByteArray.size_extract]; unfold maxLen; omega
  have HE := Lib.hid (escS5_tail s 1)
  by_cases hc : s[0] = 92
  · have t1 : ((s[0].toNat : Int) == 92) = true := by rw [hc]; rfl
    by_cases he : (escW (s.data.toList.drop 1)).2 = 0
    · have HR : Hid ((wrongC s : Int) = 13) := by show _ = _; rw [wrongC_at s h0, if_pos ⟨hc, he⟩]; rfl
      have HZ : Hid ((escS5 (s.extract 1 s.size)).2 = 0) := by show _ = _; rw [HE.out]; exact he
      clear hc he HE
      go_enter Tryz.func91, Tryz.ntmps91
      go_wp2_with fail
      refine (escape_any _ hsz _).mono ?_
      rintro e w' ⟨rfl, n, rfl⟩
      rw [HZ.out]
      go_wp2_with fail
      go_ret
      exact ⟨ret_int HR.out.symm, n, rfl⟩
    · have HR : Hid ((wrongC s : Int) = 2) := by show _ = _; rw [wrongC_at s h0, if_neg (fun h => he h.2)]; rfl
      have HZ : Hid ((((escS5 (s.extract 1 s.size)).2 : Int) == 0) = false) := by show _ = _; rw [HE.out]; simp only [beq_eq_false_iff_ne, ne_eq]; omega
      clear hc he HE
      go_enter Tryz.func91, Tryz.ntmps91
      go_wp2_with fail
      refine (escape_any _ hsz _).mono ?_
      rintro e w' ⟨rfl, n, rfl⟩
      have hz := HZ.out
      go_wp2_with fail
      go_ret
      exact ⟨ret_int HR.out.symm, n, rfl⟩
  · have t1 : ((s[0].toNat : Int) == 92) = false := by
      simp only [beq_eq_false_iff_ne, ne_eq]
      intro e
      exact hc (byte_eq.2 (by show _ = 92; omega))
    have HR : Hid ((wrongC s : Int) = 2) := by show _ = _; rw [wrongC_at s h0, if_neg (fun h => hc h.1)]; rfl
    clear hc HE
    go_enter Tryz.func91, Tryz.ntmps91
    go_wp2_with fail
    refine (escape_any _ hsz _).mono ?_
    rintro e w' ⟨rfl, n, rfl⟩
    go_wp2_with fail
    go_ret
    exact ⟨ret_int HR.out.symm, n, rfl⟩
end Go.Proofs.YtadifolonbkamaaGreatDoor.Wd
