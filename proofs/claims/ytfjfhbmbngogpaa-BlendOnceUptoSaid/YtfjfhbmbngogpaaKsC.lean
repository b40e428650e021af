/- The walks of the developers' within and keysOf. -/
import Derived.Test.YtfjfhbmbngogpaaKsB
namespace Go.Proofs.Ytfjfhbmbngogpaa
open Go.RowKit

theorem krs_at {w : World} {g : Nat} {t : TypeId} {rs : List Kr} (h : Blk w g t (krs rs).toArray) {k : Nat} {r : Kr} (hk : rs[k]? = some r) (i : Nat) (hi : i < 6) : w.cell? ⟨g, k * 6 + i, none⟩ = (krCells r)[i]? := by
  rw [h.cell]
  rw [List.getElem?_toArray]
  exact krs_get rs k r hk i hi
theorem take_mid {α : Type} (l : List α) (f : α → α) (k : Nat) (x : α) (h : l[k]? = some x) :
    (l.take k).map f ++ l.drop k = (l.take k).map f ++ x :: l.drop (k + 1) ∧ ((l.take k).map f).length = k ∧ (l.take (k + 1)).map f ++ l.drop (k + 1) = (l.take k).map f ++ f x :: l.drop (k + 1) := by
  have hk : k < l.length := by
    rcases Nat.lt_or_ge k l.length with h' | h'
    · exact h'
    · rw [List.getElem?_eq_none h'] at h; cases h
  have hx : l[k] = x := by rw [List.getElem?_eq_getElem hk] at h; exact Option.some.inj h
  refine ⟨by rw [List.drop_eq_getElem_cons hk, hx], by simp; omega, ?_⟩
  rw [List.take_succ_eq_append_getElem hk, hx, List.map_append, List.append_assoc]
  rfl
theorem Kr.is.into {w w' : World} {B : Nat} {r : Kr} {x : Ky} (h : r.is w B x) (hb : Below B w w') (s : List UInt8) (k : Int) : (r.into s k).is w' B (x.into s k) :=
  ⟨rfl, h.2.1, h.2.2.1, h.2.2.2.1, rfl, h.2.2.2.2.2.below hb⟩
theorem KrsAre.into {w w' : World} {B : Nat} {rs : List Kr} {l : List Ky} (h : KrsAre w B rs l) (hb : Below B w w') (s : List UInt8) (k : Int) : KrsAre w' B (rs.map (Kr.into s k)) (l.map (Ky.into s k)) := by
  refine ⟨by simp [h.1], fun j r x hr hx => ?_⟩
  rw [List.getElem?_map] at hr hx
  obtain ⟨r', hr', rfl⟩ := Option.map_eq_some_iff.1 hr
  obtain ⟨x', hx', rfl⟩ := Option.map_eq_some_iff.1 hx
  exact (h.2 j r' x' hr' hx').into hb s k
set_option maxHeartbeats 4000000 in
theorem within_any (s : ByteArray) (k : Int) (g n : Nat) (rs : List Kr) (hn : rs.length = n) (hm : n ≤ 1000) (w : World) (h : Blk w g 33 (krs rs).toArray) :
    Calls Try.prog 25 #[.string s, .int .i64 k, .slice (some ⟨g, 0, none⟩) n n] w fun e w' => e = .returned (.slice (some ⟨g, 0, none⟩) n n) ∧
      Blk w' g 33 (krs (rs.map (Kr.into s.data.toList k))).toArray ∧ w.grownBy w' (some g) := by
  have H0 := Lib.hid h
  have hgl : g < w.heap.size := h.lt
  clear h
  go_enter Try.func25, Try.ntmps25
  go_wp2_with fail
  go_loopw [10] (fun i wr => ∃ m : Nat, m ≤ n ∧ i = .int .i64 m ∧ Hid (Blk wr g 33 (krs ((rs.take m).map (Kr.into s.data.toList k) ++ rs.drop m)).toArray) ∧ Hid (w.grownBy wr (some g))) (fun i wr => n - (intOf i).toNat)
  case atStart => exact ⟨0, Nat.zero_le _, rfl, by simpa using H0, ⟨rfl, rfl, rfl, Nat.le_refl _, fun _ _ _ => rfl⟩⟩
  case round =>
    obtain ⟨m, hmn, rfl, HB, HG⟩ := hrel
    by_cases hlt : m < n
    · have b0 : (0 : Int) ≤ (m : Int) := by omega
      have b1 : (m : Int) < (n : Int) := by omega
      have hr : rs[m]? = some (rs[m]'(by omega)) := List.getElem?_eq_getElem (by omega)
      generalize rs[m]'(by omega) = r at hr
      obtain ⟨e1, e2, e3⟩ := take_mid rs (Kr.into s.data.toList k) m r hr
      have HB1 : Hid (Blk wr g 33 (krs ((rs.take m).map (Kr.into s.data.toList k) ++ r :: rs.drop (m + 1))).toArray) := by rw [← e1]; exact HB
      have hr1 : ((rs.take m).map (Kr.into s.data.toList k) ++ r :: rs.drop (m + 1))[m]? = some r := by
        rw [List.getElem?_append_right (by omega), e2, Nat.sub_self]; rfl
      have HB2 : Hid (Blk (wr.setCell ⟨g, m * 6, none⟩ (.string s)) g 33 (krs ((rs.take m).map (Kr.into s.data.toList k) ++ { r with s := s.data.toList } :: rs.drop (m + 1))).toArray) := by
        have := HB1.out.setCell (m * 6) (.string s)
        have hz := krs_set0 ((rs.take m).map (Kr.into s.data.toList k)) (rs.drop (m + 1)) r s.data.toList
        rw [e2, str_data] at hz
        rw [hz] at this
        exact this
      have HB3 : Hid (Blk ((wr.setCell ⟨g, m * 6, none⟩ (.string s)).setCell ⟨g, m * 6 + 4, none⟩ (.int .i64 k)) g 33 (krs ((rs.take (m + 1)).map (Kr.into s.data.toList k) ++ rs.drop (m + 1))).toArray) := by
        have := HB2.out.setCell (m * 6 + 4) (.int .i64 k)
        have hz := krs_set4 ((rs.take m).map (Kr.into s.data.toList k)) (rs.drop (m + 1)) { r with s := s.data.toList } k
        rw [e2] at hz
        rw [hz] at this
        rw [e3]
        exact this
      have hr2 : ((rs.take m).map (Kr.into s.data.toList k) ++ { r with s := s.data.toList } :: rs.drop (m + 1))[m]? = some { r with s := s.data.toList } := by
        rw [List.getElem?_append_right (by omega), e2, Nat.sub_self]; rfl
      have c0 : wr.cell? ⟨g, m * 6, none⟩ = some (.string (str r.s)) := krs_at HB1.out hr1 0 (by omega)
      have f0 : wr.frozen? ⟨g, m * 6, none⟩ = false := HB1.out.frozen _
      have c4 : (wr.setCell ⟨g, m * 6, none⟩ (.string s)).cell? ⟨g, m * 6 + 4, none⟩ = some (.int .i64 r.k) := krs_at HB2.out hr2 4 (by omega)
      have f4 : (wr.setCell ⟨g, m * 6, none⟩ (.string s)).frozen? ⟨g, m * 6 + 4, none⟩ = false := HB2.out.frozen _
      have HG3 : Hid (w.grownBy ((wr.setCell ⟨g, m * 6, none⟩ (.string s)).setCell ⟨g, m * 6 + 4, none⟩ (.int .i64 k)) (some g)) := only_setCell (only_setCell HG.out (.inl rfl) _) (.inl rfl) _
      clear e1 e2 e3 hr hr1 hr2 HB HB1
      go_wp2_with fail
      go_roundw
      case rel => exact ⟨m + 1, by omega, by go_num, HB3, HG3⟩
      case measure => simp [intOf]; omega
    · obtain rfl : m = n := by omega
      have HE : Hid (Blk wr g 33 (krs (rs.map (Kr.into s.data.toList k))).toArray) := by
        have := HB.out
        rw [List.take_of_length_le (by omega), List.drop_of_length_le (by omega), List.append_nil] at this
        exact this
      go_wp2_with fail
      go_ret
      exact ⟨rfl, HE.out, HG.out⟩
/-- The keys of a section, in memory. -/
def KeysOfP (s : List UInt8) (w : World) (e : Ending) (w' : World) : Prop :=
  ∃ A c, e = .returned (.slice A (keysT s).length c) ∧ KysAt w' w'.heap.size A (keysT s).length (keysT s) ∧ Below w.heap.size w w'
theorem KeysOfP.tab {s : List UInt8} {l : List Ky} {k : Int} {w w1 w2 : World} {e1 : Ending} (h : keysT s = l.map (Ky.into s k)) {g : Nat} {rs : List Kr} (hl : l.length ≤ 1000) (hg : w.heap.size ≤ g) (ha : KrsAre w1 g rs l) (hb : Below w.heap.size w w1) (hz : g < w1.heap.size)
    (h2 : Blk w2 g 33 (krs (rs.map (Kr.into s k))).toArray) (h3 : w1.grownBy w2 (some g)) (he : e1 = .returned (.slice (some ⟨g, 0, none⟩) l.length l.length)) : KeysOfP s w e1 w2 := by
  have hlen : (keysT s).length = l.length := by rw [h, List.length_map]
  have hbg : Below g w1 w2 := ⟨h3.os, h3.tape, h3.output, h3.size, fun i hi => h3.block i (by omega) (by intro e; injection e with e; omega)⟩
  have ha2 : KrsAre w2 w2.heap.size (rs.map (Kr.into s k)) (l.map (Ky.into s k)) := (ha.into hbg s k).wide (by have := h2.lt; omega)
  refine ⟨some ⟨g, 0, none⟩, l.length, by rw [he, hlen], ?_, hb.trans (hbg.mono hg)⟩
  rw [hlen, h]
  exact KysAt.of_blk h2 (by rw [List.length_map]) (by unfold maxLen; omega) ha2
theorem eq_lit (s : ByteArray) (l : List UInt8) : (s.toList == l) = decide (s.data.toList = l) := by
  rw [Lib.toList_data, Bool.eq_iff_iff, decide_eq_true_eq, beq_iff_eq]
theorem KeysOfP.none_ {s : List UInt8} {w : World} (h : keysT s = []) : KeysOfP s w (.returned (.slice none 0 0)) w := by
  refine ⟨none, 0, by rw [h]; rfl, by rw [h]; exact KysAt.none_, Below.refl _ _⟩
theorem keysT_Unit : keysT nUnit = tUnit.map (Ky.into nUnit 30) := by decide +kernel
set_option maxHeartbeats 4000000 in
theorem keysOf_Unit (s : ByteArray) (hs : s.data.toList = nUnit) (w : World) : Calls Try.prog 20 #[.string s] w (KeysOfP s.data.toList w) := by
  have q0 : (s.toList == ([85, 110, 105, 116] : List UInt8)) = true := (eq_lit s nUnit).trans (by rw [hs]; decide)
  have hk := keysT_Unit
  rw [← hs] at hk
  have HK := Lib.hid hk
  clear hk hs
  go_enter Try.func20, Try.ntmps20
  go_wp2_with fail
  refine (unitKeys_any _).mono ?_
  rintro e1 w1 ⟨g, rs, rfl, hg, hblk, hare, hb⟩
  have HA := Lib.hid hare
  have HB := Lib.hid hb
  have hz : g < w1.heap.size := hblk.lt
  clear hare hb
  have hl : rs.length = tUnit.length := HA.out.1
  go_wp2_with fail
  refine (within_any s 30 g tUnit.length rs hl (by decide) _ hblk).mono ?_
  rintro e2 w2 ⟨rfl, h2, h3⟩
  go_wp2_with fail
  go_ret
  exact KeysOfP.tab (l := tUnit) HK.out (by decide) hg HA.out HB.out hz h2 h3 rfl
theorem keysT_Serv : keysT nServ = tServ.map (Ky.into nServ 2) := by decide +kernel
set_option maxHeartbeats 4000000 in
theorem keysOf_Serv (s : ByteArray) (hs : s.data.toList = nServ) (w : World) : Calls Try.prog 20 #[.string s] w (KeysOfP s.data.toList w) := by
  have q0 : (s.toList == ([85, 110, 105, 116] : List UInt8)) = false := (eq_lit s nUnit).trans (by rw [hs]; decide)
  have q1 : (s.toList == ([83, 101, 114, 118, 105, 99, 101] : List UInt8)) = true := (eq_lit s nServ).trans (by rw [hs]; decide)
  have hk := keysT_Serv
  rw [← hs] at hk
  have HK := Lib.hid hk
  clear hk hs
  go_enter Try.func20, Try.ntmps20
  go_wp2_with fail
  refine (serviceKeys_any _).mono ?_
  rintro e1 w1 ⟨g, rs, rfl, hg, hblk, hare, hb⟩
  have HA := Lib.hid hare
  have HB := Lib.hid hb
  have hz : g < w1.heap.size := hblk.lt
  clear hare hb
  have hl : rs.length = tServ.length := HA.out.1
  go_wp2_with fail
  refine (within_any s 2 g tServ.length rs hl (by decide) _ hblk).mono ?_
  rintro e2 w2 ⟨rfl, h2, h3⟩
  go_wp2_with fail
  go_ret
  exact KeysOfP.tab (l := tServ) HK.out (by decide) hg HA.out HB.out hz h2 h3 rfl
theorem keysT_Sock : keysT nSock = tSock.map (Ky.into nSock 4) := by decide +kernel
set_option maxHeartbeats 4000000 in
theorem keysOf_Sock (s : ByteArray) (hs : s.data.toList = nSock) (w : World) : Calls Try.prog 20 #[.string s] w (KeysOfP s.data.toList w) := by
  have q0 : (s.toList == ([85, 110, 105, 116] : List UInt8)) = false := (eq_lit s nUnit).trans (by rw [hs]; decide)
  have q1 : (s.toList == ([83, 101, 114, 118, 105, 99, 101] : List UInt8)) = false := (eq_lit s nServ).trans (by rw [hs]; decide)
  have q2 : (s.toList == ([83, 111, 99, 107, 101, 116] : List UInt8)) = true := (eq_lit s nSock).trans (by rw [hs]; decide)
  have hk := keysT_Sock
  rw [← hs] at hk
  have HK := Lib.hid hk
  clear hk hs
  go_enter Try.func20, Try.ntmps20
  go_wp2_with fail
  refine (socketKeys_any _).mono ?_
  rintro e1 w1 ⟨g, rs, rfl, hg, hblk, hare, hb⟩
  have HA := Lib.hid hare
  have HB := Lib.hid hb
  have hz : g < w1.heap.size := hblk.lt
  clear hare hb
  have hl : rs.length = tSock.length := HA.out.1
  go_wp2_with fail
  refine (within_any s 4 g tSock.length rs hl (by decide) _ hblk).mono ?_
  rintro e2 w2 ⟨rfl, h2, h3⟩
  go_wp2_with fail
  go_ret
  exact KeysOfP.tab (l := tSock) HK.out (by decide) hg HA.out HB.out hz h2 h3 rfl
theorem keysT_Time : keysT nTime = tTime.map (Ky.into nTime 8) := by decide +kernel
set_option maxHeartbeats 4000000 in
theorem keysOf_Time (s : ByteArray) (hs : s.data.toList = nTime) (w : World) : Calls Try.prog 20 #[.string s] w (KeysOfP s.data.toList w) := by
  have q0 : (s.toList == ([85, 110, 105, 116] : List UInt8)) = false := (eq_lit s nUnit).trans (by rw [hs]; decide)
  have q1 : (s.toList == ([83, 101, 114, 118, 105, 99, 101] : List UInt8)) = false := (eq_lit s nServ).trans (by rw [hs]; decide)
  have q2 : (s.toList == ([83, 111, 99, 107, 101, 116] : List UInt8)) = false := (eq_lit s nSock).trans (by rw [hs]; decide)
  have q3 : (s.toList == ([84, 105, 109, 101, 114] : List UInt8)) = true := (eq_lit s nTime).trans (by rw [hs]; decide)
  have hk := keysT_Time
  rw [← hs] at hk
  have HK := Lib.hid hk
  clear hk hs
  go_enter Try.func20, Try.ntmps20
  go_wp2_with fail
  refine (timerKeys_any _).mono ?_
  rintro e1 w1 ⟨g, rs, rfl, hg, hblk, hare, hb⟩
  have HA := Lib.hid hare
  have HB := Lib.hid hb
  have hz : g < w1.heap.size := hblk.lt
  clear hare hb
  have hl : rs.length = tTime.length := HA.out.1
  go_wp2_with fail
  refine (within_any s 8 g tTime.length rs hl (by decide) _ hblk).mono ?_
  rintro e2 w2 ⟨rfl, h2, h3⟩
  go_wp2_with fail
  go_ret
  exact KeysOfP.tab (l := tTime) HK.out (by decide) hg HA.out HB.out hz h2 h3 rfl
theorem keysT_Inst : keysT nInst = tInst.map (Ky.into nInst 30) := by decide +kernel
set_option maxHeartbeats 4000000 in
theorem keysOf_Inst (s : ByteArray) (hs : s.data.toList = nInst) (w : World) : Calls Try.prog 20 #[.string s] w (KeysOfP s.data.toList w) := by
  have q0 : (s.toList == ([85, 110, 105, 116] : List UInt8)) = false := (eq_lit s nUnit).trans (by rw [hs]; decide)
  have q1 : (s.toList == ([83, 101, 114, 118, 105, 99, 101] : List UInt8)) = false := (eq_lit s nServ).trans (by rw [hs]; decide)
  have q2 : (s.toList == ([83, 111, 99, 107, 101, 116] : List UInt8)) = false := (eq_lit s nSock).trans (by rw [hs]; decide)
  have q3 : (s.toList == ([84, 105, 109, 101, 114] : List UInt8)) = false := (eq_lit s nTime).trans (by rw [hs]; decide)
  have q4 : (s.toList == ([73, 110, 115, 116, 97, 108, 108] : List UInt8)) = true := (eq_lit s nInst).trans (by rw [hs]; decide)
  have hk := keysT_Inst
  rw [← hs] at hk
  have HK := Lib.hid hk
  clear hk hs
  go_enter Try.func20, Try.ntmps20
  go_wp2_with fail
  refine (installKeys_any _).mono ?_
  rintro e1 w1 ⟨g, rs, rfl, hg, hblk, hare, hb⟩
  have HA := Lib.hid hare
  have HB := Lib.hid hb
  have hz : g < w1.heap.size := hblk.lt
  clear hare hb
  have hl : rs.length = tInst.length := HA.out.1
  go_wp2_with fail
  refine (within_any s 30 g tInst.length rs hl (by decide) _ hblk).mono ?_
  rintro e2 w2 ⟨rfl, h2, h3⟩
  go_wp2_with fail
  go_ret
  exact KeysOfP.tab (l := tInst) HK.out (by decide) hg HA.out HB.out hz h2 h3 rfl
set_option maxHeartbeats 4000000 in
theorem keysOf_any (s : ByteArray) (w : World) : Calls Try.prog 20 #[.string s] w (KeysOfP s.data.toList w) := by
  by_cases h0 : s.data.toList = nUnit
  · exact keysOf_Unit s h0 w
  by_cases h1 : s.data.toList = nServ
  · exact keysOf_Serv s h1 w
  by_cases h2 : s.data.toList = nSock
  · exact keysOf_Sock s h2 w
  by_cases h3 : s.data.toList = nTime
  · exact keysOf_Time s h3 w
  by_cases h4 : s.data.toList = nInst
  · exact keysOf_Inst s h4 w
  have HK : Hid (keysT s.data.toList = []) := by show _ = _; unfold keysT; rw [if_neg h0, if_neg h1, if_neg h2, if_neg h3, if_neg h4]
  have q0 : (s.toList == ([85, 110, 105, 116] : List UInt8)) = false := (eq_lit s nUnit).trans (by simpa using h0)
  have q1 : (s.toList == ([83, 101, 114, 118, 105, 99, 101] : List UInt8)) = false := (eq_lit s nServ).trans (by simpa using h1)
  have q2 : (s.toList == ([83, 111, 99, 107, 101, 116] : List UInt8)) = false := (eq_lit s nSock).trans (by simpa using h2)
  have q3 : (s.toList == ([84, 105, 109, 101, 114] : List UInt8)) = false := (eq_lit s nTime).trans (by simpa using h3)
  have q4 : (s.toList == ([73, 110, 115, 116, 97, 108, 108] : List UInt8)) = false := (eq_lit s nInst).trans (by simpa using h4)
  clear h0 h1 h2 h3 h4
  go_enter Try.func20, Try.ntmps20
  go_wp2_with fail
  go_ret
  exact KeysOfP.none_ HK.out
end Go.Proofs.Ytfjfhbmbngogpaa
