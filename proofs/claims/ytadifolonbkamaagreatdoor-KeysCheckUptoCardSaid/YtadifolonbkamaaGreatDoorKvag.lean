/- The walks of the developers' within and keysOf. The walks of the developers' named and Find. strings.SplitSeq at a blank -/
import Derived.Test.YtadifolonbkamaaGreatDoorKvaf
import Derived.Great.BuildSlice
import Derived.Test.YtadifolonbkamaaGreatDoorKvad
import Derived.Test.YtadifolonbkamaaGreatDoorKvaa
import Derived.Test.YtadifolonbkamaaGreatDoorKvac
import Derived.RangeFuncNested
import Derived.RangeFuncBound
import Derived.RangeFuncCalls
import Derived.RangeFuncLeaves
import Derived.Shelf.Abstract
import Derived.Shelf.RegionOpen
import Derived.OwnWalkIn
import Derived.TacticsInMore
import Derived.LoopNIn
import Derived.LoopIn
namespace Go.Proofs.YtadifolonbkamaaGreatDoor
open Go.RowKit
theorem krs_at {w : World} {g : Nat} {t : TypeId} {rs : List Kr} (h : Blk w g t (krs rs).toArray) {k : Nat} {r : Kr} (hk : rs[k]? = some r) (i : Nat) (hi : i < 6) : w.cell? ⟨g, k * 6 + i, none⟩ = (krCells r)[i]? := by
  rw [h.cell]
  rw [List.getElem?_toArray]
  exact krs_get rs k r hk i hi
theorem take_mid {α : Type} (l : List α) (f : α → α) (k : Nat) (x : α) (h : l[k]? = some x) :
    (l.take k).map f ++ l.drop k = (l.take k).map f ++ x :: l.drop (k + 1) ∧ ((l.take k).map f).length = k ∧ (l.take (k + 1)).map f ++ l.drop (k + 1) = (l.take k).map f ++ f x :: l.drop (k + 1) := by
  have hk : k < l.length := by
    rcases Nat.lt_or_ge k l.length with h' | h'
    · exact h'
    · rw [List.getElem?_eq_none h'] at h; cases h
  have hx : l[k] = x := by rw [List.getElem?_eq_getElem hk] at h; exact Option.some.inj h
  refine ⟨by rw [List.drop_eq_getElem_cons hk, hx], by simp; omega, ?_⟩
  rw [List.take_succ_eq_append_getElem hk, hx, List.map_append, List.append_assoc]
  rfl
theorem Kr.is.into {w w' : World} {B : Nat} {r : Kr} {x : Ky} (h : r.is w B x) (hb : Below B w w') (s : List UInt8) (k : Int) : (r.into s k).is w' B (x.into s k) :=
  ⟨rfl, h.2.1, h.2.2.1, h.2.2.2.1, rfl, h.2.2.2.2.2.below hb⟩
theorem KrsAre.into {w w' : World} {B : Nat} {rs : List Kr} {l : List Ky} (h : KrsAre w B rs l) (hb : Below B w w') (s : List UInt8) (k : Int) : KrsAre w' B (rs.map (Kr.into s k)) (l.map (Ky.into s k)) := by
  refine ⟨by simp [h.1], fun j r x hr hx => ?_⟩
  rw [List.getElem?_map] at hr hx
  obtain ⟨r', hr', rfl⟩ := Option.map_eq_some_iff.1 hr
  obtain ⟨x', hx', rfl⟩ := Option.map_eq_some_iff.1 hx
  exact (h.2 j r' x' hr' hx').into hb s k
set_option maxHeartbeats 4000000 in
theorem within_any (s : ByteArray) (k : Int) (g n : Nat) (rs : List Kr) (hn : rs.length = n) (hm : n ≤ 1000) (w : World) (h : Blk w g 28 (krs rs).toArray) :
    Calls Tryz.prog 41 #[.string s, .int .i64 k, .slice (some ⟨g, 0, none⟩) n n] w fun e w' => e = .returned (.slice (some ⟨g, 0, none⟩) n n) ∧
      Blk w' g 28 (krs (rs.map (Kr.into s.data.toList k))).toArray ∧ w.grownBy w' (some g) := by
  have H0 := Lib.hid h
  have hgl : g < w.heap.size := h.lt
  clear h
  go_enter Tryz.func41, Tryz.ntmps41
  go_wp2_with fail
  go_loopw [10] (fun i wr => ∃ m : Nat, m ≤ n ∧ i = .int .i64 m ∧ Hid (Blk wr g 28 (krs ((rs.take m).map (Kr.into s.data.toList k) ++ rs.drop m)).toArray) ∧ Hid (w.grownBy wr (some g))) (fun i wr => n - (intOf i).toNat)
  case atStart => exact ⟨0, Nat.zero_le _, rfl, by simpa using H0, ⟨rfl, rfl, rfl, Nat.le_refl _, fun _ _ _ => rfl⟩⟩
  case round =>
    obtain ⟨m, hmn, rfl, HB, HG⟩ := hrel
    by_cases hlt : m < n
    · have b0 : (0 : Int) ≤ (m : Int) := by omega
      have b1 : (m : Int) < (n : Int) := by omega
      have hr : rs[m]? = some (rs[m]'(by omega)) := List.getElem?_eq_getElem (by omega)
      generalize rs[m]'(by omega) = r at hr
      obtain ⟨e1, e2, e3⟩ := take_mid rs (Kr.into s.data.toList k) m r hr
      have HB1 : Hid (Blk wr g 28 (krs ((rs.take m).map (Kr.into s.data.toList k) ++ r :: rs.drop (m + 1))).toArray) := by rw [← e1]; exact HB
      have hr1 : ((rs.take m).map (Kr.into s.data.toList k) ++ r :: rs.drop (m + 1))[m]? = some r := by
        rw [List.getElem?_append_right (by omega), e2, Nat.sub_self]; rfl
      have HB2 : Hid (Blk (wr.setCell ⟨g, m * 6, none⟩ (.string s)) g 28 (krs ((rs.take m).map (Kr.into s.data.toList k) ++ { r with s := s.data.toList } :: rs.drop (m + 1))).toArray) := by
        have := HB1.out.setCell (m * 6) (.string s)
        have hz := krs_set0 ((rs.take m).map (Kr.into s.data.toList k)) (rs.drop (m + 1)) r s.data.toList
        rw [e2, str_data] at hz
        rw [hz] at this
        exact this
      have HB3 : Hid (Blk ((wr.setCell ⟨g, m * 6, none⟩ (.string s)).setCell ⟨g, m * 6 + 4, none⟩ (.int .i64 k)) g 28 (krs ((rs.take (m + 1)).map (Kr.into s.data.toList k) ++ rs.drop (m + 1))).toArray) := by
        have := HB2.out.setCell (m * 6 + 4) (.int .i64 k)
        have hz := krs_set4 ((rs.take m).map (Kr.into s.data.toList k)) (rs.drop (m + 1)) { r with s := s.data.toList } k
        rw [e2] at hz
        rw [hz] at this
        rw [e3]
        exact this
      have hr2 : ((rs.take m).map (Kr.into s.data.toList k) ++ { r with s := s.data.toList } :: rs.drop (m + 1))[m]? = some { r with s := s.data.toList } := by
        rw [List.getElem?_append_right (by omega), e2, Nat.sub_self]; rfl
      have c0 : wr.cell? ⟨g, m * 6, none⟩ = some (.string (str r.s)) := krs_at HB1.out hr1 0 (by omega)
      have f0 : wr.frozen? ⟨g, m * 6, none⟩ = false := HB1.out.frozen _
      have c4 : (wr.setCell ⟨g, m * 6, none⟩ (.string s)).cell? ⟨g, m * 6 + 4, none⟩ = some (.int .i64 r.k) := krs_at HB2.out hr2 4 (by omega)
      have f4 : (wr.setCell ⟨g, m * 6, none⟩ (.string s)).frozen? ⟨g, m * 6 + 4, none⟩ = false := HB2.out.frozen _
      have HG3 : Hid (w.grownBy ((wr.setCell ⟨g, m * 6, none⟩ (.string s)).setCell ⟨g, m * 6 + 4, none⟩ (.int .i64 k)) (some g)) := only_setCell (only_setCell HG.out (.inl rfl) _) (.inl rfl) _
      clear e1 e2 e3 hr hr1 hr2 HB HB1
      go_wp2_with fail
      go_roundw
      case rel => exact ⟨m + 1, by omega, by go_num, HB3, HG3⟩
      case measure => simp [intOf]; omega
    · obtain rfl : m = n := by omega
      have HE : Hid (Blk wr g 28 (krs (rs.map (Kr.into s.data.toList k))).toArray) := by
        have := HB.out
        rw [List.take_of_length_le (by omega), List.drop_of_length_le (by omega), List.append_nil] at this
        exact this
      go_wp2_with fail
      go_ret
      exact ⟨rfl, HE.out, HG.out⟩
def KeysOfP (s : List UInt8) (w : World) (e : Ending) (w' : World) : Prop :=
  ∃ A c, e = .returned (.slice A (keysT s).length c) ∧ KysAt w' w'.heap.size A (keysT s).length (keysT s) ∧ Below w.heap.size w w'
theorem KeysOfP.tab {s : List UInt8} {l : List Ky} {k : Int} {w w1 w2 : World} {e1 : Ending} (h : keysT s = l.map (Ky.into s k)) {g : Nat} {rs : List Kr} (hl : l.length ≤ 1000) (hg : w.heap.size ≤ g) (ha : KrsAre w1 g rs l) (hb : Below w.heap.size w w1) (hz : g < w1.heap.size)
    (h2 : Blk w2 g 28 (krs (rs.map (Kr.into s k))).toArray) (h3 : w1.grownBy w2 (some g)) (he : e1 = .returned (.slice (some ⟨g, 0, none⟩) l.length l.length)) : KeysOfP s w e1 w2 := by
  have hlen : (keysT s).length = l.length := by rw [h, List.length_map]
  have hbg : Below g w1 w2 := ⟨h3.os, h3.tape, h3.output, h3.size, fun i hi => h3.block i (by omega) (by intro e; injection e with e; omega)⟩
  have ha2 : KrsAre w2 w2.heap.size (rs.map (Kr.into s k)) (l.map (Ky.into s k)) := (ha.into hbg s k).wide (by have := h2.lt; omega)
  refine ⟨some ⟨g, 0, none⟩, l.length, by rw [he, hlen], ?_, hb.trans (hbg.mono hg)⟩
  rw [hlen, h]
  exact KysAt.of_blk h2 (by rw [List.length_map]) (by unfold maxLen; omega) ha2
theorem eq_lit (s : ByteArray) (l : List UInt8) : (s.toList == l) = decide (s.data.toList = l) := by
  rw [Lib.toList_data, Bool.eq_iff_iff, decide_eq_true_eq, beq_iff_eq]
theorem KeysOfP.none_ {s : List UInt8} {w : World} (h : keysT s = []) : KeysOfP s w (.returned (.slice none 0 0)) w := by
  refine ⟨none, 0, by rw [h]; rfl, by rw [h]; exact KysAt.none_, Below.refl _ _⟩
theorem keysT_Unit : keysT nUnit = tUnit.map (Ky.into nUnit 30) := by decide +kernel
set_option maxHeartbeats 4000000 in
theorem keysOf_Unit (s : ByteArray) (hs : s.data.toList = nUnit) (w : World) : Calls Tryz.prog 22 #[.string s] w (KeysOfP s.data.toList w) := by
  have q0 : (s.toList == ([85, 110, 105, 116] : List UInt8)) = true := (eq_lit s nUnit).trans (by rw [hs]; decide)
  have hk := keysT_Unit
  rw [← hs] at hk
  have HK := Lib.hid hk
  clear hk hs
  go_enter Tryz.func22, Tryz.ntmps22
  go_wp2_with fail
  refine (unitKeys_any _).mono ?_
  rintro e1 w1 ⟨g, rs, rfl, hg, hblk, hare, hb⟩
  have HA := Lib.hid hare
  have HB := Lib.hid hb
  have hz : g < w1.heap.size := hblk.lt
  clear hare hb
  have hl : rs.length = tUnit.length := HA.out.1
  go_wp2_with fail
  refine (within_any s 30 g tUnit.length rs hl (by decide) _ hblk).mono ?_
  rintro e2 w2 ⟨rfl, h2, h3⟩
  go_wp2_with fail
  go_ret
  exact KeysOfP.tab (l := tUnit) HK.out (by decide) hg HA.out HB.out hz h2 h3 rfl
theorem keysT_Serv : keysT nServ = tServ.map (Ky.into nServ 2) := by decide +kernel
set_option maxHeartbeats 4000000 in
theorem keysOf_Serv (s : ByteArray) (hs : s.data.toList = nServ) (w : World) : Calls Tryz.prog 22 #[.string s] w (KeysOfP s.data.toList w) := by
  have q0 : (s.toList == ([85, 110, 105, 116] : List UInt8)) = false := (eq_lit s nUnit).trans (by rw [hs]; decide)
  have q1 : (s.toList == ([83, 101, 114, 118, 105, 99, 101] : List UInt8)) = true := (eq_lit s nServ).trans (by rw [hs]; decide)
  have hk := keysT_Serv
  rw [← hs] at hk
  have HK := Lib.hid hk
  clear hk hs
  go_enter Tryz.func22, Tryz.ntmps22
  go_wp2_with fail
  refine (serviceKeys_any _).mono ?_
  rintro e1 w1 ⟨g, rs, rfl, hg, hblk, hare, hb⟩
  have HA := Lib.hid hare
  have HB := Lib.hid hb
  have hz : g < w1.heap.size := hblk.lt
  clear hare hb
  have hl : rs.length = tServ.length := HA.out.1
  go_wp2_with fail
  refine (within_any s 2 g tServ.length rs hl (by decide) _ hblk).mono ?_
  rintro e2 w2 ⟨rfl, h2, h3⟩
  go_wp2_with fail
  go_ret
  exact KeysOfP.tab (l := tServ) HK.out (by decide) hg HA.out HB.out hz h2 h3 rfl
theorem keysT_Sock : keysT nSock = tSock.map (Ky.into nSock 4) := by decide +kernel
set_option maxHeartbeats 4000000 in
theorem keysOf_Sock (s : ByteArray) (hs : s.data.toList = nSock) (w : World) : Calls Tryz.prog 22 #[.string s] w (KeysOfP s.data.toList w) := by
  have q0 : (s.toList == ([85, 110, 105, 116] : List UInt8)) = false := (eq_lit s nUnit).trans (by rw [hs]; decide)
  have q1 : (s.toList == ([83, 101, 114, 118, 105, 99, 101] : List UInt8)) = false := (eq_lit s nServ).trans (by rw [hs]; decide)
  have q2 : (s.toList == ([83, 111, 99, 107, 101, 116] : List UInt8)) = true := (eq_lit s nSock).trans (by rw [hs]; decide)
  have hk := keysT_Sock
  rw [← hs] at hk
  have HK := Lib.hid hk
  clear hk hs
  go_enter Tryz.func22, Tryz.ntmps22
  go_wp2_with fail
  refine (socketKeys_any _).mono ?_
  rintro e1 w1 ⟨g, rs, rfl, hg, hblk, hare, hb⟩
  have HA := Lib.hid hare
  have HB := Lib.hid hb
  have hz : g < w1.heap.size := hblk.lt
  clear hare hb
  have hl : rs.length = tSock.length := HA.out.1
  go_wp2_with fail
  refine (within_any s 4 g tSock.length rs hl (by decide) _ hblk).mono ?_
  rintro e2 w2 ⟨rfl, h2, h3⟩
  go_wp2_with fail
  go_ret
  exact KeysOfP.tab (l := tSock) HK.out (by decide) hg HA.out HB.out hz h2 h3 rfl
theorem keysT_Time : keysT nTime = tTime.map (Ky.into nTime 8) := by decide +kernel
set_option maxHeartbeats 4000000 in
theorem keysOf_Time (s : ByteArray) (hs : s.data.toList = nTime) (w : World) : Calls Tryz.prog 22 #[.string s] w (KeysOfP s.data.toList w) := by
  have q0 : (s.toList == ([85, 110, 105, 116] : List UInt8)) = false := (eq_lit s nUnit).trans (by rw [hs]; decide)
  have q1 : (s.toList == ([83, 101, 114, 118, 105, 99, 101] : List UInt8)) = false := (eq_lit s nServ).trans (by rw [hs]; decide)
  have q2 : (s.toList == ([83, 111, 99, 107, 101, 116] : List UInt8)) = false := (eq_lit s nSock).trans (by rw [hs]; decide)
  have q3 : (s.toList == ([84, 105, 109, 101, 114] : List UInt8)) = true := (eq_lit s nTime).trans (by rw [hs]; decide)
  have hk := keysT_Time
  rw [← hs] at hk
  have HK := Lib.hid hk
  clear hk hs
  go_enter Tryz.func22, Tryz.ntmps22
  go_wp2_with fail
  refine (timerKeys_any _).mono ?_
  rintro e1 w1 ⟨g, rs, rfl, hg, hblk, hare, hb⟩
  have HA := Lib.hid hare
  have HB := Lib.hid hb
  have hz : g < w1.heap.size := hblk.lt
  clear hare hb
  have hl : rs.length = tTime.length := HA.out.1
  go_wp2_with fail
  refine (within_any s 8 g tTime.length rs hl (by decide) _ hblk).mono ?_
  rintro e2 w2 ⟨rfl, h2, h3⟩
  go_wp2_with fail
  go_ret
  exact KeysOfP.tab (l := tTime) HK.out (by decide) hg HA.out HB.out hz h2 h3 rfl
theorem keysT_Inst : keysT nInst = tInst.map (Ky.into nInst 30) := by decide +kernel
set_option maxHeartbeats 4000000 in
theorem keysOf_Inst (s : ByteArray) (hs : s.data.toList = nInst) (w : World) : Calls Tryz.prog 22 #[.string s] w (KeysOfP s.data.toList w) := by
  have q0 : (s.toList == ([85, 110, 105, 116] : List UInt8)) = false := (eq_lit s nUnit).trans (by rw [hs]; decide)
  have q1 : (s.toList == ([83, 101, 114, 118, 105, 99, 101] : List UInt8)) = false := (eq_lit s nServ).trans (by rw [hs]; decide)
  have q2 : (s.toList == ([83, 111, 99, 107, 101, 116] : List UInt8)) = false := (eq_lit s nSock).trans (by rw [hs]; decide)
  have q3 : (s.toList == ([84, 105, 109, 101, 114] : List UInt8)) = false := (eq_lit s nTime).trans (by rw [hs]; decide)
  have q4 : (s.toList == ([73, 110, 115, 116, 97, 108, 108] : List UInt8)) = true := (eq_lit s nInst).trans (by rw [hs]; decide)
  have hk := keysT_Inst
  rw [← hs] at hk
  have HK := Lib.hid hk
  clear hk hs
  go_enter Tryz.func22, Tryz.ntmps22
  go_wp2_with fail
  refine (installKeys_any _).mono ?_
  rintro e1 w1 ⟨g, rs, rfl, hg, hblk, hare, hb⟩
  have HA := Lib.hid hare
  have HB := Lib.hid hb
  have hz : g < w1.heap.size := hblk.lt
  clear hare hb
  have hl : rs.length = tInst.length := HA.out.1
  go_wp2_with fail
  refine (within_any s 30 g tInst.length rs hl (by decide) _ hblk).mono ?_
  rintro e2 w2 ⟨rfl, h2, h3⟩
  go_wp2_with fail
  go_ret
  exact KeysOfP.tab (l := tInst) HK.out (by decide) hg HA.out HB.out hz h2 h3 rfl
set_option maxHeartbeats 4000000 in
theorem keysOf_any (s : ByteArray) (w : World) : Calls Tryz.prog 22 #[.string s] w (KeysOfP s.data.toList w) := by
  by_cases h0 : s.data.toList = nUnit
  · exact keysOf_Unit s h0 w
  by_cases h1 : s.data.toList = nServ
  · exact keysOf_Serv s h1 w
  by_cases h2 : s.data.toList = nSock
  · exact keysOf_Sock s h2 w
  by_cases h3 : s.data.toList = nTime
  · exact keysOf_Time s h3 w
  by_cases h4 : s.data.toList = nInst
  · exact keysOf_Inst s h4 w
  have HK : Hid (keysT s.data.toList = []) := by show _ = _; unfold keysT; rw [if_neg h0, if_neg h1, if_neg h2, if_neg h3, if_neg h4]
  have q0 : (s.toList == ([85, 110, 105, 116] : List UInt8)) = false := (eq_lit s nUnit).trans (by simpa using h0)
  have q1 : (s.toList == ([83, 101, 114, 118, 105, 99, 101] : List UInt8)) = false := (eq_lit s nServ).trans (by simpa using h1)
  have q2 : (s.toList == ([83, 111, 99, 107, 101, 116] : List UInt8)) = false := (eq_lit s nSock).trans (by simpa using h2)
  have q3 : (s.toList == ([84, 105, 109, 101, 114] : List UInt8)) = false := (eq_lit s nTime).trans (by simpa using h3)
  have q4 : (s.toList == ([73, 110, 115, 116, 97, 108, 108] : List UInt8)) = false := (eq_lit s nInst).trans (by simpa using h4)
  clear h0 h1 h2 h3 h4
  go_enter Tryz.func22, Tryz.ntmps22
  go_wp2_with fail
  go_ret
  exact KeysOfP.none_ HK.out
end Go.Proofs.YtadifolonbkamaaGreatDoor
namespace Go.Proofs.YtadifolonbkamaaGreatDoor
open Go.RowKit
theorem Blk.row {w : World} {g : Nat} {t : TypeId} {cs : Array Value} (h : Blk w g t cs) (cs' : Array Value) : Blk (w.setRow g cs') g t cs' := setRow_heap w g cs cs' t (0, 0) h
theorem heap_row_other (w : World) (F : Nat) (cs : Array Value) (i : Nat) (h : i ≠ F) : (w.setRow F cs).heap[i]? = w.heap[i]? := by
  unfold World.setRow
  simp only [Array.getElem?_modify]
  rw [if_neg (Ne.symm h)]
theorem size_row (w : World) (F : Nat) (cs : Array Value) : (w.setRow F cs).heap.size = w.heap.size := by simp [World.setRow]
theorem below_setRow {B : Nat} {a w : World} (h : Below B a w) {g : Nat} (hg : B ≤ g) (cs : Array Value) : Below B a (w.setRow g cs) :=
  ⟨h.os, h.tape, h.output, by rw [size_row]; exact h.size, fun i hi => by rw [heap_row_other w g cs i (by omega)]; exact h.block i hi⟩
theorem results_cell_tmp {P : Program} {fn : Func} {p q : Tmp} {ty : TypeId} (h : fn.results = #[.cell p ty, .tmp q]) (tmps : Array Value) (w : World) (g : Nat) (t : TypeId) (cs : Array Value) (d : TypeDesc) (v : Value)
    (hp : tmps.getD p undef = .pointer (some ⟨g, 0, none⟩)) (hv : tmps.getD q undef = v) (hg : w.heap[g]? = some (.cells cs t (0, 0)))
    (hu : P.underlying ty = some d) (hd : (match d with | .struct _ | .array _ _ => true | _ => false) = true) (hi : (P.info? ty).map (·.size) = some cs.size) :
    (results fn tmps).run P w = .ok (.tuple #[.agg cs, v]) w := by
  have hp' : tmps[p]?.getD undef = .pointer (some ⟨g, 0, none⟩) := by simpa using hp
  have hv' : tmps[q]?.getD undef = v := by simpa using hv
  simp [results, h, hp', hv', asAddr, run_loadVar_row w g t ty cs (0, 0) d hg hu hd hi]
def krA (r : Kr) : Array Value := #[.string (str r.s), .string (str r.n), .int .i64 r.f, .bool r.l, .int .i64 r.k, .slice r.A r.m r.c]
theorem krA_all (r : Kr) : (krA r).all (·.oneCell') = true := by simp [krA, Value.oneCell']
def noKr : Kr := noKy.raw
theorem noKr_is {w : World} {B : Nat} : noKr.is w B noKy := ⟨rfl, rfl, rfl, rfl, rfl, RowS.none_⟩
def NamedP (o : Option Ky) (w : World) (e : Ending) (w' : World) : Prop :=
  ∃ r : Kr, e = .returned (.tuple #[.agg (krA r), .bool o.isSome]) ∧ r.is w' w'.heap.size (o.getD noKy) ∧ Below w.heap.size w w'
theorem named_take {l : List Ky} {n : List UInt8} {k : Nat} {x : Ky} (h : namedT (l.take k) n = none) (hx : l[k]? = some x) : (x.n = n → namedT l n = some x) ∧ (¬ x.n = n → namedT (l.take (k + 1)) n = none) := by
  have hk : k < l.length := by
    rcases Nat.lt_or_ge k l.length with h' | h'
    · exact h'
    · rw [List.getElem?_eq_none h'] at hx; cases hx
  have he : l[k] = x := by rw [List.getElem?_eq_getElem hk] at hx; exact Option.some.inj hx
  unfold namedT at *
  constructor
  · intro e
    conv => lhs; rw [← List.take_append_drop k l]
    rw [List.find?_append, h, List.drop_eq_getElem_cons hk, he, List.find?_cons]
    simp [e]
  · intro e
    rw [List.take_succ_eq_append_getElem hk, he, List.find?_append, h]
    simp [e]
set_option maxHeartbeats 8000000 in
theorem named_any (A : Option Addr) (n c B : Nat) (l : List Ky) (nm : ByteArray) (w : World) (h : KysAt w B A n l) (hB : B ≤ w.heap.size) :
    Calls Tryz.prog 26 #[.slice A n c, .string nm] w (NamedP (namedT l nm.data.toList) w) := by
  have hm := h.2.1
  unfold maxLen at hm
  have hl := h.1
  have HL := Lib.hid h
  clear h
  have HR0 : Hid (Blk (w.alloc (.cells #[.string ⟨#[]⟩, .string ⟨#[]⟩, .int .i64 0, .bool false, .int .i64 0, .slice none 0 0] 28)) w.heap.size 28 (krA noKr)) := Blk.new w _ _
  have HB0 : Hid (Below w.heap.size w (w.alloc (.cells #[.string ⟨#[]⟩, .string ⟨#[]⟩, .int .i64 0, .bool false, .int .i64 0, .slice none 0 0] 28))) := (Below.refl _ w).alloc (Nat.le_refl _) _
  have HN0 : Hid (namedT (l.take 0) nm.data.toList = none) := rfl
  go_enter Tryz.func26, Tryz.ntmps26
  go_wp2_with fail
  generalize w.alloc (.cells #[.string ⟨#[]⟩, .string ⟨#[]⟩, .int .i64 0, .bool false, .int .i64 0, .slice none 0 0] 28) = w0 at *
  go_loopw [10] (fun i wr => ∃ k : Nat, k ≤ n ∧ i = .int .i64 k ∧ Hid (Below w.heap.size w wr) ∧ Hid (Blk wr w.heap.size 28 (krA noKr)) ∧ Hid (namedT (l.take k) nm.data.toList = none)) (fun i wr => n - (intOf i).toNat)
  case atStart => exact ⟨0, Nat.zero_le _, rfl, HB0, HR0, HN0⟩
  case round =>
    obtain ⟨k, hk, rfl, hb, hR, hN⟩ := hrel
    have hRl : w.heap.size < wr.heap.size := hR.out.lt
    by_cases hlt : k < n
    · have b0 : (0 : Int) ≤ (k : Int) := by omega
      have b1 : (k : Int) < (n : Int) := by omega
      obtain ⟨ad, r, x, rfl, hab, hx, hr, q0, q1, q2, q3, q4, q5⟩ := (HL.out.below (hb.out.mono hB)).at_ hlt
      have z1 : (ad.add (k * 6)).block < wr.heap.size := by rw [block_addR]; omega
      have HX := Lib.hid hr
      obtain ⟨n1, n2⟩ := named_take hN.out hx
      have hq : ((str r.n).toList == nm.toList) = decide (x.n = nm.data.toList) := by
        rw [Lib.toList_data, Lib.toList_data, str_list, hr.2.1, Bool.eq_iff_iff, decide_eq_true_eq, beq_iff_eq]
      clear hr
      by_cases hxn : x.n = nm.data.toList
      · have HF := Lib.hid (n1 hxn)
        rw [decide_eq_true hxn] at hq
        clear hxn n1 n2 hx
        have HR1 : Hid (Blk (wr.alloc (.cells #[.string (str r.s), .string (str r.n), .int .i64 r.f, .bool r.l, .int .i64 r.k, .slice r.A r.m r.c] 28)) w.heap.size 28 (krA noKr)) := hR.out.alloc _
        have HB1 : Hid (Below w.heap.size w (wr.alloc (.cells #[.string (str r.s), .string (str r.n), .int .i64 r.f, .bool r.l, .int .i64 r.k, .slice r.A r.m r.c] 28))) := hb.out.alloc hb.out.size _
        have HX1 : Hid (r.is (wr.alloc (.cells #[.string (str r.s), .string (str r.n), .int .i64 r.f, .bool r.l, .int .i64 r.k, .slice r.A r.m r.c] 28)) B x) := HX.out.below (((Below.refl wr.heap.size wr).alloc (Nat.le_refl _) _).mono (by omega))
        go_wp2_with (refine wpList_store_row rfl 28 (.tmp 4) (.tmp 18) (by rfl) w.heap.size (krA r) (by rfl) (by rfl) 28 (krA noKr) HR1.out (by kernel_rfl) rfl (krA_all _) ?_)
        refine bodyPost_ret (results_cell_tmp (p := 4) (q := 5) rfl _ _ w.heap.size 28 (krA r) _ _ rfl rfl (Blk.row HR1.out _) Tryz.underlying28 rfl (by kernel_rfl)) rfl ⟨r, by rw [HF.out]; rfl, ?_, below_setRow HB1.out (Nat.le_refl _) _⟩
        rw [HF.out]
        refine (HX1.out.below (w' := (wr.alloc (.cells #[.string (str r.s), .string (str r.n), .int .i64 r.f, .bool r.l, .int .i64 r.k, .slice r.A r.m r.c] 28)).setRow w.heap.size (krA r)) (below_setRow (Below.refl _ _) hB _)).wide (by rw [size_row]; simp; omega)
      · have HF := Lib.hid (n2 hxn)
        rw [decide_eq_false hxn] at hq
        clear hxn n1 n2 hx HX
        go_wp2_with fail
        go_roundw
        case rel => exact ⟨k + 1, by omega, by go_num, hb.out.alloc hb.out.size _, hR.out.alloc _, HF⟩
        case measure => simp [intOf]; omega
    · obtain rfl : k = n := by omega
      have HF : Hid (namedT l nm.data.toList = none) := by
        have := hN.out
        rwa [List.take_of_length_le (by omega)] at this
      go_wp2_with (refine wpList_store_row rfl 28 (.tmp 4) (.tmp 20) (by rfl) w.heap.size (krA noKr) (by rfl) (by rfl) 28 (krA noKr) hR.out (by kernel_rfl) rfl (krA_all _) ?_)
      exact bodyPost_ret (results_cell_tmp (p := 4) (q := 5) rfl _ _ w.heap.size 28 (krA noKr) _ _ rfl rfl (Blk.row hR.out _) Tryz.underlying28 rfl (by kernel_rfl)) rfl ⟨noKr, by rw [HF.out]; rfl, by rw [HF.out]; exact noKr_is, below_setRow hb.out (Nat.le_refl _) _⟩
end Go.Proofs.YtadifolonbkamaaGreatDoor
namespace Go.Proofs.YtadifolonbkamaaGreatDoor
open Go.RowKit
attribute [local go_sem] Oper.semAt_some
theorem sgo_none (l w : List UInt8) (h : ∀ c ∈ l, c ≠ 32) : sgo 32 w l = [w ++ l] := by
  induction l generalizing w with
  | nil => simp [sgo]
  | cons c l ih =>
    rw [sgo, if_neg (h c (by simp)), ih _ (fun x hx => h x (by simp [hx]))]
    simp
theorem sgo_some (a b w : List UInt8) (h : ∀ c ∈ a, c ≠ 32) : sgo 32 w (a ++ 32 :: b) = (w ++ a) :: sgo 32 [] b := by
  induction a generalizing w with
  | nil => simp [sgo]
  | cons c a ih =>
    rw [List.cons_append, sgo, if_neg (h c (by simp)), ih _ (fun x hx => h x (by simp [hx]))]
    simp
def piecesS (s : ByteArray) : List ByteArray := (sgo 32 [] s.data.toList).map str
theorem pieces_none {s : ByteArray} (h : Lib.indexByte s.data.toList 32 = -1) : piecesS s = [s] := by
  have h1 := Lib.indexByte_none h
  unfold piecesS
  rw [sgo_none _ _ (fun c hc e => by
    obtain ⟨k, hk, rfl⟩ := List.getElem_of_mem hc
    exact h1 k (by rw [List.getElem?_eq_getElem hk, e]))]
  simp [str_data]
theorem pieces_some {s : ByteArray} {i : Nat} (h : Lib.indexByte s.data.toList 32 = i) : i < s.size ∧ piecesS s = s.extract 0 i :: piecesS (s.extract (i + 1) s.size) := by
  obtain ⟨h1, h2⟩ := Lib.indexByte_some h
  obtain ⟨hi, h3⟩ := List.getElem?_eq_some_iff.1 h1
  have hi' : i < s.size := by simpa using hi
  refine ⟨hi', ?_⟩
  unfold piecesS
  have e : s.data.toList = s.data.toList.take i ++ 32 :: s.data.toList.drop (i + 1) := by
    conv => lhs; rw [← List.take_append_drop i s.data.toList, List.drop_eq_getElem_cons hi, h3]
  rw [tail_list]
  conv => lhs; rw [e]
  rw [sgo_some _ _ _ (fun c hc e => by
    obtain ⟨k, hk, rfl⟩ := List.getElem_of_mem hc
    have hk' : k < i := by rw [List.length_take] at hk; omega
    refine h2 k hk' ?_
    rw [List.getElem_take] at e
    rw [List.getElem?_eq_getElem (by omega), e])]
  rw [List.map_cons, List.nil_append]
  congr 1
  refine (eq_str.2 ?_).symm
  rw [Lib.extract_data]
  simp
theorem pieces_size (l w : List UInt8) : ∀ p ∈ sgo 32 w l, p.length ≤ w.length + l.length := by
  induction l generalizing w with
  | nil => intro p hp; rw [sgo, List.mem_singleton] at hp; rw [hp]; simp
  | cons c l ih =>
    intro p hp
    rw [sgo] at hp
    split at hp
    · rcases List.mem_cons.1 hp with hp | hp
      · rw [hp]; simp
      · have := ih [] p hp; simp at this ⊢; omega
    · have := ih _ p hp; simp at this ⊢; omega
theorem piece_size {s x : ByteArray} (h : x ∈ piecesS s) : x.size ≤ s.size := by
  unfold piecesS at h
  obtain ⟨p, hp, rfl⟩ := List.mem_map.1 h
  have := pieces_size _ _ p hp
  rw [str_size]
  simpa using this
def leftOf (C : Nat) (W : World) : Nat := match W.cell? ⟨C, 0, none⟩ with | some (.string t) => t.size | _ => 0
theorem leftOf_eq {C : Nat} {W : World} {t : ByteArray} (h : W.cell? ⟨C, 0, none⟩ = some (.string t)) : leftOf C W = t.size := by unfold leftOf; rw [h]
structure SplitAt (C : Nat) (t : ByteArray) (W : World) : Prop where
  b0 : W.heap[C]? = some (.cells #[.string t] 9 (0, 0))
  b1 : W.heap[C + 1]? = some (.cells #[.string ⟨#[32]⟩] 9 (0, 0))
  b2 : W.heap[C + 2]? = some (.cells #[.int .i64 0] 3 (0, 0))
theorem SplitAt.cells {C : Nat} {t : ByteArray} {W : World} (h : SplitAt C t W) : W.cell? ⟨C, 0, none⟩ = some (.string t) ∧ W.frozen? ⟨C, 0, none⟩ = false ∧ W.cell? ⟨C + 1, 0, none⟩ = some (.string ⟨#[32]⟩) ∧ W.cell? ⟨C + 2, 0, none⟩ = some (.int .i64 0) := by
  obtain ⟨b0, b1, b2⟩ := h
  exact ⟨Boxed.cell b0, Boxed.frozen b0, Boxed.cell b1, Boxed.cell b2⟩
theorem SplitAt.kept {C : Nat} {t : ByteArray} {W W' : World} (h : SplitAt C t W) (k : Kept C (C + 3) W W') : SplitAt C t W' :=
  ⟨(k C (by omega) (by omega)).trans h.b0, (k (C + 1) (by omega) (by omega)).trans h.b1, (k (C + 2) (by omega) (by omega)).trans h.b2⟩
theorem SplitAt.below {C B : Nat} {t : ByteArray} {W W' : World} (h : SplitAt C t W) (k : Below B W W') (hB : C + 3 ≤ B) : SplitAt C t W' :=
  ⟨(k.block C (by omega)).trans h.b0, (k.block (C + 1) (by omega)).trans h.b1, (k.block (C + 2) (by omega)).trans h.b2⟩
theorem SplitAt.set_ {C : Nat} {t : ByteArray} {W : World} (h : SplitAt C t W) (u : ByteArray) : SplitAt C u (W.setCell ⟨C, 0, none⟩ (.string u)) :=
  ⟨Boxed.set _ h.b0, (Below.heap_setCell W ⟨C, 0, none⟩ _ (C + 1) (by simp)).trans h.b1, (Below.heap_setCell W ⟨C, 0, none⟩ _ (C + 2) (by simp)).trans h.b2⟩
set_option maxRecDepth 100000 in
set_option maxHeartbeats 4000000 in
theorem split_seq (n : Nat) (hn : 1 ≤ n) (C : Nat) (s : ByteArray) (hs : s.size ≤ maxLen) (w : World) (hC : C + 3 ≤ w.heap.size) (h : SplitAt C s w) :
    SeqC Fence.wide n Tryz.prog 124 #[.pointer (some ⟨C + 1, 0, none⟩), .pointer (some ⟨C, 0, none⟩), .pointer (some ⟨C + 2, 0, none⟩)] (fun x => .string x) C (C + 3) (piecesS s) w := by
  unfold maxLen at hs
  intro l J Jx W hW hJ hJx hY h0
  have h1 := h.below hW hC
  refine callsIn_of_wp Tryz.func124 rfl trivial ?_ rfl
  simp only [Tryz.ntmps124, List.size_toArray, List.length_cons, List.length_nil, Nat.reduceAdd, Nat.reduceSub, Array.replicate_succ, Array.replicate_zero, List.push_toArray, List.append_toArray, List.nil_append, List.cons_append]
  obtain ⟨c0, f0, c1, c2⟩ := h1.cells
  have H1 := Lib.hid h1
  clear h1
  gi_wp2
  gi_loopw [7] (fun v wr => ∃ (pre : List ByteArray) (rest : ByteArray), rest.size ≤ s.size ∧ Hid (piecesS s = pre ++ piecesS rest) ∧ Hid (SplitAt C rest wr) ∧ Hid (J pre wr)) (fun v wr => leftOf C wr)
  case atStart => exact ⟨[], s, Nat.le_refl _, rfl, H1, h0⟩
  case round =>
    obtain ⟨pre, rest, hle, hp, hat, hj⟩ := hrel
    obtain ⟨d0, g0, d1, d2⟩ := hat.out.cells
    have hidx := Lib.indexByte_ge rest.data.toList 32
    by_cases hix : Lib.indexByte rest.data.toList 32 = -1
    · have hps := pieces_none hix
      obtain ⟨fn, tmps, assign, body, hy, hR⟩ := hY pre rest [] wr (by rw [hp.out, hps]) hj.out
      have HX := Lib.hid hix
      have HP := Lib.hid (hp.out.trans (by rw [hps]))
      clear hix hps hidx
      gi_wp2_with (refine ⟨trivial, ?_⟩; gi_at_call 126; refine (callsIn_wide.2 (Tryz.strings_Index_one _ _ _)).mono ?_; rintro e w' ⟨rfl, rfl⟩; rw [HX.out])
      refine hR.mono ?_
      rintro e W' (⟨rfl, hJ', hk⟩ | ⟨rfl, hJx'⟩)
      · gi_wp2
        go_end0
        exact ⟨⟨_, rfl⟩, .inl (by rw [HP.out]; exact hJ')⟩
      · gi_wp2
        go_end0
        exact ⟨⟨_, rfl⟩, .inr ⟨_, ⟨[], by rw [HP.out]; simp⟩, hJx'⟩⟩
    · obtain ⟨i, hi⟩ : ∃ i : Nat, Lib.indexByte rest.data.toList 32 = i := ⟨(Lib.indexByte rest.data.toList 32).toNat, by omega⟩
      obtain ⟨hlt, hps⟩ := pieces_some hi
      obtain ⟨fn, tmps, assign, body, hy, hR⟩ := hY pre (rest.extract 0 i) (piecesS (rest.extract (i + 1) rest.size)) wr (by rw [hp.out, hps]) hj.out
      have HX := Lib.hid hi
      have HP := Lib.hid (hp.out.trans (by rw [hps]))
      clear hix hps hidx hi
      have k0 : (0 : Int) ≤ (i : Int) := by omega
      have k1 : (i : Int) ≤ (rest.size : Int) := by omega
      have k2 : (0 : Int) ≤ (i : Int) + 1 := by omega
      have k3 : (i : Int) + 1 ≤ (rest.size : Int) := by omega
      gi_wp2_with (refine ⟨trivial, ?_⟩; gi_at_call 126; refine (callsIn_wide.2 (Tryz.strings_Index_one _ _ _)).mono ?_; rintro e w' ⟨rfl, rfl⟩; rw [HX.out])
      refine hR.mono ?_
      rintro e W' (⟨rfl, hJ', hk⟩ | ⟨rfl, hJx'⟩)
      · have hat' := hat.out.kept hk
        obtain ⟨m0, m1, m2, m3⟩ := hat'.cells
        have Hset := Lib.hid (hat'.set_ (rest.extract (i + 1) rest.size))
        have HJ2 := Lib.hid (hJ _ _ _ hJ' (grownBy_setCell' W' C (.string (rest.extract (i + 1) rest.size))))
        have hsz : (rest.extract (i + 1) rest.size).size = rest.size - (i + 1) := by rw [ByteArray.size_extract]; omega
        have hl0 := leftOf_eq d0
        have hl1 := leftOf_eq Hset.out.cells.1
        rw [hsz] at hl1
        have hle2 : (rest.extract (i + 1) rest.size).size ≤ s.size := by omega
        have HL0 := Lib.hid hl0
        have HL1 := Lib.hid hl1
        clear hat' hl0 hl1 hsz hJ' hk
        gi_wp2
        go_roundw
        case rel => exact ⟨pre ++ [rest.extract 0 i], rest.extract (i + 1) rest.size, hle2, Lib.hid (by rw [HP.out]; simp), Hset, HJ2⟩
        case measure => rw [HL0.out, HL1.out]; omega
      · gi_wp2
        refine bodyPost_ret (results_none rfl _ _ _) rfl ?_
        exact ⟨⟨_, rfl⟩, .inr ⟨_, ⟨piecesS (rest.extract (i + 1) rest.size), by rw [HP.out]; simp⟩, hJx'⟩⟩
end Go.Proofs.YtadifolonbkamaaGreatDoor
