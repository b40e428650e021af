/- The walks of the developers' within and keysOf. The walks of the developers' named and Find. A law for a range over an i -/
import Derived.Test.YtadifolonbkamaaGreatDoorKcaf
import Derived.Great.BuildSlice
import Derived.Test.YtadifolonbkamaaGreatDoorKcaa
namespace Go.Proofs.YtadifolonbkamaaGreatDoor
open Go.RowKit
theorem krs_at {w : World} {g : Nat} {t : TypeId} {rs : List Kr} (h : Blk w g t (krs rs).toArray) {k : Nat} {r : Kr} (hk : rs[k]? = some r) (i : Nat) (hi : i < 6) : w.cell? ⟨g, k * 6 + i, none⟩ = (krCells r)[i]? := by
  rw [h.cell]
  rw [List.getElem?_toArray]
  exact krs_get rs k r hk i hi
theorem take_mid {α : Type} (l : List α) (f : α → α) (k : Nat) (x : α) (h : l[k]? = some x) :
    (l.take k).map f ++ l.drop k = (l.take k).map f ++ x :: l.drop (k + 1) ∧ ((l.take k).map f).length = k ∧ (l.take (k + 1)).map f ++ l.drop (k + 1) = (l.take k).map f ++ f x :: l.drop (k + 1) := by
  have hk : k < l.length := by
    rcases Nat.lt_or_ge k l.length with h' | h'
    · exact h'
    · rw [List.getElem?_eq_none h'] at h; cases h
  have hx : l[k] = x := by rw [List.getElem?_eq_getElem hk] at h; exact Option.some.inj h
  refine ⟨by rw [List.drop_eq_getElem_cons hk, hx], by simp; omega, ?_⟩
  rw [List.take_succ_eq_append_getElem hk, hx, List.map_append, List.append_assoc]
  rfl
theorem Kr.is.into {w w' : World} {B : Nat} {r : Kr} {x : Ky} (h : r.is w B x) (hb : Below B w w') (s : List UInt8) (k : Int) : (r.into s k).is w' B (x.into s k) :=
  ⟨rfl, h.2.1, h.2.2.1, h.2.2.2.1, rfl, h.2.2.2.2.2.below hb⟩
theorem KrsAre.into {w w' : World} {B : Nat} {rs : List Kr} {l : List Ky} (h : KrsAre w B rs l) (hb : Below B w w') (s : List UInt8) (k : Int) : KrsAre w' B (rs.map (Kr.into s k)) (l.map (Ky.into s k)) := by
  refine ⟨by simp [h.1], fun j r x hr hx => ?_⟩
  rw [List.getElem?_map] at hr hx
  obtain ⟨r', hr', rfl⟩ := Option.map_eq_some_iff.1 hr
  obtain ⟨x', hx', rfl⟩ := Option.map_eq_some_iff.1 hx
  exact (h.2 j r' x' hr' hx').into hb s k
set_option maxHeartbeats 4000000 in
theorem within_any (s : ByteArray) (k : Int) (g n : Nat) (rs : List Kr) (hn : rs.length = n) (hm : n ≤ 1000) (w : World) (h : Blk w g 28 (krs rs).toArray) :
    Calls Tryz.prog 41 #[.string s, .int .i64 k, .slice (some ⟨g, 0, none⟩) n n] w fun e w' => e = .returned (.slice (some ⟨g, 0, none⟩) n n) ∧
      Blk w' g 28 (krs (rs.map (Kr.into s.data.toList k))).toArray ∧ w.grownBy w' (some g) := by
  have H0 := Lib.hid h
  have hgl : g < w.heap.size := h.lt
  clear h
  go_enter Tryz.func41, Tryz.ntmps41
  go_wp2_with fail
  go_loopw [10] (fun i wr => ∃ m : Nat, m ≤ n ∧ i = .int .i64 m ∧ Hid (Blk wr g 28 (krs ((rs.take m).map (Kr.into s.data.toList k) ++ rs.drop m)).toArray) ∧ Hid (w.grownBy wr (some g))) (fun i wr => n - (intOf i).toNat)
  case atStart => exact ⟨0, Nat.zero_le _, rfl, by simpa using H0, ⟨rfl, rfl, rfl, Nat.le_refl _, fun _ _ _ => rfl⟩⟩
  case round =>
    obtain ⟨m, hmn, rfl, HB, HG⟩ := hrel
    by_cases hlt : m < n
    · have b0 : (0 : Int) ≤ (m : Int) := by omega
      have b1 : (m : Int) < (n : Int) := by omega
      have hr : rs[m]? = some (rs[m]'(by omega)) := List.getElem?_eq_getElem (by omega)
      generalize rs[m]'(by omega) = r at hr
      obtain ⟨e1, e2, e3⟩ := take_mid rs (Kr.into s.data.toList k) m r hr
      have HB1 : Hid (Blk wr g 28 (krs ((rs.take m).map (Kr.into s.data.toList k) ++ r :: rs.drop (m + 1))).toArray) := by rw [← e1]; exact HB
      have hr1 : ((rs.take m).map (Kr.into s.data.toList k) ++ r :: rs.drop (m + 1))[m]? = some r := by
        rw [List.getElem?_append_right (by omega), e2, Nat.sub_self]; rfl
      have HB2 : Hid (Blk (wr.setCell ⟨g, m * 6, none⟩ (.string s)) g 28 (krs ((rs.take m).map (Kr.into s.data.toList k) ++ { r with s := s.data.toList } :: rs.drop (m + 1))).toArray) := by
        have := HB1.out.setCell (m * 6) (.string s)
        have hz := krs_set0 ((rs.take m).map (Kr.into s.data.toList k)) (rs.drop (m + 1)) r s.data.toList
        rw [e2, str_data] at hz
        rw [hz] at this
        exact this
      have HB3 : Hid (Blk ((wr.setCell ⟨g, m * 6, none⟩ (.string s)).setCell ⟨g, m * 6 + 4, none⟩ (.int .i64 k)) g 28 (krs ((rs.take (m + 1)).map (Kr.into s.data.toList k) ++ rs.drop (m + 1))).toArray) := by
        have := HB2.out.setCell (m * 6 + 4) (.int .i64 k)
        have hz := krs_set4 ((rs.take m).map (Kr.into s.data.toList k)) (rs.drop (m + 1)) { r with s := s.data.toList } k
        rw [e2] at hz
        rw [hz] at this
        rw [e3]
        exact this
      have hr2 : ((rs.take m).map (Kr.into s.data.toList k) ++ { r with s := s.data.toList } :: rs.drop (m + 1))[m]? = some { r with s := s.data.toList } := by
        rw [List.getElem?_append_right (by omega), e2, Nat.sub_self]; rfl
      have c0 : wr.cell? ⟨g, m * 6, none⟩ = some (.string (str r.s)) := krs_at HB1.out hr1 0 (by omega)
      have f0 : wr.frozen? ⟨g, m * 6, none⟩ = false := HB1.out.frozen _
      have c4 : (wr.setCell ⟨g, m * 6, none⟩ (.string s)).cell? ⟨g, m * 6 + 4, none⟩ = some (.int .i64 r.k) := krs_at HB2.out hr2 4 (by omega)
      have f4 : (wr.setCell ⟨g, m * 6, none⟩ (.string s)).frozen? ⟨g, m * 6 + 4, none⟩ = false := HB2.out.frozen _
      have HG3 : Hid (w.grownBy ((wr.setCell ⟨g, m * 6, none⟩ (.string s)).setCell ⟨g, m * 6 + 4, none⟩ (.int .i64 k)) (some g)) := only_setCell (only_setCell HG.out (.inl rfl) _) (.inl rfl) _
      clear e1 e2 e3 hr hr1 hr2 HB HB1
      go_wp2_with fail
      go_roundw
      case rel => exact ⟨m + 1, by omega, by go_num, HB3, HG3⟩
      case measure => simp [intOf]; omega
    · obtain rfl : m = n := by omega
      have HE : Hid (Blk wr g 28 (krs (rs.map (Kr.into s.data.toList k))).toArray) := by
        have := HB.out
        rw [List.take_of_length_le (by omega), List.drop_of_length_le (by omega), List.append_nil] at this
        exact this
      go_wp2_with fail
      go_ret
      exact ⟨rfl, HE.out, HG.out⟩
def KeysOfP (s : List UInt8) (w : World) (e : Ending) (w' : World) : Prop :=
  ∃ A c, e = .returned (.slice A (keysT s).length c) ∧ KysAt w' w'.heap.size A (keysT s).length (keysT s) ∧ Below w.heap.size w w'
theorem KeysOfP.tab {s : List UInt8} {l : List Ky} {k : Int} {w w1 w2 : World} {e1 : Ending} (h : keysT s = l.map (Ky.into s k)) {g : Nat} {rs : List Kr} (hl : l.length ≤ 1000) (hg : w.heap.size ≤ g) (ha : KrsAre w1 g rs l) (hb : Below w.heap.size w w1) (hz : g < w1.heap.size)
    (h2 : Blk w2 g 28 (krs (rs.map (Kr.into s k))).toArray) (h3 : w1.grownBy w2 (some g)) (he : e1 = .returned (.slice (some ⟨g, 0, none⟩) l.length l.length)) : KeysOfP s w e1 w2 := by
  have hlen : (keysT s).length = l.length := by rw [h, List.length_map]
  have hbg : Below g w1 w2 := ⟨h3.os, h3.tape, h3.output, h3.size, fun i hi => h3.block i (by omega) (by intro e; injection e with e; omega)⟩
  have ha2 : KrsAre w2 w2.heap.size (rs.map (Kr.into s k)) (l.map (Ky.into s k)) := (ha.into hbg s k).wide (by have := h2.lt; omega)
  refine ⟨some ⟨g, 0, none⟩, l.length, by rw [he, hlen], ?_, hb.trans (hbg.mono hg)⟩
  rw [hlen, h]
  exact KysAt.of_blk h2 (by rw [List.length_map]) (by unfold maxLen; omega) ha2
theorem eq_lit (s : ByteArray) (l : List UInt8) : (s.toList == l) = decide (s.data.toList = l) := by
  rw [Lib.toList_data, Bool.eq_iff_iff, decide_eq_true_eq, beq_iff_eq]
theorem KeysOfP.none_ {s : List UInt8} {w : World} (h : keysT s = []) : KeysOfP s w (.returned (.slice none 0 0)) w := by
  refine ⟨none, 0, by rw [h]; rfl, by rw [h]; exact KysAt.none_, Below.refl _ _⟩
theorem keysT_Unit : keysT nUnit = tUnit.map (Ky.into nUnit 30) := by decide +kernel
set_option maxHeartbeats 4000000 in
theorem keysOf_Unit (s : ByteArray) (hs : s.data.toList = nUnit) (w : World) : Calls Tryz.prog 22 #[.string s] w (KeysOfP s.data.toList w) := by
  have q0 : (s.toList == ([85, 110, 105, 116] : List UInt8)) = true := (eq_lit s nUnit).trans (by rw [hs]; decide)
  have hk := keysT_Unit
  rw [← hs] at hk
  have HK := Lib.hid hk
  clear hk hs
  go_enter Tryz.func22, Tryz.ntmps22
  go_wp2_with fail
  refine (unitKeys_any _).mono ?_
  rintro e1 w1 ⟨g, rs, rfl, hg, hblk, hare, hb⟩
  have HA := Lib.hid hare
  have HB := Lib.hid hb
  have hz : g < w1.heap.size := hblk.lt
  clear hare hb
  have hl : rs.length = tUnit.length := HA.out.1
  go_wp2_with fail
  refine (within_any s 30 g tUnit.length rs hl (by decide) _ hblk).mono ?_
  rintro e2 w2 ⟨rfl, h2, h3⟩
  go_wp2_with fail
  go_ret
  exact KeysOfP.tab (l := tUnit) HK.out (by decide) hg HA.out HB.out hz h2 h3 rfl
theorem keysT_Serv : keysT nServ = tServ.map (Ky.into nServ 2) := by decide +kernel
set_option maxHeartbeats 4000000 in
theorem keysOf_Serv (s : ByteArray) (hs : s.data.toList = nServ) (w : World) : Calls Tryz.prog 22 #[.string s] w (KeysOfP s.data.toList w) := by
  have q0 : (s.toList == ([85, 110, 105, 116] : List UInt8)) = false := (eq_lit s nUnit).trans (by rw [hs]; decide)
  have q1 : (s.toList == ([83, 101, 114, 118, 105, 99, 101] : List UInt8)) = true := (eq_lit s nServ).trans (by rw [hs]; decide)
  have hk := keysT_Serv
  rw [← hs] at hk
  have HK := Lib.hid hk
  clear hk hs
  go_enter Tryz.func22, Tryz.ntmps22
  go_wp2_with fail
  refine (serviceKeys_any _).mono ?_
  rintro e1 w1 ⟨g, rs, rfl, hg, hblk, hare, hb⟩
  have HA := Lib.hid hare
  have HB := Lib.hid hb
  have hz : g < w1.heap.size := hblk.lt
  clear hare hb
  have hl : rs.length = tServ.length := HA.out.1
  go_wp2_with fail
  refine (within_any s 2 g tServ.length rs hl (by decide) _ hblk).mono ?_
  rintro e2 w2 ⟨rfl, h2, h3⟩
  go_wp2_with fail
  go_ret
  exact KeysOfP.tab (l := tServ) HK.out (by decide) hg HA.out HB.out hz h2 h3 rfl
theorem keysT_Sock : keysT nSock = tSock.map (Ky.into nSock 4) := by decide +kernel
set_option maxHeartbeats 4000000 in
theorem keysOf_Sock (s : ByteArray) (hs : s.data.toList = nSock) (w : World) : Calls Tryz.prog 22 #[.string s] w (KeysOfP s.data.toList w) := by
  have q0 : (s.toList == ([85, 110, 105, 116] : List UInt8)) = false := (eq_lit s nUnit).trans (by rw [hs]; decide)
  have q1 : (s.toList == ([83, 101, 114, 118, 105, 99, 101] : List UInt8)) = false := (eq_lit s nServ).trans (by rw [hs]; decide)
  have q2 : (s.toList == ([83, 111, 99, 107, 101, 116] : List UInt8)) = true := (eq_lit s nSock).trans (by rw [hs]; decide)
  have hk := keysT_Sock
  rw [← hs] at hk
  have HK := Lib.hid hk
  clear hk hs
  go_enter Tryz.func22, Tryz.ntmps22
  go_wp2_with fail
  refine (socketKeys_any _).mono ?_
  rintro e1 w1 ⟨g, rs, rfl, hg, hblk, hare, hb⟩
  have HA := Lib.hid hare
  have HB := Lib.hid hb
  have hz : g < w1.heap.size := hblk.lt
  clear hare hb
  have hl : rs.length = tSock.length := HA.out.1
  go_wp2_with fail
  refine (within_any s 4 g tSock.length rs hl (by decide) _ hblk).mono ?_
  rintro e2 w2 ⟨rfl, h2, h3⟩
  go_wp2_with fail
  go_ret
  exact KeysOfP.tab (l := tSock) HK.out (by decide) hg HA.out HB.out hz h2 h3 rfl
theorem keysT_Time : keysT nTime = tTime.map (Ky.into nTime 8) := by decide +kernel
set_option maxHeartbeats 4000000 in
theorem keysOf_Time (s : ByteArray) (hs : s.data.toList = nTime) (w : World) : Calls Tryz.prog 22 #[.string s] w (KeysOfP s.data.toList w) := by
  have q0 : (s.toList == ([85, 110, 105, 116] : List UInt8)) = false := (eq_lit s nUnit).trans (by rw [hs]; decide)
  have q1 : (s.toList == ([83, 101, 114, 118, 105, 99, 101] : List UInt8)) = false := (eq_lit s nServ).trans (by rw [hs]; decide)
  have q2 : (s.toList == ([83, 111, 99, 107, 101, 116] : List UInt8)) = false := (eq_lit s nSock).trans (by rw [hs]; decide)
  have q3 : (s.toList == ([84, 105, 109, 101, 114] : List UInt8)) = true := (eq_lit s nTime).trans (by rw [hs]; decide)
  have hk := keysT_Time
  rw [← hs] at hk
  have HK := Lib.hid hk
  clear hk hs
  go_enter Tryz.func22, Tryz.ntmps22
  go_wp2_with fail
  refine (timerKeys_any _).mono ?_
  rintro e1 w1 ⟨g, rs, rfl, hg, hblk, hare, hb⟩
  have HA := Lib.hid hare
  have HB := Lib.hid hb
  have hz : g < w1.heap.size := hblk.lt
  clear hare hb
  have hl : rs.length = tTime.length := HA.out.1
  go_wp2_with fail
  refine (within_any s 8 g tTime.length rs hl (by decide) _ hblk).mono ?_
  rintro e2 w2 ⟨rfl, h2, h3⟩
  go_wp2_with fail
  go_ret
  exact KeysOfP.tab (l := tTime) HK.out (by decide) hg HA.out HB.out hz h2 h3 rfl
theorem keysT_Inst : keysT nInst = tInst.map (Ky.into nInst 30) := by decide +kernel
set_option maxHeartbeats 4000000 in
theorem keysOf_Inst (s : ByteArray) (hs : s.data.toList = nInst) (w : World) : Calls Tryz.prog 22 #[.string s] w (KeysOfP s.data.toList w) := by
  have q0 : (s.toList == ([85, 110, 105, 116] : List UInt8)) = false := (eq_lit s nUnit).trans (by rw [hs]; decide)
  have q1 : (s.toList == ([83, 101, 114, 118, 105, 99, 101] : List UInt8)) = false := (eq_lit s nServ).trans (by rw [hs]; decide)
  have q2 : (s.toList == ([83, 111, 99, 107, 101, 116] : List UInt8)) = false := (eq_lit s nSock).trans (by rw [hs]; decide)
  have q3 : (s.toList == ([84, 105, 109, 101, 114] : List UInt8)) = false := (eq_lit s nTime).trans (by rw [hs]; decide)
  have q4 : (s.toList == ([73, 110, 115, 116, 97, 108, 108] : List UInt8)) = true := (eq_lit s nInst).trans (by rw [hs]; decide)
  have hk := keysT_Inst
  rw [← hs] at hk
  have HK := Lib.hid hk
  clear hk hs
  go_enter Tryz.func22, Tryz.ntmps22
  go_wp2_with fail
  refine (installKeys_any _).mono ?_
  rintro e1 w1 ⟨g, rs, rfl, hg, hblk, hare, hb⟩
  have HA := Lib.hid hare
  have HB := Lib.hid hb
  have hz : g < w1.heap.size := hblk.lt
  clear hare hb
  have hl : rs.length = tInst.length := HA.out.1
  go_wp2_with fail
  refine (within_any s 30 g tInst.length rs hl (by decide) _ hblk).mono ?_
  rintro e2 w2 ⟨rfl, h2, h3⟩
  go_wp2_with fail
  go_ret
  exact KeysOfP.tab (l := tInst) HK.out (by decide) hg HA.out HB.out hz h2 h3 rfl
set_option maxHeartbeats 4000000 in
theorem keysOf_any (s : ByteArray) (w : World) : Calls Tryz.prog 22 #[.string s] w (KeysOfP s.data.toList w) := by
  by_cases h0 : s.data.toList = nUnit
  · exact keysOf_Unit s h0 w
  by_cases h1 : s.data.toList = nServ
  · exact keysOf_Serv s h1 w
  by_cases h2 : s.data.toList = nSock
  · exact keysOf_Sock s h2 w
  by_cases h3 : s.data.toList = nTime
  · exact keysOf_Time s h3 w
  by_cases h4 : s.data.toList = nInst
  · exact keysOf_Inst s h4 w
  have HK : Hid (keysT s.data.toList = []) := by show _ = _; unfold keysT; rw [if_neg h0, if_neg h1, if_neg h2, if_neg h3, if_neg h4]
  have q0 : (s.toList == ([85, 110, 105, 116] : List UInt8)) = false := (eq_lit s nUnit).trans (by simpa using h0)
  have q1 : (s.toList == ([83, 101, 114, 118, 105, 99, 101] : List UInt8)) = false := (eq_lit s nServ).trans (by simpa using h1)
  have q2 : (s.toList == ([83, 111, 99, 107, 101, 116] : List UInt8)) = false := (eq_lit s nSock).trans (by simpa using h2)
  have q3 : (s.toList == ([84, 105, 109, 101, 114] : List UInt8)) = false := (eq_lit s nTime).trans (by simpa using h3)
  have q4 : (s.toList == ([73, 110, 115, 116, 97, 108, 108] : List UInt8)) = false := (eq_lit s nInst).trans (by simpa using h4)
  clear h0 h1 h2 h3 h4
  go_enter Tryz.func22, Tryz.ntmps22
  go_wp2_with fail
  go_ret
  exact KeysOfP.none_ HK.out
end Go.Proofs.YtadifolonbkamaaGreatDoor
namespace Go.Proofs.YtadifolonbkamaaGreatDoor
open Go.RowKit
theorem Blk.row {w : World} {g : Nat} {t : TypeId} {cs : Array Value} (h : Blk w g t cs) (cs' : Array Value) : Blk (w.setRow g cs') g t cs' := setRow_heap w g cs cs' t (0, 0) h
theorem heap_row_other (w : World) (F : Nat) (cs : Array Value) (i : Nat) (h : i ≠ F) : (w.setRow F cs).heap[i]? = w.heap[i]? := by
  unfold World.setRow
  simp only [Array.getElem?_modify]
  rw [if_neg (Ne.symm h)]
theorem size_row (w : World) (F : Nat) (cs : Array Value) : (w.setRow F cs).heap.size = w.heap.size := by simp [World.setRow]
theorem below_setRow {B : Nat} {a w : World} (h : Below B a w) {g : Nat} (hg : B ≤ g) (cs : Array Value) : Below B a (w.setRow g cs) :=
  ⟨h.os, h.tape, h.output, by rw [size_row]; exact h.size, fun i hi => by rw [heap_row_other w g cs i (by omega)]; exact h.block i hi⟩
theorem results_cell_tmp {P : Program} {fn : Func} {p q : Tmp} {ty : TypeId} (h : fn.results = #[.cell p ty, .tmp q]) (tmps : Array Value) (w : World) (g : Nat) (t : TypeId) (cs : Array Value) (d : TypeDesc) (v : Value)
    (hp : tmps.getD p undef = .pointer (some ⟨g, 0, none⟩)) (hv : tmps.getD q undef = v) (hg : w.heap[g]? = some (.cells cs t (0, 0)))
    (hu : P.underlying ty = some d) (hd : (match d with | .struct _ | .array _ _ => true | _ => false) = true) (hi : (P.info? ty).map (·.size) = some cs.size) :
    (results fn tmps).run P w = .ok (.tuple #[.agg cs, v]) w := by
  have hp' : tmps[p]?.getD undef = .pointer (some ⟨g, 0, none⟩) := by simpa using hp
  have hv' : tmps[q]?.getD undef = v := by simpa using hv
  simp [results, h, hp', hv', asAddr, run_loadVar_row w g t ty cs (0, 0) d hg hu hd hi]
def krA (r : Kr) : Array Value := #[.string (str r.s), .string (str r.n), .int .i64 r.f, .bool r.l, .int .i64 r.k, .slice r.A r.m r.c]
theorem krA_all (r : Kr) : (krA r).all (·.oneCell') = true := by simp [krA, Value.oneCell']
def noKr : Kr := noKy.raw
theorem noKr_is {w : World} {B : Nat} : noKr.is w B noKy := ⟨rfl, rfl, rfl, rfl, rfl, RowS.none_⟩
def NamedP (o : Option Ky) (w : World) (e : Ending) (w' : World) : Prop :=
  ∃ r : Kr, e = .returned (.tuple #[.agg (krA r), .bool o.isSome]) ∧ r.is w' w'.heap.size (o.getD noKy) ∧ Below w.heap.size w w'
theorem named_take {l : List Ky} {n : List UInt8} {k : Nat} {x : Ky} (h : namedT (l.take k) n = none) (hx : l[k]? = some x) : (x.n = n → namedT l n = some x) ∧ (¬ x.n = n → namedT (l.take (k + 1)) n = none) := by
  have hk : k < l.length := by
    rcases Nat.lt_or_ge k l.length with h' | h'
    · exact h'
    · rw [List.getElem?_eq_none h'] at hx; cases hx
  have he : l[k] = x := by rw [List.getElem?_eq_getElem hk] at hx; exact Option.some.inj hx
  unfold namedT at *
  constructor
  · intro e
    conv => lhs; rw [← List.take_append_drop k l]
    rw [List.find?_append, h, List.drop_eq_getElem_cons hk, he, List.find?_cons]
    simp [e]
  · intro e
    rw [List.take_succ_eq_append_getElem hk, he, List.find?_append, h]
    simp [e]
set_option maxHeartbeats 8000000 in
theorem named_any (A : Option Addr) (n c B : Nat) (l : List Ky) (nm : ByteArray) (w : World) (h : KysAt w B A n l) (hB : B ≤ w.heap.size) :
    Calls Tryz.prog 26 #[.slice A n c, .string nm] w (NamedP (namedT l nm.data.toList) w) := by
  have hm := h.2.1
  unfold maxLen at hm
  have hl := h.1
  have HL := Lib.hid h
  clear h
  have HR0 : Hid (Blk (w.alloc (.cells #[.string ⟨#[]⟩, .string ⟨#[]⟩, .int .i64 0, .bool false, .int .i64 0, .slice none 0 0] 28)) w.heap.size 28 (krA noKr)) := Blk.new w _ _
  have HB0 : Hid (Below w.heap.size w (w.alloc (.cells #[.string ⟨#[]⟩, .string ⟨#[]⟩, .int .i64 0, .bool false, .int .i64 0, .slice none 0 0] 28))) := (Below.refl _ w).alloc (Nat.le_refl _) _
  have HN0 : Hid (namedT (l.take 0) nm.data.toList = none) := rfl
  go_enter Tryz.func26, Tryz.ntmps26
  go_wp2_with fail
  generalize w.alloc (.cells #[.string ⟨#[]⟩, .string ⟨#[]⟩, .int .i64 0, .bool false, .int .i64 0, .slice none 0 0] 28) = w0 at *
  go_loopw [10] (fun i wr => ∃ k : Nat, k ≤ n ∧ i = .int .i64 k ∧ Hid (Below w.heap.size w wr) ∧ Hid (Blk wr w.heap.size 28 (krA noKr)) ∧ Hid (namedT (l.take k) nm.data.toList = none)) (fun i wr => n - (intOf i).toNat)
  case atStart => exact ⟨0, Nat.zero_le _, rfl, HB0, HR0, HN0⟩
  case round =>
    obtain ⟨k, hk, rfl, hb, hR, hN⟩ := hrel
    have hRl : w.heap.size < wr.heap.size := hR.out.lt
    by_cases hlt : k < n
    · have b0 : (0 : Int) ≤ (k : Int) := by omega
      have b1 : (k : Int) < (n : Int) := by omega
      obtain ⟨ad, r, x, rfl, hab, hx, hr, q0, q1, q2, q3, q4, q5⟩ := (HL.out.below (hb.out.mono hB)).at_ hlt
      have z1 : (ad.add (k * 6)).block < wr.heap.size := by rw [block_addR]; omega
      have HX := Lib.hid hr
      obtain ⟨n1, n2⟩ := named_take hN.out hx
      have hq : ((str r.n).toList == nm.toList) = decide (x.n = nm.data.toList) := by
        rw [Lib.toList_data, Lib.toList_data, str_list, hr.2.1, Bool.eq_iff_iff, decide_eq_true_eq, beq_iff_eq]
      clear hr
      by_cases hxn : x.n = nm.data.toList
      · have HF := Lib.hid (n1 hxn)
        rw [decide_eq_true hxn] at hq
        clear hxn n1 n2 hx
        have HR1 : Hid (Blk (wr.alloc (.cells #[.string (str r.s), .string (str r.n), .int .i64 r.f, .bool r.l, .int .i64 r.k, .slice r.A r.m r.c] 28)) w.heap.size 28 (krA noKr)) := hR.out.alloc _
        have HB1 : Hid (Below w.heap.size w (wr.alloc (.cells #[.string (str r.s), .string (str r.n), .int .i64 r.f, .bool r.l, .int .i64 r.k, .slice r.A r.m r.c] 28))) := hb.out.alloc hb.out.size _
        have HX1 : Hid (r.is (wr.alloc (.cells #[.string (str r.s), .string (str r.n), .int .i64 r.f, .bool r.l, .int .i64 r.k, .slice r.A r.m r.c] 28)) B x) := HX.out.below (((Below.refl wr.heap.size wr).alloc (Nat.le_refl _) _).mono (by omega))
        go_wp2_with (refine wpList_store_row rfl 28 (.tmp 4) (.tmp 18) (by rfl) w.heap.size (krA r) (by rfl) (by rfl) 28 (krA noKr) HR1.out (by kernel_rfl) rfl (krA_all _) ?_)
        refine bodyPost_ret (results_cell_tmp (p := 4) (q := 5) rfl _ _ w.heap.size 28 (krA r) _ _ rfl rfl (Blk.row HR1.out _) Tryz.underlying28 rfl (by kernel_rfl)) rfl ⟨r, by rw [HF.out]; rfl, ?_, below_setRow HB1.out (Nat.le_refl _) _⟩
        rw [HF.out]
        refine (HX1.out.below (w' := (wr.alloc (.cells #[.string (str r.s), .string (str r.n), .int .i64 r.f, .bool r.l, .int .i64 r.k, .slice r.A r.m r.c] 28)).setRow w.heap.size (krA r)) (below_setRow (Below.refl _ _) hB _)).wide (by rw [size_row]; simp; omega)
      · have HF := Lib.hid (n2 hxn)
        rw [decide_eq_false hxn] at hq
        clear hxn n1 n2 hx HX
        go_wp2_with fail
        go_roundw
        case rel => exact ⟨k + 1, by omega, by go_num, hb.out.alloc hb.out.size _, hR.out.alloc _, HF⟩
        case measure => simp [intOf]; omega
    · obtain rfl : k = n := by omega
      have HF : Hid (namedT l nm.data.toList = none) := by
        have := hN.out
        rwa [List.take_of_length_le (by omega)] at this
      go_wp2_with (refine wpList_store_row rfl 28 (.tmp 4) (.tmp 20) (by rfl) w.heap.size (krA noKr) (by rfl) (by rfl) 28 (krA noKr) hR.out (by kernel_rfl) rfl (krA_all _) ?_)
      exact bodyPost_ret (results_cell_tmp (p := 4) (q := 5) rfl _ _ w.heap.size 28 (krA noKr) _ _ rfl rfl (Blk.row hR.out _) Tryz.underlying28 rfl (by kernel_rfl)) rfl ⟨noKr, by rw [HF.out]; rfl, by rw [HF.out]; exact noKr_is, below_setRow hb.out (Nat.le_refl _) _⟩
end Go.Proofs.YtadifolonbkamaaGreatDoor
namespace Go.Proofs.YtadifolonbkamaaGreatDoor
open Go.RowKit
variable {F : Fence} {n : Nat} {P : Program}
def Stand (C D l : Nat) (W W' : World) : Prop := Kept C D W W' ∧ Kept (l - 1) (l + 1) W W'
def Turn (C : Nat) (X Y : World) : Prop := ∃ k, (k = C ∨ C ≤ k ∧ ∃ y, X.heap[k]? = some (.loop y)) ∧ X.grownBy Y (some k)
theorem turn_put {C : Nat} {X : World} {l : Nat} {y : Loop} (hl : C ≤ l) (h : X.heap[l]? = some (.loop y)) (o : Obj) : Turn C X (X.putObj l o) :=
  ⟨l, .inr ⟨hl, y, h⟩, ⟨rfl, rfl, rfl, by simp, fun k _ hne => World.putObj_heap_other (fun e => hne (by rw [e]))⟩⟩
def bodyD {α : Type} (C D l : Nat) (I : List α → World → Prop) (Ix : Code → List α → World → Prop) (xs : List α) (W : World) : Exit → Act → World → Prop
  | .normal, _, W' => Stand C D l W W' ∧ I xs W'
  | .ret, _, W' => Stand C D l W W' ∧ Ix .ret xs W'
  | .exit id, _, W' => Stand C D l W W' ∧ Ix (.exit id) xs W'
  | .goto t, _, W' => Stand C D l W W' ∧ Ix (.goto t) xs W'
  | .panic _, _, _ => False
  | .outgrown, _, _ => False
theorem range_boxD {α : Type} {g : Operand} {p : Tmp} {assign body : Code} {Q : Exit → Act → World → Prop} {a : Act} {w : World}
    (hro : F.round = none) (h1 : 1 ≤ n) {gf : Nat} {lb : Array Value} (hg : a.eval g = .func (.func gf) #[] lb) (hFg : F.fn gf) (eg : ∀ args w, (callFunc gf args).run P w = .ok (.enter gf args) w)
    {enc : α → Value} {C D : Nat} {xs0 : List α} (hC : C < D) (hD : D ≤ w.heap.size) (hseq : SeqC F (n - 1) P gf lb enc C D xs0 w)
    (I : List α → World → Prop) (Ix : Code → List α → World → Prop) (hI0 : ∀ s X Y, I s X → Below X.heap.size X Y → I s Y) (hI : ∀ s X Y, Turn C X Y → I s X → I s Y) (hIx : ∀ c s X Y, Turn C X Y → Ix c s X → Ix c s Y) (h0 : I [] w) (a₁ : α → Act)
    (hassign : ∀ (l : Nat) (x : α) (W : World) (K : Act → World → Prop), K (a₁ x) W →
      assign.wpIn (F.inRound l) (n - 1 - 1) P (Exit.then K (fun _ _ _ => False)) { tmps := a.tmps.setIfInBounds p (enc x), defers := [] } W)
    (hbody : ∀ (l : Nat) (pre : List α) (x : α) (post : List α) (W : World), xs0 = pre ++ x :: post → I pre W → D ≤ W.heap.size → D + 1 ≤ l → (∃ y, W.heap[l]? = some (.loop y)) → W.heap[l - 1]? = some (.deferred (some [])) → body.wpIn (F.inRound l) (n - 1 - 1) P (bodyD C D l I Ix (pre ++ [x]) W) (a₁ x) W)
    (hdone : ∀ (M : Nat) (W : World), D ≤ M → I xs0 W → W.heap[M]? = some (.deferred (some [])) → Q .normal { a with defers := { target := .collected M, args := #[] } :: a.defers } W)
    (hstop : ∀ (M : Nat) (c : Code) (pre : List α) (W : World), D ≤ M → pre <+: xs0 → Ix c pre W → W.heap[M]? = some (.deferred (some [])) → c.wpIn F n P Q { a with defers := { target := .collected M, args := #[] } :: a.defers } W) :
    (Code.rangeFunc g #[p] assign body).wpIn F n P Q a w := by
  refine wpIn_rangeFunc fun fn hfn => ?_
  rw [hro]
  let M := w.heap.size
  let rec_ : LoopState → Option Code → Loop := fun st pe => { state := st, pending := pe, fn, tmps := a.tmps, params := #[p], assign, body, defers := M }
  let W1 := (w.alloc (.deferred (some []))).alloc (.loop (rec_ .ready none))
  have q0 : W1.heap.size = M + 1 + 1 := by simp [W1, M]
  have qM : W1.heap[M]? = some (.deferred (some [])) := (Below.heap_alloc _ _ _ (by simp [M])).trans (World.alloc_heap_new w _)
  have qL : W1.heap[M + 1]? = some (.loop (rec_ .ready none)) := by
    have := World.alloc_heap_new (w.alloc (.deferred (some []))) (.loop (rec_ .ready none))
    rwa [World.size_alloc] at this
  have qb : Below w.heap.size w W1 := ((Below.refl _ w).alloc (Nat.le_refl _) _).alloc (by simp) _
  refine ⟨M + 1, [{ target := .collected M, args := #[] }], W1, { target := .fn (.func gf) lb, args := #[.func (.yield (M + 1)) #[] #[]] }, W1, gf,
    #[.func (.yield (M + 1)) #[] #[]] ++ lb, W1, run_enterLoop_outer _ _ _ _ _, ?_, ?_, ?_, fun _ => h1, ?_⟩
  · simp only [resolve, hg]; simp [go_sem]
  · intro f' hf'; simp [Target.leads] at hf'; subst hf'; exact hFg
  · simp [invoke, go_sem, eg]
  have far : ∀ (X Y : World) (i : Nat) (o : Obj), X.heap[i]? = some o → X.grownBy Y (some C) → C < i → Y.heap[i]? = some o := fun X Y i o hx hy hi =>
    (hy.block i (Array.getElem?_eq_some_iff.1 hx).1 (fun e => by injection e with e; omega)).trans hx
  refine (hseq (M + 1)
    (fun pre W => I pre W ∧ W.heap[M + 1]? = some (.loop (rec_ .ready none)) ∧ W.heap[M]? = some (.deferred (some [])))
    (fun pre W => ∃ c, Ix c pre W ∧ W.heap[M + 1]? = some (.loop (rec_ .done (some c))) ∧ W.heap[M]? = some (.deferred (some [])))
    W1 qb
    (by rintro s X Y ⟨a1, a2, a3⟩ hy; exact ⟨hI s X Y ⟨C, .inl rfl, hy⟩ a1, far X Y _ _ a2 hy (by omega), far X Y _ _ a3 hy (by omega)⟩)
    (by rintro s X Y ⟨c, a1, a2, a3⟩ hy; exact ⟨c, hIx c s X Y ⟨C, .inl rfl, hy⟩ a1, far X Y _ _ a2 hy (by omega), far X Y _ _ a3 hy (by omega)⟩)
    ?_ ⟨hI0 _ _ _ h0 qb, qL, qM⟩).mono ?_
  · rintro pre x post W hxs ⟨hi, hl, hk⟩
    have hlt : M + 1 < W.heap.size := (Array.getElem?_eq_some_iff.1 hl).1
    let W2 := W.putObj (M + 1) (.loop { rec_ .ready none with state := .busy })
    have hl2 : W2.heap[M + 1]? = some (.loop { rec_ .ready none with state := .busy }) := World.putObj_heap_same hlt
    have hk2 : W2.heap[M]? = some (.deferred (some [])) := (World.putObj_heap_other (by omega)).trans hk
    have hz2 : W2.heap.size = W.heap.size := by simp [W2]
    have hy := run_yield (P := P) (args := #[enc x]) hl rfl
    refine ⟨fn, a.tmps.setIfInBounds p (enc x), assign, body, hy.trans (by simp [rec_]), roundIn_of_wpIn hfn ?_⟩
    refine hassign _ x W _ ?_
    refine ⟨W2, run_beginRound hl rfl, ?_⟩
    refine wpIn_mono (hbody _ pre x post W2 hxs (hI _ _ _ (turn_put (by omega) hl _) hi) (by omega) (by omega) ⟨_, hl2⟩ (by rw [Nat.add_sub_cancel]; exact hk2)) ?_
    have fin : ∀ (jump : Option Code) (W3 : World), Stand C D (M + 1) W2 W3 →
        (Instr.endRound (M + 1) jump).run P W3 = .ok (.bool jump.isNone) (W3.putObj (M + 1) (.loop (rec_ (if jump.isNone then .ready else .done) jump))) ∧
        (W3.putObj (M + 1) (.loop (rec_ (if jump.isNone then .ready else .done) jump))).heap[M + 1]? = some (.loop (rec_ (if jump.isNone then .ready else .done) jump)) ∧
        (W3.putObj (M + 1) (.loop (rec_ (if jump.isNone then .ready else .done) jump))).heap[M]? = some (.deferred (some [])) ∧
        Turn C W3 (W3.putObj (M + 1) (.loop (rec_ (if jump.isNone then .ready else .done) jump))) ∧
        Kept C D W (W3.putObj (M + 1) (.loop (rec_ (if jump.isNone then .ready else .done) jump))) := fun jump W3 hk3 => by
      have a1 := (hk3.2 (M + 1) (by omega) (by omega)).trans hl2
      have a2 := (hk3.2 M (by omega) (by omega)).trans hk2
      exact ⟨run_endRound (P := P) jump a1, World.putObj_heap_same (Array.getElem?_eq_some_iff.1 a1).1, (World.putObj_heap_other (by omega)).trans a2, turn_put (by omega) a1 _,
        ((Kept.put W _ (by omega)).trans hk3.1).trans (Kept.put W3 _ (by omega))⟩
    rintro e a3 W3 hp
    cases e with
    | normal =>
      obtain ⟨hk3, hi3⟩ := hp
      obtain ⟨b1, b2, b3, b4, b5⟩ := fin none W3 hk3
      exact ⟨_, _, b1, .inl ⟨rfl, ⟨hI _ _ _ b4 hi3, b2, b3⟩, b5⟩⟩
    | ret =>
      obtain ⟨hk3, hi3⟩ := hp
      obtain ⟨b1, b2, b3, b4, _⟩ := fin (some .ret) W3 hk3
      exact ⟨_, _, b1, .inr ⟨rfl, .ret, hIx _ _ _ _ b4 hi3, b2, b3⟩⟩
    | exit id =>
      obtain ⟨hk3, hi3⟩ := hp
      obtain ⟨b1, b2, b3, b4, _⟩ := fin (some (.exit id)) W3 hk3
      exact ⟨_, _, b1, .inr ⟨rfl, .exit id, hIx _ _ _ _ b4 hi3, b2, b3⟩⟩
    | goto t =>
      obtain ⟨hk3, hi3⟩ := hp
      obtain ⟨b1, b2, b3, b4, _⟩ := fin (some (.goto t)) W3 hk3
      exact ⟨_, _, b1, .inr ⟨rfl, .goto t, hIx _ _ _ _ b4 hi3, b2, b3⟩⟩
    | panic ch => exact hp.elim
    | outgrown => exact hp.elim
  · rintro e W2 ⟨⟨v, rfl⟩, (⟨hi, hl, hk⟩ | ⟨pre, hpre, c, hi, hl, hk⟩)⟩
    · exact ⟨none, _, run_endLoop (P := P) hl (by simp [rec_]), hdone M _ hD (hI _ _ _ (turn_put (by omega) hl _) hi) ((World.putObj_heap_other (by omega)).trans hk)⟩
    · exact ⟨some c, _, run_endLoop (P := P) hl (by simp [rec_]), hstop M c pre _ hD hpre (hIx _ _ _ _ (turn_put (by omega) hl _) hi) ((World.putObj_heap_other (by omega)).trans hk)⟩
end Go.Proofs.YtadifolonbkamaaGreatDoor
