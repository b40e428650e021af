/- The walk of the developers' iterator over the logical lines. -/
import Derived.Test.YthgpocbmkmmecaaDoorLnC
import Derived.Test.YthgpocbmkmmecaaDoorLnR
import Derived.RangeFuncBound
import Derived.Shelf.Abstract
import Derived.Shelf.RegionOpen
import Derived.OwnWalkIn
import Derived.TacticsInMore
import Derived.LoopNIn
import Derived.LoopIn
namespace Go.Proofs.YthgpocbmkmmecaaDoor
open Go.RowKit

theorem hide {p : Prop} (h : p) : Hid p := h
theorem trim_emp (s : ByteArray) : (trimS s).toList.isEmpty = decide (trimL s.data.toList = []) := by
  rw [isEmpty_iff]
  rfl
theorem skip_of {s : ByteArray} (h : remS s = false) : skipR s.data.toList = decide (trimL s.data.toList = []) := by
  unfold remS at h
  unfold skipR
  rw [h, Bool.or_false]
set_option maxRecDepth 100000 in
set_option maxHeartbeats 4000000 in
theorem lines_seq (n : Nat) (hn : 1 ≤ n) (s : ByteArray) (hs : s.size ≤ 20000) (w : World) (tb : Nat) (ht : Blk w tb 9 #[.string s]) :
    SeqE Fence.wide n Tryd.prog 29 #[.pointer (some ⟨tb, 0, none⟩)] (fun x : List UInt8 × Nat => .int .i64 x.2) (fun x => .string (str x.1)) (machL 1 none (rowsOf s.data.toList)) w := by
  intro l J Jx W hW hJ hJx hY h0
  have c0 : W.cell? ⟨tb, 0, none⟩ = some (.string s) := (ht.below hW ht.lt).cell 0
  have HR0 : Hid (RdAt (W.alloc (.cells #[.string s, .int .i64 0] 57)) W.heap.size s 0) := Blk.new W _ _
  have HJ0 := Lib.hid (hJ [] W (W.alloc (.cells #[.string s, .int .i64 0] 57)) h0 (only_alloc (World.grownBy.refl W _) _))
  refine callsIn_of_wp Tryd.func29 rfl trivial ?_ rfl
  simp only [Tryd.ntmps29, List.size_toArray, List.length_cons, List.length_nil, Nat.reduceAdd, Nat.reduceSub, Array.replicate_succ, Array.replicate_zero, List.push_toArray, List.append_toArray, List.nil_append, List.cons_append]
  have HY := hide hY
  have HJ := hide hJ
  clear hY hJ hJx ht h0
  gi_wp2
  gi_loopw [] (fun wr => ∃ (pre : List (List UInt8 × Nat)) (t1 : ByteArray) (n1 : Nat), t1.size ≤ s.size ∧ n1 + t1.size ≤ s.size ∧ Hid (machL 1 none (rowsOf s.data.toList) = pre ++ machL (n1 + 1) none (rowsOf t1.data.toList)) ∧ Hid (RdAt wr W.heap.size t1 n1) ∧ Hid (J pre wr)) (fun wr => rdLeft W.heap.size wr)
  case atStart => exact ⟨[], s, 0, Nat.le_refl _, by omega, rfl, HR0, HJ0⟩
  case round =>
    obtain ⟨pre, t1, n1, hts, hns, hat, HR, HJr⟩ := hrel
    gi_wp2_with fail
    refine ⟨trivial, ?_⟩
    gi_at_call 30
    refine (callsIn_wide.2 (next_any W.heap.size t1 n1 (by omega) _ HR.out)).mono ?_
    rintro e w5 ⟨hg5, ⟨rems, r, t2, n2, hrows, hpre, hr, hn2, hs1, hs2, hs3, rfl, hR5⟩ | ⟨n2, hpre, hs1, rfl, hR5⟩⟩
    · have HJ5 := Lib.hid (HJ.out _ _ _ HJr.out hg5)
      have HR5 := Lib.hid hR5
      have hl0 := Lib.hid (rdLeft_eq (HR.out.cell 0))
      have HM : Hid (machL (n1 + 1) none (rowsOf t1.data.toList) = machL n2 none (r.data.toList :: rowsOf t2.data.toList)) := by
        show _ = _
        rw [hrows, mach_rem _ _ hpre, hn2]
        congr 1; omega
      have hrm : r.size ≤ maxLen := by unfold maxLen; omega
      have HE := Lib.hid (trim_emp r)
      have HK := Lib.hid (skip_of hr)
      clear hg5 hrows hpre hr hn2 hR5
      gi_wp2_with fail
      refine ⟨trivial, ?_⟩
      gi_at_call 31
      refine (callsIn_wide.2 (trim_any r hrm _)).mono ?_
      rintro e w6 ⟨rfl, hb6⟩
      have HR6 : Hid (RdAt w6 W.heap.size t2 n2) := Blk.below HR5.out hb6 HR5.out.lt
      have HJ6 := Lib.hid (HJ.out _ _ _ HJ5.out (only_of_below hb6 _))
      have hl1 := Lib.hid (rdLeft_eq (HR6.out.cell 0))
      clear hb6
      by_cases hem : trimL r.data.toList = []
      · have he : (trimS r).toList.isEmpty = true := by rw [HE.out, hem]; rfl
        have HN : Hid (machL 1 none (rowsOf s.data.toList) = pre ++ machL (n2 + 1) none (rowsOf t2.data.toList)) := by
          show _ = _
          rw [hat.out, HM.out, machL, HK.out, hem, if_pos (by rfl)]
        clear hem
        gi_wp2
        go_roundw
        case rel => exact ⟨pre, t2, n2, by omega, by omega, HN, HR6, HJ6⟩
        case measure => rw [hl0.out, hl1.out]; exact hs3
      · have he : (trimS r).toList.isEmpty = false := by rw [HE.out, decide_eq_false_iff_not]; exact hem
        have hskip : skipR r.data.toList = false := by rw [HK.out, decide_eq_false_iff_not]; exact hem
        have HF := Lib.hid (goOn_first r.data.toList (rowsOf t2.data.toList) n2 hskip)
        clear hem hskip
        have d1 : w6.cell? ⟨W.heap.size, 1, none⟩ = some (.int .i64 n2) := HR6.out.cell 1
        gi_wp2_with fail
        refine ⟨trivial, ?_⟩
        gi_at_call 32
        refine (callsIn_wide.2 (complete_any W.heap.size r t2 n2 (by omega) (by omega) _ HR6.out)).mono ?_
        rintro e w7 ⟨hg7, L, t3, n3, hgo, rfl, hR7, hs4, hs5, hs6⟩
        have HJ7 := Lib.hid (HJ.out _ _ _ HJ6.out hg7)
        have HR7 := Lib.hid hR7
        have HN : Hid (machL 1 none (rowsOf s.data.toList) = pre ++ (L, n2) :: machL (n3 + 1) none (rowsOf t3.data.toList)) := by
          show _ = _
          rw [hat.out, HM.out, HF.out, hgo n2]
        clear hg7 hgo hR7 d1
        obtain ⟨fn, tmps, assign, body, hy, hR⟩ := HY.out pre (L, n2) (machL (n3 + 1) none (rowsOf t3.data.toList)) w7 HN.out HJ7.out HR7.out.lt
        gi_wp2
        refine hR.mono ?_
        rintro e W' (⟨rfl, hJ', hk⟩ | ⟨rfl, hJx'⟩)
        · have HR8 : Hid (RdAt W' W.heap.size t3 n3) := Blk.same HR7.out hk
          have HJ8 := Lib.hid hJ'
          have hl3 := Lib.hid (rdLeft_eq (HR8.out.cell 0))
          have HN8 : Hid (machL 1 none (rowsOf s.data.toList) = (pre ++ [(L, n2)]) ++ machL (n3 + 1) none (rowsOf t3.data.toList)) := by
            show _ = _
            rw [HN.out, List.append_assoc]; rfl
          clear hJ' hk
          gi_wp2
          go_roundw
          case rel => exact ⟨pre ++ [(L, n2)], t3, n3, by omega, by omega, HN8, HR8, HJ8⟩
          case measure => rw [hl0.out, hl3.out]; omega
        · gi_wp2
          refine bodyPost_ret (results_none rfl _ _ _) rfl ?_
          exact ⟨⟨_, rfl⟩, .inr ⟨_, ⟨machL (n3 + 1) none (rowsOf t3.data.toList), by rw [HN.out]; simp⟩, hJx'⟩⟩
    · have HJ5 := Lib.hid (HJ.out _ _ _ HJr.out hg5)
      have HN : Hid (machL 1 none (rowsOf s.data.toList) = pre) := by
        show _ = _
        rw [hat.out]
        have := mach_rem (rowsOf t1.data.toList) [] hpre (n1 + 1) none
        rw [List.append_nil] at this
        rw [this]
        simp [machL]
      clear hg5 hpre hR5
      gi_wp2
      refine bodyPost_ret (results_none rfl _ _ _) rfl ?_
      exact ⟨⟨_, rfl⟩, .inl (by rw [HN.out]; exact HJ5.out)⟩
end Go.Proofs.YthgpocbmkmmecaaDoor
