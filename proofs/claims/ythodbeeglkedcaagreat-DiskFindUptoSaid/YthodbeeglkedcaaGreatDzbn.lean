/- The walks of package disk's linked and Links. -/
import Derived.Test.YthodbeeglkedcaaGreatDzbm
import Derived.Test.YthodbeeglkedcaaGreatDzbj
import Derived.Test.YthodbeeglkedcaaGreatDzay
namespace Go.Proofs.YthodbeeglkedcaaGreat
open Go.RowKit
def gd (fo a : List UInt8) : List UInt8 := a ++ 47 :: (fo ++ [47])
theorem gd_str (a fo : List UInt8) : str a ++ (⟨#[47]⟩ : ByteArray) ++ str fo ++ (⟨#[47]⟩ : ByteArray) = str (gd fo a) := by
  apply Nm.ext_list
  rw [app_list, app_list, app_list, str_list, str_list, str_list]
  simp [gd]
theorem gather_zero (fd : List UInt8 → List UInt8) (a : List UInt8) (l : List Fi) : gatherA fd (l.take 0) a = [] := rfl
theorem gather_succ {fd : List UInt8 → List UInt8} {a : List UInt8} {l : List Fi} {k : Nat} {x : Fi} (hx : l[k]? = some x) : gatherA fd (l.take (k + 1)) a = gatherA fd (l.take k) a ++ (if fd a <+: x.p then [cutPre x.p (fd a)] else []) := by
  rw [(take_one hx).2]
  unfold gatherA cutPre
  rw [List.filterMap_append]
  by_cases h : fd a <+: x.p
  · simp [h]
  · simp [h]
def gatherTo (fd : List UInt8 → List UInt8) (l : List Fi) (k : Nat) : List (List UInt8) := (plc.take k).flatMap (gatherA fd l)
theorem gatherTo_succ {fd : List UInt8 → List UInt8} {l : List Fi} {k : Nat} {a : List UInt8} (ha : plc[k]? = some a) : gatherTo fd l (k + 1) = gatherTo fd l k ++ gatherA fd l a := by
  obtain ⟨hk, he⟩ := List.getElem?_eq_some_iff.1 ha
  unfold gatherTo
  rw [List.take_succ_eq_append_getElem hk, he, List.flatMap_append]
  simp
theorem one_cellT (x : List UInt8) : wcells [x] = [.string (str x)] := rfl
def LinkedP (l : List Fi) (fo : List UInt8) (w : World) (e : Ending) (w' : World) : Prop := ∃ v, e = .returned v ∧ RowOut w' v (tidyT (gatherL (gd fo) l)) ∧ Below w.heap.size w w'
theorem compactT_any (g cap n : Nat) (l : List (List UInt8)) (w : World) (hn : l.length = n) (hH : Go.Sort.Holds encStr w g 0 l.toArray) (hsz : n ≤ 9223372036854775807) (hcap : n ≤ cap) :
    Calls Tryz.prog 53 #[.slice (some ⟨g, 0, none⟩) n cap] w fun e w' => e = .returned (.slice (some ⟨g, 0, none⟩) (Lib.compact l).length cap) ∧ ∃ q, w' = Go.Sort.putRow encStr (Go.Sort.ahead w q) g 0 (Lib.compact l ++ List.replicate (l.length - (Lib.compact l).length) []).toArray := by
  subst hn
  exact Tryz.slices_Compact_string g 0 cap l w hH hsz hcap
set_option maxRecDepth 100000 in
set_option maxHeartbeats 8000000 in
theorem linked_any (A : Option Addr) (n c B : Nat) (l : List Fi) (fo : List UInt8) (hfo : fo.length ≤ 8388608) (w : World) (h : FisAt w B A n l) (hB : B ≤ w.heap.size) (hs : ∀ x ∈ l, SizeF x) (hn : n ≤ 120) :
    Calls Tryz.prog 28 #[.slice A n c, .string (str fo)] w (LinkedP l fo w) := by
  obtain ⟨i0, hi, hz0, hz1, hz2⟩ := info_parts strInfo
  have hl := h.1
  have HL := Lib.hid h
  have HS := Lib.hid hs
  have hfs : (str fo).size ≤ 8388608 := by rw [str_size]; exact hfo
  clear h hs hfo
  unfold LinkedP
  go_enter Tryz.func28, Tryz.ntmps28
  go_wp2_with fail
  refine (dPlaces_any _).mono ?_
  rintro e1 w1 ⟨PA, pc, rfl, hp, hb1⟩
  have HB1 := Lib.hid hb1
  have HP := Lib.hid hp
  have hs1 := hb1.size
  clear hb1 hp
  go_wp2_with fail
  go_loopw [5, 15] (fun v i wr => ∃ (k : Nat) (xs : List (List UInt8)), k ≤ 3 ∧ xs.length ≤ 120 * k ∧ i = .int .i64 k ∧ Hid (xs = gatherTo (gd fo) l k) ∧ Hid (OwnT wr w1.heap.size v xs) ∧ Hid (Below w1.heap.size w1 wr)) (fun v i wr => 3 - (intOf i).toNat)
  case atStart => exact ⟨0, [], by omega, Nat.le_refl _, rfl, rfl, World.ownsRow_nil _ _ _ _, Below.refl _ _⟩
  case round =>
    obtain ⟨k, xs, hk, hxl, rfl, hX, hO, hb⟩ := hrel
    have hbs := hb.out.size
    by_cases hlt : k < 3
    · have b0 : (0 : Int) ≤ (k : Int) := by omega
      have b1 : (k : Int) < 3 := by omega
      obtain ⟨ad, a, rfl, hab, ha, q0⟩ := (HP.out.below hb.out).at_ hlt
      have hsz : (str a).size = 3 := by rw [str_size]; exact plc_len ha
      have hs1' : (str a).size + 1 ≤ 9223372036854775807 := by omega
      have hs2' : (str a).size + 1 + (str fo).size ≤ 9223372036854775807 := by omega
      have hs3' : (str a).size + 1 + (str fo).size + 1 ≤ 9223372036854775807 := by omega
      have HC : Hid (∀ (p : List UInt8) (W : World), Calls Tryz.prog 35 #[.string (str p), .string (str a ++ (⟨#[47]⟩ : ByteArray) ++ str fo ++ (⟨#[47]⟩ : ByteArray))] W fun e w' => e = .returned (.tuple #[.string (str (cutPre p (gd fo a))), .bool (decide (gd fo a <+: p))]) ∧ W = w') := by
        intro p W
        rw [gd_str]
        exact cutPre_any p (gd fo a) W
      have HNX := Lib.hid (gatherTo_succ (fd := gd fo) (l := l) ha)
      have HA := Lib.hid ha
      clear ha hsz
      go_wp2_with fail
      generalize hvs : str a ++ (⟨#[47]⟩ : ByteArray) ++ str fo ++ (⟨#[47]⟩ : ByteArray) = vs at *
      clear hvs hs1' hs2' hs3'
      go_loopw [5, 26] (fun v i wq => ∃ (j : Nat) (ys : List (List UInt8)), j ≤ n ∧ ys.length ≤ xs.length + j ∧ i = .int .i64 j ∧ Hid (ys = xs ++ gatherA (gd fo) (l.take j) a) ∧ Hid (OwnT wq w1.heap.size v ys) ∧ Hid (Below w1.heap.size w1 wq)) (fun v i wq => n - (intOf i).toNat)
      case atStart => exact ⟨0, xs, Nat.zero_le _, Nat.le_refl _, rfl, by show _ = _; rw [gather_zero, List.append_nil], hO, hb⟩
      case round =>
        obtain ⟨j, ys, hj, hyl, rfl, hY, hO2, hb2⟩ := hrel
        have hbs2 := hb2.out.size
        by_cases hjt : j < n
        · have d0 : (0 : Int) ≤ (j : Int) := by omega
          have d1 : (j : Int) < (n : Int) := by omega
          obtain ⟨ad2, x, rfl, hab2, hx, q1, q2, q3⟩ := (HL.out.below ((more3 HB1.out hs1 hb2.out).mono hB)).at_ hjt
          have z1 : (ad2.add (j * 3)).block < wr.heap.size := by rw [block_addR]; omega
          have HG := Lib.hid (gather_succ (fd := gd fo) (a := a) hx)
          have hxp := (HS.out x (List.mem_of_getElem? hx)).1
          have hcl := cutPre_len x.p (gd fo a)
          clear hx
          have hOa := Lib.hid (hO2.out.alloc (.cells #[.string (str x.p), .string (str x.t), .string (str x.l)] 34))
          have hba : Hid (Below w1.heap.size w1 (wr.alloc (.cells #[.string (str x.p), .string (str x.t), .string (str x.l)] 34))) := hb2.out.alloc hbs2 _
          go_wp2_with fail
          generalize wr.alloc (.cells #[.string (str x.p), .string (str x.t), .string (str x.l)] 34) = wa at *
          have hbsa := hba.out.size
          refine (HC.out x.p _).mono ?_
          rintro e3 w3 ⟨rfl, rfl⟩
          clear q1 q2 q3 hO2 hb2 z1
          by_cases hpre : gd fo a <+: x.p
          · have HY2 : Hid (ys ++ [cutPre x.p (gd fo a)] = xs ++ gatherA (gd fo) (l.take (j + 1)) a) := by show _ = _; rw [HG.out, if_pos hpre, hY.out, List.append_assoc]
            rw [decide_eq_true hpre]
            clear hpre HG
            generalize cutPre x.p (gd fo a) = nx at *
            go_wp2_with (at_builtin; refine wpList_append_own _ rfl _ _ 24 rfl w1.heap.size 9 i0 (.string ⟨#[]⟩) 1 16 Tryz.underlying24 hi hz0 hz1 hz2 rfl (by decide) _ _ _ rfl (hOa.out.alloc _) ⟨wa.heap.size, 0, none⟩ 1 1 [.string (str nx)] rfl rfl ?a1 ?b1 ?c1 ?d1 ?e1 ?_)
            case a1 =>
              intro j u hj
              match j, hj with
              | 0, hj =>
                simp at hj
                subst hj
                simp [Addr.add]
            case b1 => intro u hu; simp at hu; subst hu; rfl
            case c1 => unfold maxLen; omega
            case d1 => omega
            case e1 => simp; omega
            intro v5 w5 own5 grow5 _
            have hO5 : Hid (OwnT w5 w1.heap.size v5 (ys ++ [nx])) := by
              show World.ownsRow _ _ _ _ _ _ _
              rw [wcells_app, one_cellT]; simpa only [List.length_append, List.length_cons, List.length_nil, Nat.zero_add] using own5
            have hb5 : Hid (Below w1.heap.size w1 w5) := (hba.out.alloc hbsa _).grown grow5 (by simp; omega) (fun g hg => (hOa.out.lt g hg).1)
            clear own5 grow5
            go_wp2_with fail
            go_roundw
            case rel => exact ⟨j + 1, ys ++ [nx], by omega, by rw [List.length_append, List.length_singleton]; omega, by go_num, HY2, hO5, hb5⟩
            case measure => simp [intOf]; omega
          · have HY2 : Hid (ys = xs ++ gatherA (gd fo) (l.take (j + 1)) a) := by show _ = _; rw [HG.out, if_neg hpre, hY.out, List.append_nil]
            rw [decide_eq_false hpre]
            clear hpre HG
            go_wp2_with fail
            go_roundw
            case rel => exact ⟨j + 1, ys, by omega, by omega, by go_num, HY2, hOa, hba⟩
            case measure => simp [intOf]; omega
        · obtain rfl : j = n := by omega
          have HX2 : Hid (ys = gatherTo (gd fo) l (k + 1)) := by
            show _ = _
            rw [HNX.out, ← hX.out, hY.out, List.take_of_length_le (by omega)]
          clear hjt
          go_wp2_with fail
          go_roundw
          case rel => exact ⟨k + 1, ys, by omega, by omega, by go_num, HX2, hO2, hb2⟩
          case measure => simp [intOf]; omega
    · obtain rfl : k = 3 := by omega
      have HX3 : Hid (xs = gatherL (gd fo) l) := hX
      have hbw := Lib.hid (more3 HB1.out hs1 hb.out)
      have hbws := hbw.out.size
      by_cases hx0 : xs = []
      · subst hx0
        obtain ⟨A', c', rfl, hr⟩ := own_row hO.out (Nat.zero_le _)
        have HR : Hid (tidyT (gatherL (gd fo) l) = []) := by show _ = _; rw [← HX3.out, tidyT_nil]
        clear hlt hX hr
        go_wp2_with fail
        refine (Tryz.slices_Sort_string_none _ _ _).mono ?_
        rintro e2 w2 ⟨rfl, rfl⟩
        go_wp2_with fail
        refine (Tryz.slices_Compact_string_empty _ _ _).mono ?_
        rintro e2 w3 ⟨rfl, rfl⟩
        go_wp2_with fail
        go_ret
        exact ⟨_, rfl, by rw [HR.out]; exact ⟨_, _, rfl, RowAt.none_⟩, hbw.out⟩
      · obtain ⟨g, cap, rfl, hg, hgl, hcap, hH⟩ := holds_own hO.out hx0
        have HSo := Lib.hid (Tryz.slices_Sort_string g 0 cap xs wr hH hgl (by omega))
        have HHo := Lib.hid hH
        clear hlt hX hH
        go_wp2_with fail
        refine HSo.out.mono ?_
        rintro e2 w2 ⟨rfl, n2, os2, hw2⟩
        have hb2 := Lib.hid (below_putT hbw.out hbws (by omega) hw2)
        obtain ⟨hH2, hg2⟩ := holds_putT HHo.out hgl (List.length_mergeSort xs) hw2
        have HCo := Lib.hid (compactT_any g cap xs.length _ w2 (List.length_mergeSort xs) hH2 (by omega) hcap)
        have HH2 := Lib.hid hH2
        clear hw2 hH2 HSo
        go_wp2_with fail
        refine HCo.out.mono ?_
        rintro e3 w3 ⟨rfl, n3, hw3⟩
        have hb3 := Lib.hid (below_putT (os := #[]) hb2.out hb2.out.size (by omega) (hw3.trans (Go.Sort.grow_empty _).symm))
        obtain ⟨hH3, hg3⟩ := holds_putT (os := #[]) HH2.out hg2 (compactT_len _) (hw3.trans (Go.Sort.grow_empty _).symm)
        have HR : Hid (RowOut w3 (.slice (some ⟨g, 0, none⟩) (Lib.compact (xs.mergeSort fun x y => decide (x ≤ y))).length cap) (tidyT (gatherL (gd fo) l))) := by
          show RowOut _ _ _
          rw [← HX3.out]
          have hle := compactT_le (xs.mergeSort fun x y => decide (x ≤ y))
          rw [List.length_mergeSort] at hle
          exact ⟨_, _, rfl, rowAt_holds hH3 hg3 (by unfold maxLen; unfold tidyT; omega)⟩
        clear hw3 hH3 HCo
        go_wp2_with fail
        go_ret
        exact ⟨_, rfl, HR.out, hb3.out⟩
end Go.Proofs.YthodbeeglkedcaaGreat
