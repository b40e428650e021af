/- The walk of the document's parts. -/
import Derived.Test.YteflddgcddcejaaGreatDoorCwaj
namespace Go.Proofs.YteflddgcddcejaaGreatDoor
open Go.RowKit
theorem partInfoT : (Tryz.prog.info? 35).map (fun i => (i.zero, i.size, i.bytes)) = some (some (.agg #[.int .i64 0, .int .i64 0, .int .i64 0]), 3, 24) := by kernel_rfl
theorem pts_snocT (ps : List Pt) (p : Pt) : pts (ps ++ [p]) = pts ps ++ [.int .i64 p.a, .int .i64 p.b, .int .i64 p.s] := by simp [pts, ptCells]
theorem own_belowT {base size n : Nat} {e : TypeId} {X Y : World} {v : Value} {xs : List Value} (h : X.ownsRow base e size v n xs) (hb : Below X.heap.size X Y) : Y.ownsRow base e size v n xs := by
  obtain ⟨q1, q2⟩ := h
  refine ⟨q1, ?_⟩
  rcases q2 with q2 | ⟨g, cap, cur, hv, hg, hbk, hr⟩
  · exact .inl q2
  · exact .inr ⟨g, cap, cur, hv, hg, Blk.below (t := e) (cs := cur) hbk hb (Array.getElem?_eq_some_iff.1 hbk).1, hr⟩
def PartsP (s : ByteArray) (w : World) (e : Ending) (w' : World) : Prop :=
  Below w.heap.size w w' ∧ match partsL s.data.toList with
  | some ps => ∃ v, e = .returned v ∧ w'.ownsRow w.heap.size 35 3 v ps.length (pts ps)
  | none => e = .returned (.slice none 0 0)
theorem parts_some {s : List UInt8} {ps : List Pt} (h : mapO partL (splitL 44 s) = some ps) : partsL s = some ps := h
theorem parts_no {s x : List UInt8} (hx : x ∈ splitL 44 s) (h : partL x = none) : partsL s = none := mapO_none hx h
theorem mapO_lenT {α β : Type} {g : α → Option β} {l : List α} {r : List β} (h : mapO g l = some r) : r.length = l.length := by
  induction l generalizing r with
  | nil => cases h; rfl
  | cons x l ih =>
    rw [mapO] at h
    cases hx : g x with
    | none => rw [hx] at h; cases h
    | some y =>
      rw [hx] at h
      cases hr : mapO g l with
      | none => rw [hr] at h; cases h
      | some ys =>
        rw [hr] at h
        have e := Option.some.inj h
        rw [← e, List.length_cons, List.length_cons, ih hr]
set_option maxRecDepth 100000 in
set_option maxHeartbeats 8000000 in
theorem parts_any (s : ByteArray) (hs : s.size ≤ 4194303) (w : World) :
    Calls Tryz.prog 24 #[.string s] w (PartsP s w) := by
  obtain ⟨i0, hi, hz0, hz1, hz2⟩ := info_parts partInfoT
  go_enter Tryz.func24, Tryz.ntmps24
  go_wp2_with fail
  refine (Split_any s 44 (by omega) _).mono ?_
  rintro e w1 ⟨v, rfl, hown, hb1⟩
  obtain ⟨A, nv, cv, rfl⟩ : ∃ A nv cv, v = .slice A nv cv := by
    rcases hown.2 with ⟨hv, _⟩ | ⟨g, cap, cur, hv, _⟩
    · exact ⟨_, _, _, hv⟩
    · exact ⟨_, _, _, hv⟩
  have HYES := fun ps => Lib.hid (parts_some (s := s.data.toList) (ps := ps))
  have HNO := fun x => Lib.hid (parts_no (s := s.data.toList) (x := x))
  have hrl : (splitL 44 s.data.toList).length ≤ s.size + 1 := by
    have := sgo_cnt 44 s.data.toList []
    rw [size_list] at this
    exact this
  have hsl := fun x => split_len (b := 44) (l := s.data.toList) (x := x)
  rw [size_list] at hsl
  generalize splitL 44 s.data.toList = rs at hown hrl HYES HNO hsl
  obtain ⟨rfl, hcv, hra⟩ := rowAt_of_own hown (by unfold maxLen; omega)
  have HRA := Lib.hid hra
  have HSL := Lib.hid hsl
  have HB1 := Lib.hid hb1
  have hw1 := hb1.size
  clear hown hb1 hra hsl
  go_wp2_with fail
  go_loopw [3, 11] (fun v i wr => ∃ (vv : Value) (k : Nat) (ps : List Pt), vv = v ∧ k ≤ rs.length ∧ i = .int .i64 k ∧ ps.length = k ∧ Hid (mapO partL (rs.take k) = some ps) ∧ Hid (wr.ownsRow w1.heap.size 35 3 v ps.length (pts ps)) ∧ Hid (Below w1.heap.size w1 wr)) (fun v i wr => rs.length - (intOf i).toNat)
  case atStart => exact ⟨_, 0, [], rfl, Nat.zero_le _, rfl, rfl, rfl, World.ownsRow_nil _ _ _ _, Below.refl _ _⟩
  case round =>
    obtain ⟨v, k, ps, rfl, hk, rfl, hpl, hmp, hO, hB⟩ := hrel
    obtain ⟨wo, rfl⟩ : ∃ wo : World, wo = wr := ⟨_, rfl⟩
    have b0 : (0 : Int) ≤ (k : Int) := by omega
    have hwo : w1.heap.size ≤ wo.heap.size := hB.out.size
    by_cases hlt : k < rs.length
    · have b1 : (k : Int) < (rs.length : Int) := by omega
      obtain ⟨ad, x, rfl, hadB, hx, hc⟩ := (HRA.out.below hB.out).at_ hlt
      have hxl : (str x).size ≤ 4194303 := by
        have h1 := HSL.out x (List.mem_of_getElem? hx)
        rw [str_size]; omega
      have HX := Lib.hid hx
      have HP := Lib.hid (part_any (str x) hxl wo)
      have HS := Lib.hid (part_same x)
      clear hx
      go_wp2_with fail
      refine HP.out.mono ?_
      rintro e w2 ⟨he, hb2⟩
      rw [str_list] at he
      obtain ⟨⟨pa, pb, pc, ok⟩, hpi⟩ : ∃ p, partI x = p := ⟨_, rfl⟩
      rw [hpi] at he HS
      dsimp only at he HS
      subst he
      have HO2 : Hid ((w2.alloc (.cells #[.int .i64 pa, .int .i64 pb, .int .i64 pc] 35)).ownsRow w1.heap.size 35 3 v ps.length (pts ps)) := (own_belowT hO.out hb2).alloc _
      have HB2 : Hid (Below w1.heap.size w1 (w2.alloc (.cells #[.int .i64 pa, .int .i64 pb, .int .i64 pc] 35))) := (hB.out.trans (hb2.mono hwo)).alloc (Nat.le_trans hwo hb2.size) _
      have hwz : w1.heap.size ≤ w2.heap.size := Nat.le_trans hwo hb2.size
      clear hb2 hpi HP
      rcases ok with _ | _
      · have HN : Hid (partsL s.data.toList = none) := (HNO x).out (List.mem_of_getElem? HX.out) (by rw [HS.out]; rfl)
        go_wp2_with fail
        go_ret
        refine ⟨HB1.out.trans (HB2.out.mono hw1), ?_⟩
        rw [HN.out]
        rfl
      · have HQ : Hid (partL x = some ⟨pa, pb, pc⟩) := by show _ = _; rw [HS.out]; rfl
        go_wp2_with (at_builtin; refine wpList_append_own _ rfl _ _ 24 rfl w1.heap.size 35 i0 (.agg #[.int .i64 0, .int .i64 0, .int .i64 0]) 3 24 Tryz.underlying24 hi hz0 hz1 hz2 rfl (by decide) _ _ _ rfl (HO2.out.alloc _) ⟨w2.heap.size + 1, 0, none⟩ 1 1 [.int .i64 pa, .int .i64 pb, .int .i64 pc] rfl rfl ?c1 ?c2 ?c3 ?c4 ?c5 ?_)
        case c1 =>
          intro j u hj
          have e : (⟨w2.heap.size + 1, 0, none⟩ : Addr).add j = ⟨w2.heap.size + 1, j, none⟩ := by unfold Addr.add; split <;> simp_all
          have HN : Blk ((w2.alloc (.cells #[.int .i64 pa, .int .i64 pb, .int .i64 pc] 35)).alloc (.cells #[.int .i64 pa, .int .i64 pb, .int .i64 pc] 35)) (w2.heap.size + 1) 35 #[.int .i64 pa, .int .i64 pb, .int .i64 pc] := by
            have := Blk.new (w2.alloc (.cells #[.int .i64 pa, .int .i64 pb, .int .i64 pc] 35)) 35 #[.int .i64 pa, .int .i64 pb, .int .i64 pc]
            rw [show (w2.alloc (.cells #[.int .i64 pa, .int .i64 pb, .int .i64 pc] 35)).heap.size = w2.heap.size + 1 by simp] at this
            exact this
          rw [e, HN.cell j]
          simpa using hj
        case c2 => intro u hu; simp at hu; rcases hu with rfl | rfl | rfl <;> rfl
        case c3 => unfold maxLen; omega
        case c4 => omega
        case c5 => simp; omega
        intro v' w3 hown' hgrow _
        have HM : Hid (mapO partL (rs.take (k + 1)) = some (ps ++ [⟨pa, pb, pc⟩])) := by
          show _ = _
          rw [List.take_add_one, HX.out]
          exact mapO_snoc hmp.out HQ.out
        have HO3 : Hid (w3.ownsRow w1.heap.size 35 3 v' (ps ++ [(⟨pa, pb, pc⟩ : Pt)]).length (pts (ps ++ [(⟨pa, pb, pc⟩ : Pt)]))) := by
          show World.ownsRow _ _ _ _ _ _ _
          rw [pts_snocT, List.length_append, hpl]
          exact hown'
        have HB3 : Hid (Below w1.heap.size w1 w3) := (HB2.out.alloc (by simp; omega) _).grown hgrow (by simp; omega) (fun g hg => (HO2.out.lt g hg).1)
        clear hown' hgrow
        go_wp2_with fail
        go_roundw
        case rel => exact ⟨_, k + 1, _, rfl, by omega, by go_num, by rw [List.length_append, hpl]; rfl, HM, HO3, HB3⟩
        case measure => simp [intOf]; omega
    · obtain rfl : k = rs.length := by omega
      have HY : Hid (partsL s.data.toList = some ps) := (HYES ps).out (by rw [← hmp.out, List.take_length])
      go_wp2_with fail
      go_ret
      refine ⟨HB1.out.trans (hB.out.mono hw1), ?_⟩
      rw [HY.out]
      refine ⟨_, rfl, ?_⟩
      have h := hO.out
      obtain ⟨q1, q2⟩ := h
      refine ⟨q1, ?_⟩
      rcases q2 with q2 | ⟨g, cap, cur, hv, hg, hr⟩
      · exact .inl q2
      · exact .inr ⟨g, cap, cur, hv, by omega, hr⟩
end Go.Proofs.YteflddgcddcejaaGreatDoor
