/- The walks of the developers' printField and Print. -/
import Derived.Test.YtncolcjejgmhjaaGreatDoorCxbk
namespace Go.Proofs.YtncolcjejgmhjaaGreatDoor
open Go.RowKit
theorem join_snoc (c : UInt8) (ws : List (List UInt8)) (w : List UInt8) : joinL c (ws ++ [w]) = joinL c ws ++ ((if ws = [] then [] else [c]) ++ w) := by
  cases ws with
  | nil => simp [joinL]
  | cons v r => simp [joinL]
theorem take_nil_iff {α : Type} {l : List α} {k : Nat} (hk : k < l.length) : l.take k = [] ↔ k = 0 := by
  rw [List.take_eq_nil_iff]
  constructor
  · rintro (h | h)
    · exact h
    · rw [h] at hk; simp at hk
  · exact fun h => .inl h
theorem field_take {f : Nat} {l : List Pt} {k : Nat} {p : Pt} (h : l[k]? = some p) : fieldL f (l.take (k + 1)) = fieldL f (l.take k) ++ ((if k = 0 then [] else [44]) ++ ptL f p) := by
  have hk : k < l.length := by
    rcases Nat.lt_or_ge k l.length with h' | h'
    · exact h'
    · rw [List.getElem?_eq_none h'] at h; cases h
  have e : l.take (k + 1) = l.take k ++ [p] := by rw [List.take_add_one, h]; rfl
  unfold fieldL
  rw [e, List.map_append, List.map_cons, List.map_nil, join_snoc]
  congr 1
  congr 1
  by_cases h0 : k = 0
  · rw [if_pos h0, if_pos (by rw [h0]; rfl)]
  · rw [if_neg h0, if_neg]
    intro e
    exact h0 ((take_nil_iff hk).1 (List.map_eq_nil_iff.1 e))
theorem field_len4 {f : Nat} {l : List Pt} (hm : ∀ p ∈ l, mayP f p = true) (h4 : l.length ≤ 4) (k : Nat) : (fieldL f (l.take k)).length ≤ 64 := by
  have h : ∀ w ∈ (l.take k).map (ptL f), w.length ≤ 15 := by
    intro w hw
    obtain ⟨p, hp, rfl⟩ := List.mem_map.1 hw
    have := pt_length f p (hm p (List.mem_of_mem_take hp))
    split at this <;> omega
  have := join_length (c := 44) h
  rw [List.length_map, List.length_take] at this
  unfold fieldL
  omega
def FieldPost (B b : Nat) (l : List UInt8) (w : World) (e : Ending) (w' : World) : Prop := e = .returned (.tuple #[]) ∧ (Lib.IsBuilderF 69 5 B b (Lib.byteCells l) w' ∧ Below B w w' ∧ KeepB b w w')
set_option maxHeartbeats 8000000 in
set_option maxRecDepth 100000 in
theorem printField_any (B b : Nat) (l : List UInt8) (A : Option Addr) (n c f : Nat) (ps : List Pt) (hm : mayF f ps = true) (w : World) (h : Lib.IsBuilderF 69 5 B b (Lib.byteCells l) w) (hl : l.length ≤ 98000) (hB : B ≤ w.heap.size) (ht : ∀ w', Below B w w' → P10 w') (hp : PtsAt w B A n ps) :
    Calls Tryz.prog 36 #[.pointer (some ⟨b, 0, none⟩), .slice A n c] w (FieldPost B b (l ++ fieldL f ps) w) := by
  have HM := Lib.hid ((mayF_iff f ps).1 hm)
  have HP := Lib.hid hp
  have Ht := Lib.hid ht
  have hn4 : n ≤ 4 := by have := HP.out.1; have := HM.out.1.2; omega
  have H0 : Hid (Lib.IsBuilderF 69 5 B b (Lib.byteCells (l ++ fieldL f (ps.take 0))) w) := by
    have e : l ++ fieldL f (ps.take 0) = l := by simp [fieldL, joinL]
    rw [e]; exact h
  clear hm hp ht
  go_enter Tryz.func36, Tryz.ntmps36
  go_wp2_with fail
  go_loopw [8] (fun i wr => ∃ k : Nat, k ≤ n ∧ i = .int .i64 k ∧ Hid (Lib.IsBuilderF 69 5 B b (Lib.byteCells (l ++ fieldL f (ps.take k))) wr) ∧ Hid (Below B w wr) ∧ Hid (KeepB b w wr)) (fun i wr => n - (intOf i).toNat)
  case atStart => exact ⟨0, Nat.zero_le _, rfl, H0, Below.refl _ _, fun _ _ _ _ _ h => h⟩
  case round =>
    obtain ⟨k, hk, rfl, hI, hb, hK⟩ := hrel
    have hsz := hb.out.size
    by_cases hlt : k < n
    · obtain ⟨ad, p, rfl, hbl, hlk, e0, e1, e2⟩ := (HP.out.below hb.out).at_ hlt
      have HMP := Lib.hid (HM.out.2 p (List.mem_of_getElem? hlk))
      have HFT := Lib.hid (field_take (f := f) hlk)
      have hlen := field_len4 (f := f) HM.out.2 HM.out.1.2 k
      have hblt : b < wr.heap.size := hI.out.elim (·.lt) (·.lt)
      have HIn : Hid (Lib.IsBuilderF 69 5 B b (Lib.byteCells (l ++ fieldL f (ps.take k))) (wr.alloc (.cells #[.int .i64 p.a, .int .i64 p.b, .int .i64 p.s] 58))) := builder_later hI.out ((Below.refl _ _).alloc (Nat.le_refl _) _)
      have Hb1 : Hid (Below B w (wr.alloc (.cells #[.int .i64 p.a, .int .i64 p.b, .int .i64 p.s] 58))) := hb.out.alloc (by omega) _
      have HK1 : Hid (KeepB b w (wr.alloc (.cells #[.int .i64 p.a, .int .i64 p.b, .int .i64 p.s] 58))) := keep_trans hK.out (keep_below b ((Below.refl _ _).alloc (Nat.le_refl _) _))
      have HBX : Hid (Blk (wr.alloc (.cells #[.int .i64 p.a, .int .i64 p.b, .int .i64 p.s] 58)) wr.heap.size 58 #[.int .i64 p.a, .int .i64 p.b, .int .i64 p.s]) := Blk.new wr _ _
      clear hlk
      by_cases h0 : k = 0
      · have g0 : (k : Int) ≤ 0 := by omega
        have HE : Hid ((l ++ fieldL f (ps.take k)) ++ ptL f p = l ++ fieldL f (ps.take (k + 1))) := by
          show _ = _
          rw [HFT.out, if_pos h0, List.nil_append, List.append_assoc]
        clear h0
        go_wp2_with fail
        refine (printPart_any B b _ f p HMP.out _ HIn.out (by rw [List.length_append]; omega) (by have := Hb1.out.size; omega) (Tb Ht.out Hb1.out)).mono ?_
        rintro e wx ⟨rfl, hi, hbx, hkx⟩
        rw [HE.out] at hi
        have HI2 := Lib.hid hi
        have HB2 := Lib.hid (Hb1.out.trans hbx)
        have HK2 := Lib.hid (keep_trans HK1.out hkx)
        clear hi hbx hkx
        go_wp2_with fail
        go_roundw
        case rel => exact ⟨k + 1, by omega, by go_num, HI2, HB2, HK2⟩
        case measure => simp [intOf]; omega
      · have g0 : (0 : Int) < (k : Int) := by omega
        have u1 : (0 : Nat) ≤ 1 := Nat.zero_le _
        have HE : Hid (((l ++ fieldL f (ps.take k)) ++ [44]) ++ ptL f p = l ++ fieldL f (ps.take (k + 1))) := by
          show _ = _
          rw [HFT.out, if_neg h0, List.append_assoc, List.append_assoc]
        clear h0
        go_wp2_with fail
        refine (writeByte_k B b _ 44 _ HIn.out (by rw [byteCells_len, List.length_append]; omega) (by have := Hb1.out.size; omega)).mono ?_
        rintro e wx ⟨rfl, hi, hbx, hkx⟩
        rw [cells_44] at hi
        have HI2 := Lib.hid hi
        have HX2 : Hid (Blk wx wr.heap.size 58 #[.int .i64 p.a, .int .i64 p.b, .int .i64 p.s]) := hkx _ _ _ (by omega) (by decide) HBX.out
        have HB2 := Lib.hid (Hb1.out.trans hbx)
        have HK2 := Lib.hid (keep_trans HK1.out hkx)
        have x0 := HX2.out.cell 0
        have x1 := HX2.out.cell 1
        have x2 := HX2.out.cell 2
        clear hi hbx hkx
        go_wp2_with fail
        refine (printPart_any B b _ f p HMP.out _ HI2.out (by rw [List.length_append, List.length_append]; simp only [List.length_cons, List.length_nil]; omega) (by have := HB2.out.size; omega) (Tb Ht.out HB2.out)).mono ?_
        rintro e wy ⟨rfl, hi, hbx, hkx⟩
        rw [HE.out] at hi
        have HI3 := Lib.hid hi
        have HB3 := Lib.hid (HB2.out.trans hbx)
        have HK3 := Lib.hid (keep_trans HK2.out hkx)
        clear hi hbx hkx x0 x1 x2
        go_wp2_with fail
        go_roundw
        case rel => exact ⟨k + 1, by omega, by go_num, HI3, HB3, HK3⟩
        case measure => simp [intOf]; omega
    · obtain rfl : k = n := by omega
      have HI2 : Hid (Lib.IsBuilderF 69 5 B b (Lib.byteCells (l ++ fieldL f ps)) wr) := by
        have e := hI.out
        rw [List.take_of_length_le (by rw [HP.out.1]; exact Nat.le_refl _)] at e
        exact e
      clear hlt
      go_wp2_with fail
      go_end0
      exact ⟨rfl, HI2.out, hb.out, hK.out⟩
end Go.Proofs.YtncolcjejgmhjaaGreatDoor
