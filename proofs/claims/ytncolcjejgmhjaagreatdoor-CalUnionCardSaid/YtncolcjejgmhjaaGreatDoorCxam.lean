/- The walks of the document's MayCal, weekday. -/
import Derived.Test.YtncolcjejgmhjaaGreatDoorCxal
namespace Go.Proofs.YtncolcjejgmhjaaGreatDoor
open Go.RowKit
theorem cells7c {w : World} {g : Nat} {t : TypeId} {a b c d e f h : Value} (H : Blk w g t #[a, b, c, d, e, f, h]) :
    w.cell? ⟨g, 0, none⟩ = some a ∧ w.cell? ⟨g, 1, none⟩ = some b ∧ w.cell? ⟨g, 2, none⟩ = some c ∧ w.cell? ⟨g, 3, none⟩ = some d ∧ w.cell? ⟨g, 4, none⟩ = some e ∧ w.cell? ⟨g, 5, none⟩ = some f ∧ w.cell? ⟨g, 6, none⟩ = some h :=
  ⟨H.cell 0, H.cell 1, H.cell 2, H.cell 3, H.cell 4, H.cell 5, H.cell 6⟩
theorem drop_cons {l : List Int} {k : Nat} (h : k < l.length) : l.drop k = l.getD k 0 :: l.drop (k + 1) := by
  rw [List.drop_eq_getElem_cons h]
  simp [List.getD, List.getElem?_eq_getElem h]
theorem rises_no {x d : Int} {r : List Int} (h : d ≤ x ∨ 7 < d) : risesB x (d :: r) = false := by
  rw [risesB, decide_eq_false (by omega)]; rfl
theorem rises_yes {x d : Int} {r : List Int} (h : x < d) (h' : d ≤ 7) : risesB x (d :: r) = risesB d r := by
  rw [risesB, decide_eq_true ⟨h, h'⟩]; rfl
def fieldsB (l : Cl) : Bool := mayF 0 l.yr && (mayF 1 l.mo && (mayF 2 l.dy && (mayF 3 l.hr && (mayF 4 l.mi && mayF 5 l.se))))
theorem mayC_split (l : Cl) : mayC l = (risesB 0 l.ds && fieldsB l) := rfl
theorem fields_no {l : Cl} {f : Nat} (hf : f ≤ 5) (h : mayF f (l.fld f) = false) : fieldsB l = false := by
  unfold fieldsB
  rcases f_cases hf with rfl | rfl | rfl | rfl | rfl | rfl
  all_goals
    simp only [Cl.fld] at h
    rw [h]
    simp
theorem fields_yes {l : Cl} (h : ∀ f, f < 6 → mayF f (l.fld f) = true) : fieldsB l = true := by
  have h0 := h 0 (by omega)
  have h1 := h 1 (by omega)
  have h2 := h 2 (by omega)
  have h3 := h 3 (by omega)
  have h4 := h 4 (by omega)
  have h5 := h 5 (by omega)
  simp only [Cl.fld] at h0 h1 h2 h3 h4 h5
  unfold fieldsB
  rw [h0, h1, h2, h3, h4, h5]; rfl
theorem mayF_long {f : Nat} {l : List Pt} (h : l.length < 1 ∨ 4 < l.length) : mayF f l = false := by
  unfold mayF; rw [decide_eq_false (by omega)]; rfl
theorem mayF_bad {f : Nat} {l : List Pt} {k : Nat} {p : Pt} (hk : l[k]? = some p) (h : mayP f p = false) : mayF f l = false := by
  rw [← Bool.not_eq_true, mayF_iff]
  rintro ⟨_, h2⟩
  have := h2 p (List.mem_of_getElem? hk)
  rw [h] at this; cases this
theorem mayF_all {f : Nat} {l : List Pt} (h0 : 1 ≤ l.length) (h4 : l.length ≤ 4) (h : ∀ j, j < l.length → ∀ p, l[j]? = some p → mayP f p = true) : mayF f l = true := by
  rw [mayF_iff]
  refine ⟨⟨h0, h4⟩, fun p hp => ?_⟩
  obtain ⟨j, hj, e⟩ := List.getElem_of_mem hp
  exact h j hj p (by rw [List.getElem?_eq_getElem hj, e])
set_option maxHeartbeats 8000000 in
theorem MayCal_any (c : Ch) (l : Cl) (w : World) (hc : CalAt w w.heap.size c l) :
    Calls Tryz.prog 23 #[.agg c.cells] w fun e w' => e = .returned (.bool (mayC l)) ∧ Below w.heap.size w w' := by
  have HC := Lib.hid hc
  clear hc
  obtain ⟨⟨dA, dn, dc⟩, y, m, t, h, i, s⟩ := c
  have HD : Hid (IntsAt w w.heap.size dA dn l.ds) := HC.out.1
  have hn := HD.out.2.1
  unfold maxLen at hn
  have HS := Lib.hid (mayC_split l)
  unfold Ch.cells
  go_enter Tryz.func23, Tryz.ntmps23
  go_wp2_with fail
  go_loop [3, 5, 13] (fun x _ i => ∃ (k : Nat) (z : Int), k ≤ dn ∧ i = .int .i64 k ∧ x = .int .i64 z ∧ Hid (risesB 0 l.ds = risesB z (l.ds.drop k))) (fun _ _ i => dn - (intOf i).toNat)
  case atStart => exact ⟨0, 0, Nat.zero_le _, rfl, rfl, by show risesB 0 l.ds = _; rw [List.drop_zero]⟩
  case round =>
    obtain ⟨k, z, hk, rfl, rfl, hr⟩ := hrel
    by_cases hlt : k < dn
    · obtain ⟨ad, rfl, hbl, hcell⟩ := HD.out.at_ hlt
      have hdr := drop_cons (l := l.ds) (k := k) (by rw [HD.out.1]; exact hlt)
      generalize l.ds.getD k 0 = d at hdr hcell
      have HR : Hid (risesB 0 l.ds = risesB z (d :: l.ds.drop (k + 1))) := by rw [← hdr]; exact hr
      clear hdr
      have hcA : ∀ o : Obj, (w.alloc o).cell? (ad.add k) = some (.int .i64 d) := fun o => (World.cell?_alloc_lt w o _ (by rw [block_of_add]; exact hbl)).trans hcell
      clear hcell
      have hln : (dn : Int) ≤ 9223372036854775807 := by omega
      by_cases h1 : d ≤ z
      · have HF := Lib.hid (rises_no (r := l.ds.drop (k + 1)) (.inl h1))
        go_wp2_with fail
        go_ret
        exact ⟨ret_bool (by rw [HS.out, HR.out, HF.out]; rfl), (Below.refl _ _).alloc (Nat.le_refl _) _⟩
      · by_cases h7 : 7 < d
        · have HF := Lib.hid (rises_no (x := z) (r := l.ds.drop (k + 1)) (.inr h7))
          have h1' : z < d := by omega
          go_wp2_with fail
          go_ret
          exact ⟨ret_bool (by rw [HS.out, HR.out, HF.out]; rfl), (Below.refl _ _).alloc (Nat.le_refl _) _⟩
        · have HF := Lib.hid (rises_yes (r := l.ds.drop (k + 1)) (show z < d by omega) (show d ≤ 7 by omega))
          have h1' : z < d := by omega
          have h7' : d ≤ 7 := by omega
          have HN : Hid (risesB 0 l.ds = risesB d (l.ds.drop (k + 1))) := by rw [HR.out, HF.out]; rfl
          clear h1 h7
          go_wp2_with fail
          go_round
          case rel => exact ⟨k + 1, d, by omega, by go_num, rfl, HN⟩
          case measure => simp [intOf]; omega
    · obtain rfl : k = dn := by omega
      have HT : Hid (risesB 0 l.ds = true) := by
        show _ = true
        rw [hr.out, List.drop_of_length_le (by rw [HD.out.1]; exact Nat.le_refl _)]; rfl
      clear hr hlt
      go_wp2_with fail
      go_loopw [6] (fun x wr => ∃ f : Nat, f ≤ 6 ∧ x = .int .i64 f ∧ Hid (∀ g, g < f → mayF g (l.fld g) = true) ∧ Hid (Blk wr w.heap.size 25 #[.slice dA k dc, .slice y.A y.n y.c, .slice m.A m.n m.c, .slice t.A t.n t.c, .slice h.A h.n h.c, .slice i.A i.n i.c, .slice s.A s.n s.c]) ∧ Hid (Below w.heap.size w wr)) (fun x wr => (6 - intOf x).toNat)
      case atStart => exact ⟨0, by omega, rfl, fun g hg => absurd hg (by omega), Blk.new w _ _, (Below.refl _ _).alloc (Nat.le_refl _) _⟩
      case round =>
        obtain ⟨f, hf, rfl, hall, hB, hb⟩ := hrel
        by_cases hf6 : f < 6
        · have hf5 : f ≤ 5 := by omega
          obtain ⟨c0, c1, c2, c3, c4, c5, c6⟩ := cells7c hB.out
          go_wp2_with fail
          refine (field_any ⟨⟨dA, k, dc⟩, y, m, t, h, i, s⟩ f hf5 _).mono ?_
          rintro e w1 ⟨rfl, hb1⟩
          have HP := Lib.hid (HC.out.2 f)
          generalize Ch.fsl ⟨⟨dA, k, dc⟩, y, m, t, h, i, s⟩ f = S at HP
          obtain ⟨A, n, cc⟩ := S
          dsimp only
          have HP : Hid (PtsAt w w.heap.size A n (l.fld f)) := HP
          have HB1 := Lib.hid (hB.out.below hb1 hB.out.lt)
          have Hb1 := Lib.hid (more3 hb.out hb.out.size hb1)
          have hlen := HP.out.1
          clear hb1 c0 c1 c2 c3 c4 c5 c6
          have HL := Lib.hid hlen
          clear hlen
          by_cases hs1 : n < 1
          · have HF := Lib.hid (fields_no hf5 (mayF_long (f := f) (.inl (by rw [HL.out]; exact hs1))))
            have hs1' : (n : Int) < 1 := by omega
            go_wp2_with fail
            go_ret
            exact ⟨ret_bool (by rw [HS.out, HF.out]; simp), Hb1.out⟩
          by_cases hs4 : 4 < n
          · have HF := Lib.hid (fields_no hf5 (mayF_long (f := f) (.inr (by rw [HL.out]; exact hs4))))
            have hs1' : (1 : Int) ≤ n := by omega
            have hs4' : (4 : Int) < n := by omega
            have u1 : (0 : Nat) ≤ 1 := Nat.zero_le _
            clear hs1 hs4
            go_wp2_with fail
            go_ret
            exact ⟨ret_bool (by rw [HS.out, HF.out]; simp), Hb1.out⟩
          have hs1' : (1 : Int) ≤ n := by omega
          have hs4' : (n : Int) ≤ 4 := by omega
          have hs5' : n ≤ 4 := by omega
          have hs6' : 1 ≤ n := by omega
          have u1 : (0 : Nat) ≤ 1 := Nat.zero_le _
          have u2 : (0 : Nat) ≤ 2 := Nat.zero_le _
          have u3 : (0 : Nat) ≤ 3 := Nat.zero_le _
          clear hs1 hs4
          go_wp2_with fail
          go_loopw [43] (fun x wr => ∃ j : Nat, j ≤ n ∧ x = .int .i64 j ∧ Hid (∀ g, g < j → ∀ p, (l.fld f)[g]? = some p → mayP f p = true) ∧ Hid (Blk wr w.heap.size 25 #[.slice dA k dc, .slice y.A y.n y.c, .slice m.A m.n m.c, .slice t.A t.n t.c, .slice h.A h.n h.c, .slice i.A i.n i.c, .slice s.A s.n s.c]) ∧ Hid (Below w.heap.size w wr)) (fun x wr => n - (intOf x).toNat)
          case atStart => exact ⟨0, Nat.zero_le _, rfl, fun g hg => absurd hg (by omega), HB1, Hb1⟩
          case round =>
            obtain ⟨j, hj, rfl, hpall, hB2, hb2⟩ := hrel
            by_cases hjn : j < n
            · obtain ⟨ad, p, rfl, hbl, hlk, e0, e1, e2⟩ := (HP.out.below hb2.out).at_ hjn
              have HLK := Lib.hid hlk
              obtain ⟨pa, pb, ps⟩ := p
              have hz : w.heap.size < wr.heap.size := hB2.out.lt
              clear hlk
              go_wp2_with fail
              refine (mayPart_any ⟨pa, pb, ps⟩ f hf5 _).mono ?_
              rintro e w2 ⟨rfl, hb3⟩
              have HB3 := Lib.hid ((hB2.out.alloc _).below hb3 (hB2.out.alloc _).lt)
              have Hb3 := Lib.hid (more3 (hb2.out.alloc hb2.out.size _) (by have := hb2.out.size; simp; omega) hb3)
              clear hb3 e0 e1 e2
              rcases hmp : mayP f ⟨pa, pb, ps⟩ with _ | _
              · have HF := Lib.hid (fields_no hf5 (mayF_bad HLK.out hmp))
                clear hmp
                go_wp2_with fail
                go_ret
                exact ⟨ret_bool (by rw [HS.out, HF.out]; simp), Hb3.out⟩
              · have HN : Hid (∀ g, g < j + 1 → ∀ p, (l.fld f)[g]? = some p → mayP f p = true) := by
                  intro g hg p hp
                  by_cases e : g = j
                  · rw [e, HLK.out] at hp
                    rw [← Option.some.inj hp]; exact hmp
                  · exact hpall.out g (by omega) p hp
                clear hmp
                go_wp2_with fail
                go_roundw
                case rel => exact ⟨j + 1, by omega, by go_num, HN, HB3, Hb3⟩
                case measure => simp [intOf]; omega
            · obtain rfl : j = n := by omega
              have HN : Hid (∀ g, g < f + 1 → mayF g (l.fld g) = true) := by
                intro g hg
                by_cases e : g = f
                · rw [e]
                  refine mayF_all (by rw [HL.out]; omega) (by rw [HL.out]; omega) fun j' hj' p hp => hpall.out j' (by rw [HL.out] at hj'; exact hj') p hp
                · exact hall.out g (by omega)
              clear hj hjn
              go_wp2_with fail
              go_roundw
              case rel => exact ⟨f + 1, by omega, by go_num, HN, hB2, hb2⟩
              case measure => simp [intOf]; omega
        · obtain rfl : f = 6 := by omega
          have HF := Lib.hid (fields_yes hall.out)
          clear hf hf6
          go_wp2_with fail
          go_ret
          exact ⟨ret_bool (by rw [HS.out, HT.out, HF.out]; rfl), hb.out⟩
end Go.Proofs.YtncolcjejgmhjaaGreatDoor
