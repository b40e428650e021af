/- The walk of the developers' Print. -/
import Derived.Test.YtncolcjejgmhjaaGreatDoorCxbl
import Derived.Test.YtncolcjejgmhjaaGreatDoorCxat
namespace Go.Proofs.YtncolcjejgmhjaaGreatDoor
open Go.RowKit
def sepL : Nat → List UInt8
  | 0 => []
  | 1 => [45]
  | 2 => [45]
  | 3 => [32]
  | 4 => [58]
  | _ => [58]
theorem sep_len (f : Nat) : (sepL f).length ≤ 1 := by
  match f with
  | 0 => decide
  | 1 => decide
  | 2 => decide
  | 3 => decide
  | 4 => decide
  | n + 5 => exact (show (1 : Nat) ≤ 1 by omega)
def fu (c : Cl) : Nat → List UInt8
  | 0 => []
  | f + 1 => fu c f ++ (sepL f ++ fieldL f (c.fld f))
theorem fu_six (c : Cl) : fu c 6 = bodyL c := by simp [fu, sepL, bodyL, dateL, timeL, Cl.fld]
theorem fu_len (c : Cl) (hc : mayC c = true) (f : Nat) (hf : f ≤ 6) : (fu c f).length ≤ 65 * f := by
  induction f with
  | zero => simp [fu]
  | succ f ih =>
    have h1 := field_len4 (f := f) ((mayF_iff f _).1 (mayC_fld hc (show f < 6 by omega))).2 ((mayF_iff f _).1 (mayC_fld hc (show f < 6 by omega))).1.2 (c.fld f).length
    rw [List.take_length] at h1
    have := sep_len f
    have := ih (by omega)
    simp only [fu, List.length_append]
    omega
theorem Tabs.sepc {w : World} (h : Tabs w) {f : Nat} (hf : f ≤ 5) : w.cell? ⟨2, f, none⟩ = some (.string (str (sepL f))) := by
  rcases f_cases hf with rfl | rfl | rfl | rfl | rfl | rfl <;> exact World.var?_cell sep_glob h.sep _
theorem Tabs.dayc {w : World} (h : Tabs w) {d : Int} {D : Nat} (h0 : d - 1 = D) (h7 : d ≤ 7) : w.cell? ⟨1, D, none⟩ = some (.string (str (dayL d))) := by
  have hd : D = 0 ∨ D = 1 ∨ D = 2 ∨ D = 3 ∨ D = 4 ∨ D = 5 ∨ D = 6 := by omega
  have e : d = D + 1 := by omega
  subst e
  rcases hd with rfl | rfl | rfl | rfl | rfl | rfl | rfl <;> exact World.var?_cell days_glob h.days _
theorem days_take {ds : List Int} {k : Nat} (hk : k < ds.length) {d : Int} (hd : ds.getD k 0 = d) : joinL 44 ((ds.take (k + 1)).map dayL) = joinL 44 ((ds.take k).map dayL) ++ ((if k = 0 then [] else [44]) ++ dayL d) := by
  have e : ds.take (k + 1) = ds.take k ++ [d] := by
    rw [List.take_add_one, List.getElem?_eq_getElem hk, ← hd]
    simp [List.getD, List.getElem?_eq_getElem hk]
  rw [e, List.map_append, List.map_cons, List.map_nil, join_snoc]
  congr 1
  congr 1
  by_cases h0 : k = 0
  · rw [if_pos h0, if_pos (by rw [h0]; rfl)]
  · rw [if_neg h0, if_neg]
    intro e
    exact h0 ((take_nil_iff hk).1 (List.map_eq_nil_iff.1 e))
theorem days_len (ds : List Int) (hn : ds.length ≤ 7) (k : Nat) : (joinL 44 ((ds.take k).map dayL)).length ≤ 28 := by
  have h : ∀ w ∈ (ds.take k).map dayL, w.length ≤ 3 := by
    intro w hw
    obtain ⟨d, _, rfl⟩ := List.mem_map.1 hw
    rw [dayL_length]; omega
  have := join_length (c := 44) h
  rw [List.length_map, List.length_take] at this
  omega
set_option maxHeartbeats 16000000 in
set_option maxRecDepth 100000 in
theorem Print_any (c : Ch) (l : Cl) (w : World) (ht : Tabs w) (hc : CalAt w w.heap.size c l) :
    Calls Tryz.prog 14 #[.agg c.cells] w fun e w' => e = .returned (.string (str (printC l))) ∧ Below w.heap.size w w' := by
  have HC := Lib.hid hc
  have HT := Lib.hid ht
  have HLi := Lib.hid (fun W => lists_any c W)
  have HMy := Lib.hid (fun W h1 h2 => May_any c l W h1 h2)
  have HIx := Lib.hid (run_index_six c)
  clear hc ht
  generalize c.six = SX at HLi HIx
  obtain ⟨⟨dA, dn, dc⟩, y, m, t, h, i, s⟩ := c
  have HD : Hid (IntsAt w w.heap.size dA dn l.ds) := HC.out.1
  unfold Ch.cells at HLi HMy ⊢
  dsimp only at HLi HMy ⊢
  go_enter Tryz.func14, Tryz.ntmps14
  go_wp2_with fail
  refine (HMy.out _ (HT.out.below ((Below.refl _ _).alloc (Nat.le_refl _) _)) (HC.out.at_ ((Below.refl _ _).alloc (Nat.le_refl _) _))).mono ?_
  rintro e w1 ⟨rfl, hb1⟩
  have HC1 : Hid (Blk w1 w.heap.size 25 #[.slice dA dn dc, .slice y.A y.n y.c, .slice m.A m.n m.c, .slice t.A t.n t.c, .slice h.A h.n h.c, .slice i.A i.n i.c, .slice s.A s.n s.c]) := (Blk.new w _ _).below hb1 (by simp)
  have HB1 := Lib.hid (more3 ((Below.refl w.heap.size w).alloc (Nat.le_refl _) _) (by simp) hb1)
  clear hb1
  rcases hM : mayC l with _ | _
  · have HR : Hid (printC l = []) := printC_none hM
    clear hM
    go_wp2_with fail
    go_ret
    exact ⟨ret_str (by rw [HR.out]; rfl), HB1.out⟩
  have HMM := Lib.hid hM
  have HRB := Lib.hid (rises_bd ((mayC_iff l).1 hM).1)
  have hn7 : dn ≤ 7 := by
    have := rises_length ((mayC_iff l).1 hM).1 (by omega)
    have := HD.out.1
    omega
  clear hM
  have hz : w.heap.size < w1.heap.size := HC1.out.lt
  have HZ : Hid (w.heap.size ≤ w1.heap.size) := Nat.le_of_lt hz
  have HFR := Lib.hid (Lib.IsBuilderF.of (Lib.fresh_isBuilder 69 5 w1))
  have HW2 : Hid (Below w.heap.size w (w1.alloc (.cells #[.pointer none, .slice none 0 0] 69))) := HB1.out.alloc HB1.out.size _
  have HC2 : Hid (Blk (w1.alloc (.cells #[.pointer none, .slice none 0 0] 69)) w.heap.size 25 #[.slice dA dn dc, .slice y.A y.n y.c, .slice m.A m.n m.c, .slice t.A t.n t.c, .slice h.A h.n h.c, .slice i.A i.n i.c, .slice s.A s.n s.c]) := HC1.out.alloc _
  have hs2 : w1.heap.size < (w1.alloc (.cells #[.pointer none, .slice none 0 0] 69)).heap.size := by simp
  have x0 := HC2.out.cell 0
  go_wp2_with fail
  clear x0
  generalize (w1.alloc (.cells #[.pointer none, .slice none 0 0] 69)) = w2 at *
  have HW0 : Hid (Below w.heap.size w w2) := HW2
  have HTA : Hid (∀ w', Below w1.heap.size w2 w' → Tabs w') := fun w' hw' => HT.out.below (HW0.out.trans (hw'.mono HZ.out))
  have HI0 : Hid (Lib.IsBuilderF 69 5 w1.heap.size w1.heap.size (Lib.byteCells (joinL 44 ((l.ds.take 0).map dayL))) w2) := HFR.out
  go_loopw [14] (fun x wr => ∃ k : Nat, k ≤ dn ∧ x = .int .i64 k ∧ Hid (Lib.IsBuilderF 69 5 w1.heap.size w1.heap.size (Lib.byteCells (joinL 44 ((l.ds.take k).map dayL))) wr) ∧ Hid (Below w1.heap.size w2 wr)) (fun x wr => dn - (intOf x).toNat)
  case atStart => exact ⟨0, Nat.zero_le _, rfl, HI0, Below.refl _ _⟩
  case round =>
    obtain ⟨k, hk, rfl, hI, hb⟩ := hrel
    have hsz := hb.out.size
    have HDr := Lib.hid (HD.out.below (HW0.out.trans (hb.out.mono HZ.out)))
    have hdl := days_len l.ds (by rw [HD.out.1]; exact hn7) k
    by_cases hlt : k < dn
    · obtain ⟨ad, rfl, hbl, hcell⟩ := HDr.out.at_ hlt
      have hkl : k < l.ds.length := by rw [HD.out.1]; exact hlt
      have HDT := Lib.hid (days_take hkl rfl)
      have HDB := Lib.hid (HRB.out (l.ds.getD k 0) (by simp [List.getD, List.getElem?_eq_getElem hkl]))
      generalize l.ds.getD k 0 = d at hcell HDT HDB
      have d0 : 1 ≤ d := by have := HDB.out.1; omega
      have d7 : d ≤ 7 := HDB.out.2
      obtain ⟨D, hD⟩ : ∃ D : Nat, d - 1 = (D : Int) := ⟨(d - 1).toNat, by omega⟩
      have D0 : (0 : Int) ≤ (D : Int) := by omega
      have D7 : (D : Int) < 7 := by omega
      have HDL := Lib.hid (dayL_length d)
      clear hkl
      by_cases h0 : k = 0
      · have g0 : (k : Int) ≤ 0 := by omega
        have HE : Hid (joinL 44 ((l.ds.take k).map dayL) ++ dayL d = joinL 44 ((l.ds.take (k + 1)).map dayL)) := by show _ = _; rw [HDT.out, if_pos h0, List.nil_append]
        have hdc := (HTA.out wr hb.out).dayc hD d7
        clear h0
        go_wp2_with fail
        refine (writeString_k _ _ _ (str (dayL d)) _ hI.out (by rw [byteCells_len, str_size, HDL.out]; omega) (by omega)).mono ?_
        rintro e wx ⟨rfl, hi, hbx, hkx⟩
        rw [cells_str, HE.out] at hi
        have HI2 := Lib.hid hi
        have HB2 := Lib.hid (hb.out.trans hbx)
        clear hi hbx hkx hdc
        go_wp2_with fail
        go_roundw
        case rel => exact ⟨k + 1, by omega, by go_num, HI2, HB2⟩
        case measure => simp [intOf]; omega
      · have g0 : (0 : Int) < (k : Int) := by omega
        have u1 : (0 : Nat) ≤ 1 := Nat.zero_le _
        have HE : Hid ((joinL 44 ((l.ds.take k).map dayL) ++ [44]) ++ dayL d = joinL 44 ((l.ds.take (k + 1)).map dayL)) := by show _ = _; rw [HDT.out, if_neg h0, List.append_assoc]
        clear h0
        go_wp2_with fail
        refine (writeByte_k _ _ _ 44 _ hI.out (by rw [byteCells_len]; omega) (by omega)).mono ?_
        rintro e wx ⟨rfl, hi, hbx, hkx⟩
        rw [cells_44] at hi
        have HB2 := Lib.hid (hb.out.trans hbx)
        have hszx := HB2.out.size
        have hdc := (HTA.out wx HB2.out).dayc hD d7
        clear hbx hkx
        go_wp2_with fail
        refine (writeString_k _ _ _ (str (dayL d)) _ hi (by rw [byteCells_len, str_size, HDL.out, List.length_append]; simp only [List.length_cons, List.length_nil]; omega) (by omega)).mono ?_
        rintro e wy ⟨rfl, hi2, hby, hky⟩
        rw [cells_str, HE.out] at hi2
        have HI3 := Lib.hid hi2
        have HB3 := Lib.hid (HB2.out.trans hby)
        clear hi hi2 hby hky hdc
        go_wp2_with fail
        go_roundw
        case rel => exact ⟨k + 1, by omega, by go_num, HI3, HB3⟩
        case measure => simp [intOf]; omega
    · obtain rfl : dn = k := by omega
      have HIA : Hid (Lib.IsBuilderF 69 5 w1.heap.size w1.heap.size (Lib.byteCells (joinL 44 (l.ds.map dayL))) wr) := by
        have e := hI.out
        rw [List.take_of_length_le (by rw [HD.out.1]; exact Nat.le_refl _)] at e
        exact e
      have hdl2 : (joinL 44 (l.ds.map dayL)).length ≤ 28 := by
        have e := hdl
        rw [List.take_of_length_le (by rw [HD.out.1]; exact Nat.le_refl _)] at e
        exact e
      have HCW : Hid (Blk wr w.heap.size 25 #[.slice dA dn dc, .slice y.A y.n y.c, .slice m.A m.n m.c, .slice t.A t.n t.c, .slice h.A h.n h.c, .slice i.A i.n i.c, .slice s.A s.n s.c]) := HC2.out.below hb.out hz
      have y0 := HCW.out.cell 0
      clear hlt hdl
      by_cases h0 : dn = 0
      · have g0 : (dn : Int) ≤ 0 := by omega
        have HPC : Hid (joinL 44 (l.ds.map dayL) ++ bodyL l = printC l) := by
          have hds : l.ds = [] := List.length_eq_zero_iff.1 (by rw [HD.out.1]; exact h0)
          show _ = _
          unfold printC
          rw [if_pos HMM.out, if_pos hds, hds]; rfl
        have HPRE : Hid ((joinL 44 (l.ds.map dayL)).length ≤ 29) := by show _ ≤ _; omega
        have HIB := HIA
        have HWB := hb
        have HCB := HCW
        clear h0 hI y0
        obtain ⟨c0, c1, c2, c3, c4, c5, c6⟩ := cells7c HCB.out
        go_wp2_with fail
        refine (HLi.out _).mono ?_
        rintro e w5 ⟨rfl, hb5⟩
        have HI5 := Lib.hid (builder_later HIB.out hb5)
        have HW5 : Hid (Below w1.heap.size w2 w5) := HWB.out.trans (hb5.mono (by have := HWB.out.size; omega))
        clear hb5 c0 c1 c2 c3 c4 c5 c6
        have HI50 : Hid (Lib.IsBuilderF 69 5 w1.heap.size w1.heap.size (Lib.byteCells ((joinL 44 (l.ds.map dayL)) ++ fu l 0)) w5) := by rw [show (joinL 44 (l.ds.map dayL)) ++ fu l 0 = (joinL 44 (l.ds.map dayL)) from List.append_nil _]; exact HI5.out
        go_wp2_with fail
        go_loopw [35] (fun x wr => ∃ f : Nat, f ≤ 6 ∧ x = .int .i64 f ∧ Hid (Lib.IsBuilderF 69 5 w1.heap.size w1.heap.size (Lib.byteCells ((joinL 44 (l.ds.map dayL)) ++ fu l f)) wr) ∧ Hid (Below w1.heap.size w2 wr)) (fun x wr => (6 - intOf x).toNat)
        case atStart => exact ⟨0, by omega, rfl, HI50, HW5⟩
        case round =>
          obtain ⟨f, hf, rfl, hI, hb⟩ := hrel
          by_cases hf6 : f < 6
          · have hf5 : f ≤ 5 := by omega
            have f0 : (0 : Int) ≤ (f : Int) := by omega
            have f6 : (f : Int) < 6 := by omega
            have hix := HIx.out f hf5
            have HP := Lib.hid (HC.out.2 f)
            generalize Ch.fsl ⟨⟨dA, dn, dc⟩, y, m, t, h, i, s⟩ f = S at HP hix
            obtain ⟨A, n, cc⟩ := S
            dsimp only at hix
            have HP : Hid (PtsAt w w.heap.size A n (l.fld f)) := HP
            have HPr : Hid (PtsAt wr w1.heap.size A n (l.fld f)) := PtsAt.wide (HP.out.below (HW0.out.trans (hb.out.mono HZ.out))) HZ.out
            have HF := Lib.hid (mayC_fld HMM.out hf6)
            have hsz := hb.out.size
            have hfl := fu_len l HMM.out f hf
            have hpre := HPRE.out
            have hsc := (HTA.out wr hb.out).sepc hf5
            have hss := sep_len f
            have HFU : Hid (((joinL 44 (l.ds.map dayL)) ++ fu l f) ++ sepL f ++ fieldL f (l.fld f) = (joinL 44 (l.ds.map dayL)) ++ fu l (f + 1)) := by show _ = _; rw [fu]; simp only [List.append_assoc]
            go_wp2_with fail
            refine (writeString_k _ _ _ (str (sepL f)) _ hI.out (by rw [byteCells_len, str_size]; simp only [List.length_append] at *; omega) (by omega)).mono ?_
            rintro e wx ⟨rfl, hi, hbx, hkx⟩
            rw [cells_str] at hi
            have HB2 := Lib.hid (hb.out.trans hbx)
            have HPx := Lib.hid (HPr.out.below hbx)
            have hszx := HB2.out.size
            clear hkx hbx hsc
            go_wp2_with fail
            refine (printField_any _ _ _ A n cc f (l.fld f) HF.out _ hi (by simp only [List.length_append] at *; omega) (by omega) (Tb (fun w' hw' => (HTA.out w' hw').p10) HB2.out) HPx.out).mono ?_
            rintro e wy ⟨rfl, hi2, hby, hky⟩
            rw [HFU.out] at hi2
            have HI3 := Lib.hid hi2
            have HB3 := Lib.hid (HB2.out.trans hby)
            clear hi hi2 hby hky
            go_wp2_with fail
            go_roundw
            case rel => exact ⟨f + 1, by omega, by go_num, HI3, HB3⟩
            case measure => simp [intOf]; omega
          · obtain rfl : f = 6 := by omega
            have hsz := hb.out.size
            have HEND : Hid ((joinL 44 (l.ds.map dayL)) ++ fu l 6 = printC l) := by
              show _ = _
              rw [fu_six]
              exact HPC.out
            have hI6 := hI.out
            rw [HEND.out] at hI6
            clear hf hf6
            go_wp2_with fail
            refine (Tryz.Builder_String_any_f _ _ (printC l) _ hI6 (by omega)).mono ?_
            rintro e w9 ⟨rfl, _, hb9⟩
            have HB9 := Lib.hid (HW0.out.trans ((hb.out.trans hb9).mono HZ.out))
            clear hb9
            go_wp2_with fail
            go_ret
            exact ⟨rfl, HB9.out⟩

      · have g0 : (0 : Int) < (dn : Int) := by omega
        have u1 : (0 : Nat) ≤ 1 := Nat.zero_le _
        have HPC : Hid ((joinL 44 (l.ds.map dayL) ++ [32]) ++ bodyL l = printC l) := by
          have hds : l.ds ≠ [] := fun e => h0 (by have := HD.out.1; rw [e] at this; simpa using this.symm)
          show _ = _
          unfold printC
          rw [if_pos HMM.out, if_neg hds, List.append_assoc]; rfl
        have HPRE : Hid ((joinL 44 (l.ds.map dayL) ++ [32]).length ≤ 29) := by show _ ≤ _; rw [List.length_append]; simp only [List.length_cons, List.length_nil]; omega
        clear h0 hI
        go_wp2_with fail
        refine (writeByte_k _ _ _ 32 _ HIA.out (by rw [byteCells_len]; omega) (by omega)).mono ?_
        rintro e wx ⟨rfl, hi, hbx, hkx⟩
        rw [cells_32] at hi
        have HIB := Lib.hid hi
        have HWB := Lib.hid (hb.out.trans hbx)
        have HCB : Hid (Blk wx w.heap.size 25 #[.slice dA dn dc, .slice y.A y.n y.c, .slice m.A m.n m.c, .slice t.A t.n t.c, .slice h.A h.n h.c, .slice i.A i.n i.c, .slice s.A s.n s.c]) := HCW.out.below hbx hz
        clear y0 hi hbx hkx
        obtain ⟨c0, c1, c2, c3, c4, c5, c6⟩ := cells7c HCB.out
        go_wp2_with fail
        refine (HLi.out _).mono ?_
        rintro e w5 ⟨rfl, hb5⟩
        have HI5 := Lib.hid (builder_later HIB.out hb5)
        have HW5 : Hid (Below w1.heap.size w2 w5) := HWB.out.trans (hb5.mono (by have := HWB.out.size; omega))
        clear hb5 c0 c1 c2 c3 c4 c5 c6
        have HI50 : Hid (Lib.IsBuilderF 69 5 w1.heap.size w1.heap.size (Lib.byteCells ((joinL 44 (l.ds.map dayL) ++ [32]) ++ fu l 0)) w5) := by rw [show (joinL 44 (l.ds.map dayL) ++ [32]) ++ fu l 0 = (joinL 44 (l.ds.map dayL) ++ [32]) from List.append_nil _]; exact HI5.out
        go_wp2_with fail
        go_loopw [35] (fun x wr => ∃ f : Nat, f ≤ 6 ∧ x = .int .i64 f ∧ Hid (Lib.IsBuilderF 69 5 w1.heap.size w1.heap.size (Lib.byteCells ((joinL 44 (l.ds.map dayL) ++ [32]) ++ fu l f)) wr) ∧ Hid (Below w1.heap.size w2 wr)) (fun x wr => (6 - intOf x).toNat)
        case atStart => exact ⟨0, by omega, rfl, HI50, HW5⟩
        case round =>
          obtain ⟨f, hf, rfl, hI, hb⟩ := hrel
          by_cases hf6 : f < 6
          · have hf5 : f ≤ 5 := by omega
            have f0 : (0 : Int) ≤ (f : Int) := by omega
            have f6 : (f : Int) < 6 := by omega
            have hix := HIx.out f hf5
            have HP := Lib.hid (HC.out.2 f)
            generalize Ch.fsl ⟨⟨dA, dn, dc⟩, y, m, t, h, i, s⟩ f = S at HP hix
            obtain ⟨A, n, cc⟩ := S
            dsimp only at hix
            have HP : Hid (PtsAt w w.heap.size A n (l.fld f)) := HP
            have HPr : Hid (PtsAt wr w1.heap.size A n (l.fld f)) := PtsAt.wide (HP.out.below (HW0.out.trans (hb.out.mono HZ.out))) HZ.out
            have HF := Lib.hid (mayC_fld HMM.out hf6)
            have hsz := hb.out.size
            have hfl := fu_len l HMM.out f hf
            have hpre := HPRE.out
            have hsc := (HTA.out wr hb.out).sepc hf5
            have hss := sep_len f
            have HFU : Hid (((joinL 44 (l.ds.map dayL) ++ [32]) ++ fu l f) ++ sepL f ++ fieldL f (l.fld f) = (joinL 44 (l.ds.map dayL) ++ [32]) ++ fu l (f + 1)) := by show _ = _; rw [fu]; simp only [List.append_assoc]
            go_wp2_with fail
            refine (writeString_k _ _ _ (str (sepL f)) _ hI.out (by rw [byteCells_len, str_size]; simp only [List.length_append] at *; omega) (by omega)).mono ?_
            rintro e wx ⟨rfl, hi, hbx, hkx⟩
            rw [cells_str] at hi
            have HB2 := Lib.hid (hb.out.trans hbx)
            have HPx := Lib.hid (HPr.out.below hbx)
            have hszx := HB2.out.size
            clear hkx hbx hsc
            go_wp2_with fail
            refine (printField_any _ _ _ A n cc f (l.fld f) HF.out _ hi (by simp only [List.length_append] at *; omega) (by omega) (Tb (fun w' hw' => (HTA.out w' hw').p10) HB2.out) HPx.out).mono ?_
            rintro e wy ⟨rfl, hi2, hby, hky⟩
            rw [HFU.out] at hi2
            have HI3 := Lib.hid hi2
            have HB3 := Lib.hid (HB2.out.trans hby)
            clear hi hi2 hby hky
            go_wp2_with fail
            go_roundw
            case rel => exact ⟨f + 1, by omega, by go_num, HI3, HB3⟩
            case measure => simp [intOf]; omega
          · obtain rfl : f = 6 := by omega
            have hsz := hb.out.size
            have HEND : Hid ((joinL 44 (l.ds.map dayL) ++ [32]) ++ fu l 6 = printC l) := by
              show _ = _
              rw [fu_six]
              exact HPC.out
            have hI6 := hI.out
            rw [HEND.out] at hI6
            clear hf hf6
            go_wp2_with fail
            refine (Tryz.Builder_String_any_f _ _ (printC l) _ hI6 (by omega)).mono ?_
            rintro e w9 ⟨rfl, _, hb9⟩
            have HB9 := Lib.hid (HW0.out.trans ((hb.out.trans hb9).mono HZ.out))
            clear hb9
            go_wp2_with fail
            go_ret
            exact ⟨rfl, HB9.out⟩
end Go.Proofs.YtncolcjejgmhjaaGreatDoor
