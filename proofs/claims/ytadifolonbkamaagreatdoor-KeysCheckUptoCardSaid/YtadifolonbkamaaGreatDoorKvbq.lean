/- The walk of the document's Exec. -/
import Derived.Test.YtadifolonbkamaaGreatDoorKvbo
import Derived.Test.YtadifolonbkamaaGreatDoorKvbp
import Derived.Test.YtadifolonbkamaaGreatDoorKvbn
import Derived.BigRegion
namespace Go.Proofs.YtadifolonbkamaaGreatDoor
open Go.RowKit
def exA (d : Bool) (A : Option Addr) (n c : Nat) : Array Value := #[.bool d, .slice A n c]
theorem exA_all (d : Bool) (A : Option Addr) (n c : Nat) : (exA d A n c).all (·.oneCell') = true := by simp [exA, Value.oneCell']
def SayP (b : Bool) (w : World) (e : Ending) (w' : World) : Prop := (∃ v, e = .returned (.tuple #[v, .bool b])) ∧ Below w.heap.size w w'
theorem SayP.of {b b' : Bool} {w w' : World} {v : Value} (h : b' = b) (hb : Below w.heap.size w w') : SayP b' w (.returned (.tuple #[v, .bool b])) w' := ⟨⟨v, by rw [h]⟩, hb⟩
theorem dash_yes {s : ByteArray} (h : 0 < s.size) (hc : s[0] = 45) : dashT s = s.extract 1 s.size := by
  refine ext_bytes ?_
  have e := drop_at s 0 h
  rw [List.drop_zero, hc] at e
  unfold dashT
  rw [str_list, e, Lib.extract_data, e, List.take_of_length_le (by rw [List.length_drop, List.length_cons, List.length_drop, size_list]; omega)]
  rfl
theorem dash_no {s : ByteArray} (h : ∀ h : 0 < s.size, s[0] ≠ 45) : dashT s = s := by
  unfold dashT
  rcases Nat.eq_zero_or_pos s.size with h0 | h0
  · have : s.data.toList = [] := List.eq_nil_of_length_eq_zero (by rw [size_list]; exact h0)
    refine ext_bytes ?_
    rw [str_list, this]; rfl
  · refine ext_bytes ?_
    have e := drop_at s 0 h0
    rw [List.drop_zero] at e
    rw [str_list, e]
    have hne := h h0
    unfold Lib.trimPrefix
    have : Lib.hasPrefix (s[0] :: s.data.toList.drop (0 + 1)) [45] = false := by
      unfold Lib.hasPrefix
      rw [List.isPrefixOf_cons_cons]
      have : ((45 : UInt8) == s[0]) = false := by rw [beq_eq_false_iff_ne]; exact fun q => hne q.symm
      rw [this]; rfl
    rw [this]; rfl
theorem emp_size (s : ByteArray) : s.toList.isEmpty = decide (s.size = 0) := by
  rw [Lib.toList_data, ← size_list]
  cases s.data.toList <;> rfl
set_option maxRecDepth 100000 in
set_option maxHeartbeats 8000000 in
theorem Exec_any (s : ByteArray) (hs : s.size ≤ 1048576) (w : World) :
    Calls Tryz.prog 35 #[.string s] w (SayP (cmdS s) w) := by
  have HR0 : Hid (Blk ((w.alloc (.cells #[.bool false, .slice none 0 0] 67)).alloc (.cells #[.bool false, .slice none 0 0] 67)) w.heap.size 67 (exA false none 0 0)) := (Blk.new w _ _).alloc _
  have HX0 : Hid (Blk ((w.alloc (.cells #[.bool false, .slice none 0 0] 67)).alloc (.cells #[.bool false, .slice none 0 0] 67)) (w.heap.size + 1) 67 (exA false none 0 0)) := by
    have := Blk.new (w.alloc (.cells #[.bool false, .slice none 0 0] 67)) 67 (exA false none 0 0)
    rw [World.size_alloc] at this
    exact this
  have HB0 : Hid (Below w.heap.size w ((w.alloc (.cells #[.bool false, .slice none 0 0] 67)).alloc (.cells #[.bool false, .slice none 0 0] 67))) := ((Below.refl _ _).alloc (Nat.le_refl _) _).alloc (by simp) _
  have HCM : Hid (∀ t ws er, dashT s = t → Wd.splitW t.data.toList = (ws, er) → cmdS s = (decide (er = 0) && (match ws with | [] => false | x :: _ => !decide (x = [])))) := fun t ws er h1 h2 => by
    unfold cmdS cmdW
    rw [h1, h2]
    rfl
  by_cases hd : ∃ h : 0 < s.size, s[0] = 45
  · obtain ⟨h0, hc⟩ := hd
    have HT := Lib.hid (dash_yes h0 hc)
    have e1 : s.toList.isEmpty = false := by rw [emp_size]; exact decide_eq_false (by omega)
    have e2 : ((s[0].toNat : Int) == 45) = true := by rw [hc]; rfl
    have b0 : (1 : Int) ≤ (s.size : Int) := by omega
    have b1 : (0 : Int) < (s.size : Int) := by omega
    have ht : (s.extract 1 s.size).size ≤ 1048576 := by rw [ByteArray.size_extract]; omega
    clear hc
    go_enter Tryz.func35, Tryz.ntmps35
    go_wp2_with fail
    generalize (w.alloc (.cells #[.bool false, .slice none 0 0] 67)).alloc (.cells #[.bool false, .slice none 0 0] 67) = wa at *
    have c0 : wa.cell? ⟨w.heap.size + 1, 0, none⟩ = some (.bool false) := HX0.out.cell 0
    have f0 := HX0.out.frozen 0
    go_region
    have HX1 : Hid (Blk (wa.setCell ⟨w.heap.size + 1, 0, none⟩ (.bool true)).drew (w.heap.size + 1) 67 (exA true none 0 0)) := (HX0.out.setCell 0 (.bool true)).drew
    have HR1 : Hid (Blk (wa.setCell ⟨w.heap.size + 1, 0, none⟩ (.bool true)).drew w.heap.size 67 (exA false none 0 0)) := (HR0.out.setOther (a := ⟨w.heap.size + 1, 0, none⟩) (by simp) (.bool true)).drew
    have HB1 : Hid (Below w.heap.size w (wa.setCell ⟨w.heap.size + 1, 0, none⟩ (.bool true)).drew) := (HB0.out.setCell (p := ⟨w.heap.size + 1, 0, none⟩) (Nat.le_succ _) _).drew
    go_wp2_with fail
    generalize (wa.setCell ⟨w.heap.size + 1, 0, none⟩ (.bool true)).drew = wb at *
    clear HX0 HR0 HB0 c0 f0
    refine (Wd.rSplit_any (s.extract 1 s.size) ht _).mono ?_
    rintro e w2 ⟨A, n, c, rfl, hnc, hn32, hrow, hb2⟩
    have HX2 := Lib.hid (HX1.out.below hb2 HX1.out.lt)
    have HR2 := Lib.hid (HR1.out.below hb2 HR1.out.lt)
    have HB2 := Lib.hid (more3 HB1.out HB1.out.size hb2)
    obtain ⟨⟨ws, er⟩, hsp⟩ : ∃ p, Wd.splitW ((s.extract 1 s.size)).data.toList = p := ⟨_, rfl⟩
    have HC1 := Lib.hid (HCM.out _ ws er HT.out hsp)
    rw [hsp] at hrow
    rw [hsp]
    have hn := hrow.1
    clear hb2 hsp HX1 HR1 HB1
    dsimp only at hn hrow
    by_cases he : er = 0
    · subst he
      have e5 : (((0 : Nat) : Int) != 0) = false := rfl
      cases ws with
      | nil =>
        have HC : Hid (cmdS s = false) := HC1.out
        have hn0 : n = 0 := by simpa using hn.symm
        subst hn0
        clear HC1 hrow hn
        go_wp2_with (refine wpList_store_row rfl 67 (.tmp 2) (.tmp 36) (by rfl) w.heap.size (exA false none 0 0) (by rfl) (by rfl) 67 (exA false none 0 0) HR2.out (by kernel_rfl) rfl (exA_all _ _ _ _) ?_)
        refine bodyPost_ret (results_cell_tmp (p := 2) (q := 3) rfl _ _ w.heap.size 67 (exA false none 0 0) _ _ rfl rfl (Blk.row HR2.out _) Tryz.underlying67 rfl (by kernel_rfl)) rfl ?_
        exact SayP.of HC.out (below_setRow HB2.out (Nat.le_refl _) _)
      | cons y ys =>
        have hn1 : n = ys.length + 1 := by simpa using hn.symm
        subst hn1
        have e6 : (((ys.length + 1 : Nat) : Int) == 0) = false := by simp; omega
        have e7 : (0 : Int) < ((ys.length + 1 : Nat) : Int) := by omega
        obtain ⟨ad, y', rfl, hab, hy', hcy⟩ := (show RowAt w2 w2.heap.size A (ys.length + 1) (y :: ys) from hrow).at_ (k := 0) (by omega)
        have hyy : y' = y := by simpa using hy'.symm
        subst hyy
        have e8 := emp_str y'
        have hcz : w2.cell? ad = some (.string (str y')) := by rw [← hcy]; simp [Addr.add]
        by_cases hy : y' = []
        · have HC : Hid (cmdS s = false) := by show _ = _; rw [HC1.out]; simp [hy]
          have e9 : (str y').toList.isEmpty = true := by rw [e8]; exact decide_eq_true hy
          clear HC1 hrow hn e8 hy
          go_wp2_with (refine wpList_store_row rfl 67 (.tmp 2) (.tmp 36) (by rfl) w.heap.size (exA false none 0 0) (by rfl) (by rfl) 67 (exA false none 0 0) HR2.out (by kernel_rfl) rfl (exA_all _ _ _ _) ?_)
          refine bodyPost_ret (results_cell_tmp (p := 2) (q := 3) rfl _ _ w.heap.size 67 (exA false none 0 0) _ _ rfl rfl (Blk.row HR2.out _) Tryz.underlying67 rfl (by kernel_rfl)) rfl ?_
          exact SayP.of HC.out (below_setRow HB2.out (Nat.le_refl _) _)
        · have HC : Hid (cmdS s = true) := by show _ = _; rw [HC1.out]; simp [hy]
          have e9 : (str y').toList.isEmpty = false := by rw [e8]; exact decide_eq_false hy
          have k1 : w2.cell? ⟨w.heap.size + 1, 1, none⟩ = some (.slice none 0 0) := HX2.out.cell 1
          have l1 := HX2.out.frozen 1
          have HX3 : Hid (Blk (w2.setCell ⟨w.heap.size + 1, 1, none⟩ (.slice (some ad) (ys.length + 1) c)) (w.heap.size + 1) 67 (exA true (some ad) (ys.length + 1) c)) := HX2.out.setCell 1 _
          have HR3 : Hid (Blk (w2.setCell ⟨w.heap.size + 1, 1, none⟩ (.slice (some ad) (ys.length + 1) c)) w.heap.size 67 (exA false none 0 0)) := HR2.out.setOther (a := ⟨w.heap.size + 1, 1, none⟩) (by simp) _
          have HB3 : Hid (Below w.heap.size w (w2.setCell ⟨w.heap.size + 1, 1, none⟩ (.slice (some ad) (ys.length + 1) c))) := HB2.out.setCell (p := ⟨w.heap.size + 1, 1, none⟩) (Nat.le_succ _) _
          clear HC1 hrow hn e8 hy
          go_wp2_with (first | (refine wpList_load_row rfl 67 (.tmp 4) (by rfl) (w.heap.size + 1) (by rfl) 67 (exA true (some ad) (ys.length + 1) c) (0, 0) _ HX3.out Tryz.underlying67 rfl (by kernel_rfl) ?_) | (refine wpList_store_row rfl 67 (.tmp 2) (.tmp 39) (by rfl) w.heap.size (exA true (some ad) (ys.length + 1) c) (by rfl) (by rfl) 67 (exA false none 0 0) HR3.out (by kernel_rfl) rfl (exA_all _ _ _ _) ?_))
          refine bodyPost_ret (results_cell_tmp (p := 2) (q := 3) rfl _ _ w.heap.size 67 (exA true (some ad) (ys.length + 1) c) _ _ rfl rfl (Blk.row HR3.out _) Tryz.underlying67 rfl (by kernel_rfl)) rfl ?_
          exact SayP.of HC.out (below_setRow HB3.out (Nat.le_refl _) _)
    · have HC : Hid (cmdS s = false) := by show _ = _; rw [HC1.out]; simp [he]
      have e5 : ((er : Int) != 0) = true := by simp; omega
      clear HC1 hrow he
      go_wp2_with (refine wpList_store_row rfl 67 (.tmp 2) (.tmp 36) (by rfl) w.heap.size (exA false none 0 0) (by rfl) (by rfl) 67 (exA false none 0 0) HR2.out (by kernel_rfl) rfl (exA_all _ _ _ _) ?_)
      refine bodyPost_ret (results_cell_tmp (p := 2) (q := 3) rfl _ _ w.heap.size 67 (exA false none 0 0) _ _ rfl rfl (Blk.row HR2.out _) Tryz.underlying67 rfl (by kernel_rfl)) rfl ?_
      exact SayP.of HC.out (below_setRow HB2.out (Nat.le_refl _) _)
  · have HT : Hid (dashT s = s) := dash_no fun h0 hc => hd ⟨h0, hc⟩
    have ht := hs
    rcases Nat.eq_zero_or_pos s.size with h0 | h0
    · have e1 : s.toList.isEmpty = true := by rw [emp_size]; exact decide_eq_true h0
      clear hd h0
      go_enter Tryz.func35, Tryz.ntmps35
      go_wp2_with fail
      generalize (w.alloc (.cells #[.bool false, .slice none 0 0] 67)).alloc (.cells #[.bool false, .slice none 0 0] 67) = wb at *
      have HX1 := HX0
      have HR1 := HR0
      have HB1 := HB0
      refine (Wd.rSplit_any s ht _).mono ?_
      rintro e w2 ⟨A, n, c, rfl, hnc, hn32, hrow, hb2⟩
      have HX2 := Lib.hid (HX1.out.below hb2 HX1.out.lt)
      have HR2 := Lib.hid (HR1.out.below hb2 HR1.out.lt)
      have HB2 := Lib.hid (more3 HB1.out HB1.out.size hb2)
      obtain ⟨⟨ws, er⟩, hsp⟩ : ∃ p, Wd.splitW (s).data.toList = p := ⟨_, rfl⟩
      have HC1 := Lib.hid (HCM.out _ ws er HT.out hsp)
      rw [hsp] at hrow
      rw [hsp]
      have hn := hrow.1
      clear hb2 hsp HX1 HR1 HB1
      dsimp only at hn hrow
      by_cases he : er = 0
      · subst he
        have e5 : (((0 : Nat) : Int) != 0) = false := rfl
        cases ws with
        | nil =>
          have HC : Hid (cmdS s = false) := HC1.out
          have hn0 : n = 0 := by simpa using hn.symm
          subst hn0
          clear HC1 hrow hn
          go_wp2_with (refine wpList_store_row rfl 67 (.tmp 2) (.tmp 36) (by rfl) w.heap.size (exA false none 0 0) (by rfl) (by rfl) 67 (exA false none 0 0) HR2.out (by kernel_rfl) rfl (exA_all _ _ _ _) ?_)
          refine bodyPost_ret (results_cell_tmp (p := 2) (q := 3) rfl _ _ w.heap.size 67 (exA false none 0 0) _ _ rfl rfl (Blk.row HR2.out _) Tryz.underlying67 rfl (by kernel_rfl)) rfl ?_
          exact SayP.of HC.out (below_setRow HB2.out (Nat.le_refl _) _)
        | cons y ys =>
          have hn1 : n = ys.length + 1 := by simpa using hn.symm
          subst hn1
          have e6 : (((ys.length + 1 : Nat) : Int) == 0) = false := by simp; omega
          have e7 : (0 : Int) < ((ys.length + 1 : Nat) : Int) := by omega
          obtain ⟨ad, y', rfl, hab, hy', hcy⟩ := (show RowAt w2 w2.heap.size A (ys.length + 1) (y :: ys) from hrow).at_ (k := 0) (by omega)
          have hyy : y' = y := by simpa using hy'.symm
          subst hyy
          have e8 := emp_str y'
          have hcz : w2.cell? ad = some (.string (str y')) := by rw [← hcy]; simp [Addr.add]
          by_cases hy : y' = []
          · have HC : Hid (cmdS s = false) := by show _ = _; rw [HC1.out]; simp [hy]
            have e9 : (str y').toList.isEmpty = true := by rw [e8]; exact decide_eq_true hy
            clear HC1 hrow hn e8 hy
            go_wp2_with (refine wpList_store_row rfl 67 (.tmp 2) (.tmp 36) (by rfl) w.heap.size (exA false none 0 0) (by rfl) (by rfl) 67 (exA false none 0 0) HR2.out (by kernel_rfl) rfl (exA_all _ _ _ _) ?_)
            refine bodyPost_ret (results_cell_tmp (p := 2) (q := 3) rfl _ _ w.heap.size 67 (exA false none 0 0) _ _ rfl rfl (Blk.row HR2.out _) Tryz.underlying67 rfl (by kernel_rfl)) rfl ?_
            exact SayP.of HC.out (below_setRow HB2.out (Nat.le_refl _) _)
          · have HC : Hid (cmdS s = true) := by show _ = _; rw [HC1.out]; simp [hy]
            have e9 : (str y').toList.isEmpty = false := by rw [e8]; exact decide_eq_false hy
            have k1 : w2.cell? ⟨w.heap.size + 1, 1, none⟩ = some (.slice none 0 0) := HX2.out.cell 1
            have l1 := HX2.out.frozen 1
            have HX3 : Hid (Blk (w2.setCell ⟨w.heap.size + 1, 1, none⟩ (.slice (some ad) (ys.length + 1) c)) (w.heap.size + 1) 67 (exA false (some ad) (ys.length + 1) c)) := HX2.out.setCell 1 _
            have HR3 : Hid (Blk (w2.setCell ⟨w.heap.size + 1, 1, none⟩ (.slice (some ad) (ys.length + 1) c)) w.heap.size 67 (exA false none 0 0)) := HR2.out.setOther (a := ⟨w.heap.size + 1, 1, none⟩) (by simp) _
            have HB3 : Hid (Below w.heap.size w (w2.setCell ⟨w.heap.size + 1, 1, none⟩ (.slice (some ad) (ys.length + 1) c))) := HB2.out.setCell (p := ⟨w.heap.size + 1, 1, none⟩) (Nat.le_succ _) _
            clear HC1 hrow hn e8 hy
            go_wp2_with (first | (refine wpList_load_row rfl 67 (.tmp 4) (by rfl) (w.heap.size + 1) (by rfl) 67 (exA false (some ad) (ys.length + 1) c) (0, 0) _ HX3.out Tryz.underlying67 rfl (by kernel_rfl) ?_) | (refine wpList_store_row rfl 67 (.tmp 2) (.tmp 39) (by rfl) w.heap.size (exA false (some ad) (ys.length + 1) c) (by rfl) (by rfl) 67 (exA false none 0 0) HR3.out (by kernel_rfl) rfl (exA_all _ _ _ _) ?_))
            refine bodyPost_ret (results_cell_tmp (p := 2) (q := 3) rfl _ _ w.heap.size 67 (exA false (some ad) (ys.length + 1) c) _ _ rfl rfl (Blk.row HR3.out _) Tryz.underlying67 rfl (by kernel_rfl)) rfl ?_
            exact SayP.of HC.out (below_setRow HB3.out (Nat.le_refl _) _)
      · have HC : Hid (cmdS s = false) := by show _ = _; rw [HC1.out]; simp [he]
        have e5 : ((er : Int) != 0) = true := by simp; omega
        clear HC1 hrow he
        go_wp2_with (refine wpList_store_row rfl 67 (.tmp 2) (.tmp 36) (by rfl) w.heap.size (exA false none 0 0) (by rfl) (by rfl) 67 (exA false none 0 0) HR2.out (by kernel_rfl) rfl (exA_all _ _ _ _) ?_)
        refine bodyPost_ret (results_cell_tmp (p := 2) (q := 3) rfl _ _ w.heap.size 67 (exA false none 0 0) _ _ rfl rfl (Blk.row HR2.out _) Tryz.underlying67 rfl (by kernel_rfl)) rfl ?_
        exact SayP.of HC.out (below_setRow HB2.out (Nat.le_refl _) _)
    · have hc : s[0] ≠ 45 := fun q => hd ⟨h0, q⟩
      have e1 : s.toList.isEmpty = false := by rw [emp_size]; exact decide_eq_false (by omega)
      have e2 : ((s[0].toNat : Int) == 45) = false := by
        rw [beq_eq_false_iff_ne]
        intro e
        exact hc (UInt8.toNat_inj.1 (by show s[0].toNat = 45; omega))
      have b1 : (0 : Int) < (s.size : Int) := by omega
      clear hd hc
      go_enter Tryz.func35, Tryz.ntmps35
      go_wp2_with fail
      generalize (w.alloc (.cells #[.bool false, .slice none 0 0] 67)).alloc (.cells #[.bool false, .slice none 0 0] 67) = wb at *
      have HX1 := HX0
      have HR1 := HR0
      have HB1 := HB0
      refine (Wd.rSplit_any s ht _).mono ?_
      rintro e w2 ⟨A, n, c, rfl, hnc, hn32, hrow, hb2⟩
      have HX2 := Lib.hid (HX1.out.below hb2 HX1.out.lt)
      have HR2 := Lib.hid (HR1.out.below hb2 HR1.out.lt)
      have HB2 := Lib.hid (more3 HB1.out HB1.out.size hb2)
      obtain ⟨⟨ws, er⟩, hsp⟩ : ∃ p, Wd.splitW (s).data.toList = p := ⟨_, rfl⟩
      have HC1 := Lib.hid (HCM.out _ ws er HT.out hsp)
      rw [hsp] at hrow
      rw [hsp]
      have hn := hrow.1
      clear hb2 hsp HX1 HR1 HB1
      dsimp only at hn hrow
      by_cases he : er = 0
      · subst he
        have e5 : (((0 : Nat) : Int) != 0) = false := rfl
        cases ws with
        | nil =>
          have HC : Hid (cmdS s = false) := HC1.out
          have hn0 : n = 0 := by simpa using hn.symm
          subst hn0
          clear HC1 hrow hn
          go_wp2_with (refine wpList_store_row rfl 67 (.tmp 2) (.tmp 36) (by rfl) w.heap.size (exA false none 0 0) (by rfl) (by rfl) 67 (exA false none 0 0) HR2.out (by kernel_rfl) rfl (exA_all _ _ _ _) ?_)
          refine bodyPost_ret (results_cell_tmp (p := 2) (q := 3) rfl _ _ w.heap.size 67 (exA false none 0 0) _ _ rfl rfl (Blk.row HR2.out _) Tryz.underlying67 rfl (by kernel_rfl)) rfl ?_
          exact SayP.of HC.out (below_setRow HB2.out (Nat.le_refl _) _)
        | cons y ys =>
          have hn1 : n = ys.length + 1 := by simpa using hn.symm
          subst hn1
          have e6 : (((ys.length + 1 : Nat) : Int) == 0) = false := by simp; omega
          have e7 : (0 : Int) < ((ys.length + 1 : Nat) : Int) := by omega
          obtain ⟨ad, y', rfl, hab, hy', hcy⟩ := (show RowAt w2 w2.heap.size A (ys.length + 1) (y :: ys) from hrow).at_ (k := 0) (by omega)
          have hyy : y' = y := by simpa using hy'.symm
          subst hyy
          have e8 := emp_str y'
          have hcz : w2.cell? ad = some (.string (str y')) := by rw [← hcy]; simp [Addr.add]
          by_cases hy : y' = []
          · have HC : Hid (cmdS s = false) := by show _ = _; rw [HC1.out]; simp [hy]
            have e9 : (str y').toList.isEmpty = true := by rw [e8]; exact decide_eq_true hy
            clear HC1 hrow hn e8 hy
            go_wp2_with (refine wpList_store_row rfl 67 (.tmp 2) (.tmp 36) (by rfl) w.heap.size (exA false none 0 0) (by rfl) (by rfl) 67 (exA false none 0 0) HR2.out (by kernel_rfl) rfl (exA_all _ _ _ _) ?_)
            refine bodyPost_ret (results_cell_tmp (p := 2) (q := 3) rfl _ _ w.heap.size 67 (exA false none 0 0) _ _ rfl rfl (Blk.row HR2.out _) Tryz.underlying67 rfl (by kernel_rfl)) rfl ?_
            exact SayP.of HC.out (below_setRow HB2.out (Nat.le_refl _) _)
          · have HC : Hid (cmdS s = true) := by show _ = _; rw [HC1.out]; simp [hy]
            have e9 : (str y').toList.isEmpty = false := by rw [e8]; exact decide_eq_false hy
            have k1 : w2.cell? ⟨w.heap.size + 1, 1, none⟩ = some (.slice none 0 0) := HX2.out.cell 1
            have l1 := HX2.out.frozen 1
            have HX3 : Hid (Blk (w2.setCell ⟨w.heap.size + 1, 1, none⟩ (.slice (some ad) (ys.length + 1) c)) (w.heap.size + 1) 67 (exA false (some ad) (ys.length + 1) c)) := HX2.out.setCell 1 _
            have HR3 : Hid (Blk (w2.setCell ⟨w.heap.size + 1, 1, none⟩ (.slice (some ad) (ys.length + 1) c)) w.heap.size 67 (exA false none 0 0)) := HR2.out.setOther (a := ⟨w.heap.size + 1, 1, none⟩) (by simp) _
            have HB3 : Hid (Below w.heap.size w (w2.setCell ⟨w.heap.size + 1, 1, none⟩ (.slice (some ad) (ys.length + 1) c))) := HB2.out.setCell (p := ⟨w.heap.size + 1, 1, none⟩) (Nat.le_succ _) _
            clear HC1 hrow hn e8 hy
            go_wp2_with (first | (refine wpList_load_row rfl 67 (.tmp 4) (by rfl) (w.heap.size + 1) (by rfl) 67 (exA false (some ad) (ys.length + 1) c) (0, 0) _ HX3.out Tryz.underlying67 rfl (by kernel_rfl) ?_) | (refine wpList_store_row rfl 67 (.tmp 2) (.tmp 39) (by rfl) w.heap.size (exA false (some ad) (ys.length + 1) c) (by rfl) (by rfl) 67 (exA false none 0 0) HR3.out (by kernel_rfl) rfl (exA_all _ _ _ _) ?_))
            refine bodyPost_ret (results_cell_tmp (p := 2) (q := 3) rfl _ _ w.heap.size 67 (exA false (some ad) (ys.length + 1) c) _ _ rfl rfl (Blk.row HR3.out _) Tryz.underlying67 rfl (by kernel_rfl)) rfl ?_
            exact SayP.of HC.out (below_setRow HB3.out (Nat.le_refl _) _)
      · have HC : Hid (cmdS s = false) := by show _ = _; rw [HC1.out]; simp [he]
        have e5 : ((er : Int) != 0) = true := by simp; omega
        clear HC1 hrow he
        go_wp2_with (refine wpList_store_row rfl 67 (.tmp 2) (.tmp 36) (by rfl) w.heap.size (exA false none 0 0) (by rfl) (by rfl) 67 (exA false none 0 0) HR2.out (by kernel_rfl) rfl (exA_all _ _ _ _) ?_)
        refine bodyPost_ret (results_cell_tmp (p := 2) (q := 3) rfl _ _ w.heap.size 67 (exA false none 0 0) _ _ rfl rfl (Blk.row HR2.out _) Tryz.underlying67 rfl (by kernel_rfl)) rfl ?_
        exact SayP.of HC.out (below_setRow HB2.out (Nat.le_refl _) _)
end Go.Proofs.YtadifolonbkamaaGreatDoor
