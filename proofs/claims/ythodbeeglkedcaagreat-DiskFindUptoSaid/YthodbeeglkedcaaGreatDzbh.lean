/- The walks of package disk's isTemplate, isDropIn, isUnitFile. The walks of package disk's Places, slices.Contains, isSou -/
import Derived.Test.YthodbeeglkedcaaGreatDzbg
import Derived.Test.YthodbeeglkedcaaGreatDzav
namespace Go.Proofs.YthodbeeglkedcaaGreat
open Go.RowKit
theorem isTpl_any (l : List UInt8) (hl : l.length ≤ 4194304) (w : World) :
    Calls Tryz.prog 51 #[.string (str l)] w fun e w' => e = .returned (.bool (nmsP.isT l)) ∧ Below w.heap.size w w' := by
  have HP := Lib.hid (fun W => Nm.Parts_any (str l) (by rw [str_size]; unfold maxLen; omega) W)
  have HT : Hid (nmsP.isT l = (Nm.atP (str l) && (Nm.instP (str l)).toList.isEmpty)) := isT_eq l
  generalize nmsP.isT l = r at *
  generalize Nm.preP (str l) = p0 at *
  generalize Nm.instP (str l) = i0 at *
  generalize Nm.atP (str l) = b0 at *
  rcases hi : i0.toList.isEmpty with _ | _ <;> cases b0
  all_goals
    rw [hi] at HT
    go_enter Tryz.func51, Tryz.ntmps51
    go_wp2_with fail
    refine (HP.out _).mono ?_
    rintro e w1 ⟨rfl, hb⟩
    go_wp2_with fail
    go_ret
    exact ⟨ret_bool HT.out.symm, hb⟩
theorem dropIn_no {c : List UInt8} (h : ¬ dotC <:+ c) : dropIn c = false := by
  unfold dropIn
  rw [decide_eq_false h]; rfl
theorem dropIn_yes {c : List UInt8} (h : dotC <:+ c) : dropIn c = dropN (trimC c) := by
  unfold dropIn trimC
  rw [decide_eq_true h, if_pos h]; rfl
theorem dropN_len {x : List UInt8} (h : x.length < 1 ∨ 20 < x.length) : dropN x = false := by
  unfold dropN
  rw [decide_eq_false (by omega)]; rfl
theorem dropN_all {x : List UInt8} (h1 : 1 ≤ x.length) (h2 : x.length ≤ 20) : dropN x = x.all dropB := by
  unfold dropN
  rw [decide_eq_true ⟨h1, h2⟩]; rfl
set_option maxHeartbeats 4000000 in
theorem isDropIn_any (c : List UInt8) (hl : c.length ≤ 4194304) (w : World) :
    Calls Tryz.prog 50 #[.string (str c)] w fun e w' => e = .returned (.bool (dropIn c)) ∧ Below w.heap.size w w' := by
  have HC := Lib.hid (fun W => cutSuf_any c (by unfold maxLen; omega) W)
  have hx := trimC_len c
  by_cases hs : dotC <:+ c
  · have HV := Lib.hid (dropIn_yes hs)
    rw [decide_eq_true hs] at HC
    clear hs
    generalize trimC c = x at *
    have HO := Lib.hid (fun W => containsOdd_any (str x) W)
    rw [str_list] at HO
    have hsz : (str x).size = x.length := str_size x
    by_cases h1 : x.length < 1
    · have HN := Lib.hid (dropN_len (.inl h1))
      have t1 : ((str x).size : Int) < 1 := by omega
      clear h1 hsz hx hl
      go_enter Tryz.func50, Tryz.ntmps50
      go_wp2_with fail
      refine (HC.out _).mono ?_
      rintro e w1 ⟨rfl, rfl⟩
      go_wp2_with fail
      go_ret
      exact ⟨ret_bool (by rw [HV.out, HN.out]), Below.refl _ _⟩
    · have t1 : (1 : Int) ≤ ((str x).size : Int) := by omega
      by_cases h2 : 20 < x.length
      · have HN := Lib.hid (dropN_len (.inr h2))
        have t2 : (20 : Int) < ((str x).size : Int) := by omega
        have u0 : (0 : Nat) ≤ 1 := Nat.zero_le _
        clear h1 h2 hsz hx hl
        go_enter Tryz.func50, Tryz.ntmps50
        go_wp2_with fail
        refine (HC.out _).mono ?_
        rintro e w1 ⟨rfl, rfl⟩
        go_wp2_with fail
        go_ret
        exact ⟨ret_bool (by rw [HV.out, HN.out]), Below.refl _ _⟩
      · have t2 : ((str x).size : Int) ≤ 20 := by omega
        have HN := Lib.hid (dropN_all (x := x) (by omega) (by omega))
        have u0 : (0 : Nat) ≤ 1 := Nat.zero_le _
        have u1 : (0 : Nat) ≤ 2 := Nat.zero_le _
        clear h1 h2 hsz hx hl
        generalize x.all dropB = r at *
        go_enter Tryz.func50, Tryz.ntmps50
        go_wp2_with fail
        refine (HC.out _).mono ?_
        rintro e w1 ⟨rfl, rfl⟩
        go_wp2_with fail
        refine (HO.out _).mono ?_
        rintro e w2 ⟨rfl, hb⟩
        go_wp2_with fail
        go_ret
        exact ⟨ret_bool (by rw [HV.out, HN.out]), hb⟩
  · have HV := Lib.hid (dropIn_no hs)
    rw [decide_eq_false hs] at HC
    clear hs hx
    go_enter Tryz.func50, Tryz.ntmps50
    go_wp2_with fail
    refine (HC.out _).mono ?_
    rintro e w1 ⟨rfl, rfl⟩
    go_wp2_with fail
    go_ret
    exact ⟨ret_bool HV.out.symm, Below.refl _ _⟩
theorem kind_int (a b : List UInt8) (k : Bool) (h : decide (nmsP.kind a = nmsP.kind b) = k) : (Nm.kindP (str a) == Nm.kindP (str b)) = k := by
  rw [← h, Bool.eq_iff_iff, beq_iff_eq, decide_eq_true_eq]
  exact Iff.rfl
set_option maxHeartbeats 8000000 in
theorem isUnitFile_any (x : Fi) (u : List UInt8) (hs : SizeF x) (hu : u.length ≤ 4194304) (w : World) :
    Calls Tryz.prog 48 #[.agg #[.string (str x.p), .string (str x.t), .string (str x.l)], .string (str u)] w fun e w' => e = .returned (.bool (unitF nmsP x u)) ∧ Below w.heap.size w w' := by
  obtain ⟨hp, ht, hl⟩ := hs
  have HK0 : Hid (Blk (w.alloc (.cells #[.string (str x.p), .string (str x.t), .string (str x.l)] 34)) w.heap.size 34 (fiA x)) := Blk.new w _ _
  have HB0 : Hid (Below w.heap.size w (w.alloc (.cells #[.string (str x.p), .string (str x.t), .string (str x.l)] 34))) := (Below.refl _ w).alloc (Nat.le_refl _) _
  have HG := Lib.hid (fun W => Nm.May_any (str u) (by rw [str_size]; unfold maxLen; omega) W)
  have HKu := Lib.hid (fun W => Nm.Kind_any (str u) (by rw [str_size]; unfold maxLen; omega) W)
  have HKl := Lib.hid (fun W => Nm.Kind_any (str x.l) (by rw [str_size]; unfold maxLen; omega) W)
  have HTu := Lib.hid (fun W => isTpl_any u hu W)
  have HTl := Lib.hid (fun W => isTpl_any x.l hl W)
  have HV : Hid (unitF nmsP x u = if Nm.goodP (str u) = false then false else if x.l = [] then true else if x.t ≠ [] then false else if x.l = nulL then true else decide (nmsP.kind x.l = nmsP.kind u) && decide (nmsP.isT x.l = nmsP.isT u)) := rfl
  have e1 := eq_nil x.t
  have e2 := eq_nil x.l
  have e3 := eq_nul x.l
  have hk := kind_int x.l u _ rfl
  clear hp ht hl hu
  generalize hgp : Nm.goodP (str u) = gp at *
  generalize decide (nmsP.kind x.l = nmsP.kind u) = kk at *
  clear hgp
  go_enter Tryz.func48, Tryz.ntmps48
  go_wp2_with fail
  generalize w.alloc (.cells #[.string (str x.p), .string (str x.t), .string (str x.l)] 34) = w0 at *
  refine (HG.out _).mono ?_
  rintro e w1 ⟨rfl, hb1⟩
  have HK1 := Lib.hid (HK0.out.below hb1 HK0.out.lt)
  have HB1 := Lib.hid (more3 HB0.out HB0.out.size hb1)
  have q1 : w1.cell? ⟨w.heap.size, 1, none⟩ = some (.string (str x.t)) := HK1.out.cell 1
  have q2 : w1.cell? ⟨w.heap.size, 2, none⟩ = some (.string (str x.l)) := HK1.out.cell 2
  clear HK0 HB0 hb1
  rcases gp with _ | _
  · go_wp2_with fail
    go_ret
    exact ⟨ret_bool (by rw [HV.out]; rfl), HB1.out⟩
  by_cases h1 : x.l = []
  · have HR : Hid (unitF nmsP x u = true) := by show _ = _; rw [HV.out]; simp [h1]
    rw [decide_eq_true h1] at e2
    clear h1 HV e1 e3 hk
    go_wp2_with fail
    go_ret
    exact ⟨ret_bool HR.out.symm, HB1.out⟩
  rw [decide_eq_false h1] at e2
  by_cases h2 : x.t = []
  · rw [decide_eq_true h2] at e1
    by_cases h3 : x.l = nulL
    · have HR : Hid (unitF nmsP x u = true) := by show _ = _; rw [HV.out]; simp [h2, h3]
      rw [decide_eq_true h3] at e3
      clear h1 h2 h3 HV hk
      go_wp2_with fail
      go_ret
      exact ⟨ret_bool HR.out.symm, HB1.out⟩
    · rw [decide_eq_false h3] at e3
      have HR : Hid (unitF nmsP x u = (kk && decide (nmsP.isT x.l = nmsP.isT u))) := by show _ = _; rw [HV.out]; simp [h1, h2, h3]
      clear h1 h2 h3 HV
      generalize nmsP.isT x.l = ta at *
      generalize nmsP.isT u = tb at *
      go_wp2_with fail
      refine (HKl.out _).mono ?_
      rintro e2 w2 ⟨rfl, hb2⟩
      have HK2 := Lib.hid (HK1.out.below hb2 HK1.out.lt)
      have HB2 := Lib.hid (more3 HB1.out HB1.out.size hb2)
      clear hb2
      go_wp2_with fail
      refine (HKu.out _).mono ?_
      rintro e3 w3 ⟨rfl, hb3⟩
      have HK3 := Lib.hid (HK2.out.below hb3 HK2.out.lt)
      have HB3 := Lib.hid (more3 HB2.out HB2.out.size hb3)
      have q3 : w3.cell? ⟨w.heap.size, 2, none⟩ = some (.string (str x.l)) := HK3.out.cell 2
      clear hb3 HK2 HB2 HK1 HB1
      cases kk
      · go_wp2_with fail
        go_ret
        exact ⟨ret_bool (by rw [HR.out]; rfl), HB3.out⟩
      · go_wp2_with fail
        refine (HTl.out _).mono ?_
        rintro e4 w4 ⟨rfl, hb4⟩
        have HB4 := Lib.hid (more3 HB3.out HB3.out.size hb4)
        clear hb4
        go_wp2_with fail
        refine (HTu.out _).mono ?_
        rintro e5 w5 ⟨rfl, hb5⟩
        have HB5 := Lib.hid (more3 HB4.out HB4.out.size hb5)
        clear hb5
        cases ta <;> cases tb
        all_goals
          go_wp2_with fail
          go_ret
          exact ⟨ret_bool (by rw [HR.out]; rfl), HB5.out⟩
  · have HR : Hid (unitF nmsP x u = false) := by show _ = _; rw [HV.out]; simp [h1, h2]
    rw [decide_eq_false h2] at e1
    clear h1 h2 HV e3 hk
    go_wp2_with fail
    go_ret
    exact ⟨ret_bool HR.out.symm, HB1.out⟩
end Go.Proofs.YthodbeeglkedcaaGreat
namespace Go.Proofs.YthodbeeglkedcaaGreat
open Go.RowKit
set_option maxHeartbeats 4000000 in
theorem idxIn_any (A : Option Addr) (n c B : Nat) (l : List (List UInt8)) (v : ByteArray) (w : World) (h : RowAt w B A n l) :
    Calls Tryz.prog 70 #[.slice A n c, .string v] w fun e w' => ∃ i : Int, e = .returned (.int .i64 i) ∧ decide (0 ≤ i) = l.any (fun x => decide (x = v.data.toList)) ∧ w' = w := by
  have hm := h.2.1
  unfold maxLen at hm
  have hl := h.1
  have HL := Lib.hid h
  have HN0 : Hid ((l.take 0).any (fun x => decide (x = v.data.toList)) = false) := rfl
  clear h
  go_enter Tryz.func70, Tryz.ntmps70
  go_wp2_with fail
  go_loopw [8] (fun i wr => ∃ k : Nat, k ≤ n ∧ i = .int .i64 k ∧ w = wr ∧ Hid ((l.take k).any (fun x => decide (x = v.data.toList)) = false)) (fun i wr => n - (intOf i).toNat)
  case atStart => exact ⟨0, Nat.zero_le _, rfl, rfl, HN0⟩
  case round =>
    obtain ⟨k, hk, rfl, rfl, hN⟩ := hrel
    by_cases hlt : k < n
    · have b0 : (0 : Int) ≤ (k : Int) := by omega
      have b1 : (k : Int) < (n : Int) := by omega
      obtain ⟨ad, x, rfl, hab, hx, q0⟩ := HL.out.at_ hlt
      obtain ⟨n1, n2⟩ := any_take hN.out hx
      have hq : (v.toList == (str x).toList) = decide (x = v.data.toList) := by
        rw [Lib.toList_data, Lib.toList_data, str_list, Bool.eq_iff_iff, decide_eq_true_eq, beq_iff_eq]
        exact eq_comm
      clear hx
      by_cases hf : x = v.data.toList
      · have HF := Lib.hid (n1 (decide_eq_true hf))
        rw [decide_eq_true hf] at hq
        clear hf n1 n2
        go_wp2_with fail
        go_ret
        exact ⟨_, rfl, by rw [HF.out]; simp, by first | rfl | trivial⟩
      · have HF := Lib.hid (n2 (decide_eq_false hf))
        rw [decide_eq_false hf] at hq
        clear hf n1 n2
        go_wp2_with fail
        go_roundw
        case rel => exact ⟨k + 1, by omega, by go_num, by first | rfl | trivial, HF⟩
        case measure => simp [intOf]; omega
    · obtain rfl : k = n := by omega
      have HF : Hid (l.any (fun x => decide (x = v.data.toList)) = false) := by
        have := hN.out
        rwa [List.take_of_length_le (by omega)] at this
      go_wp2_with fail
      go_ret
      exact ⟨_, rfl, by rw [HF.out]; simp, by first | rfl | trivial⟩
theorem hasIn_any (A : Option Addr) (n c B : Nat) (l : List (List UInt8)) (v : ByteArray) (w : World) (h : RowAt w B A n l) :
    Calls Tryz.prog 47 #[.slice A n c, .string v] w fun e w' => e = .returned (.bool (l.any (fun x => decide (x = v.data.toList)))) ∧ w' = w := by
  have HC := Lib.hid (idxIn_any A n c B l v w h)
  clear h
  go_enter Tryz.func47, Tryz.ntmps47
  go_wp2_with fail
  refine HC.out.mono ?_
  rintro e w1 ⟨i, rfl, hi, rfl⟩
  have HI := Lib.hid hi
  clear hi
  go_wp2_with fail
  go_ret
  exact ⟨ret_bool HI.out, rfl⟩
theorem dPlaces_any (w : World) :
    Calls Tryz.prog 12 #[] w fun e w' => ∃ A c, e = .returned (.slice A 3 c) ∧ RowAt w' w'.heap.size A 3 plc ∧ Below w.heap.size w w' := by
  go_enter Tryz.func12, Tryz.ntmps12
  go_wp2_with fail
  go_ret
  exact ⟨_, _, rfl, rowAt_new w _ plc (by decide), (Below.refl _ w).alloc (Nat.le_refl _) _⟩
def ptN (b : List UInt8) : Nat := (Lib.lastIndexByte (str b) 46).toNat
theorem byte_of {b : List UInt8} {i : Nat} (hi : i < b.length) : ((str b).data[i]!) = b[i] := by
  have : (str b).data = b.toArray := rfl
  rw [this]
  simp [hi]
theorem pt_at (b : List UInt8) : ptN b ≤ b.length ∧ IsPt b (ptN b) ∧ (Lib.lastIndexByte (str b) 46 = ptN b ∨ (Lib.lastIndexByte (str b) 46 = -1 ∧ ptN b = 0)) := by
  unfold ptN
  rcases Lib.lastIndexByte_spec (str b) 46 with ⟨h1, h2⟩ | ⟨i, hi, h1, h2, h3⟩
  · rw [h1]
    refine ⟨Nat.zero_le _, .inl ⟨fun hm => ?_, rfl⟩, .inr ⟨rfl, rfl⟩⟩
    obtain ⟨k, hk, e⟩ := List.getElem_of_mem hm
    have := h2 k (by rw [str_size]; exact hk)
    rw [byte_of hk, e] at this
    exact this (by decide)
  · rw [str_size] at hi
    rw [h1]
    refine ⟨by omega, .inr ⟨b.take i, b.drop (i + 1), ?_, ?_, ?_⟩, .inl (by simp)⟩
    · rw [byte_of hi] at h2
      have e : b[i] = 46 := UInt8.toNat_inj.1 (by have h46 : (46 : UInt8).toNat = 46 := rfl; omega)
      conv => lhs; rw [← List.take_append_drop i b, List.drop_eq_getElem_cons hi, e]
    · intro hm
      obtain ⟨k, hk, e⟩ := List.getElem_of_mem hm
      rw [List.length_drop] at hk
      rw [List.getElem_drop] at e
      have := h3 (i + 1 + k) (by omega) (by rw [str_size]; omega)
      rw [byte_of (by omega), e] at this
      exact this (by decide)
    · rw [List.length_take]; omega
theorem sound_may (x : Fi) : mayF nmsP x = (if 20000 < x.t.length ∨ cA x.p ∉ plc then false else if cF (cB x.p) = false then unitF nmsP x (cB x.p) else deepF nmsP x (cA (cB x.p)) (cB (cB x.p)) (ptN (cA (cB x.p)))) :=
  (sound_eq nmsOk x ptN (fun b => (pt_at b).2.1)).symm
theorem takeK_str (b : List UInt8) (k : Nat) : (str b).extract 0 k = str (b.take k) := by
  apply Nm.ext_list
  rw [Lib.extract_data, str_list, str_list]
  simp
theorem dropK_str (b : List UInt8) (k : Nat) : (str b).extract k (str b).size = str (b.drop k) := by
  apply Nm.ext_list
  rw [tail_list, str_list, str_list]
theorem good_str (b : List UInt8) (hl : b.length ≤ 4194304) (w : World) :
    Calls Tryz.prog 13 #[.string (str b)] w fun e w' => e = .returned (.bool (nmsP.good b)) ∧ Below w.heap.size w w' := Nm.May_any (str b) (by rw [str_size]; unfold maxLen; omega) w
end Go.Proofs.YthodbeeglkedcaaGreat
