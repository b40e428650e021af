/- What the law on Check needs besides: Find, wrong and Check of the document, rows of lines as parameters, the law itself. -/
import Derived.Test.YtadifolonbkamaaGreatDoorKvbv
import Derived.Test.YtadifolonbkamaaGreatDoorKvbw
import Derived.Test.YtadifolonbkamaaGreatDoorKvbn
import Derived.Test.YtadifolonbkamaaGreatDoorTie
import Derived.Test.YtadifolonbkamaaGreatDoorCards
namespace Go.Proofs.YtadifolonbkamaaGreatDoor
open Go.RowKit
theorem lns_length (l : List Ln) : (lns l).length = l.length * 4 := by
  induction l with
  | nil => rfl
  | cons x l ih =>
    have e : lns (x :: l) = lnCells x ++ lns l := by simp [lns]
    rw [e, List.length_append, ih, List.length_cons]
    simp only [lnCells, List.length_cons, List.length_nil]
    omega
end Go.Proofs.YtadifolonbkamaaGreatDoor
namespace Go.Proofs.YtadifolonbkamaaGreatDoor
open Go.RowKit Go.Joins Go.ChangeShapes Go.WideShapes Go.ChangeAt Go.Deep
open Go.ChangeMaps (open_string shut_string)
theorem add_of_addP (a : Addr) (i j : Nat) : (a.add i).add j = a.add (i + j) := by
  unfold Addr.add
  by_cases hi : i = 0 <;> by_cases hj : j = 0 <;> simp [hi, hj, Nat.add_assoc]
theorem bulk_memP {H : Type} {x : DataW H} {l : List (DataW H)} (h : x ∈ l) : Rows.uptoBulk x ≤ Rows.uptoBulkAll l := by
  induction l with
  | nil => cases h
  | cons y l ih =>
    rw [Rows.uptoBulkAll]
    rcases List.mem_cons.1 h with rfl | h
    · omega
    · have := ih h; omega
theorem bulk_countP {H : Type} (l : List (DataW H)) (h : ∀ x ∈ l, 1 ≤ Rows.uptoBulk x) : l.length ≤ Rows.uptoBulkAll l := by
  induction l with
  | nil => exact Nat.zero_le _
  | cons y l ih =>
    rw [Rows.uptoBulkAll, List.length_cons]
    have h1 := h y (by simp)
    have h2 := ih (fun x hx => h x (by simp [hx]))
    omega
section
variable {H : Type} {enc : TypeId × Value → H} {W : World} {base : Nat} {spare : Nat → Bool} {held : Bool}
theorem trod4 {P : Program} {t : TypeId} {f0 f1 f2 f3 : Field} {n : Nat} {c0 c1 c2 c3 : Value} {y : DataW H × List MemPlace} (hs : P.underlying t = some (.struct #[f0, f1, f2, f3])) (hone : oneCellFields P #[f0, f1, f2, f3] = true) (h : DataW.trod enc P W base spare held n t [c0, c1, c2, c3] = some y) :
    ∃ (m : Nat) (y0 y1 y2 y3 : DataW H × List MemPlace), DataW.trod enc P W base spare held m f0.type [c0] = some y0 ∧ DataW.trod enc P W base spare held m f1.type [c1] = some y1 ∧ DataW.trod enc P W base spare held m f2.type [c2] = some y2 ∧
      DataW.trod enc P W base spare held m f3.type [c3] = some y3 ∧ y.1 = .agg [y0.1, y1.1, y2.1, y3.1] := by
  obtain ⟨xs, m, _, hx, _, hlen, hg⟩ := DataW.trod_struct hs h
  obtain ⟨o0, k0⟩ := hone_of hone 0 f0 rfl
  obtain ⟨o1, k1⟩ := hone_of hone 1 f1 rfl
  obtain ⟨o2, k2⟩ := hone_of hone 2 f2 rfl
  obtain ⟨o3, k3⟩ := hone_of hone 3 f3 rfl
  match xs, hlen with
  | [y0, y1, y2, y3], _ =>
    exact ⟨m, y0, y1, y2, y3, by simpa [o0, k0] using hg 0 f0 rfl, by simpa [o1, k1] using hg 1 f1 rfl, by simpa [o2, k2] using hg 2 f2 rfl, by simpa [o3, k3] using hg 3 f3 rfl, by rw [hx]; rfl⟩
theorem line_of {n : Nat} {cs : List Value} {y : DataW H × List MemPlace} (hlen : cs.length = 4) (h : DataW.trod enc Tryz.prog W base spare held n 44 cs = some y) :
    ∃ x : Ln, cs = lnCells x ∧ LnData x y.1 := by
  match cs, hlen with
  | [c0, c1, c2, c3], _ =>
    obtain ⟨m, y0, y1, y2, y3, h0, h1, h2, h3, hy⟩ := trod4 Tryz.underlying44 (by kernel_rfl) h
    obtain ⟨x0, e0, d0, w0⟩ := DataW.trod_string Tryz.underlying9 h0
    obtain ⟨x1, e1, d1, w1⟩ := DataW.trod_string Tryz.underlying9 h1
    obtain ⟨x2, e2, d2, w2⟩ := DataW.trod_string Tryz.underlying9 h2
    obtain ⟨x3, e3, d3, w3⟩ := DataW.trod_int Tryz.underlying3 h3
    obtain rfl : c0 = .string x0 := by simpa using e0
    obtain rfl : c1 = .string x1 := by simpa using e1
    obtain rfl : c2 = .string x2 := by simpa using e2
    obtain rfl : c3 = .int .i64 x3 := by simpa using e3
    refine ⟨⟨x0.data.toList, x1.data.toList, x2.data.toList, x3⟩, by simp [lnCells, str_data], ?_⟩
    unfold LnData
    rw [hy, d0, d1, d2, d3]
theorem LnData.bulk {x : Ln} {d : DataW H} (h : LnData x d) : x.s.length + x.k.length + x.v.length < Rows.uptoBulk d := by
  unfold LnData at h
  subst h
  simp only [Rows.uptoBulk, Rows.uptoBulkAll]
  omega
theorem shut_lines {W' : World} {v : Value} {d : DataW H} {ps : List MemPlace} {sp : Nat → Bool} (h : DataW.Trod enc Tryz.prog W 0 (fun _ => true) true 35 v d ps) (hb : Below W.heap.size W W') (hlt : ∀ p ∈ ps, p.block < W.heap.size) (hs : ∀ p ∈ ps, sp p.block = true) :
    DataW.Trod enc Tryz.prog W' 0 sp true 35 v d ps :=
  WideElems.Trod_stays (by kernel_rfl) (by kernel_rfl) (of_decide_eq_true (by kernel_rfl)) h (same_belowP hb hlt) hs
end
end Go.Proofs.YtadifolonbkamaaGreatDoor
namespace Go.Proofs.YtadifolonbkamaaGreatDoor
def findD (s n : List UInt8) : Option Ky := allT.find? fun x => decide (x.s = s) && decide (x.n = n)
theorem find_in (s sec n : List UInt8) (k : Int) (l : List Ky) : ((l.map (Ky.into sec k)).find? fun x => decide (x.s = s) && decide (x.n = n)) = if s = sec then namedT (l.map (Ky.into sec k)) n else none := by
  by_cases h : s = sec
  · rw [if_pos h]
    unfold namedT
    subst h
    induction l with
    | nil => rfl
    | cons x l ih =>
      rw [List.map_cons, List.find?_cons, List.find?_cons, ih]
      have : (Ky.into s k x).s = s := rfl
      simp [this]
  · rw [if_neg h]
    induction l with
    | nil => rfl
    | cons x l ih =>
      rw [List.map_cons, List.find?_cons, ih]
      have : (Ky.into sec k x).s = sec := rfl
      have h2 : ¬ sec = s := fun e => h e.symm
      simp [this, h2]
theorem findD_T (s n : List UInt8) : findD s n = findT s n := by
  have e : allT = tUnit.map (Ky.into nUnit 30) ++ tServ.map (Ky.into nServ 2) ++ tSock.map (Ky.into nSock 4) ++ tTime.map (Ky.into nTime 8) ++ tInst.map (Ky.into nInst 30) := rfl
  unfold findD
  rw [e]
  simp only [List.find?_append, find_in]
  unfold findT keysT
  by_cases h1 : s = nUnit
  · subst h1
    rw [if_pos rfl, if_pos rfl, if_neg (by decide), if_neg (by decide), if_neg (by decide), if_neg (by decide)]
    simp only [Option.or_none]
    rfl
  rw [if_neg h1, if_neg h1]
  by_cases h2 : s = nServ
  · subst h2
    rw [if_pos rfl, if_pos rfl, if_neg (by decide), if_neg (by decide), if_neg (by decide)]
    simp only [Option.or_none, Option.none_or]
    rfl
  rw [if_neg h2, if_neg h2]
  by_cases h3 : s = nSock
  · subst h3
    rw [if_pos rfl, if_pos rfl, if_neg (by decide), if_neg (by decide)]
    simp only [Option.or_none, Option.none_or]
    rfl
  rw [if_neg h3, if_neg h3]
  by_cases h4 : s = nTime
  · subst h4
    rw [if_pos rfl, if_pos rfl, if_neg (by decide)]
    simp only [Option.or_none, Option.none_or]
    rfl
  rw [if_neg h4, if_neg h4]
  by_cases h5 : s = nInst
  · subst h5
    rw [if_pos rfl, if_pos rfl]
    simp only [Option.none_or]
    rfl
  rw [if_neg h5, if_neg h5]
  rfl
end Go.Proofs.YtadifolonbkamaaGreatDoor
namespace Go.Proofs.YtadifolonbkamaaGreatDoor
open Go.RowKit
theorem find_take {l : List Ky} {p : Ky → Bool} {k : Nat} {x : Ky} (h : (l.take k).find? p = none) (hx : l[k]? = some x) : (p x = true → l.find? p = some x) ∧ (p x = false → (l.take (k + 1)).find? p = none) := by
  have hk : k < l.length := by
    rcases Nat.lt_or_ge k l.length with h' | h'
    · exact h'
    · rw [List.getElem?_eq_none h'] at hx; cases hx
  have he : l[k] = x := by rw [List.getElem?_eq_getElem hk] at hx; exact Option.some.inj hx
  constructor
  · intro e
    conv => lhs; rw [← List.take_append_drop k l]
    rw [List.find?_append, h, List.drop_eq_getElem_cons hk, he, List.find?_cons, e]
    rfl
  · intro e
    rw [List.take_succ_eq_append_getElem hk, he, List.find?_append, h]
    simp [e]
set_option maxHeartbeats 8000000 in
theorem rFind_any (s nm : ByteArray) (w : World) :
    Calls Tryz.prog 14 #[.string s, .string nm] w (NamedP (findT s.data.toList nm.data.toList) w) := by
  rw [← findD_T]
  have HR0 : Hid (Blk (w.alloc (.cells #[.string ⟨#[]⟩, .string ⟨#[]⟩, .int .i64 0, .bool false, .int .i64 0, .slice none 0 0] 28)) w.heap.size 28 (krA noKr)) := Blk.new w _ _
  have HB0 : Hid (Below w.heap.size w (w.alloc (.cells #[.string ⟨#[]⟩, .string ⟨#[]⟩, .int .i64 0, .bool false, .int .i64 0, .slice none 0 0] 28))) := (Below.refl _ w).alloc (Nat.le_refl _) _
  have HFD : Hid (findD s.data.toList nm.data.toList = allT.find? (fun x => decide (x.s = s.data.toList) && decide (x.n = nm.data.toList))) := rfl
  obtain ⟨p, hp⟩ : ∃ p : Ky → Bool, p = fun x => decide (x.s = s.data.toList) && decide (x.n = nm.data.toList) := ⟨_, rfl⟩
  rw [← hp] at HFD
  have HP := Lib.hid hp
  clear hp
  have HN0 : Hid ((allT.take 0).find? p = none) := rfl
  go_enter Tryz.func14, Tryz.ntmps14
  go_wp2_with fail
  generalize w.alloc (.cells #[.string ⟨#[]⟩, .string ⟨#[]⟩, .int .i64 0, .bool false, .int .i64 0, .slice none 0 0] 28) = w0 at *
  refine (Keys_any _).mono ?_
  rintro e1 w1 ⟨v, rfl, hk⟩
  have hb1 := hk.below
  obtain ⟨A, c, rfl, hkeys⟩ := hk.at_ (by decide +kernel)
  have HR1 := Lib.hid (HR0.out.below hb1 HR0.out.lt)
  have HB1 := Lib.hid (more3 HB0.out HB0.out.size hb1)
  have HL := Lib.hid hkeys
  clear hb1 hk hkeys
  have hn : allT.length = 42 := allT_len
  generalize hal : allT = al at *
  generalize al.length = n at *
  subst hn
  go_wp2_with fail
  go_loopw [10] (fun i wr => ∃ k : Nat, k ≤ 42 ∧ i = .int .i64 k ∧ Hid (Below w1.heap.size w1 wr) ∧ Hid (Blk wr w.heap.size 28 (krA noKr)) ∧ Hid (Below w.heap.size w wr) ∧ Hid ((al.take k).find? p = none)) (fun i wr => 42 - (intOf i).toNat)
  case atStart => exact ⟨0, Nat.zero_le _, rfl, Below.refl _ _, HR1, HB1, HN0⟩
  case round =>
    obtain ⟨k, hk, rfl, hb, hR, hB, hN⟩ := hrel
    have hRl : w.heap.size < wr.heap.size := hR.out.lt
    by_cases hlt : k < 42
    · have b0 : (0 : Int) ≤ (k : Int) := by omega
      have b1 : (k : Int) < (42 : Int) := by omega
      obtain ⟨ad, r, x, rfl, hab, hx, hr, q0, q1, q2, q3, q4, q5⟩ := (HL.out.below hb.out).at_ hlt
      have z1 : (ad.add (k * 6)).block < wr.heap.size := by rw [block_addR]; have := hb.out.size; omega
      have HX := Lib.hid hr
      obtain ⟨n1, n2⟩ := find_take hN.out hx
      have hs : ((str r.s).toList == s.toList) = decide (x.s = s.data.toList) := by
        rw [Lib.toList_data, Lib.toList_data, str_list, hr.1, Bool.eq_iff_iff, decide_eq_true_eq, beq_iff_eq]
      have hq : ((str r.n).toList == nm.toList) = decide (x.n = nm.data.toList) := by
        rw [Lib.toList_data, Lib.toList_data, str_list, hr.2.1, Bool.eq_iff_iff, decide_eq_true_eq, beq_iff_eq]
      have hpx : p x = (decide (x.s = s.data.toList) && decide (x.n = nm.data.toList)) := by rw [HP.out]
      clear hr
      rcases hd1 : decide (x.s = s.data.toList) with _ | _
      · rw [hd1] at hs
        have HF := Lib.hid (n2 (by rw [hpx, hd1]; rfl))
        clear n1 n2 hx hpx hd1 hq HX
        go_wp2_with fail
        go_roundw
        case rel => exact ⟨k + 1, by omega, by go_num, hb.out.alloc hb.out.size _, hR.out.alloc _, hB.out.alloc hB.out.size _, HF⟩
        case measure => simp [intOf]; omega
      · rw [hd1] at hs
        rcases hd2 : decide (x.n = nm.data.toList) with _ | _
        · rw [hd2] at hq
          have HF := Lib.hid (n2 (by rw [hpx, hd1, hd2]; rfl))
          clear n1 n2 hx hpx hd1 hd2 HX
          go_wp2_with fail
          go_roundw
          case rel => exact ⟨k + 1, by omega, by go_num, hb.out.alloc hb.out.size _, hR.out.alloc _, hB.out.alloc hB.out.size _, HF⟩
          case measure => simp [intOf]; omega
        · rw [hd2] at hq
          have HF : Hid (findD s.data.toList nm.data.toList = some x) := by show _ = _; rw [HFD.out]; exact n1 (by rw [hpx, hd1, hd2]; rfl)
          clear n1 n2 hx hpx hd1 hd2
          have HR1 : Hid (Blk (wr.alloc (.cells #[.string (str r.s), .string (str r.n), .int .i64 r.f, .bool r.l, .int .i64 r.k, .slice r.A r.m r.c] 28)) w.heap.size 28 (krA noKr)) := hR.out.alloc _
          have HB1 : Hid (Below w.heap.size w (wr.alloc (.cells #[.string (str r.s), .string (str r.n), .int .i64 r.f, .bool r.l, .int .i64 r.k, .slice r.A r.m r.c] 28))) := hB.out.alloc hB.out.size _
          have HX1 : Hid (r.is (wr.alloc (.cells #[.string (str r.s), .string (str r.n), .int .i64 r.f, .bool r.l, .int .i64 r.k, .slice r.A r.m r.c] 28)) w1.heap.size x) := HX.out.below (((Below.refl wr.heap.size wr).alloc (Nat.le_refl _) _).mono (by have := hb.out.size; omega))
          go_wp2_with (refine wpList_store_row rfl 28 (.tmp 4) (.tmp 24) (by rfl) w.heap.size (krA r) (by rfl) (by rfl) 28 (krA noKr) HR1.out (by kernel_rfl) rfl (krA_all _) ?_)
          refine bodyPost_ret (results_cell_tmp (p := 4) (q := 5) rfl _ _ w.heap.size 28 (krA r) _ _ rfl rfl (Blk.row HR1.out _) Tryz.underlying28 rfl (by kernel_rfl)) rfl ⟨r, by rw [HF.out]; rfl, ?_, below_setRow HB1.out (Nat.le_refl _) _⟩
          rw [HF.out]
          exact (HX1.out.keep HR1.out (by decide) (heap_row_other _ _ _)).wide (by rw [size_row]; simp; have := hb.out.size; omega)
    · obtain rfl : k = 42 := by omega
      have HF : Hid (findD s.data.toList nm.data.toList = none) := by
        show _ = _
        have := hN.out
        rw [List.take_of_length_le (by have := HL.out.1; omega)] at this
        rw [HFD.out]
        exact this
      go_wp2_with (refine wpList_store_row rfl 28 (.tmp 4) (.tmp 26) (by rfl) w.heap.size (krA noKr) (by rfl) (by rfl) 28 (krA noKr) hR.out (by kernel_rfl) rfl (krA_all _) ?_)
      exact bodyPost_ret (results_cell_tmp (p := 4) (q := 5) rfl _ _ w.heap.size 28 (krA noKr) _ _ rfl rfl (Blk.row hR.out _) Tryz.underlying28 rfl (by kernel_rfl)) rfl ⟨noKr, by rw [HF.out]; rfl, by rw [HF.out]; exact noKr_is, below_setRow hB.out (Nat.le_refl _) _⟩
theorem value_of (f : Int) (h1 : 1 ≤ f) (h2 : f ≤ 11) (x : Ky) (hx : x.f = f) (r : Kr) (v : ByteArray) (B : Nat) (w : World) (h : r.is w B x) (ht : TakesAt f r v (takesT x v) (w.alloc (.cells #[.string (str r.s), .string (str r.n), .int .i64 f, .bool r.l, .int .i64 r.k, .slice r.A r.m r.c] 28))) :
    Calls Tryz.prog 15 #[.agg #[.string (str r.s), .string (str r.n), .int .i64 r.f, .bool r.l, .int .i64 r.k, .slice r.A r.m r.c], .string v] w fun e w' => e = .returned (.int .i64 (valueT x v)) ∧ Below w.heap.size w w' := by
  rw [h.2.2.1, hx]
  exact Value_of f h1 h2 r v _ w ht
theorem value_any (x : Ky) (h1 : 1 ≤ x.f) (h2 : x.f ≤ 11) (r : Kr) (v : ByteArray) (hv : v.size ≤ 140737488355327) (B : Nat) (w : World) (h : r.is w B x) (hB : B ≤ w.heap.size) (ht : Ca.TabM w) :
    Calls Tryz.prog 15 #[.agg #[.string (str r.s), .string (str r.n), .int .i64 r.f, .bool r.l, .int .i64 r.k, .slice r.A r.m r.c], .string v] w fun e w' => e = .returned (.int .i64 (valueT x v)) ∧ Below w.heap.size w w' := by
  have hw := h.2.2.2.2.2.1
  have hl := h.2.2.2.1
  have hba : ∀ o, Below w.heap.size w (w.alloc o) := fun o => (Below.refl _ w).alloc (Nat.le_refl _) o
  by_cases hf1 : x.f = 1
  · refine value_of 1 (by decide) (by decide) x hf1 r v B w h ?_
    unfold takesT
    rw [if_pos hf1]
    exact takes_text r v _
  by_cases he : v.toList.isEmpty = true
  · refine value_of x.f h1 h2 x rfl r v B w h ?_
    unfold takesT
    rw [if_neg hf1, if_pos he, ← hl]
    exact takes_empty x.f hf1 r v he _
  have he' : v.toList.isEmpty = false := by simpa using he
  have hcs : x.f = 2 ∨ x.f = 3 ∨ x.f = 4 ∨ x.f = 5 ∨ x.f = 6 ∨ x.f = 7 ∨ x.f = 8 ∨ x.f = 9 ∨ x.f = 10 ∨ x.f = 11 := by omega
  rcases hcs with hf | hf | hf | hf | hf | hf | hf | hf | hf | hf
  · refine value_of 2 (by decide) (by decide) x hf r v B w h ?_
    have ht' : takesT x v = boolS v := by unfold takesT; rw [hf, if_neg (by decide), if_neg he]; rfl
    rw [ht']
    exact takes_bool r v he' hv _
  · refine value_of 3 (by decide) (by decide) x hf r v B w h ?_
    have ht' : takesT x v = numS v := by unfold takesT; rw [hf, if_neg (by decide), if_neg he]; rfl
    rw [ht']
    exact takes_num r v he' hv _
  · refine value_of 4 (by decide) (by decide) x hf r v B w h ?_
    have ht' : takesT x v = Sn.parseOk v := by unfold takesT; rw [hf, if_neg (by decide), if_neg he]; rfl
    rw [ht']
    exact takes_span r v he' hv _
  · refine value_of 5 (by decide) (by decide) x hf r v B w h ?_
    have ht' : takesT x v = unitS v := by unfold takesT; rw [hf, if_neg (by decide), if_neg he]; rfl
    rw [ht']
    exact takes_unit r v he' hv _
  · refine value_of 6 (by decide) (by decide) x hf r v B w h ?_
    have ht' : takesT x v = listS unitS v := by unfold takesT; rw [hf, if_neg (by decide), if_neg he]; rfl
    rw [ht']
    exact takes_names r v he' (by unfold maxLen; omega) _
  · refine value_of 7 (by decide) (by decide) x hf r v B w h ?_
    have ht' : takesT x v = cmdS v := by unfold takesT; rw [hf, if_neg (by decide), if_neg he]; rfl
    rw [ht']
    exact takes_cmd r v he' hv _
  · refine value_of 8 (by decide) (by decide) x hf r v B w h ?_
    have ht' : takesT x v = envS v := by unfold takesT; rw [hf, if_neg (by decide), if_neg he]; rfl
    rw [ht']
    exact takes_env r v he' hv _
  · refine value_of 9 (by decide) (by decide) x hf r v B w h ?_
    have ht' : takesT x v = calS v := by unfold takesT; rw [hf, if_neg (by decide), if_neg he]; rfl
    rw [ht']
    exact takes_cal r v he' hv _ (ht.below (hba _))
  · refine value_of 10 (by decide) (by decide) x hf r v B w h ?_
    have ht' : takesT x v = x.w.any (fun y => decide (y = v.data.toList)) := by unfold takesT; rw [hf, if_neg (by decide), if_neg he]; rfl
    rw [ht']
    exact takes_word r v he' _ B x.w (hw.below ((hba _).mono hB)) (by simp; omega)
  · refine value_of 11 (by decide) (by decide) x hf r v B w h ?_
    have ht' : takesT x v = listS numS v := by unfold takesT; rw [hf, if_neg (by decide), if_neg he]; rfl
    rw [ht']
    exact takes_nums r v he' hv _
theorem keysT_f (s : List UInt8) : ∀ x ∈ keysT s, 1 ≤ x.f ∧ x.f ≤ 11 := by
  unfold keysT
  repeat' split
  all_goals decide
theorem find_f {s k : List UInt8} {x : Ky} (h : findT s k = some x) : 1 ≤ x.f ∧ x.f ≤ 11 := keysT_f s x (List.mem_of_find?_eq_some h)
theorem says_all (s k : List UInt8) (v : ByteArray) (hv : v.size ≤ 140737488355327) (w0 : World) (ht : Ca.TabM w0) : ValueSays valueT s k v w0 := by
  intro x r B w hw hr hB hf
  obtain ⟨h1, h2⟩ := find_f hf
  exact value_any x h1 h2 r v hv B w hr hB (ht.below hw)
theorem forK_low {k kind : Int} (h : kind < 1) (hk : k ∈ ([2, 4, 8, 30] : List Int)) : isForK k kind = false := by
  unfold isForK
  by_cases h0 : 0 ≤ kind
  · obtain rfl : kind = 0 := by omega
    simp only [List.mem_cons, List.not_mem_nil, or_false] at hk
    rcases hk with rfl | rfl | rfl | rfl <;> decide
  · rw [decide_eq_false h0, Bool.false_and]
theorem forK_high {k kind : Int} (h : 4 < kind) (hk : k ∈ ([2, 4, 8, 30] : List Int)) : isForK k kind = false := by
  unfold isForK
  have h5 : 2 ^ 5 ≤ 2 ^ min kind.toNat 64 := Nat.pow_le_pow_right (by omega) (by omega)
  have hlt : k.toNat < 2 ^ min kind.toNat 64 := by
    refine Nat.lt_of_lt_of_le ?_ h5
    simp only [List.mem_cons, List.not_mem_nil, or_false] at hk
    rcases hk with rfl | rfl | rfl | rfl <;> decide
  rw [Nat.testBit_lt_two_pow hlt, Bool.and_false]
theorem keysT_filter (s : List UInt8) : keysT s = allT.filter fun y => decide (y.s = s) := by
  have hall : ∀ y ∈ allT, y.s = nUnit ∨ y.s = nServ ∨ y.s = nSock ∨ y.s = nTime ∨ y.s = nInst := by decide +kernel
  by_cases h1 : s = nUnit
  · subst h1; decide +kernel
  by_cases h2 : s = nServ
  · subst h2; decide +kernel
  by_cases h3 : s = nSock
  · subst h3; decide +kernel
  by_cases h4 : s = nTime
  · subst h4; decide +kernel
  by_cases h5 : s = nInst
  · subst h5; decide +kernel
  have e : keysT s = [] := by unfold keysT; rw [if_neg h1, if_neg h2, if_neg h3, if_neg h4, if_neg h5]
  rw [e]
  symm
  rw [List.filter_eq_nil_iff]
  intro y hy h
  have hs := of_decide_eq_true h
  rcases hall y hy with q | q | q | q | q
  · exact h1 (hs.symm.trans q)
  · exact h2 (hs.symm.trans q)
  · exact h3 (hs.symm.trans q)
  · exact h4 (hs.symm.trans q)
  · exact h5 (hs.symm.trans q)
theorem often_any (s : List UInt8) (kind : Int) : oftenT s kind = allT.any fun y => decide (y.s = s) && isForK y.k kind := by
  unfold oftenT
  rw [keysT_filter, List.any_filter]
  rfl
theorem allT_k : ∀ y ∈ allT, y.k ∈ ([2, 4, 8, 30] : List Int) := by decide +kernel
theorem shift_one {k kind : Int} (h1 : 1 ≤ kind) (h4 : kind ≤ 4) (hk : k ∈ ([2, 4, 8, 30] : List Int)) : (bits .and .i64 (k / 2 ^ kind.toNat) 1 == 1) = isForK k kind := by
  have hc : kind = 1 ∨ kind = 2 ∨ kind = 3 ∨ kind = 4 := by omega
  simp only [List.mem_cons, List.not_mem_nil, or_false] at hk
  rcases hc with rfl | rfl | rfl | rfl <;> rcases hk with rfl | rfl | rfl | rfl <;> decide +kernel
theorem any_stepF {p : Ky → Bool} {k : Nat} {x : Ky} (hx : allT[k]? = some x) : (allT.take (k + 1)).any p = ((allT.take k).any p || p x) := by
  rw [List.take_add_one, hx]; simp
set_option maxRecDepth 100000 in
set_option maxHeartbeats 16000000 in
theorem rwrong_of (kind : Int) (s k v : ByteArray) (n : Int) (hv : v.size ≤ 1048576) (w : World) :
    Calls Tryz.prog 38 #[.int .i64 kind, .agg #[.string s, .string k, .string v, .int .i64 n]] w fun e w' => e = .returned (.int .i64 (lineV valueT kind s k v)) ∧ Below w.heap.size w w' := by
  have HB0 : Hid (Below w.heap.size w (w.alloc (.cells #[.string s, .string k, .string v, .int .i64 n] 44))) := (Below.refl _ w).alloc (Nat.le_refl _) _
  have HL0 : Hid (Blk (w.alloc (.cells #[.string s, .string k, .string v, .int .i64 n] 44)) w.heap.size 44 #[.string s, .string k, .string v, .int .i64 n]) := Blk.new w _ _
  obtain ⟨rg, hrg⟩ : ∃ b, (decide (1 ≤ kind) && decide (kind ≤ 4)) = b := ⟨_, rfl⟩
  have HLOW : Hid (kind < 1 → ∀ y ∈ allT, isForK y.k kind = false) := fun h y hy => forK_low h (allT_k y hy)
  have HHIGH : Hid (4 < kind → ∀ y ∈ allT, isForK y.k kind = false) := fun h y hy => forK_high h (allT_k y hy)
  have HOF := Lib.hid (often_any s.data.toList kind)
  have HLEN : Hid (allT.length = 42) := allT_len
  have HAK := Lib.hid allT_k
  clear hrg rg
  go_enter Tryz.func38, Tryz.ntmps38
  go_wp2_with fail
  generalize w.alloc (.cells #[.string s, .string k, .string v, .int .i64 n] 44) = wa at *
  refine (Keys_any _).mono ?_
  rintro e1 w1 ⟨vv, rfl, hk⟩
  have hb1 := hk.below
  obtain ⟨A, c, rfl, hkeys⟩ := hk.at_ (by decide +kernel)
  rw [allT_len] at hkeys ⊢
  have HB1 := Lib.hid (more3 HB0.out HB0.out.size hb1)
  have HL1 := Lib.hid (HL0.out.below hb1 HL0.out.lt)
  have HK1 := Lib.hid hkeys
  have hL1 := HL1.out.lt
  clear hb1 hk hkeys HB0 HL0
  have hST := fun (p : Ky → Bool) (q : Nat) (y : Ky) (hy : allT[q]? = some y) => any_stepF (p := p) hy
  generalize allT = al at *
  have HSTEP := Lib.hid hST
  clear hST
  go_wp2_with fail
  go_loopw [5, 12] (fun o i wr => ∃ (j : Nat) (b : Bool), j ≤ 42 ∧ i = .int .i64 j ∧ o = .bool b ∧ Hid (b = (al.take j).any fun y => decide (y.s = s.data.toList) && isForK y.k kind) ∧ Hid (Below w1.heap.size w1 wr)) (fun o i wr => 42 - (intOf i).toNat)
  case atStart => exact ⟨0, false, Nat.zero_le _, rfl, rfl, by show _ = _; simp, Below.refl _ _⟩
  case round =>
    obtain ⟨j, b, hj, rfl, rfl, hb, hB⟩ := hrel
    have j0 : (0 : Int) ≤ (j : Int) := by omega
    by_cases hlt : j < 42
    · have j1 : (j : Int) < 42 := by omega
      obtain ⟨ad, r, x, rfl, hab, hx, hr, q0, q1, q2, q3, q4, q5⟩ := (HK1.out.below hB.out).at_ hlt
      have hxm : x ∈ al := List.mem_of_getElem? hx
      have HT := Lib.hid (fun p => HSTEP.out p j x hx)
      have HBn : Hid (Below w1.heap.size w1 (wr.alloc (.cells #[.string (str r.s), .string (str r.n), .int .i64 r.f, .bool r.l, .int .i64 r.k, .slice r.A r.m r.c] 28))) := hB.out.alloc hB.out.size _
      have l0 : (wr.alloc (.cells #[.string (str r.s), .string (str r.n), .int .i64 r.f, .bool r.l, .int .i64 r.k, .slice r.A r.m r.c] 28)).cell? ⟨w.heap.size, 0, none⟩ = some (.string s) := (HL1.out.below HBn.out hL1).cell 0
      have hrs := hr.1
      have hrk := hr.2.2.2.2.1
      obtain ⟨rs, rn, rf, rl, rk, rA, rm, rc⟩ := r
      dsimp only at hrs hrk q0 q1 q2 q3 q4 q5 l0 HBn
      subst hrs hrk
      have hq : ((str x.s).toList == s.toList) = decide (x.s = s.data.toList) := by
        rw [Lib.toList_data, Lib.toList_data, str_list, Bool.eq_iff_iff, decide_eq_true_eq, beq_iff_eq]
      have hxk := HAK.out x hxm
      have HXM := Lib.hid hxm
      clear hr hx hxm
      rcases b with _ | _
      · by_cases hs : x.s = s.data.toList
        · rw [decide_eq_true hs] at hq
          by_cases hlow : kind < 1
          · have HN : Hid (false = (al.take (j + 1)).any fun y => decide (y.s = s.data.toList) && isForK y.k kind) := by
              show _ = _
              rw [HT.out, ← hb.out, HLOW.out hlow x HXM.out]; simp
            have hl1 : decide ((1 : Int) ≤ kind) = false := decide_eq_false (by omega)
            clear hs
            go_wp2_with fail
            go_roundw
            case rel => exact ⟨j + 1, false, by omega, by go_num, rfl, HN, HBn⟩
            case measure => simp [intOf]; omega
          · by_cases hhigh : 4 < kind
            · have HN : Hid (false = (al.take (j + 1)).any fun y => decide (y.s = s.data.toList) && isForK y.k kind) := by
                show _ = _
                rw [HT.out, ← hb.out, HHIGH.out hhigh x HXM.out]; simp
              have hl1 : (1 : Int) ≤ kind := by omega
              have hl4 : decide (kind ≤ (4 : Int)) = false := decide_eq_false (by omega)
              clear hs
              go_wp2_with fail
              go_roundw
              case rel => exact ⟨j + 1, false, by omega, by go_num, rfl, HN, HBn⟩
              case measure => simp [intOf]; omega
            · have hl1 : (1 : Int) ≤ kind := by omega
              have hl0 : (0 : Int) ≤ kind := by omega
              have hl4 : kind ≤ 4 := by omega
              have hsh := shift_one hl1 hl4 hxk
              have HN : Hid (isForK x.k kind = (al.take (j + 1)).any fun y => decide (y.s = s.data.toList) && isForK y.k kind) := by
                show _ = _
                rw [HT.out, ← hb.out, decide_eq_true hs]; simp
              clear hs
              rcases hfk : isForK x.k kind with _ | _
              all_goals
                rw [hfk] at hsh HN
                go_wp2_with fail
                go_roundw
                case rel => exact ⟨j + 1, _, by omega, by go_num, rfl, HN, HBn⟩
                case measure => simp [intOf]; omega
        · rw [decide_eq_false hs] at hq
          have HN : Hid (false = (al.take (j + 1)).any fun y => decide (y.s = s.data.toList) && isForK y.k kind) := by
            show _ = _
            rw [HT.out, ← hb.out, decide_eq_false hs]; simp
          clear hs
          go_wp2_with fail
          go_roundw
          case rel => exact ⟨j + 1, false, by omega, by go_num, rfl, HN, HBn⟩
          case measure => simp [intOf]; omega
      · have HN : Hid (true = (al.take (j + 1)).any fun y => decide (y.s = s.data.toList) && isForK y.k kind) := by
          show _ = _
          rw [HT.out, ← hb.out]; rfl
        go_wp2_with fail
        go_roundw
        case rel => exact ⟨j + 1, true, by omega, by go_num, rfl, HN, HBn⟩
        case measure => simp [intOf]; omega
    · obtain rfl : j = 42 := by omega
      have HO : Hid (oftenT s.data.toList kind = b) := by
        show _ = _
        rw [HOF.out, hb.out, List.take_of_length_le (by rw [HLEN.out]; exact Nat.le_refl _)]
      have HB2 := Lib.hid (HB1.out.trans (hB.out.mono HB1.out.size))
      have HL2 := Lib.hid (HL1.out.below hB.out hL1)
      have l0 : wr.cell? ⟨w.heap.size, 0, none⟩ = some (.string s) := HL2.out.cell 0
      have l1 : wr.cell? ⟨w.heap.size, 1, none⟩ = some (.string k) := HL2.out.cell 1
      clear hlt
      rcases b with _ | _
      · have HR : Hid (lineV valueT kind s k v = 10) := by show _ = _; unfold lineV; rw [HO.out, if_neg (by simp)]
        go_wp2_with fail
        go_ret
        exact ⟨ret_int HR.out.symm, HB2.out⟩
      · have HR : Hid (lineV valueT kind s k v = match findT s.data.toList k.data.toList with | some x => valueT x v | none => 11) := by show _ = _; unfold lineV; rw [HO.out, if_pos rfl]; rfl
        go_wp2_with fail
        refine (rFind_any s k _).mono ?_
        rintro e4 w4 ⟨r, rfl, hr, hb4⟩
        have HB4 := Lib.hid (more3 HB2.out HB2.out.size hb4)
        have HL4 := Lib.hid (HL2.out.below hb4 HL2.out.lt)
        have HX4 := Lib.hid hr
        clear hb4 hr l0 l1
        unfold krA
        rcases hf : findT s.data.toList k.data.toList with _ | x
        · rw [hf] at HR
          rw [show (none : Option Ky).isSome = false from rfl]
          go_wp2_with fail
          go_ret
          exact ⟨ret_int HR.out.symm, HB4.out.alloc HB4.out.size _⟩
        · rw [hf] at HR HX4
          rw [show (some x : Option Ky).isSome = true from rfl]
          have hfb := find_f hf
          have l2 : (w4.alloc (.cells #[.string (str r.s), .string (str r.n), .int .i64 r.f, .bool r.l, .int .i64 r.k, .slice r.A r.m r.c] 28)).cell? ⟨w.heap.size, 2, none⟩ = some (.string v) := (HL4.out.alloc _).cell 2
          have HB5 : Hid (Below w.heap.size w (w4.alloc (.cells #[.string (str r.s), .string (str r.n), .int .i64 r.f, .bool r.l, .int .i64 r.k, .slice r.A r.m r.c] 28))) := HB4.out.alloc HB4.out.size _
          have hX4 : r.is w4 w4.heap.size x := HX4.out
          have HX5 : Hid (r.is (w4.alloc (.cells #[.string (str r.s), .string (str r.n), .int .i64 r.f, .bool r.l, .int .i64 r.k, .slice r.A r.m r.c] 28)) w4.heap.size x) := hX4.below ((Below.refl _ _).alloc (Nat.le_refl _) _)
          have HC5 := rv_key r.s r.n r.f r.l r.k r.A r.m r.c x.w v hv w4.heap.size _ HX5.out.2.2.2.2.2.1 (by simp)
          rw [rvalT_is HX5.out, rvalT_in hfb.1 hfb.2] at HC5
          have HC5 := Lib.hid HC5
          clear hf hfb hX4
          go_wp2_with fail
          refine HC5.out.mono ?_
          rintro e6 w6 ⟨rfl, hb6⟩
          go_wp2_with fail
          go_ret
          exact ⟨ret_int HR.out.symm, more3 HB5.out HB5.out.size hb6⟩
set_option maxHeartbeats 8000000 in
theorem rCheck_of (kind : Int) (A : Option Addr) (n c B : Nat) (l : List Ln) (w : World) (h : LnsAt w B A n l) (hB : B ≤ w.heap.size) (hV : ∀ x ∈ l, x.v.length ≤ 1048576) :
    Calls Tryz.prog 18 #[.int .i64 kind, .slice A n c] w fun e w' => e = .returned (.agg (fltA (checkV valueT kind l).1 (checkV valueT kind l).2)) ∧ Below w.heap.size w w' := by
  have hm := h.2.1
  unfold maxLen at hm
  have hl := h.1
  have HL := Lib.hid h
  have HV := Lib.hid hV
  clear h hV
  have HR0 : Hid (Blk (w.alloc (.cells #[.int .i64 0, .int .i64 0] 37)) w.heap.size 37 (fltA 0 0)) := Blk.new w _ _
  have HB0 : Hid (Below w.heap.size w (w.alloc (.cells #[.int .i64 0, .int .i64 0] 37))) := (Below.refl _ w).alloc (Nat.le_refl _) _
  have HN0 : Hid (∀ x ∈ l.take 0, lineV valueT kind (str x.s) (str x.k) (str x.v) = 0) := fun x hx => by simp at hx
  go_enter Tryz.func18, Tryz.ntmps18
  go_wp2_with fail
  generalize w.alloc (.cells #[.int .i64 0, .int .i64 0] 37) = w1 at *
  go_loopw [10] (fun i wr => ∃ k : Nat, k ≤ n ∧ i = .int .i64 k ∧ Hid (Below w.heap.size w wr) ∧ Hid (Blk wr w.heap.size 37 (fltA 0 0)) ∧ Hid (∀ x ∈ l.take k, lineV valueT kind (str x.s) (str x.k) (str x.v) = 0)) (fun i wr => n - (intOf i).toNat)
  case atStart => exact ⟨0, Nat.zero_le _, rfl, HB0, HR0, HN0⟩
  case round =>
    obtain ⟨k, hk, rfl, hb, hR, hN⟩ := hrel
    have hRl : w.heap.size < wr.heap.size := hR.out.lt
    by_cases hlt : k < n
    · have b0 : (0 : Int) ≤ (k : Int) := by omega
      have b1 : (k : Int) < (n : Int) := by omega
      obtain ⟨ad, x, rfl, hab, hx, q0, q1, q2, q3⟩ := (HL.out.below (hb.out.mono hB)).at_ hlt
      have z1 : (ad.add (k * 4)).block < wr.heap.size := by rw [block_addW]; omega
      have hxl : x ∈ l := List.mem_of_getElem? hx
      have HB1 : Hid (Below w.heap.size w (wr.alloc (.cells #[.string (str x.s), .string (str x.k), .string (str x.v), .int .i64 x.n] 44))) := hb.out.alloc hb.out.size _
      have HR1 : Hid (Blk (wr.alloc (.cells #[.string (str x.s), .string (str x.k), .string (str x.v), .int .i64 x.n] 44)) w.heap.size 37 (fltA 0 0)) := hR.out.alloc _
      have HA1 : Hid (Blk (wr.alloc (.cells #[.string (str x.s), .string (str x.k), .string (str x.v), .int .i64 x.n] 44)) wr.heap.size 44 #[.string (str x.s), .string (str x.k), .string (str x.v), .int .i64 x.n]) := Blk.new wr _ _
      have HC := Lib.hid (rwrong_of kind (str x.s) (str x.k) (str x.v) x.n (by rw [str_size]; exact HV.out x hxl) (wr.alloc (.cells #[.string (str x.s), .string (str x.k), .string (str x.v), .int .i64 x.n] 44)))
      have hkl : k < l.length := by omega
      have hxe : l[k] = x := by rw [List.getElem?_eq_getElem hkl] at hx; exact Option.some.inj hx
      by_cases h0 : lineV valueT kind (str x.s) (str x.k) (str x.v) = 0
      · have HN1 : Hid (∀ y ∈ l.take (k + 1), lineV valueT kind (str y.s) (str y.k) (str y.v) = 0) := by
          intro y hy
          rw [List.take_succ_eq_append_getElem hkl, hxe, List.mem_append] at hy
          rcases hy with hy | hy
          · exact hN.out y hy
          · simp at hy; subst hy; exact h0
        rw [h0] at HC
        clear h0 hx hxl hxe
        go_wp2_with fail
        refine HC.out.mono ?_
        rintro e w2 ⟨rfl, hb2⟩
        have HB2 := Lib.hid (more3 HB1.out HB1.out.size hb2)
        have HR2 := Lib.hid (HR1.out.below hb2 HR1.out.lt)
        clear hb2
        go_wp2_with fail
        go_roundw
        case rel => exact ⟨k + 1, by omega, by go_num, HB2, HR2, HN1⟩
        case measure => simp [intOf]; omega
      · have HE : Hid (checkV valueT kind l = (lineV valueT kind (str x.s) (str x.k) (str x.v), x.n)) := by
          show _ = _
          conv => lhs; rw [← List.take_append_drop k l]
          rw [checkV_app valueT kind _ _ hN.out, List.drop_eq_getElem_cons hkl, hxe, checkV, if_neg h0]
        have hne : (lineV valueT kind (str x.s) (str x.k) (str x.v) != 0) = true := by simpa using h0
        obtain ⟨q, hq⟩ : ∃ q, lineV valueT kind (str x.s) (str x.k) (str x.v) = q := ⟨_, rfl⟩
        rw [hq] at HC hne HE
        clear h0 hx hxl hxe hq
        go_wp2_with fail
        refine HC.out.mono ?_
        rintro e w2 ⟨rfl, hb2⟩
        have HB2 := Lib.hid (more3 HB1.out HB1.out.size hb2)
        have HR2 := Lib.hid (HR1.out.below hb2 HR1.out.lt)
        have HA2 := Lib.hid (HA1.out.below hb2 HA1.out.lt)
        have c3 : w2.cell? ⟨wr.heap.size, 3, none⟩ = some (.int .i64 x.n) := HA2.out.cell 3
        clear hb2
        go_wp2_with (refine wpList_store_row rfl 37 (.tmp 4) (.tmp 22) (by rfl) w.heap.size (fltA q x.n) (by rfl) (by rfl) 37 (fltA 0 0) HR2.out (by kernel_rfl) rfl (fltA_all _ _) ?_)
        exact bodyPost_ret (results_cell_one (p := 4) rfl _ _ w.heap.size 37 (fltA q x.n) _ rfl (Blk.row HR2.out _) Tryz.underlying37 rfl (by kernel_rfl)) rfl ⟨by rw [HE.out], below_setRow HB2.out (Nat.le_refl _) _⟩
    · obtain rfl : k = n := by omega
      have HE : Hid (checkV valueT kind l = (0, 0)) := by
        have := hN.out
        rw [List.take_of_length_le (by omega)] at this
        exact checkV_clean valueT kind l this
      go_wp2_with (refine wpList_store_row rfl 37 (.tmp 4) (.tmp 24) (by rfl) w.heap.size (fltA 0 0) (by rfl) (by rfl) 37 (fltA 0 0) hR.out (by kernel_rfl) rfl (fltA_all _ _) ?_)
      exact bodyPost_ret (results_cell_one (p := 4) rfl _ _ w.heap.size 37 (fltA 0 0) _ rfl (Blk.row hR.out _) Tryz.underlying37 rfl (by kernel_rfl)) rfl ⟨by rw [HE.out], below_setRow hb.out (Nat.le_refl _) _⟩
set_option maxHeartbeats 8000000 in
theorem KeysCheck_any (kind : Int) (A : Option Addr) (n c : Nat) (l : List Ln) (w : World) (h : LnsAt w w.heap.size A n l) (hz : ∀ x ∈ l, x.v.length ≤ 1048576) (ht : Ca.TabM w) :
    Calls Tryz.prog 5 #[.int .i64 kind, .slice A n c] w fun e w' => e = .returned (.bool true) ∧ Below w.heap.size w w' := by
  obtain ⟨⟨f1, f2⟩, hf⟩ : ∃ p, checkV valueT kind l = p := ⟨_, rfl⟩
  have HF := Lib.hid (check_flt hf)
  have HV : Hid (∀ x ∈ l, ValueSays valueT x.s x.k (str x.v) w) := fun x hx => says_all _ _ _ (by rw [str_size]; exact Nat.le_trans (hz x hx) (by decide)) w ht
  have HL := Lib.hid h
  have HZ := Lib.hid hz
  clear h hz ht hf
  have hq := fun W => run_eql_fault W f1 f2 f1 f2
  go_enter Tryz.func5, Tryz.ntmps5
  go_wp2_with fail
  refine (shown_any _).mono ?_
  rintro e1 w1 ⟨rfl, hb1⟩
  have HB1 := Lib.hid hb1
  clear hb1
  go_wp2_with fail
  refine (Check_of valueT kind A n c w.heap.size l w w1 (HL.out.below HB1.out) HB1.out.size HB1.out HV.out).mono ?_
  rintro e2 w2 ⟨rfl, hb2⟩
  rw [HF.out]
  have HB2 := Lib.hid (more3 HB1.out HB1.out.size hb2)
  clear hb2
  go_wp2_with fail
  refine (rCheck_of kind A n c w.heap.size l w2 (HL.out.below HB2.out) HB2.out.size HZ.out).mono ?_
  rintro e3 w3 ⟨rfl, hb3⟩
  rw [HF.out]
  go_wp2_with fail
  go_ret
  exact ⟨by simp, more3 HB2.out HB2.out.size hb3⟩
end Go.Proofs.YtadifolonbkamaaGreatDoor
namespace Go.Proofs.YtadifolonbkamaaGreatDoor
open Go.RowKit Go.Joins Go.ChangeShapes Go.WideShapes Go.ChangeAt Go.Deep
open Go.ChangeMaps (open_string shut_string)
section
variable {H : Type} {enc : TypeId × Value → H} {W : World} {base : Nat} {spare : Nat → Bool} {held : Bool}
set_option maxRecDepth 100000 in
theorem open_lines_upto {v : Value} {d : DataW H} {p : List MemPlace} {b0 : Nat} (hv : Value.okWide Tryz.prog W .any b0 35 v) (h : DataW.Trod enc Tryz.prog W 0 (fun _ => true) true 35 v d p) :
    ∃ (A : Option Addr) (n c : Nat) (l : List Ln), v = .slice A n c ∧ n ≤ c ∧ LnsAt W W.heap.size A n l ∧ (A = none → c = 0) ∧ n ≤ Rows.uptoBulk d ∧ (∀ x ∈ l, x.s.length + x.k.length + x.v.length ≤ Rows.uptoBulk d) := by
  obtain ⟨a0, len0, cap0, rfl⟩ := okWide_slice Tryz.underlying35 hv
  obtain ⟨fuel, hf⟩ := h
  have k4 : Tryz.prog.cellsOf 44 = 4 := by kernel_rfl
  have kb : Tryz.prog.bytesOf 44 = 56 := by kernel_rfl
  rcases open_slice Tryz.underlying35 hf with ⟨hcs, hx⟩ | ⟨a, len, cap, m, n', D, Pl, hcs, _, hl, hm, hmm, hx, hi⟩
  · have e := hcs
    simp [Value.cells] at e
    obtain ⟨rfl, rfl, rfl⟩ := e
    exact ⟨none, 0, 0, [], rfl, Nat.le_refl _, LnsAt.none_, fun _ => rfl, Nat.zero_le _, by simp⟩
  · rw [k4] at hi
    have hml : len ≤ m := by rw [hmm]; split <;> omega
    simp only [Prod.mk.injEq] at hx
    have hV : ∀ i, i < len → ∃ q : Ln, (∀ j u, (lnCells q)[j]? = some u → W.cell? (a.add (i * 4 + j)) = some u) ∧ LnData q (D i) := fun i hil => by
      obtain ⟨cs, h1, h2⟩ := hi i (by omega)
      obtain ⟨_, hlen, hat⟩ := World.cells?_some h1
      obtain ⟨q, rfl, m1⟩ := line_of hlen h2
      refine ⟨q, fun j u hj => ?_, m1⟩
      have hj2 : j < 4 := by
        rcases Nat.lt_or_ge j 4 with h' | h'
        · exact h'
        · rw [List.getElem?_eq_none (by exact h')] at hj; cases hj
      rw [← add_of_addP, hat j hj2, hj]
    obtain ⟨X, hX⟩ := pick_ltP (⟨[], [], [], 0⟩ : Ln) hV
    have hmem : ∀ x ∈ (List.range len).map X, ∃ i, i < len ∧ x = X i := by
      intro x hx
      obtain ⟨j, hj, rfl⟩ := List.mem_map.1 hx
      exact ⟨j, List.mem_range.1 hj, rfl⟩
    have e := hcs
    simp [Value.cells] at e
    obtain ⟨rfl, rfl, rfl⟩ := e
    refine ⟨some a, len0, cap0, (List.range len0).map X, rfl, hl, ⟨by simp, by omega, fun h0 => ⟨a, rfl, cell_ltP ((hX 0 h0).1 0 _ rfl), fun j u hj => ?_⟩⟩, (fun h => by cases h), ?_, ?_⟩
    · have hjl : j < len0 * 4 := by
        rcases Nat.lt_or_ge j (len0 * 4) with h' | h'
        · exact h'
        · rw [List.getElem?_eq_none (by rw [lns_length]; simpa using h')] at hj; cases hj
      have hd : j = j / 4 * 4 + j % 4 := by omega
      have hk : j / 4 < len0 := by omega
      have hg := lns_get ((List.range len0).map X) (j / 4) (X (j / 4)) (by rw [List.getElem?_map, List.getElem?_range hk]; rfl) (j % 4) (by omega)
      rw [← hd, hj] at hg
      have := (hX (j / 4) hk).1 (j % 4) u hg.symm
      rwa [← hd] at this
    · rw [hx.1, Rows.uptoBulk]
      have h1 := bulk_countP ((List.range len0).map D) (fun z hz => by
        obtain ⟨i, hi', rfl⟩ := List.mem_map.1 hz
        have := (hX i (List.mem_range.1 hi')).2.bulk
        omega)
      rw [List.length_map, List.length_range] at h1
      omega
    · intro x hxm
      obtain ⟨i, hil, rfl⟩ := hmem x hxm
      rw [hx.1, Rows.uptoBulk]
      have h1 := (hX i hil).2.bulk
      have h2 := bulk_memP (x := D i) (l := (List.range len0).map D) (List.mem_map.2 ⟨i, List.mem_range.2 hil, rfl⟩)
      omega
end
end Go.Proofs.YtadifolonbkamaaGreatDoor
