/- The walk of the document's Parse of a text's lines. -/
import Derived.Test.YthgpocbmkmmecaaDoorLnK
import Derived.Test.YthgpocbmkmmecaaDoorLnG
import Derived.Test.YthgpocbmkmmecaaDoorLnH
import Derived.IntWalk
namespace Go.Proofs.YthgpocbmkmmecaaDoor
open Go.RowKit

theorem flat_get {α : Type} {f : α → List Value} {m : Nat} (hf : ∀ x, (f x).length = m) (l : List α) (j : Nat) (x : α) (h : l[j]? = some x) (i : Nat) (hi : i < m) : (l.flatMap f)[j * m + i]? = (f x)[i]? := by
  induction l generalizing j with
  | nil => simp at h
  | cons y l ih =>
    rw [List.flatMap_cons]
    cases j with
    | zero =>
      simp only [List.getElem?_cons_zero, Option.some.injEq] at h
      subst h
      rw [Nat.zero_mul, Nat.zero_add, List.getElem?_append_left (by rw [hf]; exact hi)]
    | succ j =>
      rw [List.getElem?_cons_succ] at h
      rw [List.getElem?_append_right (by rw [hf, Nat.succ_mul]; omega), hf, show (j + 1) * m + i - m = j * m + i by rw [Nat.succ_mul]; omega]
      exact ih j h
theorem add_cell (g j : Nat) : (⟨g, 0, none⟩ : Addr).add j = ⟨g, j, none⟩ := by unfold Addr.add; split <;> simp_all
/-- A row of logical lines. -/
def WhAt (w : World) (B : Nat) (A : Option Addr) (n : Nat) (l : List PS) : Prop :=
  l.length = n ∧ n ≤ maxLen ∧ (0 < n → ∃ ad, A = some ad ∧ ad.block < B ∧ ∀ j p, l[j]? = some p → w.cell? (ad.add (j * 2)) = some (.string (str p.1)) ∧ w.cell? ⟨(ad.add (j * 2)).block, (ad.add (j * 2)).off + 1, none⟩ = some (.int .i64 p.2))
theorem whAt_of_own {w : World} {base n nv cv : Nat} {A : Option Addr} {l : List PS} (h : w.ownsRow base 48 2 (.slice A nv cv) n (whs l)) (hl : l.length = n) (hn : n ≤ maxLen) : nv = n ∧ WhAt w w.heap.size A n l := by
  rcases h.2 with ⟨h1, h2⟩ | ⟨g, cap, cur, h1, h2, h3, h4, h5, h6, h7⟩
  · injection h1 with h1 h11 h12
    subst h2
    exact ⟨h11, hl, Nat.zero_le _, fun h => by omega⟩
  · injection h1 with h1 h11 h12
    subst h1 h11 h12
    refine ⟨rfl, hl, hn, fun _ => ⟨_, rfl, (Array.getElem?_eq_some_iff.1 h3).1, fun j p hj => ?_⟩⟩
    have e0 := flat_get (f := whCells) (m := 2) (fun _ => rfl) l j p hj 0 (by omega)
    have e1 := flat_get (f := whCells) (m := 2) (fun _ => rfl) l j p hj 1 (by omega)
    have c0 := h.cells (g := g) rfl (j * 2) _ e0
    have c1 := h.cells (g := g) rfl (j * 2 + 1) _ e1
    rw [add_cell] at c0 c1 ⊢
    exact ⟨c0, c1⟩
theorem WhAt.below {w w' : World} {B n : Nat} {A : Option Addr} {l : List PS} (h : WhAt w B A n l) (hb : Below B w w') : WhAt w' B A n l :=
  ⟨h.1, h.2.1, fun hn => by
    obtain ⟨ad, e, hB, hc⟩ := h.2.2 hn
    refine ⟨ad, e, hB, fun j p hj => ?_⟩
    obtain ⟨c0, c1⟩ := hc j p hj
    exact ⟨(hb.cell (by rw [block_addW]; exact hB)).trans c0, (hb.cell (by show (ad.add (j * 2)).block < B; rw [block_addW]; exact hB)).trans c1⟩⟩
theorem WhAt.at_ {w : World} {B n : Nat} {A : Option Addr} {l : List PS} (h : WhAt w B A n l) {k : Nat} (hk : k < n) :
    ∃ ad p, A = some ad ∧ ad.block < B ∧ l[k]? = some p ∧ w.cell? (ad.add (k * 2)) = some (.string (str p.1)) ∧ w.cell? ⟨(ad.add (k * 2)).block, (ad.add (k * 2)).off + 1, none⟩ = some (.int .i64 p.2) := by
  obtain ⟨h1, _, h4⟩ := h
  obtain ⟨ad, e, hb, hc⟩ := h4 (by omega)
  have hl : k < l.length := by omega
  obtain ⟨c1, c2⟩ := hc k l[k] (List.getElem?_eq_getElem hl)
  exact ⟨ad, l[k], e, hb, List.getElem?_eq_getElem hl, c1, c2⟩
theorem results_tmp_agg {P : Program} {fn : Func} {p q : Tmp} {ty2 : TypeId} (h : fn.results = #[.tmp p, .cell q ty2]) (tmps : Array Value) (w : World) (g2 : Nat) (t : TypeId) (cs : Array Value) (d : TypeDesc) (v : Value)
    (hp : tmps.getD p undef = v) (hq : tmps.getD q undef = .pointer (some ⟨g2, 0, none⟩))
    (hg : w.heap[g2]? = some (.cells cs t (0, 0))) (hu : P.underlying ty2 = some d) (hd : (match d with | .struct _ | .array _ _ => true | _ => false) = true) (hi : (P.info? ty2).map (·.size) = some cs.size) :
    (results fn tmps).run P w = .ok (.tuple #[v, .agg cs]) w := by
  have hp' : tmps[p]?.getD undef = v := by simpa using hp
  have hq' : tmps[q]?.getD undef = .pointer (some ⟨g2, 0, none⟩) := by simpa using hq
  simp [results, h, hp', hq', asAddr, run_loadVar_row w g2 t ty2 cs (0, 0) d hg hu hd hi]
theorem sect_say2 {t : ByteArray} (h : headIs 91 t = true) (sec : List UInt8) :
    sayL sec t.data.toList = if lastIs 93 t = true ∧ secS (t.extract 1 (t.size - 1)) = true then .sect (t.extract 1 (t.size - 1)).data.toList else .bad 10 := by
  have hc := head_cons h
  rw [hc, say_sect]
  have e1 : (t.extract 1 t.size).data.toList.dropLast = (t.extract 1 (t.size - 1)).data.toList := by
    rw [tail_list, Lib.extract_data, List.dropLast_eq_take, List.length_drop, size_list]
  have e2 : (t.extract 1 t.size).data.toList.getLast? = some 93 ↔ lastIs 93 t = true := by
    rw [lastIs_iff, hc]
    cases (t.extract 1 t.size).data.toList with
    | nil => simp
    | cons d r => rw [List.getLast?_cons_cons]
  have e3 : secL (t.extract 1 (t.size - 1)).data.toList = secS (t.extract 1 (t.size - 1)) := rfl
  rw [e1, e3]
  by_cases h1 : lastIs 93 t = true ∧ secS (t.extract 1 (t.size - 1)) = true
  · rw [if_pos h1, if_pos ⟨e2.2 h1.1, h1.2⟩]
  · rw [if_neg h1, if_neg (fun hh => h1 ⟨e2.1 hh.1, hh.2⟩)]
/-- Where a text is parted. -/
theorem cut_pos {c : UInt8} {s : ByteArray} (h : cutF c s = true) : (cutA c s).size < s.size ∧ s.extract 0 (cutA c s).size = cutA c s ∧ s.extract ((cutA c s).size + 1) s.size = cutB c s := by
  obtain ⟨_, h2, h3⟩ := cutC_yes h
  refine ⟨by omega, ?_, ?_⟩
  · apply ext_list
    rw [Lib.extract_data, List.drop_zero, Nat.sub_zero, h2, ← size_list]
    simp
  · apply ext_list
    rw [tail_list, h2, List.append_cons]
    exact List.drop_left' (by rw [List.length_append, size_list]; rfl)
theorem eqAt_no {s : ByteArray} (h : cutF 61 s = false) : eqAt s = -1 := by unfold eqAt; rw [h, if_neg (by simp)]
theorem eqAt_yes {s : ByteArray} (h : cutF 61 s = true) : eqAt s = ((cutA 61 s).size : Int) := by unfold eqAt; rw [if_pos h]
theorem line_say {l : List UInt8} (h1 : cleanL l = true) (h2 : ¬ 400 < l.length) (sec : List UInt8) : lineL sec l = sayL sec (trimS (str l)).data.toList := by
  unfold lineL
  rw [h1, if_neg (by simp), if_neg h2]
  rfl
set_option maxRecDepth 100000 in
set_option maxHeartbeats 8000000 in
theorem rParse_long (s : ByteArray) (hs : 20000 < s.size) (w : World) :
    Calls Tryd.prog 12 #[.string s] w (ParseP s w) := by
  have hp : parseT s.data.toList = ([], 2, 0) := by
    unfold parseT
    rw [if_pos (by rw [size_list]; exact hs)]
  unfold ParseP
  rw [hp]
  clear hp
  have i1 : (20000 : Int) < (s.size : Int) := by omega
  go_enter Tryd.func12, Tryd.ntmps12
  go_wp2_with fail
  refine bodyPost_ret (v := .tuple #[.slice none 0 0, .agg #[.int .i64 2, .int .i64 0]]) (by simp [results, Tryd.f12, go_sem]) rfl ?_
  exact ⟨none, 0, 0, rfl, LnsAt.none_, (Below.refl _ w).alloc (Nat.le_refl _) _⟩
set_option maxRecDepth 100000 in
set_option maxHeartbeats 16000000 in
theorem rParse_short (s : ByteArray) (hs : s.size ≤ 20000) (w : World) :
    Calls Tryd.prog 12 #[.string s] w (ParseP s w) := by
  obtain ⟨i0, hi, hz0, hz1, hz2⟩ := info_parts lineInfo
  have i1 : decide ((20000 : Int) < (s.size : Int)) = false := by simp; omega
  go_enter Tryd.func12, Tryd.ntmps12
  go_wp2_with fail
  have HR0 : Hid (Blk (w.alloc (.cells #[.int .i64 0, .int .i64 0] 26)) w.heap.size 26 #[.int .i64 0, .int .i64 0]) := Blk.new w _ _
  have HB0 : Hid (Below w.heap.size w (w.alloc (.cells #[.int .i64 0, .int .i64 0] 26))) := (Below.refl _ w).alloc (Nat.le_refl _) _
  refine (wholes_any s hs _).mono ?_
  rintro e w1 ⟨v, rfl, hown, hb1⟩
  have HR1 : Hid (Blk w1 w.heap.size 26 #[.int .i64 0, .int .i64 0]) := HR0.out.below hb1 HR0.out.lt
  have HB1 : Hid (Below w.heap.size w w1) := HB0.out.trans (hb1.mono HB0.out.size)
  obtain ⟨A, nv, cv, rfl⟩ : ∃ A nv cv, v = .slice A nv cv := by
    rcases hown.2 with ⟨hv, _⟩ | ⟨g, cap, cur, hv, _⟩
    · exact ⟨_, _, _, hv⟩
    · exact ⟨_, _, _, hv⟩
  have hwl := mach_sizes hs
  have hpe : parseT s.data.toList = foldL [] [] (machL 1 none (splitL 10 s.data.toList)) := by unfold parseT; rw [if_neg (by rw [size_list]; omega)]
  rw [← mach_rowsOf] at hwl
  generalize hws : machL 1 none (splitL 10 s.data.toList) = ws at hown hwl hpe
  obtain ⟨hwn, hws2⟩ := hwl
  obtain ⟨rfl, hrow⟩ := whAt_of_own hown rfl (by unfold maxLen; omega)
  have HW := Lib.hid hrow
  have HPE := Lib.hid hpe
  have hw1 : w.heap.size < w1.heap.size := HR1.out.lt
  clear hown hrow hb1 hpe hws
  go_wp2_with fail
  go_loopw [4, 5, 18] (fun v x i wr => ∃ (k : Nat) (sec : List UInt8) (ls : List Ln), k ≤ ws.length ∧ ls.length ≤ k ∧ i = .int .i64 k ∧ x = .string (str sec) ∧ Hid (foldL [] [] ws = foldL sec ls (ws.drop k)) ∧ Hid (wr.ownsRow w1.heap.size 34 4 v ls.length (lns ls)) ∧ Hid (Below w1.heap.size w1 wr)) (fun v x i wr => ws.length - (intOf i).toNat)
  case atStart => exact ⟨0, [], [], Nat.zero_le _, Nat.le_refl _, rfl, rfl, rfl, World.ownsRow_nil _ _ _ _, Below.refl _ _⟩
  case round =>
    obtain ⟨k, sec, ls, hk, hll, rfl, rfl, hat, hO, hbw⟩ := hrel
    have hbs : w1.heap.size ≤ wr.heap.size := hbw.out.size
    have b0 : (0 : Int) ≤ (k : Int) := by omega
    by_cases hlt : k < ws.length
    · have b1 : (k : Int) < (ws.length : Int) := by omega
      obtain ⟨ad, p, rfl, hadB, hx, hc0, hc1⟩ := (HW.out.below hbw.out).at_ hlt
      have hpl : p.1.length ≤ 20001 := hws2 p (List.mem_of_getElem? hx)
      have HD := Lib.hid (drop_get hx)
      clear hx
      have HGa : Hid (Blk (wr.alloc (.cells #[.string (str p.1), .int .i64 p.2] 48)) wr.heap.size 48 #[.string (str p.1), .int .i64 p.2]) := Blk.new wr _ _
      have Hb1a : Hid (Below w1.heap.size w1 (wr.alloc (.cells #[.string (str p.1), .int .i64 p.2] 48))) := hbw.out.alloc hbs _
      have HOa : Hid ((wr.alloc (.cells #[.string (str p.1), .int .i64 p.2] 48)).ownsRow w1.heap.size 34 4 u4 ls.length (lns ls)) := hO.out.alloc _
      have HRw : Hid (Blk wr w.heap.size 26 #[.int .i64 0, .int .i64 0]) := HR1.out.below hbw.out HR1.out.lt
      have Hbw0 : Hid (Below w.heap.size w wr) := more3 HB1.out HB1.out.size hbw.out
      have r0 : wr.cell? ⟨w.heap.size, 0, none⟩ = some (.int .i64 0) := HRw.out.cell 0
      have r1 : wr.cell? ⟨w.heap.size, 1, none⟩ = some (.int .i64 0) := HRw.out.cell 1
      have r2 : wr.frozen? ⟨w.heap.size, 0, none⟩ = false := HRw.out.frozen 0
      have r3 : wr.frozen? ⟨w.heap.size, 1, none⟩ = false := HRw.out.frozen 1
      have z1 : (str p.1).size ≤ maxLen := by rw [str_size]; unfold maxLen; omega
      have z2 : (trimS (str p.1)).size ≤ 20001 := by have := trimS_size (str p.1); rw [str_size] at this; omega
      have z3 : (trimS (str p.1)).size ≤ maxLen := by unfold maxLen; omega
      have hwr : w.heap.size < wr.heap.size := by omega
      obtain ⟨q0, hq0⟩ : ∃ q0 : Int, eqAt (trimS (str p.1)) = q0 := ⟨_, rfl⟩
      have HEQ := Lib.hid hq0
      clear hq0
      rcases hc : cleanL (str p.1).data.toList with _ | _
      · have HST : Hid (lineL sec p.1 = .bad 1) := by
          show _ = _
          have : cleanL p.1 = false := hc
          unfold lineL
          rw [if_pos this]
        have HN : Hid (parseT s.data.toList = ([], 1, p.2)) := by
          show _ = _
          rw [HPE.out, hat.out, HD.out, foldL, HST.out]
        clear HST
        go_wp2_with (first
                    | (go_at_call 23; refine (Trim_any _ (by assumption) _).mono ?_; rintro e w' ⟨rfl, rfl⟩)
                    | (go_at_call 24; refine (equals_any _ (by assumption) _).mono ?_; rintro e w' ⟨rfl, rfl⟩; rw [HEQ.out])
                    | (go_at_call 19; refine (Clean_any _ (by assumption) _).mono ?_; rintro e w' ⟨rfl, rfl⟩)
                    | (go_at_call 25; refine (of_key _ (by assumption) _).mono ?_; rintro e w' ⟨rfl, rfl⟩))
        go_region
        all_goals
          go_wp2_with fail
          have HRz := Lib.hid ((((HRw.out.setCell 0 (.int .i64 1)).setCell 1 (.int .i64 p.2)).alloc (.cells #[.string (str p.1), .int .i64 p.2] 48)).drew)
          have HBz := Lib.hid (below_drewN (((Hbw0.out.setCell (p := ⟨w.heap.size, 0, none⟩) (Nat.le_refl _) (.int .i64 1)).setCell (p := ⟨w.heap.size, 1, none⟩) (Nat.le_refl _) (.int .i64 p.2)).alloc (by simp [World.setCell]; omega) (.cells #[.string (str p.1), .int .i64 p.2] 48)) 1)
          refine bodyPost_ret (results_tmp_agg rfl _ _ w.heap.size _ _ _ _ rfl rfl HRz.out Tryd.underlying26 rfl (by kernel_rfl)) rfl ?_
          refine ⟨none, 0, 0, ?_, ?_, HBz.out⟩
          · rw [HN.out]; rfl
          · rw [HN.out]; exact LnsAt.none_
      by_cases h400 : 400 < p.1.length
      · have HST : Hid (lineL sec p.1 = .bad 2) := by
          show _ = _
          have : cleanL p.1 = true := hc
          unfold lineL
          rw [this, if_neg (by simp), if_pos h400]
        have i4 : decide ((400 : Int) < ((str p.1).size : Int)) = true := by rw [str_size]; simp; omega
        have HN : Hid (parseT s.data.toList = ([], 2, p.2)) := by
          show _ = _
          rw [HPE.out, hat.out, HD.out, foldL, HST.out]
        clear HST
        go_wp2_with (first
                    | (go_at_call 23; refine (Trim_any _ (by assumption) _).mono ?_; rintro e w' ⟨rfl, rfl⟩)
                    | (go_at_call 24; refine (equals_any _ (by assumption) _).mono ?_; rintro e w' ⟨rfl, rfl⟩; rw [HEQ.out])
                    | (go_at_call 19; refine (Clean_any _ (by assumption) _).mono ?_; rintro e w' ⟨rfl, rfl⟩)
                    | (go_at_call 25; refine (of_key _ (by assumption) _).mono ?_; rintro e w' ⟨rfl, rfl⟩))
        go_region
        all_goals
          go_wp2_with fail
          have HRz := Lib.hid ((((HRw.out.setCell 0 (.int .i64 2)).setCell 1 (.int .i64 p.2)).alloc (.cells #[.string (str p.1), .int .i64 p.2] 48)).drew)
          have HBz := Lib.hid (below_drewN (((Hbw0.out.setCell (p := ⟨w.heap.size, 0, none⟩) (Nat.le_refl _) (.int .i64 2)).setCell (p := ⟨w.heap.size, 1, none⟩) (Nat.le_refl _) (.int .i64 p.2)).alloc (by simp [World.setCell]; omega) (.cells #[.string (str p.1), .int .i64 p.2] 48)) 1)
          refine bodyPost_ret (results_tmp_agg rfl _ _ w.heap.size _ _ _ _ rfl rfl HRz.out Tryd.underlying26 rfl (by kernel_rfl)) rfl ?_
          refine ⟨none, 0, 0, ?_, ?_, HBz.out⟩
          · rw [HN.out]; rfl
          · rw [HN.out]; exact LnsAt.none_
      have i4 : decide ((400 : Int) < ((str p.1).size : Int)) = false := by rw [str_size]; simp; omega
      have HLS : Hid (lineL sec p.1 = sayL sec (trimS (str p.1)).data.toList) := line_say (by exact hc) h400 sec
      clear h400
      by_cases h0 : 0 < (trimS (str p.1)).size
      · have he : (trimS (str p.1)).toList.isEmpty = false := emp_f h0
        have b5 : (0 : Int) ≤ ((trimS (str p.1)).size : Int) - 1 := by omega
        have b6 : ((trimS (str p.1)).size : Int) - 1 < ((trimS (str p.1)).size : Int) := by omega
        have b7 : (((trimS (str p.1)).size : Int) - 1).toNat = (trimS (str p.1)).size - 1 := by omega
        have b8 : (0 : Int) < ((trimS (str p.1)).size : Int) := by omega
        have hd := headIs_at (c := 91) h0
        have hl := lastIs_at (c := 93) h0
        rcases hh : headIs 91 (trimS (str p.1)) with _ | _
        · have e1 : (((trimS (str p.1))[0].toNat : Int) == 91) = false := hd.symm.trans hh
          have HSK := Lib.hid (HLS.out.trans (say_key h0 hh sec))
          clear hd hl hh
          rcases hf : cutF 61 (trimS (str p.1)) with _ | _
          · obtain rfl : q0 = -1 := HEQ.out.symm.trans (eqAt_no hf)
            have HST : Hid (lineL sec p.1 = .bad 9) := by
              show _ = _
              rw [HSK.out, if_pos (.inl hf)]
            clear hf
            have HN : Hid (parseT s.data.toList = ([], 9, p.2)) := by
              show _ = _
              rw [HPE.out, hat.out, HD.out, foldL, HST.out]
            clear HST
            go_wp2_with (first
                        | (go_at_call 23; refine (Trim_any _ (by assumption) _).mono ?_; rintro e w' ⟨rfl, rfl⟩)
                        | (go_at_call 24; refine (equals_any _ (by assumption) _).mono ?_; rintro e w' ⟨rfl, rfl⟩; rw [HEQ.out])
                        | (go_at_call 19; refine (Clean_any _ (by assumption) _).mono ?_; rintro e w' ⟨rfl, rfl⟩)
                        | (go_at_call 25; refine (of_key _ (by assumption) _).mono ?_; rintro e w' ⟨rfl, rfl⟩))
            go_region
            all_goals
              go_wp2_with fail
              have HRz := Lib.hid ((((HRw.out.setCell 0 (.int .i64 9)).setCell 1 (.int .i64 p.2)).alloc (.cells #[.string (str p.1), .int .i64 p.2] 48)).drew)
              have HBz := Lib.hid (below_drewN (((Hbw0.out.setCell (p := ⟨w.heap.size, 0, none⟩) (Nat.le_refl _) (.int .i64 9)).setCell (p := ⟨w.heap.size, 1, none⟩) (Nat.le_refl _) (.int .i64 p.2)).alloc (by simp [World.setCell]; omega) (.cells #[.string (str p.1), .int .i64 p.2] 48)) 1)
              refine bodyPost_ret (results_tmp_agg rfl _ _ w.heap.size _ _ _ _ rfl rfl HRz.out Tryd.underlying26 rfl (by kernel_rfl)) rfl ?_
              refine ⟨none, 0, 0, ?_, ?_, HBz.out⟩
              · rw [HN.out]; rfl
              · rw [HN.out]; exact LnsAt.none_
          obtain ⟨y1, y2, y3⟩ := cut_pos hf
          have hq1 : q0 = ((cutA 61 (trimS (str p.1))).size : Int) := HEQ.out.symm.trans (eqAt_yes hf)
          generalize hqn : (cutA 61 (trimS (str p.1))).size = q at y1 y2 y3 hq1
          subst hq1
          have x1 : (0 : Int) ≤ (q : Int) := by omega
          have x2 : (q : Int) ≤ ((trimS (str p.1)).size : Int) := by omega
          have x3 : (0 : Int) ≤ (q : Int) + 1 := by omega
          have x4 : (q : Int) + 1 ≤ ((trimS (str p.1)).size : Int) := by omega
          have z4 : ((trimS (str p.1)).extract 0 q).size ≤ maxLen := by rw [ByteArray.size_extract]; unfold maxLen; omega
          have z5 : ((trimS (str p.1)).extract (q + 1) (trimS (str p.1)).size).size ≤ maxLen := by rw [ByteArray.size_extract]; unfold maxLen; omega
          have z6 : (trimS ((trimS (str p.1)).extract 0 q)).size ≤ maxLen := by have := trimS_size ((trimS (str p.1)).extract 0 q); omega
          rw [← y2, ← y3] at HSK
          clear hqn
          rcases hk2 : keyS (trimS ((trimS (str p.1)).extract 0 q)) with _ | _
          · have HST : Hid (lineL sec p.1 = .bad 9) := by
              show _ = _
              rw [HSK.out, if_pos (.inr hk2)]
            clear hf y2 y3
            have HN : Hid (parseT s.data.toList = ([], 9, p.2)) := by
              show _ = _
              rw [HPE.out, hat.out, HD.out, foldL, HST.out]
            clear HST
            go_wp2_with (first
                        | (go_at_call 23; refine (Trim_any _ (by assumption) _).mono ?_; rintro e w' ⟨rfl, rfl⟩)
                        | (go_at_call 24; refine (equals_any _ (by assumption) _).mono ?_; rintro e w' ⟨rfl, rfl⟩; rw [HEQ.out])
                        | (go_at_call 19; refine (Clean_any _ (by assumption) _).mono ?_; rintro e w' ⟨rfl, rfl⟩)
                        | (go_at_call 25; refine (of_key _ (by assumption) _).mono ?_; rintro e w' ⟨rfl, rfl⟩))
            go_region
            all_goals
              go_wp2_with fail
              have HRz := Lib.hid ((((HRw.out.setCell 0 (.int .i64 9)).setCell 1 (.int .i64 p.2)).alloc (.cells #[.string (str p.1), .int .i64 p.2] 48)).drew)
              have HBz := Lib.hid (below_drewN (((Hbw0.out.setCell (p := ⟨w.heap.size, 0, none⟩) (Nat.le_refl _) (.int .i64 9)).setCell (p := ⟨w.heap.size, 1, none⟩) (Nat.le_refl _) (.int .i64 p.2)).alloc (by simp [World.setCell]; omega) (.cells #[.string (str p.1), .int .i64 p.2] 48)) 1)
              refine bodyPost_ret (results_tmp_agg rfl _ _ w.heap.size _ _ _ _ rfl rfl HRz.out Tryd.underlying26 rfl (by kernel_rfl)) rfl ?_
              refine ⟨none, 0, 0, ?_, ?_, HBz.out⟩
              · rw [HN.out]; rfl
              · rw [HN.out]; exact LnsAt.none_
          by_cases hsec : sec = []
          · have hes : (str sec).toList.isEmpty = true := by rw [isEmp_str, hsec]; rfl
            have HST : Hid (lineL sec p.1 = .bad 10) := by
              show _ = _
              rw [HSK.out, if_neg (by rw [hf, hk2]; simp), if_pos hsec]
            clear hf y2 y3 hsec
            have HN : Hid (parseT s.data.toList = ([], 10, p.2)) := by
              show _ = _
              rw [HPE.out, hat.out, HD.out, foldL, HST.out]
            clear HST
            go_wp2_with (first
                        | (go_at_call 23; refine (Trim_any _ (by assumption) _).mono ?_; rintro e w' ⟨rfl, rfl⟩)
                        | (go_at_call 24; refine (equals_any _ (by assumption) _).mono ?_; rintro e w' ⟨rfl, rfl⟩; rw [HEQ.out])
                        | (go_at_call 19; refine (Clean_any _ (by assumption) _).mono ?_; rintro e w' ⟨rfl, rfl⟩)
                        | (go_at_call 25; refine (of_key _ (by assumption) _).mono ?_; rintro e w' ⟨rfl, rfl⟩))
            go_region
            all_goals
              go_wp2_with fail
              have HRz := Lib.hid ((((HRw.out.setCell 0 (.int .i64 10)).setCell 1 (.int .i64 p.2)).alloc (.cells #[.string (str p.1), .int .i64 p.2] 48)).drew)
              have HBz := Lib.hid (below_drewN (((Hbw0.out.setCell (p := ⟨w.heap.size, 0, none⟩) (Nat.le_refl _) (.int .i64 10)).setCell (p := ⟨w.heap.size, 1, none⟩) (Nat.le_refl _) (.int .i64 p.2)).alloc (by simp [World.setCell]; omega) (.cells #[.string (str p.1), .int .i64 p.2] 48)) 1)
              refine bodyPost_ret (results_tmp_agg rfl _ _ w.heap.size _ _ _ _ rfl rfl HRz.out Tryd.underlying26 rfl (by kernel_rfl)) rfl ?_
              refine ⟨none, 0, 0, ?_, ?_, HBz.out⟩
              · rw [HN.out]; rfl
              · rw [HN.out]; exact LnsAt.none_
          have hes : (str sec).toList.isEmpty = false := by rw [isEmp_str, decide_eq_false_iff_not]; exact hsec
          have HST : Hid (lineL sec p.1 = .line (trimL ((trimS (str p.1)).extract 0 q).data.toList) (trimL ((trimS (str p.1)).extract (q + 1) (trimS (str p.1)).size).data.toList)) := by
            show _ = _
            rw [HSK.out, if_neg (by rw [hf, hk2]; simp), if_neg hsec]
          clear hf y2 y3 hsec
          go_wp2_with (first
            | (go_at_call 23; refine (Trim_any _ (by assumption) _).mono ?_; rintro e w' ⟨rfl, rfl⟩)
            | (go_at_call 24; refine (equals_any _ (by assumption) _).mono ?_; rintro e w' ⟨rfl, rfl⟩; rw [HEQ.out])
            | (go_at_call 19; refine (Clean_any _ (by assumption) _).mono ?_; rintro e w' ⟨rfl, rfl⟩)
            | (go_at_call 25; refine (of_key _ (by assumption) _).mono ?_; rintro e w' ⟨rfl, rfl⟩))
          have hz63 : ls.length + 1 ≤ maxLen := by unfold maxLen; omega
          have hz47 : (ls.length + 1) * 56 ≤ 140737488355328 := by omega
          have hzb : w1.heap.size ≤ (((wr.alloc (.cells #[.string (str p.1), .int .i64 p.2] 48)).alloc (.cells #[.string (str sec), .string (trimS ((trimS (str p.1)).extract 0 q)), .string (trimS ((trimS (str p.1)).extract (q + 1) (trimS (str p.1)).size)), .int .i64 p.2] 34)).drew).heap.size := by simp; omega
          have Hnw : Hid (∀ (j : Nat) (x : Value), [Value.string (str sec), .string (trimS ((trimS (str p.1)).extract 0 q)), .string (trimS ((trimS (str p.1)).extract (q + 1) (trimS (str p.1)).size)), .int .i64 p.2][j]? = some x → (((wr.alloc (.cells #[.string (str p.1), .int .i64 p.2] 48)).alloc (.cells #[.string (str sec), .string (trimS ((trimS (str p.1)).extract 0 q)), .string (trimS ((trimS (str p.1)).extract (q + 1) (trimS (str p.1)).size)), .int .i64 p.2] 34)).drew).cell? ((⟨wr.heap.size + 1, 0, none⟩ : Addr).add j) = some x) := by
            show ∀ _, _
            intro j x hj
            have HNb := Blk.new (wr.alloc (.cells #[.string (str p.1), .int .i64 p.2] 48)) 34 #[.string (str sec), .string (trimS ((trimS (str p.1)).extract 0 q)), .string (trimS ((trimS (str p.1)).extract (q + 1) (trimS (str p.1)).size)), .int .i64 p.2]
            rw [show (wr.alloc (.cells #[.string (str p.1), .int .i64 p.2] 48)).heap.size = wr.heap.size + 1 by simp] at HNb
            rw [add_cell]
            refine (HNb.drew.cell j).trans ?_
            simpa using hj
          have Hone : Hid (∀ x ∈ [Value.string (str sec), .string (trimS ((trimS (str p.1)).extract 0 q)), .string (trimS ((trimS (str p.1)).extract (q + 1) (trimS (str p.1)).size)), .int .i64 p.2], x.oneCell' = true) := by
            show ∀ _, _
            intro x hx; simp at hx; rcases hx with rfl | rfl | rfl | rfl <;> rfl
          have HOb : Hid ((((wr.alloc (.cells #[.string (str p.1), .int .i64 p.2] 48)).alloc (.cells #[.string (str sec), .string (trimS ((trimS (str p.1)).extract 0 q)), .string (trimS ((trimS (str p.1)).extract (q + 1) (trimS (str p.1)).size)), .int .i64 p.2] 34)).drew).ownsRow w1.heap.size 34 4 u4 ls.length (lns ls)) := (HOa.out.alloc _).drew
          have Hbb : Hid (Below w1.heap.size w1 (((wr.alloc (.cells #[.string (str p.1), .int .i64 p.2] 48)).alloc (.cells #[.string (str sec), .string (trimS ((trimS (str p.1)).extract 0 q)), .string (trimS ((trimS (str p.1)).extract (q + 1) (trimS (str p.1)).size)), .int .i64 p.2] 34)).drew)) := below_drewN (Hb1a.out.alloc (by simp; omega) (.cells #[.string (str sec), .string (trimS ((trimS (str p.1)).extract 0 q)), .string (trimS ((trimS (str p.1)).extract (q + 1) (trimS (str p.1)).size)), .int .i64 p.2] 34)) 1
          have s1 : IntKind.i64.wrap ((q : Int) + 1) = (q : Int) + 1 := IntWalk.i64_in _ (by omega)
          have s2 : ((q : Int) + 1).toNat = q + 1 := by omega
          have g1 : (wr.alloc (.cells #[.string (str p.1), .int .i64 p.2] 48)).cell? ⟨wr.heap.size, 1, none⟩ = some (.int .i64 p.2) := HGa.out.cell 1
          have HN : Hid (foldL [] [] ws = foldL sec (ls ++ [(⟨sec, trimL ((trimS (str p.1)).extract 0 q).data.toList, trimL ((trimS (str p.1)).extract (q + 1) (trimS (str p.1)).size).data.toList, p.2⟩ : Ln)]) (ws.drop (k + 1))) := by
            show _ = _
            rw [hat.out, HD.out, foldL, HST.out]
          clear HST
          go_region_law (first | ((refine step_append_lies _ (by rfl) _ _ 23 (by rfl) w1.heap.size 34 i0 (.agg #[.string ⟨#[]⟩, .string ⟨#[]⟩, .string ⟨#[]⟩, .int .i64 0]) 4 56 Tryd.underlying23 hi hz0 hz1 hz2 rfl (by decide) u4 ls.length (lns ls) (by rfl) HOb.out ⟨wr.heap.size + 1, 0, none⟩ 1 1 [.string (str sec), .string (trimS ((trimS (str p.1)).extract 0 q)), .string (trimS ((trimS (str p.1)).extract (q + 1) (trimS (str p.1)).size)), .int .i64 p.2] (by rfl) rfl Hnw.out Hone.out (by decide) hz63 hz47 hzb _ rfl ?_; intro g cap w4 hown4 hgrow hat4 hlt4)) | (go_simp; go_at_call 23; refine (Trim_any _ (by assumption) _).mono ?_; rintro e w' ⟨rfl, rfl⟩))
          all_goals
            clear s1 s2
            have HO4 : Hid (w4.ownsRow w1.heap.size 34 4 (.slice (some ⟨g, 0, none⟩) (ls.length + 1) cap) (ls ++ [(⟨sec, trimL ((trimS (str p.1)).extract 0 q).data.toList, trimL ((trimS (str p.1)).extract (q + 1) (trimS (str p.1)).size).data.toList, p.2⟩ : Ln)]).length (lns (ls ++ [(⟨sec, trimL ((trimS (str p.1)).extract 0 q).data.toList, trimL ((trimS (str p.1)).extract (q + 1) (trimS (str p.1)).size).data.toList, p.2⟩ : Ln)]))) := by
              rw [List.length_append, lns_snoc]
              exact hown4
            have Hb4 : Hid (Below w1.heap.size w1 w4) := Hbb.out.grown hgrow hzb (fun g hg => (HOb.out.lt g hg).1)
            clear hown4 hgrow hat4 hlt4 hz63 hz47 hzb
            go_wp2_with fail
            go_roundw
            case rel => exact ⟨k + 1, sec, ls ++ [(⟨sec, trimL ((trimS (str p.1)).extract 0 q).data.toList, trimL ((trimS (str p.1)).extract (q + 1) (trimS (str p.1)).size).data.toList, p.2⟩ : Ln)], by omega, by rw [List.length_append]; show ls.length + 1 ≤ _; omega, by go_num, rfl, HN, HO4, Hb4⟩
            case measure => simp [intOf]; omega
        · have e1 : (((trimS (str p.1))[0].toNat : Int) == 91) = true := hd.symm.trans hh
          have HSS := Lib.hid (HLS.out.trans (sect_say2 hh sec))
          clear hd
          rcases hla : lastIs 93 (trimS (str p.1)) with _ | _
          · have e20 : ((((trimS (str p.1))[(trimS (str p.1)).size - 1]'(by omega)).toNat : Int) == 93) = false := hl.symm.trans hla
            have e2 : ((((trimS (str p.1))[(trimS (str p.1)).size - 1]'(by omega)).toNat : Int) != 93) = true := by rw [bne, e20]; rfl
            have HST : Hid (lineL sec p.1 = .bad 10) := by
              show _ = _
              rw [HSS.out, if_neg (by rw [hla]; simp)]
            clear hl hla hh
            have HN : Hid (parseT s.data.toList = ([], 10, p.2)) := by
              show _ = _
              rw [HPE.out, hat.out, HD.out, foldL, HST.out]
            clear HST
            go_wp2_with (first
                        | (go_at_call 23; refine (Trim_any _ (by assumption) _).mono ?_; rintro e w' ⟨rfl, rfl⟩)
                        | (go_at_call 24; refine (equals_any _ (by assumption) _).mono ?_; rintro e w' ⟨rfl, rfl⟩; rw [HEQ.out])
                        | (go_at_call 19; refine (Clean_any _ (by assumption) _).mono ?_; rintro e w' ⟨rfl, rfl⟩)
                        | (go_at_call 25; refine (of_sec _ (by assumption) _).mono ?_; rintro e w' ⟨rfl, rfl⟩))
            go_region
            all_goals
              go_wp2_with fail
              have HRz := Lib.hid ((((HRw.out.setCell 0 (.int .i64 10)).setCell 1 (.int .i64 p.2)).alloc (.cells #[.string (str p.1), .int .i64 p.2] 48)).drew)
              have HBz := Lib.hid (below_drewN (((Hbw0.out.setCell (p := ⟨w.heap.size, 0, none⟩) (Nat.le_refl _) (.int .i64 10)).setCell (p := ⟨w.heap.size, 1, none⟩) (Nat.le_refl _) (.int .i64 p.2)).alloc (by simp [World.setCell]; omega) (.cells #[.string (str p.1), .int .i64 p.2] 48)) 1)
              refine bodyPost_ret (results_tmp_agg rfl _ _ w.heap.size _ _ _ _ rfl rfl HRz.out Tryd.underlying26 rfl (by kernel_rfl)) rfl ?_
              refine ⟨none, 0, 0, ?_, ?_, HBz.out⟩
              · rw [HN.out]; rfl
              · rw [HN.out]; exact LnsAt.none_
          have e20 : ((((trimS (str p.1))[(trimS (str p.1)).size - 1]'(by omega)).toNat : Int) == 93) = true := hl.symm.trans hla
          have e2 : ((((trimS (str p.1))[(trimS (str p.1)).size - 1]'(by omega)).toNat : Int) != 93) = false := by rw [bne, e20]; rfl
          have h2 : 2 ≤ (trimS (str p.1)).size := by
            rcases Nat.lt_or_ge (trimS (str p.1)).size 2 with h | h
            · exfalso
              have e3 : (trimS (str p.1)).size - 1 = 0 := by omega
              have e4 := hl.symm.trans hla
              simp only [e3] at e4
              rw [beq_iff_eq] at e1 e4
              rw [e1] at e4
              exact absurd e4 (by decide)
            · exact h
          have b9 : (1 : Int) ≤ ((trimS (str p.1)).size : Int) - 1 := by omega
          have b10 : ((trimS (str p.1)).size : Int) - 1 ≤ ((trimS (str p.1)).size : Int) := by omega
          have b11 : (2 : Int) ≤ ((trimS (str p.1)).size : Int) := by omega
          have hmx : max (((trimS (str p.1)).size : Int) - 1) 1 = ((trimS (str p.1)).size : Int) - 1 := by omega
          have z4 : ((trimS (str p.1)).extract 1 ((trimS (str p.1)).size - 1)).size ≤ maxLen := by rw [ByteArray.size_extract]; unfold maxLen; omega
          clear hl hh
          rcases hso : secS ((trimS (str p.1)).extract 1 ((trimS (str p.1)).size - 1)) with _ | _
          · have HST : Hid (lineL sec p.1 = .bad 10) := by
              show _ = _
              rw [HSS.out, if_neg (by rw [hso]; simp)]
            clear hla
            have HN : Hid (parseT s.data.toList = ([], 10, p.2)) := by
              show _ = _
              rw [HPE.out, hat.out, HD.out, foldL, HST.out]
            clear HST
            go_wp2_with (first
                        | (go_at_call 23; refine (Trim_any _ (by assumption) _).mono ?_; rintro e w' ⟨rfl, rfl⟩)
                        | (go_at_call 24; refine (equals_any _ (by assumption) _).mono ?_; rintro e w' ⟨rfl, rfl⟩; rw [HEQ.out])
                        | (go_at_call 19; refine (Clean_any _ (by assumption) _).mono ?_; rintro e w' ⟨rfl, rfl⟩)
                        | (go_at_call 25; refine (of_sec _ (by assumption) _).mono ?_; rintro e w' ⟨rfl, rfl⟩))
            go_region
            all_goals
              go_wp2_with fail
              have HRz := Lib.hid ((((HRw.out.setCell 0 (.int .i64 10)).setCell 1 (.int .i64 p.2)).alloc (.cells #[.string (str p.1), .int .i64 p.2] 48)).drew)
              have HBz := Lib.hid (below_drewN (((Hbw0.out.setCell (p := ⟨w.heap.size, 0, none⟩) (Nat.le_refl _) (.int .i64 10)).setCell (p := ⟨w.heap.size, 1, none⟩) (Nat.le_refl _) (.int .i64 p.2)).alloc (by simp [World.setCell]; omega) (.cells #[.string (str p.1), .int .i64 p.2] 48)) 1)
              refine bodyPost_ret (results_tmp_agg rfl _ _ w.heap.size _ _ _ _ rfl rfl HRz.out Tryd.underlying26 rfl (by kernel_rfl)) rfl ?_
              refine ⟨none, 0, 0, ?_, ?_, HBz.out⟩
              · rw [HN.out]; rfl
              · rw [HN.out]; exact LnsAt.none_
          have HST : Hid (lineL sec p.1 = .sect ((trimS (str p.1)).extract 1 ((trimS (str p.1)).size - 1)).data.toList) := by
            show _ = _
            rw [HSS.out, if_pos ⟨hla, hso⟩]
          clear hla
          have HN : Hid (foldL [] [] ws = foldL ((trimS (str p.1)).extract 1 ((trimS (str p.1)).size - 1)).data.toList ls (ws.drop (k + 1))) := by
            show _ = _
            rw [hat.out, HD.out, foldL, HST.out]
          clear HST
          go_wp2_with (first
                      | (go_at_call 23; refine (Trim_any _ (by assumption) _).mono ?_; rintro e w' ⟨rfl, rfl⟩)
                      | (go_at_call 24; refine (equals_any _ (by assumption) _).mono ?_; rintro e w' ⟨rfl, rfl⟩; rw [HEQ.out])
                      | (go_at_call 19; refine (Clean_any _ (by assumption) _).mono ?_; rintro e w' ⟨rfl, rfl⟩)
                      | (go_at_call 25; refine (of_sec _ (by assumption) _).mono ?_; rintro e w' ⟨rfl, rfl⟩))
          go_roundw
          case rel => exact ⟨k + 1, ((trimS (str p.1)).extract 1 ((trimS (str p.1)).size - 1)).data.toList, ls, by omega, by omega, by go_num, by rw [str_data], HN, HOa, Hb1a⟩
          case measure => simp [intOf]; omega
      · have he : (trimS (str p.1)).toList.isEmpty = true := emp_t (by omega)
        have HST : Hid (lineL sec p.1 = .skip) := by
          show _ = _
          rw [HLS.out, nil_of_size (s := trimS (str p.1)) (by omega)]; rfl
        have HN : Hid (foldL [] [] ws = foldL sec ls (ws.drop (k + 1))) := by
          show _ = _
          rw [hat.out, HD.out, foldL, HST.out]
        clear HST
        go_wp2_with (first
                    | (go_at_call 23; refine (Trim_any _ (by assumption) _).mono ?_; rintro e w' ⟨rfl, rfl⟩)
                    | (go_at_call 24; refine (equals_any _ (by assumption) _).mono ?_; rintro e w' ⟨rfl, rfl⟩; rw [HEQ.out])
                    | (go_at_call 19; refine (Clean_any _ (by assumption) _).mono ?_; rintro e w' ⟨rfl, rfl⟩)
                    | (go_at_call 25; refine (of_sec _ (by assumption) _).mono ?_; rintro e w' ⟨rfl, rfl⟩))
        go_roundw
        case rel => exact ⟨k + 1, sec, ls, by omega, by omega, by go_num, rfl, HN, HOa, Hb1a⟩
        case measure => simp [intOf]; omega
    · have HN : Hid (foldL [] [] ws = (ls, 0, 0)) := by
        show _ = _
        rw [hat.out, List.drop_of_length_le (by omega), foldL]
      have HR2 : Hid (Blk wr w.heap.size 26 #[.int .i64 0, .int .i64 0]) := HR1.out.below hbw.out HR1.out.lt
      have Hb2 : Hid (Below w.heap.size w wr) := more3 HB1.out HB1.out.size hbw.out
      have r0 : wr.cell? ⟨w.heap.size, 0, none⟩ = some (.int .i64 0) := HR2.out.cell 0
      have r1 : wr.cell? ⟨w.heap.size, 1, none⟩ = some (.int .i64 0) := HR2.out.cell 1
      have r2 : wr.frozen? ⟨w.heap.size, 0, none⟩ = false := HR2.out.frozen 0
      have r3 : wr.frozen? ⟨w.heap.size, 1, none⟩ = false := HR2.out.frozen 1
      obtain ⟨A', n', c', rfl⟩ : ∃ A n c, u4 = .slice A n c := by
        rcases hO.out.2 with ⟨hv, _⟩ | ⟨g, cap, cur, hv, _⟩
        · exact ⟨_, _, _, hv⟩
        · exact ⟨_, _, _, hv⟩
      obtain ⟨rfl, _⟩ := lnsAt_of_own hO.out rfl (by unfold maxLen; omega)
      go_wp2_with fail
      have HRz := Lib.hid ((HR2.out.setCell 0 (.int .i64 0)).setCell 1 (.int .i64 0))
      have HBz := Lib.hid ((Hb2.out.setCell (p := ⟨w.heap.size, 0, none⟩) (Nat.le_refl _) (.int .i64 0)).setCell (p := ⟨w.heap.size, 1, none⟩) (Nat.le_refl _) (.int .i64 0))
      have HLz := Lib.hid ((lnsAt_of_own (own_set (u := .int .i64 0) (a := ⟨w.heap.size, 1, none⟩) (own_set (u := .int .i64 0) (a := ⟨w.heap.size, 0, none⟩) hO.out hw1) hw1) rfl (by unfold maxLen; omega)).2)
      refine bodyPost_ret (results_tmp_agg rfl _ _ w.heap.size _ _ _ _ rfl rfl HRz.out Tryd.underlying26 rfl (by kernel_rfl)) rfl ?_
      have HPS : Hid (parseT s.data.toList = (ls, 0, 0)) := HPE.out.trans HN.out
      unfold ParseP
      rw [HPS.out]
      exact ⟨A', ls.length, c', rfl, HLz.out, HBz.out⟩
theorem rParse_any (s : ByteArray) (w : World) : Calls Tryd.prog 12 #[.string s] w (ParseP s w) := by
  by_cases h : s.size ≤ 20000
  · exact rParse_short s h w
  · exact rParse_long s (by omega) w
end Go.Proofs.YthgpocbmkmmecaaDoor
