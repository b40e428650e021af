/- The walks of the laws DiskFind, DiskLinks. A parameter that is a row of files: opened to what it holds, and read again i -/
import Derived.Test.YthodbeeglkedcaaGreatDzbr
import Derived.Test.YthodbeeglkedcaaGreatRows
import Derived.ProofKit
import Derived.OpenShut
import Derived.Deep.Strs
import Derived.Deep.Slices
import Derived.WideKeyArgs
import Derived.Lib.SmallJoins
import Derived.Deep.DeepHandedRow
import Derived.Stop.LaidErr
import Derived.Lay
import Derived.SevenTiedAt
import Derived.SizedLaws
import Derived.JoinedCond
namespace Go.Proofs.YthodbeeglkedcaaGreat
open Go.RowKit
theorem findP_of {l : List Fi} {u : List UInt8} {w w' : World} {e : Ending} {r : Fd} {k : Int} (hr : findL nmsP l u = (r, k)) (h : FindP l u w e w') : ∃ A c, e = .returned (.tuple #[.agg #[.string (str r.n), .string (str r.p), .bool r.m, .slice A r.d.length c], .int .i64 k]) ∧ RowAt w' w'.heap.size A r.d.length r.d ∧ Below w.heap.size w w' := findP_at h hr
set_option maxHeartbeats 8000000 in
theorem DiskFind_any (A : Option Addr) (n c : Nat) (l : List Fi) (u : ByteArray) (hu : u.size ≤ 4194304) (w : World) (h : FisAt w w.heap.size A n l) (hs : ∀ x ∈ l, SizeF x) :
    Calls Tryz.prog 3 #[.slice A n c, .string u] w fun e w' => e = .returned (.bool true) ∧ Below w.heap.size w w' := by
  have HL0 := Lib.hid h
  have HS := Lib.hid hs
  clear h hs
  obtain ⟨r, k, hr⟩ : ∃ r k, findL nmsP l u.data.toList = (r, k) := ⟨_, _, rfl⟩
  have HR := Lib.hid hr
  clear hr
  go_enter Tryz.func3, Tryz.ntmps3
  go_wp2_with fail
  refine (shown12_any _).mono ?_
  rintro e w1 ⟨rfl, hb1⟩
  have HB1 := Lib.hid hb1
  have HL1 := Lib.hid ((HL0.out.below hb1).wide hb1.size)
  clear hb1 HL0
  go_wp2_with fail
  refine (dFind_any A n c _ l u hu w1 HL1.out (Nat.le_refl _) HS.out).mono ?_
  intro e w2 h2
  obtain ⟨aA, ac, rfl, ha, hb2⟩ := findP_of HR.out h2
  have HX3 : Hid (Blk (w2.alloc (.cells #[.string (str r.n), .string (str r.p), .bool r.m, .slice aA r.d.length ac] 26)) w2.heap.size 26 (fdA r.n r.p r.m (.slice aA r.d.length ac))) := Blk.new w2 _ _
  have HA3 : Hid (RowAt (w2.alloc (.cells #[.string (str r.n), .string (str r.p), .bool r.m, .slice aA r.d.length ac] 26)) (w2.alloc (.cells #[.string (str r.n), .string (str r.p), .bool r.m, .slice aA r.d.length ac] 26)).heap.size aA r.d.length r.d) := (ha.below ((Below.refl _ w2).alloc (Nat.le_refl _) _)).wide (by simp)
  have HB3 : Hid (Below w.heap.size w (w2.alloc (.cells #[.string (str r.n), .string (str r.p), .bool r.m, .slice aA r.d.length ac] 26))) := (more3 HB1.out HB1.out.size hb2).alloc (by have := HB1.out.size; have := hb2.size; omega) _
  have HL3 : Hid (FisAt (w2.alloc (.cells #[.string (str r.n), .string (str r.p), .bool r.m, .slice aA r.d.length ac] 26)) (w2.alloc (.cells #[.string (str r.n), .string (str r.p), .bool r.m, .slice aA r.d.length ac] 26)).heap.size A n l) := ((HL1.out.below hb2).below ((Below.refl _ w2).alloc (Nat.le_refl _) _ |>.mono hb2.size)).wide (by have := hb2.size; simp; omega)
  clear h2 ha hb2 HB1 HL1
  go_wp2_with fail
  generalize w2.alloc (.cells #[.string (str r.n), .string (str r.p), .bool r.m, .slice aA r.d.length ac] 26) = w3 at *
  refine (Find_any A n c _ l u hu w3 HL3.out (Nat.le_refl _) HS.out).mono ?_
  intro e w4 h4
  obtain ⟨bA, bc, rfl, hbr, hb4⟩ := findP_of HR.out h4
  have HX4 := Lib.hid (HX3.out.below hb4 HX3.out.lt)
  have HX5 : Hid (Blk (w4.alloc (.cells #[.string (str r.n), .string (str r.p), .bool r.m, .slice bA r.d.length bc] 26)) w2.heap.size 26 (fdA r.n r.p r.m (.slice aA r.d.length ac))) := HX4.out.alloc _
  have HY5 : Hid (Blk (w4.alloc (.cells #[.string (str r.n), .string (str r.p), .bool r.m, .slice bA r.d.length bc] 26)) w4.heap.size 26 (fdA r.n r.p r.m (.slice bA r.d.length bc))) := Blk.new w4 _ _
  have HA5 : Hid (RowAt (w4.alloc (.cells #[.string (str r.n), .string (str r.p), .bool r.m, .slice bA r.d.length bc] 26)) (w4.alloc (.cells #[.string (str r.n), .string (str r.p), .bool r.m, .slice bA r.d.length bc] 26)).heap.size aA r.d.length r.d) := ((HA3.out.below hb4).below ((Below.refl _ w4).alloc (Nat.le_refl _) _ |>.mono hb4.size)).wide (by have := hb4.size; simp; omega)
  have HC5 : Hid (RowAt (w4.alloc (.cells #[.string (str r.n), .string (str r.p), .bool r.m, .slice bA r.d.length bc] 26)) (w4.alloc (.cells #[.string (str r.n), .string (str r.p), .bool r.m, .slice bA r.d.length bc] 26)).heap.size bA r.d.length r.d) := (hbr.below ((Below.refl _ w4).alloc (Nat.le_refl _) _)).wide (by simp)
  have HB5 : Hid (Below w.heap.size w (w4.alloc (.cells #[.string (str r.n), .string (str r.p), .bool r.m, .slice bA r.d.length bc] 26))) := (more3 HB3.out HB3.out.size hb4).alloc (by have := HB3.out.size; have := hb4.size; omega) _
  have HL5 : Hid (FisAt (w4.alloc (.cells #[.string (str r.n), .string (str r.p), .bool r.m, .slice bA r.d.length bc] 26)) (w4.alloc (.cells #[.string (str r.n), .string (str r.p), .bool r.m, .slice bA r.d.length bc] 26)).heap.size A n l) := ((HL3.out.below hb4).below ((Below.refl _ w4).alloc (Nat.le_refl _) _ |>.mono hb4.size)).wide (by have := hb4.size; simp; omega)
  clear h4 hbr hb4 HB3 HL3 HX3 HX4 HA3
  have hkk : (k == k) = true := by simp
  go_wp2_with (first | (refine wpList_load_row rfl 26 (.tmp 5) (by rfl) w2.heap.size (by rfl) 26 (fdA r.n r.p r.m (.slice aA r.d.length ac)) (0, 0) _ HX5.out Tryz.underlying26 rfl (by kernel_rfl) ?_) | (refine wpList_load_row rfl 26 (.tmp 7) (by rfl) w4.heap.size (by rfl) 26 (fdA r.n r.p r.m (.slice bA r.d.length bc)) (0, 0) _ HY5.out Tryz.underlying26 rfl (by kernel_rfl) ?_))
  generalize w4.alloc (.cells #[.string (str r.n), .string (str r.p), .bool r.m, .slice bA r.d.length bc] 26) = w5 at *
  have HSm := same_any r.n r.p r.m aA r.d.length ac r.d r.n r.p r.m bA r.d.length bc r.d _ w5 HA5.out HC5.out (Nat.le_refl _)
  rw [show sameB r.n r.p r.m r.d r.n r.p r.m r.d = true by simp [sameB]] at HSm
  refine HSm.mono ?_
  rintro e w6 ⟨rfl, hb6⟩
  have HB6 := Lib.hid (more3 HB5.out HB5.out.size hb6)
  have HL6 := Lib.hid ((HL5.out.below hb6).wide hb6.size)
  clear hb6 HSm HX5 HY5 HA5 HC5 HB5 HL5
  go_wp2_with fail
  refine (dMay_any A n c _ l w6 HL6.out (Nat.le_refl _) HS.out).mono ?_
  rintro e w7 ⟨rfl, hb7⟩
  have HB7 := Lib.hid (more3 HB6.out HB6.out.size hb7)
  have HL7 := Lib.hid ((HL6.out.below hb7).wide hb7.size)
  clear hb7 HB6 HL6
  go_wp2_with fail
  refine (May_any A n c _ l w7 HL7.out (Nat.le_refl _) HS.out).mono ?_
  rintro e w8 ⟨rfl, hb8⟩
  have HB8 := Lib.hid (more3 HB7.out HB7.out.size hb8)
  have hmm : (mayL nmsP l == mayL nmsP l) = true := by simp
  generalize mayL nmsP l = mm at *
  go_wp2_with fail
  go_ret
  exact ⟨by first | rfl | (rw [hmm]), HB8.out⟩
end Go.Proofs.YthodbeeglkedcaaGreat
namespace Go.Proofs.YthodbeeglkedcaaGreat
open Go.RowKit Go.Joins Go.ChangeShapes Go.WideShapes Go.ChangeAt Go.Deep
open Go.ChangeMaps (open_string shut_string)
theorem add_addL (a : Addr) (i j : Nat) : (a.add i).add j = a.add (i + j) := by
  unfold Addr.add
  by_cases hi : i = 0 <;> by_cases hj : j = 0 <;> simp [hi, hj, Nat.add_assoc]
theorem cell_ltP {W : World} {a : Addr} {v : Value} (h : W.cell? (a.add 0) = some v) : a.block < W.heap.size := by
  have := World.block_lt_of_cell? W _ h
  rwa [block_addW] at this
theorem pick_ltP {α : Type} (z : α) {n : Nat} {p : Nat → α → Prop} (h : ∀ i, i < n → ∃ v, p i v) : ∃ V : Nat → α, ∀ i, i < n → p i (V i) :=
  ⟨fun i => if hi : i < n then Classical.choose (h i hi) else z, fun i hi => by
    show p i (if hi : i < n then _ else _)
    rw [dif_pos hi]; exact Classical.choose_spec (h i hi)⟩
theorem same_belowP {W W' : World} {ps : List MemPlace} (hb : Below W.heap.size W W') (hlt : ∀ p ∈ ps, p.block < W.heap.size) : ∀ p ∈ ps, W.sameAt W' p := fun p hp => by
  have h := hlt p hp
  cases p with
  | cell b off => exact hb.cell (p := ⟨b, off, none⟩) h
  | map b => exact hb.block b h
theorem bulk_memP {H : Type} {x : DataW H} {l : List (DataW H)} (h : x ∈ l) : Rows.uptoBulk x ≤ Rows.uptoBulkAll l := by
  induction l with
  | nil => cases h
  | cons y l ih =>
    rw [Rows.uptoBulkAll]
    rcases List.mem_cons.1 h with rfl | h
    · omega
    · have := ih h; omega
theorem bulk_countP {H : Type} (l : List (DataW H)) (h : ∀ x ∈ l, 1 ≤ Rows.uptoBulk x) : l.length ≤ Rows.uptoBulkAll l := by
  induction l with
  | nil => exact Nat.zero_le _
  | cons y l ih =>
    rw [Rows.uptoBulkAll, List.length_cons]
    have h1 := h y (by simp)
    have h2 := ih (fun x hx => h x (by simp [hx]))
    omega
section
variable {H : Type} {enc : TypeId × Value → H} {W : World} {base : Nat} {spare : Nat → Bool} {held : Bool}
theorem trod3 {P : Program} {t : TypeId} {f0 f1 f2 : Field} {n : Nat} {c0 c1 c2 : Value} {y : DataW H × List MemPlace} (hs : P.underlying t = some (.struct #[f0, f1, f2])) (hone : oneCellFields P #[f0, f1, f2] = true) (h : DataW.trod enc P W base spare held n t [c0, c1, c2] = some y) :
    ∃ (m : Nat) (y0 y1 y2 : DataW H × List MemPlace), DataW.trod enc P W base spare held m f0.type [c0] = some y0 ∧ DataW.trod enc P W base spare held m f1.type [c1] = some y1 ∧ DataW.trod enc P W base spare held m f2.type [c2] = some y2 ∧ y.1 = .agg [y0.1, y1.1, y2.1] := by
  obtain ⟨xs, m, _, hx, _, hlen, hg⟩ := DataW.trod_struct hs h
  obtain ⟨o0, k0⟩ := hone_of hone 0 f0 rfl
  obtain ⟨o1, k1⟩ := hone_of hone 1 f1 rfl
  obtain ⟨o2, k2⟩ := hone_of hone 2 f2 rfl
  match xs, hlen with
  | [y0, y1, y2], _ =>
    exact ⟨m, y0, y1, y2, by simpa [o0, k0] using hg 0 f0 rfl, by simpa [o1, k1] using hg 1 f1 rfl, by simpa [o2, k2] using hg 2 f2 rfl, by rw [hx]; rfl⟩
def FiData (x : Fi) (d : DataW H) : Prop := d = .agg [.lit (.string x.p), .lit (.string x.t), .lit (.string x.l)]
theorem file_of {n : Nat} {cs : List Value} {y : DataW H × List MemPlace} (hlen : cs.length = 3) (h : DataW.trod enc Tryz.prog W base spare held n 34 cs = some y) :
    ∃ x : Fi, cs = fiCells x ∧ FiData x y.1 := by
  match cs, hlen with
  | [c0, c1, c2], _ =>
    obtain ⟨m, y0, y1, y2, h0, h1, h2, hy⟩ := trod3 Tryz.underlying34 (by kernel_rfl) h
    obtain ⟨x0, e0, d0, w0⟩ := DataW.trod_string Tryz.underlying9 h0
    obtain ⟨x1, e1, d1, w1⟩ := DataW.trod_string Tryz.underlying9 h1
    obtain ⟨x2, e2, d2, w2⟩ := DataW.trod_string Tryz.underlying9 h2
    obtain rfl : c0 = .string x0 := by simpa using e0
    obtain rfl : c1 = .string x1 := by simpa using e1
    obtain rfl : c2 = .string x2 := by simpa using e2
    refine ⟨⟨x0.data.toList, x1.data.toList, x2.data.toList⟩, by simp [fiCells, str_data], ?_⟩
    unfold FiData
    rw [hy, d0, d1, d2]
theorem FiData.bulk {x : Fi} {d : DataW H} (h : FiData x d) : x.p.length + x.t.length + x.l.length < Rows.uptoBulk d := by
  unfold FiData at h
  subst h
  simp only [Rows.uptoBulk, Rows.uptoBulkAll]
  omega
set_option maxRecDepth 100000 in
theorem open_files_upto {v : Value} {d : DataW H} {p : List MemPlace} {b0 : Nat} (hv : Value.okWide Tryz.prog W .any b0 22 v) (h : DataW.Trod enc Tryz.prog W 0 (fun _ => true) true 22 v d p) :
    ∃ (A : Option Addr) (n c : Nat) (l : List Fi), v = .slice A n c ∧ n ≤ c ∧ FisAt W W.heap.size A n l ∧ (A = none → c = 0) ∧ n ≤ Rows.uptoBulk d ∧ (∀ x ∈ l, x.p.length + x.t.length + x.l.length ≤ Rows.uptoBulk d) := by
  obtain ⟨a0, len0, cap0, rfl⟩ := okWide_slice Tryz.underlying22 hv
  obtain ⟨fuel, hf⟩ := h
  have k3 : Tryz.prog.cellsOf 34 = 3 := by kernel_rfl
  have kb : Tryz.prog.bytesOf 34 = 48 := by kernel_rfl
  rcases open_slice Tryz.underlying22 hf with ⟨hcs, hx⟩ | ⟨a, len, cap, m, n', D, Pl, hcs, _, hl, hm, hmm, hx, hi⟩
  · have e := hcs
    simp [Value.cells] at e
    obtain ⟨rfl, rfl, rfl⟩ := e
    exact ⟨none, 0, 0, [], rfl, Nat.le_refl _, FisAt.none_, fun _ => rfl, Nat.zero_le _, by simp⟩
  · rw [k3] at hi
    have hml : len ≤ m := by rw [hmm]; split <;> omega
    simp only [Prod.mk.injEq] at hx
    have hV : ∀ i, i < len → ∃ q : Fi, (∀ j u, (fiCells q)[j]? = some u → W.cell? (a.add (i * 3 + j)) = some u) ∧ FiData q (D i) := fun i hil => by
      obtain ⟨cs, h1, h2⟩ := hi i (by omega)
      obtain ⟨_, hlen, hat⟩ := World.cells?_some h1
      obtain ⟨q, rfl, m1⟩ := file_of hlen h2
      refine ⟨q, fun j u hj => ?_, m1⟩
      have hj2 : j < 3 := by
        rcases Nat.lt_or_ge j 3 with h' | h'
        · exact h'
        · rw [List.getElem?_eq_none (by exact h')] at hj; cases hj
      rw [← add_addL, hat j hj2, hj]
    obtain ⟨X, hX⟩ := pick_ltP (⟨[], [], []⟩ : Fi) hV
    have hmem : ∀ x ∈ (List.range len).map X, ∃ i, i < len ∧ x = X i := by
      intro x hx
      obtain ⟨j, hj, rfl⟩ := List.mem_map.1 hx
      exact ⟨j, List.mem_range.1 hj, rfl⟩
    have e := hcs
    simp [Value.cells] at e
    obtain ⟨rfl, rfl, rfl⟩ := e
    refine ⟨some a, len0, cap0, (List.range len0).map X, rfl, hl, ⟨by simp, by omega, fun h0 => ⟨a, rfl, cell_ltP ((hX 0 h0).1 0 _ rfl), fun j u hj => ?_⟩⟩, (fun h => by cases h), ?_, ?_⟩
    · have hjl : j < len0 * 3 := by
        rcases Nat.lt_or_ge j (len0 * 3) with h' | h'
        · exact h'
        · rw [List.getElem?_eq_none (by rw [fis_length]; simpa using h')] at hj; cases hj
      have hd : j = j / 3 * 3 + j % 3 := by omega
      have hk : j / 3 < len0 := by omega
      have hg := fis_get ((List.range len0).map X) (j / 3) (X (j / 3)) (by rw [List.getElem?_map, List.getElem?_range hk]; rfl) (j % 3) (by omega)
      rw [← hd, hj] at hg
      have := (hX (j / 3) hk).1 (j % 3) u hg.symm
      rwa [← hd] at this
    · rw [hx.1, Rows.uptoBulk]
      have h1 := bulk_countP ((List.range len0).map D) (fun z hz => by
        obtain ⟨i, hi', rfl⟩ := List.mem_map.1 hz
        have := (hX i (List.mem_range.1 hi')).2.bulk
        omega)
      rw [List.length_map, List.length_range] at h1
      omega
    · intro x hxm
      obtain ⟨i, hil, rfl⟩ := hmem x hxm
      rw [hx.1, Rows.uptoBulk]
      have h1 := (hX i hil).2.bulk
      have h2 := bulk_memP (x := D i) (l := (List.range len0).map D) (List.mem_map.2 ⟨i, List.mem_range.2 hil, rfl⟩)
      omega
theorem shut_files {W' : World} {v : Value} {d : DataW H} {ps : List MemPlace} {sp : Nat → Bool} (h : DataW.Trod enc Tryz.prog W 0 (fun _ => true) true 22 v d ps) (hb : Below W.heap.size W W') (hlt : ∀ p ∈ ps, p.block < W.heap.size) (hs : ∀ p ∈ ps, sp p.block = true) :
    DataW.Trod enc Tryz.prog W' 0 sp true 22 v d ps :=
  WideElems.Trod_stays (by kernel_rfl) (by kernel_rfl) (of_decide_eq_true (by kernel_rfl)) h (same_belowP hb hlt) hs
end
theorem post_below {H : Type} {enc : TypeId × Value → H} {P : Program} {f : Func} {s : ChangeSpec} {apart fresh handsOn again : Bool} {W W' : World} {args : Array Value} {v : Value} {ds gs : List (DataW H)} {before pa pv : List MemPlace}
    (hW : DataW.Whole enc P f.params.toList s.vars apart W args.toList ds gs before)
    (hres : ∀ (b : Nat) (sp : Nat → Bool) (hd : Bool), DataW.TrodAll enc P W' b sp hd f.resultTypes.toList (v.resultList f.resultTypes.size) (s.fn H (ds ++ gs)).results [])
    (hargs : ∀ sp : Nat → Bool, (∀ p ∈ before, sp p.block = true) → DataW.TrodAll enc P W' 0 sp true f.params.toList args.toList (s.fn H (ds ++ gs)).args pa)
    (hvars : ∀ sp : Nat → Bool, (∀ p ∈ before, sp p.block = true) → DataW.TrodVars enc P W' sp s.vars (s.fn H (ds ++ gs)).vars pv)
    (hps : before = pa ++ pv) (hb : Below W.heap.size W W')
    (hok : ∀ (j : Nat) (t : TypeId) (r : Value), f.resultTypes[j]? = some t → (v.resultList f.resultTypes.size)[j]? = some r → Value.okWide P W' .any 0 t r) :
    s.post enc P f apart fresh handsOn again W args v W' := by
  have hlt : ∀ p ∈ before, p.block < W.heap.size := fun p hp => hW.lt p hp
  have hold : ∀ p ∈ before, (fun b => decide (b < W.heap.size)) p.block = true := fun p hp => by simpa using hlt p hp
  refine ⟨ds, gs, before, [], pa, pv, hW, hres _ _ _, hargs _ hold, hvars _ hold, World.keptBut_mono (fun p hp => ⟨hp, ?_⟩) (hb.frame (· ∈ before)), fun _ => ?_⟩
  · rw [hps, List.mem_append] at hp
    exact Or.inr hp
  · obtain ⟨_, _, _, _, _, hz, hn⟩ := hW
    refine ⟨hok, _, _, ([] ++ pa) ++ pv, ⟨[] ++ pa, pv, trodAll_append (hargs _ (fun _ _ => rfl)) (hres _ _ _), hvars _ (fun _ _ => rfl), rfl, ?_, ?_⟩, ?_⟩
    · intro b off hp
      have hin : MemPlace.cell b off ∈ before := by rw [hps]; simpa using hp
      rw [hb.frozen (hlt _ hin)]
      exact hz b off hin
    · intro ha
      have := hn ha
      rw [hps] at this
      simpa using this
    · intro p hp _
      rw [hps]
      simpa using hp
theorem size_upto {l : List Fi} {N : Nat} (h : ∀ x ∈ l, x.p.length + x.t.length + x.l.length ≤ N) (hN : N ≤ 1048576) : ∀ x ∈ l, SizeF x := fun x hx => by
  have := h x hx
  exact ⟨by omega, by omega, by omega⟩
end Go.Proofs.YthodbeeglkedcaaGreat
