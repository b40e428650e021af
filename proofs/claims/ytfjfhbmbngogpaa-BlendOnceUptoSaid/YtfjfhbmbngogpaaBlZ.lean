/- A parameter that is a row of lines: opened to what it holds, and read again in any later memory. -/
import Derived.Test.YtfjfhbmbngogpaaRows
import Derived.Test.YtfjfhbmbngogpaaBlC
import Derived.ProofKit
import Derived.OpenShut
import Derived.Deep.Strs
import Derived.Deep.Slices
import Derived.WideKeyArgs
import Derived.Lib.SmallJoins
import Derived.Deep.DeepHandedRow
import Derived.Stop.LaidErr
import Derived.Lay
import Derived.SevenTiedAt
import Derived.SizedLaws
import Derived.JoinedCond
namespace Go.Proofs.Ytfjfhbmbngogpaa
open Go.RowKit Go.Joins Go.ChangeShapes Go.WideShapes Go.ChangeAt Go.Deep
open Go.ChangeMaps (open_string shut_string)

/-- A line is no longer than a machine's memory. -/
def SizeLn (x : Ln) : Prop := x.s.length ≤ 140737488355328 ∧ x.k.length ≤ 140737488355328 ∧ x.v.length ≤ 140737488355328
theorem cell_ltP {W : World} {a : Addr} {v : Value} (h : W.cell? (a.add 0) = some v) : a.block < W.heap.size := by
  have := World.block_lt_of_cell? W _ h
  rwa [block_addW] at this
theorem pick_ltP {α : Type} (z : α) {n : Nat} {p : Nat → α → Prop} (h : ∀ i, i < n → ∃ v, p i v) : ∃ V : Nat → α, ∀ i, i < n → p i (V i) :=
  ⟨fun i => if hi : i < n then Classical.choose (h i hi) else z, fun i hi => by
    show p i (if hi : i < n then _ else _)
    rw [dif_pos hi]; exact Classical.choose_spec (h i hi)⟩
theorem same_belowP {W W' : World} {ps : List MemPlace} (hb : Below W.heap.size W W') (hlt : ∀ p ∈ ps, p.block < W.heap.size) : ∀ p ∈ ps, W.sameAt W' p := fun p hp => by
  have h := hlt p hp
  cases p with
  | cell b off => exact hb.cell (p := ⟨b, off, none⟩) h
  | map b => exact hb.block b h
theorem bulk_memP {H : Type} {x : DataW H} {l : List (DataW H)} (h : x ∈ l) : Rows.uptoBulk x ≤ Rows.uptoBulkAll l := by
  induction l with
  | nil => cases h
  | cons y l ih =>
    rw [Rows.uptoBulkAll]
    rcases List.mem_cons.1 h with rfl | h
    · omega
    · have := ih h; omega
theorem bulk_countP {H : Type} (l : List (DataW H)) (h : ∀ x ∈ l, 1 ≤ Rows.uptoBulk x) : l.length ≤ Rows.uptoBulkAll l := by
  induction l with
  | nil => exact Nat.zero_le _
  | cons y l ih =>
    rw [Rows.uptoBulkAll, List.length_cons]
    have h1 := h y (by simp)
    have h2 := ih (fun x hx => h x (by simp [hx]))
    omega
section
variable {H : Type} {enc : TypeId × Value → H} {W : World} {base : Nat} {spare : Nat → Bool} {held : Bool}
theorem weights_all {P : Program} {e : TypeId} {l : List (DataW H)} {d : DataW H} (h : d ∈ l) {k : Nat} (hk : k ∈ d.weights P e) : k ∈ DataW.weightsAll P e l := by
  induction l with
  | nil => cases h
  | cons y l ih =>
    rw [DataW.weightsAll, List.mem_append]
    rcases List.mem_cons.1 h with rfl | h
    · exact .inl hk
    · exact .inr (ih h)
theorem trod4 {P : Program} {t : TypeId} {f0 f1 f2 f3 : Field} {n : Nat} {c0 c1 c2 c3 : Value} {y : DataW H × List MemPlace} (hs : P.underlying t = some (.struct #[f0, f1, f2, f3])) (hone : oneCellFields P #[f0, f1, f2, f3] = true) (h : DataW.trod enc P W base spare held n t [c0, c1, c2, c3] = some y) :
    ∃ (m : Nat) (y0 y1 y2 y3 : DataW H × List MemPlace), DataW.trod enc P W base spare held m f0.type [c0] = some y0 ∧ DataW.trod enc P W base spare held m f1.type [c1] = some y1 ∧ DataW.trod enc P W base spare held m f2.type [c2] = some y2 ∧
      DataW.trod enc P W base spare held m f3.type [c3] = some y3 ∧ y.1 = .agg [y0.1, y1.1, y2.1, y3.1] := by
  obtain ⟨xs, m, _, hx, _, hlen, hg⟩ := DataW.trod_struct hs h
  obtain ⟨o0, k0⟩ := hone_of hone 0 f0 rfl
  obtain ⟨o1, k1⟩ := hone_of hone 1 f1 rfl
  obtain ⟨o2, k2⟩ := hone_of hone 2 f2 rfl
  obtain ⟨o3, k3⟩ := hone_of hone 3 f3 rfl
  match xs, hlen with
  | [y0, y1, y2, y3], _ =>
    exact ⟨m, y0, y1, y2, y3, by simpa [o0, k0] using hg 0 f0 rfl, by simpa [o1, k1] using hg 1 f1 rfl, by simpa [o2, k2] using hg 2 f2 rfl, by simpa [o3, k3] using hg 3 f3 rfl, by rw [hx]; rfl⟩
/-- What a line's datum weighs. -/
def LnData (x : Ln) (d : DataW H) : Prop := d = .agg [.lit (.string x.s), .lit (.string x.k), .lit (.string x.v), .lit (.int .i64 x.n)]
theorem line_of {n : Nat} {cs : List Value} {y : DataW H × List MemPlace} (hlen : cs.length = 4) (h : DataW.trod enc Try.prog W base spare held n 30 cs = some y) :
    ∃ x : Ln, cs = lnCells x ∧ LnData x y.1 := by
  match cs, hlen with
  | [c0, c1, c2, c3], _ =>
    obtain ⟨m, y0, y1, y2, y3, h0, h1, h2, h3, hy⟩ := trod4 Try.underlying30 (by kernel_rfl) h
    obtain ⟨x0, e0, d0, w0⟩ := DataW.trod_string Try.underlying9 h0
    obtain ⟨x1, e1, d1, w1⟩ := DataW.trod_string Try.underlying9 h1
    obtain ⟨x2, e2, d2, w2⟩ := DataW.trod_string Try.underlying9 h2
    obtain ⟨x3, e3, d3, w3⟩ := DataW.trod_int Try.underlying3 h3
    obtain rfl : c0 = .string x0 := by simpa using e0
    obtain rfl : c1 = .string x1 := by simpa using e1
    obtain rfl : c2 = .string x2 := by simpa using e2
    obtain rfl : c3 = .int .i64 x3 := by simpa using e3
    refine ⟨⟨x0.data.toList, x1.data.toList, x2.data.toList, x3⟩, by simp [lnCells, str_data], ?_⟩
    unfold LnData
    rw [hy, d0, d1, d2, d3]
theorem LnData.size {x : Ln} {d : DataW H} (h : LnData x d) (hw : ∀ k ∈ d.weights Try.prog 30, k ≤ reachBytes) : SizeLn x := by
  unfold LnData at h
  subst h
  have hm : ∀ k ∈ [x.s.length, x.k.length, x.v.length], k ≤ reachBytes := by
    intro k hk
    refine hw k ?_
    rw [DataW.weights, Try.underlying30]
    simp [DataW.weightsEach, DataW.weights] at hk ⊢
    rcases hk with rfl | rfl | rfl <;> simp
  have b := reachBytes_lt
  have h1 := hm _ (by simp : x.s.length ∈ [x.s.length, x.k.length, x.v.length])
  have h2 := hm _ (by simp : x.k.length ∈ [x.s.length, x.k.length, x.v.length])
  have h3 := hm _ (by simp : x.v.length ∈ [x.s.length, x.k.length, x.v.length])
  exact ⟨by omega, by omega, by omega⟩
theorem LnData.bulk {x : Ln} {d : DataW H} (h : LnData x d) : x.s.length + x.k.length + x.v.length < Rows.uptoBulk d := by
  unfold LnData at h
  subst h
  simp only [Rows.uptoBulk, Rows.uptoBulkAll]
  omega
set_option maxRecDepth 100000 in
theorem open_lines_par {v : Value} {d : DataW H} {p : List MemPlace} {b0 : Nat} (hv : Value.okWide Try.prog W .any b0 22 v) (h : DataW.Trod enc Try.prog W 0 (fun _ => true) true 22 v d p) (hw : ∀ k ∈ d.weights Try.prog 22, k ≤ reachBytes) :
    ∃ (A : Option Addr) (n c : Nat) (l : List Ln), v = .slice A n c ∧ n ≤ c ∧ LnsAt W W.heap.size A n l ∧ (A = none → c = 0) ∧ (∀ x ∈ l, SizeLn x) ∧ c * 56 ≤ 140737488351232 := by
  obtain ⟨a0, len0, cap0, rfl⟩ := okWide_slice Try.underlying22 hv
  obtain ⟨fuel, hf⟩ := h
  have k4 : Try.prog.cellsOf 30 = 4 := by kernel_rfl
  have kb : Try.prog.bytesOf 30 = 56 := by kernel_rfl
  rcases open_slice Try.underlying22 hf with ⟨hcs, hx⟩ | ⟨a, len, cap, m, n', D, Pl, hcs, _, hl, hm, hmm, hx, hi⟩
  · have e := hcs
    simp [Value.cells] at e
    obtain ⟨rfl, rfl, rfl⟩ := e
    exact ⟨none, 0, 0, [], rfl, Nat.le_refl _, LnsAt.none_, fun _ => rfl, by simp, by omega⟩
  · rw [k4] at hi
    have hml : len ≤ m := by rw [hmm]; split <;> omega
    simp only [Prod.mk.injEq] at hx
    have hmc : m = cap := by simpa using hmm
    have hws : ∀ i, i < len → ∀ k ∈ (D i).weights Try.prog 30, k ≤ reachBytes := fun i hil k hk => by
      refine hw k ?_
      rw [hx.1, DataW.weights, Try.underlying22]
      refine List.mem_cons_of_mem _ (List.mem_append_left _ (weights_all (d := D i) (List.mem_map.2 ⟨i, List.mem_range.2 hil, rfl⟩) hk))
    have hcap : cap * 56 ≤ 140737488351232 := by
      have h1 := hw (cap * 56) (by
        rw [hx.1, DataW.weights, Try.underlying22]
        refine List.mem_cons.2 (.inl ?_)
        show cap * 56 = _
        rw [kb, List.length_map, List.length_map, List.length_range, List.length_range]
        congr 1
        omega)
      exact h1
    have hV : ∀ i, i < len → ∃ q : Ln, (∀ j u, (lnCells q)[j]? = some u → W.cell? (a.add (i * 4 + j)) = some u) ∧ LnData q (D i) := fun i hil => by
      obtain ⟨cs, h1, h2⟩ := hi i (by omega)
      obtain ⟨_, hlen, hat⟩ := World.cells?_some h1
      obtain ⟨q, rfl, m1⟩ := line_of hlen h2
      refine ⟨q, fun j u hj => ?_, m1⟩
      have hj2 : j < 4 := by
        rcases Nat.lt_or_ge j 4 with h' | h'
        · exact h'
        · rw [List.getElem?_eq_none (by exact h')] at hj; cases hj
      rw [← add_addL, hat j hj2, hj]
    obtain ⟨X, hX⟩ := pick_ltP (⟨[], [], [], 0⟩ : Ln) hV
    have hmem : ∀ x ∈ (List.range len).map X, ∃ i, i < len ∧ x = X i := by
      intro x hx
      obtain ⟨j, hj, rfl⟩ := List.mem_map.1 hx
      exact ⟨j, List.mem_range.1 hj, rfl⟩
    have e := hcs
    simp [Value.cells] at e
    obtain ⟨rfl, rfl, rfl⟩ := e
    refine ⟨some a, len0, cap0, (List.range len0).map X, rfl, hl, ⟨by simp, by omega, fun h0 => ⟨a, rfl, cell_ltP ((hX 0 h0).1 0 _ rfl), fun j u hj => ?_⟩⟩, (fun h => by cases h), ?_, hcap⟩
    · have hjl : j < len0 * 4 := by
        rcases Nat.lt_or_ge j (len0 * 4) with h' | h'
        · exact h'
        · rw [List.getElem?_eq_none (by rw [lns_length]; simpa using h')] at hj; cases hj
      have hd : j = j / 4 * 4 + j % 4 := by omega
      have hk : j / 4 < len0 := by omega
      have hg := lns_get ((List.range len0).map X) (j / 4) (X (j / 4)) (by rw [List.getElem?_map, List.getElem?_range hk]; rfl) (j % 4) (by omega)
      rw [← hd, hj] at hg
      have := (hX (j / 4) hk).1 (j % 4) u hg.symm
      rwa [← hd] at this
    · intro x hx
      obtain ⟨i, hil, rfl⟩ := hmem x hx
      exact (hX i hil).2.size (hws i hil)
set_option maxRecDepth 100000 in
theorem open_lines_upto {v : Value} {d : DataW H} {p : List MemPlace} {b0 : Nat} (hv : Value.okWide Try.prog W .any b0 22 v) (h : DataW.Trod enc Try.prog W 0 (fun _ => true) true 22 v d p) :
    ∃ (A : Option Addr) (n c : Nat) (l : List Ln), v = .slice A n c ∧ n ≤ c ∧ LnsAt W W.heap.size A n l ∧ (A = none → c = 0) ∧ n ≤ Rows.uptoBulk d ∧ (∀ x ∈ l, x.s.length + x.k.length + x.v.length ≤ Rows.uptoBulk d) := by
  obtain ⟨a0, len0, cap0, rfl⟩ := okWide_slice Try.underlying22 hv
  obtain ⟨fuel, hf⟩ := h
  have k4 : Try.prog.cellsOf 30 = 4 := by kernel_rfl
  have kb : Try.prog.bytesOf 30 = 56 := by kernel_rfl
  rcases open_slice Try.underlying22 hf with ⟨hcs, hx⟩ | ⟨a, len, cap, m, n', D, Pl, hcs, _, hl, hm, hmm, hx, hi⟩
  · have e := hcs
    simp [Value.cells] at e
    obtain ⟨rfl, rfl, rfl⟩ := e
    exact ⟨none, 0, 0, [], rfl, Nat.le_refl _, LnsAt.none_, fun _ => rfl, Nat.zero_le _, by simp⟩
  · rw [k4] at hi
    have hml : len ≤ m := by rw [hmm]; split <;> omega
    simp only [Prod.mk.injEq] at hx
    have hV : ∀ i, i < len → ∃ q : Ln, (∀ j u, (lnCells q)[j]? = some u → W.cell? (a.add (i * 4 + j)) = some u) ∧ LnData q (D i) := fun i hil => by
      obtain ⟨cs, h1, h2⟩ := hi i (by omega)
      obtain ⟨_, hlen, hat⟩ := World.cells?_some h1
      obtain ⟨q, rfl, m1⟩ := line_of hlen h2
      refine ⟨q, fun j u hj => ?_, m1⟩
      have hj2 : j < 4 := by
        rcases Nat.lt_or_ge j 4 with h' | h'
        · exact h'
        · rw [List.getElem?_eq_none (by exact h')] at hj; cases hj
      rw [← add_addL, hat j hj2, hj]
    obtain ⟨X, hX⟩ := pick_ltP (⟨[], [], [], 0⟩ : Ln) hV
    have hmem : ∀ x ∈ (List.range len).map X, ∃ i, i < len ∧ x = X i := by
      intro x hx
      obtain ⟨j, hj, rfl⟩ := List.mem_map.1 hx
      exact ⟨j, List.mem_range.1 hj, rfl⟩
    have e := hcs
    simp [Value.cells] at e
    obtain ⟨rfl, rfl, rfl⟩ := e
    refine ⟨some a, len0, cap0, (List.range len0).map X, rfl, hl, ⟨by simp, by omega, fun h0 => ⟨a, rfl, cell_ltP ((hX 0 h0).1 0 _ rfl), fun j u hj => ?_⟩⟩, (fun h => by cases h), ?_, ?_⟩
    · have hjl : j < len0 * 4 := by
        rcases Nat.lt_or_ge j (len0 * 4) with h' | h'
        · exact h'
        · rw [List.getElem?_eq_none (by rw [lns_length]; simpa using h')] at hj; cases hj
      have hd : j = j / 4 * 4 + j % 4 := by omega
      have hk : j / 4 < len0 := by omega
      have hg := lns_get ((List.range len0).map X) (j / 4) (X (j / 4)) (by rw [List.getElem?_map, List.getElem?_range hk]; rfl) (j % 4) (by omega)
      rw [← hd, hj] at hg
      have := (hX (j / 4) hk).1 (j % 4) u hg.symm
      rwa [← hd] at this
    · rw [hx.1, Rows.uptoBulk]
      have h1 := bulk_countP ((List.range len0).map D) (fun z hz => by
        obtain ⟨i, hi', rfl⟩ := List.mem_map.1 hz
        have := (hX i (List.mem_range.1 hi')).2.bulk
        omega)
      rw [List.length_map, List.length_range] at h1
      omega
    · intro x hxm
      obtain ⟨i, hil, rfl⟩ := hmem x hxm
      rw [hx.1, Rows.uptoBulk]
      have h1 := (hX i hil).2.bulk
      have h2 := bulk_memP (x := D i) (l := (List.range len0).map D) (List.mem_map.2 ⟨i, List.mem_range.2 hil, rfl⟩)
      omega
theorem shut_lines {W' : World} {v : Value} {d : DataW H} {ps : List MemPlace} {sp : Nat → Bool} (h : DataW.Trod enc Try.prog W 0 (fun _ => true) true 22 v d ps) (hb : Below W.heap.size W W') (hlt : ∀ p ∈ ps, p.block < W.heap.size) (hs : ∀ p ∈ ps, sp p.block = true) :
    DataW.Trod enc Try.prog W' 0 sp true 22 v d ps :=
  WideElems.Trod_stays (by kernel_rfl) (by kernel_rfl) (of_decide_eq_true (by kernel_rfl)) h (same_belowP hb hlt) hs
end
theorem sized_at {H : Type} {P : Program} {ts : List TypeId} {ds : List (DataW H)} (h : (DataW.weightsEach P ts ds).all (· ≤ reachBytes) = true) {j : Nat} {t : TypeId} {d : DataW H} (ht : ts[j]? = some t) (hd : ds[j]? = some d) : ∀ k ∈ d.weights P t, k ≤ reachBytes := fun k hk => by
  have := List.all_eq_true.1 h _ (DataW.weights_mem_each ht hd k hk)
  simpa using this

/-- The last step where only what is below the call's first block is known to stand. -/
theorem post_below {H : Type} {enc : TypeId × Value → H} {P : Program} {f : Func} {s : ChangeSpec} {apart fresh handsOn again : Bool} {W W' : World} {args : Array Value} {v : Value} {ds gs : List (DataW H)} {before pa pv : List MemPlace}
    (hW : DataW.Whole enc P f.params.toList s.vars apart W args.toList ds gs before)
    (hres : ∀ (b : Nat) (sp : Nat → Bool) (hd : Bool), DataW.TrodAll enc P W' b sp hd f.resultTypes.toList (v.resultList f.resultTypes.size) (s.fn H (ds ++ gs)).results [])
    (hargs : ∀ sp : Nat → Bool, (∀ p ∈ before, sp p.block = true) → DataW.TrodAll enc P W' 0 sp true f.params.toList args.toList (s.fn H (ds ++ gs)).args pa)
    (hvars : ∀ sp : Nat → Bool, (∀ p ∈ before, sp p.block = true) → DataW.TrodVars enc P W' sp s.vars (s.fn H (ds ++ gs)).vars pv)
    (hps : before = pa ++ pv) (hb : Below W.heap.size W W')
    (hok : ∀ (j : Nat) (t : TypeId) (r : Value), f.resultTypes[j]? = some t → (v.resultList f.resultTypes.size)[j]? = some r → Value.okWide P W' .any 0 t r) :
    s.post enc P f apart fresh handsOn again W args v W' := by
  have hlt : ∀ p ∈ before, p.block < W.heap.size := fun p hp => hW.lt p hp
  have hold : ∀ p ∈ before, (fun b => decide (b < W.heap.size)) p.block = true := fun p hp => by simpa using hlt p hp
  refine ⟨ds, gs, before, [], pa, pv, hW, hres _ _ _, hargs _ hold, hvars _ hold, World.keptBut_mono (fun p hp => ⟨hp, ?_⟩) (hb.frame (· ∈ before)), fun _ => ?_⟩
  · rw [hps, List.mem_append] at hp
    exact Or.inr hp
  · obtain ⟨_, _, _, _, _, hz, hn⟩ := hW
    refine ⟨hok, _, _, ([] ++ pa) ++ pv, ⟨[] ++ pa, pv, trodAll_append (hargs _ (fun _ _ => rfl)) (hres _ _ _), hvars _ (fun _ _ => rfl), rfl, ?_, ?_⟩, ?_⟩
    · intro b off hp
      have hin : MemPlace.cell b off ∈ before := by rw [hps]; simpa using hp
      rw [hb.frozen (hlt _ hin)]
      exact hz b off hin
    · intro ha
      have := hn ha
      rw [hps] at this
      simpa using this
    · intro p hp _
      rw [hps]
      simpa using hp
/-- A row of lines that came in. -/
theorem pl_of {W : World} {A : Option Addr} {n c : Nat} {l : List Ln} (t : LnsAt W W.heap.size A n l) (e : A = none → c = 0) (m : n ≤ c) (z : ∀ x ∈ l, x.s.length ≤ 140737488355328 ∧ x.k.length ≤ 140737488355328) : Pl W (A, n, c) l :=
  ⟨t, e, fun x hx => ⟨by have := (z x hx).1; unfold maxLen; show x.s.length ≤ _; omega, by have := (z x hx).2; unfold maxLen; show x.k.length ≤ _; omega⟩, m⟩
theorem pl_upto {H : Type} {W : World} {A : Option Addr} {n c : Nat} {l : List Ln} {d : DataW H} (t : LnsAt W W.heap.size A n l) (e : A = none → c = 0) (m : n ≤ c) (z : ∀ x ∈ l, x.s.length + x.k.length + x.v.length ≤ Rows.uptoBulk d) (h : Rows.uptoBulk d ≤ 1048576) : Pl W (A, n, c) l :=
  pl_of t e m fun x hx => by have := z x hx; exact ⟨by omega, by omega⟩
end Go.Proofs.Ytfjfhbmbngogpaa
