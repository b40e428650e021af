/- The walks of the laws DiskFind, DiskLinks. Files in a row of the call's own; the walk of the law DiskOrder. The walk of  -/
import Derived.Test.YthodbeeglkedcaaDtbq
import Derived.Deep.RegionHeld3
import Derived.Deep.AppendLies
import Derived.Laws.OwnMore
import Derived.Laws.Bits128
import Derived.Test.YthodbeeglkedcaaRows
import Derived.ProofKit
import Derived.OpenShut
import Derived.Deep.Strs
import Derived.Deep.Slices
import Derived.WideKeyArgs
import Derived.Lib.SmallJoins
import Derived.Deep.DeepHandedRow
import Derived.Stop.LaidErr
import Derived.Lay
import Derived.SevenTiedAt
import Derived.SizedLaws
import Derived.JoinedCond
namespace Go.Proofs.Ythodbeeglkedcaa
open Go.RowKit
theorem findP_of {l : List Fi} {u : List UInt8} {w w' : World} {e : Ending} {r : Fd} {k : Int} (hr : findL nmsP l u = (r, k)) (h : FindP l u w e w') : ∃ A c, e = .returned (.tuple #[.agg #[.string (str r.n), .string (str r.p), .bool r.m, .slice A r.d.length c], .int .i64 k]) ∧ RowAt w' w'.heap.size A r.d.length r.d ∧ Below w.heap.size w w' := findP_at h hr
end Go.Proofs.Ythodbeeglkedcaa
namespace Go.Proofs.Ythodbeeglkedcaa
open Go.RowKit
theorem fis_append (a b : List Fi) : fis (a ++ b) = fis a ++ fis b := by simp [fis]
theorem fis_drop (l : List Fi) (k : Nat) (j : Nat) : (fis (l.drop k))[j]? = (fis l)[k * 3 + j]? := by
  induction l generalizing k with
  | nil => simp [fis]
  | cons x l ih =>
    cases k with
    | zero => simp
    | succ k =>
      have e : fis (x :: l) = fiCells x ++ fis l := by simp [fis]
      rw [List.drop_succ_cons, ih, e, List.getElem?_append_right (by show 3 ≤ _; omega)]
      show _ = (fis l)[(k + 1) * 3 + j - 3]?
      rw [show (k + 1) * 3 + j - 3 = k * 3 + j by omega]
theorem fis_take (l : List Fi) (k : Nat) : fis l = fis (l.take k) ++ fis (l.drop k) := by rw [← fis_append, List.take_append_drop]
theorem FisAt.drop {w : World} {B n k : Nat} {ad : Addr} {l : List Fi} (h : FisAt w B (some ad) n l) (hk : k ≤ n) : FisAt w B (some (ad.add (k * 3))) (n - k) (l.drop k) :=
  ⟨by rw [List.length_drop, h.1], by have := h.2.1; omega, fun hn => by
    obtain ⟨a, e, hB, hc⟩ := h.2.2 (by omega)
    cases e
    exact ⟨_, rfl, by rw [block_addW]; exact hB, fun j u hj => add_step ad (k * 3) j w _ (hc _ _ (by rw [← fis_drop]; exact hj))⟩⟩
theorem FisAt.take {w : World} {B n k : Nat} {A : Option Addr} {l : List Fi} (h : FisAt w B A n l) (hk : k ≤ n) : FisAt w B A k (l.take k) :=
  ⟨by rw [List.length_take, h.1]; omega, by have := h.2.1; omega, fun hn => by
    obtain ⟨a, e, hB, hc⟩ := h.2.2 (by omega)
    exact ⟨a, e, hB, fun j u hj => hc j u (by
      rw [fis_take l k]
      obtain ⟨hlt, _⟩ := List.getElem?_eq_some_iff.1 hj
      rw [List.getElem?_append_left hlt]; exact hj)⟩⟩
end Go.Proofs.Ythodbeeglkedcaa
namespace Go.Proofs.Ythodbeeglkedcaa
open Go.RowKit
end Go.Proofs.Ythodbeeglkedcaa
namespace Go.Proofs.Ythodbeeglkedcaa
open Go.RowKit
end Go.Proofs.Ythodbeeglkedcaa
namespace Go.Proofs.Ythodbeeglkedcaa
open Go.RowKit
end Go.Proofs.Ythodbeeglkedcaa
namespace Go.Proofs.Ythodbeeglkedcaa
open Go.RowKit Go.Joins Go.ChangeShapes Go.WideShapes Go.ChangeAt Go.Deep
open Go.ChangeMaps (open_string shut_string)
theorem add_addL (a : Addr) (i j : Nat) : (a.add i).add j = a.add (i + j) := by
  unfold Addr.add
  by_cases hi : i = 0 <;> by_cases hj : j = 0 <;> simp [hi, hj, Nat.add_assoc]
theorem cell_ltP {W : World} {a : Addr} {v : Value} (h : W.cell? (a.add 0) = some v) : a.block < W.heap.size := by
  have := World.block_lt_of_cell? W _ h
  rwa [block_addW] at this
theorem pick_ltP {α : Type} (z : α) {n : Nat} {p : Nat → α → Prop} (h : ∀ i, i < n → ∃ v, p i v) : ∃ V : Nat → α, ∀ i, i < n → p i (V i) :=
  ⟨fun i => if hi : i < n then Classical.choose (h i hi) else z, fun i hi => by
    show p i (if hi : i < n then _ else _)
    rw [dif_pos hi]; exact Classical.choose_spec (h i hi)⟩
theorem same_belowP {W W' : World} {ps : List MemPlace} (hb : Below W.heap.size W W') (hlt : ∀ p ∈ ps, p.block < W.heap.size) : ∀ p ∈ ps, W.sameAt W' p := fun p hp => by
  have h := hlt p hp
  cases p with
  | cell b off => exact hb.cell (p := ⟨b, off, none⟩) h
  | map b => exact hb.block b h
theorem bulk_memP {H : Type} {x : DataW H} {l : List (DataW H)} (h : x ∈ l) : Rows.uptoBulk x ≤ Rows.uptoBulkAll l := by
  induction l with
  | nil => cases h
  | cons y l ih =>
    rw [Rows.uptoBulkAll]
    rcases List.mem_cons.1 h with rfl | h
    · omega
    · have := ih h; omega
theorem bulk_countP {H : Type} (l : List (DataW H)) (h : ∀ x ∈ l, 1 ≤ Rows.uptoBulk x) : l.length ≤ Rows.uptoBulkAll l := by
  induction l with
  | nil => exact Nat.zero_le _
  | cons y l ih =>
    rw [Rows.uptoBulkAll, List.length_cons]
    have h1 := h y (by simp)
    have h2 := ih (fun x hx => h x (by simp [hx]))
    omega
section
variable {H : Type} {enc : TypeId × Value → H} {W : World} {base : Nat} {spare : Nat → Bool} {held : Bool}
theorem trod3 {P : Program} {t : TypeId} {f0 f1 f2 : Field} {n : Nat} {c0 c1 c2 : Value} {y : DataW H × List MemPlace} (hs : P.underlying t = some (.struct #[f0, f1, f2])) (hone : oneCellFields P #[f0, f1, f2] = true) (h : DataW.trod enc P W base spare held n t [c0, c1, c2] = some y) :
    ∃ (m : Nat) (y0 y1 y2 : DataW H × List MemPlace), DataW.trod enc P W base spare held m f0.type [c0] = some y0 ∧ DataW.trod enc P W base spare held m f1.type [c1] = some y1 ∧ DataW.trod enc P W base spare held m f2.type [c2] = some y2 ∧ y.1 = .agg [y0.1, y1.1, y2.1] := by
  obtain ⟨xs, m, _, hx, _, hlen, hg⟩ := DataW.trod_struct hs h
  obtain ⟨o0, k0⟩ := hone_of hone 0 f0 rfl
  obtain ⟨o1, k1⟩ := hone_of hone 1 f1 rfl
  obtain ⟨o2, k2⟩ := hone_of hone 2 f2 rfl
  match xs, hlen with
  | [y0, y1, y2], _ =>
    exact ⟨m, y0, y1, y2, by simpa [o0, k0] using hg 0 f0 rfl, by simpa [o1, k1] using hg 1 f1 rfl, by simpa [o2, k2] using hg 2 f2 rfl, by rw [hx]; rfl⟩
def FiData (x : Fi) (d : DataW H) : Prop := d = .agg [.lit (.string x.p), .lit (.string x.t), .lit (.string x.l)]
theorem file_of {n : Nat} {cs : List Value} {y : DataW H × List MemPlace} (hlen : cs.length = 3) (h : DataW.trod enc Try.prog W base spare held n 38 cs = some y) :
    ∃ x : Fi, cs = fiCells x ∧ FiData x y.1 := by
  match cs, hlen with
  | [c0, c1, c2], _ =>
    obtain ⟨m, y0, y1, y2, h0, h1, h2, hy⟩ := trod3 Try.underlying38 (by kernel_rfl) h
    obtain ⟨x0, e0, d0, w0⟩ := DataW.trod_string Try.underlying9 h0
    obtain ⟨x1, e1, d1, w1⟩ := DataW.trod_string Try.underlying9 h1
    obtain ⟨x2, e2, d2, w2⟩ := DataW.trod_string Try.underlying9 h2
    obtain rfl : c0 = .string x0 := by simpa using e0
    obtain rfl : c1 = .string x1 := by simpa using e1
    obtain rfl : c2 = .string x2 := by simpa using e2
    refine ⟨⟨x0.data.toList, x1.data.toList, x2.data.toList⟩, by simp [fiCells, str_data], ?_⟩
    unfold FiData
    rw [hy, d0, d1, d2]
theorem FiData.bulk {x : Fi} {d : DataW H} (h : FiData x d) : x.p.length + x.t.length + x.l.length < Rows.uptoBulk d := by
  unfold FiData at h
  subst h
  simp only [Rows.uptoBulk, Rows.uptoBulkAll]
  omega
set_option maxRecDepth 100000 in
theorem open_files_upto {v : Value} {d : DataW H} {p : List MemPlace} {b0 : Nat} (hv : Value.okWide Try.prog W .any b0 22 v) (h : DataW.Trod enc Try.prog W 0 (fun _ => true) true 22 v d p) :
    ∃ (A : Option Addr) (n c : Nat) (l : List Fi), v = .slice A n c ∧ n ≤ c ∧ FisAt W W.heap.size A n l ∧ (A = none → c = 0) ∧ n ≤ Rows.uptoBulk d ∧ (∀ x ∈ l, x.p.length + x.t.length + x.l.length ≤ Rows.uptoBulk d) := by
  obtain ⟨a0, len0, cap0, rfl⟩ := okWide_slice Try.underlying22 hv
  obtain ⟨fuel, hf⟩ := h
  have k3 : Try.prog.cellsOf 38 = 3 := by kernel_rfl
  have kb : Try.prog.bytesOf 38 = 48 := by kernel_rfl
  rcases open_slice Try.underlying22 hf with ⟨hcs, hx⟩ | ⟨a, len, cap, m, n', D, Pl, hcs, _, hl, hm, hmm, hx, hi⟩
  · have e := hcs
    simp [Value.cells] at e
    obtain ⟨rfl, rfl, rfl⟩ := e
    exact ⟨none, 0, 0, [], rfl, Nat.le_refl _, FisAt.none_, fun _ => rfl, Nat.zero_le _, by simp⟩
  · rw [k3] at hi
    have hml : len ≤ m := by rw [hmm]; split <;> omega
    simp only [Prod.mk.injEq] at hx
    have hV : ∀ i, i < len → ∃ q : Fi, (∀ j u, (fiCells q)[j]? = some u → W.cell? (a.add (i * 3 + j)) = some u) ∧ FiData q (D i) := fun i hil => by
      obtain ⟨cs, h1, h2⟩ := hi i (by omega)
      obtain ⟨_, hlen, hat⟩ := World.cells?_some h1
      obtain ⟨q, rfl, m1⟩ := file_of hlen h2
      refine ⟨q, fun j u hj => ?_, m1⟩
      have hj2 : j < 3 := by
        rcases Nat.lt_or_ge j 3 with h' | h'
        · exact h'
        · rw [List.getElem?_eq_none (by exact h')] at hj; cases hj
      rw [← add_addL, hat j hj2, hj]
    obtain ⟨X, hX⟩ := pick_ltP (⟨[], [], []⟩ : Fi) hV
    have hmem : ∀ x ∈ (List.range len).map X, ∃ i, i < len ∧ x = X i := by
      intro x hx
      obtain ⟨j, hj, rfl⟩ := List.mem_map.1 hx
      exact ⟨j, List.mem_range.1 hj, rfl⟩
    have e := hcs
    simp [Value.cells] at e
    obtain ⟨rfl, rfl, rfl⟩ := e
    refine ⟨some a, len0, cap0, (List.range len0).map X, rfl, hl, ⟨by simp, by omega, fun h0 => ⟨a, rfl, cell_ltP ((hX 0 h0).1 0 _ rfl), fun j u hj => ?_⟩⟩, (fun h => by cases h), ?_, ?_⟩
    · have hjl : j < len0 * 3 := by
        rcases Nat.lt_or_ge j (len0 * 3) with h' | h'
        · exact h'
        · rw [List.getElem?_eq_none (by rw [fis_length]; simpa using h')] at hj; cases hj
      have hd : j = j / 3 * 3 + j % 3 := by omega
      have hk : j / 3 < len0 := by omega
      have hg := fis_get ((List.range len0).map X) (j / 3) (X (j / 3)) (by rw [List.getElem?_map, List.getElem?_range hk]; rfl) (j % 3) (by omega)
      rw [← hd, hj] at hg
      have := (hX (j / 3) hk).1 (j % 3) u hg.symm
      rwa [← hd] at this
    · rw [hx.1, Rows.uptoBulk]
      have h1 := bulk_countP ((List.range len0).map D) (fun z hz => by
        obtain ⟨i, hi', rfl⟩ := List.mem_map.1 hz
        have := (hX i (List.mem_range.1 hi')).2.bulk
        omega)
      rw [List.length_map, List.length_range] at h1
      omega
    · intro x hxm
      obtain ⟨i, hil, rfl⟩ := hmem x hxm
      rw [hx.1, Rows.uptoBulk]
      have h1 := (hX i hil).2.bulk
      have h2 := bulk_memP (x := D i) (l := (List.range len0).map D) (List.mem_map.2 ⟨i, List.mem_range.2 hil, rfl⟩)
      omega
theorem shut_files {W' : World} {v : Value} {d : DataW H} {ps : List MemPlace} {sp : Nat → Bool} (h : DataW.Trod enc Try.prog W 0 (fun _ => true) true 22 v d ps) (hb : Below W.heap.size W W') (hlt : ∀ p ∈ ps, p.block < W.heap.size) (hs : ∀ p ∈ ps, sp p.block = true) :
    DataW.Trod enc Try.prog W' 0 sp true 22 v d ps :=
  WideElems.Trod_stays (by kernel_rfl) (by kernel_rfl) (of_decide_eq_true (by kernel_rfl)) h (same_belowP hb hlt) hs
end
theorem post_below {H : Type} {enc : TypeId × Value → H} {P : Program} {f : Func} {s : ChangeSpec} {apart fresh handsOn again : Bool} {W W' : World} {args : Array Value} {v : Value} {ds gs : List (DataW H)} {before pa pv : List MemPlace}
    (hW : DataW.Whole enc P f.params.toList s.vars apart W args.toList ds gs before)
    (hres : ∀ (b : Nat) (sp : Nat → Bool) (hd : Bool), DataW.TrodAll enc P W' b sp hd f.resultTypes.toList (v.resultList f.resultTypes.size) (s.fn H (ds ++ gs)).results [])
    (hargs : ∀ sp : Nat → Bool, (∀ p ∈ before, sp p.block = true) → DataW.TrodAll enc P W' 0 sp true f.params.toList args.toList (s.fn H (ds ++ gs)).args pa)
    (hvars : ∀ sp : Nat → Bool, (∀ p ∈ before, sp p.block = true) → DataW.TrodVars enc P W' sp s.vars (s.fn H (ds ++ gs)).vars pv)
    (hps : before = pa ++ pv) (hb : Below W.heap.size W W')
    (hok : ∀ (j : Nat) (t : TypeId) (r : Value), f.resultTypes[j]? = some t → (v.resultList f.resultTypes.size)[j]? = some r → Value.okWide P W' .any 0 t r) :
    s.post enc P f apart fresh handsOn again W args v W' := by
  have hlt : ∀ p ∈ before, p.block < W.heap.size := fun p hp => hW.lt p hp
  have hold : ∀ p ∈ before, (fun b => decide (b < W.heap.size)) p.block = true := fun p hp => by simpa using hlt p hp
  refine ⟨ds, gs, before, [], pa, pv, hW, hres _ _ _, hargs _ hold, hvars _ hold, World.keptBut_mono (fun p hp => ⟨hp, ?_⟩) (hb.frame (· ∈ before)), fun _ => ?_⟩
  · rw [hps, List.mem_append] at hp
    exact Or.inr hp
  · obtain ⟨_, _, _, _, _, hz, hn⟩ := hW
    refine ⟨hok, _, _, ([] ++ pa) ++ pv, ⟨[] ++ pa, pv, trodAll_append (hargs _ (fun _ _ => rfl)) (hres _ _ _), hvars _ (fun _ _ => rfl), rfl, ?_, ?_⟩, ?_⟩
    · intro b off hp
      have hin : MemPlace.cell b off ∈ before := by rw [hps]; simpa using hp
      rw [hb.frozen (hlt _ hin)]
      exact hz b off hin
    · intro ha
      have := hn ha
      rw [hps] at this
      simpa using this
    · intro p hp _
      rw [hps]
      simpa using hp
theorem size_upto {l : List Fi} {N : Nat} (h : ∀ x ∈ l, x.p.length + x.t.length + x.l.length ≤ N) (hN : N ≤ 1048576) : ∀ x ∈ l, SizeF x := fun x hx => by
  have := h x hx
  exact ⟨by omega, by omega, by omega⟩
end Go.Proofs.Ythodbeeglkedcaa
