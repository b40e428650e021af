/- Rows of keys: what a []api.Key is in memory. -/
import Derived.Test.YtfjfhbmbngogpaaKsL
import Derived.Test.YtfjfhbmbngogpaaKsW
namespace Go.Proofs.Ytfjfhbmbngogpaa
open Go.RowKit

/-- A key as its cells say it: its words are a slice. -/
structure Kr where
  s : List UInt8
  n : List UInt8
  f : Int
  l : Bool
  k : Int
  A : Option Addr
  m : Nat
  c : Nat
def krCells (x : Kr) : List Value := [.string (str x.s), .string (str x.n), .int .i64 x.f, .bool x.l, .int .i64 x.k, .slice x.A x.m x.c]
def krs (l : List Kr) : List Value := l.flatMap krCells
/-- A row of texts in a block of texts. -/
def RowS (w : World) (B : Nat) (A : Option Addr) (n : Nat) (l : List (List UInt8)) : Prop :=
  RowAt w B A n l ∧ ∀ ad, A = some ad → ad.block < B ∧ ∃ cs fz, w.heap[ad.block]? = some (.cells cs 9 fz)
theorem RowS.none_ {w : World} {B : Nat} : RowS w B none 0 [] := ⟨RowAt.none_, fun ad h => by cases h⟩
theorem RowS.below {w w' : World} {B n : Nat} {A : Option Addr} {l : List (List UInt8)} (h : RowS w B A n l) (hb : Below B w w') : RowS w' B A n l :=
  ⟨h.1.below hb, fun ad e => by
    obtain ⟨h1, cs, fz, h2⟩ := h.2 ad e
    exact ⟨h1, cs, fz, (hb.block _ h1).trans h2⟩⟩
theorem RowS.wide {w : World} {B B' n : Nat} {A : Option Addr} {l : List (List UInt8)} (h : RowS w B A n l) (hB : B ≤ B') : RowS w B' A n l :=
  ⟨h.1.wide hB, fun ad e => by
    obtain ⟨h1, h2⟩ := h.2 ad e
    exact ⟨by omega, h2⟩⟩
theorem RowS.keep {w w' : World} {B n F : Nat} {t : TypeId} {cs : Array Value} {A : Option Addr} {l : List (List UInt8)} (h : RowS w B A n l) (hF : Blk w F t cs) (ht : t ≠ 9) (hk : ∀ i, i ≠ F → w'.heap[i]? = w.heap[i]?) : RowS w' B A n l := by
  obtain ⟨h1, h2⟩ := h
  have hne : ∀ ad, A = some ad → ad.block ≠ F := by
    rintro ad e rfl
    obtain ⟨_, cs', fz, h3⟩ := h2 ad e
    unfold Blk at hF
    rw [hF] at h3
    injection h3 with h3
    injection h3 with _ h3
    exact ht h3
  refine ⟨⟨h1.1, h1.2.1, fun hn => ?_⟩, fun ad e => ?_⟩
  · obtain ⟨ad, e, hB, hc⟩ := h1.2.2 hn
    exact ⟨ad, e, hB, fun j x hj => (World.cell?_of_block (hk _ (by rw [block_addR]; exact hne ad e))).trans (hc j x hj)⟩
  · obtain ⟨h3, cs', fz, h4⟩ := h2 ad e
    exact ⟨h3, cs', fz, (hk _ (hne ad e)).trans h4⟩
/-- The cells are a key's. -/
def Kr.is (w : World) (B : Nat) (r : Kr) (x : Ky) : Prop := r.s = x.s ∧ r.n = x.n ∧ r.f = x.f ∧ r.l = x.l ∧ r.k = x.k ∧ RowS w B r.A r.m x.w
theorem Kr.is.below {w w' : World} {B : Nat} {r : Kr} {x : Ky} (h : r.is w B x) (hb : Below B w w') : r.is w' B x :=
  ⟨h.1, h.2.1, h.2.2.1, h.2.2.2.1, h.2.2.2.2.1, h.2.2.2.2.2.below hb⟩
theorem Kr.is.wide {w : World} {B B' : Nat} {r : Kr} {x : Ky} (h : r.is w B x) (hB : B ≤ B') : r.is w B' x :=
  ⟨h.1, h.2.1, h.2.2.1, h.2.2.2.1, h.2.2.2.2.1, h.2.2.2.2.2.wide hB⟩
theorem Kr.is.keep {w w' : World} {B F : Nat} {t : TypeId} {cs : Array Value} {r : Kr} {x : Ky} (h : r.is w B x) (hF : Blk w F t cs) (ht : t ≠ 9) (hk : ∀ i, i ≠ F → w'.heap[i]? = w.heap[i]?) : r.is w' B x :=
  ⟨h.1, h.2.1, h.2.2.1, h.2.2.2.1, h.2.2.2.2.1, h.2.2.2.2.2.keep hF ht hk⟩
/-- Cells and keys, one by one. -/
def KrsAre (w : World) (B : Nat) (rs : List Kr) (l : List Ky) : Prop := rs.length = l.length ∧ ∀ (j : Nat) (r : Kr) (x : Ky), rs[j]? = some r → l[j]? = some x → r.is w B x
theorem KrsAre.below {w w' : World} {B : Nat} {rs : List Kr} {l : List Ky} (h : KrsAre w B rs l) (hb : Below B w w') : KrsAre w' B rs l := ⟨h.1, fun j r x hr hx => (h.2 j r x hr hx).below hb⟩
theorem KrsAre.wide {w : World} {B B' : Nat} {rs : List Kr} {l : List Ky} (h : KrsAre w B rs l) (hB : B ≤ B') : KrsAre w B' rs l := ⟨h.1, fun j r x hr hx => (h.2 j r x hr hx).wide hB⟩
theorem KrsAre.nil {w : World} {B : Nat} : KrsAre w B [] [] := ⟨rfl, fun j r x hr _ => by simp at hr⟩
theorem KrsAre.cons {w : World} {B : Nat} {r : Kr} {x : Ky} {rs : List Kr} {l : List Ky} (h : r.is w B x) (hs : KrsAre w B rs l) : KrsAre w B (r :: rs) (x :: l) := by
  refine ⟨by simp [hs.1], fun j r' x' hr hx => ?_⟩
  cases j with
  | zero =>
    simp only [List.getElem?_cons_zero, Option.some.injEq] at hr hx
    subst hr hx
    exact h
  | succ j => exact hs.2 j r' x' (by simpa using hr) (by simpa using hx)
theorem KrsAre.append {w : World} {B : Nat} {rs rs' : List Kr} {l l' : List Ky} (h : KrsAre w B rs l) (h' : KrsAre w B rs' l') : KrsAre w B (rs ++ rs') (l ++ l') := by
  refine ⟨by simp [h.1, h'.1], fun j r x hr hx => ?_⟩
  have e := h.1
  by_cases hj : j < rs.length
  · rw [List.getElem?_append_left hj] at hr
    rw [List.getElem?_append_left (by omega)] at hx
    exact h.2 j r x hr hx
  · rw [List.getElem?_append_right (by omega)] at hr hx
    exact h'.2 (j - rs.length) r x hr (by rw [e]; exact hx)
theorem krs_length (l : List Kr) : (krs l).length = l.length * 6 := by
  induction l with
  | nil => rfl
  | cons x l ih => have e : krs (x :: l) = krCells x ++ krs l := by simp [krs]
                   rw [e, List.length_append, ih, List.length_cons]; show 6 + _ = _; omega
theorem krs_append (a b : List Kr) : krs (a ++ b) = krs a ++ krs b := by simp [krs]
theorem krs_one (x : Kr) : krs [x] = krCells x := by simp [krs]
theorem krs_get (l : List Kr) (j : Nat) (x : Kr) (h : l[j]? = some x) (i : Nat) (hi : i < 6) : (krs l)[j * 6 + i]? = (krCells x)[i]? := by
  induction l generalizing j with
  | nil => simp at h
  | cons y l ih =>
    have e : krs (y :: l) = krCells y ++ krs l := by simp [krs]
    rw [e]
    cases j with
    | zero =>
      simp only [List.getElem?_cons_zero, Option.some.injEq] at h
      subst h
      rw [Nat.zero_mul, Nat.zero_add, List.getElem?_append_left (by show i < 6; exact hi)]
    | succ j =>
      rw [List.getElem?_cons_succ] at h
      rw [List.getElem?_append_right (by show 6 ≤ _; omega)]
      show (krs l)[(j + 1) * 6 + i - 6]? = _
      rw [show (j + 1) * 6 + i - 6 = j * 6 + i by omega]
      exact ih j h
theorem krs_one_cell (l : List Kr) : ∀ x ∈ krs l, x.oneCell' = true := by
  intro x hx
  obtain ⟨r, _, hr⟩ := List.mem_flatMap.1 hx
  simp [krCells] at hr
  rcases hr with rfl | rfl | rfl | rfl | rfl | rfl <;> rfl
/-- The six cells of a key. -/
def KrCell (w : World) (a : Addr) (x : Kr) : Prop :=
  w.cell? a = some (.string (str x.s)) ∧ w.cell? ⟨a.block, a.off + 1, none⟩ = some (.string (str x.n)) ∧ w.cell? ⟨a.block, a.off + 2, none⟩ = some (.int .i64 x.f) ∧ w.cell? ⟨a.block, a.off + 3, none⟩ = some (.bool x.l) ∧ w.cell? ⟨a.block, a.off + 4, none⟩ = some (.int .i64 x.k) ∧ w.cell? ⟨a.block, a.off + 5, none⟩ = some (.slice x.A x.m x.c)
theorem add_stepK (ad : Addr) (i j : Nat) (w : World) (v : Value) (h : w.cell? (ad.add (i + j)) = some v) : w.cell? ((ad.add i).add j) = some v := by
  have : (ad.add i).add j = ad.add (i + j) := by
    unfold Addr.add
    by_cases hi : i = 0 <;> by_cases hj : j = 0 <;> simp [hi, hj, Nat.add_assoc]
  rw [this]; exact h
/-- Cells in a row, from a place on. -/
def KrsIn (w : World) (B : Nat) (A : Option Addr) (rs : List Kr) : Prop := 0 < rs.length → ∃ ad, A = some ad ∧ ad.block < B ∧ ∀ j u, (krs rs)[j]? = some u → w.cell? (ad.add j) = some u
theorem KrsIn.below {w w' : World} {B : Nat} {A : Option Addr} {rs : List Kr} (h : KrsIn w B A rs) (hb : Below B w w') : KrsIn w' B A rs := fun hn => by
  obtain ⟨ad, e, hB, hc⟩ := h hn
  exact ⟨ad, e, hB, fun j u hj => (hb.cell (by rw [block_addR]; exact hB)).trans (hc j u hj)⟩
theorem KrsIn.at_ {w : World} {B : Nat} {A : Option Addr} {rs : List Kr} (h : KrsIn w B A rs) {k : Nat} {r : Kr} (hk : rs[k]? = some r) : ∃ ad, A = some ad ∧ ad.block < B ∧ KrCell w (ad.add (k * 6)) r := by
  have hl : k < rs.length := by
    rcases Nat.lt_or_ge k rs.length with h' | h'
    · exact h'
    · rw [List.getElem?_eq_none h'] at hk; cases hk
  obtain ⟨ad, e, hB, hc⟩ := h (by omega)
  refine ⟨ad, e, hB, ?_, ?_, ?_, ?_, ?_, ?_⟩
  · exact hc (k * 6 + 0) _ (krs_get rs k r hk 0 (by omega))
  · exact add_stepK ad (k * 6) 1 w _ (hc (k * 6 + 1) _ (krs_get rs k r hk 1 (by omega)))
  · exact add_stepK ad (k * 6) 2 w _ (hc (k * 6 + 2) _ (krs_get rs k r hk 2 (by omega)))
  · exact add_stepK ad (k * 6) 3 w _ (hc (k * 6 + 3) _ (krs_get rs k r hk 3 (by omega)))
  · exact add_stepK ad (k * 6) 4 w _ (hc (k * 6 + 4) _ (krs_get rs k r hk 4 (by omega)))
  · exact add_stepK ad (k * 6) 5 w _ (hc (k * 6 + 5) _ (krs_get rs k r hk 5 (by omega)))
/-- A row of keys. -/
def KysAt (w : World) (B : Nat) (A : Option Addr) (n : Nat) (l : List Ky) : Prop :=
  l.length = n ∧ n ≤ maxLen ∧ ∃ rs, KrsAre w B rs l ∧ KrsIn w B A rs
theorem KysAt.none_ {w : World} {B : Nat} {A : Option Addr} : KysAt w B A 0 [] := ⟨rfl, Nat.zero_le _, [], KrsAre.nil, fun h => by simp at h⟩
theorem KysAt.below {w w' : World} {B n : Nat} {A : Option Addr} {l : List Ky} (h : KysAt w B A n l) (hb : Below B w w') : KysAt w' B A n l := by
  obtain ⟨h1, h2, rs, h3, h4⟩ := h
  exact ⟨h1, h2, rs, h3.below hb, h4.below hb⟩
theorem KysAt.wide {w : World} {B B' n : Nat} {A : Option Addr} {l : List Ky} (h : KysAt w B A n l) (hB : B ≤ B') : KysAt w B' A n l := by
  obtain ⟨h1, h2, rs, h3, h4⟩ := h
  exact ⟨h1, h2, rs, h3.wide hB, fun hn => by obtain ⟨ad, e, q, hc⟩ := h4 hn; exact ⟨ad, e, by omega, hc⟩⟩
theorem KysAt.drewN {w : World} {B n : Nat} {A : Option Addr} {l : List Ky} (h : KysAt w B A n l) (j : Nat) : KysAt (w.drewN j) B A n l := h.below (below_drewN (Below.refl _ _) j)
theorem KysAt.at_ {w : World} {B n : Nat} {A : Option Addr} {l : List Ky} (h : KysAt w B A n l) {k : Nat} (hk : k < n) :
    ∃ ad r x, A = some ad ∧ ad.block < B ∧ l[k]? = some x ∧ r.is w B x ∧ KrCell w (ad.add (k * 6)) r := by
  obtain ⟨h1, h2, rs, h3, h4⟩ := h
  have e1 := h3.1
  have kl : k < l.length := by omega
  have kr : k < rs.length := by omega
  have hx : l[k]? = some l[k] := List.getElem?_eq_getElem kl
  have hr : rs[k]? = some rs[k] := List.getElem?_eq_getElem kr
  obtain ⟨ad, e, hB, hc⟩ := h4.at_ hr
  exact ⟨ad, _, _, e, hB, hx, h3.2 k _ _ hr hx, hc⟩
theorem KrsIn.of_own {w : World} {base n : Nat} {v : Value} {rs : List Kr} {t : TypeId} (h : w.ownsRow base t 6 v n (krs rs)) : ∃ A c, v = .slice A n c ∧ KrsIn w w.heap.size A rs := by
  obtain ⟨h1, h2⟩ := h
  have hl : rs.length = n := by rw [krs_length] at h1; omega
  rcases h2 with ⟨hv, h0⟩ | ⟨g, cap, cur, hv, hg, hb, hr1, hr2, hr3, hr4⟩
  · subst h0
    exact ⟨none, 0, hv, fun hn => by omega⟩
  · refine ⟨some ⟨g, 0, none⟩, cap, hv, fun _ => ⟨⟨g, 0, none⟩, rfl, (Array.getElem?_eq_some_iff.1 hb).1, fun j u hj => ?_⟩⟩
    have hjl : j < n * 6 := by
      rw [← h1]
      rcases Nat.lt_or_ge j (krs rs).length with h' | h'
      · exact h'
      · rw [List.getElem?_eq_none h'] at hj; cases hj
    rw [← hr4, List.getElem?_take_of_lt hjl] at hj
    have : (⟨g, 0, none⟩ : Addr).add j = ⟨g, j, none⟩ := by unfold Addr.add; split <;> simp_all
    rw [this]
    have hc : w.cell? ⟨g, j, none⟩ = cur[j]? := cell_of_row w g j cur _ (0, 0) hb
    rw [hc, ← Array.getElem?_toList]; exact hj
theorem KysAt.of_own {w : World} {base n : Nat} {v : Value} {rs : List Kr} {l : List Ky} {t : TypeId} (h : w.ownsRow base t 6 v n (krs rs)) (hn : n ≤ maxLen) (ha : KrsAre w w.heap.size rs l) : ∃ A c, v = .slice A n c ∧ KysAt w w.heap.size A n l := by
  obtain ⟨A, c, hv, hi⟩ := KrsIn.of_own h
  have hl : rs.length = n := by have := h.1; rw [krs_length] at this; omega
  exact ⟨A, c, hv, by rw [← ha.1]; exact hl, hn, rs, ha, hi⟩
theorem KysAt.of_blk {w : World} {g n : Nat} {rs : List Kr} {l : List Ky} {t : TypeId} (h : Blk w g t (krs rs).toArray) (hl : l.length = n) (hn : n ≤ maxLen) (ha : KrsAre w w.heap.size rs l) : KysAt w w.heap.size (some ⟨g, 0, none⟩) n l := by
  refine ⟨hl, hn, rs, ha, fun _ => ⟨⟨g, 0, none⟩, rfl, h.lt, fun j u hj => ?_⟩⟩
  have : (⟨g, 0, none⟩ : Addr).add j = ⟨g, j, none⟩ := by unfold Addr.add; split <;> simp_all
  rw [this, h.cell j]
  simpa using hj
end Go.Proofs.Ytfjfhbmbngogpaa
