/- Words for the walk of the document's Path. Words on files' lengths and on texts that are empty, or null. -/
import Derived.Test.YthodbeeglkedcaaGreatDzai
import Derived.Test.YthodbeeglkedcaaGreatDzau
namespace Go.Proofs.YthodbeeglkedcaaGreat
open Go.RowKit
def wyA (y : Wy) : Array Value := #[.int .i64 y.k, .string (str y.pl), .string (str y.u), .string (str y.o)]
theorem wyA_all (y : Wy) : (wyA y).all (·.oneCell') = true := by simp [wyA, Value.oneCell']
theorem results_cell_one {P : Program} {fn : Func} {p : Tmp} {ty : TypeId} (h : fn.results = #[.cell p ty]) (tmps : Array Value) (w : World) (g : Nat) (t : TypeId) (cs : Array Value) (d : TypeDesc)
    (hp : tmps.getD p undef = .pointer (some ⟨g, 0, none⟩)) (hg : w.heap[g]? = some (.cells cs t (0, 0)))
    (hu : P.underlying ty = some d) (hd : (match d with | .struct _ | .array _ _ => true | _ => false) = true) (hi : (P.info? ty).map (·.size) = some cs.size) :
    (results fn tmps).run P w = .ok (.agg cs) w := results_cell_row h tmps w g t cs (0, 0) d hp hg hu hd hi
theorem sgo_len (b : UInt8) (l w : List UInt8) : ∀ x ∈ sgo b w l, x.length ≤ w.length + l.length := by
  induction l generalizing w with
  | nil => intro x hx; simp [sgo] at hx; rw [hx]; simp
  | cons c l ih =>
    rw [sgo]
    split
    · intro x hx
      rcases List.mem_cons.1 hx with rfl | hx
      · omega
      · have := ih [] x hx; simp at this ⊢; omega
    · intro x hx
      have := ih (w ++ [c]) x hx
      simp at this ⊢; omega
theorem split_len {b : UInt8} {l x : List UInt8} (h : x ∈ splitL b l) : x.length ≤ l.length := by have := sgo_len b l [] x h; simpa using this
theorem sgo_count (b : UInt8) (l w : List UInt8) : (sgo b w l).length ≤ l.length + 1 := by
  induction l generalizing w with
  | nil => simp [sgo]
  | cons c l ih =>
    rw [sgo]
    split
    · have := ih []; simp; omega
    · have := ih (w ++ [c]); simp; omega
theorem own_row {w : World} {base n : Nat} {v : Value} {l : List (List UInt8)} (h : w.ownsRow base 9 1 v n (wcells l)) (hn : n ≤ maxLen) : ∃ A c, v = .slice A n c ∧ RowAt w w.heap.size A n l := by
  have h' := h
  rcases h.2 with ⟨h1, h2⟩ | ⟨g, cap, cur, h1, _⟩
  · subst h1
    obtain ⟨e, _, r⟩ := rowAt_of_own h' hn
    exact ⟨_, _, by rw [← e], r⟩
  · subst h1
    obtain ⟨e, _, r⟩ := rowAt_of_own h' hn
    exact ⟨_, _, by rw [← e], r⟩
theorem row_one {w : World} {B : Nat} {ad : Addr} {l : List (List UInt8)} {n j : Nat} {x : List UInt8} (h : RowAt w B (some ad) n l) (hx : l[j]? = some x) : w.cell? (ad.add j) = some (.string (str x)) := by
  have hj : j < n := by
    have := h.1
    rcases Nat.lt_or_ge j l.length with h' | h'
    · omega
    · rw [List.getElem?_eq_none h'] at hx; cases hx
  obtain ⟨ad', e, _, hc⟩ := h.2.2 (by omega)
  obtain rfl : ad = ad' := by simpa using e
  exact hc j x hx
def endsE : List (List UInt8) := [dotD, dotW, dotR]
def wyN (a b c : List UInt8) : Nat → Wy
  | 0 => wy0 a
  | 1 => wy1 nmsP a b c
  | 2 => wy2 nmsP a b c
  | _ => wy3 nmsP a b c
theorem cell_only {a w : World} {g : Nat} (h : a.grownBy w (some g)) (b o : Nat) (hp : b < a.heap.size) (hn : b ≠ g) : w.cell? ⟨b, o, none⟩ = a.cell? ⟨b, o, none⟩ := by
  have := h.block b hp (by intro e; injection e with e; exact hn e)
  unfold World.cell?
  rw [this]
theorem below_only {B g : Nat} {b a w : World} (hb : Below B b a) (h : a.grownBy w (some g)) (hg : B ≤ g) (hB : B ≤ a.heap.size) : Below B b w :=
  ⟨h.os.trans hb.os, h.tape.trans hb.tape, h.output.trans hb.output, Nat.le_trans hb.size h.size, fun i hi => (h.block i (by omega) (by intro e; injection e with e; omega)).trans (hb.block i hi)⟩
section
variable {a b c u e : List UInt8} {k : Nat}
theorem endsE_cases (h : endsE[k]? = some e) : (k = 0 ∧ e = dotD) ∨ (k = 1 ∧ e = dotW) ∨ (k = 2 ∧ e = dotR) := by
  match k, h with
  | 0, h => exact .inl ⟨rfl, by simpa [endsE] using h.symm⟩
  | 1, h => exact .inr (.inl ⟨rfl, by simpa [endsE] using h.symm⟩)
  | 2, h => exact .inr (.inr ⟨rfl, by simpa [endsE] using h.symm⟩)
  | n + 3, h => simp [endsE] at h
theorem wyN_none (h : endsE[k]? = some e) (he : ∀ u, endsL e b = some u → nmsP.good u = false) : wyN a b c (k + 1) = wyN a b c k := by
  rcases endsE_cases h with ⟨rfl, rfl⟩ | ⟨rfl, rfl⟩ | ⟨rfl, rfl⟩
  · show wy1 nmsP a b c = wy0 a
    unfold wy1
    split
    · rename_i u hu; rw [he u hu]; rfl
    · rfl
  · show wy2 nmsP a b c = wy1 nmsP a b c
    unfold wy2
    split
    · rename_i u hu; rw [he u hu]; rfl
    · rfl
  · show wy3 nmsP a b c = wy2 nmsP a b c
    unfold wy3
    split
    · rename_i u hu; rw [he u hu]; rfl
    · rfl
theorem wyN_conf (he : endsL dotD b = some u) (hg : nmsP.good u = true) : wyN a b c 1 = conf a u c := by
  show wy1 nmsP a b c = _
  unfold wy1
  rw [he]
  simp only
  rw [if_pos hg]
theorem wyN_wish (h : endsE[k]? = some e) (hk : 0 < k) (he : endsL e b = some u) (hg : nmsP.good u = true) : wyN a b c (k + 1) = wishW nmsP ((k : Int) + 2) (wyN a b c k) u c := by
  rcases endsE_cases h with ⟨rfl, rfl⟩ | ⟨rfl, rfl⟩ | ⟨rfl, rfl⟩
  · omega
  · show wy2 nmsP a b c = wishW nmsP _ (wy1 nmsP a b c) u c
    unfold wy2
    rw [he]
    simp only
    rw [if_pos hg]
    rfl
  · show wy3 nmsP a b c = wishW nmsP _ (wy2 nmsP a b c) u c
    unfold wy3
    rw [he]
    simp only
    rw [if_pos hg]
    rfl
end
theorem ends_some {s v u : List UInt8} (h : endsL v s = some u) (hs : s.length ≤ 4194304) (hv : v.length ≤ 4194304) (w : World) :
    Calls Tryz.prog 66 #[.string (str s), .string (str v)] w fun e w' => e = .returned (.tuple #[.string (str u), .bool true]) ∧ w = w' := by
  have := ends_any (str s) (str v) (by rw [str_size]; unfold maxLen; omega) (by rw [str_size]; unfold maxLen; omega) w
  unfold endS endOk at this
  rw [str_list, str_list, h] at this
  exact this
theorem ends_none {s v : List UInt8} (h : endsL v s = none) (hs : s.length ≤ 4194304) (hv : v.length ≤ 4194304) (w : World) :
    Calls Tryz.prog 66 #[.string (str s), .string (str v)] w fun e w' => e = .returned (.tuple #[.string ⟨#[]⟩, .bool false]) ∧ w = w' := by
  have := ends_any (str s) (str v) (by rw [str_size]; unfold maxLen; omega) (by rw [str_size]; unfold maxLen; omega) w
  unfold endS endOk at this
  rw [str_list, str_list, h] at this
  exact this
theorem ends_len {s v u : List UInt8} (h : endsL v s = some u) : u.length ≤ s.length := by
  have := (ends_inv h).1
  rw [this, List.length_append]; omega
def PathP (s : ByteArray) (w : World) (e : Ending) (w' : World) : Prop := e = .returned (.agg (wyA (pathW nmsP s.data.toList))) ∧ Below w.heap.size w w'
theorem path_two_of {s a b : List UInt8} (h : splitL 47 s = [a, b]) : pathW nmsP s = if a ∈ plc ∧ nmsP.good b = true then ⟨1, a, b, []⟩ else noWy := by unfold pathW; rw [h]
theorem path_three_of {s a b c : List UInt8} (h : splitL 47 s = [a, b, c]) : pathW nmsP s = if a ∈ plc then (if (wyN a b c 3).k = 0 then noWy else wyN a b c 3) else noWy := by unfold pathW; rw [h]; rfl
theorem path_other {s : List UInt8} (h : (splitL 47 s).length < 2 ∨ 3 < (splitL 47 s).length) : pathW nmsP s = noWy := by
  unfold pathW
  split
  · rename_i e; rw [e] at h; simp at h
  · rename_i e; rw [e] at h; simp at h
  · rfl
theorem any_plc (a : List UInt8) : (plc.any (fun x => decide (x = a))) = decide (a ∈ plc) := by
  rw [Bool.eq_iff_iff, List.any_eq_true, decide_eq_true_eq]
  constructor
  · rintro ⟨x, hx, e⟩
    rw [decide_eq_true_eq] at e
    rw [← e]; exact hx
  · exact fun h => ⟨a, h, by simp⟩
end Go.Proofs.YthodbeeglkedcaaGreat
namespace Go.Proofs.YthodbeeglkedcaaGreat
open Go.RowKit
def SizeF (x : Fi) : Prop := x.p.length ≤ 4194304 ∧ x.t.length ≤ 4194304 ∧ x.l.length ≤ 4194304
theorem eq_nil (l : List UInt8) : ((str l).toList == []) = decide (l = []) := by
  rw [Lib.toList_data, str_list, Bool.eq_iff_iff, decide_eq_true_eq, beq_iff_eq]
theorem eq_nul (l : List UInt8) : ((str l).toList == [110, 117, 108, 108]) = decide (l = nulL) := by
  rw [Lib.toList_data, str_list, Bool.eq_iff_iff, decide_eq_true_eq, beq_iff_eq]
  rfl
end Go.Proofs.YthodbeeglkedcaaGreat
