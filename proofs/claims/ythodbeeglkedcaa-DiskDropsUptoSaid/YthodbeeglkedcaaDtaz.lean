/- The walk of the document's Links. The walk of the document's Drops. The walk of the document's Find. The walk of the law -/
import Derived.Test.YthodbeeglkedcaaDtay
import Derived.Laws.OwnMore
namespace Go.Proofs.Ythodbeeglkedcaa
open Go.RowKit
theorem addGo_len (s : List UInt8) (put : Bool) (l : List (List UInt8)) : (addGo s put l).length ≤ l.length + (if put = true then 0 else 1) := by
  induction l generalizing put with
  | nil => cases put <;> simp [addGo]
  | cons y l ih =>
    rw [addGo, List.length_append, List.length_append]
    by_cases h : s < y ∨ s = y
    · have := ih true
      have e : (put || decide (s < y ∨ s = y)) = true := by simp [h]
      rw [e]
      simp at this
      cases put <;> simp [h] <;> split <;> simp <;> omega
    · have := ih put
      have e : (put || decide (s < y ∨ s = y)) = put := by simp [h]
      rw [e]
      cases put <;> simp [h] at this ⊢ <;> split <;> simp <;> omega
theorem addL_len (l : List (List UInt8)) (s : List UInt8) : (addL l s).length ≤ l.length + 1 := addGo_len s false l
theorem links_no {k : Int} {l : List Fi} {u : List UInt8} (h : mayL nmsP l = false) : linksL nmsP k l u = [] := by
  unfold linksL
  rw [if_neg (by rw [h]; simp)]
theorem takeL_len (q : Wy → Bool) (l : List Fi) (a : List (List UInt8)) : (takeL q nmsP a l).length ≤ a.length + l.length := by
  induction l generalizing a with
  | nil => simp [takeL]
  | cons f l ih =>
    have e : takeL q nmsP a (f :: l) = takeL q nmsP (if q (pathW nmsP f.p) = true then addL a (pathW nmsP f.p).o else a) l := rfl
    rw [e]
    have h1 := ih (if q (pathW nmsP f.p) = true then addL a (pathW nmsP f.p).o else a)
    have h2 : (if q (pathW nmsP f.p) = true then addL a (pathW nmsP f.p).o else a).length ≤ a.length + 1 := by
      split
      · exact addL_len _ _
      · omega
    rw [List.length_cons]
    omega
def RowOut (w' : World) (v : Value) (l : List (List UInt8)) : Prop := ∃ A c, v = .slice A l.length c ∧ RowAt w' w'.heap.size A l.length l
theorem rowOut_nil (w : World) : RowOut w (.slice none 0 0) [] := ⟨none, 0, rfl, RowAt.none_⟩
def LinksP (l : List Fi) (u : List UInt8) (w : World) (e : Ending) (w' : World) : Prop := ∃ v1 v2, e = .returned (.tuple #[v1, v2]) ∧ RowOut w' v1 (linksL nmsP 3 l u) ∧ RowOut w' v2 (linksL nmsP 4 l u) ∧ Below w.heap.size w w'
end Go.Proofs.Ythodbeeglkedcaa
namespace Go.Proofs.Ythodbeeglkedcaa
open Go.RowKit
theorem tmpl_str (u : List UInt8) : str (nmsP.tmpl u) = Nm.tmplS (str u) := str_data (Nm.tmplS (str u))
theorem map_take {α β : Type} {l : List α} {k : Nat} {x : α} (f : α → β) (hx : l[k]? = some x) : (l.take (k + 1)).map f = (l.take k).map f ++ [f x] := by
  have hk : k < l.length := by
    rcases Nat.lt_or_ge k l.length with h' | h'
    · exact h'
    · rw [List.getElem?_eq_none h'] at hx; cases hx
  have he : l[k] = x := by rw [List.getElem?_eq_getElem hk] at hx; exact Option.some.inj hx
  rw [List.take_succ_eq_append_getElem hk, he, List.map_append]
  rfl
def RowNew (B0 : Nat) (w' : World) (v : Value) (l : List (List UInt8)) : Prop := ∃ A c, v = .slice A l.length c ∧ RowAt w' w'.heap.size A l.length l ∧ ∀ ad, A = some ad → B0 ≤ ad.block
theorem own_new {w : World} {base B0 : Nat} {v : Value} {l : List (List UInt8)} (h : OwnT w base v l) (hn : l.length ≤ maxLen) (hB : B0 ≤ base) : RowNew B0 w v l := by
  obtain ⟨A, c, rfl, hr⟩ := own_row h hn
  refine ⟨A, c, rfl, hr, ?_⟩
  rintro ad rfl
  rcases h.2 with ⟨h1, _⟩ | ⟨g, cap, cur, h1, h2, _⟩
  · cases h1
  · injection h1 with h1
    injection h1 with h1
    subst h1
    exact Nat.le_trans hB h2
end Go.Proofs.Ythodbeeglkedcaa
namespace Go.Proofs.Ythodbeeglkedcaa
open Go.RowKit
def fdA (n p : List UInt8) (m : Bool) (v : Value) : Array Value := #[.string (str n), .string (str p), .bool m, v]
def fd0 : Array Value := #[.string ⟨#[]⟩, .string ⟨#[]⟩, .bool false, .slice none 0 0]
theorem fdA_all (n p : List UInt8) (m : Bool) (A : Option Addr) (k c : Nat) : (fdA n p m (.slice A k c)).all (·.oneCell') = true := by simp [fdA, Value.oneCell']
theorem fd0_all : fd0.all (·.oneCell') = true := by simp [fd0, Value.oneCell']
def FindP (l : List Fi) (u : List UInt8) (w : World) (e : Ending) (w' : World) : Prop :=
  ∃ v, e = .returned (.tuple #[.agg (fdA (findL nmsP l u).1.n (findL nmsP l u).1.p (findL nmsP l u).1.m v), .int .i64 (findL nmsP l u).2]) ∧ RowOut w' v (findL nmsP l u).1.d ∧ Below w.heap.size w w'
theorem RowAt.setOther {w : World} {B n : Nat} {A : Option Addr} {l : List (List UInt8)} (h : RowAt w B A n l) {g : Nat} (hne : ∀ ad, A = some ad → ad.block ≠ g) (i : Nat) (u : Value) : RowAt (w.setCell ⟨g, i, none⟩ u) B A n l :=
  ⟨h.1, h.2.1, fun hn => by
    obtain ⟨ad, e, hB, hc⟩ := h.2.2 hn
    refine ⟨ad, e, hB, fun j x hj => ?_⟩
    rw [← hc j x hj]
    exact World.cell?_setCell_other w _ _ u (by
      intro h1
      have h2 := congrArg Addr.block h1
      rw [block_addR] at h2
      exact hne ad e h2.symm)⟩
theorem cell_far (w : World) (g i b o : Nat) (u : Value) (hne : b ≠ g) : (w.setCell ⟨g, i, none⟩ u).cell? ⟨b, o, none⟩ = w.cell? ⟨b, o, none⟩ :=
  World.cell?_setCell_other w _ _ u (by intro h1; exact hne (congrArg Addr.block h1).symm)
theorem findP_no {l : List Fi} {u : List UInt8} {w w' : World} {k : Int} (h : findL nmsP l u = (noFd, k)) (hb : Below w.heap.size w w') : FindP l u w (.returned (.tuple #[.agg fd0, .int .i64 k])) w' :=
  ⟨.slice none 0 0, by rw [h]; rfl, by rw [h]; exact rowOut_nil _, hb⟩
end Go.Proofs.Ythodbeeglkedcaa
namespace Go.Proofs.Ythodbeeglkedcaa
open Go.RowKit
end Go.Proofs.Ythodbeeglkedcaa
