/- Rows of things in memory, whatever cells a thing has. It speaks of no code. -/
import Derived.Laws.AppendOwn
import Derived.Laws.OwnMore
import Derived.Maps.AppendAt
import Derived.ArgAppend
import Derived.Below
namespace Go.Proofs.YtcoepioahabbdaaGreat
open Go.RowKit
theorem addA_block (a : Addr) (n : Nat) : (a.add n).block = a.block := by unfold Addr.add; split <;> rfl
theorem addA_add (a : Addr) (i j : Nat) : (a.add i).add j = a.add (i + j) := by
  unfold Addr.add
  by_cases hi : i = 0 <;> by_cases hj : j = 0 <;> simp [hi, hj, Nat.add_assoc]
theorem addA_off (a : Addr) (i j : Nat) (hj : 0 < j) : a.add (i + j) = ⟨(a.add i).block, (a.add i).off + j, none⟩ := by
  unfold Addr.add
  by_cases hi : i = 0 <;> simp [hi, show j ≠ 0 by omega, Nat.add_assoc]
structure Lay (α : Type) where
  cs : α → List Value
  sz : Nat
  pos : 0 < sz
  len : ∀ x, (cs x).length = sz
  one : ∀ x u, u ∈ cs x → u.oneCell' = true
section
variable {α : Type} (L : Lay α)
def Lay.all (l : List α) : List Value := l.flatMap L.cs
theorem Lay.all_cons (x : α) (l : List α) : L.all (x :: l) = L.cs x ++ L.all l := by simp [Lay.all]
theorem Lay.all_app (l m : List α) : L.all (l ++ m) = L.all l ++ L.all m := by simp [Lay.all]
theorem Lay.all_len (l : List α) : (L.all l).length = l.length * L.sz := by
  induction l with
  | nil => simp [Lay.all]
  | cons x l ih => rw [Lay.all_cons, List.length_append, ih, L.len, List.length_cons, Nat.add_mul, Nat.one_mul, Nat.add_comm]
theorem Lay.all_one {l : List α} : ∀ u ∈ L.all l, u.oneCell' = true := fun u hu => by
  obtain ⟨x, _, hx⟩ := List.mem_flatMap.1 hu
  exact L.one x u hx
theorem Lay.all_get (l : List α) (j : Nat) (x : α) (h : l[j]? = some x) (i : Nat) (hi : i < L.sz) : (L.all l)[j * L.sz + i]? = (L.cs x)[i]? := by
  induction l generalizing j with
  | nil => simp at h
  | cons y l ih =>
    rw [Lay.all_cons]
    cases j with
    | zero =>
      simp only [List.getElem?_cons_zero, Option.some.injEq] at h
      subst h
      rw [Nat.zero_mul, Nat.zero_add, List.getElem?_append_left (by rw [L.len]; exact hi)]
    | succ j =>
      rw [List.getElem?_cons_succ] at h
      have e : (j + 1) * L.sz + i = j * L.sz + i + L.sz := by rw [Nat.add_mul, Nat.one_mul]; omega
      rw [List.getElem?_append_right (by rw [L.len, e]; omega), L.len, e, Nat.add_sub_cancel]
      exact ih j h
def SlAt (w : World) (B : Nat) (A : Option Addr) (n : Nat) (l : List α) : Prop :=
  l.length = n ∧ n ≤ maxLen ∧ (0 < n → ∃ ad, A = some ad ∧ ad.block < B ∧ ∀ j u, (L.all l)[j]? = some u → w.cell? (ad.add j) = some u)
variable {L}
theorem SlAt.none_ {w : World} {B : Nat} {A : Option Addr} : SlAt L w B A 0 [] := ⟨rfl, Nat.zero_le _, fun h => by omega⟩
theorem SlAt.below {w w' : World} {B n : Nat} {A : Option Addr} {l : List α} (h : SlAt L w B A n l) (hb : Below B w w') : SlAt L w' B A n l :=
  ⟨h.1, h.2.1, fun hn => by
    obtain ⟨ad, e, hB, hc⟩ := h.2.2 hn
    exact ⟨ad, e, hB, fun j x hj => (hb.cell (by rw [addA_block]; exact hB)).trans (hc j x hj)⟩⟩
theorem SlAt.wide {w : World} {B B' n : Nat} {A : Option Addr} {l : List α} (h : SlAt L w B A n l) (hB : B ≤ B') : SlAt L w B' A n l :=
  ⟨h.1, h.2.1, fun hn => by
    obtain ⟨ad, e, h2, hc⟩ := h.2.2 hn
    exact ⟨ad, e, by omega, hc⟩⟩
theorem SlAt.drew {w : World} {B n : Nat} {A : Option Addr} {l : List α} (h : SlAt L w B A n l) : SlAt L w.drew B A n l := h
theorem SlAt.at_ {w : World} {B n : Nat} {A : Option Addr} {l : List α} (h : SlAt L w B A n l) {k : Nat} (hk : k < n) :
    ∃ ad x, A = some ad ∧ ad.block < B ∧ l[k]? = some x ∧ ∀ i u, (L.cs x)[i]? = some u → w.cell? (ad.add (k * L.sz + i)) = some u := by
  obtain ⟨h1, _, h4⟩ := h
  obtain ⟨ad, e, hb, hc⟩ := h4 (by omega)
  have hl : k < l.length := by omega
  refine ⟨ad, l[k], e, hb, List.getElem?_eq_getElem hl, fun i u hu => hc _ u ?_⟩
  have hi : i < L.sz := by
    rcases Nat.lt_or_ge i L.sz with h' | h'
    · exact h'
    · rw [List.getElem?_eq_none (by rw [L.len]; exact h')] at hu; cases hu
  rw [L.all_get l k _ (List.getElem?_eq_getElem hl) i hi, hu]
theorem SlAt.take {w : World} {B n k : Nat} {A : Option Addr} {l : List α} (h : SlAt L w B A n l) (hk : k ≤ n) : SlAt L w B A k (l.take k) := by
  obtain ⟨h1, h2, h3⟩ := h
  refine ⟨by rw [List.length_take]; omega, by omega, fun h0 => ?_⟩
  obtain ⟨ad, e, hb, hc⟩ := h3 (by omega)
  refine ⟨ad, e, hb, fun j u hj => hc j u ?_⟩
  have : L.all l = L.all (l.take k) ++ L.all (l.drop k) := by rw [← L.all_app, List.take_append_drop]
  rw [this, List.getElem?_append_left]
  · exact hj
  · rcases Nat.lt_or_ge j (L.all (l.take k)).length with h' | h'
    · exact h'
    · rw [List.getElem?_eq_none h'] at hj; cases hj
theorem SlAt.drop {w : World} {B n k : Nat} {ad : Addr} {l : List α} (h : SlAt L w B (some ad) n l) (hk : k ≤ n) : SlAt L w B (some (ad.add (k * L.sz))) (n - k) (l.drop k) := by
  obtain ⟨h1, h2, h3⟩ := h
  refine ⟨by rw [List.length_drop]; omega, by omega, fun h0 => ?_⟩
  obtain ⟨ad', e, hb, hc⟩ := h3 (by omega)
  injection e with e
  subst e
  refine ⟨_, rfl, by rw [addA_block]; exact hb, fun j u hj => ?_⟩
  rw [addA_add]
  refine hc _ u ?_
  have : L.all l = L.all (l.take k) ++ L.all (l.drop k) := by rw [← L.all_app, List.take_append_drop]
  have hl : (L.all (l.take k)).length = k * L.sz := by rw [L.all_len, List.length_take]; congr 1; omega
  rw [this, List.getElem?_append_right (by omega), hl, Nat.add_sub_cancel_left]
  exact hj
theorem SlAt.cells {w : World} {B n : Nat} {A : Option Addr} {l : List α} (h : SlAt L w B A n l) (b : Addr) (hA : A = some b) : ∀ j u, (L.all l)[j]? = some u → w.cell? (b.add j) = some u := fun j u hj => by
  by_cases h0 : 0 < n
  · obtain ⟨ad, e, _, hc⟩ := h.2.2 h0
    rw [hA] at e
    injection e with e
    subst e
    exact hc j u hj
  · have : l = [] := List.eq_nil_of_length_eq_zero (by have := h.1; omega)
    subst this
    cases hj
def OwnG (L : Lay α) (T : TypeId) (w : World) (base : Nat) (v : Value) (l : List α) : Prop := w.ownsRow base T L.sz v l.length (L.all l)
variable {T TS : TypeId}
theorem OwnG.nil (w : World) (base : Nat) : OwnG L T w base (.slice none 0 0) [] := World.ownsRow_nil _ _ _ _
theorem OwnG.slice {w : World} {base : Nat} {v : Value} {l : List α} (h : OwnG L T w base v l) (hn : l.length ≤ maxLen) : ∃ A c, v = .slice A l.length c ∧ l.length ≤ c ∧ (A = none → c = 0) ∧ (∀ ad, A = some ad → base ≤ ad.block ∧ ad.block < w.heap.size ∧ ad.off = 0 ∧ ad = ⟨ad.block, 0, none⟩) ∧ SlAt L w w.heap.size A l.length l := by
  have h0 := h
  rcases h.2 with ⟨h1, h2⟩ | ⟨g, cap, cur, h1, h2, h3, h4, h5, h6, h7⟩
  · have hl : l = [] := List.eq_nil_of_length_eq_zero h2
    subst hl
    exact ⟨none, 0, by rw [h1]; rfl, Nat.zero_le _, fun _ => rfl, (fun ad e => by cases e), SlAt.none_⟩
  · have hg : g < w.heap.size := (Array.getElem?_eq_some_iff.1 h3).1
    subst h1
    exact ⟨some ⟨g, 0, none⟩, cap, rfl, h4, (fun e => by cases e), (fun ad e => by injection e with e; subst e; exact ⟨h2, hg, rfl, rfl⟩), rfl, hn, fun _ => ⟨_, rfl, hg, fun j u hj => h0.cells (g := g) rfl j u hj⟩⟩
theorem OwnG.below {w w' : World} {base : Nat} {v : Value} {l : List α} (h : OwnG L T w base v l) (hb : Below w.heap.size w w') : OwnG L T w' base v l := by
  obtain ⟨q1, q2⟩ := h
  refine ⟨q1, ?_⟩
  rcases q2 with q2 | ⟨g, cap, cur, hv, hg, hbk, hr⟩
  · exact .inl q2
  · exact .inr ⟨g, cap, cur, hv, hg, (hb.block g (Array.getElem?_eq_some_iff.1 hbk).1).trans hbk, hr⟩
theorem OwnG.base_le {w : World} {b b' : Nat} {v : Value} {l : List α} (h : OwnG L T w b v l) (hb : b' ≤ b) : OwnG L T w b' v l := by
  obtain ⟨q1, q2⟩ := h
  refine ⟨q1, ?_⟩
  rcases q2 with q2 | ⟨g, cap, cur, hv, hg, hr⟩
  · exact .inl q2
  · exact .inr ⟨g, cap, cur, hv, by omega, hr⟩
theorem OwnG.kept {w w' : World} {base : Nat} {v : Value} {l : List α} {row : Option Nat} (h : OwnG L T w base v l) (hg : w.grownBy w' row) (hne : ∀ g, v.ownBlock = some g → some g ≠ row) : OwnG L T w' base v l := by
  obtain ⟨q1, q2⟩ := h
  refine ⟨q1, ?_⟩
  rcases q2 with q2 | ⟨g, cap, cur, hv, hb, hbk, hr⟩
  · exact .inl q2
  · exact .inr ⟨g, cap, cur, hv, hb, (hg.block g (Array.getElem?_eq_some_iff.1 hbk).1 (hne g (by rw [hv]; rfl))).trans hbk, hr⟩
theorem OwnG.lt {w : World} {base : Nat} {v : Value} {l : List α} (h : OwnG L T w base v l) {g : Nat} (hg : v.ownBlock = some g) : base ≤ g ∧ g < w.heap.size := by
  rcases h.2 with ⟨h1, h2⟩ | ⟨g', cap, cur, h1, h2, h3, _⟩
  · rw [h1] at hg; cases hg
  · rw [h1] at hg
    injection hg with hg
    subst hg
    exact ⟨h2, (Array.getElem?_eq_some_iff.1 h3).1⟩
structure TyOk (P : Program) (L : Lay α) (T TS : TypeId) : Prop where
  und : P.underlying TS = some (.slice T)
  info : ∃ i z bytes, P.info? T = some i ∧ i.zero = some z ∧ i.size = L.sz ∧ i.bytes = bytes ∧ z.cells.size = L.sz ∧ bytes ≤ 64
theorem tyOk_of {P : Program} {z : Value} {b : Nat} (h1 : P.underlying TS = some (.slice T)) (h2 : (P.info? T).map (fun i => (i.zero, i.size, i.bytes)) = some (some z, L.sz, b)) (h3 : z.cells.size = L.sz) (h4 : b ≤ 64) : TyOk P L T TS := by
  refine ⟨h1, ?_⟩
  cases e : P.info? T with
  | none => rw [e] at h2; cases h2
  | some i =>
    rw [e] at h2
    injection h2 with h2
    injection h2 with a1 a2
    injection a2 with a2 a3
    exact ⟨i, z, b, rfl, a1, a2, a3, h3, h4⟩
variable {P : Program}
theorem wpList_appendO (K : TyOk P L T TS) {w : World} {ops : Array Oper} {rest : List Oper} {o : Oper} {a : Act} {Q : Exit → Act → World → Prop} (hgd : o.guard = none) (s x : Operand)
    (ho : o.op = .call { callee := .builtin .append, args := #[s, x], argTypes := #[TS, TS] })
    (base : Nat) (v : Value) (l m : List α) (hs : a.eval s = v) (hown : OwnG L T w base v l) (ad : Addr) (k c : Nat) (hx : a.eval x = .slice (some ad) k c) (hk : m.length = k) (hc : ∀ j u, (L.all m)[j]? = some u → w.cell? (ad.add j) = some u) (hl : l.length + k ≤ 1099511627776) (hbase : base ≤ w.heap.size)
    (h : ∀ v' w', OwnG L T w' base v' (l ++ m) → w.grownBy w' v.ownBlock → (v'.ownBlock = v.ownBlock ∨ v'.ownBlock = some w.heap.size) → wpList P ops Q rest (a.put o.dst v') w') : wpList P ops Q (o :: rest) a w := by
  obtain ⟨i, z, b, i1, i2, i3, i4, i5, i6⟩ := K.info
  have h6 : (l.length + k) * b ≤ (l.length + k) * 64 := Nat.mul_le_mul_left _ i6
  refine wpList_append_own_at w hgd s x TS ho base T i z L.sz b K.und i1 i2 i3 i4 i5 L.pos v l.length (L.all l) hs hown ad k c (L.all m) hx (by rw [L.all_len, hk]) hc L.all_one (by unfold maxLen; omega) (by omega) hbase ?_
  intro v' w2 h2 h3 _ h5
  refine h v' w2 ?_ h3 h5
  unfold OwnG
  rw [List.length_append, hk, L.all_app]
  exact h2
theorem step_appendO (K : TyOk P L T TS) {w : World} {ops : Array Oper} {o : Oper} {a : Act} {C : Act → World → Prop} {Q : Exit → Act → World → Prop} {E : Prop} (hgd : o.guard = none) (s x : Operand)
    (ho : o.op = .call { callee := .builtin .append, args := #[s, x], argTypes := #[TS, TS] })
    (base : Nat) (v : Value) (l m : List α) (hs : a.eval s = v) (hown : OwnG L T w base v l) (ad : Addr) (k c : Nat) (hx : a.eval x = .slice (some ad) k c) (hk : m.length = k) (hc : ∀ j u, (L.all m)[j]? = some u → w.cell? (ad.add j) = some u) (hl : l.length + k ≤ 1099511627776) (hbase : base ≤ w.heap.size)
    (h : ∀ v' w', OwnG L T w' base v' (l ++ m) → w.grownBy w' v.ownBlock → (v'.ownBlock = v.ownBlock ∨ v'.ownBlock = some w.heap.size) → C (a.put o.dst v') w') :
    if Region.wanted o (yielded ops a.tmps) = true then Oper.wp P o a w C Q else E := by
  obtain ⟨i, z, b, i1, i2, i3, i4, i5, i6⟩ := K.info
  have h6 : (l.length + k) * b ≤ (l.length + k) * 64 := Nat.mul_le_mul_left _ i6
  have hw : Region.wanted o (yielded ops a.tmps) = true := by simp [Region.wanted, hgd]
  rw [if_pos hw]
  obtain ⟨v', w', hr, h2, h3, h4, h5⟩ := run_append_own_at (P := P) w base TS o.type T i z L.sz b K.und i1 i2 i3 i4 i5 L.pos v l.length (L.all l) hown ad k c (L.all m) (by rw [L.all_len, hk]) hc L.all_one (by unfold maxLen; omega) (by omega) hbase
  unfold Oper.wp execOp
  simp only [ho, resolve, invoke, builtin, Sem.run_bind, Sem.run_pure, Result.andThen_ok, List.map_toArray, List.map_cons, List.map_nil, hs, hx, hr]
  refine h v' w' ?_ h3 h5
  unfold OwnG
  rw [List.length_append, hk, L.all_app]
  exact h2
theorem step_appendN (K : TyOk P L T TS) {w : World} {ops : Array Oper} {o : Oper} {a : Act} {C : Act → World → Prop} {Q : Exit → Act → World → Prop} {E : Prop} (hgd : o.guard = none) (s x : Operand)
    (ho : o.op = .call { callee := .builtin .append, args := #[s, x], argTypes := #[TS, TS] })
    (B : Nat) (A : Option Addr) (n cap : Nat) (l m : List α) (hs : a.eval s = .slice A n cap) (hnone : A = none → n = 0 ∧ cap = 0) (hrow : SlAt L w B A n l) (ad : Addr) (k c : Nat) (hx : a.eval x = .slice (some ad) k c) (hk : m.length = k) (hc : ∀ j u, (L.all m)[j]? = some u → w.cell? (ad.add j) = some u) (hfull : cap < n + k) (hl : n + k ≤ 1099511627776)
    (h : ∀ v' w', OwnG L T w' w.heap.size v' (l ++ m) → w.grownBy w' none → C (a.put o.dst v') w') :
    if Region.wanted o (yielded ops a.tmps) = true then Oper.wp P o a w C Q else E := by
  obtain ⟨i, z, b, i1, i2, i3, i4, i5, i6⟩ := K.info
  have h6 : (n + k) * b ≤ (n + k) * 64 := Nat.mul_le_mul_left _ i6
  have fin : ∀ v' w', w'.ownsRow w.heap.size T L.sz v' (n + k) (L.all l ++ L.all m) → OwnG L T w' w.heap.size v' (l ++ m) := fun v' w' h2 => by
    unfold OwnG
    rw [List.length_append, hk, hrow.1, L.all_app]
    exact h2
  have hw : Region.wanted o (yielded ops a.tmps) = true := by simp [Region.wanted, hgd]
  rw [if_pos hw]
  cases A with
  | some b' =>
    obtain ⟨v', w', hrun, r1, r2⟩ := run_append_arg_grows (P := P) w TS o.type T i z L.sz b K.und i1 i2 i3 i4 i5 L.pos b' n cap (L.all l) (by rw [L.all_len, hrow.1]) (hrow.cells b' rfl) ad k c (L.all m) (by rw [L.all_len, hk]) hc hfull (by unfold maxLen; omega) (by omega)
    unfold Oper.wp
    simp [execOp, ho, resolve, invoke, builtin, hs, hx, hrun, Result.andThen]
    exact h v' w' (fin v' w' r1) r2
  | none =>
    obtain ⟨rfl, rfl⟩ := hnone rfl
    have hl0 : L.all l = [] := by
      have : l = [] := List.eq_nil_of_length_eq_zero hrow.1
      rw [this]; rfl
    obtain ⟨v', w', hrun, r1, r2, _⟩ := run_append_own (P := P) w w.heap.size TS o.type T i z L.sz b K.und i1 i2 i3 i4 i5 L.pos (.slice none 0 0) 0 [] (World.ownsRow_nil w _ T L.sz) ad k c (L.all m) (by rw [L.all_len, hk]) hc L.all_one (by unfold maxLen; omega) (by omega) (Nat.le_refl _)
    unfold Oper.wp
    simp [execOp, ho, resolve, invoke, builtin, hs, hx, hrun, Result.andThen]
    exact h v' w' (fin v' w' (by rw [hl0]; exact r1)) r2
end
end Go.Proofs.YtcoepioahabbdaaGreat
