/- A map of strings to strings that the call makes: what stands in it, its keys sorted. -/
import Derived.Test.YthodbeeglkedcaaDtbk
import Derived.Test.YthodbeeglkedcaaDtbh
import Derived.Test.YthodbeeglkedcaaDtaz
namespace Go.Proofs.Ythodbeeglkedcaa
open Go.RowKit Go.WideMaps Go.Maps
theorem zeroStrT (w : World) : (zeroValue 9).run Try.prog w = .ok (.string ⟨#[]⟩) w := by kernel_rfl
theorem lookupT {P : Program} {k t e : TypeId} {w : World} {b n : Nat} {D : DataW Unit} (h : w.ownsMap P k (plainElem P e) b n D) (K : Keyed P k) (ht : P.underlying t = some (.map k e)) (he : P.underlying e = some .string) (hz : (zeroValue e).run P w = .ok (.string ⟨#[]⟩) w)
    {key : Value} {kl : Lit} (hkey : keyOf P k key = some kl) : ∃ s : ByteArray, (Instr.lookup t (.map (some b)) key false).run P w = .ok (.string s) w ∧ D.atKey kl (.lit (.string [])) = .lit (.string s.data.toList) := by
  obtain ⟨v, ps, hrun, hv⟩ := h.lookup K ht hz (plainElem_string he (s := ⟨#[]⟩) (Nat.zero_le _)) hkey
  obtain ⟨s, rfl, hc, _⟩ := plainElem_string_inv he hv
  simp only [Prod.mk.injEq] at hc
  exact ⟨s, hrun, hc.1⟩
def MapT (w : World) (b n : Nat) (f : List UInt8 → List UInt8) : Prop :=
  ∃ D : DataW Unit, w.ownsMap Try.prog 9 (plainElem Try.prog 9) b n D ∧ ∀ p, has D (.string p) = decide (f p ≠ []) ∧ D.atKey (.string p) (.lit (.string [])) = .lit (.string (f p))
theorem MapT.lt {w : World} {b n : Nat} {f : List UInt8 → List UInt8} (h : MapT w b n f) : b < w.heap.size := by
  obtain ⟨D, h, _⟩ := h
  exact h.lt
theorem MapT.kept {w w' : World} {b n : Nat} {f : List UInt8 → List UInt8} {row : Option Nat} (h : MapT w b n f) (hg : w.grownBy w' row) (hne : some b ≠ row) : MapT w' b n f := by
  obtain ⟨D, h, k⟩ := h
  exact ⟨D, h.kept hg hne, k⟩
theorem MapT.below {w w' : World} {b n : Nat} {f : List UInt8 → List UInt8} (h : MapT w b n f) (hb : Below w.heap.size w w') : MapT w' b n f := h.kept (only_of_below hb none) (by simp)
theorem MapT.same {w : World} {b n : Nat} {f g : List UInt8 → List UInt8} (h : MapT w b n f) (e : ∀ p, f p = g p) : MapT w b n g := by
  obtain ⟨D, h, k⟩ := h
  exact ⟨D, h, fun p => by rw [← e p]; exact k p⟩
theorem MapT.mono {w : World} {b n m : Nat} {f : List UInt8 → List UInt8} (h : MapT w b n f) (hn : n ≤ m) : MapT w b m f := by
  obtain ⟨D, h, k⟩ := h
  exact ⟨D, h.mono hn, k⟩
theorem mapT_made (w : World) : MapT (w.alloc (.map #[] 0)) w.heap.size 0 (fun _ => []) := ⟨.map [], World.ownsMap_made _ _ _ _, fun _ => ⟨rfl, rfl⟩⟩
set_option maxRecDepth 100000 in
theorem MapT.look {w : World} {b n : Nat} {f : List UInt8 → List UInt8} (h : MapT w b n f) (p : List UInt8) (hp : p.length ≤ maxLen) :
    (Instr.lookup 73 (.map (some b)) (.string (str p)) false).run Try.prog w = .ok (.string (str (f p))) w := by
  obtain ⟨D, hD, hk⟩ := h
  have hkey : keyOf Try.prog 9 (.string (str p)) = some (.string p) := keyOf_string_mk Try.underlying9 hp
  obtain ⟨v, hrun, hat⟩ := lookupT hD (string_keyed Try.underlying9) Try.underlying73 Try.underlying9 (zeroStrT _) hkey
  rw [(hk p).2] at hat
  have : v = str (f p) := by
    rw [← str_data v]
    injection hat with hat
    injection hat with hat
    rw [← hat]
  rw [hrun, this]
theorem wpList_putT {w : World} {ops : Array Oper} {rest : List Oper} {o : Oper} {a : Act} {Q : Exit → Act → World → Prop}
    (hg : o.guard = none) (m x v : Operand) (hop : o.op = Op.mapUpdate 73 m x v) (b n : Nat) (f : List UInt8 → List UInt8)
    (hm : a.eval m = .map (some b)) (h : MapT w b n f) (hn : n < maxLen) (p q : List UInt8) (hp : p.length ≤ maxLen) (hq : q.length ≤ maxLen) (hq0 : q ≠ []) (hx : a.eval x = .string (str p)) (hv : a.eval v = .string (str q))
    (hK : ∀ w', MapT w' b (n + 1) (fun z => if p = z then q else f z) → w.grownBy w' (some b) → wpList Try.prog ops Q rest (a.put o.dst undef) w') :
    wpList Try.prog ops Q (o :: rest) a w := by
  obtain ⟨D, hD, hat⟩ := h
  have hkey : keyOf Try.prog 9 (.string (str p)) = some (.string p) := keyOf_string_mk Try.underlying9 hp
  have hel : plainElem (H := Unit) Try.prog 9 (.string (str q)) = some (.lit (.string q), []) := by
    have := plainElem_string (H := Unit) Try.underlying9 (s := str q) (by rw [str_size]; exact hq)
    rwa [str_list] at this
  refine wpList_mapUpdate_own w hg m x v 73 hop 9 9 (string_keyed Try.underlying9) Try.underlying73 (plainElem Try.prog 9) b n D hm hD hn (.string (str p)) (.string (str q)) (.string p) hx hv hkey (.lit (.string q)) [] hel ?_
  intro w' h1 h2
  refine hK w' ⟨_, h1, fun z => ?_⟩ h2
  by_cases e : p = z
  · subst e
    rw [has_put_same hD.isMap (by trivial), atKey_put_same hD.isMap (by trivial)]
    exact ⟨by simp [hq0], by simp⟩
  · have hne : (Lit.string z) ≠ .string p := by intro h; injection h with h; exact e h.symm
    rw [has_put_other hne, atKey_put_other hne]
    simp only [if_neg e]
    exact hat z
theorem MapT.sorted {w : World} {b n : Nat} {f : List UInt8 → List UInt8} (h : MapT w b n f) (hn : n ≤ 1000) {l : List (List UInt8)} (hl : rises l) (hx : ∀ x, x ∈ l ↔ f x ≠ []) :
    ∃ D : DataW Unit, w.ownsMap Try.prog 9 (plainElem Try.prog 9) b n D ∧ Maps.size D ≤ maxLen ∧ Maps.size D * 16 ≤ 140737488355328 ∧ ∀ ss : List (List UInt8), ss.Perm (strKeys D) → (ss.mergeSort (fun x y => decide (x ≤ y))) = l ∧ ss.length = l.length := by
  obtain ⟨D, hD, hk⟩ := h
  have hsz := hD.size_le
  have hnd : l.Nodup := hl.imp (fun {a b} h e => by rw [e] at h; exact ltL_irrefl _ h)
  refine ⟨D, hD, by unfold maxLen; omega, by omega, fun ss hss => ?_⟩
  have hC : Collected D (fun _ => false) l := ⟨hnd, fun x => by rw [hx, (hk x).1]; simp⟩
  have hp : l.Perm (strKeys D) := hC.perm hD (string_keyed Try.underlying9) Try.underlying9 (fun _ => rfl)
  have hsl : ss.Perm l := hss.trans hp.symm
  refine ⟨rise_ext (sort_rises (hsl.nodup_iff.2 hnd)) hl fun x => ?_, hsl.length_eq⟩
  rw [List.mem_mergeSort]
  exact hsl.mem_iff
theorem dPlaces_at (w : World) :
    Calls Try.prog 22 #[] w fun e w' => ∃ c, e = .returned (.slice (some ⟨w.heap.size, 0, none⟩) 3 c) ∧ RowAt w' w'.heap.size (some ⟨w.heap.size, 0, none⟩) 3 plc ∧ Below w.heap.size w w' := by
  go_enter Try.func22, Try.ntmps22
  go_wp2_with fail
  go_ret
  exact ⟨_, rfl, rowAt_new w _ plc (by decide), (Below.refl _ w).alloc (Nat.le_refl _) _⟩
theorem rowAt_only {w w' : World} {g b n : Nat} {l : List (List UInt8)} (h : RowAt w w.heap.size (some ⟨g, 0, none⟩) n l) (hg : w.grownBy w' (some b)) (hne : g ≠ b) : RowAt w' w'.heap.size (some ⟨g, 0, none⟩) n l :=
  ⟨h.1, h.2.1, fun hn => by
    obtain ⟨ad, e, hB, hc⟩ := h.2.2 hn
    injection e with e
    subst e
    exact ⟨_, rfl, Nat.lt_of_lt_of_le hB hg.size, fun j x hj => by
      rw [← hc j x hj, add_cellO]
      exact cell_only hg g j hB hne⟩⟩
theorem fd_str (a v : List UInt8) : str a ++ (⟨#[47]⟩ : ByteArray) ++ str v ++ (⟨#[46, 100, 47]⟩ : ByteArray) = str (foldD v a) := by
  apply Nm.ext_list
  rw [app_list, app_list, app_list, str_list, str_list, str_list]
  simp [foldD, dotD]
def fldsO (u t : List UInt8) (o : Nat) : List (List UInt8 × List UInt8) := ([u, t].take o).flatMap (fun v => plc.map (fun a => (v, a)))
def fldsQ (F : List (List UInt8 × List UInt8)) (v : List UInt8) (q : Nat) : List (List UInt8 × List UInt8) := F ++ (plc.take q).map (fun a => (v, a))
theorem fldsQ_zero (F : List (List UInt8 × List UInt8)) (v : List UInt8) : fldsQ F v 0 = F := by simp [fldsQ]
theorem fldsQ_succ {F : List (List UInt8 × List UInt8)} {v a : List UInt8} {q : Nat} (ha : plc[q]? = some a) : fldsQ F v (q + 1) = fldsQ F v q ++ [(v, a)] := by
  obtain ⟨hk, he⟩ := List.getElem?_eq_some_iff.1 ha
  unfold fldsQ
  rw [List.take_succ_eq_append_getElem hk, he, List.map_append, List.append_assoc]
  rfl
theorem fldsO_succ {u t v : List UInt8} {o : Nat} (hv : [u, t][o]? = some v) : fldsO u t (o + 1) = fldsQ (fldsO u t o) v 3 := by
  obtain ⟨hk, he⟩ := List.getElem?_eq_some_iff.1 hv
  unfold fldsO fldsQ
  rw [List.take_succ_eq_append_getElem hk, he, List.flatMap_append]
  simp [plc]
theorem fldsO_all (n : List UInt8) : fldsO n (nmsP.tmpl n) 2 = sixF nmsP n := by
  unfold fldsO sixF
  simp [plc]
end Go.Proofs.Ythodbeeglkedcaa
