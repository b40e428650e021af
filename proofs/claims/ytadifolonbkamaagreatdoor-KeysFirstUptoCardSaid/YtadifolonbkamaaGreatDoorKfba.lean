/- The walks of the splitter's endWord and take. -/
import Derived.Test.YtadifolonbkamaaGreatDoorKfaz
import Derived.Test.YtadifolonbkamaaGreatDoorKfad
import Derived.Test.YtadifolonbkamaaGreatDoorKfas
import Derived.Deep.AppendLies
import Derived.Deep.RegionLaw
import Derived.Deep.DrawnRows
import Derived.Laws.IdiomStrings
namespace Go.Proofs.YtadifolonbkamaaGreatDoor.Wd
open Go.Proofs.YtadifolonbkamaaGreatDoor.Ca
open Go.RowKit
theorem strInfoW : (Tryz.prog.info? 9).map (fun i => (i.zero, i.size, i.bytes)) = some (some (.string ⟨#[]⟩), 1, 16) := by kernel_rfl
theorem byteInfoW : (Tryz.prog.info? 5).map (fun i => (i.zero, i.size, i.bytes)) = some (some (.int .u8 0), 1, 1) := by kernel_rfl
theorem conv_rowW (w : World) (B : Nat) (v : Value) (l : List UInt8) (h : w.ownsRow B 5 1 v l.length (Lib.byteCells l)) :
    (convert 120 9 v).run Tryz.prog w = .ok (.string (str l)) w := by
  have h' := h
  rcases h.2 with ⟨rfl, h0⟩ | ⟨g, cap, cur, rfl, _⟩
  · have : l = [] := List.eq_nil_of_length_eq_zero (by omega)
    subst this
    exact run_convert_bytes_nil w _ _ Tryz.underlying120 Tryz.underlying5 0 0 _ Tryz.underlying9
  · refine run_convert_bytes_back w _ _ _ _ cap l Tryz.underlying120 Tryz.underlying5 Tryz.underlying9 fun j hj => ?_
    refine h'.cells (g := g) rfl j _ ?_
    unfold Lib.byteCells
    rw [List.getElem?_map, List.getElem?_eq_getElem hj]
    rfl
section
variable {w w' : World} {g : Nat} {t : TypeId} {cs : Array Value}
theorem Blk.setAt (h : Blk w g t cs) (i : Nat) (u : Value) : Blk (w.setCell ⟨g, i, none⟩ u) g t (cs.setIfInBounds i u) := by
  unfold Blk at h ⊢
  simp [World.setCell, Array.getElem?_modify, h]
theorem Blk.grownW {row : Option Nat} (h : Blk w g t cs) (hb : w.grownBy w' row) (hg : some g ≠ row) : Blk w' g t cs := (hb.block g h.lt hg).trans h
theorem Blk.neq {g' : Nat} {t' : TypeId} {cs' : Array Value} (h : Blk w g t cs) (h' : Blk w g' t' cs') (hne : t ≠ t') : g ≠ g' := by
  rintro rfl
  unfold Blk at h h'
  rw [h] at h'
  injection h' with h'
  injection h' with _ ht
  exact hne ht
theorem own_blk_neW {base : Nat} {e : TypeId} {size n : Nat} {v : Value} {xs : List Value} (h : w.ownsRow base e size v n xs) (hg : Blk w g t cs) (hne : e ≠ t) : v.ownBlock ≠ some g := by
  rcases h.2 with ⟨rfl, _⟩ | ⟨g', cap, cur, rfl, _, hh, _⟩
  · simp [Value.ownBlock]
  · intro he
    have : g' = g := by simpa [Value.ownBlock] using he
    subst this
    exact Blk.neq (t := e) hh hg hne rfl
end
/-- The splitter's own block: what has been read of a command line. -/
def SpB (w : World) (p : Nat) (v u : Value) (b : Bool) (q : UInt8) : Prop := Blk w p 140 #[v, .bool b, u, .int .u8 q.toNat]
def SpAt (w : World) (B p : Nat) (st : List (List UInt8) × Option (List UInt8) × UInt8) : Prop :=
  ∃ v u : Value, SpB w p v u st.2.1.isSome st.2.2 ∧ B ≤ p ∧ w.ownsRow B 9 1 v st.1.length (wcells st.1) ∧ w.ownsRow B 5 1 u (st.2.1.getD []).length (Lib.byteCells (st.2.1.getD []))
theorem SpB.cells {w : World} {p : Nat} {v u : Value} {b : Bool} {q : UInt8} (h : SpB w p v u b q) : w.cell? ⟨p, 0, none⟩ = some v ∧ w.cell? ⟨p, 1, none⟩ = some (.bool b) ∧ w.cell? ⟨p, 2, none⟩ = some u ∧ w.cell? ⟨p, 3, none⟩ = some (.int .u8 q.toNat) ∧
    w.frozen? ⟨p, 0, none⟩ = false ∧ w.frozen? ⟨p, 1, none⟩ = false ∧ w.frozen? ⟨p, 2, none⟩ = false ∧ w.frozen? ⟨p, 3, none⟩ = false :=
  ⟨Blk.cell h 0, Blk.cell h 1, Blk.cell h 2, Blk.cell h 3, Blk.frozen h 0, Blk.frozen h 1, Blk.frozen h 2, Blk.frozen h 3⟩
theorem own_setCell {w : World} {B p i n : Nat} {e t : TypeId} {v u : Value} {xs : List Value} {cs : Array Value} (h : w.ownsRow B e 1 v n xs) (hp : Blk w p t cs) (hne : e ≠ t) : (w.setCell ⟨p, i, none⟩ u).ownsRow B e 1 v n xs := by
  refine ⟨h.1, ?_⟩
  rcases h.2 with h2 | ⟨g, cap, cur, rfl, h1, h2, h3⟩
  · exact .inl h2
  · refine .inr ⟨g, cap, cur, rfl, h1, ?_, h3⟩
    have : g ≠ p := Blk.neq (t := e) h2 hp hne
    rw [← h2]
    exact Below.heap_setCell w ⟨p, i, none⟩ u g this
theorem own_other {w w' : World} {B n m : Nat} {e t : TypeId} {v x : Value} {xs ys : List Value} (h : w.ownsRow B e 1 v n xs) (hx : w.ownsRow B t 1 x m ys) (hne : e ≠ t) (hg : w.grownBy w' x.ownBlock) : w'.ownsRow B e 1 v n xs := by
  refine ⟨h.1, ?_⟩
  rcases h.2 with h2 | ⟨g, cap, cur, rfl, h1, h2, h3⟩
  · exact .inl h2
  · refine .inr ⟨g, cap, cur, rfl, h1, ?_, h3⟩
    rw [← h2]
    refine hg.block g (Blk.lt (t := e) h2) ?_
    intro e2
    rcases hx.2 with ⟨rfl, _⟩ | ⟨g', cap', cur', rfl, _, h4, _⟩
    · cases e2
    · have e3 : g = g' := by simpa [Value.ownBlock] using e2
      subst e3
      exact Blk.neq (t := e) (g := g) (g' := g) h2 h4 hne rfl
theorem own_cut0 {w : World} {B g n cap : Nat} {e : TypeId} {xs : List Value} (h : w.ownsRow B e 1 (.slice (some ⟨g, 0, none⟩) n cap) n xs) : w.ownsRow B e 1 (.slice (some ⟨g, 0, none⟩) 0 cap) 0 [] := by
  refine ⟨rfl, ?_⟩
  rcases h.2 with ⟨h2, _⟩ | ⟨g', cap', cur, h0, h1, h2, h3, h4, h5, h6⟩
  · cases h2
  · injection h0 with h0 h00 h01
    injection h0 with h0
    injection h0 with h0
    subst h0
    subst h01
    exact .inr ⟨g, cap, cur, rfl, h1, h2, Nat.zero_le _, h4, h5, by simp⟩
theorem SpB.put0 {w : World} {p : Nat} {v u : Value} {b : Bool} {q : UInt8} (h : SpB w p v u b q) (x : Value) : SpB (w.setCell ⟨p, 0, none⟩ x) p x u b q := Blk.setAt h 0 x
theorem SpB.put1 {w : World} {p : Nat} {v u : Value} {b : Bool} {q : UInt8} (h : SpB w p v u b q) (x : Bool) : SpB (w.setCell ⟨p, 1, none⟩ (.bool x)) p v u x q := Blk.setAt h 1 (.bool x)
theorem SpB.put2 {w : World} {p : Nat} {v u : Value} {b : Bool} {q : UInt8} (h : SpB w p v u b q) (x : Value) : SpB (w.setCell ⟨p, 2, none⟩ x) p v x b q := Blk.setAt h 2 x
theorem SpB.put3 {w : World} {p : Nat} {v u : Value} {b : Bool} {q : UInt8} (h : SpB w p v u b q) (x : UInt8) : SpB (w.setCell ⟨p, 3, none⟩ (.int .u8 x.toNat)) p v u b x := Blk.setAt h 3 (.int .u8 x.toNat)
theorem SpB.grown {w w' : World} {B p n : Nat} {e : TypeId} {v u x : Value} {b : Bool} {q : UInt8} {xs : List Value} (h : SpB w p v u b q) (hx : w.ownsRow B e 1 x n xs) (hne : e ≠ 140) (hg : w.grownBy w' x.ownBlock) : SpB w' p v u b q :=
  Blk.grownW h hg (fun e2 => own_blk_neW hx h hne e2.symm)
theorem spAt_end {w w0 : World} {B p n : Nat} {v u : Value} {q : UInt8} {ws : List (List UInt8)} {c x0 : List UInt8} (hp : SpB w p v u true q) (hB : B ≤ p) (hv : w.ownsRow B 9 1 v (ws.length + 1) (wcells ws ++ [.string (str c)])) (_ : w.ownsRow B 5 1 u n (Lib.byteCells x0)) (hb : Below B w0 w)
    (x : Value) (hx : w.ownsRow B 5 1 x 0 []) : SpAt ((w.setCell ⟨p, 2, none⟩ x).setCell ⟨p, 1, none⟩ (.bool false)) B p (ws ++ [c], none, q) ∧ Below B w0 ((w.setCell ⟨p, 2, none⟩ x).setCell ⟨p, 1, none⟩ (.bool false)) := by
  have h1 := hp.put2 x
  refine ⟨⟨v, x, h1.put1 false, hB, ?_, own_setCell (own_setCell hx hp (by decide)) h1 (by decide)⟩, (hb.setCell (p := ⟨p, 2, none⟩) hB _).setCell (p := ⟨p, 1, none⟩) hB _⟩
  have e : wcells (ws ++ [c]) = wcells ws ++ [.string (str c)] := wcells_app ws [c]
  rw [e, List.length_append]
  exact own_setCell (own_setCell hv hp (by decide)) h1 (by decide)
set_option maxHeartbeats 4000000 in
theorem endWord_none (B p : Nat) (ws : List (List UInt8)) (q : UInt8) (w : World) (h : SpAt w B p (ws, none, q)) :
    Calls Tryz.prog 109 #[.pointer (some ⟨p, 0, none⟩)] w fun e w' => e = .returned (.tuple #[]) ∧ w = w' := by
  obtain ⟨v, u, hp, _, _, _⟩ := h
  obtain ⟨c0, c1, c2, c3, f0, f1, f2, f3⟩ := hp.cells
  go_enter Tryz.func109, Tryz.ntmps109
  go_wp2_with fail
  go_end0
  exact ⟨rfl, rfl⟩
set_option maxHeartbeats 4000000 in
theorem endWord_some (B p : Nat) (ws : List (List UInt8)) (c : List UInt8) (q : UInt8) (w : World) (h : SpAt w B p (ws, some c, q)) (hB : B ≤ w.heap.size) (hl : ws.length ≤ 100000) :
    Calls Tryz.prog 109 #[.pointer (some ⟨p, 0, none⟩)] w fun e w' => e = .returned (.tuple #[]) ∧ (SpAt w' B p (ws ++ [c], none, q) ∧ Below B w w') := by
  obtain ⟨i0, hi, hz0, hz1, hz2⟩ := info_parts strInfoW
  obtain ⟨v, u, hp, hBp, hv, hu⟩ := h
  obtain ⟨c0, c1, c2, c3, f0, f1, f2, f3⟩ := hp.cells
  have hpl : p < w.heap.size := Blk.lt hp
  have hcv := conv_rowW w.drew B u c hu
  have HP := Lib.hid hp
  have HV := Lib.hid hv
  have HU := Lib.hid hu
  clear hp hv hu
  have hz63 : ws.length + 1 ≤ maxLen := by unfold maxLen; omega
  have hz47 : (ws.length + 1) * 16 ≤ 140737488355328 := by omega
  have hzb : B ≤ (w.alloc (.cells #[.string (str c)] 9)).drew.heap.size := by simp; omega
  have hnw : ∀ (j : Nat) (x : Value), [Value.string (str c)][j]? = some x → (w.alloc (.cells #[.string (str c)] 9)).drew.cell? ((⟨w.heap.size, 0, none⟩ : Addr).add j) = some x := by
    intro j x hj
    match j, hj with
    | 0, hj => simp at hj; subst hj; simp [Addr.add]
  have hone : ∀ x ∈ [Value.string (str c)], x.oneCell' = true := by intro x hx; simp at hx; subst hx; rfl
  have Hnw := Lib.hid hnw
  have Hone := Lib.hid hone
  clear hnw hone
  go_enter Tryz.func109, Tryz.ntmps109
  go_wp2_with fail
  have HPa : Hid (SpB (w.alloc (.cells #[.string (str c)] 9)).drew p v u true q) := Blk.alloc HP.out _
  have HVa : Hid ((w.alloc (.cells #[.string (str c)] 9)).drew.ownsRow B 9 1 v ws.length (wcells ws)) := (HV.out.alloc _).drew
  have HUa : Hid ((w.alloc (.cells #[.string (str c)] 9)).drew.ownsRow B 5 1 u c.length (Lib.byteCells c)) := (HU.out.alloc _).drew
  have HBa : Hid (Below B w (w.alloc (.cells #[.string (str c)] 9)).drew) := below_drewN ((Below.refl B w).alloc hB (.cells #[.string (str c)] 9)) 1
  go_region_law (refine step_append_lies _ (by rfl) _ _ 26 (by rfl) B 9 i0 (.string ⟨#[]⟩) 1 16 Tryz.underlying26 hi hz0 hz1 hz2 rfl (by decide) _ ws.length (wcells ws) (by rfl) HVa.out ⟨w.heap.size, 0, none⟩ 1 1 [.string (str c)] (by rfl) rfl Hnw.out Hone.out (by decide) hz63 hz47 hzb _ rfl ?_; intro g cap w1 hown1 hgrow hat1 hlt1; have HP1 := Lib.hid (SpB.grown HPa.out HVa.out (by decide) hgrow); have HU1 := Lib.hid (own_other HUa.out HVa.out (by decide) hgrow); have HB1 := Lib.hid (HBa.out.grown hgrow hzb (fun k hk => (HVa.out.lt k hk).1)); obtain ⟨d0, d1, d2, d3, e0, e1, e2, e3⟩ := HP1.out.cells; have HO1 := Lib.hid hown1; clear hown1 hgrow hat1)
  all_goals
    have HP2 := Lib.hid (HP1.out.put0 (.slice (some ⟨g, 0, none⟩) (ws.length + 1) cap))
    have HU2 := Lib.hid (own_setCell (i := 0) (u := .slice (some ⟨g, 0, none⟩) (ws.length + 1) cap) HU1.out HP1.out (by decide))
    have HO2 := Lib.hid (own_setCell (i := 0) (u := .slice (some ⟨g, 0, none⟩) (ws.length + 1) cap) HO1.out HP1.out (by decide))
    have HB2 := Lib.hid (HB1.out.setCell (p := ⟨p, 0, none⟩) hBp (.slice (some ⟨g, 0, none⟩) (ws.length + 1) cap))
    clear d0 d1 d2 d3 e0 e1 e2 e3 c0 c1 c2 c3 f0 f1 f2 f3
    generalize w1.setCell ⟨p, 0, none⟩ (.slice (some ⟨g, 0, none⟩) (ws.length + 1) cap) = w2 at *
    obtain ⟨d0, d1, d2, d3, e0, e1, e2, e3⟩ := HP2.out.cells
    rcases HU2.out.2 with ⟨rfl, h0⟩ | ⟨g', cap', cur, rfl, _, _, _, h4, _⟩
    · have HX := Lib.hid (spAt_end HP2.out hBp HO2.out HU2.out HB2.out (.slice none 0 0) (World.ownsRow_nil _ _ _ _))
      go_wp2_with fail
      go_end0
      exact ⟨rfl, HX.out⟩
    · have HX := Lib.hid (spAt_end HP2.out hBp HO2.out HU2.out HB2.out (.slice (some ⟨g', 0, none⟩) 0 cap') (own_cut0 HU2.out))
      go_wp2_with fail
      go_end0
      exact ⟨rfl, HX.out⟩
theorem endWord_any (B p : Nat) (ws : List (List UInt8)) (cur : Option (List UInt8)) (q : UInt8) (w : World) (h : SpAt w B p (ws, cur, q)) (hB : B ≤ w.heap.size) (hl : ws.length ≤ 100000) :
    Calls Tryz.prog 109 #[.pointer (some ⟨p, 0, none⟩)] w fun e w' => e = .returned (.tuple #[]) ∧ (SpAt w' B p (endW ws cur, none, q) ∧ Below B w w') := by
  cases cur with
  | none =>
    refine (endWord_none B p ws q w h).mono ?_
    rintro e w' ⟨rfl, rfl⟩
    exact ⟨rfl, h, Below.refl _ _⟩
  | some c => exact endWord_some B p ws c q w h hB hl
end Go.Proofs.YtadifolonbkamaaGreatDoor.Wd
