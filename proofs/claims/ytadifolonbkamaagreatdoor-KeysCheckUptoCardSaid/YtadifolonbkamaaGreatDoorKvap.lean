/- The walks of Leap and Days, the code's and the document's; of daysBefore and within. Words for a block of seven cells: s -/
import Derived.Test.YtadifolonbkamaaGreatDoorProg
import Derived.Test.YtadifolonbkamaaGreatDoorKvan
import Derived.Test.YtadifolonbkamaaGreatDoorKvaa
import Derived.WalkKit
import Derived.BigGuardPart
import Derived.BigQuiet
import Derived.Handy
import Derived.Below
import Derived.Outline
import Derived.Deep.QuietTactic
import Derived.Deep.Draws
import Derived.Lib.Hide
import Derived.Laws.StructEq
import Derived.Great.BuildSlice
import Derived.Lib.SmallJoins
import Derived.Test.YtadifolonbkamaaGreatDoorKvao
import Derived.Deep.RegionHeld3
import Derived.Test.YtadifolonbkamaaGreatDoorKvab
import Derived.Test.YtadifolonbkamaaGreatDoorKvad
namespace Go.Proofs.YtadifolonbkamaaGreatDoor.Ca
open Go.RowKit
end Go.Proofs.YtadifolonbkamaaGreatDoor.Ca
namespace Go.Proofs.YtadifolonbkamaaGreatDoor.Ca
open Go.RowKit Go.Joins Go.ChangeShapes Go.WideShapes Go.Deep
def Blk (w : World) (g : Nat) (t : TypeId) (cs : Array Value) : Prop := w.heap[g]? = some (.cells cs t (0, 0))
section
variable {w w' : World} {g : Nat} {t : TypeId} {cs : Array Value}
theorem Blk.lt (h : Blk w g t cs) : g < w.heap.size := by
  rcases Nat.lt_or_ge g w.heap.size with hlt | hge
  · exact hlt
  · unfold Blk at h; rw [Array.getElem?_eq_none hge] at h; cases h
theorem Blk.cell (h : Blk w g t cs) (i : Nat) : w.cell? ⟨g, i, none⟩ = cs[i]? := cell_of_row w g i cs t (0, 0) h
theorem Blk.frozen (h : Blk w g t cs) (i : Nat) : w.frozen? ⟨g, i, none⟩ = false := by
  unfold Blk at h
  simp [World.frozen?, h]
theorem Blk.new (w : World) (t : TypeId) (cs : Array Value) : Blk (w.alloc (.cells cs t)) w.heap.size t cs := heap_alloc_new w _
theorem Blk.drewN (h : Blk w g t cs) (n : Nat) : Blk (w.drewN n) g t cs := h
theorem Blk.alloc (h : Blk w g t cs) (o : Obj) : Blk (w.alloc o) g t cs := (Below.heap_alloc w o g h.lt).trans h
theorem Blk.below {B : Nat} (h : Blk w g t cs) (hb : Below B w w') (hg : g < B) : Blk w' g t cs := (hb.block g hg).trans h
theorem Blk.row (h : Blk w g t cs) (cs' : Array Value) : Blk (w.setRow g cs') g t cs' := setRow_heap w g cs cs' t (0, 0) h
end
theorem below_setRow {B : Nat} {a w : World} (h : Below B a w) {g : Nat} (hg : B ≤ g) (cs : Array Value) : Below B a (w.setRow g cs) :=
  ⟨h.os, h.tape, h.output, by simpa using h.size, fun i hi => by
    have : (w.setRow g cs).heap[i]? = w.heap[i]? := by
      unfold World.setRow
      simp only [Array.getElem?_modify]
      rw [if_neg (by omega)]
    rw [this]; exact h.block i hi⟩
theorem more3 {B : Nat} {a b c : World} (h : Below B a b) (hB : B ≤ b.heap.size) (h2 : Below b.heap.size b c) : Below B a c := h.trans (h2.mono hB)
theorem results_cell_tmp {P : Program} {fn : Func} {p q : Tmp} {ty : TypeId} (h : fn.results = #[.cell p ty, .tmp q]) (tmps : Array Value) (w : World) (g : Nat) (t : TypeId) (cs : Array Value) (d : TypeDesc) (v : Value)
    (hp : tmps.getD p undef = .pointer (some ⟨g, 0, none⟩)) (hv : tmps.getD q undef = v) (hg : w.heap[g]? = some (.cells cs t (0, 0)))
    (hu : P.underlying ty = some d) (hd : (match d with | .struct _ | .array _ _ => true | _ => false) = true) (hi : (P.info? ty).map (·.size) = some cs.size) :
    (results fn tmps).run P w = .ok (.tuple #[.agg cs, v]) w := by
  have hp' : tmps[p]?.getD undef = .pointer (some ⟨g, 0, none⟩) := by simpa using hp
  have hv' : tmps[q]?.getD undef = v := by simpa using hv
  simp [results, h, hp', hv', asAddr, run_loadVar_row w g t ty cs (0, 0) d hg hu hd hi]
section
variable {H : Type} {enc : TypeId × Value → H} {P : Program} {w : World} {base : Nat} {spare : Nat → Bool} {held : Bool}
end
end Go.Proofs.YtadifolonbkamaaGreatDoor.Ca
namespace Go.Proofs.YtadifolonbkamaaGreatDoor.Ca
open Go.RowKit
theorem block_of_add (a : Addr) (n : Nat) : (a.add n).block = a.block := by unfold Addr.add; split <;> rfl
theorem add_of_add (a : Addr) (i j : Nat) : (a.add i).add j = a.add (i + j) := by
  unfold Addr.add
  by_cases hi : i = 0 <;> by_cases hj : j = 0 <;> simp [hi, hj, Nat.add_assoc]
def Reads (w : World) (B size : Nat) (A : Option Addr) (n : Nat) (xs : List Value) : Prop :=
  xs.length = n * size ∧ (0 < n → ∃ ad, A = some ad ∧ ad.block < B ∧ ∀ j u, xs[j]? = some u → w.cell? (ad.add j) = some u)
section
variable {w w' : World} {B B' size n : Nat} {A : Option Addr} {xs : List Value}
theorem Reads.none_ : Reads w B size A 0 [] := ⟨by simp, fun h => absurd h (by omega)⟩
theorem Reads.at_ {k : Nat} (h : Reads w B 1 A n xs) (hk : k < n) : ∃ ad u, A = some ad ∧ ad.block < B ∧ xs[k]? = some u ∧ w.cell? (ad.add k) = some u := by
  obtain ⟨ad, e, hb, hc⟩ := h.2 (by omega)
  have hl : k < xs.length := by have := h.1; omega
  exact ⟨ad, xs[k], e, hb, List.getElem?_eq_getElem hl, hc k _ (List.getElem?_eq_getElem hl)⟩
theorem Reads.keep (h : Reads w B size A n xs) (hk : ∀ p : Addr, p.block < B → w'.cell? p = w.cell? p) : Reads w' B size A n xs :=
  ⟨h.1, fun hn => by
    obtain ⟨ad, e, hb, hc⟩ := h.2 hn
    exact ⟨ad, e, hb, fun j u hu => (hk _ (by rw [block_of_add]; exact hb)).trans (hc j u hu)⟩⟩
theorem Reads.wide (h : Reads w B size A n xs) (hB : B ≤ B') : Reads w B' size A n xs :=
  ⟨h.1, fun hn => by
    obtain ⟨ad, e, hb, hc⟩ := h.2 hn
    exact ⟨ad, e, by omega, hc⟩⟩
theorem Reads.below (h : Reads w B size A n xs) (hb : Below B w w') : Reads w' B size A n xs := h.keep fun _ hp => hb.cell hp
theorem Reads.drewN (h : Reads w B size A n xs) (k : Nat) : Reads (w.drewN k) B size A n xs := h
theorem Reads.alloc (h : Reads w B size A n xs) (hB : B ≤ w.heap.size) (o : Obj) : Reads (w.alloc o) B size A n xs := h.keep fun p hp => World.cell?_alloc_lt w o p (by omega)
end
structure Sl where
  A : Option Addr
  n : Nat
  c : Nat
def Sl.val (s : Sl) : Value := .slice s.A s.n s.c
def ints (l : List Int) : List Value := l.map (Value.int .i64)
def ptCells (p : Pt) : List Value := [.int .i64 p.a, .int .i64 p.b, .int .i64 p.s]
def pts (l : List Pt) : List Value := l.flatMap ptCells
def IntsAt (w : World) (B : Nat) (A : Option Addr) (n : Nat) (l : List Int) : Prop := l.length = n ∧ n ≤ maxLen ∧ Reads w B 1 A n (ints l)
def PtsAt (w : World) (B : Nat) (A : Option Addr) (n : Nat) (l : List Pt) : Prop := l.length = n ∧ n ≤ maxLen ∧ Reads w B 3 A n (pts l)
section
variable {w w' : World} {B B' n : Nat} {A : Option Addr}
theorem IntsAt.below {l : List Int} (h : IntsAt w B A n l) (hb : Below B w w') : IntsAt w' B A n l := ⟨h.1, h.2.1, h.2.2.below hb⟩
theorem PtsAt.below {l : List Pt} (h : PtsAt w B A n l) (hb : Below B w w') : PtsAt w' B A n l := ⟨h.1, h.2.1, h.2.2.below hb⟩
theorem IntsAt.wide {l : List Int} (h : IntsAt w B A n l) (hB : B ≤ B') : IntsAt w B' A n l := ⟨h.1, h.2.1, h.2.2.wide hB⟩
theorem PtsAt.wide {l : List Pt} (h : PtsAt w B A n l) (hB : B ≤ B') : PtsAt w B' A n l := ⟨h.1, h.2.1, h.2.2.wide hB⟩
theorem IntsAt.at_ {l : List Int} (h : IntsAt w B A n l) {k : Nat} (hk : k < n) : ∃ ad, A = some ad ∧ ad.block < B ∧ w.cell? (ad.add k) = some (.int .i64 (l.getD k 0)) := by
  obtain ⟨h1, _, h3⟩ := h
  obtain ⟨ad, u, e, hb, hx, hc⟩ := h3.at_ hk
  refine ⟨ad, e, hb, ?_⟩
  rw [hc]
  have hl : k < l.length := by omega
  have : (ints l)[k]? = some (.int .i64 (l.getD k 0)) := by
    unfold ints
    rw [List.getElem?_map, List.getElem?_eq_getElem hl]
    simp [List.getD, List.getElem?_eq_getElem hl]
  rw [this] at hx
  exact hx.symm
theorem pts_at (l : List Pt) (k : Nat) (hk : k < l.length) (j : Nat) (hj : j < 3) : (pts l)[k * 3 + j]? = (ptCells l[k])[j]? := by
  induction l generalizing k with
  | nil => simp at hk
  | cons p l ih =>
    unfold pts
    rw [List.flatMap_cons]
    have h3 : (ptCells p).length = 3 := rfl
    cases k with
    | zero => rw [List.getElem?_append_left (by rw [h3]; omega)]; simp
    | succ k =>
      rw [List.getElem?_append_right (by rw [h3]; omega), h3, show (k + 1) * 3 + j - 3 = k * 3 + j by omega]
      exact ih k (by simpa using hk)
theorem PtsAt.at_ {l : List Pt} (h : PtsAt w B A n l) {k : Nat} (hk : k < n) : ∃ ad p, A = some ad ∧ ad.block < B ∧ l[k]? = some p ∧ w.cell? (ad.add (k * 3)) = some (.int .i64 p.a) ∧ w.cell? ⟨(ad.add (k * 3)).block, (ad.add (k * 3)).off + 1, none⟩ = some (.int .i64 p.b) ∧ w.cell? ⟨(ad.add (k * 3)).block, (ad.add (k * 3)).off + 2, none⟩ = some (.int .i64 p.s) := by
  obtain ⟨h1, _, h3⟩ := h
  obtain ⟨ad, e, hb, hc⟩ := h3.2 (by omega)
  have hl : k < l.length := by omega
  refine ⟨ad, l[k], e, hb, List.getElem?_eq_getElem hl, ?_, ?_, ?_⟩
  · have := hc (k * 3 + 0) (.int .i64 l[k].a) (by rw [pts_at l k hl 0 (by omega)]; rfl)
    simpa using this
  · have := hc (k * 3 + 1) (.int .i64 l[k].b) (by rw [pts_at l k hl 1 (by omega)]; rfl)
    rw [← add_of_add] at this
    exact this
  · have := hc (k * 3 + 2) (.int .i64 l[k].s) (by rw [pts_at l k hl 2 (by omega)]; rfl)
    rw [← add_of_add] at this
    exact this
end
structure Ch where
  d : Sl
  y : Sl
  m : Sl
  t : Sl
  h : Sl
  i : Sl
  s : Sl
def Ch.cells (c : Ch) : Array Value := #[.slice c.d.A c.d.n c.d.c, .slice c.y.A c.y.n c.y.c, .slice c.m.A c.m.n c.m.c, .slice c.t.A c.t.n c.t.c, .slice c.h.A c.h.n c.h.c, .slice c.i.A c.i.n c.i.c, .slice c.s.A c.s.n c.s.c]
def Ch.fsl (c : Ch) : Nat → Sl
  | 0 => c.y
  | 1 => c.m
  | 2 => c.t
  | 3 => c.h
  | 4 => c.i
  | _ => c.s
def CalAt (w : World) (B : Nat) (c : Ch) (l : Cl) : Prop :=
  IntsAt w B c.d.A c.d.n l.ds ∧ ∀ f, PtsAt w B (c.fsl f).A (c.fsl f).n (l.fld f)
theorem CalAt.below {w w' : World} {B : Nat} {c : Ch} {l : Cl} (h : CalAt w B c l) (hb : Below B w w') : CalAt w' B c l := ⟨h.1.below hb, fun f => (h.2 f).below hb⟩
theorem f_cases {f : Nat} (h : f ≤ 5) : f = 0 ∨ f = 1 ∨ f = 2 ∨ f = 3 ∨ f = 4 ∨ f = 5 := by omega
set_option maxHeartbeats 1000000 in
theorem least_any (f : Nat) (hf : f ≤ 5) (w : World) :
    Calls Tryz.prog 116 #[.int .i64 f] w fun e w' => e = .returned (.int .i64 (lo f)) ∧ Below w.heap.size w w' := by
  rcases f_cases hf with rfl | rfl | rfl | rfl | rfl | rfl
  all_goals
    go_enter Tryz.func116, Tryz.ntmps116
    go_wp2_with fail
    go_ret
    exact ⟨rfl, (Below.refl _ _).alloc (Nat.le_refl _) _⟩
set_option maxHeartbeats 1000000 in
theorem most_any (f : Nat) (hf : f ≤ 5) (w : World) :
    Calls Tryz.prog 117 #[.int .i64 f] w fun e w' => e = .returned (.int .i64 (hi f)) ∧ Below w.heap.size w w' := by
  rcases f_cases hf with rfl | rfl | rfl | rfl | rfl | rfl
  all_goals
    go_enter Tryz.func117, Tryz.ntmps117
    go_wp2_with fail
    go_ret
    exact ⟨rfl, (Below.refl _ _).alloc (Nat.le_refl _) _⟩
set_option maxHeartbeats 2000000 in
theorem field_any (c : Ch) (f : Nat) (hf : f ≤ 5) (w : World) :
    Calls Tryz.prog 89 #[.agg c.cells, .int .i64 f] w fun e w' => e = .returned (.slice (c.fsl f).A (c.fsl f).n (c.fsl f).c) ∧ Below w.heap.size w w' := by
  unfold Ch.cells
  rcases f_cases hf with rfl | rfl | rfl | rfl | rfl | rfl
  all_goals
    go_enter Tryz.func89, Tryz.ntmps89
    go_wp2_with fail
    go_ret
    exact ⟨rfl, ((Below.refl _ _).alloc (Nat.le_refl _) _).alloc (by simp) _⟩
end Go.Proofs.YtadifolonbkamaaGreatDoor.Ca
namespace Go.Proofs.YtadifolonbkamaaGreatDoor.Ca
open Go.RowKit
def spAt (s : ByteArray) (b : UInt8) (i fr : Nat) (done : List (List UInt8)) : Prop :=
  fr ≤ i ∧ splitL b s.data.toList = done ++ sgo b (s.extract fr i).data.toList (s.data.toList.drop i)
theorem ext_nil (s : ByteArray) (i : Nat) : (s.extract i i).data.toList = [] := by rw [Lib.extract_data]; simp
theorem ext_snoc (s : ByteArray) (fr i : Nat) (hf : fr ≤ i) (hi : i < s.size) : (s.extract fr (i + 1)).data.toList = (s.extract fr i).data.toList ++ [s[i]] := by
  rw [Lib.extract_data, Lib.extract_data, show i + 1 - fr = (i - fr) + 1 by omega, List.take_add_one]
  congr 1
  rw [List.getElem?_drop, show fr + (i - fr) = i by omega]
  have : s.data.toList[i]? = some s[i] := by rw [List.getElem?_eq_getElem (by simpa using hi)]; rfl
  rw [this]; rfl
theorem spAt_zero (s : ByteArray) (b : UInt8) : spAt s b 0 0 [] := by
  refine ⟨Nat.le_refl _, ?_⟩
  rw [ext_nil, List.drop_zero]; rfl
theorem spAt_in {s : ByteArray} {b : UInt8} {i fr : Nat} {done : List (List UInt8)} (h : spAt s b i fr done) (hi : i < s.size) (hc : s[i] ≠ b) : spAt s b (i + 1) fr done := by
  obtain ⟨h1, h2⟩ := h
  refine ⟨by omega, ?_⟩
  rw [h2, drop_at s i hi, sgo, if_neg hc, ext_snoc s fr i h1 hi]
theorem spAt_cut {s : ByteArray} {b : UInt8} {i fr : Nat} {done : List (List UInt8)} (h : spAt s b i fr done) (hi : i < s.size) (hc : s[i] = b) : spAt s b (i + 1) (i + 1) (done ++ [(s.extract fr i).data.toList]) := by
  obtain ⟨h1, h2⟩ := h
  refine ⟨Nat.le_refl _, ?_⟩
  rw [h2, drop_at s i hi, sgo, if_pos hc, ext_nil, List.append_assoc]
  rfl
theorem spAt_end {s : ByteArray} {b : UInt8} {fr : Nat} {done : List (List UInt8)} (h : spAt s b s.size fr done) : splitL b s.data.toList = done ++ [(s.extract fr s.size).data.toList] := by
  rw [h.2, List.drop_of_length_le (by simp), sgo]
theorem one_piece (s : ByteArray) (a b : Nat) : wcells [(s.extract a b).data.toList] = [Value.string (s.extract a b)] := by
  unfold wcells; rw [List.map_cons, List.map_nil, str_data]
def SplitPost (s : ByteArray) (b : UInt8) (w : World) (e : Ending) (w' : World) : Prop :=
  ∃ v, e = .returned v ∧ w'.ownsRow w.heap.size 9 1 v (splitL b s.data.toList).length (wcells (splitL b s.data.toList)) ∧ Below w.heap.size w w'
set_option maxHeartbeats 4000000 in
theorem Split_any (s : ByteArray) (b : UInt8) (hs : s.size ≤ 4194304) (w : World) :
    Calls Tryz.prog 59 #[.string s, .int .u8 b.toNat] w (SplitPost s b w) := by
  obtain ⟨i0, hi, hz0, hz1, hz2⟩ := info_parts strInfo
  have hat0 := Lib.hid (spAt_zero s b)
  have hb := b.toNat_lt
  go_enter Tryz.func59, Tryz.ntmps59
  go_wp2_with fail
  go_loopw [5, 6, 7] (fun v x i wr => ∃ (k fr : Nat) (done : List (List UInt8)), k ≤ s.size ∧ fr ≤ k ∧ done.length ≤ k ∧ i = .int .i64 k ∧ x = .int .i64 fr ∧ Hid (spAt s b k fr done) ∧ Hid (wr.ownsRow w.heap.size 9 1 v done.length (wcells done)) ∧ Hid (Below w.heap.size w wr)) (fun v x i wr => s.size - (intOf i).toNat)
  case atStart => exact ⟨0, 0, [], Nat.zero_le _, Nat.le_refl _, Nat.le_refl _, rfl, rfl, hat0, World.ownsRow_nil _ _ _ _, Below.refl _ _⟩
  case round =>
    obtain ⟨k, fr, done, hk, hfk, hdl, rfl, rfl, hat, hB, hbw⟩ := hrel
    have hbs : w.heap.size ≤ wr.heap.size := hbw.out.size
    obtain ⟨wo, rfl⟩ : ∃ wo : World, wo = wr := ⟨_, rfl⟩
    have f0 : (0 : Int) ≤ (fr : Int) := by omega
    have f1 : (fr : Int) ≤ (k : Int) := by omega
    by_cases hlt : k < s.size
    · have b0 : (0 : Int) ≤ (k : Int) := by omega
      have b1 : (k : Int) < (s.size : Int) := by omega
      have b2 : (k : Int) ≤ (s.size : Int) := by omega
      by_cases hc : s[k] = b
      · have hat1 := Lib.hid (spAt_cut hat.out hlt hc)
        have hcb : ((s[k].toNat : Int) == (b.toNat : Int)) = true := by rw [hc]; simp
        have hone := Lib.hid (one_piece s fr k)
        clear hc
        go_wp2_with (at_builtin; refine wpList_append_own _ rfl _ _ 26 rfl w.heap.size 9 i0 (.string ⟨#[]⟩) 1 16 Tryz.underlying26 hi hz0 hz1 hz2 rfl (by decide) _ _ _ rfl (hB.out.alloc _) ⟨wo.heap.size, 0, none⟩ 1 1 [.string (s.extract fr k)] rfl rfl ?c1 ?c2 ?c3 ?c4 ?c5 ?_)
        case c1 =>
          intro j u hj
          match j, hj with
          | 0, hj =>
            simp at hj
            subst hj
            simp [Addr.add]
        case c2 => intro u hu; simp at hu; subst hu; rfl
        case c3 => unfold maxLen; omega
        case c4 => omega
        case c5 => simp; omega
        intro v' w2 hown' hgrow _
        have HB1 : Hid (w2.ownsRow w.heap.size 9 1 v' (done ++ [(s.extract fr k).data.toList]).length (wcells (done ++ [(s.extract fr k).data.toList]))) := by rw [wcells_app, List.length_append, hone.out]; exact hown'
        have Hb1 : Hid (Below w.heap.size w w2) := (hbw.out.alloc hbs _).grown hgrow (by simp; omega) (fun g hg => (hB.out.lt g hg).1)
        clear hown' hgrow
        go_wp2_with fail
        go_roundw
        case rel => exact ⟨k + 1, k + 1, _, by omega, Nat.le_refl _, by simp; omega, by go_num, by go_num, hat1, HB1, Hb1⟩
        case measure => simp [intOf]; omega
      · have hat1 := Lib.hid (spAt_in hat.out hlt hc)
        have hcb : ((s[k].toNat : Int) == (b.toNat : Int)) = false := by
          simp only [beq_eq_false_iff_ne]
          intro e
          exact hc (UInt8.toNat_inj.1 (by omega))
        clear hc
        go_wp2_with fail
        go_roundw
        case rel => exact ⟨k + 1, fr, done, by omega, by omega, by omega, by go_num, rfl, hat1, hB, hbw⟩
        case measure => simp [intOf]; omega
    · obtain rfl : k = s.size := by omega
      have HE := Lib.hid (spAt_end hat.out)
      have hone := Lib.hid (one_piece s fr s.size)
      clear hlt
      go_wp2_with (at_builtin; refine wpList_append_own _ rfl _ _ 26 rfl w.heap.size 9 i0 (.string ⟨#[]⟩) 1 16 Tryz.underlying26 hi hz0 hz1 hz2 rfl (by decide) _ _ _ rfl (hB.out.alloc _) ⟨wo.heap.size, 0, none⟩ 1 1 [.string (s.extract fr s.size)] rfl rfl ?d1 ?d2 ?d3 ?d4 ?d5 ?_)
      case d1 =>
        intro j u hj
        match j, hj with
        | 0, hj =>
          simp at hj
          subst hj
          simp [Addr.add]
      case d2 => intro u hu; simp at hu; subst hu; rfl
      case d3 => unfold maxLen; omega
      case d4 => omega
      case d5 => simp; omega
      intro v' w2 hown' hgrow _
      have HB1 : Hid (w2.ownsRow w.heap.size 9 1 v' (splitL b s.data.toList).length (wcells (splitL b s.data.toList))) := by rw [HE.out, wcells_app, List.length_append, hone.out]; exact hown'
      have Hb1 : Hid (Below w.heap.size w w2) := (hbw.out.alloc hbs _).grown hgrow (by simp; omega) (fun g hg => (hB.out.lt g hg).1)
      clear hown' hgrow
      go_wp2_with fail
      go_ret
      exact ⟨v', rfl, HB1.out, Hb1.out⟩
end Go.Proofs.YtadifolonbkamaaGreatDoor.Ca
namespace Go.Proofs.YtadifolonbkamaaGreatDoor.Ca
open Go.RowKit
def RowAt (w : World) (B : Nat) (A : Option Addr) (n : Nat) (l : List (List UInt8)) : Prop :=
  l.length = n ∧ n ≤ maxLen ∧ (0 < n → ∃ ad, A = some ad ∧ ad.block < B ∧ ∀ j x, l[j]? = some x → w.cell? (ad.add j) = some (.string (str x)))
theorem RowAt.none_ {w : World} {B : Nat} {A : Option Addr} : RowAt w B A 0 [] := ⟨rfl, Nat.zero_le _, fun h => by omega⟩
theorem rowAt_of_own {w : World} {base n nv cv : Nat} {A : Option Addr} {l : List (List UInt8)} (h : w.ownsRow base 9 1 (.slice A nv cv) n (wcells l)) (hn : n ≤ maxLen) : nv = n ∧ n ≤ cv ∧ RowAt w w.heap.size A n l := by
  have hl : l.length = n := by have := h.1; rw [wcells_length] at this; omega
  rcases h.2 with ⟨h1, h2⟩ | ⟨g, cap, cur, h1, h2, h3, h4, h5, h6, h7⟩
  · injection h1 with h1 h11 h12
    subst h2
    exact ⟨h11, Nat.zero_le _, hl, Nat.zero_le _, fun h => by omega⟩
  · injection h1 with h1 h11 h12
    subst h1 h11 h12
    refine ⟨rfl, h4, hl, hn, fun _ => ⟨_, rfl, (Array.getElem?_eq_some_iff.1 h3).1, fun j x hj => ?_⟩⟩
    refine h.cells (g := g) rfl j _ ?_
    unfold wcells
    rw [List.getElem?_map, hj]
    rfl
theorem block_addR (a : Addr) (n : Nat) : (a.add n).block = a.block := by unfold Addr.add; split <;> rfl
theorem RowAt.below {w w' : World} {B n : Nat} {A : Option Addr} {l : List (List UInt8)} (h : RowAt w B A n l) (hb : Below B w w') : RowAt w' B A n l :=
  ⟨h.1, h.2.1, fun hn => by
    obtain ⟨ad, e, hB, hc⟩ := h.2.2 hn
    exact ⟨ad, e, hB, fun j x hj => (hb.cell (by rw [block_addR]; exact hB)).trans (hc j x hj)⟩⟩
theorem RowAt.wide {w : World} {B B' n : Nat} {A : Option Addr} {l : List (List UInt8)} (h : RowAt w B A n l) (hB : B ≤ B') : RowAt w B' A n l :=
  ⟨h.1, h.2.1, fun hn => by
    obtain ⟨ad, e, h2, hc⟩ := h.2.2 hn
    exact ⟨ad, e, by omega, hc⟩⟩
theorem RowAt.at_ {w : World} {B n : Nat} {A : Option Addr} {l : List (List UInt8)} (h : RowAt w B A n l) {k : Nat} (hk : k < n) : ∃ ad x, A = some ad ∧ ad.block < B ∧ l[k]? = some x ∧ w.cell? (ad.add k) = some (.string (str x)) := by
  obtain ⟨ad, e, hB, hc⟩ := h.2.2 (by omega)
  have hl : k < l.length := by have := h.1; omega
  exact ⟨ad, l[k], e, hB, List.getElem?_eq_getElem hl, hc k _ (List.getElem?_eq_getElem hl)⟩
theorem RowAt.drewN {w : World} {B n : Nat} {A : Option Addr} {l : List (List UInt8)} (h : RowAt w B A n l) (j : Nat) : RowAt (w.drewN j) B A n l := h
end Go.Proofs.YtadifolonbkamaaGreatDoor.Ca
namespace Go.Proofs.YtadifolonbkamaaGreatDoor.Ca
open Go.RowKit
set_option maxHeartbeats 2000000 in
theorem number_any (s : ByteArray) (hs : s.size ≤ 4194304) (w : World) :
    Calls Tryz.prog 114 #[.string s] w fun e w' => e = .returned (.int .i64 (numI s.data.toList)) ∧ w = w' := by
  have hlen := size_list s
  by_cases h1 : s.size < 1
  · have HN := Lib.hid (numI_long (l := s.data.toList) (.inl (by omega)))
    have h1' : (s.size : Int) < 1 := by omega
    clear hlen h1
    go_enter Tryz.func114, Tryz.ntmps114
    go_wp2_with fail
    go_ret
    exact ⟨ret_int (by rw [HN.out]), rfl⟩
  by_cases h4 : 4 < s.size
  · have HN := Lib.hid (numI_long (l := s.data.toList) (.inr (by omega)))
    have h1' : (1 : Int) ≤ (s.size : Int) := by omega
    have h4' : (4 : Int) < (s.size : Int) := by omega
    have u1 : (0 : Nat) ≤ 1 := Nat.zero_le _
    clear hlen h1 h4
    go_enter Tryz.func114, Tryz.ntmps114
    go_wp2_with fail
    go_ret
    exact ⟨ret_int (by rw [HN.out]), rfl⟩
  have h1' : (1 : Int) ≤ (s.size : Int) := by omega
  have h4' : (s.size : Int) ≤ 4 := by omega
  have u1 : (0 : Nat) ≤ 1 := Nat.zero_le _
  have u2 : (0 : Nat) ≤ 2 := Nat.zero_le _
  have HL := Lib.hid hlen
  clear hlen h1 h4
  go_enter Tryz.func114, Tryz.ntmps114
  go_wp2_with fail
  go_loop [3, 4] (fun n i => ∃ (k v : Nat), k ≤ s.size ∧ v < 10 ^ k ∧ i = .int .i64 k ∧ n = .int .i64 v ∧ Hid (v = valL (s.data.toList.take k)) ∧ Hid (∀ c ∈ s.data.toList.take k, isDig c = true)) (fun _ i => s.size - (intOf i).toNat)
  case atStart => exact ⟨0, 0, Nat.zero_le _, by omega, rfl, rfl, by simp [Hid, valL], by intro c hc; simp at hc⟩
  case round =>
    obtain ⟨k, v, hk, hv, rfl, rfl, hval, hdig⟩ := hrel
    have hv4 : v < 10000 := Nat.lt_of_lt_of_le hv (Nat.le_trans (Nat.pow_le_pow_right (by omega) (show k ≤ 4 by omega)) (by decide))
    have HV := Lib.hid hv
    clear hv
    by_cases hlt : k < s.size
    · have b0 : (0 : Int) ≤ (k : Int) := by omega
      have b1 : (k : Int) < (s.size : Int) := by omega
      have hr := s[k].toNat_lt
      have HT := Lib.hid (take_at s k hlt)
      rcases hg : isDig s[k] with _ | _
      · have HN := Lib.hid (numI_bad (l := s.data.toList) (k := k) (by rw [HL.out]; exact hlt) (by exact hg))
        have HG := Lib.hid hg
        clear hg
        go_wp2_with fail
        refine (Digit_any s[k] _).mono ?_
        rintro e w1 ⟨rfl, rfl⟩
        rw [HG.out]
        go_wp2_with fail
        go_ret
        exact ⟨ret_int (by rw [HN.out]), rfl⟩
      · have hd : 48 ≤ s[k].toNat ∧ s[k].toNat ≤ 57 := by simpa [isDig, Bool.and_eq_true] using hg
        obtain ⟨d0, d1⟩ := hd
        have d0' : (48 : Int) ≤ (s[k].toNat : Int) := by omega
        have d1' : (s[k].toNat : Int) ≤ 57 := by omega
        have HG := Lib.hid hg
        have HV1 : Hid (v * 10 + (s[k].toNat - 48) < 10 ^ (k + 1)) := by
          have := HV.out
          show _ < _
          rw [Nat.pow_succ]; omega
        have HW : Hid (v * 10 + (s[k].toNat - 48) = valL (s.data.toList.take (k + 1))) := by
          show _ = _
          rw [HT.out, val_snoc, ← hval.out]; omega
        have HD1 : Hid (∀ c ∈ s.data.toList.take (k + 1), isDig c = true) := by
          intro c hc
          rw [HT.out] at hc
          rcases List.mem_append.1 hc with hc | hc
          · exact hdig.out c hc
          · rw [List.mem_singleton.1 hc]; exact HG.out
        clear hg d0 d1
        go_wp2_with fail
        refine (Digit_any s[k] _).mono ?_
        rintro e w1 ⟨rfl, rfl⟩
        rw [HG.out]
        go_wp2_with fail
        go_round
        case rel => exact ⟨k + 1, v * 10 + (s[k].toNat - 48), by omega, HV1.out, by go_num, by congr 1; omega, HW, HD1⟩
        case measure => simp [intOf]; omega
    · obtain rfl : k = s.size := by omega
      have HN : Hid (numI s.data.toList = v) := by
        have a := hval.out
        have b := hdig.out
        rw [List.take_of_length_le (by rw [HL.out]; exact Nat.le_refl _)] at a b
        show _ = _
        rw [numI_ok (by rw [HL.out]; omega) (by rw [HL.out]; omega) b, a]
      clear hlt
      go_wp2_with fail
      go_ret
      exact ⟨ret_int (by rw [HN.out]), rfl⟩
theorem cutAt_next {s : ByteArray} {k : Nat} (h : cutAt s.data.toList k) (hk : k + 1 < s.size) (hn : ¬ (s[k] = 46 ∧ s[k + 1] = 46)) : cutAt s.data.toList (k + 1) := by
  unfold cutAt at *
  rw [h, drop_at s k (by omega), cutDots, if_neg (by
    rw [drop_at s (k + 1) hk]
    rintro ⟨a, b⟩
    exact hn ⟨a, by simpa using b⟩), take_at s k (by omega)]
  cases cutDots (s.data.toList.drop (k + 1)) <;> simp
theorem cutAt_yes {s : ByteArray} {k : Nat} (h : cutAt s.data.toList k) (hk : k + 1 < s.size) (h0 : s[k] = 46) (h1 : s[k + 1] = 46) : ptsI s.data.toList = k := by
  unfold cutAt at h
  unfold ptsI
  rw [h, drop_at s k (by omega), drop_at s (k + 1) hk, cutDots, if_pos ⟨h0, by rw [h1]; rfl⟩]
  simp only [Option.map_some, List.append_nil]
  rw [List.length_take, size_list]
  omega
theorem cutAt_no {s : ByteArray} {k : Nat} (h : cutAt s.data.toList k) (hk : s.size ≤ k + 1) : ptsI s.data.toList = -1 := by
  unfold cutAt at h
  unfold ptsI
  have e : cutDots (s.data.toList.drop k) = none := by
    by_cases hk2 : k < s.size
    · rw [drop_at s k hk2, List.drop_of_length_le (by rw [size_list]; omega)]
      simp [cutDots]
    · rw [List.drop_of_length_le (by rw [size_list]; omega)]; rfl
  rw [h, e]; rfl
theorem two_slice (s : ByteArray) (k : Nat) (h : k + 1 < s.size) : (s.extract k (k + 2)).toList = [s[k], s[k + 1]] := by
  rw [Lib.toList_data, Lib.extract_data, show k + 2 - k = 2 by omega, drop_at s k (by omega), drop_at s (k + 1) h]
  rfl
set_option maxHeartbeats 2000000 in
theorem points_any (s : ByteArray) (hs : s.size ≤ 4194304) (w : World) :
    Calls Tryz.prog 115 #[.string s] w fun e w' => e = .returned (.int .i64 (ptsI s.data.toList)) ∧ w = w' := by
  go_enter Tryz.func115, Tryz.ntmps115
  go_wp2_with fail
  go_loop [3] (fun i => ∃ k : Nat, k ≤ s.size ∧ i = .int .i64 k ∧ Hid (cutAt s.data.toList k)) (fun i => s.size - (intOf i).toNat)
  case atStart => exact ⟨0, Nat.zero_le _, rfl, cutAt_zero _⟩
  case round =>
    obtain ⟨k, hk, rfl, hc⟩ := hrel
    by_cases hlt : k + 1 < s.size
    · have b0 : (0 : Int) ≤ (k : Int) := by omega
      have b1 : (k : Int) + 1 < (s.size : Int) := by omega
      have b2 : (k : Int) ≤ (k : Int) + 2 := by omega
      have b3 : (k : Int) + 2 ≤ (s.size : Int) := by omega
      have hsl := two_slice s k hlt
      by_cases hd : s[k] = 46 ∧ s[k + 1] = 46
      · have HN := Lib.hid (cutAt_yes hc.out hlt hd.1 hd.2)
        have e : ((s.extract k (k + 2)).toList == [46, 46]) = true := by rw [hsl, hd.1, hd.2]; rfl
        clear hsl hd
        go_wp2_with fail
        go_ret
        exact ⟨ret_int (by rw [HN.out]), rfl⟩
      · have HN := Lib.hid (cutAt_next hc.out hlt hd)
        have e : ((s.extract k (k + 2)).toList == [46, 46]) = false := by
          rw [hsl]
          simp only [beq_eq_false_iff_ne]
          intro e
          injection e with e0 e1
          injection e1 with e1 _
          exact hd ⟨e0, e1⟩
        clear hsl hd
        go_wp2_with fail
        go_round
        case rel => exact ⟨k + 1, by omega, by go_num, HN⟩
        case measure => simp [intOf]; omega
    · have HN := Lib.hid (cutAt_no hc.out (by omega))
      have b1 : (s.size : Int) ≤ (k : Int) + 1 := by omega
      clear hlt
      go_wp2_with fail
      go_ret
      exact ⟨ret_int (by rw [HN.out]), rfl⟩
set_option maxHeartbeats 1000000 in
theorem dayName_any (d : Int) (h0 : 1 ≤ d) (h1 : d ≤ 7) (w : World) :
    Calls Tryz.prog 87 #[.int .i64 d] w fun e w' => e = .returned (.string (str (dayL d))) ∧ w = w' := by
  have h : d = 1 ∨ d = 2 ∨ d = 3 ∨ d = 4 ∨ d = 5 ∨ d = 6 ∨ d = 7 := by omega
  rcases h with rfl | rfl | rfl | rfl | rfl | rfl | rfl
  all_goals
    go_enter Tryz.func87, Tryz.ntmps87
    go_wp2_with fail
    go_ret
    exact ⟨rfl, rfl⟩
end Go.Proofs.YtadifolonbkamaaGreatDoor.Ca
