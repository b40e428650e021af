/- The walks of the document's least, most, mayPart, field; how a calendar lies in memory. The walks of the developers' intervalOf and leastOfPart. The package's own tables; the walk of the developers' leastFrom. The walk of the document's mayPart. The walks of the document's MayCal, weekday. The walks of hasDay, hasClock and To. The walk of the document's part. The walk of the document's days. The walk of the document's short: one word alone stands for an expression. -/
import Derived.Test.YtadifolonbkamaaGreatDoorKfas
import Derived.Test.YtadifolonbkamaaGreatDoorKfaq
import Derived.Deep.RegionHeld3
import Derived.Lib.LaidTab
import Derived.Lib.ItoaNum
import Derived.BigRegion
import Derived.RegionCalls
import Derived.Test.YtadifolonbkamaaGreatDoorKfap
import Derived.IntWalk
import Derived.Deep.OwnRows
import Derived.Deep.DeepCutAuto
import Derived.Deep.CutBlock
import Derived.Deep.LoopGhost
namespace Go.Proofs.YtadifolonbkamaaGreatDoor.Ca
open Go.RowKit
theorem block_of_add (a : Addr) (n : Nat) : (a.add n).block = a.block := by unfold Addr.add; split <;> rfl
theorem add_of_add (a : Addr) (i j : Nat) : (a.add i).add j = a.add (i + j) := by
  unfold Addr.add
  by_cases hi : i = 0 <;> by_cases hj : j = 0 <;> simp [hi, hj, Nat.add_assoc]
/-- A slice value of n elements, size cells each, holds the cells xs, below block B. -/
def Reads (w : World) (B size : Nat) (A : Option Addr) (n : Nat) (xs : List Value) : Prop :=
  xs.length = n * size ∧ (0 < n → ∃ ad, A = some ad ∧ ad.block < B ∧ ∀ j u, xs[j]? = some u → w.cell? (ad.add j) = some u)
section
variable {w w' : World} {B B' size n : Nat} {A : Option Addr} {xs : List Value}
theorem Reads.none_ : Reads w B size A 0 [] := ⟨by simp, fun h => absurd h (by omega)⟩
theorem Reads.at_ {k : Nat} (h : Reads w B 1 A n xs) (hk : k < n) : ∃ ad u, A = some ad ∧ ad.block < B ∧ xs[k]? = some u ∧ w.cell? (ad.add k) = some u := by
  obtain ⟨ad, e, hb, hc⟩ := h.2 (by omega)
  have hl : k < xs.length := by have := h.1; omega
  exact ⟨ad, xs[k], e, hb, List.getElem?_eq_getElem hl, hc k _ (List.getElem?_eq_getElem hl)⟩
theorem Reads.keep (h : Reads w B size A n xs) (hk : ∀ p : Addr, p.block < B → w'.cell? p = w.cell? p) : Reads w' B size A n xs :=
  ⟨h.1, fun hn => by
    obtain ⟨ad, e, hb, hc⟩ := h.2 hn
    exact ⟨ad, e, hb, fun j u hu => (hk _ (by rw [block_of_add]; exact hb)).trans (hc j u hu)⟩⟩
theorem Reads.wide (h : Reads w B size A n xs) (hB : B ≤ B') : Reads w B' size A n xs :=
  ⟨h.1, fun hn => by
    obtain ⟨ad, e, hb, hc⟩ := h.2 hn
    exact ⟨ad, e, by omega, hc⟩⟩
theorem Reads.below (h : Reads w B size A n xs) (hb : Below B w w') : Reads w' B size A n xs := h.keep fun _ hp => hb.cell hp
theorem Reads.drewN (h : Reads w B size A n xs) (k : Nat) : Reads (w.drewN k) B size A n xs := h
theorem Reads.alloc (h : Reads w B size A n xs) (hB : B ≤ w.heap.size) (o : Obj) : Reads (w.alloc o) B size A n xs := h.keep fun p hp => World.cell?_alloc_lt w o p (by omega)
end
/-- A slice value: where, how long, with how much room. -/
structure Sl where
  A : Option Addr
  n : Nat
  c : Nat
def Sl.val (s : Sl) : Value := .slice s.A s.n s.c
def ints (l : List Int) : List Value := l.map (Value.int .i64)
def ptCells (p : Pt) : List Value := [.int .i64 p.a, .int .i64 p.b, .int .i64 p.s]
def pts (l : List Pt) : List Value := l.flatMap ptCells
/-- A []int that holds l; a []Part that holds l: not longer than a slice may be. -/
def IntsAt (w : World) (B : Nat) (A : Option Addr) (n : Nat) (l : List Int) : Prop := l.length = n ∧ n ≤ maxLen ∧ Reads w B 1 A n (ints l)
def PtsAt (w : World) (B : Nat) (A : Option Addr) (n : Nat) (l : List Pt) : Prop := l.length = n ∧ n ≤ maxLen ∧ Reads w B 3 A n (pts l)
section
variable {w w' : World} {B B' n : Nat} {A : Option Addr}
theorem IntsAt.below {l : List Int} (h : IntsAt w B A n l) (hb : Below B w w') : IntsAt w' B A n l := ⟨h.1, h.2.1, h.2.2.below hb⟩
theorem PtsAt.below {l : List Pt} (h : PtsAt w B A n l) (hb : Below B w w') : PtsAt w' B A n l := ⟨h.1, h.2.1, h.2.2.below hb⟩
theorem IntsAt.wide {l : List Int} (h : IntsAt w B A n l) (hB : B ≤ B') : IntsAt w B' A n l := ⟨h.1, h.2.1, h.2.2.wide hB⟩
theorem PtsAt.wide {l : List Pt} (h : PtsAt w B A n l) (hB : B ≤ B') : PtsAt w B' A n l := ⟨h.1, h.2.1, h.2.2.wide hB⟩
theorem IntsAt.at_ {l : List Int} (h : IntsAt w B A n l) {k : Nat} (hk : k < n) : ∃ ad, A = some ad ∧ ad.block < B ∧ w.cell? (ad.add k) = some (.int .i64 (l.getD k 0)) := by
  obtain ⟨h1, _, h3⟩ := h
  obtain ⟨ad, u, e, hb, hx, hc⟩ := h3.at_ hk
  refine ⟨ad, e, hb, ?_⟩
  rw [hc]
  have hl : k < l.length := by omega
  have : (ints l)[k]? = some (.int .i64 (l.getD k 0)) := by
    unfold ints
    rw [List.getElem?_map, List.getElem?_eq_getElem hl]
    simp [List.getD, List.getElem?_eq_getElem hl]
  rw [this] at hx
  exact hx.symm
theorem pts_at (l : List Pt) (k : Nat) (hk : k < l.length) (j : Nat) (hj : j < 3) : (pts l)[k * 3 + j]? = (ptCells l[k])[j]? := by
  induction l generalizing k with
  | nil => simp at hk
  | cons p l ih =>
    unfold pts
    rw [List.flatMap_cons]
    have h3 : (ptCells p).length = 3 := rfl
    cases k with
    | zero => rw [List.getElem?_append_left (by rw [h3]; omega)]; simp
    | succ k =>
      rw [List.getElem?_append_right (by rw [h3]; omega), h3, show (k + 1) * 3 + j - 3 = k * 3 + j by omega]
      exact ih k (by simpa using hk)
theorem PtsAt.at_ {l : List Pt} (h : PtsAt w B A n l) {k : Nat} (hk : k < n) : ∃ ad p, A = some ad ∧ ad.block < B ∧ l[k]? = some p ∧ w.cell? (ad.add (k * 3)) = some (.int .i64 p.a) ∧ w.cell? ⟨(ad.add (k * 3)).block, (ad.add (k * 3)).off + 1, none⟩ = some (.int .i64 p.b) ∧ w.cell? ⟨(ad.add (k * 3)).block, (ad.add (k * 3)).off + 2, none⟩ = some (.int .i64 p.s) := by
  obtain ⟨h1, _, h3⟩ := h
  obtain ⟨ad, e, hb, hc⟩ := h3.2 (by omega)
  have hl : k < l.length := by omega
  refine ⟨ad, l[k], e, hb, List.getElem?_eq_getElem hl, ?_, ?_, ?_⟩
  · have := hc (k * 3 + 0) (.int .i64 l[k].a) (by rw [pts_at l k hl 0 (by omega)]; rfl)
    simpa using this
  · have := hc (k * 3 + 1) (.int .i64 l[k].b) (by rw [pts_at l k hl 1 (by omega)]; rfl)
    rw [← add_of_add] at this
    exact this
  · have := hc (k * 3 + 2) (.int .i64 l[k].s) (by rw [pts_at l k hl 2 (by omega)]; rfl)
    rw [← add_of_add] at this
    exact this
end
/-- A calendar's seven slices, as they stand in a value. -/
structure Ch where
  d : Sl
  y : Sl
  m : Sl
  t : Sl
  h : Sl
  i : Sl
  s : Sl
def Ch.cells (c : Ch) : Array Value := #[.slice c.d.A c.d.n c.d.c, .slice c.y.A c.y.n c.y.c, .slice c.m.A c.m.n c.m.c, .slice c.t.A c.t.n c.t.c, .slice c.h.A c.h.n c.h.c, .slice c.i.A c.i.n c.i.c, .slice c.s.A c.s.n c.s.c]
def Ch.fsl (c : Ch) : Nat → Sl
  | 0 => c.y
  | 1 => c.m
  | 2 => c.t
  | 3 => c.h
  | 4 => c.i
  | _ => c.s
/-- The calendar value reads as l, below block B. -/
def CalAt (w : World) (B : Nat) (c : Ch) (l : Cl) : Prop :=
  IntsAt w B c.d.A c.d.n l.ds ∧ ∀ f, PtsAt w B (c.fsl f).A (c.fsl f).n (l.fld f)
theorem CalAt.below {w w' : World} {B : Nat} {c : Ch} {l : Cl} (h : CalAt w B c l) (hb : Below B w w') : CalAt w' B c l := ⟨h.1.below hb, fun f => (h.2 f).below hb⟩
theorem f_cases {f : Nat} (h : f ≤ 5) : f = 0 ∨ f = 1 ∨ f = 2 ∨ f = 3 ∨ f = 4 ∨ f = 5 := by omega
end Go.Proofs.YtadifolonbkamaaGreatDoor.Ca
namespace Go.Proofs.YtadifolonbkamaaGreatDoor.Ca
open Go.RowKit
theorem ret_ib' {a b : Int} {x y : Bool} (h : a = b) (g : x = y) : Ending.returned (.tuple #[.int .i64 a, .bool x]) = .returned (.tuple #[.int .i64 b, .bool y]) := by rw [h, g]
end Go.Proofs.YtadifolonbkamaaGreatDoor.Ca
namespace Go.Proofs.YtadifolonbkamaaGreatDoor.Ca
open Go.RowKit
def rngCells : Array Value := #[.int .i64 2000, .int .i64 2199, .int .i64 1, .int .i64 12, .int .i64 1, .int .i64 31, .int .i64 0, .int .i64 23, .int .i64 0, .int .i64 59, .int .i64 0, .int .i64 59]
def daysCells : Array Value := #[.string ⟨#[77, 111, 110]⟩, .string ⟨#[84, 117, 101]⟩, .string ⟨#[87, 101, 100]⟩, .string ⟨#[84, 104, 117]⟩, .string ⟨#[70, 114, 105]⟩, .string ⟨#[83, 97, 116]⟩, .string ⟨#[83, 117, 110]⟩]
theorem rng_glob : Tryz.prog.globalNamed "matins/cal.ranges" = some 0 := by kernel_rfl
theorem days_glob : Tryz.prog.globalNamed "matins/cal.dayNames" = some 3 := by kernel_rfl
theorem p10_glob : Tryz.prog.globalNamed "internal/strconv.uint64pow10" = some 7 := by kernel_rfl
/-- The table of powers that strconv reads. -/
def P10 (w : World) : Prop := Lib.TabIs Tryz.prog w "internal/strconv.uint64pow10" .u64 Lib.pow10Tab
/-- The tables stand as the text lays them. -/
structure Tabs (w : World) : Prop where
  rng : w.var? Tryz.prog "matins/cal.ranges" = some rngCells
  days : w.var? Tryz.prog "matins/cal.dayNames" = some daysCells
  p10 : P10 w
theorem var_lt {w : World} {nm : String} {g : Nat} {cs : Array Value} (hg : Tryz.prog.globalNamed nm = some g) (h : w.var? Tryz.prog nm = some cs) : g < w.heap.size := by
  unfold World.var? at h
  rw [hg] at h
  simp only [Option.bind_some] at h
  rcases Nat.lt_or_ge g w.heap.size with h' | h'
  · exact h'
  · rw [Array.getElem?_eq_none h'] at h; cases h
theorem var_below {w w' : World} {B : Nat} {nm : String} {g : Nat} {cs : Array Value} (hg : Tryz.prog.globalNamed nm = some g) (h : w.var? Tryz.prog nm = some cs) (hb : Below B w w') (hB : g < B) : w'.var? Tryz.prog nm = some cs := by
  unfold World.var? at h ⊢
  rw [hg] at h ⊢
  simp only [Option.bind_some] at h ⊢
  rw [hb.block g hB]
  exact h
theorem Tabs.below {w w' : World} (h : Tabs w) (hb : Below w.heap.size w w') : Tabs w' :=
  ⟨var_below rng_glob h.rng hb (var_lt rng_glob h.rng), var_below days_glob h.days hb (var_lt days_glob h.days), var_below p10_glob h.p10 hb (var_lt p10_glob h.p10)⟩
theorem Tabs.rng0 {w : World} (h : Tabs w) {f : Nat} (hf : f ≤ 5) : w.cell? ⟨0, f * 2, none⟩ = some (.int .i64 (lo f)) := by
  rcases f_cases hf with rfl | rfl | rfl | rfl | rfl | rfl <;> exact World.var?_cell rng_glob h.rng _
theorem Tabs.rng1 {w : World} (h : Tabs w) {f : Nat} (hf : f ≤ 5) : w.cell? ⟨0, f * 2 + 1, none⟩ = some (.int .i64 (hi f)) := by
  rcases f_cases hf with rfl | rfl | rfl | rfl | rfl | rfl <;> exact World.var?_cell rng_glob h.rng _
end Go.Proofs.YtadifolonbkamaaGreatDoor.Ca
namespace Go.Proofs.YtadifolonbkamaaGreatDoor.Ca
open Go.RowKit
end Go.Proofs.YtadifolonbkamaaGreatDoor.Ca
namespace Go.Proofs.YtadifolonbkamaaGreatDoor.Ca
open Go.RowKit
theorem cells7c {w : World} {g : Nat} {t : TypeId} {a b c d e f h : Value} (H : Blk w g t #[a, b, c, d, e, f, h]) :
    w.cell? ⟨g, 0, none⟩ = some a ∧ w.cell? ⟨g, 1, none⟩ = some b ∧ w.cell? ⟨g, 2, none⟩ = some c ∧ w.cell? ⟨g, 3, none⟩ = some d ∧ w.cell? ⟨g, 4, none⟩ = some e ∧ w.cell? ⟨g, 5, none⟩ = some f ∧ w.cell? ⟨g, 6, none⟩ = some h :=
  ⟨H.cell 0, H.cell 1, H.cell 2, H.cell 3, H.cell 4, H.cell 5, H.cell 6⟩
theorem drop_cons {l : List Int} {k : Nat} (h : k < l.length) : l.drop k = l.getD k 0 :: l.drop (k + 1) := by
  rw [List.drop_eq_getElem_cons h]
  simp [List.getD, List.getElem?_eq_getElem h]
theorem rises_no {x d : Int} {r : List Int} (h : d ≤ x ∨ 7 < d) : risesB x (d :: r) = false := by
  rw [risesB, decide_eq_false (by omega)]; rfl
theorem rises_yes {x d : Int} {r : List Int} (h : x < d) (h' : d ≤ 7) : risesB x (d :: r) = risesB d r := by
  rw [risesB, decide_eq_true ⟨h, h'⟩]; rfl
def fieldsB (l : Cl) : Bool := mayF 0 l.yr && (mayF 1 l.mo && (mayF 2 l.dy && (mayF 3 l.hr && (mayF 4 l.mi && mayF 5 l.se))))
theorem mayC_split (l : Cl) : mayC l = (risesB 0 l.ds && fieldsB l) := rfl
theorem fields_no {l : Cl} {f : Nat} (hf : f ≤ 5) (h : mayF f (l.fld f) = false) : fieldsB l = false := by
  unfold fieldsB
  rcases f_cases hf with rfl | rfl | rfl | rfl | rfl | rfl
  all_goals
    simp only [Cl.fld] at h
    rw [h]
    simp
theorem fields_yes {l : Cl} (h : ∀ f, f < 6 → mayF f (l.fld f) = true) : fieldsB l = true := by
  have h0 := h 0 (by omega)
  have h1 := h 1 (by omega)
  have h2 := h 2 (by omega)
  have h3 := h 3 (by omega)
  have h4 := h 4 (by omega)
  have h5 := h 5 (by omega)
  simp only [Cl.fld] at h0 h1 h2 h3 h4 h5
  unfold fieldsB
  rw [h0, h1, h2, h3, h4, h5]; rfl
theorem mayF_long {f : Nat} {l : List Pt} (h : l.length < 1 ∨ 4 < l.length) : mayF f l = false := by
  unfold mayF; rw [decide_eq_false (by omega)]; rfl
theorem mayF_bad {f : Nat} {l : List Pt} {k : Nat} {p : Pt} (hk : l[k]? = some p) (h : mayP f p = false) : mayF f l = false := by
  rw [← Bool.not_eq_true, mayF_iff]
  rintro ⟨_, h2⟩
  have := h2 p (List.mem_of_getElem? hk)
  rw [h] at this; cases this
theorem mayF_all {f : Nat} {l : List Pt} (h0 : 1 ≤ l.length) (h4 : l.length ≤ 4) (h : ∀ j, j < l.length → ∀ p, l[j]? = some p → mayP f p = true) : mayF f l = true := by
  rw [mayF_iff]
  refine ⟨⟨h0, h4⟩, fun p hp => ?_⟩
  obtain ⟨j, hj, e⟩ := List.getElem_of_mem hp
  exact h j hj p (by rw [List.getElem?_eq_getElem hj, e])
end Go.Proofs.YtadifolonbkamaaGreatDoor.Ca
namespace Go.Proofs.YtadifolonbkamaaGreatDoor.Ca
open Go.RowKit
end Go.Proofs.YtadifolonbkamaaGreatDoor.Ca
namespace Go.Proofs.YtadifolonbkamaaGreatDoor.Ca
open Go.RowKit
/-- A text's number. -/
def numS (s : ByteArray) : Int := numI s.data.toList
end Go.Proofs.YtadifolonbkamaaGreatDoor.Ca
namespace Go.Proofs.YtadifolonbkamaaGreatDoor.Ca
open Go.RowKit
end Go.Proofs.YtadifolonbkamaaGreatDoor.Ca
namespace Go.Proofs.YtadifolonbkamaaGreatDoor.Ca
open Go.RowKit
end Go.Proofs.YtadifolonbkamaaGreatDoor.Ca
