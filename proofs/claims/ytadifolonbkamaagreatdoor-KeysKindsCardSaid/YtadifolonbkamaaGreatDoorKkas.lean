/- The walks of Leap and Days, the code's and the document's; of daysBefore and within. Words for a block of seven cells: stores and results of whole structs, Below over setRow; a struct of seven fields opened and shut. Each day number has its day; a second's date by its fields, a date's second. It speaks of no code. Calendars on plain lists: whether one may be, whether it has a second, which second is the next; the laws of chapter 4 that speak of these alone. It speaks of no code. -/
import Derived.Test.YtadifolonbkamaaGreatDoorProg
import Derived.Test.YtadifolonbkamaaGreatDoorKkar
import Derived.Test.YtadifolonbkamaaGreatDoorKkaa
import Derived.WalkKit
import Derived.BigGuardPart
import Derived.BigQuiet
import Derived.Handy
import Derived.Below
import Derived.Outline
import Derived.Deep.QuietTactic
import Derived.Deep.Draws
import Derived.Lib.Hide
import Derived.Laws.StructEq
import Derived.Great.BuildSlice
import Derived.Lib.SmallJoins
namespace Go.Proofs.YtadifolonbkamaaGreatDoor.Ca
open Go.RowKit
end Go.Proofs.YtadifolonbkamaaGreatDoor.Ca
namespace Go.Proofs.YtadifolonbkamaaGreatDoor.Ca
open Go.RowKit Go.Joins Go.ChangeShapes Go.WideShapes Go.Deep
def Blk (w : World) (g : Nat) (t : TypeId) (cs : Array Value) : Prop := w.heap[g]? = some (.cells cs t (0, 0))
section
variable {w w' : World} {g : Nat} {t : TypeId} {cs : Array Value}
theorem Blk.lt (h : Blk w g t cs) : g < w.heap.size := by
  rcases Nat.lt_or_ge g w.heap.size with hlt | hge
  · exact hlt
  · unfold Blk at h; rw [Array.getElem?_eq_none hge] at h; cases h
theorem Blk.cell (h : Blk w g t cs) (i : Nat) : w.cell? ⟨g, i, none⟩ = cs[i]? := cell_of_row w g i cs t (0, 0) h
theorem Blk.frozen (h : Blk w g t cs) (i : Nat) : w.frozen? ⟨g, i, none⟩ = false := by
  unfold Blk at h
  simp [World.frozen?, h]
theorem Blk.new (w : World) (t : TypeId) (cs : Array Value) : Blk (w.alloc (.cells cs t)) w.heap.size t cs := heap_alloc_new w _
theorem Blk.drewN (h : Blk w g t cs) (n : Nat) : Blk (w.drewN n) g t cs := h
theorem Blk.alloc (h : Blk w g t cs) (o : Obj) : Blk (w.alloc o) g t cs := (Below.heap_alloc w o g h.lt).trans h
theorem Blk.below {B : Nat} (h : Blk w g t cs) (hb : Below B w w') (hg : g < B) : Blk w' g t cs := (hb.block g hg).trans h
theorem Blk.row (h : Blk w g t cs) (cs' : Array Value) : Blk (w.setRow g cs') g t cs' := setRow_heap w g cs cs' t (0, 0) h
end
theorem below_setRow {B : Nat} {a w : World} (h : Below B a w) {g : Nat} (hg : B ≤ g) (cs : Array Value) : Below B a (w.setRow g cs) :=
  ⟨h.os, h.tape, h.output, by simpa using h.size, fun i hi => by
    have : (w.setRow g cs).heap[i]? = w.heap[i]? := by
      unfold World.setRow
      simp only [Array.getElem?_modify]
      rw [if_neg (by omega)]
    rw [this]; exact h.block i hi⟩
theorem more3 {B : Nat} {a b c : World} (h : Below B a b) (hB : B ≤ b.heap.size) (h2 : Below b.heap.size b c) : Below B a c := h.trans (h2.mono hB)
theorem results_cell_tmp {P : Program} {fn : Func} {p q : Tmp} {ty : TypeId} (h : fn.results = #[.cell p ty, .tmp q]) (tmps : Array Value) (w : World) (g : Nat) (t : TypeId) (cs : Array Value) (d : TypeDesc) (v : Value)
    (hp : tmps.getD p undef = .pointer (some ⟨g, 0, none⟩)) (hv : tmps.getD q undef = v) (hg : w.heap[g]? = some (.cells cs t (0, 0)))
    (hu : P.underlying ty = some d) (hd : (match d with | .struct _ | .array _ _ => true | _ => false) = true) (hi : (P.info? ty).map (·.size) = some cs.size) :
    (results fn tmps).run P w = .ok (.tuple #[.agg cs, v]) w := by
  have hp' : tmps[p]?.getD undef = .pointer (some ⟨g, 0, none⟩) := by simpa using hp
  have hv' : tmps[q]?.getD undef = v := by simpa using hv
  simp [results, h, hp', hv', asAddr, run_loadVar_row w g t ty cs (0, 0) d hg hu hd hi]
section
variable {H : Type} {enc : TypeId × Value → H} {P : Program} {w : World} {base : Nat} {spare : Nat → Bool} {held : Bool}
end
end Go.Proofs.YtadifolonbkamaaGreatDoor.Ca
namespace Go.Proofs.YtadifolonbkamaaGreatDoor.Ca
theorem exists_day {n : Int} (h0 : 0 ≤ n) (h1 : n < 73049) : ∃ p : Int × Int × Int, IsDay p.1 p.2.1 p.2.2 ∧ num p.1 p.2.1 p.2.2 = n := by
  have key : ∀ k : Nat, k ≤ 200 → yst (2000 + (k : Int)) ≤ n ∨ ∃ p : Int × Int × Int, IsDay p.1 p.2.1 p.2.2 ∧ num p.1 p.2.1 p.2.2 = n := by
    intro k
    induction k with
    | zero => intro _; left; have := yst_2000; simp; omega
    | succ k ih =>
      intro hk
      rcases ih (by omega) with hm | hm
      · by_cases hlt : n < yst (2000 + (k : Int) + 1)
        · right
          obtain ⟨m, d, h, e⟩ := day_of_year (y := 2000 + (k : Int)) (by omega) (by omega) hm hlt
          exact ⟨(2000 + (k : Int), m, d), h, e⟩
        · left
          have : 2000 + ((k + 1 : Nat) : Int) = 2000 + (k : Int) + 1 := by omega
          rw [this]; omega
      · exact .inr hm
  rcases key 200 (by omega) with h | h
  · have : 2000 + ((200 : Nat) : Int) = 2200 := rfl
    rw [this, yst_2200] at h
    omega
  · exact h
noncomputable def dayOf (n : Int) : Int × Int × Int := Classical.epsilon fun p => IsDay p.1 p.2.1 p.2.2 ∧ num p.1 p.2.1 p.2.2 = n
theorem dayOf_spec {n : Int} (h0 : 0 ≤ n) (h1 : n < 73049) : IsDay (dayOf n).1 (dayOf n).2.1 (dayOf n).2.2 ∧ num (dayOf n).1 (dayOf n).2.1 (dayOf n).2.2 = n :=
  Classical.epsilon_spec (p := fun p : Int × Int × Int => IsDay p.1 p.2.1 p.2.2 ∧ num p.1 p.2.1 p.2.2 = n) (exists_day h0 h1)
/-- Is it a time? -/
def isT (t : Int) : Bool := decide (0 ≤ t ∧ t < 6311433600)
theorem isT_iff (t : Int) : isT t = true ↔ 0 ≤ t ∧ t < 6311433600 := by simp [isT]
noncomputable def fY (t : Int) : Int := if isT t = true then (dayOf (t / 86400)).1 else 0
noncomputable def fM (t : Int) : Int := if isT t = true then (dayOf (t / 86400)).2.1 else 0
noncomputable def fD (t : Int) : Int := if isT t = true then (dayOf (t / 86400)).2.2 else 0
def fH (t : Int) : Int := if isT t = true then t % 86400 / 3600 else 0
def fI (t : Int) : Int := if isT t = true then t % 3600 / 60 else 0
def fS (t : Int) : Int := if isT t = true then t % 60 else 0
def fW (t : Int) : Int := if isT t = true then (t / 86400 + 5) % 7 + 1 else 0
theorem date_of {t : Int} (h : isT t = true) : IsDate t (fY t) (fM t) (fD t) (fH t) (fI t) (fS t) (fW t) := by
  have hb := (isT_iff t).1 h
  obtain ⟨h1, h2⟩ := dayOf_spec (n := t / 86400) (by omega) (by omega)
  unfold fY fM fD fH fI fS fW
  simp only [if_pos h]
  exact ⟨h1, by omega, by omega, by omega, by omega, by omega, by omega, by omega, by rw [h2]⟩
/-- A date's fields are those of its second. -/
theorem date_eq {t y m d hh mi ss wd : Int} (h : IsDate t y m d hh mi ss wd) : isT t = true ∧ fY t = y ∧ fM t = m ∧ fD t = d ∧ fH t = hh ∧ fI t = mi ∧ fS t = ss ∧ fW t = wd := by
  have hb := h.bd
  have ht := (isT_iff t).2 hb
  obtain ⟨a, b, c, e, f, g, i⟩ := (date_of ht).inj h
  exact ⟨ht, a, b, c, e, f, g, i⟩
/-- Is there such a day, and such a second of it? -/
def isDayB (y m d : Int) : Bool := decide (2000 ≤ y ∧ y ≤ 2199 ∧ 1 ≤ d ∧ d ≤ dim y m)
theorem isDayB_iff (y m d : Int) : isDayB y m d = true ↔ IsDay y m d := by
  unfold isDayB
  simp only [decide_eq_true_eq]
  constructor
  · rintro ⟨a, b, c, e⟩
    have : 1 ≤ m ∧ m ≤ 12 := by
      by_cases hm : m < 1 ∨ 12 < m
      · have := dim_none y m hm; omega
      · omega
    exact ⟨a, b, this.1, this.2, c, e⟩
  · rintro ⟨a, b, c, e, f, g⟩
    exact ⟨a, b, f, g⟩
def isClB (hh mi ss : Int) : Bool := decide (0 ≤ hh ∧ hh ≤ 23 ∧ 0 ≤ mi ∧ mi ≤ 59 ∧ 0 ≤ ss ∧ ss ≤ 59)
theorem isClB_iff (hh mi ss : Int) : isClB hh mi ss = true ↔ 0 ≤ hh ∧ hh ≤ 23 ∧ 0 ≤ mi ∧ mi ≤ 59 ∧ 0 ≤ ss ∧ ss ≤ 59 := by simp [isClB]
def toOk (y m d hh mi ss : Int) : Bool := isDayB y m d && isClB hh mi ss
def toN (y m d hh mi ss : Int) : Int := if toOk y m d hh mi ss = true then 86400 * num y m d + 3600 * hh + 60 * mi + ss else 0
theorem to_date {y m d hh mi ss : Int} (h : toOk y m d hh mi ss = true) : IsDate (toN y m d hh mi ss) y m d hh mi ss ((num y m d + 5) % 7 + 1) := by
  have e : toN y m d hh mi ss = 86400 * num y m d + 3600 * hh + 60 * mi + ss := if_pos h
  unfold toOk at h
  rw [Bool.and_eq_true] at h
  have h1 := (isDayB_iff y m d).1 h.1
  obtain ⟨a, b, c, f, g, i⟩ := (isClB_iff hh mi ss).1 h.2
  exact ⟨h1, a, b, c, f, g, i, e, rfl⟩
end Go.Proofs.YtadifolonbkamaaGreatDoor.Ca
namespace Go.Proofs.YtadifolonbkamaaGreatDoor.Ca
/-- A part: From, To, Step. -/
structure Pt where
  a : Int
  b : Int
  s : Int
/-- A calendar: weekdays, six fields. -/
structure Cl where
  ds : List Int
  yr : List Pt
  mo : List Pt
  dy : List Pt
  hr : List Pt
  mi : List Pt
  se : List Pt
def lo : Nat → Int
  | 0 => 2000
  | 1 => 1
  | 2 => 1
  | _ => 0
def hi : Nat → Int
  | 0 => 2199
  | 1 => 12
  | 2 => 31
  | 3 => 23
  | _ => 59
theorem lo_bd (f : Nat) : 0 ≤ lo f ∧ lo f ≤ hi f ∧ hi f ≤ 2199 := by
  match f with
  | 0 => decide
  | 1 => decide
  | 2 => decide
  | 3 => decide
  | n + 4 => exact (show (0 : Int) ≤ 0 ∧ (0 : Int) ≤ 59 ∧ (59 : Int) ≤ 2199 by decide)
def Cl.fld (c : Cl) : Nat → List Pt
  | 0 => c.yr
  | 1 => c.mo
  | 2 => c.dy
  | 3 => c.hr
  | 4 => c.mi
  | _ => c.se
def mayP (f : Nat) (p : Pt) : Bool := decide (0 ≤ p.s ∧ p.s ≤ 9999 ∧ (p.a = -1 ∧ p.b = -1 ∨ lo f ≤ p.a ∧ p.a ≤ hi f ∧ (p.b = -1 ∨ p.a ≤ p.b ∧ p.b ≤ hi f)))
theorem mayP_iff (f : Nat) (p : Pt) : mayP f p = true ↔ 0 ≤ p.s ∧ p.s ≤ 9999 ∧ (p.a = -1 ∧ p.b = -1 ∨ lo f ≤ p.a ∧ p.a ≤ hi f ∧ (p.b = -1 ∨ p.a ≤ p.b ∧ p.b ≤ hi f)) := by simp [mayP]
def mayF (f : Nat) (l : List Pt) : Bool := decide (1 ≤ l.length ∧ l.length ≤ 4) && l.all (mayP f)
theorem mayF_iff (f : Nat) (l : List Pt) : mayF f l = true ↔ (1 ≤ l.length ∧ l.length ≤ 4) ∧ ∀ p ∈ l, mayP f p = true := by simp [mayF]
/-- Do they rise from behind x on, up to 7? -/
def risesB : Int → List Int → Bool
  | _, [] => true
  | x, d :: r => decide (x < d ∧ d ≤ 7) && risesB d r
def mayC (c : Cl) : Bool := risesB 0 c.ds && (mayF 0 c.yr && (mayF 1 c.mo && (mayF 2 c.dy && (mayF 3 c.hr && (mayF 4 c.mi && mayF 5 c.se)))))
theorem mayC_iff (c : Cl) : mayC c = true ↔ risesB 0 c.ds = true ∧ mayF 0 c.yr = true ∧ mayF 1 c.mo = true ∧ mayF 2 c.dy = true ∧ mayF 3 c.hr = true ∧ mayF 4 c.mi = true ∧ mayF 5 c.se = true := by
  simp [mayC]
/-- A part's interval, its step. -/
def ptA (f : Nat) (p : Pt) : Int := if p.a = -1 then lo f else p.a
def ptB (f : Nat) (p : Pt) : Int := if p.a = -1 then hi f else if p.b = -1 then (if p.s = 0 then p.a else hi f) else p.b
def ptS (p : Pt) : Int := max p.s 1
def inP (f : Nat) (p : Pt) (n : Int) : Bool := decide (ptA f p ≤ n ∧ n ≤ ptB f p ∧ (n - ptA f p) % ptS p = 0)
theorem inP_iff (f : Nat) (p : Pt) (n : Int) : inP f p n = true ↔ ptA f p ≤ n ∧ n ≤ ptB f p ∧ (n - ptA f p) % ptS p = 0 := by simp [inP]
def inF (f : Nat) (l : List Pt) (n : Int) : Bool := l.any fun p => inP f p n
def dayB (ds : List Int) (wd : Int) : Bool := ds.isEmpty || ds.contains wd
noncomputable def numsB (c : Cl) (t : Int) : Bool :=
  inF 0 c.yr (fY t) && (inF 1 c.mo (fM t) && (inF 2 c.dy (fD t) && (inF 3 c.hr (fH t) && (inF 4 c.mi (fI t) && inF 5 c.se (fS t)))))
noncomputable def matchB (c : Cl) (t : Int) : Bool := mayC c && (isT t && (dayB c.ds (fW t) && numsB c t))
theorem matchB_iff (c : Cl) (t : Int) : matchB c t = true ↔ mayC c = true ∧ isT t = true ∧ dayB c.ds (fW t) = true ∧ numsB c t = true := by simp [matchB]
/-- A calendar with another field. -/
def Cl.put (c : Cl) (f : Nat) (l : List Pt) : Cl :=
  match f with
  | 0 => { c with yr := l }
  | 1 => { c with mo := l }
  | 2 => { c with dy := l }
  | 3 => { c with hr := l }
  | 4 => { c with mi := l }
  | _ => { c with se := l }
end Go.Proofs.YtadifolonbkamaaGreatDoor.Ca
