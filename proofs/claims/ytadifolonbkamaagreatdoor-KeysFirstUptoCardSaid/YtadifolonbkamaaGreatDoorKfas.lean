/- The walks of Leap and Days, the code's and the document's; of daysBefore and within. Words for a block of seven cells: stores and results of whole structs, Below over setRow; a struct of seven fields opened and shut. The units: the developers' seconds, the document's unit. The document's way to read an expression, on plain lists: numbers and points as whole numbers, a part, the weekdays by all items gone through. It speaks of no code. Rows of texts. The walks of the document's number, points, dayName. -/
import Derived.Test.YtadifolonbkamaaGreatDoorProg
import Derived.Test.YtadifolonbkamaaGreatDoorKfap
import Derived.Test.YtadifolonbkamaaGreatDoorKfab
import Derived.WalkKit
import Derived.BigGuardPart
import Derived.BigQuiet
import Derived.Handy
import Derived.Below
import Derived.Outline
import Derived.Deep.QuietTactic
import Derived.Deep.Draws
import Derived.Lib.Hide
import Derived.Laws.StructEq
import Derived.Great.BuildSlice
import Derived.Lib.SmallJoins
import Derived.Test.YtadifolonbkamaaGreatDoorKfaq
import Derived.Test.YtadifolonbkamaaGreatDoorKfar
import Derived.Test.YtadifolonbkamaaGreatDoorKfao
namespace Go.Proofs.YtadifolonbkamaaGreatDoor.Ca
open Go.RowKit
end Go.Proofs.YtadifolonbkamaaGreatDoor.Ca
namespace Go.Proofs.YtadifolonbkamaaGreatDoor.Ca
open Go.RowKit Go.Joins Go.ChangeShapes Go.WideShapes Go.Deep
def Blk (w : World) (g : Nat) (t : TypeId) (cs : Array Value) : Prop := w.heap[g]? = some (.cells cs t (0, 0))
section
variable {w w' : World} {g : Nat} {t : TypeId} {cs : Array Value}
theorem Blk.lt (h : Blk w g t cs) : g < w.heap.size := by
  rcases Nat.lt_or_ge g w.heap.size with hlt | hge
  · exact hlt
  · unfold Blk at h; rw [Array.getElem?_eq_none hge] at h; cases h
theorem Blk.cell (h : Blk w g t cs) (i : Nat) : w.cell? ⟨g, i, none⟩ = cs[i]? := cell_of_row w g i cs t (0, 0) h
theorem Blk.frozen (h : Blk w g t cs) (i : Nat) : w.frozen? ⟨g, i, none⟩ = false := by
  unfold Blk at h
  simp [World.frozen?, h]
theorem Blk.new (w : World) (t : TypeId) (cs : Array Value) : Blk (w.alloc (.cells cs t)) w.heap.size t cs := heap_alloc_new w _
theorem Blk.drewN (h : Blk w g t cs) (n : Nat) : Blk (w.drewN n) g t cs := h
theorem Blk.alloc (h : Blk w g t cs) (o : Obj) : Blk (w.alloc o) g t cs := (Below.heap_alloc w o g h.lt).trans h
theorem Blk.below {B : Nat} (h : Blk w g t cs) (hb : Below B w w') (hg : g < B) : Blk w' g t cs := (hb.block g hg).trans h
theorem Blk.row (h : Blk w g t cs) (cs' : Array Value) : Blk (w.setRow g cs') g t cs' := setRow_heap w g cs cs' t (0, 0) h
end
theorem below_setRow {B : Nat} {a w : World} (h : Below B a w) {g : Nat} (hg : B ≤ g) (cs : Array Value) : Below B a (w.setRow g cs) :=
  ⟨h.os, h.tape, h.output, by simpa using h.size, fun i hi => by
    have : (w.setRow g cs).heap[i]? = w.heap[i]? := by
      unfold World.setRow
      simp only [Array.getElem?_modify]
      rw [if_neg (by omega)]
    rw [this]; exact h.block i hi⟩
theorem more3 {B : Nat} {a b c : World} (h : Below B a b) (hB : B ≤ b.heap.size) (h2 : Below b.heap.size b c) : Below B a c := h.trans (h2.mono hB)
theorem results_cell_tmp {P : Program} {fn : Func} {p q : Tmp} {ty : TypeId} (h : fn.results = #[.cell p ty, .tmp q]) (tmps : Array Value) (w : World) (g : Nat) (t : TypeId) (cs : Array Value) (d : TypeDesc) (v : Value)
    (hp : tmps.getD p undef = .pointer (some ⟨g, 0, none⟩)) (hv : tmps.getD q undef = v) (hg : w.heap[g]? = some (.cells cs t (0, 0)))
    (hu : P.underlying ty = some d) (hd : (match d with | .struct _ | .array _ _ => true | _ => false) = true) (hi : (P.info? ty).map (·.size) = some cs.size) :
    (results fn tmps).run P w = .ok (.tuple #[.agg cs, v]) w := by
  have hp' : tmps[p]?.getD undef = .pointer (some ⟨g, 0, none⟩) := by simpa using hp
  have hv' : tmps[q]?.getD undef = v := by simpa using hv
  simp [results, h, hp', hv', asAddr, run_loadVar_row w g t ty cs (0, 0) d hg hu hd hi]
section
variable {H : Type} {enc : TypeId × Value → H} {P : Program} {w : World} {base : Nat} {spare : Nat → Bool} {held : Bool}
end
end Go.Proofs.YtadifolonbkamaaGreatDoor.Ca
namespace Go.Proofs.YtadifolonbkamaaGreatDoor.Ca
open Go.RowKit
def unitS (s : ByteArray) : Nat := unitL s.data.toList
theorem ne_beq {s : ByteArray} {l : List UInt8} (h : s ≠ str l) : (s.toList == l) = false := by
  have := beq_str s (str l)
  rw [Lib.toList_data (str l)] at this
  rw [show l = (str l).data.toList from rfl, this]
  simpa using h
theorem is_beq {s : ByteArray} {l : List UInt8} (h : s = str l) : (s.toList == l) = true := by
  have := beq_str s (str l)
  rw [Lib.toList_data (str l)] at this
  rw [show l = (str l).data.toList from rfl, this]
  simpa using h
theorem ne_empty {s : ByteArray} (h : s ≠ str []) : s.toList.isEmpty = false := by
  rw [isEmpty_iff]
  simpa [eq_str] using h
theorem is_empty {s : ByteArray} (h : s = str []) : s.toList.isEmpty = true := by
  rw [isEmpty_iff]
  simpa [eq_str] using h
set_option maxHeartbeats 1000000 in
theorem seconds_any (s : ByteArray) (w : World) :
    Calls Tryz.prog 98 #[.string s] w fun e w' => e = .returned (.int .i64 (unitS s)) ∧ w = w' := by
  by_cases h0 : s = str []
  · have H := Lib.hid (show unitS s = 1 by rw [h0]; decide)
    have e0 := is_empty h0
    clear h0
    go_enter Tryz.func98, Tryz.ntmps98
    go_wp2
    go_ret
    exact ⟨ret_int (by rw [H.out]; rfl), rfl⟩
  by_cases h1 : s = str [115]
  · have H := Lib.hid (show unitS s = 1 by rw [h1]; decide)
    have e0 := ne_empty h0
    have e1 := is_beq h1
    clear h0 h1
    go_enter Tryz.func98, Tryz.ntmps98
    go_wp2
    go_ret
    exact ⟨ret_int (by rw [H.out]; rfl), rfl⟩
  by_cases h2 : s = str [115, 101, 99]
  · have H := Lib.hid (show unitS s = 1 by rw [h2]; decide)
    have e0 := ne_empty h0
    have e1 := ne_beq h1
    have e2 := is_beq h2
    clear h0 h1 h2
    go_enter Tryz.func98, Tryz.ntmps98
    go_wp2
    go_ret
    exact ⟨ret_int (by rw [H.out]; rfl), rfl⟩
  by_cases h3 : s = str [109]
  · have H := Lib.hid (show unitS s = 60 by rw [h3]; decide)
    have e0 := ne_empty h0
    have e1 := ne_beq h1
    have e2 := ne_beq h2
    have e3 := is_beq h3
    clear h0 h1 h2 h3
    go_enter Tryz.func98, Tryz.ntmps98
    go_wp2
    go_ret
    exact ⟨ret_int (by rw [H.out]; rfl), rfl⟩
  by_cases h4 : s = str [109, 105, 110]
  · have H := Lib.hid (show unitS s = 60 by rw [h4]; decide)
    have e0 := ne_empty h0
    have e1 := ne_beq h1
    have e2 := ne_beq h2
    have e3 := ne_beq h3
    have e4 := is_beq h4
    clear h0 h1 h2 h3 h4
    go_enter Tryz.func98, Tryz.ntmps98
    go_wp2
    go_ret
    exact ⟨ret_int (by rw [H.out]; rfl), rfl⟩
  by_cases h5 : s = str [104]
  · have H := Lib.hid (show unitS s = 3600 by rw [h5]; decide)
    have e0 := ne_empty h0
    have e1 := ne_beq h1
    have e2 := ne_beq h2
    have e3 := ne_beq h3
    have e4 := ne_beq h4
    have e5 := is_beq h5
    clear h0 h1 h2 h3 h4 h5
    go_enter Tryz.func98, Tryz.ntmps98
    go_wp2
    go_ret
    exact ⟨ret_int (by rw [H.out]; rfl), rfl⟩
  by_cases h6 : s = str [104, 114]
  · have H := Lib.hid (show unitS s = 3600 by rw [h6]; decide)
    have e0 := ne_empty h0
    have e1 := ne_beq h1
    have e2 := ne_beq h2
    have e3 := ne_beq h3
    have e4 := ne_beq h4
    have e5 := ne_beq h5
    have e6 := is_beq h6
    clear h0 h1 h2 h3 h4 h5 h6
    go_enter Tryz.func98, Tryz.ntmps98
    go_wp2
    go_ret
    exact ⟨ret_int (by rw [H.out]; rfl), rfl⟩
  by_cases h7 : s = str [100]
  · have H := Lib.hid (show unitS s = 86400 by rw [h7]; decide)
    have e0 := ne_empty h0
    have e1 := ne_beq h1
    have e2 := ne_beq h2
    have e3 := ne_beq h3
    have e4 := ne_beq h4
    have e5 := ne_beq h5
    have e6 := ne_beq h6
    have e7 := is_beq h7
    clear h0 h1 h2 h3 h4 h5 h6 h7
    go_enter Tryz.func98, Tryz.ntmps98
    go_wp2
    go_ret
    exact ⟨ret_int (by rw [H.out]; rfl), rfl⟩
  by_cases h8 : s = str [100, 97, 121]
  · have H := Lib.hid (show unitS s = 86400 by rw [h8]; decide)
    have e0 := ne_empty h0
    have e1 := ne_beq h1
    have e2 := ne_beq h2
    have e3 := ne_beq h3
    have e4 := ne_beq h4
    have e5 := ne_beq h5
    have e6 := ne_beq h6
    have e7 := ne_beq h7
    have e8 := is_beq h8
    clear h0 h1 h2 h3 h4 h5 h6 h7 h8
    go_enter Tryz.func98, Tryz.ntmps98
    go_wp2
    go_ret
    exact ⟨ret_int (by rw [H.out]; rfl), rfl⟩
  by_cases h9 : s = str [119]
  · have H := Lib.hid (show unitS s = 604800 by rw [h9]; decide)
    have e0 := ne_empty h0
    have e1 := ne_beq h1
    have e2 := ne_beq h2
    have e3 := ne_beq h3
    have e4 := ne_beq h4
    have e5 := ne_beq h5
    have e6 := ne_beq h6
    have e7 := ne_beq h7
    have e8 := ne_beq h8
    have e9 := is_beq h9
    clear h0 h1 h2 h3 h4 h5 h6 h7 h8 h9
    go_enter Tryz.func98, Tryz.ntmps98
    go_wp2
    go_ret
    exact ⟨ret_int (by rw [H.out]; rfl), rfl⟩
  by_cases h10 : s = str [119, 101, 101, 107]
  · have H := Lib.hid (show unitS s = 604800 by rw [h10]; decide)
    have e0 := ne_empty h0
    have e1 := ne_beq h1
    have e2 := ne_beq h2
    have e3 := ne_beq h3
    have e4 := ne_beq h4
    have e5 := ne_beq h5
    have e6 := ne_beq h6
    have e7 := ne_beq h7
    have e8 := ne_beq h8
    have e9 := ne_beq h9
    have e10 := is_beq h10
    clear h0 h1 h2 h3 h4 h5 h6 h7 h8 h9 h10
    go_enter Tryz.func98, Tryz.ntmps98
    go_wp2
    go_ret
    exact ⟨ret_int (by rw [H.out]; rfl), rfl⟩
  have H : Hid (unitS s = 0) := by
    unfold unitS unitL
    simp only [eq_str] at h0 h1 h2 h3 h4 h5 h6 h7 h8 h9 h10
    simp [Hid, h0, h1, h2, h3, h4, h5, h6, h7, h8, h9, h10]
  have e0 := ne_empty h0
  have e1 := ne_beq h1
  have e2 := ne_beq h2
  have e3 := ne_beq h3
  have e4 := ne_beq h4
  have e5 := ne_beq h5
  have e6 := ne_beq h6
  have e7 := ne_beq h7
  have e8 := ne_beq h8
  have e9 := ne_beq h9
  have e10 := ne_beq h10
  clear h0 h1 h2 h3 h4 h5 h6 h7 h8 h9 h10
  go_enter Tryz.func98, Tryz.ntmps98
  go_wp2
  go_ret
  exact ⟨ret_int (by rw [H.out]; rfl), rfl⟩
end Go.Proofs.YtadifolonbkamaaGreatDoor.Ca
namespace Go.Proofs.YtadifolonbkamaaGreatDoor.Ca
def numI (l : List UInt8) : Int := match numL l with
  | some n => n
  | none => -1
def cutAt (l : List UInt8) (k : Nat) : Prop := cutDots l = (cutDots (l.drop k)).map fun z => (l.take k ++ z.1, z.2)
end Go.Proofs.YtadifolonbkamaaGreatDoor.Ca
namespace Go.Proofs.YtadifolonbkamaaGreatDoor.Ca
open Go.RowKit
/-- A row of texts. -/
def RowAt (w : World) (B : Nat) (A : Option Addr) (n : Nat) (l : List (List UInt8)) : Prop :=
  l.length = n ∧ n ≤ maxLen ∧ (0 < n → ∃ ad, A = some ad ∧ ad.block < B ∧ ∀ j x, l[j]? = some x → w.cell? (ad.add j) = some (.string (str x)))
theorem RowAt.none_ {w : World} {B : Nat} {A : Option Addr} : RowAt w B A 0 [] := ⟨rfl, Nat.zero_le _, fun h => by omega⟩
theorem rowAt_of_own {w : World} {base n nv cv : Nat} {A : Option Addr} {l : List (List UInt8)} (h : w.ownsRow base 9 1 (.slice A nv cv) n (wcells l)) (hn : n ≤ maxLen) : nv = n ∧ n ≤ cv ∧ RowAt w w.heap.size A n l := by
  have hl : l.length = n := by have := h.1; rw [wcells_length] at this; omega
  rcases h.2 with ⟨h1, h2⟩ | ⟨g, cap, cur, h1, h2, h3, h4, h5, h6, h7⟩
  · injection h1 with h1 h11 h12
    subst h2
    exact ⟨h11, Nat.zero_le _, hl, Nat.zero_le _, fun h => by omega⟩
  · injection h1 with h1 h11 h12
    subst h1 h11 h12
    refine ⟨rfl, h4, hl, hn, fun _ => ⟨_, rfl, (Array.getElem?_eq_some_iff.1 h3).1, fun j x hj => ?_⟩⟩
    refine h.cells (g := g) rfl j _ ?_
    unfold wcells
    rw [List.getElem?_map, hj]
    rfl
theorem block_addR (a : Addr) (n : Nat) : (a.add n).block = a.block := by unfold Addr.add; split <;> rfl
theorem RowAt.below {w w' : World} {B n : Nat} {A : Option Addr} {l : List (List UInt8)} (h : RowAt w B A n l) (hb : Below B w w') : RowAt w' B A n l :=
  ⟨h.1, h.2.1, fun hn => by
    obtain ⟨ad, e, hB, hc⟩ := h.2.2 hn
    exact ⟨ad, e, hB, fun j x hj => (hb.cell (by rw [block_addR]; exact hB)).trans (hc j x hj)⟩⟩
theorem RowAt.wide {w : World} {B B' n : Nat} {A : Option Addr} {l : List (List UInt8)} (h : RowAt w B A n l) (hB : B ≤ B') : RowAt w B' A n l :=
  ⟨h.1, h.2.1, fun hn => by
    obtain ⟨ad, e, h2, hc⟩ := h.2.2 hn
    exact ⟨ad, e, by omega, hc⟩⟩
theorem RowAt.at_ {w : World} {B n : Nat} {A : Option Addr} {l : List (List UInt8)} (h : RowAt w B A n l) {k : Nat} (hk : k < n) : ∃ ad x, A = some ad ∧ ad.block < B ∧ l[k]? = some x ∧ w.cell? (ad.add k) = some (.string (str x)) := by
  obtain ⟨ad, e, hB, hc⟩ := h.2.2 (by omega)
  have hl : k < l.length := by have := h.1; omega
  exact ⟨ad, l[k], e, hB, List.getElem?_eq_getElem hl, hc k _ (List.getElem?_eq_getElem hl)⟩
theorem RowAt.drewN {w : World} {B n : Nat} {A : Option Addr} {l : List (List UInt8)} (h : RowAt w B A n l) (j : Nat) : RowAt (w.drewN j) B A n l := h
end Go.Proofs.YtadifolonbkamaaGreatDoor.Ca
namespace Go.Proofs.YtadifolonbkamaaGreatDoor.Ca
open Go.RowKit
end Go.Proofs.YtadifolonbkamaaGreatDoor.Ca
