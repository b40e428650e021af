/- The walk of the document's own Blanks: the words of a text. Words on memory: a block that is known whole, what turns one -/
import Derived.Test.YtadifolonbkamaaGreatDoorKcaa
import Derived.Deep.DeepCutAuto
import Derived.Deep.CutBlock
import Derived.Deep.LoopGhost
import Derived.Outline
import Derived.Laws.AppendOwn
import Derived.Deep.AppendLies
import Derived.RangeFuncBox
import Derived.Test.YtadifolonbkamaaGreatDoorKcab
import Derived.Lib.CutLaws
import Derived.Deep.QuietTactic
namespace Go.Proofs.YtadifolonbkamaaGreatDoor
open Go.RowKit
theorem new_cell (w : World) (t : TypeId) (v : Value) : (w.alloc (.cells #[v] t)).cell? ⟨w.heap.size, 0, none⟩ = some v := by simp
theorem owns_drewN {w : World} {base : Nat} {e : TypeId} {size : Nat} {v : Value} {n : Nat} {xs : List Value} (h : w.ownsRow base e size v n xs) (k : Nat) : (w.drewN k).ownsRow base e size v n xs := h
def wcells (ls : List (List UInt8)) : List Value := ls.map fun l => Value.string (str l)
theorem wcells_length (ls : List (List UInt8)) : (wcells ls).length = ls.length := by simp [wcells]
theorem wcells_app (a b : List (List UInt8)) : wcells (a ++ b) = wcells a ++ wcells b := by simp [wcells]
def bAt (s by_ : ByteArray) (i : Nat) (done : List (List UInt8)) (w : List UInt8) : Prop :=
  if i ≤ s.size then blanksL by_.data.toList s.data.toList = done ++ bgo by_.data.toList w (s.data.toList.drop i) else blanksL by_.data.toList s.data.toList = done ∧ w = []
theorem bAt_zero (s by_ : ByteArray) : bAt s by_ 0 [] [] := by
  unfold bAt
  rw [if_pos (Nat.zero_le _), List.drop_zero]
  rfl
theorem bAt_in {s by_ : ByteArray} {i : Nat} {done : List (List UInt8)} {w : List UInt8} (h : bAt s by_ i done w) (hi : i < s.size) (hc : by_.data.toList.contains s[i] = false) : bAt s by_ (i + 1) done (w ++ [s[i]]) := by
  unfold bAt at *
  rw [if_pos (by omega)] at h
  rw [if_pos (by omega), h, drop_at s i hi, bgo, if_neg (by rw [hc]; simp)]
theorem bAt_gap {s by_ : ByteArray} {i : Nat} {done : List (List UInt8)} (h : bAt s by_ i done []) (hi : i < s.size) (hc : by_.data.toList.contains s[i] = true) : bAt s by_ (i + 1) done [] := by
  unfold bAt at *
  rw [if_pos (by omega)] at h
  rw [if_pos (by omega), h, drop_at s i hi, bgo, if_pos hc, if_pos rfl]
theorem bAt_word {s by_ : ByteArray} {i : Nat} {done : List (List UInt8)} {w : List UInt8} (h : bAt s by_ i done w) (hi : i < s.size) (hc : by_.data.toList.contains s[i] = true) (hw : w ≠ []) : bAt s by_ (i + 1) (done ++ [w]) [] := by
  unfold bAt at *
  rw [if_pos (by omega)] at h
  rw [if_pos (by omega), h, drop_at s i hi, bgo, if_pos hc, if_neg hw, List.append_assoc]
  rfl
theorem bAt_end0 {s by_ : ByteArray} {i : Nat} {done : List (List UInt8)} (h : bAt s by_ i done []) (hi : i = s.size) : bAt s by_ (i + 1) done [] := by
  unfold bAt at *
  rw [if_pos (by omega)] at h
  rw [if_neg (by omega), h, List.drop_of_length_le (by simp; omega), bgo, if_pos rfl, List.append_nil]
  exact ⟨rfl, rfl⟩
theorem bAt_end {s by_ : ByteArray} {i : Nat} {done : List (List UInt8)} {w : List UInt8} (h : bAt s by_ i done w) (hi : i = s.size) (hw : w ≠ []) : bAt s by_ (i + 1) (done ++ [w]) [] := by
  unfold bAt at *
  rw [if_pos (by omega)] at h
  rw [if_neg (by omega), h, List.drop_of_length_le (by simp; omega), bgo, if_neg hw]
  exact ⟨rfl, rfl⟩
theorem bAt_done {s by_ : ByteArray} {i : Nat} {done : List (List UInt8)} {w : List UInt8} (h : bAt s by_ i done w) (hi : s.size < i) : blanksL by_.data.toList s.data.toList = done := by
  unfold bAt at h
  rw [if_neg (by omega)] at h
  exact h.1
def inBy (by_ : ByteArray) (j : Nat) (c : UInt8) : Bool := (by_.data.toList.take j).contains c
theorem inBy_succ (by_ : ByteArray) (j : Nat) (c : UInt8) (h : j < by_.size) : inBy by_ (j + 1) c = (inBy by_ j c || ((c.toNat : Int) == (by_[j].toNat : Int))) := by
  unfold inBy
  rw [List.take_succ_eq_append_getElem (by simpa using h)]
  rw [List.contains_eq_any_beq, List.contains_eq_any_beq, List.any_append]
  congr 1
  rw [Bool.eq_iff_iff]
  simp only [List.any_cons, List.any_nil, Bool.or_false, beq_iff_eq]
  constructor
  · intro e; rw [e]; rfl
  · intro e
    have : c = by_[j] := UInt8.toNat_inj.1 (by omega)
    rw [this]; rfl
theorem inBy_all (by_ : ByteArray) (j : Nat) (c : UInt8) (h : by_.size ≤ j) : inBy by_ j c = by_.data.toList.contains c := by
  unfold inBy
  rw [List.take_of_length_le (by simpa using h)]
def BlanksPost (s by_ : ByteArray) (w : World) (e : Ending) (w' : World) : Prop :=
  ∃ v, e = .returned v ∧ w'.ownsRow w.heap.size 9 1 v (blanksL by_.data.toList s.data.toList).length (wcells (blanksL by_.data.toList s.data.toList)) ∧ Below w.heap.size w w'
theorem strInfo : (Tryz.prog.info? 9).map (fun i => (i.zero, i.size, i.bytes)) = some (some (.string ⟨#[]⟩), 1, 16) := by kernel_rfl
set_option maxHeartbeats 4000000 in
set_option maxRecDepth 100000 in
theorem Blanks_any (s by_ : ByteArray) (hs : s.size ≤ 4194304) (hby : by_.size ≤ 4194304) (w : World) :
    Calls Tryz.prog 29 #[.string s, .string by_] w (BlanksPost s by_ w) := by
  obtain ⟨i0, hi, hz0, hz1, hz2⟩ := info_parts strInfo
  have hat0 := Lib.hid (bAt_zero s by_)
  go_enter Tryz.func29, Tryz.ntmps29
  go_wp2_with fail
  go_loopw [5, 6, 7] (fun v x i wr => ∃ (k : Nat) (done : List (List UInt8)) (wd : List UInt8), k ≤ s.size + 1 ∧ done.length ≤ k ∧ wd.length ≤ k ∧ i = .int .i64 k ∧ x = .string (str wd) ∧ Hid (bAt s by_ k done wd) ∧ Hid (wr.ownsRow w.heap.size 9 1 v done.length (wcells done)) ∧ Hid (Below w.heap.size w wr)) (fun v x i wr => s.size + 1 - (intOf i).toNat)
  case atStart => exact ⟨0, [], [], Nat.zero_le _, Nat.le_refl _, Nat.le_refl _, rfl, rfl, hat0, World.ownsRow_nil _ _ _ _, Below.refl _ _⟩
  case round =>
    obtain ⟨k, done, wd, hk, hdl, hwl, rfl, rfl, hat, hB, hb⟩ := hrel
    have hbs : w.heap.size ≤ wr.heap.size := hb.out.size
    obtain ⟨wo, rfl⟩ : ∃ wo : World, wo = wr := ⟨_, rfl⟩
    have hwsz : (str wd).size ≤ k := hwl
    by_cases hlt : k < s.size
    · have b0 : (0 : Int) ≤ (k : Int) := by omega
      have b1 : (k : Int) < (s.size : Int) := by omega
      have b2 : (k : Int) ≤ (s.size : Int) := by omega
      have b3 : (k : Int) ≤ (k : Int) + 1 := by omega
      have b4 : (k : Int) + 1 ≤ (s.size : Int) := by omega
      have beq : ((k : Int) == (s.size : Int)) = false := by simp; omega
      obtain ⟨ct, hct⟩ : ∃ ct : Bool, by_.data.toList.contains s[k] = ct := ⟨_, rfl⟩
      have HC := Lib.hid hct
      clear hct
      go_upto_block 2 with fail
      go_cut [8] (fun s8 wx => s8 = .bool ct ∧ ∃ n, wx = wo.drewN n)
      case first =>
        go_wp2_with fail
        have hin0 := Lib.hid (show inBy by_ 0 s[k] = false by unfold inBy; simp)
        go_loopw [8, 9] (fun ap jj wi => ∃ (j n : Nat), j ≤ by_.size ∧ jj = .int .i64 j ∧ (∃ x : Bool, ap = .bool x ∧ Hid (inBy by_ j s[k] = x)) ∧ wi = wo.drewN n) (fun ap jj wi => by_.size - (intOf jj).toNat)
        case atStart => exact ⟨0, 0, Nat.zero_le _, rfl, ⟨false, rfl, hin0⟩, rfl⟩
        case round =>
          obtain ⟨j, n, hj, rfl, ⟨x, rfl, hx⟩, rfl⟩ := hrel
          by_cases hjl : j < by_.size
          · have j0 : (0 : Int) ≤ (j : Int) := by omega
            have j1 : (j : Int) < (by_.size : Int) := by omega
            have HS := Lib.hid (inBy_succ by_ j s[k] hjl)
            cases x with
            | true =>
              have hx1 : inBy by_ (j + 1) s[k] = true := by rw [HS.out, hx.out]; rfl
              have HX1 := Lib.hid hx1
              clear hx1
              go_wp2_with fail
              go_quiet (fail)
              go_wp2_with fail
              go_roundw
              case rel => exact ⟨j + 1, _, by omega, by go_num, ⟨_, rfl, HX1⟩, rfl⟩
              case measure => simp [intOf]; omega
            | false =>
              have hx1 : inBy by_ (j + 1) s[k] = ((s[k].toNat : Int) == (by_[j].toNat : Int)) := by rw [HS.out, hx.out]; rfl
              have HX1 := Lib.hid hx1
              clear hx1
              go_wp2_with fail
              go_quiet (fail)
              go_wp2_with fail
              go_roundw
              case rel =>
                exact ⟨j + 1, _, by omega, by go_num, ⟨_, rfl, HX1⟩, rfl⟩
              case measure => simp [intOf]; omega
          · have j1 : (by_.size : Int) ≤ (j : Int) := by omega
            have hx1 := inBy_all by_ j s[k] (by omega)
            rw [HC.out, hx.out] at hx1
            subst hx1
            go_wp2_with fail
            go_meet
            exact ⟨rfl, n, rfl⟩
      case rest =>
        obtain ⟨rfl, n, rfl⟩ := hcut
        have HBn := Lib.hid (owns_drewN hB.out n)
        have Hbn := Lib.hid (below_drewN hb.out n)
        cases ct with
        | false =>
          have hat1 := Lib.hid (bAt_in hat.out hlt HC.out)
          have HS := Lib.hid (one_slice s k hlt)
          go_wp2_with fail
          go_roundw
          case rel => exact ⟨k + 1, done, wd ++ [s[k]], by omega, by omega, by simp; omega, by go_num, by rw [HS.out, str_app], hat1, HBn, Hbn⟩
          case measure => simp [intOf]; omega
        | true =>
          by_cases hw : wd = []
          · subst hw
            have hat1 := Lib.hid (bAt_gap hat.out hlt HC.out)
            have e1 : (str ([] : List UInt8)).toList.isEmpty = true := by rw [isEmpty_iff]; rfl
            go_wp2_with fail
            go_roundw
            case rel => exact ⟨k + 1, done, [], by omega, by omega, by simp, by go_num, rfl, hat1, HBn, Hbn⟩
            case measure => simp [intOf]; omega
          · have hat1 := Lib.hid (bAt_word hat.out hlt HC.out hw)
            have e1 : (str wd).toList.isEmpty = false := by rw [isEmpty_iff, str_list]; simpa using hw
            clear hw
            go_wp2_with (at_builtin; refine wpList_append_own _ rfl _ _ 26 rfl w.heap.size 9 i0 (.string ⟨#[]⟩) 1 16 Tryz.underlying26 hi hz0 hz1 hz2 rfl (by decide) _ _ _ rfl ((owns_drewN hB.out n).alloc _) ⟨wo.heap.size, 0, none⟩ 1 1 [.string (str wd)] rfl rfl ?c1 ?c2 ?c3 ?c4 ?c5 ?_)
            case c1 =>
              intro j u hj
              match j, hj with
              | 0, hj =>
                simp at hj
                subst hj
                simp [Addr.add]
                exact new_cell (wo.drewN n) _ _
            case c2 => intro u hu; simp at hu; subst hu; rfl
            case c3 => unfold maxLen; omega
            case c4 => omega
            case c5 => simp; omega
            intro v' w2 hown' hgrow _
            have HB1 : Hid (w2.ownsRow w.heap.size 9 1 v' (done ++ [wd]).length (wcells (done ++ [wd]))) := by rw [wcells_app, List.length_append]; exact hown'
            have Hb1 : Hid (Below w.heap.size w w2) := ((below_drewN hb.out n).alloc (by simp; omega) _).grown hgrow (by simp; omega) (fun g hg => (hB.out.lt g hg).1)
            clear hown' hgrow
            go_wp2_with fail
            go_roundw
            case rel => exact ⟨k + 1, done ++ [wd], [], by omega, by simp; omega, by simp, by go_num, rfl, hat1, HB1, Hb1⟩
            case measure => simp [intOf]; omega
    · by_cases hend : k = s.size
      · subst hend
        have b1 : (s.size : Int) ≤ (s.size : Int) := by omega
        have beq : ((s.size : Int) == (s.size : Int)) = true := by simp
        go_upto_block 2 with fail
        go_cut [8] (fun s8 wx => s8 = .bool true ∧ ∃ n, wx = wo.drewN n)
        case first =>
          go_wp2_with fail
          refine wp_loop_rounds 1 ?_
          rw [rounds_succ]
          go_wp2_with fail
          all_goals (go_meet; exact ⟨rfl, 0, rfl⟩)
        case rest =>
          obtain ⟨rfl, n, rfl⟩ := hcut
          have HBn := Lib.hid (owns_drewN hB.out n)
          have Hbn := Lib.hid (below_drewN hb.out n)
          by_cases hw : wd = []
          · subst hw
            have hat1 := Lib.hid (bAt_end0 hat.out rfl)
            have e1 : (str ([] : List UInt8)).toList.isEmpty = true := by rw [isEmpty_iff]; rfl
            go_wp2_with fail
            go_roundw
            case rel => exact ⟨s.size + 1, done, [], by omega, by omega, by simp, by go_num, rfl, hat1, HBn, Hbn⟩
            case measure => simp [intOf]
          · have hat1 := Lib.hid (bAt_end hat.out rfl hw)
            have e1 : (str wd).toList.isEmpty = false := by rw [isEmpty_iff, str_list]; simpa using hw
            clear hw
            go_wp2_with (at_builtin; refine wpList_append_own _ rfl _ _ 26 rfl w.heap.size 9 i0 (.string ⟨#[]⟩) 1 16 Tryz.underlying26 hi hz0 hz1 hz2 rfl (by decide) _ _ _ rfl ((owns_drewN hB.out n).alloc _) ⟨wo.heap.size, 0, none⟩ 1 1 [.string (str wd)] rfl rfl ?c1 ?c2 ?c3 ?c4 ?c5 ?_)
            case c1 =>
              intro j u hj
              match j, hj with
              | 0, hj =>
                simp at hj
                subst hj
                simp [Addr.add]
                exact new_cell (wo.drewN n) _ _
            case c2 => intro u hu; simp at hu; subst hu; rfl
            case c3 => unfold maxLen; omega
            case c4 => omega
            case c5 => simp; omega
            intro v' w2 hown' hgrow _
            have HB1 : Hid (w2.ownsRow w.heap.size 9 1 v' (done ++ [wd]).length (wcells (done ++ [wd]))) := by rw [wcells_app, List.length_append]; exact hown'
            have Hb1 : Hid (Below w.heap.size w w2) := ((below_drewN hb.out n).alloc (by simp; omega) _).grown hgrow (by simp; omega) (fun g hg => (hB.out.lt g hg).1)
            clear hown' hgrow
            go_wp2_with fail
            go_roundw
            case rel => exact ⟨s.size + 1, done ++ [wd], [], by omega, by simp; omega, by simp, by go_num, rfl, hat1, HB1, Hb1⟩
            case measure => simp [intOf]
      · have hk2 : (s.size : Int) < (k : Int) := by omega
        have hD := Lib.hid (bAt_done hat.out (by omega))
        go_wp2_with fail
        go_ret
        exact ⟨_, rfl, by rw [hD.out]; exact hB.out, hb.out⟩
end Go.Proofs.YtadifolonbkamaaGreatDoor
namespace Go.Proofs.YtadifolonbkamaaGreatDoor
open Go.RowKit
def Blk (w : World) (g : Nat) (t : TypeId) (cs : Array Value) : Prop := w.heap[g]? = some (.cells cs t (0, 0))
section
variable {w w' : World} {g : Nat} {t : TypeId} {cs : Array Value}
theorem Blk.lt (h : Blk w g t cs) : g < w.heap.size := by
  rcases Nat.lt_or_ge g w.heap.size with hlt | hge
  · exact hlt
  · unfold Blk at h; rw [Array.getElem?_eq_none hge] at h; cases h
theorem Blk.cell (h : Blk w g t cs) (i : Nat) : w.cell? ⟨g, i, none⟩ = cs[i]? := cell_of_row w g i cs t (0, 0) h
theorem Blk.frozen (h : Blk w g t cs) (i : Nat) : w.frozen? ⟨g, i, none⟩ = false := by
  unfold Blk at h
  simp [World.frozen?, h]
theorem Blk.new (w : World) (t : TypeId) (cs : Array Value) : Blk (w.alloc (.cells cs t)) w.heap.size t cs := heap_alloc_new w _
theorem Blk.drewN (h : Blk w g t cs) (n : Nat) : Blk (w.drewN n) g t cs := h
theorem Blk.drew (h : Blk w g t cs) : Blk w.drew g t cs := h
theorem Blk.alloc (h : Blk w g t cs) (o : Obj) : Blk (w.alloc o) g t cs := (Below.heap_alloc w o g h.lt).trans h
theorem Blk.below {B : Nat} (h : Blk w g t cs) (hb : Below B w w') (hg : g < B) : Blk w' g t cs := (hb.block g hg).trans h
theorem Blk.setCell (h : Blk w g t cs) (i : Nat) (u : Value) : Blk (w.setCell ⟨g, i, none⟩ u) g t (cs.setIfInBounds i u) := by
  unfold Blk at h ⊢
  simp [World.setCell, Array.getElem?_modify, h]
theorem Blk.setOther (h : Blk w g t cs) {a : Addr} (ha : g ≠ a.block) (u : Value) : Blk (w.setCell a u) g t cs := (Below.heap_setCell w a u g ha).trans h
theorem Blk.grown {row : Option Nat} (h : Blk w g t cs) (hb : w.grownBy w' row) (hg : some g ≠ row) : Blk w' g t cs := (hb.block g h.lt hg).trans h
end
theorem more3 {B : Nat} {a b c : World} (h : Below B a b) (hB : B ≤ b.heap.size) (h2 : Below b.heap.size b c) : Below B a c := h.trans (h2.mono hB)
section
variable {a w w' : World} {row : Option Nat}
theorem only_setCell {g : Nat} (h : a.grownBy w (some g)) {p : Addr} (hp : p.block = g ∨ a.heap.size ≤ p.block) (u : Value) : a.grownBy (w.setCell p u) (some g) :=
  ⟨h.os, h.tape, h.output, by simpa [World.setCell] using h.size, fun i hi hne => (Below.heap_setCell w p u i (by
    rintro rfl
    rcases hp with hp | hp
    · exact hne (by rw [hp])
    · omega)).trans (h.block i hi hne)⟩
end
theorem own_below {base size n : Nat} {e : TypeId} {X Y : World} {v : Value} {xs : List Value} (h : X.ownsRow base e size v n xs) (hb : Below X.heap.size X Y) : Y.ownsRow base e size v n xs := by
  obtain ⟨q1, q2⟩ := h
  refine ⟨q1, ?_⟩
  rcases q2 with q2 | ⟨g, cap, cur, hv, hg, hbk, hr⟩
  · exact .inl q2
  · exact .inr ⟨g, cap, cur, hv, hg, Blk.below (t := e) (cs := cur) hbk hb (Array.getElem?_eq_some_iff.1 hbk).1, hr⟩
theorem own_set {base size n : Nat} {e : TypeId} {X : World} {v u : Value} {xs : List Value} {a : Addr} (h : X.ownsRow base e size v n xs) (ha : a.block < base) : (X.setCell a u).ownsRow base e size v n xs := by
  obtain ⟨q1, q2⟩ := h
  refine ⟨q1, ?_⟩
  rcases q2 with q2 | ⟨g, cap, cur, hv, hg, hbk, hr⟩
  · exact .inl q2
  · exact .inr ⟨g, cap, cur, hv, hg, (Blk.setOther (t := e) (cs := cur) hbk (by omega) u), hr⟩
def RowAt (w : World) (B : Nat) (A : Option Addr) (n : Nat) (l : List (List UInt8)) : Prop :=
  l.length = n ∧ n ≤ maxLen ∧ (0 < n → ∃ ad, A = some ad ∧ ad.block < B ∧ ∀ j x, l[j]? = some x → w.cell? (ad.add j) = some (.string (str x)))
theorem RowAt.none_ {w : World} {B : Nat} {A : Option Addr} : RowAt w B A 0 [] := ⟨rfl, Nat.zero_le _, fun h => by omega⟩
theorem rowAt_of_own {w : World} {base n nv cv : Nat} {A : Option Addr} {l : List (List UInt8)} (h : w.ownsRow base 9 1 (.slice A nv cv) n (wcells l)) (hn : n ≤ maxLen) : nv = n ∧ n ≤ cv ∧ RowAt w w.heap.size A n l := by
  have hl : l.length = n := by have := h.1; rw [wcells_length] at this; omega
  rcases h.2 with ⟨h1, h2⟩ | ⟨g, cap, cur, h1, h2, h3, h4, h5, h6, h7⟩
  · injection h1 with h1 h11 h12
    subst h2
    exact ⟨h11, Nat.zero_le _, hl, Nat.zero_le _, fun h => by omega⟩
  · injection h1 with h1 h11 h12
    subst h1 h11 h12
    refine ⟨rfl, h4, hl, hn, fun _ => ⟨_, rfl, (Array.getElem?_eq_some_iff.1 h3).1, fun j x hj => ?_⟩⟩
    refine h.cells (g := g) rfl j _ ?_
    unfold wcells
    rw [List.getElem?_map, hj]
    rfl
theorem block_addR (a : Addr) (n : Nat) : (a.add n).block = a.block := by unfold Addr.add; split <;> rfl
theorem RowAt.below {w w' : World} {B n : Nat} {A : Option Addr} {l : List (List UInt8)} (h : RowAt w B A n l) (hb : Below B w w') : RowAt w' B A n l :=
  ⟨h.1, h.2.1, fun hn => by
    obtain ⟨ad, e, hB, hc⟩ := h.2.2 hn
    exact ⟨ad, e, hB, fun j x hj => (hb.cell (by rw [block_addR]; exact hB)).trans (hc j x hj)⟩⟩
theorem RowAt.wide {w : World} {B B' n : Nat} {A : Option Addr} {l : List (List UInt8)} (h : RowAt w B A n l) (hB : B ≤ B') : RowAt w B' A n l :=
  ⟨h.1, h.2.1, fun hn => by
    obtain ⟨ad, e, h2, hc⟩ := h.2.2 hn
    exact ⟨ad, e, by omega, hc⟩⟩
theorem RowAt.at_ {w : World} {B n : Nat} {A : Option Addr} {l : List (List UInt8)} (h : RowAt w B A n l) {k : Nat} (hk : k < n) : ∃ ad x, A = some ad ∧ ad.block < B ∧ l[k]? = some x ∧ w.cell? (ad.add k) = some (.string (str x)) := by
  obtain ⟨ad, e, hB, hc⟩ := h.2.2 (by omega)
  have hl : k < l.length := by have := h.1; omega
  exact ⟨ad, l[k], e, hB, List.getElem?_eq_getElem hl, hc k _ (List.getElem?_eq_getElem hl)⟩
theorem RowAt.drewN {w : World} {B n : Nat} {A : Option Addr} {l : List (List UInt8)} (h : RowAt w B A n l) (j : Nat) : RowAt (w.drewN j) B A n l := h
end Go.Proofs.YtadifolonbkamaaGreatDoor
namespace Go.Proofs.YtadifolonbkamaaGreatDoor
open Go.RowKit
def cutX (c : UInt8) : List UInt8 → List UInt8 × List UInt8 × Bool
  | [] => ([], [], false)
  | x :: r => if x = c then ([], r, true) else (x :: (cutX c r).1, (cutX c r).2.1, (cutX c r).2.2)
theorem cutX_no {c : UInt8} {l : List UInt8} (h : (cutX c l).2.2 = false) : c ∉ l ∧ (cutX c l).1 = l := by
  induction l with
  | nil => exact ⟨by simp, rfl⟩
  | cons x l ih =>
    rw [cutX] at h ⊢
    by_cases hx : x = c
    · rw [if_pos hx] at h; cases h
    · rw [if_neg hx] at h ⊢
      obtain ⟨h1, h2⟩ := ih h
      refine ⟨?_, by rw [h2]⟩
      rw [List.mem_cons]
      rintro (e | e)
      · exact hx e.symm
      · exact h1 e
theorem cutX_yes {c : UInt8} {l : List UInt8} (h : (cutX c l).2.2 = true) : c ∉ (cutX c l).1 ∧ l = (cutX c l).1 ++ c :: (cutX c l).2.1 := by
  induction l with
  | nil => cases h
  | cons x l ih =>
    rw [cutX] at h ⊢
    by_cases hx : x = c
    · rw [if_pos hx]; exact ⟨by simp, by rw [hx]; rfl⟩
    · rw [if_neg hx] at h ⊢
      obtain ⟨h1, h2⟩ := ih h
      refine ⟨?_, by simpa using h2⟩
      rw [List.mem_cons]
      rintro (e | e)
      · exact hx e.symm
      · exact h1 e
theorem cut_cutX (c : UInt8) (l : List UInt8) : Lib.cut l [c] = cutX c l := by
  induction l with
  | nil => rfl
  | cons x l ih =>
    have hge := Lib.index_ge l [c]
    have hp : ([c].isPrefixOf (x :: l)) = decide (x = c) := by
      rw [Bool.eq_iff_iff]; simp [List.isPrefixOf]; exact eq_comm
    rw [cutX]
    unfold Lib.cut at ih ⊢
    have e : Lib.index (x :: l) [c] = if x = c then 0 else if Lib.index l [c] = -1 then -1 else Lib.index l [c] + 1 := by
      rw [Lib.index, hp]
      by_cases h : x = c <;> simp [h]
    by_cases hx : x = c
    · rw [e, if_pos hx, if_pos hx]; rfl
    · rw [e, if_neg hx, if_neg hx, ← ih]
      by_cases h1 : Lib.index l [c] = -1
      · rw [if_pos h1, if_neg (by omega), if_neg (by omega)]
      · rw [if_neg h1, if_pos (by omega), if_pos (by omega)]
        have e2 : (Lib.index l [c] + 1).toNat = (Lib.index l [c]).toNat + 1 := by omega
        rw [e2]; rfl
def cutA (c : UInt8) (s : ByteArray) : ByteArray := str (cutX c s.data.toList).1
def cutB (c : UInt8) (s : ByteArray) : ByteArray := str (cutX c s.data.toList).2.1
def cutF (c : UInt8) (s : ByteArray) : Bool := (cutX c s.data.toList).2.2
theorem cutC_no {c : UInt8} {s : ByteArray} (h : cutF c s = false) : c ∉ s.data.toList ∧ cutA c s = s := by
  obtain ⟨h1, h2⟩ := cutX_no h
  exact ⟨h1, by unfold cutA; rw [h2, str_data]⟩
theorem cutC_yes {c : UInt8} {s : ByteArray} (h : cutF c s = true) : c ∉ (cutA c s).data.toList ∧ s.data.toList = (cutA c s).data.toList ++ c :: (cutB c s).data.toList ∧ (cutA c s).size + (cutB c s).size + 1 = s.size := by
  obtain ⟨h1, h2⟩ := cutX_yes h
  refine ⟨h1, h2, ?_⟩
  have := congrArg List.length h2
  rw [size_list] at this
  rw [this, List.length_append, List.length_cons]
  rfl
set_option maxHeartbeats 2000000 in
set_option maxRecDepth 100000 in
theorem liteCut_c (c : UInt8) (s : ByteArray) (hs : s.size ≤ maxLen) (w : World) :
    Calls Tryz.prog 138 #[.string s, .string ⟨#[c]⟩] w fun e w' => e = .returned (.tuple #[.string (cutA c s), .string (cutB c s), .bool (cutF c s)]) ∧ ∃ n, w' = w.drewN n := by
  unfold maxLen at hs
  have hi1 : Lib.indexByte s.data.toList c = Lib.indexB s ⟨#[c]⟩ := (Lib.index_one s.data.toList c).symm
  have hcut : Lib.cut s.data.toList (⟨#[c]⟩ : ByteArray).data.toList = cutX c s.data.toList := cut_cutX c s.data.toList
  rcases Lib.indexB_cases s ⟨#[c]⟩ with hix | ⟨i, hix, hroom⟩
  · obtain ⟨e1, e2, e3⟩ := Lib.cutB_miss s ⟨#[c]⟩ hix
    rw [hcut] at e1 e2 e3
    have E1 : cutA c s = _ := e1
    have E2 : cutB c s = _ := e2
    have E3 : cutF c s = _ := e3
    rw [E1, E2, E3]
    rw [hix] at hi1
    clear e1 e2 e3 E1 E2 E3 hix hcut
    have H := Lib.hid hi1
    clear hi1
    go_enter Tryz.func138, Tryz.ntmps138
    go_wp2_with (go_at_call 145; refine (Tryz.stringslite_Index_one _ _ _).mono ?_; rintro e w' ⟨rfl, rfl⟩; rw [H.out])
    go_ret3
    exact ⟨rfl, 0, rfl⟩
  · obtain ⟨e1, e2, e3⟩ := Lib.cutB_hit s ⟨#[c]⟩ i hix
    rw [hcut] at e1 e2 e3
    have E1 : cutA c s = _ := e1
    have E2 : cutB c s = _ := e2
    have E3 : cutF c s = _ := e3
    rw [E1, E2, E3]
    rw [hix] at hi1
    clear e1 e2 e3 E1 E2 E3 hix hcut
    have hsz : (⟨#[c]⟩ : ByteArray).size = 1 := rfl
    rw [hsz] at hroom ⊢
    clear hsz
    have H := Lib.hid hi1
    clear hi1
    have c1 : (0 : Int) ≤ ↑i := by omega
    have c2 : (↑i : Int) ≤ ↑s.size := by omega
    have c3 : (0 : Int) ≤ ↑i + 1 := by omega
    have c4 : (↑i + 1 : Int) ≤ ↑s.size := by omega
    go_enter Tryz.func138, Tryz.ntmps138
    go_wp2_with (go_at_call 145; refine (Tryz.stringslite_Index_one _ _ _).mono ?_; rintro e w' ⟨rfl, rfl⟩; rw [H.out])
    go_region
    go_wp2
    go_ret3
    exact ⟨rfl, 1, rfl⟩
set_option maxHeartbeats 1000000 in
theorem cut_c (c : UInt8) (s : ByteArray) (hs : s.size ≤ maxLen) (w : World) :
    Calls Tryz.prog 112 #[.string s, .string ⟨#[c]⟩] w fun e w' => e = .returned (.tuple #[.string (cutA c s), .string (cutB c s), .bool (cutF c s)]) ∧ ∃ n, w' = w.drewN n := by
  go_enter Tryz.func112, Tryz.ntmps112
  go_wp2_with (go_at_call 138; refine (liteCut_c _ _ hs _).mono ?_; rintro e w' ⟨rfl, n, rfl⟩)
  go_ret3
  exact ⟨rfl, n, rfl⟩
end Go.Proofs.YtadifolonbkamaaGreatDoor
