/- The walk of the document's own Blanks: the words of a text. -/
import Derived.Test.YtfjfhbmbngogpaaSpK
import Derived.Deep.DeepCutAuto
import Derived.Deep.CutBlock
import Derived.Deep.LoopGhost
import Derived.Outline
namespace Go.Proofs.Ytfjfhbmbngogpaa
open Go.RowKit

theorem new_cell (w : World) (t : TypeId) (v : Value) : (w.alloc (.cells #[v] t)).cell? ⟨w.heap.size, 0, none⟩ = some v := by simp
theorem owns_drewN {w : World} {base : Nat} {e : TypeId} {size : Nat} {v : Value} {n : Nat} {xs : List Value} (h : w.ownsRow base e size v n xs) (k : Nat) : (w.drewN k).ownsRow base e size v n xs := h

def wcells (ls : List (List UInt8)) : List Value := ls.map fun l => Value.string (str l)
theorem wcells_length (ls : List (List UInt8)) : (wcells ls).length = ls.length := by simp [wcells]
theorem wcells_app (a b : List (List UInt8)) : wcells (a ++ b) = wcells a ++ wcells b := by simp [wcells]

/-- What the loop knows at place i: these words are done, this one has begun. -/
def bAt (s by_ : ByteArray) (i : Nat) (done : List (List UInt8)) (w : List UInt8) : Prop :=
  if i ≤ s.size then blanksL by_.data.toList s.data.toList = done ++ bgo by_.data.toList w (s.data.toList.drop i) else blanksL by_.data.toList s.data.toList = done ∧ w = []
theorem bAt_zero (s by_ : ByteArray) : bAt s by_ 0 [] [] := by
  unfold bAt
  rw [if_pos (Nat.zero_le _), List.drop_zero]
  rfl
theorem bAt_in {s by_ : ByteArray} {i : Nat} {done : List (List UInt8)} {w : List UInt8} (h : bAt s by_ i done w) (hi : i < s.size) (hc : by_.data.toList.contains s[i] = false) : bAt s by_ (i + 1) done (w ++ [s[i]]) := by
  unfold bAt at *
  rw [if_pos (by omega)] at h
  rw [if_pos (by omega), h, drop_at s i hi, bgo, if_neg (by rw [hc]; simp)]
theorem bAt_gap {s by_ : ByteArray} {i : Nat} {done : List (List UInt8)} (h : bAt s by_ i done []) (hi : i < s.size) (hc : by_.data.toList.contains s[i] = true) : bAt s by_ (i + 1) done [] := by
  unfold bAt at *
  rw [if_pos (by omega)] at h
  rw [if_pos (by omega), h, drop_at s i hi, bgo, if_pos hc, if_pos rfl]
theorem bAt_word {s by_ : ByteArray} {i : Nat} {done : List (List UInt8)} {w : List UInt8} (h : bAt s by_ i done w) (hi : i < s.size) (hc : by_.data.toList.contains s[i] = true) (hw : w ≠ []) : bAt s by_ (i + 1) (done ++ [w]) [] := by
  unfold bAt at *
  rw [if_pos (by omega)] at h
  rw [if_pos (by omega), h, drop_at s i hi, bgo, if_pos hc, if_neg hw, List.append_assoc]
  rfl
theorem bAt_end0 {s by_ : ByteArray} {i : Nat} {done : List (List UInt8)} (h : bAt s by_ i done []) (hi : i = s.size) : bAt s by_ (i + 1) done [] := by
  unfold bAt at *
  rw [if_pos (by omega)] at h
  rw [if_neg (by omega), h, List.drop_of_length_le (by simp; omega), bgo, if_pos rfl, List.append_nil]
  exact ⟨rfl, rfl⟩
theorem bAt_end {s by_ : ByteArray} {i : Nat} {done : List (List UInt8)} {w : List UInt8} (h : bAt s by_ i done w) (hi : i = s.size) (hw : w ≠ []) : bAt s by_ (i + 1) (done ++ [w]) [] := by
  unfold bAt at *
  rw [if_pos (by omega)] at h
  rw [if_neg (by omega), h, List.drop_of_length_le (by simp; omega), bgo, if_neg hw]
  exact ⟨rfl, rfl⟩
theorem bAt_done {s by_ : ByteArray} {i : Nat} {done : List (List UInt8)} {w : List UInt8} (h : bAt s by_ i done w) (hi : s.size < i) : blanksL by_.data.toList s.data.toList = done := by
  unfold bAt at h
  rw [if_neg (by omega)] at h
  exact h.1
/-- Does a byte stand among the first j of by? -/
def inBy (by_ : ByteArray) (j : Nat) (c : UInt8) : Bool := (by_.data.toList.take j).contains c
theorem inBy_succ (by_ : ByteArray) (j : Nat) (c : UInt8) (h : j < by_.size) : inBy by_ (j + 1) c = (inBy by_ j c || ((c.toNat : Int) == (by_[j].toNat : Int))) := by
  unfold inBy
  rw [List.take_succ_eq_append_getElem (by simpa using h)]
  rw [List.contains_eq_any_beq, List.contains_eq_any_beq, List.any_append]
  congr 1
  rw [Bool.eq_iff_iff]
  simp only [List.any_cons, List.any_nil, Bool.or_false, beq_iff_eq]
  constructor
  · intro e; rw [e]; rfl
  · intro e
    have : c = by_[j] := UInt8.toNat_inj.1 (by omega)
    rw [this]; rfl
theorem inBy_all (by_ : ByteArray) (j : Nat) (c : UInt8) (h : by_.size ≤ j) : inBy by_ j c = by_.data.toList.contains c := by
  unfold inBy
  rw [List.take_of_length_le (by simpa using h)]

def BlanksPost (s by_ : ByteArray) (w : World) (e : Ending) (w' : World) : Prop :=
  ∃ v, e = .returned v ∧ w'.ownsRow w.heap.size 9 1 v (blanksL by_.data.toList s.data.toList).length (wcells (blanksL by_.data.toList s.data.toList)) ∧ Below w.heap.size w w'

theorem strInfo : (Try.prog.info? 9).map (fun i => (i.zero, i.size, i.bytes)) = some (some (.string ⟨#[]⟩), 1, 16) := by kernel_rfl

set_option maxHeartbeats 4000000 in
set_option maxRecDepth 100000 in
theorem Blanks_any (s by_ : ByteArray) (hs : s.size ≤ 4194304) (hby : by_.size ≤ 4194304) (w : World) :
    Calls Try.prog 34 #[.string s, .string by_] w (BlanksPost s by_ w) := by
  obtain ⟨i0, hi, hz0, hz1, hz2⟩ := info_parts strInfo
  have hat0 := Lib.hid (bAt_zero s by_)
  go_enter Try.func34, Try.ntmps34
  go_wp2_with fail
  go_loopw [5, 6, 7] (fun v x i wr => ∃ (k : Nat) (done : List (List UInt8)) (wd : List UInt8), k ≤ s.size + 1 ∧ done.length ≤ k ∧ wd.length ≤ k ∧ i = .int .i64 k ∧ x = .string (str wd) ∧ Hid (bAt s by_ k done wd) ∧ Hid (wr.ownsRow w.heap.size 9 1 v done.length (wcells done)) ∧ Hid (Below w.heap.size w wr)) (fun v x i wr => s.size + 1 - (intOf i).toNat)
  case atStart => exact ⟨0, [], [], Nat.zero_le _, Nat.le_refl _, Nat.le_refl _, rfl, rfl, hat0, World.ownsRow_nil _ _ _ _, Below.refl _ _⟩
  case round =>
    obtain ⟨k, done, wd, hk, hdl, hwl, rfl, rfl, hat, hB, hb⟩ := hrel
    have hbs : w.heap.size ≤ wr.heap.size := hb.out.size
    obtain ⟨wo, rfl⟩ : ∃ wo : World, wo = wr := ⟨_, rfl⟩
    have hwsz : (str wd).size ≤ k := hwl
    by_cases hlt : k < s.size
    · have b0 : (0 : Int) ≤ (k : Int) := by omega
      have b1 : (k : Int) < (s.size : Int) := by omega
      have b2 : (k : Int) ≤ (s.size : Int) := by omega
      have b3 : (k : Int) ≤ (k : Int) + 1 := by omega
      have b4 : (k : Int) + 1 ≤ (s.size : Int) := by omega
      have beq : ((k : Int) == (s.size : Int)) = false := by simp; omega
      obtain ⟨ct, hct⟩ : ∃ ct : Bool, by_.data.toList.contains s[k] = ct := ⟨_, rfl⟩
      have HC := Lib.hid hct
      clear hct
      go_upto_block 2 with fail
      go_cut [8] (fun s8 wx => s8 = .bool ct ∧ ∃ n, wx = wo.drewN n)
      case first =>
        go_wp2_with fail
        have hin0 := Lib.hid (show inBy by_ 0 s[k] = false by unfold inBy; simp)
        go_loopw [8, 9] (fun ap jj wi => ∃ (j n : Nat), j ≤ by_.size ∧ jj = .int .i64 j ∧ (∃ x : Bool, ap = .bool x ∧ Hid (inBy by_ j s[k] = x)) ∧ wi = wo.drewN n) (fun ap jj wi => by_.size - (intOf jj).toNat)
        case atStart => exact ⟨0, 0, Nat.zero_le _, rfl, ⟨false, rfl, hin0⟩, rfl⟩
        case round =>
          obtain ⟨j, n, hj, rfl, ⟨x, rfl, hx⟩, rfl⟩ := hrel
          by_cases hjl : j < by_.size
          · have j0 : (0 : Int) ≤ (j : Int) := by omega
            have j1 : (j : Int) < (by_.size : Int) := by omega
            have HS := Lib.hid (inBy_succ by_ j s[k] hjl)
            cases x with
            | true =>
              have hx1 : inBy by_ (j + 1) s[k] = true := by rw [HS.out, hx.out]; rfl
              have HX1 := Lib.hid hx1
              clear hx1
              go_wp2_with fail
              go_quiet (fail)
              go_wp2_with fail
              go_roundw
              case rel => exact ⟨j + 1, _, by omega, by go_num, ⟨_, rfl, HX1⟩, rfl⟩
              case measure => simp [intOf]; omega
            | false =>
              have hx1 : inBy by_ (j + 1) s[k] = ((s[k].toNat : Int) == (by_[j].toNat : Int)) := by rw [HS.out, hx.out]; rfl
              have HX1 := Lib.hid hx1
              clear hx1
              go_wp2_with fail
              go_quiet (fail)
              go_wp2_with fail
              go_roundw
              case rel =>
                exact ⟨j + 1, _, by omega, by go_num, ⟨_, rfl, HX1⟩, rfl⟩
              case measure => simp [intOf]; omega
          · have j1 : (by_.size : Int) ≤ (j : Int) := by omega
            have hx1 := inBy_all by_ j s[k] (by omega)
            rw [HC.out, hx.out] at hx1
            subst hx1
            go_wp2_with fail
            go_meet
            exact ⟨rfl, n, rfl⟩
      case rest =>
        obtain ⟨rfl, n, rfl⟩ := hcut
        have HBn := Lib.hid (owns_drewN hB.out n)
        have Hbn := Lib.hid (below_drewN hb.out n)
        cases ct with
        | false =>
          have hat1 := Lib.hid (bAt_in hat.out hlt HC.out)
          have HS := Lib.hid (one_slice s k hlt)
          go_wp2_with fail
          go_roundw
          case rel => exact ⟨k + 1, done, wd ++ [s[k]], by omega, by omega, by simp; omega, by go_num, by rw [HS.out, str_app], hat1, HBn, Hbn⟩
          case measure => simp [intOf]; omega
        | true =>
          by_cases hw : wd = []
          · subst hw
            have hat1 := Lib.hid (bAt_gap hat.out hlt HC.out)
            have e1 : (str ([] : List UInt8)).toList.isEmpty = true := by rw [isEmpty_iff]; rfl
            go_wp2_with fail
            go_roundw
            case rel => exact ⟨k + 1, done, [], by omega, by omega, by simp, by go_num, rfl, hat1, HBn, Hbn⟩
            case measure => simp [intOf]; omega
          · have hat1 := Lib.hid (bAt_word hat.out hlt HC.out hw)
            have e1 : (str wd).toList.isEmpty = false := by rw [isEmpty_iff, str_list]; simpa using hw
            clear hw
            go_wp2_with (at_builtin; refine wpList_append_own _ rfl _ _ 31 rfl w.heap.size 9 i0 (.string ⟨#[]⟩) 1 16 Try.underlying31 hi hz0 hz1 hz2 rfl (by decide) _ _ _ rfl ((owns_drewN hB.out n).alloc _) ⟨wo.heap.size, 0, none⟩ 1 1 [.string (str wd)] rfl rfl ?c1 ?c2 ?c3 ?c4 ?c5 ?_)
            case c1 =>
              intro j u hj
              match j, hj with
              | 0, hj =>
                simp at hj
                subst hj
                simp [Addr.add]
                exact new_cell (wo.drewN n) _ _
            case c2 => intro u hu; simp at hu; subst hu; rfl
            case c3 => unfold maxLen; omega
            case c4 => omega
            case c5 => simp; omega
            intro v' w2 hown' hgrow _
            have HB1 : Hid (w2.ownsRow w.heap.size 9 1 v' (done ++ [wd]).length (wcells (done ++ [wd]))) := by rw [wcells_app, List.length_append]; exact hown'
            have Hb1 : Hid (Below w.heap.size w w2) := ((below_drewN hb.out n).alloc (by simp; omega) _).grown hgrow (by simp; omega) (fun g hg => (hB.out.lt g hg).1)
            clear hown' hgrow
            go_wp2_with fail
            go_roundw
            case rel => exact ⟨k + 1, done ++ [wd], [], by omega, by simp; omega, by simp, by go_num, rfl, hat1, HB1, Hb1⟩
            case measure => simp [intOf]; omega
    · by_cases hend : k = s.size
      · subst hend
        have b1 : (s.size : Int) ≤ (s.size : Int) := by omega
        have beq : ((s.size : Int) == (s.size : Int)) = true := by simp
        go_upto_block 2 with fail
        go_cut [8] (fun s8 wx => s8 = .bool true ∧ ∃ n, wx = wo.drewN n)
        case first =>
          go_wp2_with fail
          refine wp_loop_rounds 1 ?_
          rw [rounds_succ]
          go_wp2_with fail
          all_goals (go_meet; exact ⟨rfl, 0, rfl⟩)
        case rest =>
          obtain ⟨rfl, n, rfl⟩ := hcut
          have HBn := Lib.hid (owns_drewN hB.out n)
          have Hbn := Lib.hid (below_drewN hb.out n)
          by_cases hw : wd = []
          · subst hw
            have hat1 := Lib.hid (bAt_end0 hat.out rfl)
            have e1 : (str ([] : List UInt8)).toList.isEmpty = true := by rw [isEmpty_iff]; rfl
            go_wp2_with fail
            go_roundw
            case rel => exact ⟨s.size + 1, done, [], by omega, by omega, by simp, by go_num, rfl, hat1, HBn, Hbn⟩
            case measure => simp [intOf]
          · have hat1 := Lib.hid (bAt_end hat.out rfl hw)
            have e1 : (str wd).toList.isEmpty = false := by rw [isEmpty_iff, str_list]; simpa using hw
            clear hw
            go_wp2_with (at_builtin; refine wpList_append_own _ rfl _ _ 31 rfl w.heap.size 9 i0 (.string ⟨#[]⟩) 1 16 Try.underlying31 hi hz0 hz1 hz2 rfl (by decide) _ _ _ rfl ((owns_drewN hB.out n).alloc _) ⟨wo.heap.size, 0, none⟩ 1 1 [.string (str wd)] rfl rfl ?c1 ?c2 ?c3 ?c4 ?c5 ?_)
            case c1 =>
              intro j u hj
              match j, hj with
              | 0, hj =>
                simp at hj
                subst hj
                simp [Addr.add]
                exact new_cell (wo.drewN n) _ _
            case c2 => intro u hu; simp at hu; subst hu; rfl
            case c3 => unfold maxLen; omega
            case c4 => omega
            case c5 => simp; omega
            intro v' w2 hown' hgrow _
            have HB1 : Hid (w2.ownsRow w.heap.size 9 1 v' (done ++ [wd]).length (wcells (done ++ [wd]))) := by rw [wcells_app, List.length_append]; exact hown'
            have Hb1 : Hid (Below w.heap.size w w2) := ((below_drewN hb.out n).alloc (by simp; omega) _).grown hgrow (by simp; omega) (fun g hg => (hB.out.lt g hg).1)
            clear hown' hgrow
            go_wp2_with fail
            go_roundw
            case rel => exact ⟨s.size + 1, done ++ [wd], [], by omega, by simp; omega, by simp, by go_num, rfl, hat1, HB1, Hb1⟩
            case measure => simp [intOf]
      · have hk2 : (s.size : Int) < (k : Int) := by omega
        have hD := Lib.hid (bAt_done hat.out (by omega))
        go_wp2_with fail
        go_ret
        exact ⟨_, rfl, by rw [hD.out]; exact hB.out, hb.out⟩
end Go.Proofs.Ytfjfhbmbngogpaa
