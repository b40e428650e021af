/- The walk of the developers' complete: a logical line. -/
import Derived.Test.YthgpocbmkmmecaaDoorLnN
namespace Go.Proofs.YthgpocbmkmmecaaDoor
open Go.RowKit

theorem isB_only {T e : TypeId} {B b C : Nat} {bs : List Value} {w w' : World} (h : Lib.IsBuilderF T e B b bs w) (hg : w.grownBy w' (some C)) (hC : C < B) : Lib.IsBuilderF T e B b bs w' := by
  have key : ∀ p, Lib.BuilderAtF T e B b p bs w → Lib.BuilderAtF T e B b p bs w' := by
    rintro p ⟨h1, v, hbk, hown, hne⟩
    refine ⟨h1, v, (hg.block b (Array.getElem?_eq_some_iff.1 hbk).1 (by intro e; injection e with e; omega)).trans hbk, hown.kept hg ?_, hne⟩
    rcases hown.2 with ⟨rfl, _⟩ | ⟨g, cap, cur, fz, rfl, hB, _⟩
    · exact .inl rfl
    · refine .inr ?_
      intro e
      have : g = C := by simpa [Value.ownBlock] using e
      omega
  rcases h with h | h
  · exact .inl (key _ h)
  · exact .inr (key _ h)
/-- The machine at a line that may go on. -/
def goOn (acc cur : List UInt8) (n0 : Nat) (rows : List (List UInt8)) (i : Nat) : List (List UInt8 × Nat) :=
  if lastB cur = true then machL i (some (acc ++ (cur.dropLast ++ [32]), n0)) rows else (acc ++ cur, n0) :: machL i none rows
theorem goOn_first (r : List UInt8) (rows : List (List UInt8)) (i : Nat) (h : skipR r = false) : machL i none (r :: rows) = goOn [] r i rows (i + 1) := by
  rw [machL, h, if_neg (by simp)]
  rfl
theorem goOn_next (acc cur r : List UInt8) (n0 : Nat) (pre rows : List (List UInt8)) (i : Nat) (hl : lastB cur = true) (hp : ∀ x ∈ pre, remL x = true) (hr : remL r = false) :
    goOn acc cur n0 (pre ++ r :: rows) i = goOn (acc ++ (cur.dropLast ++ [32])) r n0 rows (i + pre.length + 1) := by
  unfold goOn
  rw [if_pos hl, mach_rem _ _ hp, machL, hr, if_neg (by simp)]
theorem goOn_end (acc cur : List UInt8) (n0 : Nat) (rows : List (List UInt8)) (i j : Nat) (hl : lastB cur = true) (hp : ∀ x ∈ rows, remL x = true) :
    goOn acc cur n0 rows i = goOn (acc ++ (cur.dropLast ++ [32])) [] n0 [] j := by
  unfold goOn
  have := mach_rem rows [] hp i (some (acc ++ (cur.dropLast ++ [32]), n0))
  rw [List.append_nil] at this
  rw [if_pos hl, this]
  simp [machL, lastB]
theorem goOn_stop (acc cur : List UInt8) (n0 : Nat) (rows : List (List UInt8)) (i : Nat) (hl : lastB cur = false) : goOn acc cur n0 rows i = (acc ++ cur, n0) :: machL i none rows := by
  unfold goOn
  rw [hl, if_neg (by simp)]
theorem lastIs_eq (s : ByteArray) : lastIs 92 s = lastB s.data.toList := rfl
def curBit : Value → Nat
  | .string s => if lastIs 92 s = true then 1 else 0
  | _ => 0
theorem curBit_str (s : ByteArray) : curBit (.string s) = if lastIs 92 s = true then 1 else 0 := rfl
/-- What complete gives. -/
def CompP (w : World) (C : Nat) (r t : ByteArray) (n : Nat) (e : Ending) (w' : World) : Prop :=
  w.grownBy w' (some C) ∧ ∃ (L : List UInt8) (t' : ByteArray) (n' : Nat), (∀ n0, goOn [] r.data.toList n0 (rowsOf t.data.toList) (n + 1) = (L, n0) :: machL (n' + 1) none (rowsOf t'.data.toList)) ∧
    e = .returned (.string (str L)) ∧ RdAt w' C t' n' ∧ t'.size ≤ t.size ∧ n' + t'.size ≤ n + t.size ∧ L.length ≤ r.size + t.size
set_option maxHeartbeats 4000000 in
theorem complete_any (C : Nat) (r t : ByteArray) (n : Nat) (hb : n + t.size ≤ 9007199254740992) (hr : r.size + t.size ≤ 4194304) (w : World) (h : RdAt w C t n) :
    Calls Tryd.prog 32 #[.pointer (some ⟨C, 0, none⟩), .string r] w (CompP w C r t n) := by
  have H : Hid (RdAt (w.alloc (.cells #[.pointer none, .slice none 0 0] 68)) C t n) := Blk.alloc h _
  have hC := h.lt
  have hfresh := Lib.hid (Lib.IsBuilderF.of (Lib.fresh_isBuilder 68 5 w))
  clear h
  go_enter Tryd.func32, Tryd.ntmps32
  go_wp2_with fail
  go_loopw [1] (fun v wr => ∃ (cur : ByteArray) (acc : List UInt8) (t1 : ByteArray) (n1 : Nat), v = .string cur ∧ t1.size ≤ t.size ∧ n1 + t1.size ≤ n + t.size ∧ acc.length + cur.size + t1.size ≤ r.size + t.size ∧
      Hid (∀ n0, goOn [] r.data.toList n0 (rowsOf t.data.toList) (n + 1) = goOn acc cur.data.toList n0 (rowsOf t1.data.toList) (n1 + 1)) ∧
      Hid (Lib.IsBuilderF 68 5 w.heap.size w.heap.size (Lib.byteCells acc) wr) ∧ Hid (RdAt wr C t1 n1) ∧ Hid (w.grownBy wr (some C))) (fun v wr => 2 * rdLeft C wr + curBit v)
  case atStart => exact ⟨r, [], t, n, rfl, Nat.le_refl _, Nat.le_refl _, by simp, Lib.hid (fun _ => rfl), hfresh, H, only_alloc (World.grownBy.refl w _) _⟩
  case round =>
    obtain ⟨cur, acc, t1, n1, rfl, hts, hns, hlen, hgo, HB, HR, HG⟩ := hrel
    have hws : w.heap.size ≤ wr.heap.size := HG.out.size
    have hcm : cur.size ≤ maxLen := by unfold maxLen; omega
    have hce := cutEnd_size 92 cur
    have hbl : (Lib.byteCells acc).length = acc.length := Lib.byteCells_length _
    rcases hl : lastIs 92 cur with _ | _
    · have HL := Lib.hid hl
      have hcut : cutEnd 92 cur = cur := by unfold cutEnd; rw [hl, if_neg (by simp)]
      have HC := Lib.hid hcut
      clear hcut hce
      go_wp2_with fail
      refine (cutEnd_any 92 _ hcm _).mono ?_
      rintro e w1 ⟨rfl, rfl⟩
      rw [HC.out, HL.out]
      go_wp2_with fail
      refine (writeString_any w.heap.size w.heap.size _ cur _ (by exact HB.out) (by omega) (by exact hws)).mono ?_
      rintro e w3 ⟨rfl, hB3, hb3⟩
      have HB3 : Hid (Lib.IsBuilderF 68 5 w.heap.size w.heap.size (Lib.byteCells (acc ++ cur.data.toList)) w3) := by rw [Lib.byteCells_append]; exact hB3
      have Hb3 := Lib.hid hb3
      have hw3 : w.heap.size ≤ w3.heap.size := Nat.le_trans hws hb3.size
      clear hB3 hb3
      go_wp2_with fail
      refine (Tryd.Builder_String_any_k _ _ _ _ HB3.out hw3).mono ?_
      rintro e w4 ⟨rfl, hB4, hb4, _⟩
      have HBx := Lib.hid (Hb3.out.trans hb4)
      clear hb4 hB4
      go_wp2_with fail
      go_ret
      refine ⟨only_below HG.out HBx.out (Nat.le_refl _), acc ++ cur.data.toList, t1, n1, ?_, rfl, Blk.below HR.out HBx.out hC, hts, hns, ?_⟩
      · intro n0
        rw [hgo.out n0, goOn_stop _ _ _ _ _ (by rw [← lastIs_eq]; exact HL.out)]
      · rw [List.length_append, size_list]; omega
    · have HL := Lib.hid hl
      have hcut : (cutEnd 92 cur).data.toList = cur.data.toList.dropLast := by unfold cutEnd; rw [hl, if_pos rfl]; rfl
      have hcur : 0 < cur.size := by
        rcases Nat.eq_zero_or_pos cur.size with h0 | h0
        · rw [lastIs_eq, nil_of_size h0] at hl; cases hl
        · exact h0
      have hcs : (cutEnd 92 cur).size = cur.size - 1 := by rw [← size_list, hcut, List.length_dropLast, size_list]
      have HC := Lib.hid hcut
      have HS := Lib.hid hcs
      clear hcut hcs
      go_wp2_with fail
      refine (cutEnd_any 92 _ hcm _).mono ?_
      rintro e w1 ⟨rfl, rfl⟩
      rw [HL.out]
      go_wp2_with fail
      refine (writeString_any w.heap.size w.heap.size _ (cutEnd 92 cur) _ (by exact HB.out) (by omega) (by exact hws)).mono ?_
      rintro e w3 ⟨rfl, hB3, hb3⟩
      have HB3 : Hid (Lib.IsBuilderF 68 5 w.heap.size w.heap.size (Lib.byteCells (acc ++ cur.data.toList.dropLast)) w3) := by rw [Lib.byteCells_append, ← HC.out]; exact hB3
      have Hb3 := Lib.hid hb3
      have hw3 : w.heap.size ≤ w3.heap.size := Nat.le_trans hws hb3.size
      clear hB3 hb3
      go_wp2_with fail
      refine (writeByte_any w.heap.size w.heap.size _ 32 _ HB3.out (by rw [Lib.byteCells_length, List.length_append, List.length_dropLast, size_list]; omega) hw3).mono ?_
      rintro e w4 ⟨rfl, hB4, hb4⟩
      have HB4 : Hid (Lib.IsBuilderF 68 5 w.heap.size w.heap.size (Lib.byteCells (acc ++ (cur.data.toList.dropLast ++ [32]))) w4) := by rw [← List.append_assoc, Lib.byteCells_append]; exact hB4
      have Hb4 := Lib.hid (Hb3.out.trans hb4)
      have HR4 : Hid (RdAt w4 C t1 n1) := Blk.below HR.out Hb4.out hC
      have HG4 := Lib.hid (only_below HG.out Hb4.out (Nat.le_refl _))
      clear hB4 hb4
      go_wp2_with fail
      refine (next_any C t1 n1 (by omega) _ HR4.out).mono ?_
      rintro e w5 ⟨hg5, ⟨pre, r2, t2, n2, hrows, hpre, hr2, hn2, hs1, hs2, hs3, rfl, hR5⟩ | ⟨n2, hpre, hs1, rfl, hR5⟩⟩
      · have HB5 : Hid (Lib.IsBuilderF 68 5 w.heap.size w.heap.size (Lib.byteCells (acc ++ (cur.data.toList.dropLast ++ [32]))) w5) := isB_only HB4.out hg5 hC
        have HG5 := Lib.hid (only_trans HG4.out ⟨hg5.os, hg5.tape, hg5.output, hg5.size, hg5.block⟩)
        have hl0 := Lib.hid (rdLeft_eq (HR.out.cell 0))
        have hl1 := Lib.hid (rdLeft_eq (Blk.cell hR5 0))
        have HR5 := Lib.hid hR5
        have HGO : Hid (∀ n0, goOn [] r.data.toList n0 (rowsOf t.data.toList) (n + 1) = goOn (acc ++ (cur.data.toList.dropLast ++ [32])) r2.data.toList n0 (rowsOf t2.data.toList) (n2 + 1)) := by
          show ∀ _, _
          intro n0
          rw [hgo.out n0, hrows, goOn_next _ _ _ _ _ _ _ (by rw [← lastIs_eq]; exact HL.out) hpre hr2, hn2]
          congr 1; omega
        have hlen2 : (acc ++ (cur.data.toList.dropLast ++ [32])).length + r2.size + t2.size ≤ r.size + t.size := by
          rw [List.length_append, List.length_append, List.length_dropLast, size_list]
          simp only [List.length_cons, List.length_nil]
          omega
        have hb2 : n2 + t2.size ≤ n + t.size := by omega
        have ht2 : t2.size ≤ t.size := by omega
        clear hg5 hrows hpre hr2 hn2 hR5
        go_wp2_with fail
        go_roundw
        case rel => exact ⟨r2, _, t2, n2, rfl, ht2, hb2, hlen2, HGO, HB5, HR5, HG5⟩
        case measure =>
          rw [hl0.out, hl1.out, curBit_str, curBit_str]
          (repeat' split) <;> omega
      · have HB5 : Hid (Lib.IsBuilderF 68 5 w.heap.size w.heap.size (Lib.byteCells (acc ++ (cur.data.toList.dropLast ++ [32]))) w5) := isB_only HB4.out hg5 hC
        have HG5 := Lib.hid (only_trans HG4.out ⟨hg5.os, hg5.tape, hg5.output, hg5.size, hg5.block⟩)
        have hl0 := Lib.hid (rdLeft_eq (HR.out.cell 0))
        have hl1 := Lib.hid (rdLeft_eq (Blk.cell hR5 0))
        have HR5 := Lib.hid hR5
        have HGO : Hid (∀ n0, goOn [] r.data.toList n0 (rowsOf t.data.toList) (n + 1) = goOn (acc ++ (cur.data.toList.dropLast ++ [32])) (⟨#[]⟩ : ByteArray).data.toList n0 (rowsOf (⟨#[]⟩ : ByteArray).data.toList) (n2 + 1)) := by
          show ∀ _, _
          intro n0
          have e0 : rowsOf (⟨#[]⟩ : ByteArray).data.toList = [] := rowsOf_nil
          rw [hgo.out n0, e0]
          exact goOn_end _ _ _ _ _ _ (by rw [← lastIs_eq]; exact HL.out) hpre
        have hlen2 : (acc ++ (cur.data.toList.dropLast ++ [32])).length + (⟨#[]⟩ : ByteArray).size + (⟨#[]⟩ : ByteArray).size ≤ r.size + t.size := by
          rw [List.length_append, List.length_append, List.length_dropLast, size_list]
          show acc.length + (cur.size - 1 + 1) + 0 + 0 ≤ _
          omega
        have hb2 : n2 + (⟨#[]⟩ : ByteArray).size ≤ n + t.size := by show n2 + 0 ≤ _; omega
        clear hg5 hpre hR5
        go_wp2_with fail
        go_roundw
        case rel => exact ⟨⟨#[]⟩, _, ⟨#[]⟩, n2, rfl, Nat.zero_le _, hb2, hlen2, HGO, HB5, HR5, HG5⟩
        case measure =>
          rw [hl0.out, hl1.out, curBit_str, curBit_str, HL.out]
          have e0 : lastIs 92 (⟨#[]⟩ : ByteArray) = false := rfl
          rw [e0, if_neg (by simp), if_pos rfl]
          show 2 * 0 + 0 < _
          omega
end Go.Proofs.YthgpocbmkmmecaaDoor
