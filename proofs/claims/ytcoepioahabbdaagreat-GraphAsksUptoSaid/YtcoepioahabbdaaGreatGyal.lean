/- The walks of package name over parse: join, isTemplate, May, Kind, Parts. The walks of package name's Template, Instance -/
import Derived.Test.YtcoepioahabbdaaGreatGyak
import Derived.Deep.QuietTactic
import Derived.Laws.StructEq
import Derived.Laws.BitsAllLaws
import Derived.Laws.BitsLemmas
import Derived.Test.YtcoepioahabbdaaGreatRows
import Derived.ProofKit
import Derived.OpenShut
import Derived.JoinedCond
namespace Go.Proofs.YtcoepioahabbdaaGreat.Nm
open Go.RowKit
set_option maxHeartbeats 1000000 in
theorem May_any (s : ByteArray) (hs : s.size ≤ maxLen) (w : World) :
    Calls Tryz.prog 45 #[.string s] w fun e w' => e = .returned (.bool (goodP s)) ∧ Below w.heap.size w w' := by
  go_enter Tryz.func45, Tryz.ntmps45
  go_wp2_with fail
  refine (parse_any _ hs _).mono ?_
  rintro e w1 ⟨rfl, hb⟩
  go_wp2_with fail
  go_ret
  exact ⟨rfl, hb.alloc hb.size _⟩
set_option maxHeartbeats 1000000 in
theorem Kind_any (s : ByteArray) (hs : s.size ≤ maxLen) (w : World) :
    Calls Tryz.prog 48 #[.string s] w fun e w' => e = .returned (.int .i64 (kindP s)) ∧ Below w.heap.size w w' := by
  go_enter Tryz.func48, Tryz.ntmps48
  go_wp2_with fail
  refine (parse_any _ hs _).mono ?_
  rintro e w1 ⟨rfl, hb⟩
  go_wp2_with fail
  go_ret
  exact ⟨rfl, hb.alloc hb.size _⟩
def joinS (p i : ByteArray) (a : Bool) (k : Int) : ByteArray := (if a = true then p ++ ((⟨#[64]⟩ : ByteArray) ++ i) else p) ++ (⟨#[46]⟩ : ByteArray) ++ str (sfx k)
theorem sfx_length (k : Int) : (sfx k).length ≤ 7 := by
  unfold sfx
  split
  · simp
  · split
    · simp
    · split
      · simp
      · split <;> simp
set_option maxHeartbeats 1000000 in
theorem join_any (p i : ByteArray) (a : Bool) (k : Int) (hsz : p.size + i.size ≤ 4611686018427387904) (w : World) :
    Calls Tryz.prog 68 #[.agg #[.string p, .string i, .bool a, .int .i64 k]] w fun e w' => e = .returned (.string (joinS p i a k)) ∧ Below w.heap.size w w' := by
  have hk := sfx_length k
  have hk2 : (str (sfx k)).size ≤ 7 := hk
  cases a
  · have HJ : Hid (joinS p i false k = p ++ (⟨#[46]⟩ : ByteArray) ++ str (sfx k)) := rfl
    go_enter Tryz.func68, Tryz.ntmps68
    go_wp2_with (go_at_call 67; refine (Suffix_any _ _).mono ?_; rintro e w' ⟨rfl, rfl⟩)
    go_ret
    exact ⟨ret_str HJ.out.symm, (Below.refl _ _).alloc (Nat.le_refl _) _⟩
  · have HJ : Hid (joinS p i true k = p ++ ((⟨#[64]⟩ : ByteArray) ++ i) ++ (⟨#[46]⟩ : ByteArray) ++ str (sfx k)) := rfl
    go_enter Tryz.func68, Tryz.ntmps68
    go_wp2_with (go_at_call 67; refine (Suffix_any _ _).mono ?_; rintro e w' ⟨rfl, rfl⟩)
    go_ret
    exact ⟨ret_str HJ.out.symm, (Below.refl _ _).alloc (Nat.le_refl _) _⟩
end Go.Proofs.YtcoepioahabbdaaGreat.Nm
namespace Go.Proofs.YtcoepioahabbdaaGreat.Nm
open Go.RowKit
theorem preP_size (s : ByteArray) : (preP s).size ≤ 60 := by
  unfold preP
  split
  · rename_i h
    unfold goodP at h
    simp only [Bool.and_eq_true, decide_eq_true_eq] at h
    have h1 := (cutAt_size (headP s)).1
    have h2 : (headP s).size ≤ s.size := by unfold headP; rw [ByteArray.size_extract]; omega
    omega
  · exact Nat.zero_le _
theorem instP_size (s : ByteArray) : (instP s).size ≤ 60 := by
  unfold instP
  split
  · rename_i h
    unfold goodP at h
    simp only [Bool.and_eq_true, decide_eq_true_eq] at h
    have h1 := (cutAt_size (headP s)).2
    have h2 : (headP s).size ≤ s.size := by unfold headP; rw [ByteArray.size_extract]; omega
    omega
  · exact Nat.zero_le _
theorem joinS_size (p i : ByteArray) (a : Bool) (k : Int) : (joinS p i a k).size ≤ p.size + i.size + 9 := by
  have := sfx_length k
  have h2 : (str (sfx k)).size ≤ 7 := this
  unfold joinS
  rw [ByteArray.size_append, ByteArray.size_append]
  have e1 : (⟨#[46]⟩ : ByteArray).size = 1 := rfl
  have e2 : (⟨#[64]⟩ : ByteArray).size = 1 := rfl
  split
  · rw [ByteArray.size_append, ByteArray.size_append]; omega
  · omega
theorem below_more {B : Nat} {a W w2 : World} (h : Below B a W) (hB : B ≤ W.heap.size) (h2 : Below W.heap.size W w2) : Below B a w2 := h.trans (h2.mono hB)
def chgS (s : ByteArray) (k : Int) : ByteArray := if goodP s = true ∧ (str (sfx k)).toList.isEmpty = false ∧ goodP (joinS (preP s) (instP s) (atP s) k) = true then joinS (preP s) (instP s) (atP s) k else ⟨#[]⟩
set_option maxHeartbeats 1000000 in
theorem Change_any (s : ByteArray) (k : Int) (hs : s.size ≤ maxLen) (w : World) :
    Calls Tryz.prog 42 #[.string s, .int .i64 k] w fun e w' => e = .returned (.string (chgS s k)) ∧ Below w.heap.size w w' := by
  have hp := preP_size s
  have hi := instP_size s
  rcases hg : goodP s with _ | _
  · have H : Hid (chgS s k = ⟨#[]⟩) := by unfold chgS; rw [if_neg (by simp [hg])]; rfl
    go_enter Tryz.func42, Tryz.ntmps42
    go_wp2_with fail
    refine (parse_any _ hs _).mono ?_
    rintro e w1 ⟨rfl, hb⟩
    go_wp2_with fail
    go_ret
    exact ⟨ret_str H.out.symm, hb.alloc hb.size _⟩
  · rcases hk : (str (sfx k)).toList.isEmpty with _ | _
    · have hj := joinS_size (preP s) (instP s) (atP s) k
      rcases hm : goodP (joinS (preP s) (instP s) (atP s) k) with _ | _
      · have H : Hid (chgS s k = ⟨#[]⟩) := by unfold chgS; rw [if_neg (by simp [hm])]; rfl
        go_enter Tryz.func42, Tryz.ntmps42
        go_wp2_with fail
        refine (parse_any _ hs _).mono ?_
        rintro e w1 ⟨rfl, hb⟩
        go_wp2_with fail
        refine (Suffix_any _ _).mono ?_
        rintro e w2 ⟨rfl, rfl⟩
        go_wp2_with fail
        refine (join_any _ _ _ _ (by omega) _).mono ?_
        rintro e w2 ⟨rfl, hb2⟩
        have hb2' := below_more (hb.alloc hb.size _) (by have := hb.size; simp; omega) hb2
        go_wp2_with fail
        refine (May_any _ (by unfold maxLen; omega) _).mono ?_
        rintro e w3 ⟨rfl, hb3⟩
        go_wp2_with fail
        go_ret
        exact ⟨ret_str H.out.symm, below_more hb2' hb2'.size hb3⟩
      · have H : Hid (chgS s k = joinS (preP s) (instP s) (atP s) k) := by unfold chgS; rw [if_pos ⟨hg, hk, hm⟩]; rfl
        go_enter Tryz.func42, Tryz.ntmps42
        go_wp2_with fail
        refine (parse_any _ hs _).mono ?_
        rintro e w1 ⟨rfl, hb⟩
        go_wp2_with fail
        refine (Suffix_any _ _).mono ?_
        rintro e w2 ⟨rfl, rfl⟩
        go_wp2_with fail
        refine (join_any _ _ _ _ (by omega) _).mono ?_
        rintro e w2 ⟨rfl, hb2⟩
        have hb2' := below_more (hb.alloc hb.size _) (by have := hb.size; simp; omega) hb2
        go_wp2_with fail
        refine (May_any _ (by unfold maxLen; omega) _).mono ?_
        rintro e w3 ⟨rfl, hb3⟩
        go_wp2_with fail
        go_ret
        exact ⟨ret_str H.out.symm, below_more hb2' hb2'.size hb3⟩
    · have H : Hid (chgS s k = ⟨#[]⟩) := by unfold chgS; rw [if_neg (by simp [hk])]; rfl
      go_enter Tryz.func42, Tryz.ntmps42
      go_wp2_with fail
      refine (parse_any _ hs _).mono ?_
      rintro e w1 ⟨rfl, hb⟩
      go_wp2_with fail
      refine (Suffix_any _ _).mono ?_
      rintro e w2 ⟨rfl, rfl⟩
      go_wp2_with fail
      go_ret
      exact ⟨ret_str H.out.symm, hb.alloc hb.size _⟩
def Blk (w : World) (g : Nat) (t : TypeId) (cs : Array Value) : Prop := w.heap[g]? = some (.cells cs t (0, 0))
theorem Blk.lt {w : World} {g : Nat} {t : TypeId} {cs : Array Value} (h : Blk w g t cs) : g < w.heap.size := by
  rcases Nat.lt_or_ge g w.heap.size with hlt | hge
  · exact hlt
  · unfold Blk at h; rw [Array.getElem?_eq_none hge] at h; cases h
theorem Blk.new (w : World) (t : TypeId) (cs : Array Value) : Blk (w.alloc (.cells cs t)) w.heap.size t cs := heap_alloc_new w _
theorem Blk.below {w w' : World} {g : Nat} {t : TypeId} {cs : Array Value} (h : Blk w g t cs) (hb : Below w.heap.size w w') : Blk w' g t cs := (hb.block g h.lt).trans h
theorem Blk.alloc {w : World} {g : Nat} {t : TypeId} {cs : Array Value} (h : Blk w g t cs) (o : Obj) : Blk (w.alloc o) g t cs := (Below.heap_alloc w o g h.lt).trans h
theorem Blk.set_ {w : World} {g : Nat} {t : TypeId} {cs : Array Value} (h : Blk w g t cs) (i : Nat) (u : Value) : Blk (w.setCell ⟨g, i, none⟩ u) g t (cs.setIfInBounds i u) := by
  unfold Blk at h ⊢
  simp [World.setCell, Array.getElem?_modify, h]
theorem Blk.four {w : World} {g : Nat} {t : TypeId} {a b c d : Value} (h : Blk w g t #[a, b, c, d]) :
    w.cell? ⟨g, 0, none⟩ = some a ∧ w.cell? ⟨g, 1, none⟩ = some b ∧ w.cell? ⟨g, 2, none⟩ = some c ∧ w.cell? ⟨g, 3, none⟩ = some d ∧ w.frozen? ⟨g, 0, none⟩ = false ∧ w.frozen? ⟨g, 1, none⟩ = false ∧ w.frozen? ⟨g, 2, none⟩ = false ∧ w.frozen? ⟨g, 3, none⟩ = false :=
  ⟨Lib.cell_of_heap h 0, Lib.cell_of_heap h 1, Lib.cell_of_heap h 2, Lib.cell_of_heap h 3, Lib.frozen_of_heap h 0, Lib.frozen_of_heap h 1, Lib.frozen_of_heap h 2, Lib.frozen_of_heap h 3⟩
end Go.Proofs.YtcoepioahabbdaaGreat.Nm
namespace Go.Proofs.YtcoepioahabbdaaGreat.Nm
open Go.RowKit
end Go.Proofs.YtcoepioahabbdaaGreat.Nm
namespace Go.Proofs.YtcoepioahabbdaaGreat.Nm
open Go.RowKit
end Go.Proofs.YtcoepioahabbdaaGreat.Nm
namespace Go.Proofs.YtcoepioahabbdaaGreat.Nm
open Go.RowKit
set_option maxHeartbeats 2000000 in
theorem rnameByte_any (c : Nat) (hc : c ≤ 255) (w : World) :
    Calls Tryz.prog 41 #[.int .u8 c] w fun e w' => e = .returned (.bool (bodyByte c)) ∧ w = w' := by
  have H : c ≤ 44 ∨ c = 45 ∨ c = 46 ∨ c = 47 ∨ (48 ≤ c ∧ c ≤ 57) ∨ c = 58 ∨ (59 ≤ c ∧ c ≤ 64) ∨ (65 ≤ c ∧ c ≤ 90) ∨ c = 91 ∨ c = 92 ∨ (93 ≤ c ∧ c ≤ 94) ∨ c = 95 ∨ c = 96 ∨ (97 ≤ c ∧ c ≤ 122) ∨ 123 ≤ c := by omega
  rcases H with h | rfl | rfl | rfl | ⟨h1, h2⟩ | rfl | ⟨h1, h2⟩ | ⟨h1, h2⟩ | rfl | rfl | ⟨h1, h2⟩ | rfl | rfl | ⟨h1, h2⟩ | h
  all_goals
    go_enter Tryz.func41, Tryz.ntmps41
    go_wp2
  all_goals try (exfalso; omega)
  all_goals go_ret
  all_goals (refine ⟨congrArg (fun b => Ending.returned (.bool b)) ?_, rfl⟩)
  all_goals first | rfl | (simp [bodyByte, plainB]; done) | (simp [bodyByte, plainB]; omega; done) | (rw [Bool.eq_iff_iff]; simp [bodyByte, plainB]; omega)
theorem rSuffix_any (k : Int) (w : World) :
    Calls Tryz.prog 40 #[.int .i64 k] w fun e w' => e = .returned (.string (str (sfx k))) ∧ w = w' := by
  have H : k = 1 ∨ k = 2 ∨ k = 3 ∨ k = 4 ∨ ((k == 1) = false ∧ (k == 2) = false ∧ (k == 3) = false ∧ (k == 4) = false) := by simp; omega
  rcases H with rfl | rfl | rfl | rfl | ⟨h1, h2, h3, h4⟩
  all_goals
    go_enter Tryz.func40, Tryz.ntmps40
    go_wp2
  all_goals go_ret
  all_goals (refine ⟨congrArg (fun b => Ending.returned (.string b)) ?_, rfl⟩)
  all_goals first | rfl | (simp at h1 h2 h3 h4; simp [sfx, h1, h2, h3, h4]; rfl)
end Go.Proofs.YtcoepioahabbdaaGreat.Nm
namespace Go.Proofs.YtcoepioahabbdaaGreat.Nm
open Go.RowKit
theorem drop_at (s : ByteArray) (k : Nat) (h : k < s.size) : s.data.toList.drop k = s[k] :: s.data.toList.drop (k + 1) := by
  rw [List.drop_eq_getElem_cons (by simpa using h)]; rfl
end Go.Proofs.YtcoepioahabbdaaGreat.Nm
namespace Go.Proofs.YtcoepioahabbdaaGreat.Nm
open Go.RowKit
theorem app_list (a b : ByteArray) : (a ++ b).data.toList = a.data.toList ++ b.data.toList := by rw [ByteArray.data_append, Array.toList_append]
theorem ext_list {a b : ByteArray} (h : a.data.toList = b.data.toList) : a = b := by rw [← str_data a, ← str_data b, h]
theorem joinS_list (p i : ByteArray) (a : Bool) (k : Int) : (joinS p i a k).data.toList = (if a = true then p.data.toList ++ 64 :: i.data.toList else p.data.toList) ++ 46 :: sfx k := by
  unfold joinS
  rw [app_list, app_list]
  cases a
  · simp [str]
  · simp [str]
theorem cut_nil : Lib.cut [] [64] = ([], [], false) := by decide
theorem cut_cons (c : UInt8) (r : List UInt8) : Lib.cut (c :: r) [64] = if c = 64 then ([], r, true) else (c :: (Lib.cut r [64]).1, (Lib.cut r [64]).2.1, (Lib.cut r [64]).2.2) := by
  have hg := Lib.index_ge r [64]
  by_cases h : c = 64
  · subst h
    simp [Lib.cut, Lib.index]
  · have h' : ([64].isPrefixOf (c :: r)) = false := by
      show ((64 : UInt8) == c && _) = false
      rw [beq_eq_false_iff_ne.2 (fun e => h e.symm)]; rfl
    rw [if_neg h]
    unfold Lib.cut
    rw [Lib.index, h']
    rw [if_neg Bool.false_ne_true]
    by_cases hi : Lib.index r [64] = -1
    · rw [hi]; rfl
    · have hi' : (Lib.index r [64] == -1) = false := by simpa using hi
      have h0 : 0 ≤ Lib.index r [64] := by omega
      rw [hi', if_neg Bool.false_ne_true]
      rw [if_pos (by omega), if_pos h0]
      have e1 : (Lib.index r [64] + 1).toNat = (Lib.index r [64]).toNat + 1 := by omega
      rw [e1]
      rfl
theorem pt_split (s : ByteArray) (i : Nat) (hi : i < s.size) (h : pt s = i) : s.data.toList = (headP s).data.toList ++ 46 :: (tailP s).data.toList := by
  have hs : s.data.toList.length = s.size := by simp
  rcases Lib.lastIndexByte_spec s 46 with ⟨h', _⟩ | ⟨j, hj, h', hc, _⟩
  · unfold pt at h; omega
  · have e : j = i := by unfold pt at h; omega
    subst e
    have h1 : (headP s).data.toList = s.data.toList.take j := by
      unfold headP; rw [h, Lib.extract_data]; simp
    have h2 : (tailP s).data.toList = s.data.toList.drop (j + 1) := by
      unfold tailP
      rw [h, Lib.extract_data]
      rw [List.take_of_length_le (by rw [List.length_drop]; simp)]
      simp
    rw [h1, h2]
    have h3 : s.data.toList[j]'(by omega) = 46 := by
      apply UInt8.toNat_inj.1
      rw [Array.getElem_toList, ← getElem!_pos s.data j (by simpa using hj)]
      show _ = 46
      omega
    rw [← h3, ← List.drop_eq_getElem_cons, List.take_append_drop]
theorem kindL_sfx (l : List UInt8) (h : kindL l ≠ 0) : sfx (kindL l) = l := by
  unfold kindL at *
  split at h
  · rename_i h'; rw [if_pos h']; exact h'.symm
  · rename_i h1
    rw [if_neg h1] at *
    split at h
    · rename_i h'; rw [if_pos h']; exact h'.symm
    · rename_i h2
      rw [if_neg h2] at *
      split at h
      · rename_i h'; rw [if_pos h']; exact h'.symm
      · rename_i h3
        rw [if_neg h3] at *
        split at h
        · rename_i h'; rw [if_pos h']; exact h'.symm
        · exact absurd rfl h
end Go.Proofs.YtcoepioahabbdaaGreat.Nm
namespace Go.Proofs.YtcoepioahabbdaaGreat.Nm
open Go.RowKit
theorem cut_of_join (p i : List UInt8) (hp : ∀ c ∈ p, c ≠ 64) : Lib.cut (p ++ 64 :: i) [64] = (p, i, true) := by
  induction p with
  | nil => rw [List.nil_append, cut_cons, if_pos rfl]
  | cons c r ih =>
    rw [List.cons_append, cut_cons, if_neg (hp c (List.mem_cons_self ..)), ih fun d hd => hp d (List.mem_cons_of_mem _ hd)]
theorem cut_of_plain (p : List UInt8) (hp : ∀ c ∈ p, c ≠ 64) : Lib.cut p [64] = (p, [], false) := by
  induction p with
  | nil => exact cut_nil
  | cons c r ih =>
    rw [cut_cons, if_neg (hp c (List.mem_cons_self ..)), ih fun d hd => hp d (List.mem_cons_of_mem _ hd)]
theorem sfx_cases (k : Int) : k = 1 ∨ k = 2 ∨ k = 3 ∨ k = 4 ∨ sfx k = [] := by
  by_cases h : k = 1 ∨ k = 2 ∨ k = 3 ∨ k = 4
  · rcases h with h | h | h | h <;> simp [h]
  · have h1 : k ≠ 1 := fun e => h (.inl e)
    have h2 : k ≠ 2 := fun e => h (.inr (.inl e))
    have h3 : k ≠ 3 := fun e => h (.inr (.inr (.inl e)))
    have h4 : k ≠ 4 := fun e => h (.inr (.inr (.inr e)))
    simp [sfx, h1, h2, h3, h4]
theorem sfx_nopoint (k : Int) : ∀ c ∈ sfx k, c ≠ 46 := by
  rcases sfx_cases k with rfl | rfl | rfl | rfl | h
  · decide
  · decide
  · decide
  · decide
  · rw [h]; simp
theorem kindL_of_sfx (k : Int) (h : sfx k ≠ []) : kindL (sfx k) = k ∧ k ≠ 0 := by
  rcases sfx_cases k with rfl | rfl | rfl | rfl | h'
  · decide
  · decide
  · decide
  · decide
  · exact absurd h' h
theorem pt_of_split (s : ByteArray) (h t : List UInt8) (e : s.data.toList = h ++ 46 :: t) (ht : ∀ c ∈ t, c ≠ 46) : pt s = h.length := by
  have hs : s.data.toList.length = s.size := by simp
  have hl : s.size = h.length + (t.length + 1) := by rw [← hs, e]; simp
  have hat : ∀ j (hj : j < s.size), s.data[j]! = s.data.toList[j]'(by omega) := fun j hj => by
    rw [Array.getElem_toList, getElem!_pos s.data j (by simpa using hj)]
  have h46 : s.data[h.length]! = 46 := by
    rw [hat _ (by omega)]
    simp [e]
  rcases Lib.lastIndexByte_spec s 46 with ⟨_, hn⟩ | ⟨i, hi, hp, hc, hn⟩
  · exact absurd (by rw [h46]; rfl) (hn h.length (by omega))
  · unfold pt
    rw [hp]
    rcases Nat.lt_trichotomy i h.length with hlt | heq | hgt
    · exact absurd (by rw [h46]; rfl) (hn h.length hlt (by omega))
    · rw [heq]
    · exfalso
      have e1 : s.data[i]! = 46 := UInt8.toNat_inj.1 (by show _ = 46; omega)
      rw [hat i hi] at e1
      have e2 : s.data.toList[i]'(by omega) = t[i - h.length - 1]'(by omega) := by
        simp only [e]
        rw [List.getElem_append_right (by omega), List.getElem_cons]
        rw [dif_neg (by omega)]
      rw [e2] at e1
      exact ht _ (List.getElem_mem _) e1
theorem head_of_split (s : ByteArray) (h t : List UInt8) (e : s.data.toList = h ++ 46 :: t) (ht : ∀ c ∈ t, c ≠ 46) : headP s = str h ∧ tailP s = str t := by
  have hs : s.data.toList.length = s.size := by simp
  have hp := pt_of_split s h t e ht
  constructor
  · apply ext_list
    unfold headP
    rw [hp, Lib.extract_data, e]
    simp [str]
  · apply ext_list
    unfold tailP
    rw [hp, Lib.extract_data]
    rw [List.take_of_length_le (by rw [List.length_drop, hs]; omega), e]
    simp [str]
end Go.Proofs.YtcoepioahabbdaaGreat.Nm
namespace Go.Proofs.YtcoepioahabbdaaGreat.Nm
open Go.RowKit
end Go.Proofs.YtcoepioahabbdaaGreat.Nm
namespace Go.Proofs.YtcoepioahabbdaaGreat.Nm
open Go.RowKit Go.ChangeShapes Go.WideShapes Go.ChangeAt
open Go.ChangeMaps (open_string shut_string)
theorem not_good (s : ByteArray) (h : goodP s = false) : preP s = ⟨#[]⟩ ∧ instP s = ⟨#[]⟩ ∧ atP s = false := by
  unfold preP instP atP
  rw [if_neg (by rw [h]; simp), if_neg (by rw [h]; simp), if_neg (by rw [h]; simp)]
  exact ⟨rfl, rfl, rfl⟩
theorem post_below {H : Type} {enc : TypeId × Value → H} {P : Program} {f : Func} {s : ChangeSpec} {apart fresh handsOn again : Bool} {W W' : World} {args : Array Value} {v : Value} {ds gs : List (DataW H)} {before pa pv : List MemPlace}
    (hW : DataW.Whole enc P f.params.toList s.vars apart W args.toList ds gs before)
    (hres : ∀ (b : Nat) (sp : Nat → Bool) (hd : Bool), DataW.TrodAll enc P W' b sp hd f.resultTypes.toList (v.resultList f.resultTypes.size) (s.fn H (ds ++ gs)).results [])
    (hargs : ∀ sp : Nat → Bool, (∀ p ∈ before, sp p.block = true) → DataW.TrodAll enc P W' 0 sp true f.params.toList args.toList (s.fn H (ds ++ gs)).args pa)
    (hvars : ∀ sp : Nat → Bool, (∀ p ∈ before, sp p.block = true) → DataW.TrodVars enc P W' sp s.vars (s.fn H (ds ++ gs)).vars pv)
    (hps : before = pa ++ pv) (hb : Below W.heap.size W W')
    (hok : ∀ (j : Nat) (t : TypeId) (r : Value), f.resultTypes[j]? = some t → (v.resultList f.resultTypes.size)[j]? = some r → Value.okWide P W' .any 0 t r) :
    s.post enc P f apart fresh handsOn again W args v W' := by
  have hlt : ∀ p ∈ before, p.block < W.heap.size := fun p hp => hW.lt p hp
  have hold : ∀ p ∈ before, (fun b => decide (b < W.heap.size)) p.block = true := fun p hp => by simpa using hlt p hp
  refine ⟨ds, gs, before, [], pa, pv, hW, hres _ _ _, hargs _ hold, hvars _ hold, World.keptBut_mono (fun p hp => ⟨hp, ?_⟩) (hb.frame (· ∈ before)), fun _ => ?_⟩
  · rw [hps, List.mem_append] at hp
    exact Or.inr hp
  · obtain ⟨_, _, _, _, _, hz, hn⟩ := hW
    refine ⟨hok, _, _, ([] ++ pa) ++ pv, ⟨[] ++ pa, pv, trodAll_append (hargs _ (fun _ _ => rfl)) (hres _ _ _), hvars _ (fun _ _ => rfl), rfl, ?_, ?_⟩, ?_⟩
    · intro b off hp
      have hin : MemPlace.cell b off ∈ before := by rw [hps]; simpa using hp
      rw [hb.frozen (hlt _ hin)]
      exact hz b off hin
    · intro ha
      have := hn ha
      rw [hps] at this
      simpa using this
    · intro p hp _
      rw [hps]
      simpa using hp
namespace namePieces
theorem own : ownKnob Tryz.prog.godebug = none := by kernel_rfl
end namePieces
end Go.Proofs.YtcoepioahabbdaaGreat.Nm
namespace Go.Proofs.YtcoepioahabbdaaGreat.Nm
open Go.RowKit Go.ChangeShapes Go.WideShapes Go.ChangeAt
open Go.ChangeMaps (open_string shut_string)
namespace nameTurn
theorem own : ownKnob Tryz.prog.godebug = none := by kernel_rfl
end nameTurn
end Go.Proofs.YtcoepioahabbdaaGreat.Nm
