/- The Builder's checks and writes, and strings.Cut at one byte, as this program has them. The walk of package name's parse -/
import Derived.Test.YtcoepioahabbdaaGreatGyah
import Derived.Test.YtcoepioahabbdaaGreatGyaj
import Derived.WalkKit
import Derived.BigQuiet
import Derived.Handy
import Derived.Lib.CutLaws
namespace Go.Proofs.YtcoepioahabbdaaGreat.Nm
open Go.RowKit
def cutAt (s : ByteArray) : List UInt8 × List UInt8 × Bool := Lib.cut s.data.toList [64]
set_option maxHeartbeats 2000000 in
set_option maxRecDepth 100000 in
theorem liteCut_at (s : ByteArray) (hs : s.size ≤ maxLen) (w : World) :
    Calls Tryz.prog 116 #[.string s, .string ⟨#[64]⟩] w fun e w' => e = .returned (.tuple #[.string (str (cutAt s).1), .string (str (cutAt s).2.1), .bool (cutAt s).2.2]) ∧ ∃ n, w' = w.drewN n := by
  unfold maxLen at hs
  have hi1 : Lib.indexByte s.data.toList 64 = Lib.indexB s ⟨#[64]⟩ := (Lib.index_one s.data.toList 64).symm
  rcases Lib.indexB_cases s ⟨#[64]⟩ with hix | ⟨i, hix, hroom⟩
  · obtain ⟨e1, e2, e3⟩ := Lib.cutB_miss s ⟨#[64]⟩ hix
    have E1 : str (cutAt s).1 = _ := e1
    have E2 : str (cutAt s).2.1 = _ := e2
    have E3 : (cutAt s).2.2 = _ := e3
    rw [E1, E2, E3]
    rw [hix] at hi1
    clear e1 e2 e3 E1 E2 E3 hix
    have H := Lib.hid hi1
    clear hi1
    go_enter Tryz.func116, Tryz.ntmps116
    go_wp2_with (go_at_call 126; refine (Tryz.stringslite_Index_one _ _ _).mono ?_; rintro e w' ⟨rfl, rfl⟩; rw [H.out])
    go_ret3
    exact ⟨rfl, 0, rfl⟩
  · obtain ⟨e1, e2, e3⟩ := Lib.cutB_hit s ⟨#[64]⟩ i hix
    have E1 : str (cutAt s).1 = _ := e1
    have E2 : str (cutAt s).2.1 = _ := e2
    have E3 : (cutAt s).2.2 = _ := e3
    rw [E1, E2, E3]
    rw [hix] at hi1
    clear e1 e2 e3 E1 E2 E3 hix
    have hsz : (⟨#[64]⟩ : ByteArray).size = 1 := rfl
    rw [hsz] at hroom ⊢
    clear hsz
    have H := Lib.hid hi1
    clear hi1
    have c1 : (0 : Int) ≤ ↑i := by omega
    have c2 : (↑i : Int) ≤ ↑s.size := by omega
    have c3 : (0 : Int) ≤ ↑i + 1 := by omega
    have c4 : (↑i + 1 : Int) ≤ ↑s.size := by omega
    go_enter Tryz.func116, Tryz.ntmps116
    go_wp2_with (go_at_call 126; refine (Tryz.stringslite_Index_one _ _ _).mono ?_; rintro e w' ⟨rfl, rfl⟩; rw [H.out])
    go_region
    go_wp2
    go_ret3
    exact ⟨rfl, 1, rfl⟩
set_option maxHeartbeats 1000000 in
theorem cut_at (s : ByteArray) (hs : s.size ≤ maxLen) (w : World) :
    Calls Tryz.prog 92 #[.string s, .string ⟨#[64]⟩] w fun e w' => e = .returned (.tuple #[.string (str (cutAt s).1), .string (str (cutAt s).2.1), .bool (cutAt s).2.2]) ∧ ∃ n, w' = w.drewN n := by
  go_enter Tryz.func92, Tryz.ntmps92
  go_wp2_with (go_at_call 116; refine (liteCut_at _ hs _).mono ?_; rintro e w' ⟨rfl, n, rfl⟩)
  go_ret3
  exact ⟨rfl, n, rfl⟩
end Go.Proofs.YtcoepioahabbdaaGreat.Nm
namespace Go.Proofs.YtcoepioahabbdaaGreat.Nm
open Go.RowKit
def pt (s : ByteArray) : Int := Lib.lastIndexByte s 46
def headP (s : ByteArray) : ByteArray := s.extract 0 (pt s).toNat
def tailP (s : ByteArray) : ByteArray := s.extract ((pt s).toNat + 1) s.size
def goodP (s : ByteArray) : Bool := decide (s.size ≤ 60) && (decide (0 ≤ pt s) && (decide (kindS (tailP s) ≠ 0) && (decide ((cutAt (headP s)).1 ≠ []) && (bodyS (str (cutAt (headP s)).1) && bodyS (str (cutAt (headP s)).2.1)))))
theorem below_drewN {B : Nat} {a w : World} (h : Below B a w) (n : Nat) : Below B a (w.drewN n) := ⟨h.os, h.tape, h.output, h.size, h.block⟩
theorem pt_cases (s : ByteArray) : pt s = -1 ∨ ∃ i : Nat, i < s.size ∧ pt s = i := by
  rcases Lib.lastIndexByte_spec s 46 with ⟨h, _⟩ | ⟨i, hi, h, _⟩
  · exact .inl h
  · exact .inr ⟨i, hi, h⟩
theorem str_size (l : List UInt8) : (str l).size = l.length := rfl
theorem cutAt_size (s : ByteArray) : (str (cutAt s).1).size ≤ s.size ∧ (str (cutAt s).2.1).size ≤ s.size := by
  rw [str_size, str_size, Lib.size_eq]
  unfold cutAt Lib.cut
  split <;> simp <;> omega
set_option maxHeartbeats 1000000 in
theorem parse_good (s : ByteArray) (hs : s.size ≤ maxLen) (h : goodP s = true) (w : World) :
    Calls Tryz.prog 66 #[.string s] w fun e w' => e = .returned (.tuple #[.agg #[.string (str (cutAt (headP s)).1), .string (str (cutAt (headP s)).2.1), .bool (cutAt (headP s)).2.2, .int .i64 (kindS (tailP s))], .bool true]) ∧ Below w.heap.size w w' := by
  unfold goodP at h
  simp only [Bool.and_eq_true, decide_eq_true_eq] at h
  obtain ⟨h60, hpt, hk, hp, hb1, hb2⟩ := h
  rcases pt_cases s with h1 | ⟨i, hi, h1⟩
  · omega
  · have hH : headP s = s.extract 0 i := by unfold headP; rw [h1]; rfl
    have hT : tailP s = s.extract (i + 1) s.size := by unfold tailP; rw [h1]; rfl
    rw [hH] at hp hb1 hb2 ⊢
    rw [hT] at hk ⊢
    have h1' := Lib.hid h1
    clear h1 hpt hH hT
    obtain ⟨hc1, hc2⟩ := cutAt_size (s.extract 0 i)
    have hx : (s.extract 0 i).size ≤ maxLen := by rw [ByteArray.size_extract]; unfold maxLen at *; omega
    have hx1 : (str (cutAt (s.extract 0 i)).1).size ≤ maxLen := by omega
    have hx2 : (str (cutAt (s.extract 0 i)).2.1).size ≤ maxLen := by omega
    clear hc1 hc2
    unfold maxLen at hs
    have hk' : (kindS (s.extract (i + 1) s.size) == 0) = false := by simpa using hk
    have hp' : (str (cutAt (s.extract 0 i)).1).toList.isEmpty = false := by rw [Lib.toList_data]; simpa [str] using hp
    clear hk hp
    go_enter Tryz.func66, Tryz.ntmps66
    go_wp2_with fail
    refine (Tryz.strings_LastIndexByte _ _ (by omega) _).mono ?_
    rintro e w' ⟨rfl, rfl⟩
    rw [show Lib.lastIndexByte s 46 = _ from h1'.out]
    go_wp2_with fail
    refine (kindOf_any _ _).mono ?_
    rintro e w' ⟨rfl, rfl⟩
    go_wp2_with fail
    refine (cut_at _ hx _).mono ?_
    rintro e w' ⟨rfl, n, rfl⟩
    go_wp2_with fail
    refine (isBody_any _ hx1 _).mono ?_
    rintro e w' ⟨rfl, rfl⟩
    go_wp2_with fail
    refine (isBody_any _ hx2 _).mono ?_
    rintro e w' ⟨rfl, rfl⟩
    go_wp2_with fail
    refine bodyPost_ret (v := .tuple #[.agg #[.string (str (cutAt (s.extract 0 i)).1), .string (str (cutAt (s.extract 0 i)).2.1), .bool (cutAt (s.extract 0 i)).2.2, .int .i64 (kindS (s.extract (i + 1) s.size))], .bool true]) (by simp [results, Tryz.results66, go_sem]) rfl ⟨rfl, ?_⟩
    go_grown
    exact below_drewN ((Below.refl _ _).alloc (Nat.le_refl _) _) n
def noneV : Value := .tuple #[.agg #[.string ⟨#[]⟩, .string ⟨#[]⟩, .bool false, .int .i64 0], .bool false]
set_option maxHeartbeats 1000000 in
theorem parse_long (s : ByteArray) (hs : s.size ≤ maxLen) (h : 60 < s.size) (w : World) :
    Calls Tryz.prog 66 #[.string s] w fun e w' => e = .returned noneV ∧ Below w.heap.size w w' := by
  unfold maxLen at hs
  go_enter Tryz.func66, Tryz.ntmps66
  go_wp2
  refine bodyPost_ret (v := noneV) (by simp [results, Tryz.results66, go_sem, noneV]) rfl ⟨rfl, ?_⟩
  exact (Below.refl _ _).alloc (Nat.le_refl _) _
set_option maxHeartbeats 1000000 in
theorem parse_nopoint (s : ByteArray) (hs : s.size ≤ maxLen) (h : s.size ≤ 60) (hp : pt s = -1) (w : World) :
    Calls Tryz.prog 66 #[.string s] w fun e w' => e = .returned noneV ∧ Below w.heap.size w w' := by
  unfold maxLen at hs
  have h1' := Lib.hid hp
  clear hp
  go_enter Tryz.func66, Tryz.ntmps66
  go_wp2_with fail
  refine (Tryz.strings_LastIndexByte _ _ (by omega) _).mono ?_
  rintro e w' ⟨rfl, rfl⟩
  rw [show Lib.lastIndexByte s 46 = _ from h1'.out]
  go_wp2_with fail
  refine bodyPost_ret (v := noneV) (by simp [results, Tryz.results66, go_sem, noneV]) rfl ⟨rfl, ?_⟩
  exact (Below.refl _ _).alloc (Nat.le_refl _) _
set_option maxHeartbeats 1000000 in
theorem parse_nokind (s : ByteArray) (hs : s.size ≤ maxLen) (h60 : s.size ≤ 60) (i : Nat) (hi : i < s.size) (h1 : pt s = i) (hk : kindS (s.extract (i + 1) s.size) = 0) (w : World) :
    Calls Tryz.prog 66 #[.string s] w fun e w' => e = .returned noneV ∧ Below w.heap.size w w' := by
  have h1' := Lib.hid h1
  clear h1
  obtain ⟨hc1, hc2⟩ := cutAt_size (s.extract 0 i)
  have hx : (s.extract 0 i).size ≤ maxLen := by rw [ByteArray.size_extract]; unfold maxLen at *; omega
  have hx1 : (str (cutAt (s.extract 0 i)).1).size ≤ maxLen := by omega
  have hx2 : (str (cutAt (s.extract 0 i)).2.1).size ≤ maxLen := by omega
  clear hc1 hc2
  unfold maxLen at hs
  have hk' : (kindS (s.extract (i + 1) s.size) == 0) = true := by simpa using hk
  clear hk
  go_enter Tryz.func66, Tryz.ntmps66
  go_wp2_with fail
  refine (Tryz.strings_LastIndexByte _ _ (by omega) _).mono ?_
  rintro e w' ⟨rfl, rfl⟩
  rw [show Lib.lastIndexByte s 46 = _ from h1'.out]
  go_wp2_with fail
  refine (kindOf_any _ _).mono ?_
  rintro e w' ⟨rfl, rfl⟩
  go_wp2_with fail
  refine (cut_at _ hx _).mono ?_
  rintro e w' ⟨rfl, n, rfl⟩
  go_wp2_with fail
  refine bodyPost_ret (v := noneV) (by simp [results, Tryz.results66, go_sem, noneV]) rfl ⟨rfl, ?_⟩
  go_grown
  exact below_drewN ((Below.refl _ _).alloc (Nat.le_refl _) _) n
set_option maxHeartbeats 1000000 in
theorem parse_noprefix (s : ByteArray) (hs : s.size ≤ maxLen) (h60 : s.size ≤ 60) (i : Nat) (hi : i < s.size) (h1 : pt s = i) (hk : kindS (s.extract (i + 1) s.size) ≠ 0) (hp : (cutAt (s.extract 0 i)).1 = []) (w : World) :
    Calls Tryz.prog 66 #[.string s] w fun e w' => e = .returned noneV ∧ Below w.heap.size w w' := by
  have h1' := Lib.hid h1
  clear h1
  obtain ⟨hc1, hc2⟩ := cutAt_size (s.extract 0 i)
  have hx : (s.extract 0 i).size ≤ maxLen := by rw [ByteArray.size_extract]; unfold maxLen at *; omega
  have hx1 : (str (cutAt (s.extract 0 i)).1).size ≤ maxLen := by omega
  have hx2 : (str (cutAt (s.extract 0 i)).2.1).size ≤ maxLen := by omega
  clear hc1 hc2
  unfold maxLen at hs
  have hk' : (kindS (s.extract (i + 1) s.size) == 0) = false := by simpa using hk
  clear hk
  have hp' : (str (cutAt (s.extract 0 i)).1).toList.isEmpty = true := by rw [Lib.toList_data]; simpa [str] using hp
  clear hp
  go_enter Tryz.func66, Tryz.ntmps66
  go_wp2_with fail
  refine (Tryz.strings_LastIndexByte _ _ (by omega) _).mono ?_
  rintro e w' ⟨rfl, rfl⟩
  rw [show Lib.lastIndexByte s 46 = _ from h1'.out]
  go_wp2_with fail
  refine (kindOf_any _ _).mono ?_
  rintro e w' ⟨rfl, rfl⟩
  go_wp2_with fail
  refine (cut_at _ hx _).mono ?_
  rintro e w' ⟨rfl, n, rfl⟩
  go_wp2_with fail
  refine bodyPost_ret (v := noneV) (by simp [results, Tryz.results66, go_sem, noneV]) rfl ⟨rfl, ?_⟩
  go_grown
  exact below_drewN ((Below.refl _ _).alloc (Nat.le_refl _) _) n
set_option maxHeartbeats 1000000 in
theorem parse_badprefix (s : ByteArray) (hs : s.size ≤ maxLen) (h60 : s.size ≤ 60) (i : Nat) (hi : i < s.size) (h1 : pt s = i) (hk : kindS (s.extract (i + 1) s.size) ≠ 0) (hp : (cutAt (s.extract 0 i)).1 ≠ []) (hb : bodyS (str (cutAt (s.extract 0 i)).1) = false) (w : World) :
    Calls Tryz.prog 66 #[.string s] w fun e w' => e = .returned noneV ∧ Below w.heap.size w w' := by
  have h1' := Lib.hid h1
  clear h1
  obtain ⟨hc1, hc2⟩ := cutAt_size (s.extract 0 i)
  have hx : (s.extract 0 i).size ≤ maxLen := by rw [ByteArray.size_extract]; unfold maxLen at *; omega
  have hx1 : (str (cutAt (s.extract 0 i)).1).size ≤ maxLen := by omega
  have hx2 : (str (cutAt (s.extract 0 i)).2.1).size ≤ maxLen := by omega
  clear hc1 hc2
  unfold maxLen at hs
  have hk' : (kindS (s.extract (i + 1) s.size) == 0) = false := by simpa using hk
  clear hk
  have hp' : (str (cutAt (s.extract 0 i)).1).toList.isEmpty = false := by rw [Lib.toList_data]; simpa [str] using hp
  clear hp
  go_enter Tryz.func66, Tryz.ntmps66
  go_wp2_with fail
  refine (Tryz.strings_LastIndexByte _ _ (by omega) _).mono ?_
  rintro e w' ⟨rfl, rfl⟩
  rw [show Lib.lastIndexByte s 46 = _ from h1'.out]
  go_wp2_with fail
  refine (kindOf_any _ _).mono ?_
  rintro e w' ⟨rfl, rfl⟩
  go_wp2_with fail
  refine (cut_at _ hx _).mono ?_
  rintro e w' ⟨rfl, n, rfl⟩
  go_wp2_with fail
  refine (isBody_any _ hx1 _).mono ?_
  rintro e w' ⟨rfl, rfl⟩
  go_wp2_with fail
  refine bodyPost_ret (v := noneV) (by simp [results, Tryz.results66, go_sem, noneV]) rfl ⟨rfl, ?_⟩
  go_grown
  exact below_drewN ((Below.refl _ _).alloc (Nat.le_refl _) _) n
set_option maxHeartbeats 1000000 in
theorem parse_badinst (s : ByteArray) (hs : s.size ≤ maxLen) (h60 : s.size ≤ 60) (i : Nat) (hi : i < s.size) (h1 : pt s = i) (hk : kindS (s.extract (i + 1) s.size) ≠ 0) (hp : (cutAt (s.extract 0 i)).1 ≠ []) (hb : bodyS (str (cutAt (s.extract 0 i)).1) = true) (hb2 : bodyS (str (cutAt (s.extract 0 i)).2.1) = false) (w : World) :
    Calls Tryz.prog 66 #[.string s] w fun e w' => e = .returned noneV ∧ Below w.heap.size w w' := by
  have h1' := Lib.hid h1
  clear h1
  obtain ⟨hc1, hc2⟩ := cutAt_size (s.extract 0 i)
  have hx : (s.extract 0 i).size ≤ maxLen := by rw [ByteArray.size_extract]; unfold maxLen at *; omega
  have hx1 : (str (cutAt (s.extract 0 i)).1).size ≤ maxLen := by omega
  have hx2 : (str (cutAt (s.extract 0 i)).2.1).size ≤ maxLen := by omega
  clear hc1 hc2
  unfold maxLen at hs
  have hk' : (kindS (s.extract (i + 1) s.size) == 0) = false := by simpa using hk
  clear hk
  have hp' : (str (cutAt (s.extract 0 i)).1).toList.isEmpty = false := by rw [Lib.toList_data]; simpa [str] using hp
  clear hp
  go_enter Tryz.func66, Tryz.ntmps66
  go_wp2_with fail
  refine (Tryz.strings_LastIndexByte _ _ (by omega) _).mono ?_
  rintro e w' ⟨rfl, rfl⟩
  rw [show Lib.lastIndexByte s 46 = _ from h1'.out]
  go_wp2_with fail
  refine (kindOf_any _ _).mono ?_
  rintro e w' ⟨rfl, rfl⟩
  go_wp2_with fail
  refine (cut_at _ hx _).mono ?_
  rintro e w' ⟨rfl, n, rfl⟩
  go_wp2_with fail
  refine (isBody_any _ hx1 _).mono ?_
  rintro e w' ⟨rfl, rfl⟩
  go_wp2_with fail
  refine (isBody_any _ hx2 _).mono ?_
  rintro e w' ⟨rfl, rfl⟩
  go_wp2_with fail
  refine bodyPost_ret (v := noneV) (by simp [results, Tryz.results66, go_sem, noneV]) rfl ⟨rfl, ?_⟩
  go_grown
  exact below_drewN ((Below.refl _ _).alloc (Nat.le_refl _) _) n
def preP (s : ByteArray) : ByteArray := if goodP s = true then str (cutAt (headP s)).1 else ⟨#[]⟩
def instP (s : ByteArray) : ByteArray := if goodP s = true then str (cutAt (headP s)).2.1 else ⟨#[]⟩
def atP (s : ByteArray) : Bool := if goodP s = true then (cutAt (headP s)).2.2 else false
def kindP (s : ByteArray) : Int := if goodP s = true then kindS (tailP s) else 0
theorem parse_any (s : ByteArray) (hs : s.size ≤ maxLen) (w : World) :
    Calls Tryz.prog 66 #[.string s] w fun e w' => e = .returned (.tuple #[.agg #[.string (preP s), .string (instP s), .bool (atP s), .int .i64 (kindP s)], .bool (goodP s)]) ∧ Below w.heap.size w w' := by
  unfold preP instP atP kindP
  rcases hg : goodP s with _ | _
  · simp only [Bool.false_eq_true, if_false]
    by_cases h60 : s.size ≤ 60
    · rcases pt_cases s with h1 | ⟨i, hi, h1⟩
      · exact parse_nopoint s hs h60 h1 w
      · have hH : headP s = s.extract 0 i := by unfold headP; rw [h1]; rfl
        have hT : tailP s = s.extract (i + 1) s.size := by unfold tailP; rw [h1]; rfl
        unfold goodP at hg
        rw [hH, hT] at hg
        by_cases hk : kindS (s.extract (i + 1) s.size) = 0
        · exact parse_nokind s hs h60 i hi h1 hk w
        · by_cases hp : (cutAt (s.extract 0 i)).1 = []
          · exact parse_noprefix s hs h60 i hi h1 hk hp w
          · rcases hb : bodyS (str (cutAt (s.extract 0 i)).1) with _ | _
            · exact parse_badprefix s hs h60 i hi h1 hk hp hb w
            · rcases hb2 : bodyS (str (cutAt (s.extract 0 i)).2.1) with _ | _
              · exact parse_badinst s hs h60 i hi h1 hk hp hb hb2 w
              · exfalso
                rw [hb, hb2] at hg
                simp [h60, hk, hp] at hg
                omega
    · exact parse_long s hs (by omega) w
  · simp only [if_true]
    exact parse_good s hs hg w
end Go.Proofs.YtcoepioahabbdaaGreat.Nm
