/- The walk of package name's parse. The walks of package name over parse: join, isTemplate, May, Kind, Parts. -/
import Derived.Test.YtadifolonbkamaaGreatDoorKkaj
import Derived.Deep.QuietTactic
namespace Go.Proofs.YtadifolonbkamaaGreatDoor.Nm
open Go.RowKit
/-- Where the last point is, or -1. -/
def pt (s : ByteArray) : Int := Lib.lastIndexByte s 46
/-- What is ahead of the last point, and what is behind it. -/
def headP (s : ByteArray) : ByteArray := s.extract 0 (pt s).toNat
def tailP (s : ByteArray) : ByteArray := s.extract ((pt s).toNat + 1) s.size
def goodP (s : ByteArray) : Bool := decide (s.size ≤ 60) && (decide (0 ≤ pt s) && (decide (kindS (tailP s) ≠ 0) && (decide ((cutAt (headP s)).1 ≠ []) && (bodyS (str (cutAt (headP s)).1) && bodyS (str (cutAt (headP s)).2.1)))))
theorem below_drewN {B : Nat} {a w : World} (h : Below B a w) (n : Nat) : Below B a (w.drewN n) := ⟨h.os, h.tape, h.output, h.size, h.block⟩
theorem pt_cases (s : ByteArray) : pt s = -1 ∨ ∃ i : Nat, i < s.size ∧ pt s = i := by
  rcases Lib.lastIndexByte_spec s 46 with ⟨h, _⟩ | ⟨i, hi, h, _⟩
  · exact .inl h
  · exact .inr ⟨i, hi, h⟩
theorem str_size (l : List UInt8) : (str l).size = l.length := rfl
theorem cutAt_size (s : ByteArray) : (str (cutAt s).1).size ≤ s.size ∧ (str (cutAt s).2.1).size ≤ s.size := by
  rw [str_size, str_size, Lib.size_eq]
  unfold cutAt Lib.cut
  split <;> simp <;> omega
set_option maxHeartbeats 1000000 in
theorem parse_good (s : ByteArray) (hs : s.size ≤ maxLen) (h : goodP s = true) (w : World) :
    Calls Tryz.prog 106 #[.string s] w fun e w' => e = .returned (.tuple #[.agg #[.string (str (cutAt (headP s)).1), .string (str (cutAt (headP s)).2.1), .bool (cutAt (headP s)).2.2, .int .i64 (kindS (tailP s))], .bool true]) ∧ Below w.heap.size w w' := by
  unfold goodP at h
  simp only [Bool.and_eq_true, decide_eq_true_eq] at h
  obtain ⟨h60, hpt, hk, hp, hb1, hb2⟩ := h
  rcases pt_cases s with h1 | ⟨i, hi, h1⟩
  · omega
  · have hH : headP s = s.extract 0 i := by unfold headP; rw [h1]; rfl
    have hT : tailP s = s.extract (i + 1) s.size := by unfold tailP; rw [h1]; rfl
    rw [hH] at hp hb1 hb2 ⊢
    rw [hT] at hk ⊢
    have h1' := Lib.hid h1
    clear h1 hpt hH hT
    obtain ⟨hc1, hc2⟩ := cutAt_size (s.extract 0 i)
    have hx : (s.extract 0 i).size ≤ maxLen := by rw [ByteArray.size_extract]; unfold maxLen at *; omega
    have hx1 : (str (cutAt (s.extract 0 i)).1).size ≤ maxLen := by omega
    have hx2 : (str (cutAt (s.extract 0 i)).2.1).size ≤ maxLen := by omega
    clear hc1 hc2
    unfold maxLen at hs
    have hk' : (kindS (s.extract (i + 1) s.size) == 0) = false := by simpa using hk
    have hp' : (str (cutAt (s.extract 0 i)).1).toList.isEmpty = false := by rw [Lib.toList_data]; simpa [str] using hp
    clear hk hp
    go_enter Tryz.func106, Tryz.ntmps106
    go_wp2_with fail
    refine (Tryz.strings_LastIndexByte _ _ (by omega) _).mono ?_
    rintro e w' ⟨rfl, rfl⟩
    rw [show Lib.lastIndexByte s 46 = _ from h1'.out]
    go_wp2_with fail
    refine (kindOf_any _ _).mono ?_
    rintro e w' ⟨rfl, rfl⟩
    go_wp2_with fail
    refine (cut_at _ hx _).mono ?_
    rintro e w' ⟨rfl, n, rfl⟩
    go_wp2_with fail
    refine (isBody_any _ hx1 _).mono ?_
    rintro e w' ⟨rfl, rfl⟩
    go_wp2_with fail
    refine (isBody_any _ hx2 _).mono ?_
    rintro e w' ⟨rfl, rfl⟩
    go_wp2_with fail
    refine bodyPost_ret (v := .tuple #[.agg #[.string (str (cutAt (s.extract 0 i)).1), .string (str (cutAt (s.extract 0 i)).2.1), .bool (cutAt (s.extract 0 i)).2.2, .int .i64 (kindS (s.extract (i + 1) s.size))], .bool true]) (by simp [results, Tryz.results106, go_sem]) rfl ⟨rfl, ?_⟩
    go_grown
    exact below_drewN ((Below.refl _ _).alloc (Nat.le_refl _) _) n
def noneV : Value := .tuple #[.agg #[.string ⟨#[]⟩, .string ⟨#[]⟩, .bool false, .int .i64 0], .bool false]
set_option maxHeartbeats 1000000 in
theorem parse_long (s : ByteArray) (hs : s.size ≤ maxLen) (h : 60 < s.size) (w : World) :
    Calls Tryz.prog 106 #[.string s] w fun e w' => e = .returned noneV ∧ Below w.heap.size w w' := by
  unfold maxLen at hs
  go_enter Tryz.func106, Tryz.ntmps106
  go_wp2
  refine bodyPost_ret (v := noneV) (by simp [results, Tryz.results106, go_sem, noneV]) rfl ⟨rfl, ?_⟩
  exact (Below.refl _ _).alloc (Nat.le_refl _) _
set_option maxHeartbeats 1000000 in
theorem parse_nopoint (s : ByteArray) (hs : s.size ≤ maxLen) (h : s.size ≤ 60) (hp : pt s = -1) (w : World) :
    Calls Tryz.prog 106 #[.string s] w fun e w' => e = .returned noneV ∧ Below w.heap.size w w' := by
  unfold maxLen at hs
  have h1' := Lib.hid hp
  clear hp
  go_enter Tryz.func106, Tryz.ntmps106
  go_wp2_with fail
  refine (Tryz.strings_LastIndexByte _ _ (by omega) _).mono ?_
  rintro e w' ⟨rfl, rfl⟩
  rw [show Lib.lastIndexByte s 46 = _ from h1'.out]
  go_wp2_with fail
  refine bodyPost_ret (v := noneV) (by simp [results, Tryz.results106, go_sem, noneV]) rfl ⟨rfl, ?_⟩
  exact (Below.refl _ _).alloc (Nat.le_refl _) _
set_option maxHeartbeats 1000000 in
theorem parse_nokind (s : ByteArray) (hs : s.size ≤ maxLen) (h60 : s.size ≤ 60) (i : Nat) (hi : i < s.size) (h1 : pt s = i) (hk : kindS (s.extract (i + 1) s.size) = 0) (w : World) :
    Calls Tryz.prog 106 #[.string s] w fun e w' => e = .returned noneV ∧ Below w.heap.size w w' := by
  have h1' := Lib.hid h1
  clear h1
  obtain ⟨hc1, hc2⟩ := cutAt_size (s.extract 0 i)
  have hx : (s.extract 0 i).size ≤ maxLen := by rw [ByteArray.size_extract]; unfold maxLen at *; omega
  have hx1 : (str (cutAt (s.extract 0 i)).1).size ≤ maxLen := by omega
  have hx2 : (str (cutAt (s.extract 0 i)).2.1).size ≤ maxLen := by omega
  clear hc1 hc2
  unfold maxLen at hs
  have hk' : (kindS (s.extract (i + 1) s.size) == 0) = true := by simpa using hk
  clear hk
  go_enter Tryz.func106, Tryz.ntmps106
  go_wp2_with fail
  refine (Tryz.strings_LastIndexByte _ _ (by omega) _).mono ?_
  rintro e w' ⟨rfl, rfl⟩
  rw [show Lib.lastIndexByte s 46 = _ from h1'.out]
  go_wp2_with fail
  refine (kindOf_any _ _).mono ?_
  rintro e w' ⟨rfl, rfl⟩
  go_wp2_with fail
  refine (cut_at _ hx _).mono ?_
  rintro e w' ⟨rfl, n, rfl⟩
  go_wp2_with fail
  refine bodyPost_ret (v := noneV) (by simp [results, Tryz.results106, go_sem, noneV]) rfl ⟨rfl, ?_⟩
  go_grown
  exact below_drewN ((Below.refl _ _).alloc (Nat.le_refl _) _) n
set_option maxHeartbeats 1000000 in
theorem parse_noprefix (s : ByteArray) (hs : s.size ≤ maxLen) (h60 : s.size ≤ 60) (i : Nat) (hi : i < s.size) (h1 : pt s = i) (hk : kindS (s.extract (i + 1) s.size) ≠ 0) (hp : (cutAt (s.extract 0 i)).1 = []) (w : World) :
    Calls Tryz.prog 106 #[.string s] w fun e w' => e = .returned noneV ∧ Below w.heap.size w w' := by
  have h1' := Lib.hid h1
  clear h1
  obtain ⟨hc1, hc2⟩ := cutAt_size (s.extract 0 i)
  have hx : (s.extract 0 i).size ≤ maxLen := by rw [ByteArray.size_extract]; unfold maxLen at *; omega
  have hx1 : (str (cutAt (s.extract 0 i)).1).size ≤ maxLen := by omega
  have hx2 : (str (cutAt (s.extract 0 i)).2.1).size ≤ maxLen := by omega
  clear hc1 hc2
  unfold maxLen at hs
  have hk' : (kindS (s.extract (i + 1) s.size) == 0) = false := by simpa using hk
  clear hk
  have hp' : (str (cutAt (s.extract 0 i)).1).toList.isEmpty = true := by rw [Lib.toList_data]; simpa [str] using hp
  clear hp
  go_enter Tryz.func106, Tryz.ntmps106
  go_wp2_with fail
  refine (Tryz.strings_LastIndexByte _ _ (by omega) _).mono ?_
  rintro e w' ⟨rfl, rfl⟩
  rw [show Lib.lastIndexByte s 46 = _ from h1'.out]
  go_wp2_with fail
  refine (kindOf_any _ _).mono ?_
  rintro e w' ⟨rfl, rfl⟩
  go_wp2_with fail
  refine (cut_at _ hx _).mono ?_
  rintro e w' ⟨rfl, n, rfl⟩
  go_wp2_with fail
  refine bodyPost_ret (v := noneV) (by simp [results, Tryz.results106, go_sem, noneV]) rfl ⟨rfl, ?_⟩
  go_grown
  exact below_drewN ((Below.refl _ _).alloc (Nat.le_refl _) _) n
set_option maxHeartbeats 1000000 in
theorem parse_badprefix (s : ByteArray) (hs : s.size ≤ maxLen) (h60 : s.size ≤ 60) (i : Nat) (hi : i < s.size) (h1 : pt s = i) (hk : kindS (s.extract (i + 1) s.size) ≠ 0) (hp : (cutAt (s.extract 0 i)).1 ≠ []) (hb : bodyS (str (cutAt (s.extract 0 i)).1) = false) (w : World) :
    Calls Tryz.prog 106 #[.string s] w fun e w' => e = .returned noneV ∧ Below w.heap.size w w' := by
  have h1' := Lib.hid h1
  clear h1
  obtain ⟨hc1, hc2⟩ := cutAt_size (s.extract 0 i)
  have hx : (s.extract 0 i).size ≤ maxLen := by rw [ByteArray.size_extract]; unfold maxLen at *; omega
  have hx1 : (str (cutAt (s.extract 0 i)).1).size ≤ maxLen := by omega
  have hx2 : (str (cutAt (s.extract 0 i)).2.1).size ≤ maxLen := by omega
  clear hc1 hc2
  unfold maxLen at hs
  have hk' : (kindS (s.extract (i + 1) s.size) == 0) = false := by simpa using hk
  clear hk
  have hp' : (str (cutAt (s.extract 0 i)).1).toList.isEmpty = false := by rw [Lib.toList_data]; simpa [str] using hp
  clear hp
  go_enter Tryz.func106, Tryz.ntmps106
  go_wp2_with fail
  refine (Tryz.strings_LastIndexByte _ _ (by omega) _).mono ?_
  rintro e w' ⟨rfl, rfl⟩
  rw [show Lib.lastIndexByte s 46 = _ from h1'.out]
  go_wp2_with fail
  refine (kindOf_any _ _).mono ?_
  rintro e w' ⟨rfl, rfl⟩
  go_wp2_with fail
  refine (cut_at _ hx _).mono ?_
  rintro e w' ⟨rfl, n, rfl⟩
  go_wp2_with fail
  refine (isBody_any _ hx1 _).mono ?_
  rintro e w' ⟨rfl, rfl⟩
  go_wp2_with fail
  refine bodyPost_ret (v := noneV) (by simp [results, Tryz.results106, go_sem, noneV]) rfl ⟨rfl, ?_⟩
  go_grown
  exact below_drewN ((Below.refl _ _).alloc (Nat.le_refl _) _) n
set_option maxHeartbeats 1000000 in
theorem parse_badinst (s : ByteArray) (hs : s.size ≤ maxLen) (h60 : s.size ≤ 60) (i : Nat) (hi : i < s.size) (h1 : pt s = i) (hk : kindS (s.extract (i + 1) s.size) ≠ 0) (hp : (cutAt (s.extract 0 i)).1 ≠ []) (hb : bodyS (str (cutAt (s.extract 0 i)).1) = true) (hb2 : bodyS (str (cutAt (s.extract 0 i)).2.1) = false) (w : World) :
    Calls Tryz.prog 106 #[.string s] w fun e w' => e = .returned noneV ∧ Below w.heap.size w w' := by
  have h1' := Lib.hid h1
  clear h1
  obtain ⟨hc1, hc2⟩ := cutAt_size (s.extract 0 i)
  have hx : (s.extract 0 i).size ≤ maxLen := by rw [ByteArray.size_extract]; unfold maxLen at *; omega
  have hx1 : (str (cutAt (s.extract 0 i)).1).size ≤ maxLen := by omega
  have hx2 : (str (cutAt (s.extract 0 i)).2.1).size ≤ maxLen := by omega
  clear hc1 hc2
  unfold maxLen at hs
  have hk' : (kindS (s.extract (i + 1) s.size) == 0) = false := by simpa using hk
  clear hk
  have hp' : (str (cutAt (s.extract 0 i)).1).toList.isEmpty = false := by rw [Lib.toList_data]; simpa [str] using hp
  clear hp
  go_enter Tryz.func106, Tryz.ntmps106
  go_wp2_with fail
  refine (Tryz.strings_LastIndexByte _ _ (by omega) _).mono ?_
  rintro e w' ⟨rfl, rfl⟩
  rw [show Lib.lastIndexByte s 46 = _ from h1'.out]
  go_wp2_with fail
  refine (kindOf_any _ _).mono ?_
  rintro e w' ⟨rfl, rfl⟩
  go_wp2_with fail
  refine (cut_at _ hx _).mono ?_
  rintro e w' ⟨rfl, n, rfl⟩
  go_wp2_with fail
  refine (isBody_any _ hx1 _).mono ?_
  rintro e w' ⟨rfl, rfl⟩
  go_wp2_with fail
  refine (isBody_any _ hx2 _).mono ?_
  rintro e w' ⟨rfl, rfl⟩
  go_wp2_with fail
  refine bodyPost_ret (v := noneV) (by simp [results, Tryz.results106, go_sem, noneV]) rfl ⟨rfl, ?_⟩
  go_grown
  exact below_drewN ((Below.refl _ _).alloc (Nat.le_refl _) _) n
/-- What parse gives: prefix, instance string, at, kind. -/
def preP (s : ByteArray) : ByteArray := if goodP s = true then str (cutAt (headP s)).1 else ⟨#[]⟩
def instP (s : ByteArray) : ByteArray := if goodP s = true then str (cutAt (headP s)).2.1 else ⟨#[]⟩
def atP (s : ByteArray) : Bool := if goodP s = true then (cutAt (headP s)).2.2 else false
def kindP (s : ByteArray) : Int := if goodP s = true then kindS (tailP s) else 0
theorem parse_any (s : ByteArray) (hs : s.size ≤ maxLen) (w : World) :
    Calls Tryz.prog 106 #[.string s] w fun e w' => e = .returned (.tuple #[.agg #[.string (preP s), .string (instP s), .bool (atP s), .int .i64 (kindP s)], .bool (goodP s)]) ∧ Below w.heap.size w w' := by
  unfold preP instP atP kindP
  rcases hg : goodP s with _ | _
  · simp only [Bool.false_eq_true, if_false]
    by_cases h60 : s.size ≤ 60
    · rcases pt_cases s with h1 | ⟨i, hi, h1⟩
      · exact parse_nopoint s hs h60 h1 w
      · have hH : headP s = s.extract 0 i := by unfold headP; rw [h1]; rfl
        have hT : tailP s = s.extract (i + 1) s.size := by unfold tailP; rw [h1]; rfl
        unfold goodP at hg
        rw [hH, hT] at hg
        by_cases hk : kindS (s.extract (i + 1) s.size) = 0
        · exact parse_nokind s hs h60 i hi h1 hk w
        · by_cases hp : (cutAt (s.extract 0 i)).1 = []
          · exact parse_noprefix s hs h60 i hi h1 hk hp w
          · rcases hb : bodyS (str (cutAt (s.extract 0 i)).1) with _ | _
            · exact parse_badprefix s hs h60 i hi h1 hk hp hb w
            · rcases hb2 : bodyS (str (cutAt (s.extract 0 i)).2.1) with _ | _
              · exact parse_badinst s hs h60 i hi h1 hk hp hb hb2 w
              · exfalso
                rw [hb, hb2] at hg
                simp [h60, hk, hp] at hg
                omega
    · exact parse_long s hs (by omega) w
  · simp only [if_true]
    exact parse_good s hs hg w
end Go.Proofs.YtadifolonbkamaaGreatDoor.Nm
namespace Go.Proofs.YtadifolonbkamaaGreatDoor.Nm
open Go.RowKit
set_option maxHeartbeats 1000000 in
theorem May_any (s : ByteArray) (hs : s.size ≤ maxLen) (w : World) :
    Calls Tryz.prog 81 #[.string s] w fun e w' => e = .returned (.bool (goodP s)) ∧ Below w.heap.size w w' := by
  go_enter Tryz.func81, Tryz.ntmps81
  go_wp2_with fail
  refine (parse_any _ hs _).mono ?_
  rintro e w1 ⟨rfl, hb⟩
  go_wp2_with fail
  go_ret
  exact ⟨rfl, hb.alloc hb.size _⟩
set_option maxHeartbeats 1000000 in
theorem Parts_any (s : ByteArray) (hs : s.size ≤ maxLen) (w : World) :
    Calls Tryz.prog 80 #[.string s] w fun e w' => e = .returned (.tuple #[.string (preP s), .string (instP s), .bool (atP s)]) ∧ Below w.heap.size w w' := by
  go_enter Tryz.func80, Tryz.ntmps80
  go_wp2_with fail
  refine (parse_any _ hs _).mono ?_
  rintro e w1 ⟨rfl, hb⟩
  go_wp2_with fail
  go_region
  go_wp2_with fail
  go_ret3
  exact ⟨rfl, (hb.alloc hb.size _).drew⟩
end Go.Proofs.YtadifolonbkamaaGreatDoor.Nm
