/- Walks of package name's small functions: isPlain, Suffix. Walks of package name's isBody and kindOf. The Builder's check -/
import Derived.Test.YtadifolonbkamaaGreatDoorProg
import Derived.WalkKit
import Derived.BigGuardPart
import Derived.Lib.Hide
import Derived.Handy
import Derived.Lib.Strings
import Derived.Test.YtadifolonbkamaaGreatDoorKvac
import Derived.BigQuiet
import Derived.Lib.CutLaws
namespace Go.Proofs.YtadifolonbkamaaGreatDoor.Nm
open Go.RowKit
def plainB (c : Nat) : Bool := decide (97 ≤ c ∧ c ≤ 122 ∨ 65 ≤ c ∧ c ≤ 90 ∨ 48 ≤ c ∧ c ≤ 57 ∨ c = 58 ∨ c = 95 ∨ c = 46)
set_option maxHeartbeats 1000000 in
theorem isPlain_any (c : Nat) (hc : c ≤ 255) (w : World) :
    Calls Tryz.prog 153 #[.int .u8 c] w fun e w' => e = .returned (.bool (plainB c)) ∧ w = w' := by
  have H : c ≤ 45 ∨ c = 46 ∨ c = 47 ∨ (48 ≤ c ∧ c ≤ 57) ∨ c = 58 ∨ (59 ≤ c ∧ c ≤ 64) ∨ (65 ≤ c ∧ c ≤ 90) ∨ (91 ≤ c ∧ c ≤ 94) ∨ c = 95 ∨ c = 96 ∨ (97 ≤ c ∧ c ≤ 122) ∨ 123 ≤ c := by omega
  rcases H with h | rfl | rfl | ⟨h1, h2⟩ | rfl | ⟨h1, h2⟩ | ⟨h1, h2⟩ | ⟨h1, h2⟩ | rfl | rfl | ⟨h1, h2⟩ | h
  all_goals
    go_enter Tryz.func153, Tryz.ntmps153
    go_wp2
  all_goals go_ret
  all_goals (refine ⟨congrArg (fun b => Ending.returned (.bool b)) ?_, rfl⟩)
  all_goals first | rfl | (simp [plainB]; done) | (simp [plainB]; omega; done) | (rw [Bool.eq_iff_iff]; simp [plainB]; omega)
def sfx (k : Int) : List UInt8 :=
  if k = 1 then [115, 101, 114, 118, 105, 99, 101] else if k = 2 then [115, 111, 99, 107, 101, 116] else if k = 3 then [116, 105, 109, 101, 114] else if k = 4 then [116, 97, 114, 103, 101, 116] else []
def str (l : List UInt8) : ByteArray := ⟨l.toArray⟩
theorem Suffix_any (k : Int) (w : World) :
    Calls Tryz.prog 152 #[.int .i64 k] w fun e w' => e = .returned (.string (str (sfx k))) ∧ w = w' := by
  have H : k = 1 ∨ k = 2 ∨ k = 3 ∨ k = 4 ∨ ((k == 1) = false ∧ (k == 2) = false ∧ (k == 3) = false ∧ (k == 4) = false) := by simp; omega
  rcases H with rfl | rfl | rfl | rfl | ⟨h1, h2, h3, h4⟩
  all_goals
    go_enter Tryz.func152, Tryz.ntmps152
    go_wp2
  all_goals go_ret
  all_goals (refine ⟨congrArg (fun b => Ending.returned (.string b)) ?_, rfl⟩)
  all_goals first | rfl | (simp at h1 h2 h3 h4; simp [sfx, h1, h2, h3, h4]; rfl)
end Go.Proofs.YtadifolonbkamaaGreatDoor.Nm
namespace Go.Proofs.YtadifolonbkamaaGreatDoor.Nm
open Go.RowKit
theorem ret_bool {a b : Bool} (h : a = b) : Ending.returned (.bool a) = .returned (.bool b) := by rw [h]
theorem ret_int {k : IntKind} {a b : Int} (h : a = b) : Ending.returned (.int k a) = .returned (.int k b) := by rw [h]
theorem ret_str {a b : ByteArray} (h : a = b) : Ending.returned (.string a) = .returned (.string b) := by rw [h]
def bodyByte (c : Nat) : Bool := plainB c || c == 45 || c == 92
def bodyL (l : List UInt8) : Bool := l.all fun c => bodyByte c.toNat
def bodyS (s : ByteArray) : Bool := bodyL s.data.toList
theorem bodyL_take_succ (s : ByteArray) (k : Nat) (h : k < s.size) (hb : bodyL (s.data.toList.take k) = true) (hc : bodyByte s[k].toNat = true) : bodyL (s.data.toList.take (k + 1)) = true := by
  rw [List.take_succ_eq_append_getElem (by simpa using h)]
  unfold bodyL at *
  rw [List.all_append, hb]
  simpa [ByteArray.getElem_eq_getElem_data] using hc
theorem bodyL_false (s : ByteArray) (k : Nat) (h : k < s.size) (hc : bodyByte s[k].toNat = false) : bodyL s.data.toList = false := by
  unfold bodyL
  rw [List.all_eq_false]
  exact ⟨s[k], by simp [ByteArray.getElem_eq_getElem_data], by simpa using hc⟩
set_option maxHeartbeats 1000000 in
theorem isBody_any (s : ByteArray) (hs : s.size ≤ maxLen) (w : World) :
    Calls Tryz.prog 135 #[.string s] w fun e w' => e = .returned (.bool (bodyS s)) ∧ w = w' := by
  unfold maxLen at hs
  go_enter Tryz.func135, Tryz.ntmps135
  go_wp2
  go_loop [7] (fun i => ∃ k : Nat, k ≤ s.size ∧ i = .int .i64 k ∧ Hid (bodyL (s.data.toList.take k) = true)) (fun i => s.size - (intOf i).toNat)
  case atStart => exact ⟨0, Nat.zero_le _, rfl, by simp [bodyL, Hid]⟩
  case round =>
    obtain ⟨k, hk, rfl, hb⟩ := hrel
    by_cases hlt : k < s.size
    · have hr := s[k].toNat_lt
      rcases hp : plainB s[k].toNat with _ | _
      · by_cases h45 : s[k].toNat = 45
        · have h45' : ((s[k].toNat : Int) != 45) = false := by simp [h45]
          have HB : Hid (bodyL (s.data.toList.take (k + 1)) = true) := bodyL_take_succ s k hlt hb (by simp [bodyByte, h45])
          clear h45
          go_wp2_with (go_at_call 153; refine (isPlain_any _ (by omega) _).mono ?_; rintro e w' ⟨rfl, rfl⟩)
          go_round
          case rel => exact ⟨k + 1, by omega, by go_num, HB⟩
          case measure => simp [intOf]; omega
        · by_cases h92 : s[k].toNat = 92
          · have h45' : ((s[k].toNat : Int) != 45) = true := by simp [h92]
            have h92' : ((s[k].toNat : Int) != 92) = false := by simp [h92]
            have HB : Hid (bodyL (s.data.toList.take (k + 1)) = true) := bodyL_take_succ s k hlt hb (by simp [bodyByte, h92])
            clear h45 h92
            go_wp2_with (go_at_call 153; refine (isPlain_any _ (by omega) _).mono ?_; rintro e w' ⟨rfl, rfl⟩)
            go_round
            case rel => exact ⟨k + 1, by omega, by go_num, HB⟩
            case measure => simp [intOf]; omega
          · have h45' : ((s[k].toNat : Int) != 45) = true := by simp; omega
            have h92' : ((s[k].toNat : Int) != 92) = true := by simp; omega
            have HB : Hid (bodyS s = false) := bodyL_false s k hlt (by simp [bodyByte, h45, h92, hp])
            clear h45 h92
            go_wp2_with (go_at_call 153; refine (isPlain_any _ (by omega) _).mono ?_; rintro e w' ⟨rfl, rfl⟩)
            go_ret
            exact ⟨ret_bool HB.out.symm, rfl⟩
      · have HB : Hid (bodyL (s.data.toList.take (k + 1)) = true) := bodyL_take_succ s k hlt hb (by simp [bodyByte, hp])
        go_wp2_with (go_at_call 153; refine (isPlain_any _ (by omega) _).mono ?_; rintro e w' ⟨rfl, rfl⟩)
        go_round
        case rel => exact ⟨k + 1, by omega, by go_num, HB⟩
        case measure => simp [intOf]; omega
    · go_wp2
      go_ret
      refine ⟨?_, rfl⟩
      have h : s.data.toList.take k = s.data.toList := List.take_of_length_le (by simp; omega)
      have := hb.out
      rw [h] at this
      exact ret_bool this.symm
def kindL (l : List UInt8) : Int := if l = sfx 1 then 1 else if l = sfx 2 then 2 else if l = sfx 3 then 3 else if l = sfx 4 then 4 else 0
def kindS (s : ByteArray) : Int := kindL s.data.toList
theorem str_data (s : ByteArray) : str s.data.toList = s := Lib.mk_data s
theorem eq_str {s : ByteArray} {l : List UInt8} : s = str l ↔ s.data.toList = l :=
  ⟨fun h => by rw [h]; rfl, fun h => by rw [← h, str_data]⟩
theorem beq_str (s t : ByteArray) : (s.toList == t.toList) = decide (s = t) := by
  rw [Bool.eq_iff_iff]
  simp only [beq_iff_eq, decide_eq_true_eq, Lib.toList_data]
  exact ⟨fun h => by rw [← str_data s, h, str_data], fun h => by rw [h]⟩
set_option maxHeartbeats 1000000 in
theorem kindOf_any (s : ByteArray) (w : World) :
    Calls Tryz.prog 134 #[.string s] w fun e w' => e = .returned (.int .i64 (kindS s)) ∧ w = w' := by
  by_cases h1 : s = str (sfx 1)
  · have H : Hid (kindS s = 1) := by rw [h1]; rfl
    have h1' : (s.toList == (str (sfx 1)).toList) = true := by rw [beq_str]; simpa using h1
    clear h1
    go_enter Tryz.func134, Tryz.ntmps134
    go_wp2
    refine wp_loop_rounds 5 ?_
    rw [rounds_succ]
    go_wp2_with (go_at_call 152; refine (Suffix_any _ _).mono ?_; rintro e w' ⟨rfl, rfl⟩)
    go_ret
    exact ⟨ret_int H.out.symm, rfl⟩
  · have h1' : (s.toList == (str (sfx 1)).toList) = false := by rw [beq_str]; simpa using h1
    by_cases h2 : s = str (sfx 2)
    · have H : Hid (kindS s = 2) := by rw [h2]; rfl
      have h2' : (s.toList == (str (sfx 2)).toList) = true := by rw [beq_str]; simpa using h2
      clear h1 h2
      go_enter Tryz.func134, Tryz.ntmps134
      go_wp2
      refine wp_loop_rounds 5 ?_
      rw [rounds_succ]
      go_wp2_with (go_at_call 152; refine (Suffix_any _ _).mono ?_; rintro e w' ⟨rfl, rfl⟩)
      rw [rounds_succ]
      go_wp2_with (go_at_call 152; refine (Suffix_any _ _).mono ?_; rintro e w' ⟨rfl, rfl⟩)
      go_ret
      exact ⟨ret_int H.out.symm, rfl⟩
    · have h2' : (s.toList == (str (sfx 2)).toList) = false := by rw [beq_str]; simpa using h2
      by_cases h3 : s = str (sfx 3)
      · have H : Hid (kindS s = 3) := by rw [h3]; rfl
        have h3' : (s.toList == (str (sfx 3)).toList) = true := by rw [beq_str]; simpa using h3
        clear h1 h2 h3
        go_enter Tryz.func134, Tryz.ntmps134
        go_wp2
        refine wp_loop_rounds 5 ?_
        iterate 3
          rw [rounds_succ]
          go_wp2_with (go_at_call 152; refine (Suffix_any _ _).mono ?_; rintro e w' ⟨rfl, rfl⟩)
        go_ret
        exact ⟨ret_int H.out.symm, rfl⟩
      · have h3' : (s.toList == (str (sfx 3)).toList) = false := by rw [beq_str]; simpa using h3
        by_cases h4 : s = str (sfx 4)
        · have H : Hid (kindS s = 4) := by rw [h4]; rfl
          have h4' : (s.toList == (str (sfx 4)).toList) = true := by rw [beq_str]; simpa using h4
          clear h1 h2 h3 h4
          go_enter Tryz.func134, Tryz.ntmps134
          go_wp2
          refine wp_loop_rounds 5 ?_
          iterate 4
            rw [rounds_succ]
            go_wp2_with (go_at_call 152; refine (Suffix_any _ _).mono ?_; rintro e w' ⟨rfl, rfl⟩)
          go_ret
          exact ⟨ret_int H.out.symm, rfl⟩
        · have h4' : (s.toList == (str (sfx 4)).toList) = false := by rw [beq_str]; simpa using h4
          have H : Hid (kindS s = 0) := by
            rw [eq_str] at h1 h2 h3 h4
            unfold kindS kindL
            rw [if_neg h1, if_neg h2, if_neg h3, if_neg h4]; rfl
          clear h1 h2 h3 h4
          go_enter Tryz.func134, Tryz.ntmps134
          go_wp2
          refine wp_loop_rounds 5 ?_
          iterate 5
            rw [rounds_succ]
            go_wp2_with (go_at_call 152; refine (Suffix_any _ _).mono ?_; rintro e w' ⟨rfl, rfl⟩)
          go_ret
          exact ⟨ret_int H.out.symm, rfl⟩
end Go.Proofs.YtadifolonbkamaaGreatDoor.Nm
namespace Go.Proofs.YtadifolonbkamaaGreatDoor.Nm
open Go.RowKit
def cutAt (s : ByteArray) : List UInt8 × List UInt8 × Bool := Lib.cut s.data.toList [64]
set_option maxHeartbeats 2000000 in
set_option maxRecDepth 100000 in
theorem liteCut_at (s : ByteArray) (hs : s.size ≤ maxLen) (w : World) :
    Calls Tryz.prog 138 #[.string s, .string ⟨#[64]⟩] w fun e w' => e = .returned (.tuple #[.string (str (cutAt s).1), .string (str (cutAt s).2.1), .bool (cutAt s).2.2]) ∧ ∃ n, w' = w.drewN n := by
  unfold maxLen at hs
  have hi1 : Lib.indexByte s.data.toList 64 = Lib.indexB s ⟨#[64]⟩ := (Lib.index_one s.data.toList 64).symm
  rcases Lib.indexB_cases s ⟨#[64]⟩ with hix | ⟨i, hix, hroom⟩
  · obtain ⟨e1, e2, e3⟩ := Lib.cutB_miss s ⟨#[64]⟩ hix
    have E1 : str (cutAt s).1 = _ := e1
    have E2 : str (cutAt s).2.1 = _ := e2
    have E3 : (cutAt s).2.2 = _ := e3
    rw [E1, E2, E3]
    rw [hix] at hi1
    clear e1 e2 e3 E1 E2 E3 hix
    have H := Lib.hid hi1
    clear hi1
    go_enter Tryz.func138, Tryz.ntmps138
    go_wp2_with (go_at_call 145; refine (Tryz.stringslite_Index_one _ _ _).mono ?_; rintro e w' ⟨rfl, rfl⟩; rw [H.out])
    go_ret3
    exact ⟨rfl, 0, rfl⟩
  · obtain ⟨e1, e2, e3⟩ := Lib.cutB_hit s ⟨#[64]⟩ i hix
    have E1 : str (cutAt s).1 = _ := e1
    have E2 : str (cutAt s).2.1 = _ := e2
    have E3 : (cutAt s).2.2 = _ := e3
    rw [E1, E2, E3]
    rw [hix] at hi1
    clear e1 e2 e3 E1 E2 E3 hix
    have hsz : (⟨#[64]⟩ : ByteArray).size = 1 := rfl
    rw [hsz] at hroom ⊢
    clear hsz
    have H := Lib.hid hi1
    clear hi1
    have c1 : (0 : Int) ≤ ↑i := by omega
    have c2 : (↑i : Int) ≤ ↑s.size := by omega
    have c3 : (0 : Int) ≤ ↑i + 1 := by omega
    have c4 : (↑i + 1 : Int) ≤ ↑s.size := by omega
    go_enter Tryz.func138, Tryz.ntmps138
    go_wp2_with (go_at_call 145; refine (Tryz.stringslite_Index_one _ _ _).mono ?_; rintro e w' ⟨rfl, rfl⟩; rw [H.out])
    go_region
    go_wp2
    go_ret3
    exact ⟨rfl, 1, rfl⟩
set_option maxHeartbeats 1000000 in
theorem cut_at (s : ByteArray) (hs : s.size ≤ maxLen) (w : World) :
    Calls Tryz.prog 112 #[.string s, .string ⟨#[64]⟩] w fun e w' => e = .returned (.tuple #[.string (str (cutAt s).1), .string (str (cutAt s).2.1), .bool (cutAt s).2.2]) ∧ ∃ n, w' = w.drewN n := by
  go_enter Tryz.func112, Tryz.ntmps112
  go_wp2_with (go_at_call 138; refine (liteCut_at _ hs _).mono ?_; rintro e w' ⟨rfl, n, rfl⟩)
  go_ret3
  exact ⟨rfl, n, rfl⟩
end Go.Proofs.YtadifolonbkamaaGreatDoor.Nm
namespace Go.Proofs.YtadifolonbkamaaGreatDoor.Nm
open Go.RowKit
def pt (s : ByteArray) : Int := Lib.lastIndexByte s 46
def headP (s : ByteArray) : ByteArray := s.extract 0 (pt s).toNat
def tailP (s : ByteArray) : ByteArray := s.extract ((pt s).toNat + 1) s.size
def goodP (s : ByteArray) : Bool := decide (s.size ≤ 60) && (decide (0 ≤ pt s) && (decide (kindS (tailP s) ≠ 0) && (decide ((cutAt (headP s)).1 ≠ []) && (bodyS (str (cutAt (headP s)).1) && bodyS (str (cutAt (headP s)).2.1)))))
theorem below_drewN {B : Nat} {a w : World} (h : Below B a w) (n : Nat) : Below B a (w.drewN n) := ⟨h.os, h.tape, h.output, h.size, h.block⟩
theorem pt_cases (s : ByteArray) : pt s = -1 ∨ ∃ i : Nat, i < s.size ∧ pt s = i := by
  rcases Lib.lastIndexByte_spec s 46 with ⟨h, _⟩ | ⟨i, hi, h, _⟩
  · exact .inl h
  · exact .inr ⟨i, hi, h⟩
theorem str_size (l : List UInt8) : (str l).size = l.length := rfl
theorem cutAt_size (s : ByteArray) : (str (cutAt s).1).size ≤ s.size ∧ (str (cutAt s).2.1).size ≤ s.size := by
  rw [str_size, str_size, Lib.size_eq]
  unfold cutAt Lib.cut
  split <;> simp <;> omega
set_option maxHeartbeats 1000000 in
theorem parse_good (s : ByteArray) (hs : s.size ≤ maxLen) (h : goodP s = true) (w : World) :
    Calls Tryz.prog 106 #[.string s] w fun e w' => e = .returned (.tuple #[.agg #[.string (str (cutAt (headP s)).1), .string (str (cutAt (headP s)).2.1), .bool (cutAt (headP s)).2.2, .int .i64 (kindS (tailP s))], .bool true]) ∧ Below w.heap.size w w' := by
  unfold goodP at h
  simp only [Bool.and_eq_true, decide_eq_true_eq] at h
  obtain ⟨h60, hpt, hk, hp, hb1, hb2⟩ := h
  rcases pt_cases s with h1 | ⟨i, hi, h1⟩
  · omega
  · have hH : headP s = s.extract 0 i := by unfold headP; rw [h1]; rfl
    have hT : tailP s = s.extract (i + 1) s.size := by unfold tailP; rw [h1]; rfl
    rw [hH] at hp hb1 hb2 ⊢
    rw [hT] at hk ⊢
    have h1' := Lib.hid h1
    clear h1 hpt hH hT
    obtain ⟨hc1, hc2⟩ := cutAt_size (s.extract 0 i)
    have hx : (s.extract 0 i).size ≤ maxLen := by rw [ByteArray.size_extract]; unfold maxLen at *; omega
    have hx1 : (str (cutAt (s.extract 0 i)).1).size ≤ maxLen := by omega
    have hx2 : (str (cutAt (s.extract 0 i)).2.1).size ≤ maxLen := by omega
    clear hc1 hc2
    unfold maxLen at hs
    have hk' : (kindS (s.extract (i + 1) s.size) == 0) = false := by simpa using hk
    have hp' : (str (cutAt (s.extract 0 i)).1).toList.isEmpty = false := by rw [Lib.toList_data]; simpa [str] using hp
    clear hk hp
    go_enter Tryz.func106, Tryz.ntmps106
    go_wp2_with fail
    refine (Tryz.strings_LastIndexByte _ _ (by omega) _).mono ?_
    rintro e w' ⟨rfl, rfl⟩
    rw [show Lib.lastIndexByte s 46 = _ from h1'.out]
    go_wp2_with fail
    refine (kindOf_any _ _).mono ?_
    rintro e w' ⟨rfl, rfl⟩
    go_wp2_with fail
    refine (cut_at _ hx _).mono ?_
    rintro e w' ⟨rfl, n, rfl⟩
    go_wp2_with fail
    refine (isBody_any _ hx1 _).mono ?_
    rintro e w' ⟨rfl, rfl⟩
    go_wp2_with fail
    refine (isBody_any _ hx2 _).mono ?_
    rintro e w' ⟨rfl, rfl⟩
    go_wp2_with fail
    refine bodyPost_ret (v := .tuple #[.agg #[.string (str (cutAt (s.extract 0 i)).1), .string (str (cutAt (s.extract 0 i)).2.1), .bool (cutAt (s.extract 0 i)).2.2, .int .i64 (kindS (s.extract (i + 1) s.size))], .bool true]) (by simp [results, Tryz.results106, go_sem]) rfl ⟨rfl, ?_⟩
    go_grown
    exact below_drewN ((Below.refl _ _).alloc (Nat.le_refl _) _) n
def noneV : Value := .tuple #[.agg #[.string ⟨#[]⟩, .string ⟨#[]⟩, .bool false, .int .i64 0], .bool false]
set_option maxHeartbeats 1000000 in
theorem parse_long (s : ByteArray) (hs : s.size ≤ maxLen) (h : 60 < s.size) (w : World) :
    Calls Tryz.prog 106 #[.string s] w fun e w' => e = .returned noneV ∧ Below w.heap.size w w' := by
  unfold maxLen at hs
  go_enter Tryz.func106, Tryz.ntmps106
  go_wp2
  refine bodyPost_ret (v := noneV) (by simp [results, Tryz.results106, go_sem, noneV]) rfl ⟨rfl, ?_⟩
  exact (Below.refl _ _).alloc (Nat.le_refl _) _
set_option maxHeartbeats 1000000 in
theorem parse_nopoint (s : ByteArray) (hs : s.size ≤ maxLen) (h : s.size ≤ 60) (hp : pt s = -1) (w : World) :
    Calls Tryz.prog 106 #[.string s] w fun e w' => e = .returned noneV ∧ Below w.heap.size w w' := by
  unfold maxLen at hs
  have h1' := Lib.hid hp
  clear hp
  go_enter Tryz.func106, Tryz.ntmps106
  go_wp2_with fail
  refine (Tryz.strings_LastIndexByte _ _ (by omega) _).mono ?_
  rintro e w' ⟨rfl, rfl⟩
  rw [show Lib.lastIndexByte s 46 = _ from h1'.out]
  go_wp2_with fail
  refine bodyPost_ret (v := noneV) (by simp [results, Tryz.results106, go_sem, noneV]) rfl ⟨rfl, ?_⟩
  exact (Below.refl _ _).alloc (Nat.le_refl _) _
set_option maxHeartbeats 1000000 in
theorem parse_nokind (s : ByteArray) (hs : s.size ≤ maxLen) (h60 : s.size ≤ 60) (i : Nat) (hi : i < s.size) (h1 : pt s = i) (hk : kindS (s.extract (i + 1) s.size) = 0) (w : World) :
    Calls Tryz.prog 106 #[.string s] w fun e w' => e = .returned noneV ∧ Below w.heap.size w w' := by
  have h1' := Lib.hid h1
  clear h1
  obtain ⟨hc1, hc2⟩ := cutAt_size (s.extract 0 i)
  have hx : (s.extract 0 i).size ≤ maxLen := by rw [ByteArray.size_extract]; unfold maxLen at *; omega
  have hx1 : (str (cutAt (s.extract 0 i)).1).size ≤ maxLen := by omega
  have hx2 : (str (cutAt (s.extract 0 i)).2.1).size ≤ maxLen := by omega
  clear hc1 hc2
  unfold maxLen at hs
  have hk' : (kindS (s.extract (i + 1) s.size) == 0) = true := by simpa using hk
  clear hk
  go_enter Tryz.func106, Tryz.ntmps106
  go_wp2_with fail
  refine (Tryz.strings_LastIndexByte _ _ (by omega) _).mono ?_
  rintro e w' ⟨rfl, rfl⟩
  rw [show Lib.lastIndexByte s 46 = _ from h1'.out]
  go_wp2_with fail
  refine (kindOf_any _ _).mono ?_
  rintro e w' ⟨rfl, rfl⟩
  go_wp2_with fail
  refine (cut_at _ hx _).mono ?_
  rintro e w' ⟨rfl, n, rfl⟩
  go_wp2_with fail
  refine bodyPost_ret (v := noneV) (by simp [results, Tryz.results106, go_sem, noneV]) rfl ⟨rfl, ?_⟩
  go_grown
  exact below_drewN ((Below.refl _ _).alloc (Nat.le_refl _) _) n
set_option maxHeartbeats 1000000 in
theorem parse_noprefix (s : ByteArray) (hs : s.size ≤ maxLen) (h60 : s.size ≤ 60) (i : Nat) (hi : i < s.size) (h1 : pt s = i) (hk : kindS (s.extract (i + 1) s.size) ≠ 0) (hp : (cutAt (s.extract 0 i)).1 = []) (w : World) :
    Calls Tryz.prog 106 #[.string s] w fun e w' => e = .returned noneV ∧ Below w.heap.size w w' := by
  have h1' := Lib.hid h1
  clear h1
  obtain ⟨hc1, hc2⟩ := cutAt_size (s.extract 0 i)
  have hx : (s.extract 0 i).size ≤ maxLen := by rw [ByteArray.size_extract]; unfold maxLen at *; omega
  have hx1 : (str (cutAt (s.extract 0 i)).1).size ≤ maxLen := by omega
  have hx2 : (str (cutAt (s.extract 0 i)).2.1).size ≤ maxLen := by omega
  clear hc1 hc2
  unfold maxLen at hs
  have hk' : (kindS (s.extract (i + 1) s.size) == 0) = false := by simpa using hk
  clear hk
  have hp' : (str (cutAt (s.extract 0 i)).1).toList.isEmpty = true := by rw [Lib.toList_data]; simpa [str] using hp
  clear hp
  go_enter Tryz.func106, Tryz.ntmps106
  go_wp2_with fail
  refine (Tryz.strings_LastIndexByte _ _ (by omega) _).mono ?_
  rintro e w' ⟨rfl, rfl⟩
  rw [show Lib.lastIndexByte s 46 = _ from h1'.out]
  go_wp2_with fail
  refine (kindOf_any _ _).mono ?_
  rintro e w' ⟨rfl, rfl⟩
  go_wp2_with fail
  refine (cut_at _ hx _).mono ?_
  rintro e w' ⟨rfl, n, rfl⟩
  go_wp2_with fail
  refine bodyPost_ret (v := noneV) (by simp [results, Tryz.results106, go_sem, noneV]) rfl ⟨rfl, ?_⟩
  go_grown
  exact below_drewN ((Below.refl _ _).alloc (Nat.le_refl _) _) n
set_option maxHeartbeats 1000000 in
theorem parse_badprefix (s : ByteArray) (hs : s.size ≤ maxLen) (h60 : s.size ≤ 60) (i : Nat) (hi : i < s.size) (h1 : pt s = i) (hk : kindS (s.extract (i + 1) s.size) ≠ 0) (hp : (cutAt (s.extract 0 i)).1 ≠ []) (hb : bodyS (str (cutAt (s.extract 0 i)).1) = false) (w : World) :
    Calls Tryz.prog 106 #[.string s] w fun e w' => e = .returned noneV ∧ Below w.heap.size w w' := by
  have h1' := Lib.hid h1
  clear h1
  obtain ⟨hc1, hc2⟩ := cutAt_size (s.extract 0 i)
  have hx : (s.extract 0 i).size ≤ maxLen := by rw [ByteArray.size_extract]; unfold maxLen at *; omega
  have hx1 : (str (cutAt (s.extract 0 i)).1).size ≤ maxLen := by omega
  have hx2 : (str (cutAt (s.extract 0 i)).2.1).size ≤ maxLen := by omega
  clear hc1 hc2
  unfold maxLen at hs
  have hk' : (kindS (s.extract (i + 1) s.size) == 0) = false := by simpa using hk
  clear hk
  have hp' : (str (cutAt (s.extract 0 i)).1).toList.isEmpty = false := by rw [Lib.toList_data]; simpa [str] using hp
  clear hp
  go_enter Tryz.func106, Tryz.ntmps106
  go_wp2_with fail
  refine (Tryz.strings_LastIndexByte _ _ (by omega) _).mono ?_
  rintro e w' ⟨rfl, rfl⟩
  rw [show Lib.lastIndexByte s 46 = _ from h1'.out]
  go_wp2_with fail
  refine (kindOf_any _ _).mono ?_
  rintro e w' ⟨rfl, rfl⟩
  go_wp2_with fail
  refine (cut_at _ hx _).mono ?_
  rintro e w' ⟨rfl, n, rfl⟩
  go_wp2_with fail
  refine (isBody_any _ hx1 _).mono ?_
  rintro e w' ⟨rfl, rfl⟩
  go_wp2_with fail
  refine bodyPost_ret (v := noneV) (by simp [results, Tryz.results106, go_sem, noneV]) rfl ⟨rfl, ?_⟩
  go_grown
  exact below_drewN ((Below.refl _ _).alloc (Nat.le_refl _) _) n
set_option maxHeartbeats 1000000 in
theorem parse_badinst (s : ByteArray) (hs : s.size ≤ maxLen) (h60 : s.size ≤ 60) (i : Nat) (hi : i < s.size) (h1 : pt s = i) (hk : kindS (s.extract (i + 1) s.size) ≠ 0) (hp : (cutAt (s.extract 0 i)).1 ≠ []) (hb : bodyS (str (cutAt (s.extract 0 i)).1) = true) (hb2 : bodyS (str (cutAt (s.extract 0 i)).2.1) = false) (w : World) :
    Calls Tryz.prog 106 #[.string s] w fun e w' => e = .returned noneV ∧ Below w.heap.size w w' := by
  have h1' := Lib.hid h1
  clear h1
  obtain ⟨hc1, hc2⟩ := cutAt_size (s.extract 0 i)
  have hx : (s.extract 0 i).size ≤ maxLen := by rw [ByteArray.size_extract]; unfold maxLen at *; omega
  have hx1 : (str (cutAt (s.extract 0 i)).1).size ≤ maxLen := by omega
  have hx2 : (str (cutAt (s.extract 0 i)).2.1).size ≤ maxLen := by omega
  clear hc1 hc2
  unfold maxLen at hs
  have hk' : (kindS (s.extract (i + 1) s.size) == 0) = false := by simpa using hk
  clear hk
  have hp' : (str (cutAt (s.extract 0 i)).1).toList.isEmpty = false := by rw [Lib.toList_data]; simpa [str] using hp
  clear hp
  go_enter Tryz.func106, Tryz.ntmps106
  go_wp2_with fail
  refine (Tryz.strings_LastIndexByte _ _ (by omega) _).mono ?_
  rintro e w' ⟨rfl, rfl⟩
  rw [show Lib.lastIndexByte s 46 = _ from h1'.out]
  go_wp2_with fail
  refine (kindOf_any _ _).mono ?_
  rintro e w' ⟨rfl, rfl⟩
  go_wp2_with fail
  refine (cut_at _ hx _).mono ?_
  rintro e w' ⟨rfl, n, rfl⟩
  go_wp2_with fail
  refine (isBody_any _ hx1 _).mono ?_
  rintro e w' ⟨rfl, rfl⟩
  go_wp2_with fail
  refine (isBody_any _ hx2 _).mono ?_
  rintro e w' ⟨rfl, rfl⟩
  go_wp2_with fail
  refine bodyPost_ret (v := noneV) (by simp [results, Tryz.results106, go_sem, noneV]) rfl ⟨rfl, ?_⟩
  go_grown
  exact below_drewN ((Below.refl _ _).alloc (Nat.le_refl _) _) n
def preP (s : ByteArray) : ByteArray := if goodP s = true then str (cutAt (headP s)).1 else ⟨#[]⟩
def instP (s : ByteArray) : ByteArray := if goodP s = true then str (cutAt (headP s)).2.1 else ⟨#[]⟩
def atP (s : ByteArray) : Bool := if goodP s = true then (cutAt (headP s)).2.2 else false
def kindP (s : ByteArray) : Int := if goodP s = true then kindS (tailP s) else 0
theorem parse_any (s : ByteArray) (hs : s.size ≤ maxLen) (w : World) :
    Calls Tryz.prog 106 #[.string s] w fun e w' => e = .returned (.tuple #[.agg #[.string (preP s), .string (instP s), .bool (atP s), .int .i64 (kindP s)], .bool (goodP s)]) ∧ Below w.heap.size w w' := by
  unfold preP instP atP kindP
  rcases hg : goodP s with _ | _
  · simp only [Bool.false_eq_true, if_false]
    by_cases h60 : s.size ≤ 60
    · rcases pt_cases s with h1 | ⟨i, hi, h1⟩
      · exact parse_nopoint s hs h60 h1 w
      · have hH : headP s = s.extract 0 i := by unfold headP; rw [h1]; rfl
        have hT : tailP s = s.extract (i + 1) s.size := by unfold tailP; rw [h1]; rfl
        unfold goodP at hg
        rw [hH, hT] at hg
        by_cases hk : kindS (s.extract (i + 1) s.size) = 0
        · exact parse_nokind s hs h60 i hi h1 hk w
        · by_cases hp : (cutAt (s.extract 0 i)).1 = []
          · exact parse_noprefix s hs h60 i hi h1 hk hp w
          · rcases hb : bodyS (str (cutAt (s.extract 0 i)).1) with _ | _
            · exact parse_badprefix s hs h60 i hi h1 hk hp hb w
            · rcases hb2 : bodyS (str (cutAt (s.extract 0 i)).2.1) with _ | _
              · exact parse_badinst s hs h60 i hi h1 hk hp hb hb2 w
              · exfalso
                rw [hb, hb2] at hg
                simp [h60, hk, hp] at hg
                omega
    · exact parse_long s hs (by omega) w
  · simp only [if_true]
    exact parse_good s hs hg w
end Go.Proofs.YtadifolonbkamaaGreatDoor.Nm
