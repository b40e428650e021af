/- strings.Cut at one byte; the walks of the developers' specifier and Spec. -/
import Derived.Test.YtjoedgkmpklhfaaExB
namespace Go.Proofs.Ytjoedgkmpklhfaa
open Go.RowKit

/-- What strings.Cut at one byte gives: before, behind, whether. -/
def cutA (c : UInt8) (s : ByteArray) : ByteArray := str (cutX c s.data.toList).1
def cutB (c : UInt8) (s : ByteArray) : ByteArray := str (cutX c s.data.toList).2.1
def cutF (c : UInt8) (s : ByteArray) : Bool := (cutX c s.data.toList).2.2
theorem cutC_no {c : UInt8} {s : ByteArray} (h : cutF c s = false) : c ∉ s.data.toList ∧ cutA c s = s := by
  obtain ⟨h1, h2⟩ := cutX_no h
  exact ⟨h1, by unfold cutA; rw [h2, str_data]⟩
theorem cutC_yes {c : UInt8} {s : ByteArray} (h : cutF c s = true) : c ∉ (cutA c s).data.toList ∧ s.data.toList = (cutA c s).data.toList ++ c :: (cutB c s).data.toList ∧ (cutA c s).size + (cutB c s).size + 1 = s.size := by
  obtain ⟨h1, h2⟩ := cutX_yes h
  refine ⟨h1, h2, ?_⟩
  have := congrArg List.length h2
  rw [size_list] at this
  rw [this, List.length_append, List.length_cons]
  rfl

set_option maxHeartbeats 2000000 in
set_option maxRecDepth 100000 in
theorem liteCut_c (c : UInt8) (s : ByteArray) (hs : s.size ≤ maxLen) (w : World) :
    Calls Try.prog 34 #[.string s, .string ⟨#[c]⟩] w fun e w' => e = .returned (.tuple #[.string (cutA c s), .string (cutB c s), .bool (cutF c s)]) ∧ ∃ n, w' = w.drewN n := by
  unfold maxLen at hs
  have hi1 : Lib.indexByte s.data.toList c = Lib.indexB s ⟨#[c]⟩ := (Lib.index_one s.data.toList c).symm
  have hcut : Lib.cut s.data.toList (⟨#[c]⟩ : ByteArray).data.toList = cutX c s.data.toList := cut_cutX c s.data.toList
  rcases Lib.indexB_cases s ⟨#[c]⟩ with hix | ⟨i, hix, hroom⟩
  · obtain ⟨e1, e2, e3⟩ := Lib.cutB_miss s ⟨#[c]⟩ hix
    rw [hcut] at e1 e2 e3
    have E1 : cutA c s = _ := e1
    have E2 : cutB c s = _ := e2
    have E3 : cutF c s = _ := e3
    rw [E1, E2, E3]
    rw [hix] at hi1
    clear e1 e2 e3 E1 E2 E3 hix hcut
    have H := Lib.hid hi1
    clear hi1
    go_enter Try.func34, Try.ntmps34
    go_wp2_with (go_at_call 49; refine (Try.stringslite_Index_one _ _ _).mono ?_; rintro e w' ⟨rfl, rfl⟩; rw [H.out])
    go_ret3
    exact ⟨rfl, 0, rfl⟩
  · obtain ⟨e1, e2, e3⟩ := Lib.cutB_hit s ⟨#[c]⟩ i hix
    rw [hcut] at e1 e2 e3
    have E1 : cutA c s = _ := e1
    have E2 : cutB c s = _ := e2
    have E3 : cutF c s = _ := e3
    rw [E1, E2, E3]
    rw [hix] at hi1
    clear e1 e2 e3 E1 E2 E3 hix hcut
    have hsz : (⟨#[c]⟩ : ByteArray).size = 1 := rfl
    rw [hsz] at hroom ⊢
    clear hsz
    have H := Lib.hid hi1
    clear hi1
    have c1 : (0 : Int) ≤ ↑i := by omega
    have c2 : (↑i : Int) ≤ ↑s.size := by omega
    have c3 : (0 : Int) ≤ ↑i + 1 := by omega
    have c4 : (↑i + 1 : Int) ≤ ↑s.size := by omega
    go_enter Try.func34, Try.ntmps34
    go_wp2_with (go_at_call 49; refine (Try.stringslite_Index_one _ _ _).mono ?_; rintro e w' ⟨rfl, rfl⟩; rw [H.out])
    go_region
    go_wp2
    go_ret3
    exact ⟨rfl, 1, rfl⟩

set_option maxHeartbeats 1000000 in
theorem cut_c (c : UInt8) (s : ByteArray) (hs : s.size ≤ maxLen) (w : World) :
    Calls Try.prog 17 #[.string s, .string ⟨#[c]⟩] w fun e w' => e = .returned (.tuple #[.string (cutA c s), .string (cutB c s), .bool (cutF c s)]) ∧ ∃ n, w' = w.drewN n := by
  go_enter Try.func17, Try.ntmps17
  go_wp2_with (go_at_call 34; refine (liteCut_c _ _ hs _).mono ?_; rintro e w' ⟨rfl, n, rfl⟩)
  go_ret3
  exact ⟨rfl, n, rfl⟩

/-! ### what stands for a sign's letter -/
/-- The instance string unescaped, or itself. -/
def instU (u : ByteArray) : ByteArray := if unescOk (instP u) = true then unescS (instP u) else instP u
def signV (u : ByteArray) (c : UInt8) : Option (List UInt8) :=
  if c = 37 then some [37] else if c = 110 then some u.data.toList else if c = 78 then some (headP u).data.toList else if c = 112 then some (preP u).data.toList
  else if c = 105 then some (instP u).data.toList else if c = 73 then some (instU u).data.toList else none
def signS (u : ByteArray) (c : UInt8) : ByteArray := str ((signV u c).getD [])
def signOk (u : ByteArray) (c : UInt8) : Bool := (signV u c).isSome
theorem sign_c {u : ByteArray} {c : UInt8} {s : ByteArray} (h : signV u c = some s.data.toList) : signS u c = s ∧ signOk u c = true := by
  unfold signS signOk
  rw [h]
  exact ⟨str_data s, rfl⟩
theorem sign_no {u : ByteArray} {c : UInt8} (h : signV u c = none) : signS u c = ⟨#[]⟩ ∧ signOk u c = false := by
  unfold signS signOk
  rw [h]
  exact ⟨rfl, rfl⟩
theorem u8_eq {c d : UInt8} (h : (c.toNat : Int) = d.toNat) : c = d := UInt8.toNat_inj.1 (by omega)
theorem ret_sb {a c : ByteArray} {b d : Bool} (h : a = c ∧ b = d) : Ending.returned (.tuple #[.string c, .bool d]) = .returned (.tuple #[.string a, .bool b]) := by rw [h.1, h.2]
theorem pt_good {u : ByteArray} (h : goodP u = true) : 0 ≤ pt u ∧ u.size ≤ 60 := by
  unfold goodP at h
  simp only [Bool.and_eq_true, decide_eq_true_eq] at h
  exact ⟨h.2.1, h.1⟩

set_option maxHeartbeats 4000000 in
theorem specifier_any (c : UInt8) (u : ByteArray) (hu : goodP u = true) (w : World) :
    Calls Try.prog 20 #[.int .u8 c.toNat, .string u] w fun e w' => e = .returned (.tuple #[.string (signS u c), .bool (signOk u c)]) ∧ Below w.heap.size w w' := by
  obtain ⟨hpt, h60⟩ := pt_good hu
  have hm : u.size ≤ maxLen := by unfold maxLen; omega
  have hi60 := instP_size u
  clear hu
  have hr := c.toNat_lt
  by_cases h37 : c = 37
  · have HS := Lib.hid (sign_c (s := ⟨#[37]⟩) (show signV u c = _ by unfold signV; rw [if_pos h37]))
    have q1 : ((c.toNat : Int) == 37) = true := by rw [h37]; rfl
    clear h37
    go_enter Try.func20, Try.ntmps20
    go_wp2_with fail
    refine (Parts_any _ hm _).mono ?_
    rintro e w1 ⟨rfl, hb1⟩
    go_wp2_with fail
    go_ret2
    exact ⟨ret_sb HS.out, hb1⟩
  have q1 : ((c.toNat : Int) == 37) = false := by simp; exact fun e => h37 (u8_eq (d := 37) e)
  by_cases h110 : c = 110
  · have HS := Lib.hid (sign_c (s := u) (show signV u c = _ by unfold signV; rw [if_neg h37, if_pos h110]))
    have q2 : ((c.toNat : Int) == 110) = true := by rw [h110]; rfl
    clear h37 h110
    go_enter Try.func20, Try.ntmps20
    go_wp2_with fail
    refine (Parts_any _ hm _).mono ?_
    rintro e w1 ⟨rfl, hb1⟩
    go_wp2_with fail
    go_ret2
    exact ⟨ret_sb HS.out, hb1⟩
  have q2 : ((c.toNat : Int) == 110) = false := by simp; exact fun e => h110 (u8_eq (d := 110) e)
  by_cases h78 : c = 78
  · have HS := Lib.hid (sign_c (s := headP u) (show signV u c = _ by unfold signV; rw [if_neg h37, if_neg h110, if_pos h78]))
    have q3 : ((c.toNat : Int) == 78) = true := by rw [h78]; rfl
    rcases pt_cases u with hp | ⟨i, hi, hp⟩
    · omega
    have HP : Hid (Lib.lastIndexByte u 46 = (i : Int)) := hp
    have HE : Hid (headP u = u.extract 0 i) := by show _ = _; unfold headP; rw [hp]; rfl
    have b0 : (0 : Int) ≤ (i : Int) := by omega
    have b1 : (i : Int) ≤ (u.size : Int) := by omega
    clear h37 h110 h78 hpt hp
    go_enter Try.func20, Try.ntmps20
    go_wp2_with fail
    refine (Parts_any _ hm _).mono ?_
    rintro e w1 ⟨rfl, hb1⟩
    go_wp2_with fail
    refine (Try.strings_LastIndexByte _ _ (by omega) _).mono ?_
    rintro e w2 ⟨rfl, rfl⟩
    rw [HP.out]
    go_wp2_with fail
    go_ret2
    exact ⟨ret_sb (by rw [HS.out.1, HS.out.2, HE.out]; exact ⟨rfl, rfl⟩), hb1⟩
  have q3 : ((c.toNat : Int) == 78) = false := by simp; exact fun e => h78 (u8_eq (d := 78) e)
  by_cases h112 : c = 112
  · have HS := Lib.hid (sign_c (s := preP u) (show signV u c = _ by unfold signV; rw [if_neg h37, if_neg h110, if_neg h78, if_pos h112]))
    have q4 : ((c.toNat : Int) == 112) = true := by rw [h112]; rfl
    clear h37 h110 h78 h112
    go_enter Try.func20, Try.ntmps20
    go_wp2_with fail
    refine (Parts_any _ hm _).mono ?_
    rintro e w1 ⟨rfl, hb1⟩
    go_wp2_with fail
    go_ret2
    exact ⟨ret_sb HS.out, hb1⟩
  have q4 : ((c.toNat : Int) == 112) = false := by simp; exact fun e => h112 (u8_eq (d := 112) e)
  by_cases h105 : c = 105
  · have HS := Lib.hid (sign_c (s := instP u) (show signV u c = _ by unfold signV; rw [if_neg h37, if_neg h110, if_neg h78, if_neg h112, if_pos h105]))
    have q5 : ((c.toNat : Int) == 105) = true := by rw [h105]; rfl
    clear h37 h110 h78 h112 h105
    go_enter Try.func20, Try.ntmps20
    go_wp2_with fail
    refine (Parts_any _ hm _).mono ?_
    rintro e w1 ⟨rfl, hb1⟩
    go_wp2_with fail
    go_ret2
    exact ⟨ret_sb HS.out, hb1⟩
  have q5 : ((c.toNat : Int) == 105) = false := by simp; exact fun e => h105 (u8_eq (d := 105) e)
  by_cases h73 : c = 73
  · have q6 : ((c.toNat : Int) == 73) = true := by rw [h73]; rfl
    have HS := Lib.hid (sign_c (s := instU u) (show signV u c = _ by unfold signV; rw [if_neg h37, if_neg h110, if_neg h78, if_neg h112, if_neg h105, if_pos h73]))
    rcases hk : unescOk (instP u) with _ | _
    · have HU := Lib.hid (show instU u = instP u by unfold instU; rw [if_neg (by rw [hk]; simp)])
      clear h37 h110 h78 h112 h105 h73
      go_enter Try.func20, Try.ntmps20
      go_wp2_with fail
      refine (Parts_any _ hm _).mono ?_
      rintro e w1 ⟨rfl, hb1⟩
      go_wp2_with fail
      refine (Unescape_any _ (by omega) _).mono ?_
      rintro e w2 ⟨rfl, hb2⟩
      go_wp2_with fail
      go_ret2
      exact ⟨ret_sb (by rw [HS.out.1, HS.out.2, HU.out]; exact ⟨rfl, rfl⟩), below_more hb1 hb1.size hb2⟩
    · have HU := Lib.hid (show instU u = unescS (instP u) by unfold instU; rw [if_pos hk])
      clear h37 h110 h78 h112 h105 h73
      go_enter Try.func20, Try.ntmps20
      go_wp2_with fail
      refine (Parts_any _ hm _).mono ?_
      rintro e w1 ⟨rfl, hb1⟩
      go_wp2_with fail
      refine (Unescape_any _ (by omega) _).mono ?_
      rintro e w2 ⟨rfl, hb2⟩
      go_wp2_with fail
      go_ret2
      exact ⟨ret_sb (by rw [HS.out.1, HS.out.2, HU.out]; exact ⟨rfl, rfl⟩), below_more hb1 hb1.size hb2⟩
  have q6 : ((c.toNat : Int) == 73) = false := by simp; exact fun e => h73 (u8_eq (d := 73) e)
  have HS := Lib.hid (sign_no (u := u) (c := c) (by unfold signV; rw [if_neg h37, if_neg h110, if_neg h78, if_neg h112, if_neg h105, if_neg h73]))
  clear h37 h110 h78 h112 h105 h73
  go_enter Try.func20, Try.ntmps20
  go_wp2_with fail
  refine (Parts_any _ hm _).mono ?_
  rintro e w1 ⟨rfl, hb1⟩
  go_wp2_with fail
  go_ret2
  exact ⟨ret_sb HS.out, hb1⟩

/-! ### Spec -/
def specS (s u : ByteArray) : ByteArray := if goodP u = true then (match specL (signV u) s.data.toList with | some l => str l | none => ⟨#[]⟩) else ⟨#[]⟩
def specE (s u : ByteArray) : Int := if goodP u = true then (match specL (signV u) s.data.toList with | some _ => 0 | none => 14) else 5
theorem spec_bad {s u : ByteArray} (h : goodP u = false) : specS s u = ⟨#[]⟩ ∧ specE s u = 5 := by
  unfold specS specE
  rw [if_neg (by rw [h]; simp), if_neg (by rw [h]; simp)]
  exact ⟨rfl, rfl⟩
theorem spec_none {s u : ByteArray} (h : goodP u = true) (hn : specL (signV u) s.data.toList = none) : specS s u = ⟨#[]⟩ ∧ specE s u = 14 := by
  unfold specS specE
  rw [if_pos h, if_pos h, hn]
  exact ⟨rfl, rfl⟩
theorem spec_some {s u : ByteArray} {l : List UInt8} (h : goodP u = true) (hn : specL (signV u) s.data.toList = some l) : specS s u = str l ∧ specE s u = 0 := by
  unfold specS specE
  rw [if_pos h, if_pos h, hn]
  exact ⟨rfl, rfl⟩
theorem ret_si {a c : ByteArray} {b d : Int} (h : a = c ∧ b = d) : Ending.returned (.tuple #[.string c, .int .i64 d]) = .returned (.tuple #[.string a, .int .i64 b]) := by rw [h.1, h.2]
/-- How far the text is read: acc is what stands for what is ahead of r. -/
def specAt (s u r : ByteArray) (acc : List UInt8) : Prop := specL (signV u) s.data.toList = (specL (signV u) r.data.toList).map (acc ++ ·)
theorem specAt_zero (s u : ByteArray) : specAt s u s [] := by unfold specAt; simp
theorem specAt_end {s u r : ByteArray} {acc : List UInt8} (h : specAt s u r acc) (hc : cutF 37 r = false) : specL (signV u) s.data.toList = some (acc ++ (cutA 37 r).data.toList) := by
  obtain ⟨h1, h2⟩ := cutC_no hc
  unfold specAt at h
  have := specL_plain (signV u) r.data.toList [] h1
  rw [List.append_nil] at this
  rw [h, h2, this]
  simp [specL]
theorem specAt_last {s u r : ByteArray} {acc : List UInt8} (h : specAt s u r acc) (hc : cutF 37 r = true) (h0 : (cutB 37 r).size = 0) : specL (signV u) s.data.toList = none := by
  obtain ⟨h1, h2, _⟩ := cutC_yes hc
  unfold specAt at h
  rw [h, h2, specL_plain _ _ _ h1, show (cutB 37 r).data.toList = [] from List.eq_nil_of_length_eq_zero (by rw [size_list]; exact h0), specL_last]
  rfl
theorem specAt_wrong {s u r : ByteArray} {acc : List UInt8} (h : specAt s u r acc) (hc : cutF 37 r = true) (h0 : 0 < (cutB 37 r).size) (hk : signOk u (cutB 37 r)[0] = false) : specL (signV u) s.data.toList = none := by
  obtain ⟨h1, h2, _⟩ := cutC_yes hc
  unfold specAt at h
  have hd := drop_at (cutB 37 r) 0 h0
  rw [List.drop_zero] at hd
  have hv : signV u (cutB 37 r)[0] = none := by unfold signOk at hk; simpa using hk
  rw [h, h2, specL_plain _ _ _ h1, hd, specL_none hv]
  rfl
theorem specAt_next {s u r : ByteArray} {acc : List UInt8} (h : specAt s u r acc) (hc : cutF 37 r = true) (h0 : 0 < (cutB 37 r).size) (hk : signOk u (cutB 37 r)[0] = true) :
    specAt s u ((cutB 37 r).extract 1 (cutB 37 r).size) (acc ++ (cutA 37 r).data.toList ++ (signS u (cutB 37 r)[0]).data.toList) := by
  obtain ⟨h1, h2, _⟩ := cutC_yes hc
  unfold specAt at *
  have hd := drop_at (cutB 37 r) 0 h0
  rw [List.drop_zero] at hd
  obtain ⟨v, hv⟩ : ∃ v, signV u (cutB 37 r)[0] = some v := by unfold signOk at hk; exact Option.isSome_iff_exists.1 hk
  have hS : (signS u (cutB 37 r)[0]).data.toList = v := by unfold signS; rw [hv]; rfl
  have ht : ((cutB 37 r).extract 1 (cutB 37 r).size).data.toList = (cutB 37 r).data.toList.drop 1 := tail_list _ 0
  rw [h, h2, specL_plain _ _ _ h1, hd, specL_some hv, hS, ht, Option.map_map, Option.map_map]
  congr 1
  funext z
  simp
theorem sign_len (u : ByteArray) (h : u.size ≤ 60) (d : UInt8) (v : List UInt8) (hv : signV u d = some v) : v.length ≤ 60 := by
  have hp := preP_size u
  have hi := instP_size u
  have hh : (headP u).size ≤ u.size := by unfold headP; rw [ByteArray.size_extract]; omega
  have hU : (instU u).size ≤ 60 := by
    unfold instU
    have := unescS_size (instP u)
    split <;> omega
  unfold signV at hv
  repeat' (split at hv)
  all_goals first | (injection hv with hv; subst hv; first | (rw [size_list]; omega) | simp) | cases hv
theorem signS_size (u : ByteArray) (h : u.size ≤ 60) (d : UInt8) : (signS u d).size ≤ 60 := by
  unfold signS
  cases hv : signV u d with
  | none => exact Nat.zero_le _
  | some v => exact sign_len u h d v hv

theorem isB_below {T e : TypeId} {B b : Nat} {bs : List Value} {w w' : World} (h : Lib.IsBuilderF T e B b bs w) (hb : Below w.heap.size w w') : Lib.IsBuilderF T e B b bs w' := by
  have hg : w.grownBy w' none := ⟨hb.os, hb.tape, hb.output, hb.size, fun k hk _ => hb.block k hk⟩
  rcases h with ⟨h1, v, hbk, hown, hne⟩ | ⟨h1, v, hbk, hown, hne⟩
  · exact .inl ⟨h1, v, (hb.block b (Array.getElem?_eq_some_iff.1 hbk).1).trans hbk, hown.kept hg (Classical.em _), hne⟩
  · exact .inr ⟨h1, v, (hb.block b (Array.getElem?_eq_some_iff.1 hbk).1).trans hbk, hown.kept hg (Classical.em _), hne⟩

theorem below_drewL {B n : Nat} {a w : World} (h : Below B (a.drewN n) w) : Below B a w := ⟨h.os, h.tape, h.output, h.size, h.block⟩
def strLen : Value → Nat
  | .string s => s.size
  | _ => 0

set_option maxHeartbeats 4000000 in
theorem Spec_any (s u : ByteArray) (hs : s.size ≤ 4194304) (hu : u.size ≤ maxLen) (w : World) :
    Calls Try.prog 9 #[.string s, .string u] w fun e w' => e = .returned (.tuple #[.string (specS s u), .int .i64 (specE s u)]) ∧ Below w.heap.size w w' := by
  rcases hg : goodP u with _ | _
  · have HN := Lib.hid (spec_bad (s := s) hg)
    go_enter Try.func9, Try.ntmps9
    go_wp2_with fail
    refine (May_any _ hu _).mono ?_
    rintro e w1 ⟨rfl, hb1⟩
    go_wp2_with fail
    go_ret2
    exact ⟨ret_si HN.out, hb1⟩
  have HG := Lib.hid hg
  obtain ⟨_, h60⟩ := pt_good hg
  have hat0 := Lib.hid (specAt_zero s u)
  go_enter Try.func9, Try.ntmps9
  go_wp2_with fail
  refine (May_any _ hu _).mono ?_
  rintro e w1 ⟨rfl, hb1⟩
  have hfresh := Lib.hid (Lib.IsBuilderF.of (Lib.fresh_isBuilder 42 5 w1))
  have HB1 := Lib.hid hb1
  have hsz := hb1.size
  clear hb1
  go_wp2_with fail
  clear hg
  go_loopw [0] (fun v wr => ∃ (r : ByteArray) (acc : List UInt8), v = .string r ∧ acc.length + 60 * r.size ≤ 60 * s.size ∧ Hid (specAt s u r acc) ∧ Hid (Lib.IsBuilderF 42 5 w1.heap.size w1.heap.size (Lib.byteCells acc) wr) ∧ Hid (Below w1.heap.size w1 wr)) (fun v wr => strLen v)
  case atStart => exact ⟨s, [], rfl, by simp, hat0, hfresh, (Below.refl _ _).alloc (Nat.le_refl _) _⟩
  case round =>
    obtain ⟨r, acc, rfl, hacc, hat, hB, hb⟩ := hrel
    have hbs : w1.heap.size ≤ wr.heap.size := hb.out.size
    have hlen : (Lib.byteCells acc).length = acc.length := Lib.byteCells_length _
    rcases hc : cutF 37 r with _ | _
    · have HE := Lib.hid (spec_some HG.out (specAt_end hat.out hc))
      have hA : (cutA 37 r).size = r.size := by rw [(cutC_no hc).2]
      go_wp2_with fail
      refine (cut_c _ _ (by unfold maxLen; omega) _).mono ?_
      rintro e w2 ⟨rfl, n, rfl⟩
      go_wp2_with fail
      refine (writeString_any w1.heap.size w1.heap.size _ (cutA 37 r) (wr.drewN n) (by exact hB.out) (by omega) (by exact hbs)).mono ?_
      rintro e w3 ⟨rfl, hB3, hb3⟩
      have HB3 : Hid (Lib.IsBuilderF 42 5 w1.heap.size w1.heap.size (Lib.byteCells (acc ++ (cutA 37 r).data.toList)) w3) := by rw [Lib.byteCells_append]; exact hB3
      have Hb3 := Lib.hid ((below_drewN hb.out n).trans hb3)
      clear hB3 hb3
      go_wp2_with fail
      refine (Try.Builder_String_any_k _ _ _ _ HB3.out Hb3.out.size).mono ?_
      rintro e w4 ⟨rfl, hB4, hb4, _⟩
      go_wp2_with fail
      go_ret2
      exact ⟨ret_si HE.out, more HB1.out (Hb3.out.trans hb4)⟩
    · obtain ⟨_, _, hsize⟩ := cutC_yes hc
      rcases Nat.eq_zero_or_pos (cutB 37 r).size with h0 | h0
      · have HN := Lib.hid (spec_none HG.out (specAt_last hat.out hc h0))
        have he : (cutB 37 r).toList.isEmpty = true := by
          rw [Lib.toList_data, show (cutB 37 r).data.toList = [] from List.eq_nil_of_length_eq_zero (by rw [size_list]; exact h0)]; rfl
        go_wp2_with fail
        refine (cut_c _ _ (by unfold maxLen; omega) _).mono ?_
        rintro e w2 ⟨rfl, n, rfl⟩
        go_wp2_with fail
        refine (writeString_any w1.heap.size w1.heap.size _ (cutA 37 r) (wr.drewN n) (by exact hB.out) (by omega) (by exact hbs)).mono ?_
        rintro e w3 ⟨rfl, _, hb3⟩
        have Hb3 := Lib.hid ((below_drewN hb.out n).trans hb3)
        clear hb3
        go_wp2_with fail
        go_ret2
        exact ⟨ret_si HN.out, more HB1.out Hb3.out⟩
      · have he : (cutB 37 r).toList.isEmpty = false := by
          rw [Lib.toList_data]
          cases hd : (cutB 37 r).data.toList with
          | nil => exfalso; rw [← size_list, hd] at h0; simp at h0
          | cons a t => rfl
        have hr := (cutB 37 r)[0].toNat_lt
        have b0 : (0 : Int) < ((cutB 37 r).size : Int) := by omega
        have b1 : (1 : Int) ≤ ((cutB 37 r).size : Int) := by omega
        rcases hk : signOk u (cutB 37 r)[0] with _ | _
        · have HN := Lib.hid (spec_none HG.out (specAt_wrong hat.out hc h0 hk))
          go_wp2_with fail
          refine (cut_c _ _ (by unfold maxLen; omega) _).mono ?_
          rintro e w2 ⟨rfl, n, rfl⟩
          go_wp2_with fail
          refine (writeString_any w1.heap.size w1.heap.size _ (cutA 37 r) (wr.drewN n) (by exact hB.out) (by omega) (by exact hbs)).mono ?_
          rintro e w3 ⟨rfl, _, hb3⟩
          have Hb3 := Lib.hid ((below_drewN hb.out n).trans hb3)
          clear hb3
          go_wp2_with fail
          refine (specifier_any _ u HG.out _).mono ?_
          rintro e w4 ⟨rfl, hb4⟩
          have Hb4 := Lib.hid (below_more Hb3.out Hb3.out.size hb4)
          clear hb4
          go_wp2_with fail
          go_ret2
          exact ⟨ret_si HN.out, more HB1.out Hb4.out⟩
        · have HX := Lib.hid (specAt_next hat.out hc h0 hk)
          have h6 := signS_size u h60 (cutB 37 r)[0]
          go_wp2_with fail
          refine (cut_c _ _ (by unfold maxLen; omega) _).mono ?_
          rintro e w2 ⟨rfl, n, rfl⟩
          go_wp2_with fail
          refine (writeString_any w1.heap.size w1.heap.size _ (cutA 37 r) (wr.drewN n) (by exact hB.out) (by omega) (by exact hbs)).mono ?_
          rintro e w3 ⟨rfl, hB3, hb3⟩
          have HB3 : Hid (Lib.IsBuilderF 42 5 w1.heap.size w1.heap.size (Lib.byteCells (acc ++ (cutA 37 r).data.toList)) w3) := by rw [Lib.byteCells_append]; exact hB3
          have Hb3 := Lib.hid ((below_drewN hb.out n).trans hb3)
          clear hB3 hb3
          go_wp2_with fail
          refine (specifier_any _ u HG.out _).mono ?_
          rintro e w4 ⟨rfl, hb4⟩
          have HB4 : Hid (Lib.IsBuilderF 42 5 w1.heap.size w1.heap.size (Lib.byteCells (acc ++ (cutA 37 r).data.toList)) w4) := isB_below HB3.out hb4
          have Hb4 := Lib.hid (below_more Hb3.out Hb3.out.size hb4)
          have hs4 : w1.heap.size ≤ w4.heap.size := Hb4.out.size
          clear hb4
          go_wp2_with fail
          refine (writeString_any w1.heap.size w1.heap.size _ (signS u (cutB 37 r)[0]) _ HB4.out (by rw [Lib.byteCells_length, List.length_append, size_list]; omega) hs4).mono ?_
          rintro e w5 ⟨rfl, hB5, hb5⟩
          have HB5 : Hid (Lib.IsBuilderF 42 5 w1.heap.size w1.heap.size (Lib.byteCells (acc ++ (cutA 37 r).data.toList ++ (signS u (cutB 37 r)[0]).data.toList)) w5) := by rw [Lib.byteCells_append]; exact hB5
          have Hb5 := Lib.hid (Hb4.out.trans hb5)
          clear hB5 hb5
          go_wp2_with fail
          go_roundw
          case rel =>
            refine ⟨_, _, rfl, ?_, HX, HB5, Hb5⟩
            rw [List.length_append, List.length_append, size_list, size_list, ByteArray.size_extract]
            omega
          case measure => simp [strLen]; omega
end Go.Proofs.Ytjoedgkmpklhfaa
