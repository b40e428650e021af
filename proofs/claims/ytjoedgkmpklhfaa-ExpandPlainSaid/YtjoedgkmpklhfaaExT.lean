/- The walks of the laws ExpandSpec and ExpandPercent. -/
import Derived.Test.YtjoedgkmpklhfaaExS
import Derived.Test.YtjoedgkmpklhfaaExI
namespace Go.Proofs.Ytjoedgkmpklhfaa
open Go.RowKit

set_option maxHeartbeats 4000000 in
theorem ExpandSpec_any (s u : ByteArray) (hs : s.size ≤ 1048576) (hu : u.size ≤ maxLen) (w : World) :
    Calls Try.prog 3 #[.string s, .string u] w fun e w' => e = .returned (.bool true) ∧ Below w.heap.size w w' := by
  have q1 : ((specS s u).toList == (specS s u).toList) = true := by simp
  have q2 : ((specE s u : Int) == specE s u) = true := by simp
  go_enter Try.func3, Try.ntmps3
  go_wp2_with fail
  refine (shown6_any _).mono ?_
  rintro e w1 ⟨rfl, hb1⟩
  have HB1 := Lib.hid hb1
  clear hb1
  go_wp2_with fail
  refine (Spec_any s u (by omega) hu _).mono ?_
  rintro e w2 ⟨rfl, hb2⟩
  have HB2 := Lib.hid (below_more HB1.out HB1.out.size hb2)
  clear hb2
  go_wp2_with fail
  refine (rSpec_any s u (by omega) hu _).mono ?_
  rintro e w3 ⟨rfl, hb3⟩
  have HB3 := Lib.hid (below_more HB2.out HB2.out.size hb3)
  clear hb3
  go_wp2_with fail
  go_ret
  exact ⟨rfl, HB3.out⟩

theorem sign_two (u : ByteArray) : signV u 37 = some [37] := by unfold signV; rw [if_pos rfl]
/-- What the loop of the law has written. -/
def twS (c : UInt8) (s : ByteArray) (k : Nat) : List UInt8 := twice c (s.data.toList.take k)
theorem twS_ne {c : UInt8} {s : ByteArray} {k : Nat} (hk : k < s.size) (hc : s[k] ≠ c) : twS c s (k + 1) = twS c s k ++ [s[k]] := by
  unfold twS
  rw [take_at s k hk]
  unfold twice
  rw [List.flatMap_append]
  simp [hc]
theorem twS_eq {c : UInt8} {s : ByteArray} {k : Nat} (hk : k < s.size) (hc : s[k] = c) : twS c s (k + 1) = twS c s k ++ [s[k]] ++ [c] := by
  unfold twS
  rw [take_at s k hk]
  unfold twice
  rw [List.flatMap_append]
  simp [hc]
theorem twS_len (c : UInt8) (s : ByteArray) (k : Nat) (hk : k ≤ s.size) : (str (twS c s k)).size ≤ 2 * k := by
  have := twice_length c (s.data.toList.take k)
  rw [List.length_take, size_list] at this
  show (twice c (s.data.toList.take k)).length ≤ 2 * k
  omega
theorem twS_all (c : UInt8) (s : ByteArray) (k : Nat) (hk : s.size ≤ k) : twS c s k = twice c s.data.toList := by
  unfold twS
  rw [List.take_of_length_le (by rw [size_list]; exact hk)]
theorem spec_app {u a b : ByteArray} (h : goodP u = true) (ha : specE a u = 0) : specE (a ++ b) u = specE b u ∧ (specE b u = 0 → specS (a ++ b) u = specS a u ++ specS b u) := by
  cases hx : specL (signV u) a.data.toList with
  | none => rw [(spec_none h hx).2] at ha; exact absurd ha (by decide)
  | some x =>
    have hab : specL (signV u) (a ++ b).data.toList = (specL (signV u) b.data.toList).map (x ++ ·) := by
      rw [app_list]; exact specL_both _ _ _ _ (Nat.le_refl _) hx
    cases hy : specL (signV u) b.data.toList with
    | none =>
      rw [hy] at hab
      rw [(spec_none h hy).2, (spec_none h hab).2]
      exact ⟨rfl, fun e => absurd e (by decide)⟩
    | some y =>
      rw [hy] at hab
      have hab' : specL (signV u) (a ++ b).data.toList = some (x ++ y) := hab
      rw [(spec_some h hy).2, (spec_some h hab').2, (spec_some h hab').1, (spec_some h hx).1, (spec_some h hy).1, str_app]
      exact ⟨rfl, fun _ => rfl⟩
theorem specE_cases {s u : ByteArray} (h : goodP u = true) : specE s u = 0 ∨ specE s u = 14 := by
  cases hx : specL (signV u) s.data.toList with
  | none => exact .inr (spec_none h hx).2
  | some x => exact .inl (spec_some h hx).2
theorem specS_size {s u : ByteArray} (h : goodP u = true) : (specS s u).size ≤ 60 * s.size := by
  cases hx : specL (signV u) s.data.toList with
  | none => rw [(spec_none h hx).1]; exact Nat.zero_le _
  | some x =>
    rw [(spec_some h hx).1]
    have := specL_len (M := 60) (fun d v hv => sign_len u (pt_good h).2 d v hv) (by omega) _ _ _ (Nat.le_refl _) hx
    rw [size_list] at this
    exact this

set_option maxHeartbeats 8000000 in
set_option maxRecDepth 100000 in
theorem ExpandPercent_any (a b u : ByteArray) (ha : a.size ≤ 1048576) (hb : b.size ≤ 1048576) (hu : u.size ≤ maxLen) (w : World) :
    Calls Try.prog 5 #[.string a, .string b, .string u] w fun e w' => e = .returned (.bool true) ∧ Below w.heap.size w w' := by
  rcases hg : goodP u with _ | _
  · have HN := Lib.hid (spec_bad (s := a) hg)
    go_enter Try.func5, Try.ntmps5
    go_wp2_with fail
    refine (shown6_any _).mono ?_
    rintro e w1 ⟨rfl, hb1⟩
    have HB1 := Lib.hid hb1
    clear hb1
    go_wp2_with fail
    refine (May_any _ hu _).mono ?_
    rintro e w2 ⟨rfl, hb2⟩
    have HB2 := Lib.hid (below_more HB1.out HB1.out.size hb2)
    clear hb2
    go_wp2_with fail
    refine (Spec_any a u (by omega) hu _).mono ?_
    rintro e w3 ⟨rfl, hb3⟩
    have HB3 := Lib.hid (below_more HB2.out HB2.out.size hb3)
    clear hb3
    rw [HN.out.2]
    go_wp2_with fail
    go_ret
    exact ⟨rfl, HB3.out⟩
  · have HG := Lib.hid hg
    obtain ⟨dbl, hdbl⟩ : ∃ dbl, str (twice 37 a.data.toList) = dbl := ⟨_, rfl⟩
    have hds : dbl.size ≤ 2097152 := by
      rw [← hdbl]
      have := twice_length 37 a.data.toList
      rw [size_list] at this
      show (twice 37 a.data.toList).length ≤ _
      omega
    have hD : specL (signV u) dbl.data.toList = some a.data.toList := by rw [← hdbl]; exact specL_twice (sign_two u) _
    have HD1 : Hid (specS dbl u = a) := by show _ = _; rw [(spec_some hg hD).1, str_data]
    have HD2 : Hid (specE dbl u = 0) := (spec_some hg hD).2
    have HDB := Lib.hid hdbl
    have hsA := specS_size (s := a) hg
    have hsB := specS_size (s := b) hg
    have habs : (a ++ b).size ≤ 2097152 := by rw [ByteArray.size_append]; omega
    have hasz : a.size + b.size ≤ 2097152 := by omega
    have HAB := Lib.hid (fun h => spec_app (a := a) (b := b) hg h)
    have HCA := Lib.hid (specE_cases (s := a) hg)
    have HCB := Lib.hid (specE_cases (s := b) hg)
    have qa : (a.toList == a.toList) = true := by simp
    clear hD hdbl
    go_enter Try.func5, Try.ntmps5
    go_wp2_with fail
    refine (shown6_any _).mono ?_
    rintro e w1 ⟨rfl, hb1⟩
    have HB1 := Lib.hid hb1
    clear hb1
    go_wp2_with fail
    refine (May_any _ hu _).mono ?_
    rintro e w2 ⟨rfl, hb2⟩
    have HB2 := Lib.hid (below_more HB1.out HB1.out.size hb2)
    clear hb2
    go_wp2_with fail
    go_loopw [9, 10] (fun x i wr => ∃ k : Nat, k ≤ a.size ∧ x = .string (str (twS 37 a k)) ∧ i = .int .i64 k ∧ w2 = wr) (fun x i wr => a.size - (intOf i).toNat)
    case atStart => exact ⟨0, Nat.zero_le _, rfl, rfl, by first | rfl | trivial⟩
    case round =>
      obtain ⟨k, hk, rfl, rfl, rfl⟩ := hrel
      have hl := twS_len 37 a k hk
      by_cases hlt : k < a.size
      · have hr := a[k].toNat_lt
        have j0 : (0 : Int) ≤ (k : Int) := by omega
        have j1 : (k : Int) < (a.size : Int) := by omega
        have j2 : (k : Int) ≤ (k : Int) + 1 := by omega
        have j3 : (k : Int) + 1 ≤ (a.size : Int) := by omega
        have H1 := Lib.hid (one_slice a k hlt)
        have z1 : (a.extract k (k + 1)).size ≤ 1 := by rw [H1.out]; exact Nat.le_refl _
        have z2 : (⟨#[37]⟩ : ByteArray).size ≤ 1 := Nat.le_refl _
        have z3 : (str (twS 37 a k) ++ a.extract k (k + 1)).size ≤ 2 * k + 1 := by rw [ByteArray.size_append]; omega
        by_cases hc : a[k] = 37
        · have p1 : ((a[k].toNat : Int) == 37) = true := by rw [hc]; rfl
          have HE : Hid (str (twS 37 a k) ++ a.extract k (k + 1) ++ (⟨#[37]⟩ : ByteArray) = str (twS 37 a (k + 1))) := by
            show _ = _
            rw [H1.out, twS_eq hlt hc, str_app]
            exact str_app _ [37]
          clear hc
          go_wp2_with fail
          go_roundw
          case rel => exact ⟨k + 1, by omega, by rw [← HE.out], by go_num, by first | rfl | trivial⟩
          case measure => simp [intOf]; omega
        · have p1 : ((a[k].toNat : Int) == 37) = false := by simp; exact fun e => hc (u8_eq (d := 37) e)
          have HE : Hid (str (twS 37 a k) ++ a.extract k (k + 1) = str (twS 37 a (k + 1))) := by
            show _ = _
            rw [H1.out, twS_ne hlt hc, str_app]
          clear hc
          go_wp2_with fail
          go_roundw
          case rel => exact ⟨k + 1, by omega, by rw [← HE.out], by go_num, by first | rfl | trivial⟩
          case measure => simp [intOf]; omega
      · have hT : str (twS 37 a k) = dbl := by rw [twS_all 37 a k (by omega)]; exact HDB.out
        rw [hT]
        clear hT
        go_wp2_with fail
        refine (Spec_any dbl u (by omega) hu _).mono ?_
        rintro e w3 ⟨rfl, hb3⟩
        have HB3 := Lib.hid (below_more HB2.out HB2.out.size hb3)
        clear hb3
        rw [HD1.out, HD2.out]
        go_wp2_with fail
        refine (Spec_any a u (by omega) hu _).mono ?_
        rintro e w4 ⟨rfl, hb4⟩
        have HB4 := Lib.hid (below_more HB3.out HB3.out.size hb4)
        clear hb4
        go_wp2_with fail
        refine (Spec_any b u (by omega) hu _).mono ?_
        rintro e w5 ⟨rfl, hb5⟩
        have HB5 := Lib.hid (below_more HB4.out HB4.out.size hb5)
        clear hb5
        go_wp2_with fail
        refine (Spec_any (a ++ b) u (by omega) hu _).mono ?_
        rintro e w6 ⟨rfl, hb6⟩
        have HB6 := Lib.hid (below_more HB5.out HB5.out.size hb6)
        clear hb6
        rcases HCA.out with e1 | e1
        · obtain ⟨h1, h2⟩ := HAB.out e1
          rw [e1, h1]
          rcases HCB.out with e2 | e2
          · have h3 := h2 e2
            rw [e2, h3]
            have qq : ((specS a u ++ specS b u).toList == (specS a u ++ specS b u).toList) = true := by simp
            clear h1 h2 h3 e1 e2
            go_wp2_with fail
            go_ret
            exact ⟨rfl, HB6.out⟩
          · rw [e2]
            clear h1 h2 e1 e2
            go_wp2_with fail
            go_ret
            exact ⟨rfl, HB6.out⟩
        · rw [e1]
          clear e1
          go_wp2_with fail
          go_ret
          exact ⟨rfl, HB6.out⟩
end Go.Proofs.Ytjoedgkmpklhfaa
