/- The walks of the document's worded and Keys. -/
import Derived.Test.YtfjfhbmbngogpaaKsM
namespace Go.Proofs.Ytfjfhbmbngogpaa
open Go.RowKit

theorem rowS_of_own {w : World} {base n nv cv : Nat} {A : Option Addr} {l : List (List UInt8)} (h : w.ownsRow base 9 1 (.slice A nv cv) n (wcells l)) (hn : n ≤ maxLen) : nv = n ∧ RowS w w.heap.size A n l := by
  obtain ⟨h1, _, h2⟩ := rowAt_of_own h hn
  refine ⟨h1, h2, fun ad e => ?_⟩
  subst e
  rcases h.2 with ⟨hv, _⟩ | ⟨g, cap, cur, hv, _, hb, _⟩
  · injection hv with hv
    cases hv
  · injection hv with hv
    injection hv with hv
    subst hv
    exact ⟨(Array.getElem?_eq_some_iff.1 hb).1, cur, (0, 0), hb⟩
theorem own_set_at {w : World} {base size n g cap j : Nat} {e : TypeId} {xs : List Value} {u : Value} (h : w.ownsRow base e size (.slice (some ⟨g, 0, none⟩) n cap) n xs) (_hj : j < n * size) : (w.setCell ⟨g, j, none⟩ u).ownsRow base e size (.slice (some ⟨g, 0, none⟩) n cap) n (xs.set j u) := by
  obtain ⟨q1, q2⟩ := h
  refine ⟨by rw [List.length_set]; exact q1, ?_⟩
  rcases q2 with ⟨hv, _⟩ | ⟨g', cap', cur, hv, hg, hb, h1, h2, h3, h4⟩
  · cases hv
  · injection hv with hv hn hc
    injection hv with hv
    injection hv with hv
    subst hv hc
    refine .inr ⟨g, cap, cur.setIfInBounds j u, rfl, hg, Blk.setCell (t := e) (cs := cur) hb j u, h1, h2, by rw [Array.size_setIfInBounds]; exact h3, ?_⟩
    rw [Array.toList_setIfInBounds, List.take_set, h4]
/-- A list of keys ready to be appended. -/
def SrcP (n : Nat) (ks : List Ky) (w : World) (e : Ending) (w' : World) : Prop :=
  ∃ g c rs, e = .returned (.slice (some ⟨g, 0, none⟩) n c) ∧ KrsAre w' w'.heap.size rs ks ∧ (∀ j u, (krs rs)[j]? = some u → w'.cell? ((⟨g, 0, none⟩ : Addr).add j) = some u) ∧ Below w.heap.size w w'
theorem KLst.src {w W : World} {v : Value} {ks : List Ky} (h : KLst w W v ks) (n : Nat) (hn : ks.length = n) (h0 : 0 < n) : SrcP n ks w (.returned v) W := by
  obtain ⟨rs, h1, h2, h3⟩ := h
  subst hn
  obtain ⟨g, cap, rfl, _, _⟩ := h1.form h0
  exact ⟨g, cap, rs, rfl, h2, fun j u hj => h1.cells rfl j u hj |> fun q => by
    have e : (⟨g, 0, none⟩ : Addr).add j = ⟨g, j, none⟩ := by unfold Addr.add; split <;> simp_all
    first | exact q | (rw [e]; exact q), h3⟩
theorem row_src (sec names : List UInt8) (ns : List (List UInt8)) (hns : blanksL [32] names = ns) (f : Int) (l : Bool) (hn : names.length ≤ 100000) (hlen : ns.length ≤ 1000) (n : Nat) (hnn : (rowT sec f l ns).length = n) (h0 : 0 < n) (w : World) :
    Calls Try.prog 32 #[.string (str sec), .string (str names), .int .i64 f, .bool l] w (SrcP n (rowT sec f l ns) w) := by
  refine (row_any sec names ns hns f l hn hlen w).mono ?_
  rintro e w' ⟨v, rfl, h⟩
  exact h.src n hnn h0
set_option maxRecDepth 100000 in
set_option maxHeartbeats 4000000 in
theorem worded_src (sec nm words : List UInt8) (ws : List (List UInt8)) (hnm : blanksL [32] nm = [nm]) (hws : blanksL [32] words = ws) (hn1 : nm.length ≤ 100000) (hn2 : words.length ≤ 100000) (hlen : ws.length ≤ 1000) (w : World) :
    Calls Try.prog 33 #[.string (str sec), .string (str nm), .string (str words)] w (SrcP 1 [⟨sec, nm, 10, false, kindsT sec, ws⟩] w) := by
  have HR := Lib.hid fun w => row_any sec nm [nm] hnm 10 false hn1 (by simp) w
  have HB := Lib.hid fun w => blanks_row words ws hws hn2 w
  clear hnm hws hn1 hn2
  go_enter Try.func33, Try.ntmps33
  go_wp2_with fail
  refine (HR.out _).mono ?_
  rintro e1 w1 ⟨v1, rfl, rs, ho, ha, hb⟩
  change w1.ownsRow w.heap.size 33 6 v1 1 (krs rs) at ho
  obtain ⟨g, cap, rfl, hgb, hgl⟩ := ho.form (by decide)
  have hrl : rs.length = 1 := ha.1
  obtain ⟨r, rfl⟩ : ∃ r, rs = [r] := by
    match rs, hrl with
    | [r], _ => exact ⟨r, rfl⟩
  obtain ⟨a0, a1, a2, a3, a4, _⟩ := ha.2 0 r _ rfl rfl
  have HO1 := Lib.hid ho
  have HB1 := Lib.hid hb
  clear ho ha hb HR
  go_wp2_with fail
  refine (HB.out _).mono ?_
  rintro e2 w2 ⟨v2, rfl, ho2, hb2⟩
  obtain ⟨A2, n2, c2, rfl⟩ : ∃ ao n' cap, v2 = .slice ao n' cap := by
    rcases ho2.2 with ⟨hv, _⟩ | ⟨g, cap, cur, hv, _⟩
    · exact ⟨_, _, _, hv⟩
    · exact ⟨_, _, _, hv⟩
  obtain ⟨rfl, hrow⟩ := rowS_of_own ho2 (by unfold maxLen; omega)
  have HO2 := Lib.hid (own_below HO1.out hb2)
  have HB2 := Lib.hid (more3 HB1.out HB1.out.size hb2)
  have hg2 : g < w2.heap.size := Nat.lt_of_lt_of_le hgl hb2.size
  obtain ⟨cur, hblk⟩ : ∃ cur, Blk w2 g 33 cur := by
    rcases HO2.out.2 with ⟨hv, _⟩ | ⟨g', cap', cur, hv, _, hbk, _⟩
    · cases hv
    · injection hv with hv
      injection hv with hv
      injection hv with hv
      subst hv
      exact ⟨cur, hbk⟩
  have HW3 : Hid (RowS (w2.setCell ⟨g, 5, none⟩ (.slice A2 ws.length c2)) w2.heap.size A2 ws.length ws) := hrow.keep hblk (by decide) (fun i hi => Below.heap_setCell w2 ⟨g, 5, none⟩ _ i hi)
  have HO3 := Lib.hid (own_set_at (u := .slice A2 ws.length c2) (j := 5) HO2.out (by decide))
  have c5 : w2.cell? ⟨g, 5, none⟩ = some (.slice r.A r.m r.c) := HO2.out.cells rfl 5 _ rfl
  have f5 : w2.frozen? ⟨g, 5, none⟩ = false := hblk.frozen 5
  have HB3 : Hid (Below w.heap.size w (w2.setCell ⟨g, 5, none⟩ (.slice A2 ws.length c2))) := HB2.out.setCell (p := ⟨g, 5, none⟩) hgb _
  clear ho2 hb2 hrow HB hblk
  go_wp2_with fail
  go_ret
  have hk : KLst w (w2.setCell ⟨g, 5, none⟩ (.slice A2 ws.length c2)) (.slice (some ⟨g, 0, none⟩) 1 cap) [⟨sec, nm, 10, false, kindsT sec, ws⟩] := by
    refine ⟨[{ r with A := A2, m := ws.length, c := c2 }], HO3.out, KrsAre.cons ⟨a0, a1, a2, a3, a4, HW3.out.wide (by simp [World.setCell])⟩ KrsAre.nil, HB3.out⟩
  exact hk.src 1 rfl (by decide)
def rdK : List (List Ky) := [
  rowT nUnit 1 false [[68, 101, 115, 99, 114, 105, 112, 116, 105, 111, 110]],
  rowT nUnit 2 false [[68, 101, 102, 97, 117, 108, 116, 68, 101, 112, 101, 110, 100, 101, 110, 99, 105, 101, 115]],
  rowT nUnit 6 true [[82, 101, 113, 117, 105, 114, 101, 115], [87, 97, 110, 116, 115], [82, 101, 113, 117, 105, 115, 105, 116, 101], [66, 105, 110, 100, 115, 84, 111], [80, 97, 114, 116, 79, 102], [67, 111, 110, 102, 108, 105, 99, 116, 115], [66, 101, 102, 111, 114, 101], [65, 102, 116, 101, 114], [79, 110, 70, 97, 105, 108, 117, 114, 101]],
  rowT nUnit 4 false [[83, 116, 97, 114, 116, 76, 105, 109, 105, 116, 73, 110, 116, 101, 114, 118, 97, 108, 83, 101, 99]],
  rowT nUnit 3 false [[83, 116, 97, 114, 116, 76, 105, 109, 105, 116, 66, 117, 114, 115, 116]],
  [⟨nServ, [84, 121, 112, 101], 10, false, kindsT nServ, [[115, 105, 109, 112, 108, 101], [111, 110, 101, 115, 104, 111, 116], [110, 111, 116, 105, 102, 121]]⟩],
  rowT nServ 7 true [[69, 120, 101, 99, 83, 116, 97, 114, 116, 80, 114, 101], [69, 120, 101, 99, 83, 116, 97, 114, 116], [69, 120, 101, 99, 83, 116, 97, 114, 116, 80, 111, 115, 116], [69, 120, 101, 99, 83, 116, 111, 112], [69, 120, 101, 99, 82, 101, 108, 111, 97, 100]],
  rowT nServ 2 false [[82, 101, 109, 97, 105, 110, 65, 102, 116, 101, 114, 69, 120, 105, 116]],
  [⟨nServ, [82, 101, 115, 116, 97, 114, 116], 10, false, kindsT nServ, [[110, 111], [111, 110, 45, 115, 117, 99, 99, 101, 115, 115], [111, 110, 45, 102, 97, 105, 108, 117, 114, 101], [111, 110, 45, 97, 98, 110, 111, 114, 109, 97, 108], [97, 108, 119, 97, 121, 115]]⟩],
  rowT nServ 4 false [[82, 101, 115, 116, 97, 114, 116, 83, 101, 99], [84, 105, 109, 101, 111, 117, 116, 83, 116, 97, 114, 116, 83, 101, 99], [84, 105, 109, 101, 111, 117, 116, 83, 116, 111, 112, 83, 101, 99]],
  rowT nServ 11 true [[83, 117, 99, 99, 101, 115, 115, 69, 120, 105, 116, 83, 116, 97, 116, 117, 115]],
  rowT nServ 8 true [[69, 110, 118, 105, 114, 111, 110, 109, 101, 110, 116]],
  rowT nServ 6 true [[83, 111, 99, 107, 101, 116, 115]],
  rowT nSock 11 true [[76, 105, 115, 116, 101, 110, 83, 116, 114, 101, 97, 109]],
  rowT nSock 3 false [[66, 97, 99, 107, 108, 111, 103]],
  rowT nSock 1 false [[70, 105, 108, 101, 68, 101, 115, 99, 114, 105, 112, 116, 111, 114, 78, 97, 109, 101]],
  rowT nSock 5 false [[83, 101, 114, 118, 105, 99, 101]],
  rowT nTime 4 true [[79, 110, 66, 111, 111, 116, 83, 101, 99], [79, 110, 65, 99, 116, 105, 118, 101, 83, 101, 99], [79, 110, 85, 110, 105, 116, 73, 110, 97, 99, 116, 105, 118, 101, 83, 101, 99]],
  rowT nTime 9 true [[79, 110, 67, 97, 108, 101, 110, 100, 97, 114]],
  rowT nTime 2 false [[80, 101, 114, 115, 105, 115, 116, 101, 110, 116]],
  rowT nTime 5 false [[85, 110, 105, 116]],
  rowT nInst 6 true [[87, 97, 110, 116, 101, 100, 66, 121], [82, 101, 113, 117, 105, 114, 101, 100, 66, 121], [65, 108, 105, 97, 115], [65, 108, 115, 111]],
  rowT nInst 1 false [[68, 101, 102, 97, 117, 108, 116, 73, 110, 115, 116, 97, 110, 99, 101]]]
def kdK (i : Nat) : List Ky := (rdK.take i).flatten
theorem kdK_all : kdK 23 = allT := by decide +kernel
set_option maxRecDepth 100000 in
set_option maxHeartbeats 16000000 in
theorem Keys_any (w : World) : Calls Try.prog 24 #[] w fun e w' => ∃ v, e = .returned v ∧ KLst w w' v allT := by
  have HK0 : Hid (KLst w w (.slice none 0 0) (kdK 0)) := KLst.nil w
  go_enter Try.func24, Try.ntmps24
  go_wp2_with fail
  refine (row_src nUnit [68, 101, 115, 99, 114, 105, 112, 116, 105, 111, 110] [[68, 101, 115, 99, 114, 105, 112, 116, 105, 111, 110]] (by decide +kernel) 1 false (by decide) (by decide) 1 (by decide) (by decide) _).mono ?_
  rintro e0 x0 ⟨g0, c0, rs0, rfl, ha0, hc0, hb0⟩
  have HN0 := Lib.hid (HK0.out.next hb0)
  have HA0 := Lib.hid ha0
  have HC0 := Lib.hid hc0
  clear ha0 hc0 hb0 HK0
  go_wp2_with (at_builtin; refine wpList_append_keys rfl _ _ rfl _ (kdK 0) (rowT nUnit 1 false [[68, 101, 115, 99, 114, 105, 112, 116, 105, 111, 110]]) rs0 rfl HN0.out ⟨g0, 0, none⟩ 1 c0 rfl (by decide) HA0.out HC0.out (by decide +kernel) ?_; intro v1 w1 hk _; rw [show kdK 0 ++ (rowT nUnit 1 false [[68, 101, 115, 99, 114, 105, 112, 116, 105, 111, 110]]) = kdK 1 from by decide +kernel] at hk; have HK1 := Lib.hid hk; clear hk HN0 HA0 HC0; generalize hv1 : v1 = u1 at *; clear hv1)
  go_wp2_with fail
  refine (row_src nUnit [68, 101, 102, 97, 117, 108, 116, 68, 101, 112, 101, 110, 100, 101, 110, 99, 105, 101, 115] [[68, 101, 102, 97, 117, 108, 116, 68, 101, 112, 101, 110, 100, 101, 110, 99, 105, 101, 115]] (by decide +kernel) 2 false (by decide) (by decide) 1 (by decide) (by decide) _).mono ?_
  rintro e1 x1 ⟨g1, c1, rs1, rfl, ha1, hc1, hb1⟩
  have HN1 := Lib.hid (HK1.out.next hb1)
  have HA1 := Lib.hid ha1
  have HC1 := Lib.hid hc1
  clear ha1 hc1 hb1 HK1
  go_wp2_with (at_builtin; refine wpList_append_keys rfl _ _ rfl _ (kdK 1) (rowT nUnit 2 false [[68, 101, 102, 97, 117, 108, 116, 68, 101, 112, 101, 110, 100, 101, 110, 99, 105, 101, 115]]) rs1 rfl HN1.out ⟨g1, 0, none⟩ 1 c1 rfl (by decide) HA1.out HC1.out (by decide +kernel) ?_; intro v2 w2 hk _; rw [show kdK 1 ++ (rowT nUnit 2 false [[68, 101, 102, 97, 117, 108, 116, 68, 101, 112, 101, 110, 100, 101, 110, 99, 105, 101, 115]]) = kdK 2 from by decide +kernel] at hk; have HK2 := Lib.hid hk; clear hk HN1 HA1 HC1; generalize hv2 : v2 = u2 at *; clear hv2)
  go_wp2_with fail
  refine (row_src nUnit [82, 101, 113, 117, 105, 114, 101, 115, 32, 87, 97, 110, 116, 115, 32, 82, 101, 113, 117, 105, 115, 105, 116, 101, 32, 66, 105, 110, 100, 115, 84, 111, 32, 80, 97, 114, 116, 79, 102, 32, 67, 111, 110, 102, 108, 105, 99, 116, 115, 32, 66, 101, 102, 111, 114, 101, 32, 65, 102, 116, 101, 114, 32, 79, 110, 70, 97, 105, 108, 117, 114, 101] [[82, 101, 113, 117, 105, 114, 101, 115], [87, 97, 110, 116, 115], [82, 101, 113, 117, 105, 115, 105, 116, 101], [66, 105, 110, 100, 115, 84, 111], [80, 97, 114, 116, 79, 102], [67, 111, 110, 102, 108, 105, 99, 116, 115], [66, 101, 102, 111, 114, 101], [65, 102, 116, 101, 114], [79, 110, 70, 97, 105, 108, 117, 114, 101]] (by decide +kernel) 6 true (by decide) (by decide) 9 (by decide) (by decide) _).mono ?_
  rintro e2 x2 ⟨g2, c2, rs2, rfl, ha2, hc2, hb2⟩
  have HN2 := Lib.hid (HK2.out.next hb2)
  have HA2 := Lib.hid ha2
  have HC2 := Lib.hid hc2
  clear ha2 hc2 hb2 HK2
  go_wp2_with (at_builtin; refine wpList_append_keys rfl _ _ rfl _ (kdK 2) (rowT nUnit 6 true [[82, 101, 113, 117, 105, 114, 101, 115], [87, 97, 110, 116, 115], [82, 101, 113, 117, 105, 115, 105, 116, 101], [66, 105, 110, 100, 115, 84, 111], [80, 97, 114, 116, 79, 102], [67, 111, 110, 102, 108, 105, 99, 116, 115], [66, 101, 102, 111, 114, 101], [65, 102, 116, 101, 114], [79, 110, 70, 97, 105, 108, 117, 114, 101]]) rs2 rfl HN2.out ⟨g2, 0, none⟩ 9 c2 rfl (by decide) HA2.out HC2.out (by decide +kernel) ?_; intro v3 w3 hk _; rw [show kdK 2 ++ (rowT nUnit 6 true [[82, 101, 113, 117, 105, 114, 101, 115], [87, 97, 110, 116, 115], [82, 101, 113, 117, 105, 115, 105, 116, 101], [66, 105, 110, 100, 115, 84, 111], [80, 97, 114, 116, 79, 102], [67, 111, 110, 102, 108, 105, 99, 116, 115], [66, 101, 102, 111, 114, 101], [65, 102, 116, 101, 114], [79, 110, 70, 97, 105, 108, 117, 114, 101]]) = kdK 3 from by decide +kernel] at hk; have HK3 := Lib.hid hk; clear hk HN2 HA2 HC2; generalize hv3 : v3 = u3 at *; clear hv3)
  go_wp2_with fail
  refine (row_src nUnit [83, 116, 97, 114, 116, 76, 105, 109, 105, 116, 73, 110, 116, 101, 114, 118, 97, 108, 83, 101, 99] [[83, 116, 97, 114, 116, 76, 105, 109, 105, 116, 73, 110, 116, 101, 114, 118, 97, 108, 83, 101, 99]] (by decide +kernel) 4 false (by decide) (by decide) 1 (by decide) (by decide) _).mono ?_
  rintro e3 x3 ⟨g3, c3, rs3, rfl, ha3, hc3, hb3⟩
  have HN3 := Lib.hid (HK3.out.next hb3)
  have HA3 := Lib.hid ha3
  have HC3 := Lib.hid hc3
  clear ha3 hc3 hb3 HK3
  go_wp2_with (at_builtin; refine wpList_append_keys rfl _ _ rfl _ (kdK 3) (rowT nUnit 4 false [[83, 116, 97, 114, 116, 76, 105, 109, 105, 116, 73, 110, 116, 101, 114, 118, 97, 108, 83, 101, 99]]) rs3 rfl HN3.out ⟨g3, 0, none⟩ 1 c3 rfl (by decide) HA3.out HC3.out (by decide +kernel) ?_; intro v4 w4 hk _; rw [show kdK 3 ++ (rowT nUnit 4 false [[83, 116, 97, 114, 116, 76, 105, 109, 105, 116, 73, 110, 116, 101, 114, 118, 97, 108, 83, 101, 99]]) = kdK 4 from by decide +kernel] at hk; have HK4 := Lib.hid hk; clear hk HN3 HA3 HC3; generalize hv4 : v4 = u4 at *; clear hv4)
  go_wp2_with fail
  refine (row_src nUnit [83, 116, 97, 114, 116, 76, 105, 109, 105, 116, 66, 117, 114, 115, 116] [[83, 116, 97, 114, 116, 76, 105, 109, 105, 116, 66, 117, 114, 115, 116]] (by decide +kernel) 3 false (by decide) (by decide) 1 (by decide) (by decide) _).mono ?_
  rintro e4 x4 ⟨g4, c4, rs4, rfl, ha4, hc4, hb4⟩
  have HN4 := Lib.hid (HK4.out.next hb4)
  have HA4 := Lib.hid ha4
  have HC4 := Lib.hid hc4
  clear ha4 hc4 hb4 HK4
  go_wp2_with (at_builtin; refine wpList_append_keys rfl _ _ rfl _ (kdK 4) (rowT nUnit 3 false [[83, 116, 97, 114, 116, 76, 105, 109, 105, 116, 66, 117, 114, 115, 116]]) rs4 rfl HN4.out ⟨g4, 0, none⟩ 1 c4 rfl (by decide) HA4.out HC4.out (by decide +kernel) ?_; intro v5 w5 hk _; rw [show kdK 4 ++ (rowT nUnit 3 false [[83, 116, 97, 114, 116, 76, 105, 109, 105, 116, 66, 117, 114, 115, 116]]) = kdK 5 from by decide +kernel] at hk; have HK5 := Lib.hid hk; clear hk HN4 HA4 HC4; generalize hv5 : v5 = u5 at *; clear hv5)
  go_wp2_with fail
  refine (worded_src nServ [84, 121, 112, 101] [115, 105, 109, 112, 108, 101, 32, 111, 110, 101, 115, 104, 111, 116, 32, 110, 111, 116, 105, 102, 121] [[115, 105, 109, 112, 108, 101], [111, 110, 101, 115, 104, 111, 116], [110, 111, 116, 105, 102, 121]] (by decide +kernel) (by decide +kernel) (by decide) (by decide) (by decide) _).mono ?_
  rintro e5 x5 ⟨g5, c5, rs5, rfl, ha5, hc5, hb5⟩
  have HN5 := Lib.hid (HK5.out.next hb5)
  have HA5 := Lib.hid ha5
  have HC5 := Lib.hid hc5
  clear ha5 hc5 hb5 HK5
  go_wp2_with (at_builtin; refine wpList_append_keys rfl _ _ rfl _ (kdK 5) ([⟨nServ, [84, 121, 112, 101], 10, false, kindsT nServ, [[115, 105, 109, 112, 108, 101], [111, 110, 101, 115, 104, 111, 116], [110, 111, 116, 105, 102, 121]]⟩]) rs5 rfl HN5.out ⟨g5, 0, none⟩ 1 c5 rfl (by decide) HA5.out HC5.out (by decide +kernel) ?_; intro v6 w6 hk _; rw [show kdK 5 ++ ([⟨nServ, [84, 121, 112, 101], 10, false, kindsT nServ, [[115, 105, 109, 112, 108, 101], [111, 110, 101, 115, 104, 111, 116], [110, 111, 116, 105, 102, 121]]⟩]) = kdK 6 from by decide +kernel] at hk; have HK6 := Lib.hid hk; clear hk HN5 HA5 HC5; generalize hv6 : v6 = u6 at *; clear hv6)
  go_wp2_with fail
  refine (row_src nServ [69, 120, 101, 99, 83, 116, 97, 114, 116, 80, 114, 101, 32, 69, 120, 101, 99, 83, 116, 97, 114, 116, 32, 69, 120, 101, 99, 83, 116, 97, 114, 116, 80, 111, 115, 116, 32, 69, 120, 101, 99, 83, 116, 111, 112, 32, 69, 120, 101, 99, 82, 101, 108, 111, 97, 100] [[69, 120, 101, 99, 83, 116, 97, 114, 116, 80, 114, 101], [69, 120, 101, 99, 83, 116, 97, 114, 116], [69, 120, 101, 99, 83, 116, 97, 114, 116, 80, 111, 115, 116], [69, 120, 101, 99, 83, 116, 111, 112], [69, 120, 101, 99, 82, 101, 108, 111, 97, 100]] (by decide +kernel) 7 true (by decide) (by decide) 5 (by decide) (by decide) _).mono ?_
  rintro e6 x6 ⟨g6, c6, rs6, rfl, ha6, hc6, hb6⟩
  have HN6 := Lib.hid (HK6.out.next hb6)
  have HA6 := Lib.hid ha6
  have HC6 := Lib.hid hc6
  clear ha6 hc6 hb6 HK6
  go_wp2_with (at_builtin; refine wpList_append_keys rfl _ _ rfl _ (kdK 6) (rowT nServ 7 true [[69, 120, 101, 99, 83, 116, 97, 114, 116, 80, 114, 101], [69, 120, 101, 99, 83, 116, 97, 114, 116], [69, 120, 101, 99, 83, 116, 97, 114, 116, 80, 111, 115, 116], [69, 120, 101, 99, 83, 116, 111, 112], [69, 120, 101, 99, 82, 101, 108, 111, 97, 100]]) rs6 rfl HN6.out ⟨g6, 0, none⟩ 5 c6 rfl (by decide) HA6.out HC6.out (by decide +kernel) ?_; intro v7 w7 hk _; rw [show kdK 6 ++ (rowT nServ 7 true [[69, 120, 101, 99, 83, 116, 97, 114, 116, 80, 114, 101], [69, 120, 101, 99, 83, 116, 97, 114, 116], [69, 120, 101, 99, 83, 116, 97, 114, 116, 80, 111, 115, 116], [69, 120, 101, 99, 83, 116, 111, 112], [69, 120, 101, 99, 82, 101, 108, 111, 97, 100]]) = kdK 7 from by decide +kernel] at hk; have HK7 := Lib.hid hk; clear hk HN6 HA6 HC6; generalize hv7 : v7 = u7 at *; clear hv7)
  go_wp2_with fail
  refine (row_src nServ [82, 101, 109, 97, 105, 110, 65, 102, 116, 101, 114, 69, 120, 105, 116] [[82, 101, 109, 97, 105, 110, 65, 102, 116, 101, 114, 69, 120, 105, 116]] (by decide +kernel) 2 false (by decide) (by decide) 1 (by decide) (by decide) _).mono ?_
  rintro e7 x7 ⟨g7, c7, rs7, rfl, ha7, hc7, hb7⟩
  have HN7 := Lib.hid (HK7.out.next hb7)
  have HA7 := Lib.hid ha7
  have HC7 := Lib.hid hc7
  clear ha7 hc7 hb7 HK7
  go_wp2_with (at_builtin; refine wpList_append_keys rfl _ _ rfl _ (kdK 7) (rowT nServ 2 false [[82, 101, 109, 97, 105, 110, 65, 102, 116, 101, 114, 69, 120, 105, 116]]) rs7 rfl HN7.out ⟨g7, 0, none⟩ 1 c7 rfl (by decide) HA7.out HC7.out (by decide +kernel) ?_; intro v8 w8 hk _; rw [show kdK 7 ++ (rowT nServ 2 false [[82, 101, 109, 97, 105, 110, 65, 102, 116, 101, 114, 69, 120, 105, 116]]) = kdK 8 from by decide +kernel] at hk; have HK8 := Lib.hid hk; clear hk HN7 HA7 HC7; generalize hv8 : v8 = u8 at *; clear hv8)
  go_wp2_with fail
  refine (worded_src nServ [82, 101, 115, 116, 97, 114, 116] [110, 111, 32, 111, 110, 45, 115, 117, 99, 99, 101, 115, 115, 32, 111, 110, 45, 102, 97, 105, 108, 117, 114, 101, 32, 111, 110, 45, 97, 98, 110, 111, 114, 109, 97, 108, 32, 97, 108, 119, 97, 121, 115] [[110, 111], [111, 110, 45, 115, 117, 99, 99, 101, 115, 115], [111, 110, 45, 102, 97, 105, 108, 117, 114, 101], [111, 110, 45, 97, 98, 110, 111, 114, 109, 97, 108], [97, 108, 119, 97, 121, 115]] (by decide +kernel) (by decide +kernel) (by decide) (by decide) (by decide) _).mono ?_
  rintro e8 x8 ⟨g8, c8, rs8, rfl, ha8, hc8, hb8⟩
  have HN8 := Lib.hid (HK8.out.next hb8)
  have HA8 := Lib.hid ha8
  have HC8 := Lib.hid hc8
  clear ha8 hc8 hb8 HK8
  go_wp2_with (at_builtin; refine wpList_append_keys rfl _ _ rfl _ (kdK 8) ([⟨nServ, [82, 101, 115, 116, 97, 114, 116], 10, false, kindsT nServ, [[110, 111], [111, 110, 45, 115, 117, 99, 99, 101, 115, 115], [111, 110, 45, 102, 97, 105, 108, 117, 114, 101], [111, 110, 45, 97, 98, 110, 111, 114, 109, 97, 108], [97, 108, 119, 97, 121, 115]]⟩]) rs8 rfl HN8.out ⟨g8, 0, none⟩ 1 c8 rfl (by decide) HA8.out HC8.out (by decide +kernel) ?_; intro v9 w9 hk _; rw [show kdK 8 ++ ([⟨nServ, [82, 101, 115, 116, 97, 114, 116], 10, false, kindsT nServ, [[110, 111], [111, 110, 45, 115, 117, 99, 99, 101, 115, 115], [111, 110, 45, 102, 97, 105, 108, 117, 114, 101], [111, 110, 45, 97, 98, 110, 111, 114, 109, 97, 108], [97, 108, 119, 97, 121, 115]]⟩]) = kdK 9 from by decide +kernel] at hk; have HK9 := Lib.hid hk; clear hk HN8 HA8 HC8; generalize hv9 : v9 = u9 at *; clear hv9)
  go_wp2_with fail
  refine (row_src nServ [82, 101, 115, 116, 97, 114, 116, 83, 101, 99, 32, 84, 105, 109, 101, 111, 117, 116, 83, 116, 97, 114, 116, 83, 101, 99, 32, 84, 105, 109, 101, 111, 117, 116, 83, 116, 111, 112, 83, 101, 99] [[82, 101, 115, 116, 97, 114, 116, 83, 101, 99], [84, 105, 109, 101, 111, 117, 116, 83, 116, 97, 114, 116, 83, 101, 99], [84, 105, 109, 101, 111, 117, 116, 83, 116, 111, 112, 83, 101, 99]] (by decide +kernel) 4 false (by decide) (by decide) 3 (by decide) (by decide) _).mono ?_
  rintro e9 x9 ⟨g9, c9, rs9, rfl, ha9, hc9, hb9⟩
  have HN9 := Lib.hid (HK9.out.next hb9)
  have HA9 := Lib.hid ha9
  have HC9 := Lib.hid hc9
  clear ha9 hc9 hb9 HK9
  go_wp2_with (at_builtin; refine wpList_append_keys rfl _ _ rfl _ (kdK 9) (rowT nServ 4 false [[82, 101, 115, 116, 97, 114, 116, 83, 101, 99], [84, 105, 109, 101, 111, 117, 116, 83, 116, 97, 114, 116, 83, 101, 99], [84, 105, 109, 101, 111, 117, 116, 83, 116, 111, 112, 83, 101, 99]]) rs9 rfl HN9.out ⟨g9, 0, none⟩ 3 c9 rfl (by decide) HA9.out HC9.out (by decide +kernel) ?_; intro v10 w10 hk _; rw [show kdK 9 ++ (rowT nServ 4 false [[82, 101, 115, 116, 97, 114, 116, 83, 101, 99], [84, 105, 109, 101, 111, 117, 116, 83, 116, 97, 114, 116, 83, 101, 99], [84, 105, 109, 101, 111, 117, 116, 83, 116, 111, 112, 83, 101, 99]]) = kdK 10 from by decide +kernel] at hk; have HK10 := Lib.hid hk; clear hk HN9 HA9 HC9; generalize hv10 : v10 = u10 at *; clear hv10)
  go_wp2_with fail
  refine (row_src nServ [83, 117, 99, 99, 101, 115, 115, 69, 120, 105, 116, 83, 116, 97, 116, 117, 115] [[83, 117, 99, 99, 101, 115, 115, 69, 120, 105, 116, 83, 116, 97, 116, 117, 115]] (by decide +kernel) 11 true (by decide) (by decide) 1 (by decide) (by decide) _).mono ?_
  rintro e10 x10 ⟨g10, c10, rs10, rfl, ha10, hc10, hb10⟩
  have HN10 := Lib.hid (HK10.out.next hb10)
  have HA10 := Lib.hid ha10
  have HC10 := Lib.hid hc10
  clear ha10 hc10 hb10 HK10
  go_wp2_with (at_builtin; refine wpList_append_keys rfl _ _ rfl _ (kdK 10) (rowT nServ 11 true [[83, 117, 99, 99, 101, 115, 115, 69, 120, 105, 116, 83, 116, 97, 116, 117, 115]]) rs10 rfl HN10.out ⟨g10, 0, none⟩ 1 c10 rfl (by decide) HA10.out HC10.out (by decide +kernel) ?_; intro v11 w11 hk _; rw [show kdK 10 ++ (rowT nServ 11 true [[83, 117, 99, 99, 101, 115, 115, 69, 120, 105, 116, 83, 116, 97, 116, 117, 115]]) = kdK 11 from by decide +kernel] at hk; have HK11 := Lib.hid hk; clear hk HN10 HA10 HC10; generalize hv11 : v11 = u11 at *; clear hv11)
  go_wp2_with fail
  refine (row_src nServ [69, 110, 118, 105, 114, 111, 110, 109, 101, 110, 116] [[69, 110, 118, 105, 114, 111, 110, 109, 101, 110, 116]] (by decide +kernel) 8 true (by decide) (by decide) 1 (by decide) (by decide) _).mono ?_
  rintro e11 x11 ⟨g11, c11, rs11, rfl, ha11, hc11, hb11⟩
  have HN11 := Lib.hid (HK11.out.next hb11)
  have HA11 := Lib.hid ha11
  have HC11 := Lib.hid hc11
  clear ha11 hc11 hb11 HK11
  go_wp2_with (at_builtin; refine wpList_append_keys rfl _ _ rfl _ (kdK 11) (rowT nServ 8 true [[69, 110, 118, 105, 114, 111, 110, 109, 101, 110, 116]]) rs11 rfl HN11.out ⟨g11, 0, none⟩ 1 c11 rfl (by decide) HA11.out HC11.out (by decide +kernel) ?_; intro v12 w12 hk _; rw [show kdK 11 ++ (rowT nServ 8 true [[69, 110, 118, 105, 114, 111, 110, 109, 101, 110, 116]]) = kdK 12 from by decide +kernel] at hk; have HK12 := Lib.hid hk; clear hk HN11 HA11 HC11; generalize hv12 : v12 = u12 at *; clear hv12)
  go_wp2_with fail
  refine (row_src nServ [83, 111, 99, 107, 101, 116, 115] [[83, 111, 99, 107, 101, 116, 115]] (by decide +kernel) 6 true (by decide) (by decide) 1 (by decide) (by decide) _).mono ?_
  rintro e12 x12 ⟨g12, c12, rs12, rfl, ha12, hc12, hb12⟩
  have HN12 := Lib.hid (HK12.out.next hb12)
  have HA12 := Lib.hid ha12
  have HC12 := Lib.hid hc12
  clear ha12 hc12 hb12 HK12
  go_wp2_with (at_builtin; refine wpList_append_keys rfl _ _ rfl _ (kdK 12) (rowT nServ 6 true [[83, 111, 99, 107, 101, 116, 115]]) rs12 rfl HN12.out ⟨g12, 0, none⟩ 1 c12 rfl (by decide) HA12.out HC12.out (by decide +kernel) ?_; intro v13 w13 hk _; rw [show kdK 12 ++ (rowT nServ 6 true [[83, 111, 99, 107, 101, 116, 115]]) = kdK 13 from by decide +kernel] at hk; have HK13 := Lib.hid hk; clear hk HN12 HA12 HC12; generalize hv13 : v13 = u13 at *; clear hv13)
  go_wp2_with fail
  refine (row_src nSock [76, 105, 115, 116, 101, 110, 83, 116, 114, 101, 97, 109] [[76, 105, 115, 116, 101, 110, 83, 116, 114, 101, 97, 109]] (by decide +kernel) 11 true (by decide) (by decide) 1 (by decide) (by decide) _).mono ?_
  rintro e13 x13 ⟨g13, c13, rs13, rfl, ha13, hc13, hb13⟩
  have HN13 := Lib.hid (HK13.out.next hb13)
  have HA13 := Lib.hid ha13
  have HC13 := Lib.hid hc13
  clear ha13 hc13 hb13 HK13
  go_wp2_with (at_builtin; refine wpList_append_keys rfl _ _ rfl _ (kdK 13) (rowT nSock 11 true [[76, 105, 115, 116, 101, 110, 83, 116, 114, 101, 97, 109]]) rs13 rfl HN13.out ⟨g13, 0, none⟩ 1 c13 rfl (by decide) HA13.out HC13.out (by decide +kernel) ?_; intro v14 w14 hk _; rw [show kdK 13 ++ (rowT nSock 11 true [[76, 105, 115, 116, 101, 110, 83, 116, 114, 101, 97, 109]]) = kdK 14 from by decide +kernel] at hk; have HK14 := Lib.hid hk; clear hk HN13 HA13 HC13; generalize hv14 : v14 = u14 at *; clear hv14)
  go_wp2_with fail
  refine (row_src nSock [66, 97, 99, 107, 108, 111, 103] [[66, 97, 99, 107, 108, 111, 103]] (by decide +kernel) 3 false (by decide) (by decide) 1 (by decide) (by decide) _).mono ?_
  rintro e14 x14 ⟨g14, c14, rs14, rfl, ha14, hc14, hb14⟩
  have HN14 := Lib.hid (HK14.out.next hb14)
  have HA14 := Lib.hid ha14
  have HC14 := Lib.hid hc14
  clear ha14 hc14 hb14 HK14
  go_wp2_with (at_builtin; refine wpList_append_keys rfl _ _ rfl _ (kdK 14) (rowT nSock 3 false [[66, 97, 99, 107, 108, 111, 103]]) rs14 rfl HN14.out ⟨g14, 0, none⟩ 1 c14 rfl (by decide) HA14.out HC14.out (by decide +kernel) ?_; intro v15 w15 hk _; rw [show kdK 14 ++ (rowT nSock 3 false [[66, 97, 99, 107, 108, 111, 103]]) = kdK 15 from by decide +kernel] at hk; have HK15 := Lib.hid hk; clear hk HN14 HA14 HC14; generalize hv15 : v15 = u15 at *; clear hv15)
  go_wp2_with fail
  refine (row_src nSock [70, 105, 108, 101, 68, 101, 115, 99, 114, 105, 112, 116, 111, 114, 78, 97, 109, 101] [[70, 105, 108, 101, 68, 101, 115, 99, 114, 105, 112, 116, 111, 114, 78, 97, 109, 101]] (by decide +kernel) 1 false (by decide) (by decide) 1 (by decide) (by decide) _).mono ?_
  rintro e15 x15 ⟨g15, c15, rs15, rfl, ha15, hc15, hb15⟩
  have HN15 := Lib.hid (HK15.out.next hb15)
  have HA15 := Lib.hid ha15
  have HC15 := Lib.hid hc15
  clear ha15 hc15 hb15 HK15
  go_wp2_with (at_builtin; refine wpList_append_keys rfl _ _ rfl _ (kdK 15) (rowT nSock 1 false [[70, 105, 108, 101, 68, 101, 115, 99, 114, 105, 112, 116, 111, 114, 78, 97, 109, 101]]) rs15 rfl HN15.out ⟨g15, 0, none⟩ 1 c15 rfl (by decide) HA15.out HC15.out (by decide +kernel) ?_; intro v16 w16 hk _; rw [show kdK 15 ++ (rowT nSock 1 false [[70, 105, 108, 101, 68, 101, 115, 99, 114, 105, 112, 116, 111, 114, 78, 97, 109, 101]]) = kdK 16 from by decide +kernel] at hk; have HK16 := Lib.hid hk; clear hk HN15 HA15 HC15; generalize hv16 : v16 = u16 at *; clear hv16)
  go_wp2_with fail
  refine (row_src nSock [83, 101, 114, 118, 105, 99, 101] [[83, 101, 114, 118, 105, 99, 101]] (by decide +kernel) 5 false (by decide) (by decide) 1 (by decide) (by decide) _).mono ?_
  rintro e16 x16 ⟨g16, c16, rs16, rfl, ha16, hc16, hb16⟩
  have HN16 := Lib.hid (HK16.out.next hb16)
  have HA16 := Lib.hid ha16
  have HC16 := Lib.hid hc16
  clear ha16 hc16 hb16 HK16
  go_wp2_with (at_builtin; refine wpList_append_keys rfl _ _ rfl _ (kdK 16) (rowT nSock 5 false [[83, 101, 114, 118, 105, 99, 101]]) rs16 rfl HN16.out ⟨g16, 0, none⟩ 1 c16 rfl (by decide) HA16.out HC16.out (by decide +kernel) ?_; intro v17 w17 hk _; rw [show kdK 16 ++ (rowT nSock 5 false [[83, 101, 114, 118, 105, 99, 101]]) = kdK 17 from by decide +kernel] at hk; have HK17 := Lib.hid hk; clear hk HN16 HA16 HC16; generalize hv17 : v17 = u17 at *; clear hv17)
  go_wp2_with fail
  refine (row_src nTime [79, 110, 66, 111, 111, 116, 83, 101, 99, 32, 79, 110, 65, 99, 116, 105, 118, 101, 83, 101, 99, 32, 79, 110, 85, 110, 105, 116, 73, 110, 97, 99, 116, 105, 118, 101, 83, 101, 99] [[79, 110, 66, 111, 111, 116, 83, 101, 99], [79, 110, 65, 99, 116, 105, 118, 101, 83, 101, 99], [79, 110, 85, 110, 105, 116, 73, 110, 97, 99, 116, 105, 118, 101, 83, 101, 99]] (by decide +kernel) 4 true (by decide) (by decide) 3 (by decide) (by decide) _).mono ?_
  rintro e17 x17 ⟨g17, c17, rs17, rfl, ha17, hc17, hb17⟩
  have HN17 := Lib.hid (HK17.out.next hb17)
  have HA17 := Lib.hid ha17
  have HC17 := Lib.hid hc17
  clear ha17 hc17 hb17 HK17
  go_wp2_with (at_builtin; refine wpList_append_keys rfl _ _ rfl _ (kdK 17) (rowT nTime 4 true [[79, 110, 66, 111, 111, 116, 83, 101, 99], [79, 110, 65, 99, 116, 105, 118, 101, 83, 101, 99], [79, 110, 85, 110, 105, 116, 73, 110, 97, 99, 116, 105, 118, 101, 83, 101, 99]]) rs17 rfl HN17.out ⟨g17, 0, none⟩ 3 c17 rfl (by decide) HA17.out HC17.out (by decide +kernel) ?_; intro v18 w18 hk _; rw [show kdK 17 ++ (rowT nTime 4 true [[79, 110, 66, 111, 111, 116, 83, 101, 99], [79, 110, 65, 99, 116, 105, 118, 101, 83, 101, 99], [79, 110, 85, 110, 105, 116, 73, 110, 97, 99, 116, 105, 118, 101, 83, 101, 99]]) = kdK 18 from by decide +kernel] at hk; have HK18 := Lib.hid hk; clear hk HN17 HA17 HC17; generalize hv18 : v18 = u18 at *; clear hv18)
  go_wp2_with fail
  refine (row_src nTime [79, 110, 67, 97, 108, 101, 110, 100, 97, 114] [[79, 110, 67, 97, 108, 101, 110, 100, 97, 114]] (by decide +kernel) 9 true (by decide) (by decide) 1 (by decide) (by decide) _).mono ?_
  rintro e18 x18 ⟨g18, c18, rs18, rfl, ha18, hc18, hb18⟩
  have HN18 := Lib.hid (HK18.out.next hb18)
  have HA18 := Lib.hid ha18
  have HC18 := Lib.hid hc18
  clear ha18 hc18 hb18 HK18
  go_wp2_with (at_builtin; refine wpList_append_keys rfl _ _ rfl _ (kdK 18) (rowT nTime 9 true [[79, 110, 67, 97, 108, 101, 110, 100, 97, 114]]) rs18 rfl HN18.out ⟨g18, 0, none⟩ 1 c18 rfl (by decide) HA18.out HC18.out (by decide +kernel) ?_; intro v19 w19 hk _; rw [show kdK 18 ++ (rowT nTime 9 true [[79, 110, 67, 97, 108, 101, 110, 100, 97, 114]]) = kdK 19 from by decide +kernel] at hk; have HK19 := Lib.hid hk; clear hk HN18 HA18 HC18; generalize hv19 : v19 = u19 at *; clear hv19)
  go_wp2_with fail
  refine (row_src nTime [80, 101, 114, 115, 105, 115, 116, 101, 110, 116] [[80, 101, 114, 115, 105, 115, 116, 101, 110, 116]] (by decide +kernel) 2 false (by decide) (by decide) 1 (by decide) (by decide) _).mono ?_
  rintro e19 x19 ⟨g19, c19, rs19, rfl, ha19, hc19, hb19⟩
  have HN19 := Lib.hid (HK19.out.next hb19)
  have HA19 := Lib.hid ha19
  have HC19 := Lib.hid hc19
  clear ha19 hc19 hb19 HK19
  go_wp2_with (at_builtin; refine wpList_append_keys rfl _ _ rfl _ (kdK 19) (rowT nTime 2 false [[80, 101, 114, 115, 105, 115, 116, 101, 110, 116]]) rs19 rfl HN19.out ⟨g19, 0, none⟩ 1 c19 rfl (by decide) HA19.out HC19.out (by decide +kernel) ?_; intro v20 w20 hk _; rw [show kdK 19 ++ (rowT nTime 2 false [[80, 101, 114, 115, 105, 115, 116, 101, 110, 116]]) = kdK 20 from by decide +kernel] at hk; have HK20 := Lib.hid hk; clear hk HN19 HA19 HC19; generalize hv20 : v20 = u20 at *; clear hv20)
  go_wp2_with fail
  refine (row_src nTime [85, 110, 105, 116] [[85, 110, 105, 116]] (by decide +kernel) 5 false (by decide) (by decide) 1 (by decide) (by decide) _).mono ?_
  rintro e20 x20 ⟨g20, c20, rs20, rfl, ha20, hc20, hb20⟩
  have HN20 := Lib.hid (HK20.out.next hb20)
  have HA20 := Lib.hid ha20
  have HC20 := Lib.hid hc20
  clear ha20 hc20 hb20 HK20
  go_wp2_with (at_builtin; refine wpList_append_keys rfl _ _ rfl _ (kdK 20) (rowT nTime 5 false [[85, 110, 105, 116]]) rs20 rfl HN20.out ⟨g20, 0, none⟩ 1 c20 rfl (by decide) HA20.out HC20.out (by decide +kernel) ?_; intro v21 w21 hk _; rw [show kdK 20 ++ (rowT nTime 5 false [[85, 110, 105, 116]]) = kdK 21 from by decide +kernel] at hk; have HK21 := Lib.hid hk; clear hk HN20 HA20 HC20; generalize hv21 : v21 = u21 at *; clear hv21)
  go_wp2_with fail
  refine (row_src nInst [87, 97, 110, 116, 101, 100, 66, 121, 32, 82, 101, 113, 117, 105, 114, 101, 100, 66, 121, 32, 65, 108, 105, 97, 115, 32, 65, 108, 115, 111] [[87, 97, 110, 116, 101, 100, 66, 121], [82, 101, 113, 117, 105, 114, 101, 100, 66, 121], [65, 108, 105, 97, 115], [65, 108, 115, 111]] (by decide +kernel) 6 true (by decide) (by decide) 4 (by decide) (by decide) _).mono ?_
  rintro e21 x21 ⟨g21, c21, rs21, rfl, ha21, hc21, hb21⟩
  have HN21 := Lib.hid (HK21.out.next hb21)
  have HA21 := Lib.hid ha21
  have HC21 := Lib.hid hc21
  clear ha21 hc21 hb21 HK21
  go_wp2_with (at_builtin; refine wpList_append_keys rfl _ _ rfl _ (kdK 21) (rowT nInst 6 true [[87, 97, 110, 116, 101, 100, 66, 121], [82, 101, 113, 117, 105, 114, 101, 100, 66, 121], [65, 108, 105, 97, 115], [65, 108, 115, 111]]) rs21 rfl HN21.out ⟨g21, 0, none⟩ 4 c21 rfl (by decide) HA21.out HC21.out (by decide +kernel) ?_; intro v22 w22 hk _; rw [show kdK 21 ++ (rowT nInst 6 true [[87, 97, 110, 116, 101, 100, 66, 121], [82, 101, 113, 117, 105, 114, 101, 100, 66, 121], [65, 108, 105, 97, 115], [65, 108, 115, 111]]) = kdK 22 from by decide +kernel] at hk; have HK22 := Lib.hid hk; clear hk HN21 HA21 HC21; generalize hv22 : v22 = u22 at *; clear hv22)
  go_wp2_with fail
  refine (row_src nInst [68, 101, 102, 97, 117, 108, 116, 73, 110, 115, 116, 97, 110, 99, 101] [[68, 101, 102, 97, 117, 108, 116, 73, 110, 115, 116, 97, 110, 99, 101]] (by decide +kernel) 1 false (by decide) (by decide) 1 (by decide) (by decide) _).mono ?_
  rintro e22 x22 ⟨g22, c22, rs22, rfl, ha22, hc22, hb22⟩
  have HN22 := Lib.hid (HK22.out.next hb22)
  have HA22 := Lib.hid ha22
  have HC22 := Lib.hid hc22
  clear ha22 hc22 hb22 HK22
  go_wp2_with (at_builtin; refine wpList_append_keys rfl _ _ rfl _ (kdK 22) (rowT nInst 1 false [[68, 101, 102, 97, 117, 108, 116, 73, 110, 115, 116, 97, 110, 99, 101]]) rs22 rfl HN22.out ⟨g22, 0, none⟩ 1 c22 rfl (by decide) HA22.out HC22.out (by decide +kernel) ?_; intro v23 w23 hk _; rw [show kdK 22 ++ (rowT nInst 1 false [[68, 101, 102, 97, 117, 108, 116, 73, 110, 115, 116, 97, 110, 99, 101]]) = kdK 23 from by decide +kernel] at hk; have HK23 := Lib.hid hk; clear hk HN22 HA22 HC22; generalize hv23 : v23 = u23 at *; clear hv23)
  go_ret
  exact ⟨_, rfl, by rw [← kdK_all]; exact HK23.out⟩
end Go.Proofs.Ytfjfhbmbngogpaa
