/- The walks of the laws BlendAll, BlendOnce, BlendSteps. -/
import Derived.Test.YtfjfhbmbngogpaaBlC
namespace Go.Proofs.Ytfjfhbmbngogpaa
open Go.RowKit

theorem same_any {A A' : Option Addr} {n n' c c' : Nat} {l l' : List Ln} {w : World} (h : Pl w (A, n, c) l) (h' : Pl w (A', n', c') l') (e : l = l') :
    Calls Try.prog 9 #[.slice A n c, .slice A' n' c'] w fun e w' => e = .returned (.bool true) ∧ Below w.heap.size w w' :=
  (SameLines_any A A' n n' c c' _ _ l l' w h.at_ h'.at_).mono fun e' w' hp => by
    obtain ⟨rfl, j, rfl⟩ := hp
    exact ⟨by rw [decide_eq_true e], below_drewN (Below.refl _ _) j⟩
section
variable (A0 A1 A2 : Option Addr) (n0 c0 n1 c1 n2 c2 : Nat) (l0 l1 l2 : List Ln) (w : World)
set_option maxRecDepth 100000 in
set_option maxHeartbeats 4000000 in
theorem BlendAll_any (h0 : Pl w (A0, n0, c0) l0) (h1 : Pl w (A1, n1, c1) l1) (h2 : Pl w (A2, n2, c2) l2) (hs : (l0 ++ (l1 ++ l2)).length ≤ 2513169434916) :
    Calls Try.prog 3 #[.slice A0 n0 c0, .slice A1 n1 c1, .slice A2 n2 c2] w fun e w' => e = .returned (.bool true) ∧ Below w.heap.size w w' := by
  have hs0 : l0.length ≤ 2513169434916 := by simp only [List.length_append] at hs; omega
  have HS := Lib.hid hs
  have H0 := Lib.hid h0
  have H1 := Lib.hid h1
  have H2 := Lib.hid h2
  clear hs h0 h1 h2
  go_enter Try.func3, Try.ntmps3
  go_wp2_with fail
  refine (shown_any _).mono ?_
  rintro e w1 ⟨rfl, hb⟩
  have HB1 := Lib.hid hb
  have G0 := Lib.hid (H0.out.below hb)
  have G1 := Lib.hid (H1.out.below hb)
  have G2 := Lib.hid (H2.out.below hb)
  clear hb H0 H1 H2
  go_wp2_with fail
  refine (all3 _ _ _ _ _ _ _ _ _ _ _ _ w1 G0.out G1.out G2.out HS.out).mono ?_
  rintro e w2 ⟨A, n, c, rfl, hP, hb⟩
  have HP := Lib.hid hP
  have HB2 := Lib.hid (more3 HB1.out HB1.out.size hb)
  have K0 := Lib.hid (G0.out.below hb)
  have K1 := Lib.hid (G1.out.below hb)
  have K2 := Lib.hid (G2.out.below hb)
  clear hb hP G0 G1 G2 HB1
  go_wp2_with fail
  refine (rb3 _ _ _ _ _ _ _ _ _ _ _ _ w2 K0.out K1.out K2.out HS.out).mono ?_
  rintro e w3 ⟨A', n', c', rfl, hP', hb⟩
  have HP' := Lib.hid hP'
  have HP3 := Lib.hid (HP.out.below hb)
  have HB3 := Lib.hid (more3 HB2.out HB2.out.size hb)
  have M0 := Lib.hid (K0.out.below hb)
  clear hb hP' K0 K1 K2 HP HB2
  go_wp2_with fail
  refine (same_any HP3.out HP'.out rfl).mono ?_
  rintro e w4 ⟨rfl, hb⟩
  have HB4 := Lib.hid (more3 HB3.out HB3.out.size hb)
  have M4 := Lib.hid (M0.out.below hb)
  clear hb HP3 HP' HB3 M0
  go_wp2_with fail
  refine (all1 _ _ _ _ w4 M4.out hs0).mono ?_
  rintro e w5 ⟨A5, n5, c5, rfl, hP, hb⟩
  have HP := Lib.hid hP
  have HB5 := Lib.hid (more3 HB4.out HB4.out.size hb)
  have M5 := Lib.hid (M4.out.below hb)
  clear hb hP HB4 M4
  go_wp2_with fail
  refine (rb1 _ _ _ _ w5 M5.out hs0).mono ?_
  rintro e w6 ⟨A6, n6, c6, rfl, hP', hb⟩
  have HP' := Lib.hid hP'
  have HP6 := Lib.hid (HP.out.below hb)
  have HB6 := Lib.hid (more3 HB5.out HB5.out.size hb)
  clear hb hP' HP HB5 M5
  go_wp2_with fail
  refine (same_any HP6.out HP'.out rfl).mono ?_
  rintro e w7 ⟨rfl, hb⟩
  have HB7 := Lib.hid (more3 HB6.out HB6.out.size hb)
  clear hb
  go_wp2_with fail
  go_ret
  exact ⟨rfl, HB7.out⟩
set_option maxRecDepth 100000 in
set_option maxHeartbeats 4000000 in
theorem BlendOnce_any (h0 : Pl w (A0, n0, c0) l0) (h1 : Pl w (A1, n1, c1) l1) (hs : (l0 ++ l1).length ≤ 2513169434916) :
    Calls Try.prog 4 #[.slice A0 n0 c0, .slice A1 n1 c1] w fun e w' => e = .returned (.bool true) ∧ Below w.heap.size w w' := by
  obtain ⟨lc, hlc⟩ : ∃ lc, lc = l0 ++ l1 := ⟨_, rfl⟩
  have HLC := Lib.hid hlc
  rw [← hlc] at hs
  have HQ : Hid (blendT (blendT lc) = blendT lc) := blendR_idem keyB clsB empB lc
  have hl : (blendT lc).length ≤ lc.length := blendR_len keyB clsB empB lc
  have hs1 : (blendT lc).length ≤ 2513169434916 := by omega
  have hs2 : l0.length + n1 ≤ 2513169434916 := by rw [hlc, List.length_append] at hs; have := h1.at_.1; dsimp only at this; omega
  have hs3 : ([] : List Ln).length + n0 ≤ 2513169434916 := by have := h0.at_.1; dsimp only at this; simp; omega
  have HS1 := Lib.hid hs1
  have HS2 := Lib.hid hs2
  have HS3 := Lib.hid hs3
  have HS := Lib.hid hs
  have H0 := Lib.hid h0
  have H1 := Lib.hid h1
  clear hs h0 h1 hl hs1 hs2 hs3 hlc
  go_enter Try.func4, Try.ntmps4
  go_wp2_with fail
  refine (shown_any _).mono ?_
  rintro e w1 ⟨rfl, hb⟩
  have HB1 := Lib.hid hb
  have G0 := Lib.hid (H0.out.below hb)
  have G1 := Lib.hid (H1.out.below hb)
  clear hb H0 H1
  go_wp2_with fail
  refine (all2 _ _ _ _ _ _ _ _ w1 G0.out G1.out (by rw [← HLC.out]; exact HS.out)).mono ?_
  rintro e w2 ⟨A, n, c, rfl, hP, hb⟩
  rw [← HLC.out] at hP
  have HP := Lib.hid hP
  have HB2 := Lib.hid (more3 HB1.out HB1.out.size hb)
  have K0 := Lib.hid (G0.out.below hb)
  have K1 := Lib.hid (G1.out.below hb)
  clear hb hP G0 G1 HB1
  go_wp2_with fail
  refine (all1 _ _ _ _ w2 HP.out HS1.out).mono ?_
  rintro e w3 ⟨A', n', c', rfl, hP', hb⟩
  have HP' := Lib.hid hP'
  have HP3 := Lib.hid (HP.out.below hb)
  have HB3 := Lib.hid (more3 HB2.out HB2.out.size hb)
  have M0 := Lib.hid (K0.out.below hb)
  have M1 := Lib.hid (K1.out.below hb)
  clear hb hP' HP K0 K1 HB2
  go_wp2_with fail
  refine (same_any HP'.out HP3.out HQ.out).mono ?_
  rintro e w4 ⟨rfl, hb⟩
  have HP4 := Lib.hid (HP3.out.below hb)
  have HB4 := Lib.hid (more3 HB3.out HB3.out.size hb)
  have N0 := Lib.hid (M0.out.below hb)
  have N1 := Lib.hid (M1.out.below hb)
  clear hb HP' HP3 HB3 M0 M1
  go_wp2_with (first
    | (at_builtin; refine wpList_append_lines (by rfl) _ _ rfl w4.heap.size (.slice none 0 0) [] l0 (by rfl) (World.ownsRow_nil _ _ _ _) A0 n0 c0 _ (by rfl) N0.out.at_ N0.out.nil_ HS3.out (Nat.le_refl _) ?_; intro v5 w5 ho5 hg5; have HO5 : Hid (OwnL w4 v5 l0 w5) := (by have : OwnL w4 (.slice none 0 0) [] w4 := (⟨World.ownsRow_nil _ _ _ _, Below.refl _ _⟩); exact this.grown ho5 hg5); have R1 := Lib.hid (N1.out.below HO5.out.2); clear ho5 hg5)
    | (at_builtin; refine wpList_append_lines (by rfl) _ _ rfl w4.heap.size v5 l0 l1 (by rfl) HO5.out.1 A1 n1 c1 _ (by rfl) R1.out.at_ R1.out.nil_ HS2.out HO5.out.2.size ?_; intro v6 w6 ho6 hg6; have HO6 : Hid (OwnL w4 v6 lc w6) := (by rw [HLC.out]; exact HO5.out.grown ho6 hg6); clear ho6 hg6; obtain ⟨A6, c6, rfl, hL6, hn6, hc6⟩ := HO6.out.at_ (by unfold maxLen; have := HS.out; omega)))
  have HB6 := Lib.hid (more3 HB4.out HB4.out.size HO6.out.2)
  have HP6 := Lib.hid (HP4.out.below HO6.out.2)
  have HC6 : Hid (Pl w6 (A6, lc.length, c6) lc) := ⟨hL6, hn6, fun x hx => by
    rw [HLC.out] at hx
    rcases List.mem_append.1 hx with h | h
    · exact N0.out.small x h
    · exact N1.out.small x h, hc6⟩
  clear hL6 hn6 hc6
  refine (all1 _ _ _ _ w6 HC6.out HS.out).mono ?_
  rintro e w7 ⟨A7, n7, c7, rfl, hP, hb⟩
  have HP := Lib.hid hP
  have HP7 := Lib.hid (HP6.out.below hb)
  have HB7 := Lib.hid (more3 HB6.out HB6.out.size hb)
  clear hb hP
  go_wp2_with fail
  refine (same_any HP.out HP7.out rfl).mono ?_
  rintro e w8 ⟨rfl, hb⟩
  have HB8 := Lib.hid (more3 HB7.out HB7.out.size hb)
  clear hb
  go_wp2_with fail
  go_ret
  exact ⟨rfl, HB8.out⟩
set_option maxRecDepth 100000 in
set_option maxHeartbeats 4000000 in
theorem BlendSteps_any (h0 : Pl w (A0, n0, c0) l0) (h1 : Pl w (A1, n1, c1) l1) (h2 : Pl w (A2, n2, c2) l2) (hs : (l0 ++ (l1 ++ l2)).length ≤ 2513169434916) :
    Calls Try.prog 5 #[.slice A0 n0 c0, .slice A1 n1 c1, .slice A2 n2 c2] w fun e w' => e = .returned (.bool true) ∧ Below w.heap.size w w' := by
  have HQ : Hid (blendT (blendT (l0 ++ l1) ++ l2) = blendT (l0 ++ (l1 ++ l2))) := by
    show _ = _
    have := blendR_step keyB clsB empB (l0 ++ l1) l2
    rw [List.append_assoc] at this
    exact this
  have hl : (blendT (l0 ++ l1)).length ≤ (l0 ++ l1).length := blendR_len keyB clsB empB _
  have HS1 : Hid ((l0 ++ l1).length ≤ 2513169434916) := by show _ ≤ _; simp only [List.length_append] at hs ⊢; omega
  have HS2 : Hid ((blendT (l0 ++ l1) ++ l2).length ≤ 2513169434916) := by show _ ≤ _; simp only [List.length_append] at hs hl ⊢; omega
  have HS := Lib.hid hs
  have H0 := Lib.hid h0
  have H1 := Lib.hid h1
  have H2 := Lib.hid h2
  clear hs h0 h1 h2 hl
  go_enter Try.func5, Try.ntmps5
  go_wp2_with fail
  refine (shown_any _).mono ?_
  rintro e w1 ⟨rfl, hb⟩
  have HB1 := Lib.hid hb
  have G0 := Lib.hid (H0.out.below hb)
  have G1 := Lib.hid (H1.out.below hb)
  have G2 := Lib.hid (H2.out.below hb)
  clear hb H0 H1 H2
  go_wp2_with fail
  refine (all2 _ _ _ _ _ _ _ _ w1 G0.out G1.out HS1.out).mono ?_
  rintro e w2 ⟨A, n, c, rfl, hP, hb⟩
  have HP := Lib.hid hP
  have HB2 := Lib.hid (more3 HB1.out HB1.out.size hb)
  have K0 := Lib.hid (G0.out.below hb)
  have K1 := Lib.hid (G1.out.below hb)
  have K2 := Lib.hid (G2.out.below hb)
  clear hb hP G0 G1 G2 HB1
  go_wp2_with fail
  refine (all2 _ _ _ _ _ _ _ _ w2 HP.out K2.out HS2.out).mono ?_
  rintro e w3 ⟨A', n', c', rfl, hP', hb⟩
  have HP' := Lib.hid hP'
  have HB3 := Lib.hid (more3 HB2.out HB2.out.size hb)
  have M0 := Lib.hid (K0.out.below hb)
  have M1 := Lib.hid (K1.out.below hb)
  have M2 := Lib.hid (K2.out.below hb)
  clear hb hP' K0 K1 K2 HP HB2
  go_wp2_with fail
  refine (all3 _ _ _ _ _ _ _ _ _ _ _ _ w3 M0.out M1.out M2.out HS.out).mono ?_
  rintro e w4 ⟨A4, n4, c4, rfl, hP, hb⟩
  have HP := Lib.hid hP
  have HP4 := Lib.hid (HP'.out.below hb)
  have HB4 := Lib.hid (more3 HB3.out HB3.out.size hb)
  clear hb hP HP' HB3 M0 M1 M2
  go_wp2_with fail
  refine (same_any HP4.out HP.out HQ.out).mono ?_
  rintro e w5 ⟨rfl, hb⟩
  have HB5 := Lib.hid (more3 HB4.out HB4.out.size hb)
  clear hb
  go_wp2_with fail
  go_ret
  exact ⟨rfl, HB5.out⟩
end
end Go.Proofs.Ytfjfhbmbngogpaa
