/- The walk of the law BlendSingle. -/
import Derived.Test.YtfjfhbmbngogpaaBlD
namespace Go.Proofs.Ytfjfhbmbngogpaa
open Go.RowKit

/-- The cells of a line. -/
def lnA (x : Ln) : Array Value := #[.string (str x.s), .string (str x.k), .string (str x.v), .int .i64 x.n]
theorem lnA_all (x : Ln) : (lnA x).all (·.oneCell') = true := by simp [lnA, Value.oneCell']
theorem last_take {lc : List Ln} {m : Nat} {x y : Ln} (hy : lc[m]? = some y) : lastR keyB x (lc.take (m + 1)) = if keyB y = keyB x then y else lastR keyB x (lc.take m) := by
  unfold lastR
  rw [List.take_add_one, hy, List.foldl_append]
  rfl
theorem stays_at {lc : List Ln} {k : Nat} {x : Ln} (h : (blendT lc)[k]? = some x) : stayT x = true := (blendR_at keyB clsB empB lc x (List.mem_of_getElem? h)).1
theorem none_at {lc : List Ln} {k : Nat} {x : Ln} (h : (blendT lc)[k]? = some x) (hx : clsB (x.s, x.k) = some false) : ∀ y ∈ (blendT lc).drop (k + 1), keyB y ≠ keyB x := by
  have hk : k < (blendT lc).length := by
    rcases Nat.lt_or_ge k (blendT lc).length with h' | h'
    · exact h'
    · rw [List.getElem?_eq_none h'] at h; cases h
  have he : (blendT lc)[k] = x := by rw [List.getElem?_eq_getElem hk] at h; exact Option.some.inj h
  refine blendR_one keyB clsB empB lc ((blendT lc).take k) x ((blendT lc).drop (k + 1)) ?_ hx
  show blendT lc = _
  conv => lhs; rw [← List.take_append_drop k (blendT lc)]
  rw [List.drop_eq_getElem_cons hk, he]
theorem last_at {lc : List Ln} {k : Nat} {x : Ln} (h : (blendT lc)[k]? = some x) (hx : clsB (x.s, x.k) = some false) : lastR keyB x lc = x := lastR_of keyB clsB empB x hx lc (List.mem_of_getElem? h)
theorem neq_same (x : Ln) (W : World) : (binOp .neq 30 (.agg #[.string (str x.s), .string (str x.k), .string (str x.v), .int .i64 x.n]) (.agg #[.string (str x.s), .string (str x.k), .string (str x.v), .int .i64 x.n])).run Try.prog W = .ok (.bool false) W := by
  rw [neq_ln]
  unfold sameL
  simp
section
variable (A0 A1 : Option Addr) (n0 c0 n1 c1 : Nat) (l0 l1 : List Ln) (w : World)
set_option maxRecDepth 100000 in
set_option maxHeartbeats 16000000 in
theorem BlendSingle_any (h0 : Pl w (A0, n0, c0) l0) (h1 : Pl w (A1, n1, c1) l1) (hs : (l0 ++ l1).length ≤ 2513169434916) :
    Calls Try.prog 6 #[.slice A0 n0 c0, .slice A1 n1 c1] w fun e w' => e = .returned (.bool true) ∧ Below w.heap.size w w' := by
  obtain ⟨lc, hlc⟩ : ∃ lc, lc = l0 ++ l1 := ⟨_, rfl⟩
  have HLC := Lib.hid hlc
  rw [← hlc] at hs
  have hl : (blendT lc).length ≤ lc.length := blendR_len keyB clsB empB lc
  have hs2 : l0.length + n1 ≤ 2513169434916 := by rw [hlc, List.length_append] at hs; have := h1.at_.1; dsimp only at this; omega
  have hs3 : ([] : List Ln).length + n0 ≤ 2513169434916 := by have := h0.at_.1; dsimp only at this; simp; omega
  have HLE := Lib.hid hl
  have HS2 := Lib.hid hs2
  have HS3 := Lib.hid hs3
  have HS := Lib.hid hs
  have H0 := Lib.hid h0
  have H1 := Lib.hid h1
  clear hs h0 h1 hl hs2 hs3 hlc
  go_enter Try.func6, Try.ntmps6
  go_wp2_with fail
  refine (shown_any _).mono ?_
  rintro e w1 ⟨rfl, hb⟩
  have HB1 := Lib.hid hb
  have N0 := Lib.hid (H0.out.below hb)
  have N1 := Lib.hid (H1.out.below hb)
  clear hb H0 H1
  go_wp2_with (first
    | (at_builtin; refine wpList_append_lines (by rfl) _ _ rfl w1.heap.size (.slice none 0 0) [] l0 (by rfl) (World.ownsRow_nil _ _ _ _) A0 n0 c0 _ (by rfl) N0.out.at_ N0.out.nil_ HS3.out (Nat.le_refl _) ?_; intro v5 w5 ho5 hg5; have HO5 : Hid (OwnL w1 v5 l0 w5) := (by have : OwnL w1 (.slice none 0 0) [] w1 := (⟨World.ownsRow_nil _ _ _ _, Below.refl _ _⟩); exact this.grown ho5 hg5); have R1 := Lib.hid (N1.out.below HO5.out.2); clear ho5 hg5)
    | (at_builtin; refine wpList_append_lines (by rfl) _ _ rfl w1.heap.size v5 l0 l1 (by rfl) HO5.out.1 A1 n1 c1 _ (by rfl) R1.out.at_ R1.out.nil_ HS2.out HO5.out.2.size ?_; intro v6 w6 ho6 hg6; have HO6 : Hid (OwnL w1 v6 lc w6) := (by rw [HLC.out]; exact HO5.out.grown ho6 hg6); clear ho6 hg6; obtain ⟨A6, c6, rfl, hL6, hn6, hc6⟩ := HO6.out.at_ (by unfold maxLen; have := HS.out; omega)))
  have HB6 := Lib.hid (more3 HB1.out HB1.out.size HO6.out.2)
  have HP6 := Lib.hid (N0.out.below HO6.out.2)
  have HQ6 := Lib.hid (N1.out.below HO6.out.2)
  have HL6 := Lib.hid hL6
  clear hL6 hn6 hc6 HO5 HO6 R1 N0 N1 HB1
  refine (all2 _ _ _ _ _ _ _ _ w6 HP6.out HQ6.out (by rw [← HLC.out]; exact HS.out)).mono ?_
  rintro e w7 ⟨A, n, c, rfl, hP, hb⟩
  rw [← HLC.out] at hP
  have HP := Lib.hid hP
  have hnc : n ≤ c := hP.cap
  have HNL : Hid ((blendT lc).length = n) := hP.at_.1
  have HB7 := Lib.hid (more3 HB6.out HB6.out.size hb)
  have HL7 := Lib.hid ((HL6.out.below hb).wide hb.size)
  have hnle : n ≤ lc.length := by have h1 := HLE.out; have h2 := HNL.out; omega
  have hlcm : lc.length ≤ 2513169434916 := HS.out
  obtain ⟨nc, hnc'⟩ : ∃ nc, nc = lc.length := ⟨_, rfl⟩
  rw [← hnc'] at HL7 hnle hlcm
  rw [← hnc']
  have HNC := Lib.hid hnc'
  clear hb hP HP6 HQ6 HL6 HB6 HLE HS HS2 HS3 HLC hnc'
  go_wp2_with fail
  go_loopw [28] (fun i wr => ∃ k : Nat, k ≤ n ∧ i = .int .i64 k ∧ Hid (Below w7.heap.size w7 wr)) (fun i _ => n - (intOf i).toNat)
  case atStart => exact ⟨0, Nat.zero_le _, rfl, Below.refl _ _⟩
  case round =>
    obtain ⟨k, hk, rfl, HW0⟩ := hrel
    by_cases hlt : k < n
    · have b0 : (0 : Int) ≤ (k : Int) := by omega
      have b1 : (k : Int) < (n : Int) := by omega
      obtain ⟨ad, x, rfl, hab, hx, q0, q1, q2, q3⟩ := (HP.out.at_.below HW0.out).at_ (k := k) hlt
      have hsz1 := HW0.out.size
      obtain ⟨wr0, hwr0⟩ : ∃ wr0, wr0 = wr := ⟨_, rfl⟩
      subst hwr0
      have HE0 := Lib.hid (Blk.new wr0 30 #[.string (str x.s), .string (str x.k), .string (str x.v), .int .i64 x.n])
      have HB0 : Hid (Below wr0.heap.size wr0 (wr0.alloc (.cells #[.string (str x.s), .string (str x.k), .string (str x.v), .int .i64 x.n] 30))) := (Below.refl _ wr0).alloc (Nat.le_refl _) _
      have HX := Lib.hid hx
      go_wp2_with fail
      clear q0 q1 q2 q3 hx
      generalize wr0.alloc (.cells #[.string (str x.s), .string (str x.k), .string (str x.v), .int .i64 x.n] 30) = W0 at *
      refine (Find_any _ _ _).mono ?_
      rintro e W2 ⟨r, rfl, hr, hb⟩
      rw [str_list, str_list]
      rw [str_list, str_list] at hr
      have HE2 := Lib.hid (HE0.out.below hb HE0.out.lt)
      have HB2 := Lib.hid (more3 HB0.out HB0.out.size hb)
      have hl2 : wr0.heap.size < W2.heap.size := HE2.out.lt
      have hrl : r.l = ((findT x.s x.k).getD noKy).l := hr.2.2.2.1
      have hem := emp_str x.v
      have ev : W2.cell? ⟨wr0.heap.size, 2, none⟩ = some (.string (str x.v)) := HE2.out.cell 2
      unfold krA
      clear hb hr HE0 HB0
      rcases ho : findT x.s x.k with _ | y0
      · rw [show (none : Option Ky).isSome = false from rfl]
        go_wp2_with fail
        go_roundw
        case rel => exact ⟨k + 1, by omega, by go_num, (HW0.out.trans (HB2.out.mono hsz1)).alloc (by have := HW0.out.size; have := HB2.out.size; omega) _⟩
        case measure => simp [intOf]; omega
      · rw [show (some y0 : Option Ky).isSome = true from rfl]
        rw [ho] at hrl
        simp only [Option.getD_some] at hrl
        rw [hrl]
        have hcl : clsB (x.s, x.k) = some y0.l := by unfold clsB; rw [ho]; rfl
        have HCL := Lib.hid hcl
        clear hrl ho hcl
        rcases hyl : y0.l with _ | _
        · rw [hyl] at HCL
          have HNO := Lib.hid (none_at HX.out HCL.out)
          have HLA := Lib.hid (last_at HX.out HCL.out)
          have HK2 := Lib.hid (Blk.new W2 33 #[.string (str r.s), .string (str r.n), .int .i64 r.f, .bool false, .int .i64 r.k, .slice r.A r.m r.c])
          have HE3 := Lib.hid (HE2.out.alloc (.cells #[.string (str r.s), .string (str r.n), .int .i64 r.f, .bool false, .int .i64 r.k, .slice r.A r.m r.c] 33))
          have HB3 : Hid (Below w7.heap.size w7 (W2.alloc (.cells #[.string (str r.s), .string (str r.n), .int .i64 r.f, .bool false, .int .i64 r.k, .slice r.A r.m r.c] 33))) := (HW0.out.trans (HB2.out.mono hsz1)).alloc (by have := HW0.out.size; have := HB2.out.size; omega) _
          have hz3 : (W2.alloc (.cells #[.string (str r.s), .string (str r.n), .int .i64 r.f, .bool false, .int .i64 r.k, .slice r.A r.m r.c] 33)).heap.size = W2.heap.size + 1 := by simp
          by_cases hca : c = k + 1
          · have hnk : n - (k + 1) = 0 := by omega
            subst hca
            go_wp2_with fail
            generalize W2.alloc (.cells #[.string (str r.s), .string (str r.n), .int .i64 r.f, .bool false, .int .i64 r.k, .slice r.A r.m r.c] 33) = W3 at *
            go_loopw [55] (fun i wx => ∃ m : Nat, m ≤ n - (k + 1) ∧ i = .int .i64 m ∧ Hid (Below W3.heap.size W3 wx)) (fun i _ => (n - (k + 1)) - (intOf i).toNat)
            case atStart => exact ⟨0, Nat.zero_le _, rfl, Below.refl _ _⟩
            case round =>
              obtain ⟨m, hm, rfl, HW⟩ := hrel
              have hm0 : m = n - (k + 1) := by omega
              obtain ⟨wr1, hwr1⟩ : ∃ wr1, wr1 = wr := ⟨_, rfl⟩
              subst hwr1
              have HE4 := Lib.hid (HE3.out.below HW.out HE3.out.lt)
              have HK4 := Lib.hid (HK2.out.below HW.out HK2.out.lt)
              have HB4 := Lib.hid (more3 HB3.out HB3.out.size HW.out)
              have zz2 : W3.heap.size ≤ wr1.heap.size := HW.out.size
              have zz3 : wr0.heap.size < wr1.heap.size := by omega
              have zz4 : W2.heap.size < wr1.heap.size := by omega
              have e0 : wr1.cell? ⟨wr0.heap.size, 0, none⟩ = some (.string (str x.s)) := HE4.out.cell 0
              have e1 : wr1.cell? ⟨wr0.heap.size, 1, none⟩ = some (.string (str x.k)) := HE4.out.cell 1
              have e2 : wr1.cell? ⟨wr0.heap.size, 2, none⟩ = some (.string (str x.v)) := HE4.out.cell 2
              have e3 : wr1.cell? ⟨wr0.heap.size, 3, none⟩ = some (.int .i64 x.n) := HE4.out.cell 3
              have HT5 : Hid (Blk (wr1.alloc (.cells #[.string (str x.s), .string (str x.k), .string (str x.v), .int .i64 x.n] 30)) wr1.heap.size 30 (lnA x)) := Blk.new wr1 _ _
              have HB5 : Hid (Below wr1.heap.size wr1 (wr1.alloc (.cells #[.string (str x.s), .string (str x.k), .string (str x.v), .int .i64 x.n] 30))) := (Below.refl _ wr1).alloc (Nat.le_refl _) _
              clear HW hm HE3 HK2 HB3
              go_wp2_with fail
              clear e0 e1 e2 e3 hm0
              clear hnk
              generalize wr1.alloc (.cells #[.string (str x.s), .string (str x.k), .string (str x.v), .int .i64 x.n] 30) = W5 at *
              go_loopw [80] (fun i wx => ∃ m : Nat, m ≤ nc ∧ i = .int .i64 m ∧ Hid (Blk wx wr1.heap.size 30 (lnA (lastR keyB x (lc.take m)))) ∧ Hid (Below wr1.heap.size wr1 wx)) (fun i _ => nc - (intOf i).toNat)
              case atStart => exact ⟨0, Nat.zero_le _, rfl, HT5, HB5⟩
              case round =>
                obtain ⟨m2, hm2, rfl, HT, HV⟩ := hrel
                have f0 : wr.cell? ⟨wr0.heap.size, 0, none⟩ = some (.string (str x.s)) := (HE4.out.below HV.out HE4.out.lt).cell 0
                have f1 : wr.cell? ⟨wr0.heap.size, 1, none⟩ = some (.string (str x.k)) := (HE4.out.below HV.out HE4.out.lt).cell 1
                have zz5 : wr1.heap.size < wr.heap.size := HT.out.lt
                have zz6 : wr0.heap.size < wr.heap.size := by omega
                have zz7 : W2.heap.size < wr.heap.size := by omega
                by_cases hl3 : m2 < nc
                · have c0 : (0 : Int) ≤ (m2 : Int) := by omega
                  have c1 : (m2 : Int) < (nc : Int) := by omega
                  obtain ⟨ad6, y, rfl, _, hy, p0, p1, p2, p3⟩ := ((HL7.out.below (more3 HB4.out HB4.out.size HV.out))).at_ (k := m2) hl3
                  have hs := eqs_str y.s x.s
                  have hq := eqs_str y.k x.k
                  have HTT := Lib.hid (last_take (x := x) hy)
                  have HT6 := Lib.hid (HT.out.alloc (.cells #[.string (str y.s), .string (str y.k), .string (str y.v), .int .i64 y.n] 30))
                  have HV6 := Lib.hid (HV.out.alloc HV.out.size (.cells #[.string (str y.s), .string (str y.k), .string (str y.v), .int .i64 y.n] 30))
                  clear hy
                  rcases hd1 : decide (y.s = x.s) with _ | _
                  · rw [hd1] at hs
                    have HN : Hid (lastR keyB x (lc.take (m2 + 1)) = lastR keyB x (lc.take m2)) := by
                      show _ = _
                      rw [HTT.out, if_neg (fun h => by unfold keyB at h; simp at h; simp [h.1] at hd1)]
                    rw [← HN.out] at HT6
                    clear hd1
                    go_wp2_with fail
                    go_roundw
                    case rel => exact ⟨m2 + 1, by omega, by go_num, HT6, HV6⟩
                    case measure => simp [intOf]; omega
                  · rw [hd1] at hs
                    rcases hd2 : decide (y.k = x.k) with _ | _
                    · rw [hd2] at hq
                      have HN : Hid (lastR keyB x (lc.take (m2 + 1)) = lastR keyB x (lc.take m2)) := by
                        show _ = _
                        rw [HTT.out, if_neg (fun h => by unfold keyB at h; simp at h; simp [h.2] at hd2)]
                      rw [← HN.out] at HT6
                      clear hd1 hd2
                      go_wp2_with fail
                      go_roundw
                      case rel => exact ⟨m2 + 1, by omega, by go_num, HT6, HV6⟩
                      case measure => simp [intOf]; omega
                    · rw [hd2] at hq
                      have HN : Hid (lastR keyB x (lc.take (m2 + 1)) = y) := by
                        show _ = _
                        rw [HTT.out, if_pos (by unfold keyB; rw [decide_eq_true_eq] at hd1 hd2; rw [hd1, hd2])]
                      clear hd1 hd2
                      go_wp2_with (refine wpList_store_row rfl 30 (.tmp 13) (.tmp 96) (by rfl) wr1.heap.size (lnA y) (by rfl) (by rfl) 30 (lnA (lastR keyB x (lc.take m2))) HT6.out (by kernel_rfl) rfl (lnA_all y) ?_)
                      go_roundw
                      case rel => exact ⟨m2 + 1, by omega, by go_num, by show Blk _ _ _ _; rw [HN.out]; exact HT6.out.row _, below_setRow HV6.out (Nat.le_refl _) _⟩
                      case measure => simp [intOf]; omega
                · have hm3 : m2 = nc := by omega
                  have HBE : Hid (Below w7.heap.size w7 wr) := more3 HB4.out HB4.out.size HV.out
                  have HTX : Hid (Blk wr wr1.heap.size 30 (lnA x)) := by
                    show Blk _ _ _ _
                    have := HT.out
                    rwa [List.take_of_length_le (by have := HNC.out; omega), HLA.out] at this
                  have k3 : wr.cell? ⟨W2.heap.size, 3, none⟩ = some (.bool false) := (HK4.out.below HV.out HK4.out.lt).cell 3
                  have f2 : wr.cell? ⟨wr0.heap.size, 2, none⟩ = some (.string (str x.v)) := (HE4.out.below HV.out HE4.out.lt).cell 2
                  have f3 : wr.cell? ⟨wr0.heap.size, 3, none⟩ = some (.int .i64 x.n) := (HE4.out.below HV.out HE4.out.lt).cell 3
                  have g0 : wr.cell? ⟨wr1.heap.size, 0, none⟩ = some (.string (str x.s)) := HTX.out.cell 0
                  have g1 : wr.cell? ⟨wr1.heap.size, 1, none⟩ = some (.string (str x.k)) := HTX.out.cell 1
                  have g2 : wr.cell? ⟨wr1.heap.size, 2, none⟩ = some (.string (str x.v)) := HTX.out.cell 2
                  have g3 : wr.cell? ⟨wr1.heap.size, 3, none⟩ = some (.int .i64 x.n) := HTX.out.cell 3
                  have hqq := neq_same x
                  clear HT HV
                  go_wp2_with fail
                  go_roundw
                  case rel => exact ⟨k + 1, by omega, by go_num, HBE⟩
                  case measure => simp [intOf]; omega
          · go_wp2_with fail
            have HCA : Hid (∀ wy, Below (W2.alloc (.cells #[.string (str r.s), .string (str r.n), .int .i64 r.f, .bool false, .int .i64 r.k, .slice r.A r.m r.c] 33)).heap.size (W2.alloc (.cells #[.string (str r.s), .string (str r.n), .int .i64 r.f, .bool false, .int .i64 r.k, .slice r.A r.m r.c] 33)) wy → ∀ m, m < n - (k + 1) → ∃ y, ((blendT lc).drop (k + 1))[m]? = some y ∧ LnCell wy ((ad.add ((k + 1) * 4)).add (m * 4)) y) := by
              intro wy hwy m hm
              obtain ⟨ad', y, e, _, hy, hc⟩ := (HP.out.at_.below (more3 HB3.out HB3.out.size hwy)).at_ (k := k + 1 + m) (by show k + 1 + m < n; omega)
              cases e
              refine ⟨y, by rw [List.getElem?_drop]; exact hy, ?_⟩
              rw [add_addL, show (k + 1) * 4 + m * 4 = (k + 1 + m) * 4 by omega]
              exact hc
            generalize W2.alloc (.cells #[.string (str r.s), .string (str r.n), .int .i64 r.f, .bool false, .int .i64 r.k, .slice r.A r.m r.c] 33) = W3 at *
            generalize ad.add ((k + 1) * 4) = AD at *
            go_loopw [55] (fun i wx => ∃ m : Nat, m ≤ n - (k + 1) ∧ i = .int .i64 m ∧ Hid (Below W3.heap.size W3 wx)) (fun i _ => (n - (k + 1)) - (intOf i).toNat)
            case atStart => exact ⟨0, Nat.zero_le _, rfl, Below.refl _ _⟩
            case round =>
              obtain ⟨m, hm, rfl, HW⟩ := hrel
              by_cases hl2 : m < n - (k + 1)
              · have c0 : (0 : Int) ≤ (m : Int) := by omega
                have c1 : (m : Int) < ((n - (k + 1) : Nat) : Int) := by omega
                obtain ⟨y, hy, p0, p1, p2, p3⟩ := HCA.out wr HW.out m hl2
                have e0 : wr.cell? ⟨wr0.heap.size, 0, none⟩ = some (.string (str x.s)) := (HE3.out.below HW.out HE3.out.lt).cell 0
                have e1 : wr.cell? ⟨wr0.heap.size, 1, none⟩ = some (.string (str x.k)) := (HE3.out.below HW.out HE3.out.lt).cell 1
                have k3 : wr.cell? ⟨W2.heap.size, 3, none⟩ = some (.bool false) := (HK2.out.below HW.out HK2.out.lt).cell 3
                have zz0 : wr0.heap.size < wr.heap.size := by have := HW.out.size; omega
                have zz1 : W2.heap.size < wr.heap.size := by have := HW.out.size; omega
                have hs := eqs_str x.s y.s
                have hq := eqs_str x.k y.k
                have hne : ¬ (y.s = x.s ∧ y.k = x.k) := fun h => HNO.out y (List.mem_of_getElem? hy) (by unfold keyB; rw [h.1, h.2])
                clear hy
                rcases hd1 : decide (x.s = y.s) with _ | _
                · rw [hd1] at hs
                  clear hd1 hne
                  go_wp2_with fail
                  go_roundw
                  case rel => exact ⟨m + 1, by omega, by go_num, HW.out.alloc HW.out.size _⟩
                  case measure => simp [intOf]; omega
                · have hd2 : decide (x.k = y.k) = false := by
                    rw [decide_eq_true_eq] at hd1
                    rw [decide_eq_false_iff_not]
                    exact fun h => hne ⟨hd1.symm, h.symm⟩
                  rw [hd1] at hs
                  rw [hd2] at hq
                  clear hd1 hd2 hne
                  go_wp2_with fail
                  go_roundw
                  case rel => exact ⟨m + 1, by omega, by go_num, HW.out.alloc HW.out.size _⟩
                  case measure => simp [intOf]; omega
              · have hm0 : m = n - (k + 1) := by omega
                obtain ⟨wr1, hwr1⟩ : ∃ wr1, wr1 = wr := ⟨_, rfl⟩
                subst hwr1
                have HE4 := Lib.hid (HE3.out.below HW.out HE3.out.lt)
                have HK4 := Lib.hid (HK2.out.below HW.out HK2.out.lt)
                have HB4 := Lib.hid (more3 HB3.out HB3.out.size HW.out)
                have zz2 : W3.heap.size ≤ wr1.heap.size := HW.out.size
                have zz3 : wr0.heap.size < wr1.heap.size := by omega
                have zz4 : W2.heap.size < wr1.heap.size := by omega
                have e0 : wr1.cell? ⟨wr0.heap.size, 0, none⟩ = some (.string (str x.s)) := HE4.out.cell 0
                have e1 : wr1.cell? ⟨wr0.heap.size, 1, none⟩ = some (.string (str x.k)) := HE4.out.cell 1
                have e2 : wr1.cell? ⟨wr0.heap.size, 2, none⟩ = some (.string (str x.v)) := HE4.out.cell 2
                have e3 : wr1.cell? ⟨wr0.heap.size, 3, none⟩ = some (.int .i64 x.n) := HE4.out.cell 3
                have HT5 : Hid (Blk (wr1.alloc (.cells #[.string (str x.s), .string (str x.k), .string (str x.v), .int .i64 x.n] 30)) wr1.heap.size 30 (lnA x)) := Blk.new wr1 _ _
                have HB5 : Hid (Below wr1.heap.size wr1 (wr1.alloc (.cells #[.string (str x.s), .string (str x.k), .string (str x.v), .int .i64 x.n] 30))) := (Below.refl _ wr1).alloc (Nat.le_refl _) _
                clear HW hm HE3 HK2 HB3
                go_wp2_with fail
                clear e0 e1 e2 e3 hm0
                clear hl2
                generalize wr1.alloc (.cells #[.string (str x.s), .string (str x.k), .string (str x.v), .int .i64 x.n] 30) = W5 at *
                go_loopw [80] (fun i wx => ∃ m : Nat, m ≤ nc ∧ i = .int .i64 m ∧ Hid (Blk wx wr1.heap.size 30 (lnA (lastR keyB x (lc.take m)))) ∧ Hid (Below wr1.heap.size wr1 wx)) (fun i _ => nc - (intOf i).toNat)
                case atStart => exact ⟨0, Nat.zero_le _, rfl, HT5, HB5⟩
                case round =>
                  obtain ⟨m2, hm2, rfl, HT, HV⟩ := hrel
                  have f0 : wr.cell? ⟨wr0.heap.size, 0, none⟩ = some (.string (str x.s)) := (HE4.out.below HV.out HE4.out.lt).cell 0
                  have f1 : wr.cell? ⟨wr0.heap.size, 1, none⟩ = some (.string (str x.k)) := (HE4.out.below HV.out HE4.out.lt).cell 1
                  have zz5 : wr1.heap.size < wr.heap.size := HT.out.lt
                  have zz6 : wr0.heap.size < wr.heap.size := by omega
                  have zz7 : W2.heap.size < wr.heap.size := by omega
                  by_cases hl3 : m2 < nc
                  · have c0 : (0 : Int) ≤ (m2 : Int) := by omega
                    have c1 : (m2 : Int) < (nc : Int) := by omega
                    obtain ⟨ad6, y, rfl, _, hy, p0, p1, p2, p3⟩ := ((HL7.out.below (more3 HB4.out HB4.out.size HV.out))).at_ (k := m2) hl3
                    have hs := eqs_str y.s x.s
                    have hq := eqs_str y.k x.k
                    have HTT := Lib.hid (last_take (x := x) hy)
                    have HT6 := Lib.hid (HT.out.alloc (.cells #[.string (str y.s), .string (str y.k), .string (str y.v), .int .i64 y.n] 30))
                    have HV6 := Lib.hid (HV.out.alloc HV.out.size (.cells #[.string (str y.s), .string (str y.k), .string (str y.v), .int .i64 y.n] 30))
                    clear hy
                    rcases hd1 : decide (y.s = x.s) with _ | _
                    · rw [hd1] at hs
                      have HN : Hid (lastR keyB x (lc.take (m2 + 1)) = lastR keyB x (lc.take m2)) := by
                        show _ = _
                        rw [HTT.out, if_neg (fun h => by unfold keyB at h; simp at h; simp [h.1] at hd1)]
                      rw [← HN.out] at HT6
                      clear hd1
                      go_wp2_with fail
                      go_roundw
                      case rel => exact ⟨m2 + 1, by omega, by go_num, HT6, HV6⟩
                      case measure => simp [intOf]; omega
                    · rw [hd1] at hs
                      rcases hd2 : decide (y.k = x.k) with _ | _
                      · rw [hd2] at hq
                        have HN : Hid (lastR keyB x (lc.take (m2 + 1)) = lastR keyB x (lc.take m2)) := by
                          show _ = _
                          rw [HTT.out, if_neg (fun h => by unfold keyB at h; simp at h; simp [h.2] at hd2)]
                        rw [← HN.out] at HT6
                        clear hd1 hd2
                        go_wp2_with fail
                        go_roundw
                        case rel => exact ⟨m2 + 1, by omega, by go_num, HT6, HV6⟩
                        case measure => simp [intOf]; omega
                      · rw [hd2] at hq
                        have HN : Hid (lastR keyB x (lc.take (m2 + 1)) = y) := by
                          show _ = _
                          rw [HTT.out, if_pos (by unfold keyB; rw [decide_eq_true_eq] at hd1 hd2; rw [hd1, hd2])]
                        clear hd1 hd2
                        go_wp2_with (refine wpList_store_row rfl 30 (.tmp 13) (.tmp 96) (by rfl) wr1.heap.size (lnA y) (by rfl) (by rfl) 30 (lnA (lastR keyB x (lc.take m2))) HT6.out (by kernel_rfl) rfl (lnA_all y) ?_)
                        go_roundw
                        case rel => exact ⟨m2 + 1, by omega, by go_num, by show Blk _ _ _ _; rw [HN.out]; exact HT6.out.row _, below_setRow HV6.out (Nat.le_refl _) _⟩
                        case measure => simp [intOf]; omega
                  · have hm3 : m2 = nc := by omega
                    have HBE : Hid (Below w7.heap.size w7 wr) := more3 HB4.out HB4.out.size HV.out
                    have HTX : Hid (Blk wr wr1.heap.size 30 (lnA x)) := by
                      show Blk _ _ _ _
                      have := HT.out
                      rwa [List.take_of_length_le (by have := HNC.out; omega), HLA.out] at this
                    have k3 : wr.cell? ⟨W2.heap.size, 3, none⟩ = some (.bool false) := (HK4.out.below HV.out HK4.out.lt).cell 3
                    have f2 : wr.cell? ⟨wr0.heap.size, 2, none⟩ = some (.string (str x.v)) := (HE4.out.below HV.out HE4.out.lt).cell 2
                    have f3 : wr.cell? ⟨wr0.heap.size, 3, none⟩ = some (.int .i64 x.n) := (HE4.out.below HV.out HE4.out.lt).cell 3
                    have g0 : wr.cell? ⟨wr1.heap.size, 0, none⟩ = some (.string (str x.s)) := HTX.out.cell 0
                    have g1 : wr.cell? ⟨wr1.heap.size, 1, none⟩ = some (.string (str x.k)) := HTX.out.cell 1
                    have g2 : wr.cell? ⟨wr1.heap.size, 2, none⟩ = some (.string (str x.v)) := HTX.out.cell 2
                    have g3 : wr.cell? ⟨wr1.heap.size, 3, none⟩ = some (.int .i64 x.n) := HTX.out.cell 3
                    have hqq := neq_same x
                    clear HT HV
                    go_wp2_with fail
                    go_roundw
                    case rel => exact ⟨k + 1, by omega, by go_num, HBE⟩
                    case measure => simp [intOf]; omega
        · rw [hyl] at HCL
          have hev : decide (x.v = []) = false := by
            have h1 := stays_at HX.out
            have h2 : stayT x = !(decide (clsB (x.s, x.k) = some true) && decide (x.v = [])) := rfl
            rw [h2, HCL.out] at h1
            simpa using h1
          rw [hev] at hem
          clear hev
          have HK2 := Lib.hid (Blk.new W2 33 #[.string (str r.s), .string (str r.n), .int .i64 r.f, .bool true, .int .i64 r.k, .slice r.A r.m r.c])
          have HE3 := Lib.hid (HE2.out.alloc (.cells #[.string (str r.s), .string (str r.n), .int .i64 r.f, .bool true, .int .i64 r.k, .slice r.A r.m r.c] 33))
          have HB3 : Hid (Below w7.heap.size w7 (W2.alloc (.cells #[.string (str r.s), .string (str r.n), .int .i64 r.f, .bool true, .int .i64 r.k, .slice r.A r.m r.c] 33))) := (HW0.out.trans (HB2.out.mono hsz1)).alloc (by have := HW0.out.size; have := HB2.out.size; omega) _
          have hz3 : (W2.alloc (.cells #[.string (str r.s), .string (str r.n), .int .i64 r.f, .bool true, .int .i64 r.k, .slice r.A r.m r.c] 33)).heap.size = W2.heap.size + 1 := by simp
          by_cases hca : c = k + 1
          · have hnk : n - (k + 1) = 0 := by omega
            subst hca
            go_wp2_with fail
            generalize W2.alloc (.cells #[.string (str r.s), .string (str r.n), .int .i64 r.f, .bool true, .int .i64 r.k, .slice r.A r.m r.c] 33) = W3 at *
            go_loopw [55] (fun i wx => ∃ m : Nat, m ≤ n - (k + 1) ∧ i = .int .i64 m ∧ Hid (Below W3.heap.size W3 wx)) (fun i _ => (n - (k + 1)) - (intOf i).toNat)
            case atStart => exact ⟨0, Nat.zero_le _, rfl, Below.refl _ _⟩
            case round =>
              obtain ⟨m, hm, rfl, HW⟩ := hrel
              have hm0 : m = n - (k + 1) := by omega
              obtain ⟨wr1, hwr1⟩ : ∃ wr1, wr1 = wr := ⟨_, rfl⟩
              subst hwr1
              have HE4 := Lib.hid (HE3.out.below HW.out HE3.out.lt)
              have HK4 := Lib.hid (HK2.out.below HW.out HK2.out.lt)
              have HB4 := Lib.hid (more3 HB3.out HB3.out.size HW.out)
              have zz2 : W3.heap.size ≤ wr1.heap.size := HW.out.size
              have zz3 : wr0.heap.size < wr1.heap.size := by omega
              have zz4 : W2.heap.size < wr1.heap.size := by omega
              have e0 : wr1.cell? ⟨wr0.heap.size, 0, none⟩ = some (.string (str x.s)) := HE4.out.cell 0
              have e1 : wr1.cell? ⟨wr0.heap.size, 1, none⟩ = some (.string (str x.k)) := HE4.out.cell 1
              have e2 : wr1.cell? ⟨wr0.heap.size, 2, none⟩ = some (.string (str x.v)) := HE4.out.cell 2
              have e3 : wr1.cell? ⟨wr0.heap.size, 3, none⟩ = some (.int .i64 x.n) := HE4.out.cell 3
              have HT5 : Hid (Blk (wr1.alloc (.cells #[.string (str x.s), .string (str x.k), .string (str x.v), .int .i64 x.n] 30)) wr1.heap.size 30 (lnA x)) := Blk.new wr1 _ _
              have HB5 : Hid (Below wr1.heap.size wr1 (wr1.alloc (.cells #[.string (str x.s), .string (str x.k), .string (str x.v), .int .i64 x.n] 30))) := (Below.refl _ wr1).alloc (Nat.le_refl _) _
              clear HW hm HE3 HK2 HB3
              go_wp2_with fail
              clear e0 e1 e2 e3 hm0
              clear hnk
              generalize wr1.alloc (.cells #[.string (str x.s), .string (str x.k), .string (str x.v), .int .i64 x.n] 30) = W5 at *
              go_loopw [80] (fun i wx => ∃ m : Nat, m ≤ nc ∧ i = .int .i64 m ∧ Hid (Blk wx wr1.heap.size 30 (lnA (lastR keyB x (lc.take m)))) ∧ Hid (Below wr1.heap.size wr1 wx)) (fun i _ => nc - (intOf i).toNat)
              case atStart => exact ⟨0, Nat.zero_le _, rfl, HT5, HB5⟩
              case round =>
                obtain ⟨m2, hm2, rfl, HT, HV⟩ := hrel
                have f0 : wr.cell? ⟨wr0.heap.size, 0, none⟩ = some (.string (str x.s)) := (HE4.out.below HV.out HE4.out.lt).cell 0
                have f1 : wr.cell? ⟨wr0.heap.size, 1, none⟩ = some (.string (str x.k)) := (HE4.out.below HV.out HE4.out.lt).cell 1
                have zz5 : wr1.heap.size < wr.heap.size := HT.out.lt
                have zz6 : wr0.heap.size < wr.heap.size := by omega
                have zz7 : W2.heap.size < wr.heap.size := by omega
                by_cases hl3 : m2 < nc
                · have c0 : (0 : Int) ≤ (m2 : Int) := by omega
                  have c1 : (m2 : Int) < (nc : Int) := by omega
                  obtain ⟨ad6, y, rfl, _, hy, p0, p1, p2, p3⟩ := ((HL7.out.below (more3 HB4.out HB4.out.size HV.out))).at_ (k := m2) hl3
                  have hs := eqs_str y.s x.s
                  have hq := eqs_str y.k x.k
                  have HTT := Lib.hid (last_take (x := x) hy)
                  have HT6 := Lib.hid (HT.out.alloc (.cells #[.string (str y.s), .string (str y.k), .string (str y.v), .int .i64 y.n] 30))
                  have HV6 := Lib.hid (HV.out.alloc HV.out.size (.cells #[.string (str y.s), .string (str y.k), .string (str y.v), .int .i64 y.n] 30))
                  clear hy
                  rcases hd1 : decide (y.s = x.s) with _ | _
                  · rw [hd1] at hs
                    have HN : Hid (lastR keyB x (lc.take (m2 + 1)) = lastR keyB x (lc.take m2)) := by
                      show _ = _
                      rw [HTT.out, if_neg (fun h => by unfold keyB at h; simp at h; simp [h.1] at hd1)]
                    rw [← HN.out] at HT6
                    clear hd1
                    go_wp2_with fail
                    go_roundw
                    case rel => exact ⟨m2 + 1, by omega, by go_num, HT6, HV6⟩
                    case measure => simp [intOf]; omega
                  · rw [hd1] at hs
                    rcases hd2 : decide (y.k = x.k) with _ | _
                    · rw [hd2] at hq
                      have HN : Hid (lastR keyB x (lc.take (m2 + 1)) = lastR keyB x (lc.take m2)) := by
                        show _ = _
                        rw [HTT.out, if_neg (fun h => by unfold keyB at h; simp at h; simp [h.2] at hd2)]
                      rw [← HN.out] at HT6
                      clear hd1 hd2
                      go_wp2_with fail
                      go_roundw
                      case rel => exact ⟨m2 + 1, by omega, by go_num, HT6, HV6⟩
                      case measure => simp [intOf]; omega
                    · rw [hd2] at hq
                      have HN : Hid (lastR keyB x (lc.take (m2 + 1)) = y) := by
                        show _ = _
                        rw [HTT.out, if_pos (by unfold keyB; rw [decide_eq_true_eq] at hd1 hd2; rw [hd1, hd2])]
                      clear hd1 hd2
                      go_wp2_with (refine wpList_store_row rfl 30 (.tmp 13) (.tmp 96) (by rfl) wr1.heap.size (lnA y) (by rfl) (by rfl) 30 (lnA (lastR keyB x (lc.take m2))) HT6.out (by kernel_rfl) rfl (lnA_all y) ?_)
                      go_roundw
                      case rel => exact ⟨m2 + 1, by omega, by go_num, by show Blk _ _ _ _; rw [HN.out]; exact HT6.out.row _, below_setRow HV6.out (Nat.le_refl _) _⟩
                      case measure => simp [intOf]; omega
                · have hm3 : m2 = nc := by omega
                  have HBE : Hid (Below w7.heap.size w7 wr) := more3 HB4.out HB4.out.size HV.out
                  have k3 : wr.cell? ⟨W2.heap.size, 3, none⟩ = some (.bool true) := (HK4.out.below HV.out HK4.out.lt).cell 3
                  clear HT HV
                  go_wp2_with fail
                  go_roundw
                  case rel => exact ⟨k + 1, by omega, by go_num, HBE⟩
                  case measure => simp [intOf]; omega
          · go_wp2_with fail
            have HCA : Hid (∀ wy, Below (W2.alloc (.cells #[.string (str r.s), .string (str r.n), .int .i64 r.f, .bool true, .int .i64 r.k, .slice r.A r.m r.c] 33)).heap.size (W2.alloc (.cells #[.string (str r.s), .string (str r.n), .int .i64 r.f, .bool true, .int .i64 r.k, .slice r.A r.m r.c] 33)) wy → ∀ m, m < n - (k + 1) → ∃ y, ((blendT lc).drop (k + 1))[m]? = some y ∧ LnCell wy ((ad.add ((k + 1) * 4)).add (m * 4)) y) := by
              intro wy hwy m hm
              obtain ⟨ad', y, e, _, hy, hc⟩ := (HP.out.at_.below (more3 HB3.out HB3.out.size hwy)).at_ (k := k + 1 + m) (by show k + 1 + m < n; omega)
              cases e
              refine ⟨y, by rw [List.getElem?_drop]; exact hy, ?_⟩
              rw [add_addL, show (k + 1) * 4 + m * 4 = (k + 1 + m) * 4 by omega]
              exact hc
            generalize W2.alloc (.cells #[.string (str r.s), .string (str r.n), .int .i64 r.f, .bool true, .int .i64 r.k, .slice r.A r.m r.c] 33) = W3 at *
            generalize ad.add ((k + 1) * 4) = AD at *
            go_loopw [55] (fun i wx => ∃ m : Nat, m ≤ n - (k + 1) ∧ i = .int .i64 m ∧ Hid (Below W3.heap.size W3 wx)) (fun i _ => (n - (k + 1)) - (intOf i).toNat)
            case atStart => exact ⟨0, Nat.zero_le _, rfl, Below.refl _ _⟩
            case round =>
              obtain ⟨m, hm, rfl, HW⟩ := hrel
              by_cases hl2 : m < n - (k + 1)
              · have c0 : (0 : Int) ≤ (m : Int) := by omega
                have c1 : (m : Int) < ((n - (k + 1) : Nat) : Int) := by omega
                obtain ⟨y, hy, p0, p1, p2, p3⟩ := HCA.out wr HW.out m hl2
                have e0 : wr.cell? ⟨wr0.heap.size, 0, none⟩ = some (.string (str x.s)) := (HE3.out.below HW.out HE3.out.lt).cell 0
                have e1 : wr.cell? ⟨wr0.heap.size, 1, none⟩ = some (.string (str x.k)) := (HE3.out.below HW.out HE3.out.lt).cell 1
                have k3 : wr.cell? ⟨W2.heap.size, 3, none⟩ = some (.bool true) := (HK2.out.below HW.out HK2.out.lt).cell 3
                have zz0 : wr0.heap.size < wr.heap.size := by have := HW.out.size; omega
                have zz1 : W2.heap.size < wr.heap.size := by have := HW.out.size; omega
                clear hy
                go_wp2_with fail
                go_roundw
                case rel => exact ⟨m + 1, by omega, by go_num, HW.out.alloc HW.out.size _⟩
                case measure => simp [intOf]; omega
              · have hm0 : m = n - (k + 1) := by omega
                obtain ⟨wr1, hwr1⟩ : ∃ wr1, wr1 = wr := ⟨_, rfl⟩
                subst hwr1
                have HE4 := Lib.hid (HE3.out.below HW.out HE3.out.lt)
                have HK4 := Lib.hid (HK2.out.below HW.out HK2.out.lt)
                have HB4 := Lib.hid (more3 HB3.out HB3.out.size HW.out)
                have zz2 : W3.heap.size ≤ wr1.heap.size := HW.out.size
                have zz3 : wr0.heap.size < wr1.heap.size := by omega
                have zz4 : W2.heap.size < wr1.heap.size := by omega
                have e0 : wr1.cell? ⟨wr0.heap.size, 0, none⟩ = some (.string (str x.s)) := HE4.out.cell 0
                have e1 : wr1.cell? ⟨wr0.heap.size, 1, none⟩ = some (.string (str x.k)) := HE4.out.cell 1
                have e2 : wr1.cell? ⟨wr0.heap.size, 2, none⟩ = some (.string (str x.v)) := HE4.out.cell 2
                have e3 : wr1.cell? ⟨wr0.heap.size, 3, none⟩ = some (.int .i64 x.n) := HE4.out.cell 3
                have HT5 : Hid (Blk (wr1.alloc (.cells #[.string (str x.s), .string (str x.k), .string (str x.v), .int .i64 x.n] 30)) wr1.heap.size 30 (lnA x)) := Blk.new wr1 _ _
                have HB5 : Hid (Below wr1.heap.size wr1 (wr1.alloc (.cells #[.string (str x.s), .string (str x.k), .string (str x.v), .int .i64 x.n] 30))) := (Below.refl _ wr1).alloc (Nat.le_refl _) _
                clear HW hm HE3 HK2 HB3
                go_wp2_with fail
                clear e0 e1 e2 e3 hm0
                clear hl2
                generalize wr1.alloc (.cells #[.string (str x.s), .string (str x.k), .string (str x.v), .int .i64 x.n] 30) = W5 at *
                go_loopw [80] (fun i wx => ∃ m : Nat, m ≤ nc ∧ i = .int .i64 m ∧ Hid (Blk wx wr1.heap.size 30 (lnA (lastR keyB x (lc.take m)))) ∧ Hid (Below wr1.heap.size wr1 wx)) (fun i _ => nc - (intOf i).toNat)
                case atStart => exact ⟨0, Nat.zero_le _, rfl, HT5, HB5⟩
                case round =>
                  obtain ⟨m2, hm2, rfl, HT, HV⟩ := hrel
                  have f0 : wr.cell? ⟨wr0.heap.size, 0, none⟩ = some (.string (str x.s)) := (HE4.out.below HV.out HE4.out.lt).cell 0
                  have f1 : wr.cell? ⟨wr0.heap.size, 1, none⟩ = some (.string (str x.k)) := (HE4.out.below HV.out HE4.out.lt).cell 1
                  have zz5 : wr1.heap.size < wr.heap.size := HT.out.lt
                  have zz6 : wr0.heap.size < wr.heap.size := by omega
                  have zz7 : W2.heap.size < wr.heap.size := by omega
                  by_cases hl3 : m2 < nc
                  · have c0 : (0 : Int) ≤ (m2 : Int) := by omega
                    have c1 : (m2 : Int) < (nc : Int) := by omega
                    obtain ⟨ad6, y, rfl, _, hy, p0, p1, p2, p3⟩ := ((HL7.out.below (more3 HB4.out HB4.out.size HV.out))).at_ (k := m2) hl3
                    have hs := eqs_str y.s x.s
                    have hq := eqs_str y.k x.k
                    have HTT := Lib.hid (last_take (x := x) hy)
                    have HT6 := Lib.hid (HT.out.alloc (.cells #[.string (str y.s), .string (str y.k), .string (str y.v), .int .i64 y.n] 30))
                    have HV6 := Lib.hid (HV.out.alloc HV.out.size (.cells #[.string (str y.s), .string (str y.k), .string (str y.v), .int .i64 y.n] 30))
                    clear hy
                    rcases hd1 : decide (y.s = x.s) with _ | _
                    · rw [hd1] at hs
                      have HN : Hid (lastR keyB x (lc.take (m2 + 1)) = lastR keyB x (lc.take m2)) := by
                        show _ = _
                        rw [HTT.out, if_neg (fun h => by unfold keyB at h; simp at h; simp [h.1] at hd1)]
                      rw [← HN.out] at HT6
                      clear hd1
                      go_wp2_with fail
                      go_roundw
                      case rel => exact ⟨m2 + 1, by omega, by go_num, HT6, HV6⟩
                      case measure => simp [intOf]; omega
                    · rw [hd1] at hs
                      rcases hd2 : decide (y.k = x.k) with _ | _
                      · rw [hd2] at hq
                        have HN : Hid (lastR keyB x (lc.take (m2 + 1)) = lastR keyB x (lc.take m2)) := by
                          show _ = _
                          rw [HTT.out, if_neg (fun h => by unfold keyB at h; simp at h; simp [h.2] at hd2)]
                        rw [← HN.out] at HT6
                        clear hd1 hd2
                        go_wp2_with fail
                        go_roundw
                        case rel => exact ⟨m2 + 1, by omega, by go_num, HT6, HV6⟩
                        case measure => simp [intOf]; omega
                      · rw [hd2] at hq
                        have HN : Hid (lastR keyB x (lc.take (m2 + 1)) = y) := by
                          show _ = _
                          rw [HTT.out, if_pos (by unfold keyB; rw [decide_eq_true_eq] at hd1 hd2; rw [hd1, hd2])]
                        clear hd1 hd2
                        go_wp2_with (refine wpList_store_row rfl 30 (.tmp 13) (.tmp 96) (by rfl) wr1.heap.size (lnA y) (by rfl) (by rfl) 30 (lnA (lastR keyB x (lc.take m2))) HT6.out (by kernel_rfl) rfl (lnA_all y) ?_)
                        go_roundw
                        case rel => exact ⟨m2 + 1, by omega, by go_num, by show Blk _ _ _ _; rw [HN.out]; exact HT6.out.row _, below_setRow HV6.out (Nat.le_refl _) _⟩
                        case measure => simp [intOf]; omega
                  · have hm3 : m2 = nc := by omega
                    have HBE : Hid (Below w7.heap.size w7 wr) := more3 HB4.out HB4.out.size HV.out
                    have k3 : wr.cell? ⟨W2.heap.size, 3, none⟩ = some (.bool true) := (HK4.out.below HV.out HK4.out.lt).cell 3
                    clear HT HV
                    go_wp2_with fail
                    go_roundw
                    case rel => exact ⟨k + 1, by omega, by go_num, HBE⟩
                    case measure => simp [intOf]; omega
    · obtain rfl : k = n := by omega
      go_wp2_with fail
      go_ret
      exact ⟨rfl, more3 HB7.out HB7.out.size HW0.out⟩
end
end Go.Proofs.Ytfjfhbmbngogpaa
