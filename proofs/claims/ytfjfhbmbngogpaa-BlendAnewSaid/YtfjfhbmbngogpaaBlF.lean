/- The walk of the law BlendAnew. -/
import Derived.Test.YtfjfhbmbngogpaaBlD
import Derived.Laws.BitsAllLaws
import Derived.Laws.BitsLemmas
namespace Go.Proofs.Ytfjfhbmbngogpaa
open Go.RowKit

theorem and_lowK (a : Int) (m : Nat) (hm : m ≤ 65535) : ∃ k : Nat, bits .and .i64 a (m : Int) = (k : Int) ∧ k ≤ m := by
  have hx : (BitVec.ofInt 64 (m : Int)).toNat = m := by
    rw [BitVec.ofInt_natCast, BitVec.toNat_ofNat]; exact Nat.mod_eq_of_lt (by omega)
  refine ⟨(BitVec.ofInt 64 a).toNat &&& m, ?_, Nat.and_le_right⟩
  have hle : (BitVec.ofInt 64 a).toNat &&& m ≤ m := Nat.and_le_right
  show IntKind.i64.wrap ((BitVec.ofInt 64 a &&& BitVec.ofInt 64 (m : Int)).toNat : Int) = _
  rw [BitVec.toNat_and, hx, IntKind.wrap_i64]
  omega
theorem all_cls : ∀ x ∈ allT, clsB (x.s, x.n) = some x.l ∧ x.s.length ≤ 100 ∧ x.n.length ≤ 100 := by decide +kernel
/-- What is left without the key of e. -/
def leftT (e : Ln) (l : List Ln) : List Ln := l.filter fun x => decide (keyB x ≠ keyB e)
theorem left_snoc (e : Ln) (l : List Ln) (x : Ln) : leftT e (l ++ [x]) = leftT e l ++ (if decide (x.s = e.s) && decide (x.k = e.k) then [] else [x]) := by
  unfold leftT keyB
  rw [List.filter_append]
  congr 1
  by_cases h1 : x.s = e.s <;> by_cases h2 : x.k = e.k <;> simp [h1, h2]
theorem neqs_str (a b : List UInt8) : ((str a).toList != (str b).toList) = !decide (a = b) := by
  rw [← eqs_str]; rfl
section
variable (A0 : Option Addr) (n0 c0 : Nat) (l0 : List Ln) (a : Int) (w : World)
set_option maxRecDepth 100000 in
set_option maxHeartbeats 8000000 in
theorem BlendAnew_any (h0 : Pl w (A0, n0, c0) l0) (hs : l0.length + 1 ≤ 2513169434916) :
    Calls Try.prog 7 #[.slice A0 n0 c0, .int .i64 a] w fun e w' => e = .returned (.bool true) ∧ Below w.heap.size w w' := by
  obtain ⟨m, hbm, hml⟩ := and_lowK a 65535 (Nat.le_refl _)
  have hbm : bits .and .i64 a 65535 = (m : Int) := hbm
  obtain ⟨km, hkm⟩ : ∃ k, m % 42 = k := ⟨_, rfl⟩
  have hkl : km < 42 := by have := Nat.mod_lt m (show 0 < 42 by omega); omega
  have hk1 : (m : Int) % 42 = (km : Int) := by rw [← hkm]; simp
  have hk2 : (m : Int).tmod 42 = (km : Int) := by rw [Int.tmod_eq_emod_of_nonneg (by omega)]; exact hk1
  have hk0 : (0 : Int) ≤ (km : Int) := by omega
  have hk3 : (km : Int) < 42 := by omega
  have hn0 : l0.length = n0 := h0.at_.1
  have H0 := Lib.hid h0
  have HN0 := Lib.hid hn0
  have hnb : n0 ≤ 2513169434916 := by omega
  clear h0 hkm hn0
  go_enter Try.func7, Try.ntmps7
  go_wp2_with fail
  refine (shown_any _).mono ?_
  rintro e1 w1 ⟨rfl, hb1⟩
  have HB1 := Lib.hid hb1
  have H1 := Lib.hid (H0.out.below hb1)
  clear hb1 H0
  go_wp2_with fail
  refine (All_any _).mono ?_
  rintro e2 w2 ⟨vv, rfl, hk⟩
  have hb2 := hk.below
  obtain ⟨A, c, rfl, hkeys⟩ := hk.at_ (by decide +kernel)
  rw [allT_len] at hkeys ⊢
  obtain ⟨ad, r, x, rfl, hab, hx, hr, q0, q1, q2, q3, q4, q5⟩ := hkeys.at_ hkl
  have hxm : x ∈ allT := List.mem_of_getElem? hx
  obtain ⟨hcls, hx1, hx2⟩ := all_cls x hxm
  have HB2 := Lib.hid (more3 HB1.out HB1.out.size hb2)
  have H2 := Lib.hid (H1.out.below hb2)
  obtain ⟨rs, rn, rf, rl, rk, rA, rm, rc⟩ := r
  obtain ⟨g0, g1, g2, g3, g4, _⟩ := hr
  dsimp only at g0 g1 g2 g3 g4 q0 q1 q2 q3 q4 q5
  subst g0 g1 g2 g3 g4
  have HCL := Lib.hid hcls
  have HK3 := Lib.hid (Blk.new w2 33 #[.string (str x.s), .string (str x.n), .int .i64 x.f, .bool x.l, .int .i64 x.k, .slice rA rm rc])
  have H3 := Lib.hid (H2.out.alloc (.cells #[.string (str x.s), .string (str x.n), .int .i64 x.f, .bool x.l, .int .i64 x.k, .slice rA rm rc] 33))
  have HB3 := Lib.hid (HB2.out.alloc HB2.out.size (.cells #[.string (str x.s), .string (str x.n), .int .i64 x.f, .bool x.l, .int .i64 x.k, .slice rA rm rc] 33))
  clear hk hb2 hkeys hx hxm hcls HB1 H1 H2
  rcases hxl : x.l with _ | _
  · rw [hxl] at q3
    go_wp2_with fail
    go_ret
    exact ⟨rfl, HB2.out.alloc HB2.out.size _⟩
  · rw [hxl] at q3 HCL HK3 H3 HB3
    go_wp2_with fail
    generalize w2.alloc (.cells #[.string (str x.s), .string (str x.n), .int .i64 x.f, .bool true, .int .i64 x.k, .slice rA rm rc] 33) = w3 at *
    obtain ⟨ev, hev⟩ : ∃ ev : Ln, ev = ⟨x.s, x.n, [], 0⟩ := ⟨_, rfl⟩
    have hes : ev.s = x.s := by rw [hev]
    have hek : ev.k = x.n := by rw [hev]
    have HEV := Lib.hid hev
    clear hev q0 q1 q2 q3 q4 q5 hab
    go_loopw [7, 29] (fun v i wr => ∃ k : Nat, k ≤ n0 ∧ i = .int .i64 k ∧ Hid (OwnL w3 v (leftT ev (l0.take k)) wr)) (fun _ i _ => n0 - (intOf i).toNat)
    case atStart => exact ⟨0, Nat.zero_le _, rfl, World.ownsRow_nil _ _ _ _, Below.refl _ _⟩
    case round =>
      obtain ⟨k, hk, rfl, HO⟩ := hrel
      by_cases hlt : k < n0
      · have b0 : (0 : Int) ≤ (k : Int) := by omega
        have b1 : (k : Int) < (n0 : Int) := by omega
        obtain ⟨al, y, rfl, hab, hy, q0, q1, q2, q3⟩ := (H3.out.below HO.out.2).at_.at_ (k := k) hlt
        have HE9 := Lib.hid (Blk.new wr 30 #[.string (str y.s), .string (str y.k), .string (str y.v), .int .i64 y.n])
        have HO8 := Lib.hid (HO.out.next ((Below.refl _ wr).alloc (Nat.le_refl _) (.cells #[.string (str y.s), .string (str y.k), .string (str y.v), .int .i64 y.n] 30)))
        have z3 : w2.heap.size < wr.heap.size := by have := HK3.out.lt; have := HO.out.2.size; omega
        have k0 : wr.cell? ⟨w2.heap.size, 0, none⟩ = some (.string (str x.s)) := (HK3.out.below HO.out.2 HK3.out.lt).cell 0
        have k1 : wr.cell? ⟨w2.heap.size, 1, none⟩ = some (.string (str x.n)) := (HK3.out.below HO.out.2 HK3.out.lt).cell 1
        have hs1 := eqs_str y.s x.s
        have hs2 := eqs_str y.k x.n
        have hll : (leftT ev (l0.take k)).length ≤ k := Nat.le_trans (List.length_filter_le _ _) (by rw [List.length_take]; omega)
        have HLE : Hid ((leftT ev (l0.take k)).length + 1 ≤ 2513169434916) := by show _ ≤ _; have := HN0.out; omega
        clear hll
        have HN9 := Lib.hid (Blk.new (wr.alloc (.cells #[.string (str y.s), .string (str y.k), .string (str y.v), .int .i64 y.n] 30)) 30 #[.string (str y.s), .string (str y.k), .string (str y.v), .int .i64 y.n])
        have hz9 : (wr.alloc (.cells #[.string (str y.s), .string (str y.k), .string (str y.v), .int .i64 y.n] 30)).heap.size = wr.heap.size + 1 := by simp
        rw [hz9] at HN9
        have HO9 := Lib.hid (HO8.out.next ((Below.refl _ (wr.alloc (.cells #[.string (str y.s), .string (str y.k), .string (str y.v), .int .i64 y.n] 30))).alloc (Nat.le_refl _) (.cells #[.string (str y.s), .string (str y.k), .string (str y.v), .int .i64 y.n] 30)))
        rcases hd1 : decide (y.s = x.s) with _ | _
        · rw [hd1] at hs1
          have HD : (decide (y.s = ev.s) && decide (y.k = ev.k)) = false := by rw [hes, hd1]; rfl
          have HT2 : Hid (leftT ev (l0.take (k + 1)) = leftT ev (l0.take k) ++ [y]) := by
            show _ = _
            rw [List.take_add_one, hy, Option.toList_some, left_snoc]
            simp [HD]
          clear HD hy hd1 hes hek
          go_wp2_with (at_builtin; refine wpList_append_lines (by rfl) _ _ rfl w3.heap.size _ (leftT ev (l0.take k)) [y] (by rfl) HO9.out.1 (some ⟨wr.heap.size + 1, 0, none⟩) 1 1 (wr.heap.size + 1 + 1) (by rfl) (one_lines HN9.out) (fun e => by cases e) HLE.out HO9.out.2.size ?_; intro v' w4 hown4 hg4; have HO4 := Lib.hid (HO9.out.grown hown4 hg4); rw [← HT2.out] at HO4; clear hown4 hg4)
          go_roundw
          case rel => exact ⟨k + 1, by omega, by go_num, HO4⟩
          case measure => simp [intOf]; omega
        · rw [hd1] at hs1
          rcases hd2 : decide (y.k = x.n) with _ | _
          · rw [hd2] at hs2
            have HD : (decide (y.s = ev.s) && decide (y.k = ev.k)) = false := by rw [hek, hd2]; simp
            have HT2 : Hid (leftT ev (l0.take (k + 1)) = leftT ev (l0.take k) ++ [y]) := by
              show _ = _
              rw [List.take_add_one, hy, Option.toList_some, left_snoc]
              simp [HD]
            clear HD hy hd1 hd2 hes hek
            go_wp2_with (at_builtin; refine wpList_append_lines (by rfl) _ _ rfl w3.heap.size _ (leftT ev (l0.take k)) [y] (by rfl) HO9.out.1 (some ⟨wr.heap.size + 1, 0, none⟩) 1 1 (wr.heap.size + 1 + 1) (by rfl) (one_lines HN9.out) (fun e => by cases e) HLE.out HO9.out.2.size ?_; intro v' w4 hown4 hg4; have HO4 := Lib.hid (HO9.out.grown hown4 hg4); rw [← HT2.out] at HO4; clear hown4 hg4)
            go_roundw
            case rel => exact ⟨k + 1, by omega, by go_num, HO4⟩
            case measure => simp [intOf]; omega
          · rw [hd2] at hs2
            have HT2 : Hid (leftT ev (l0.take (k + 1)) = leftT ev (l0.take k)) := by
              show _ = _
              rw [List.take_add_one, hy, Option.toList_some, left_snoc, hes, hek, hd1, hd2]
              simp
            rw [← HT2.out] at HO8
            clear hy hd1 hd2 hes hek
            go_wp2_with fail
            go_roundw
            case rel => exact ⟨k + 1, by omega, by go_num, HO8⟩
            case measure => simp [intOf]; omega
      · obtain rfl : k = n0 := by omega
        have hOL := HO.out
        rw [List.take_of_length_le (by have := HN0.out; omega)] at hOL
        have hll : (leftT ev l0).length ≤ l0.length := List.length_filter_le _ _
        have hlm : (leftT ev l0).length ≤ 2513169434916 := by omega
        obtain ⟨Aa, ca, rfl, hLa, hna, hca⟩ := hOL.at_ (by unfold maxLen; omega)
        have HLA : Hid (Pl wr (Aa, (leftT ev l0).length, ca) (leftT ev l0)) := ⟨hLa, hna, fun y hy => H3.out.small y (List.mem_filter.1 hy).1, hca⟩
        have H5 := Lib.hid (H3.out.below hOL.2)
        have HB5 := Lib.hid (more3 HB3.out HB3.out.size hOL.2)
        have k0 : wr.cell? ⟨w2.heap.size, 0, none⟩ = some (.string (str x.s)) := (HK3.out.below hOL.2 HK3.out.lt).cell 0
        have k1 : wr.cell? ⟨w2.heap.size, 1, none⟩ = some (.string (str x.n)) := (HK3.out.below hOL.2 HK3.out.lt).cell 1
        have HLM := Lib.hid hlm
        have HE5 : Hid (Pl (wr.alloc (.cells #[.string (str x.s), .string (str x.n), .string ⟨#[]⟩, .int .i64 0] 30)) (some ⟨wr.heap.size, 0, none⟩, 1, 1) [ev]) := by
          rw [HEV.out]
          exact Pl.blk (n := 1) (l := [⟨x.s, x.n, [], 0⟩]) (Blk.new wr 30 (lns [⟨x.s, x.n, [], 0⟩]).toArray) rfl (by decide) 1 (fun z hz => by
            simp at hz; subst hz; exact ⟨by unfold maxLen; show x.s.length ≤ _; omega, by unfold maxLen; show x.n.length ≤ _; omega⟩) (by decide)
        have H6 := Lib.hid (H5.out.alloc (.cells #[.string (str x.s), .string (str x.n), .string ⟨#[]⟩, .int .i64 0] 30))
        have HL6 := Lib.hid (HLA.out.alloc (.cells #[.string (str x.s), .string (str x.n), .string ⟨#[]⟩, .int .i64 0] 30))
        have HB6 := Lib.hid (HB5.out.alloc HB5.out.size (.cells #[.string (str x.s), .string (str x.n), .string ⟨#[]⟩, .int .i64 0] 30))
        have hz6 : (wr.alloc (.cells #[.string (str x.s), .string (str x.n), .string ⟨#[]⟩, .int .i64 0] 30)).heap.size = wr.heap.size + 1 := by simp
        have HQ : Hid (blendT (l0 ++ [ev]) = blendT (leftT ev l0)) := blendR_anew keyB clsB empB ev (by show clsB (ev.s, ev.k) = _; rw [hes, hek]; exact HCL.out) (by show decide (ev.v = []) = true; rw [HEV.out]; rfl) l0
        obtain ⟨ll, hll2⟩ : ∃ ll, ll = leftT ev l0 := ⟨_, rfl⟩
        rw [← hll2] at HLA HL6 HLM HQ
        rw [← hll2]
        have H7 := Lib.hid (all2 _ _ _ _ _ _ _ _ _ H6.out HE5.out (by simpa using hs))
        rw [hz6] at H7
        clear hOL hLa hna hca hll hlm H5 HB5 HLA hes hek hll2
        go_wp2_with fail
        generalize wr.alloc (.cells #[.string (str x.s), .string (str x.n), .string ⟨#[]⟩, .int .i64 0] 30) = w6 at *
        refine H7.out.mono ?_
        rintro e w7 ⟨A7, n7, c7, rfl, hP, hb⟩
        have HP := Lib.hid hP
        have HL7 := Lib.hid (HL6.out.below hb)
        have HB7 := Lib.hid (more3 HB6.out HB6.out.size hb)
        clear hb hP HL6 HB6 H6 HE5 H7
        go_wp2_with fail
        refine (all1 _ _ _ _ w7 HL7.out HLM.out).mono ?_
        rintro e w8 ⟨A8, n8, c8, rfl, hP', hb⟩
        have HP' := Lib.hid hP'
        have HP8 := Lib.hid (HP.out.below hb)
        have HB8 := Lib.hid (more3 HB7.out HB7.out.size hb)
        clear hb hP'
        go_wp2_with fail
        refine (same_any HP8.out HP'.out HQ.out).mono ?_
        rintro e w9 ⟨rfl, hb⟩
        have HB9 := Lib.hid (more3 HB8.out HB8.out.size hb)
        clear hb
        go_wp2_with fail
        go_ret
        exact ⟨rfl, HB9.out⟩
end
end Go.Proofs.Ytfjfhbmbngogpaa
