/- The walk of the document's Blend. -/
import Derived.Test.YtfjfhbmbngogpaaBlA
import Derived.Test.YtfjfhbmbngogpaaBlS
import Derived.Test.YtfjfhbmbngogpaaKsO
import Derived.Laws.OwnMore
import Derived.Deep.AppendLies
namespace Go.Proofs.Ytfjfhbmbngogpaa
open Go.RowKit

theorem lns_append (a b : List Ln) : lns (a ++ b) = lns a ++ lns b := by simp [lns]
theorem lns_one_cell (l : List Ln) : ∀ x ∈ lns l, x.oneCell' = true := by
  intro x hx
  obtain ⟨r, _, hr⟩ := List.mem_flatMap.1 hx
  exact lnCells_one r x hr
theorem wpList_want {P : Program} {ops : Array Oper} {rest : List Oper} {o : Oper} {a : Act} {w : World} {Q : Exit → Act → World → Prop} (hw : Region.wanted o (yielded ops a.tmps) = true) (h : o.wp P a w (wpList P ops Q rest) Q) : wpList P ops Q (o :: rest) a w := by
  rw [wpList, if_pos hw]
  exact .inl h
/-- append of lines to a row of the call's own. -/
theorem wpList_append_lines {w : World} {ops : Array Oper} {rest : List Oper} {o : Oper} {a : Act} {Q : Exit → Act → World → Prop} (hw : Region.wanted o (yielded ops a.tmps) = true) (s x : Operand)
    (ho : o.op = .call { callee := .builtin .append, args := #[s, x], argTypes := #[22, 22] }) (base : Nat) (v : Value) (l l' : List Ln) (hs : a.eval s = v) (hown : w.ownsRow base 30 4 v l.length (lns l))
    (A : Option Addr) (n c B : Nat) (hx : a.eval x = .slice A n c) (hL : LnsAt w B A n l') (hA : A = none → c = 0) (hlen : l.length + n ≤ 2513169434916) (hbase : base ≤ w.heap.size)
    (h : ∀ v' w', w'.ownsRow base 30 4 v' (l ++ l').length (lns (l ++ l')) → w.grownBy w' v.ownBlock → wpList Try.prog ops Q rest (a.put o.dst v') w') : wpList Try.prog ops Q (o :: rest) a w := by
  obtain ⟨i0, hi, hz0, hz1, hz2⟩ := info_parts lineInfo
  obtain ⟨h1, h2, h3⟩ := hL
  subst h1
  refine wpList_want hw ?_
  cases A with
  | none =>
    have hn : l'.length = 0 := by
      rcases Nat.eq_zero_or_pos l'.length with h0 | h0
      · exact h0
      · obtain ⟨ad, e, _⟩ := h3 h0
        cases e
    have hc := hA rfl
    subst hc
    rw [hn] at hx
    have hl' : l' = [] := List.length_eq_zero_iff.1 hn
    subst hl'
    have hrun := run_append_owned_none (P := Try.prog) (w := w) base 22 o.type 30 i0 4 Try.underlying22 hi v l.length (lns l) hown
    unfold Oper.wp
    simp [execOp, ho, resolve, invoke, builtin, hs, hx, hrun, Result.andThen]
    rw [List.append_nil] at h
    exact h _ _ hown (World.grownBy.refl _ _)
  | some ad =>
    refine wp_append_own w s x 22 ho base 30 i0 _ 4 56 Try.underlying22 hi hz0 hz1 hz2 rfl (by decide) v l.length (lns l) hs hown ad l'.length c (lns l') hx (lns_length l') ?_ (lns_one_cell l') (by unfold maxLen; omega) (by omega) hbase ?_
    · intro j u hj
      have hpos : 0 < l'.length := by
        rcases Nat.eq_zero_or_pos l'.length with h0 | h0
        · rw [List.length_eq_zero_iff.1 h0] at hj; simp [lns] at hj
        · exact h0
      obtain ⟨ad', e, _, hc⟩ := h3 hpos
      cases e
      exact hc j u hj
    · intro v' w' h4 h5 _
      refine h v' w' ?_ h5
      rw [List.length_append, lns_append]
      exact h4

/-- A row of lines of the call's own. -/
def OwnL (w : World) (v : Value) (l : List Ln) (W : World) : Prop := W.ownsRow w.heap.size 30 4 v l.length (lns l) ∧ Below w.heap.size w W
theorem OwnL.grown {w X Y : World} {v v' : Value} {l l' : List Ln} (h : OwnL w v l X) (ho : Y.ownsRow w.heap.size 30 4 v' l'.length (lns l')) (hg : X.grownBy Y v.ownBlock) : OwnL w v' l' Y :=
  ⟨ho, h.2.grown hg h.2.size fun k e => (own_blk h.1 k e).1⟩
theorem OwnL.next {w X Y : World} {v : Value} {l : List Ln} (h : OwnL w v l X) (hb : Below X.heap.size X Y) : OwnL w v l Y := ⟨own_below h.1 hb, more3 h.2 h.2.size hb⟩
theorem OwnL.at_ {w W : World} {v : Value} {l : List Ln} (h : OwnL w v l W) (hl : l.length ≤ maxLen) : ∃ A c, v = .slice A l.length c ∧ LnsAt W W.heap.size A l.length l ∧ (A = none → c = 0) ∧ l.length ≤ c := by
  rcases h.1.2 with ⟨h1, h2⟩ | ⟨g, cap, cur, h1, _, _, h4, _⟩
  · obtain rfl : l = [] := List.length_eq_zero_iff.1 h2
    exact ⟨none, 0, h1, LnsAt.none_, fun _ => rfl, Nat.le_refl _⟩
  · have := h.1
    rw [h1] at this
    exact ⟨_, cap, h1, (lnsAt_of_own this rfl hl).2, (fun e => by cases e), h4⟩

theorem eqs_str (a b : List UInt8) : ((str a).toList == (str b).toList) = decide (a = b) := by
  rw [Lib.toList_data, Lib.toList_data, str_list, str_list, Bool.eq_iff_iff, decide_eq_true_eq, beq_iff_eq]
theorem anyl_take {R : List Ln} {m : Nat} {x y : Ln} {b : Bool} (hy : R[m]? = some y) (h : overB keyB clsB empB x y = b) : (R.take (m + 1)).any (overB keyB clsB empB x) = ((R.take m).any (overB keyB clsB empB x) || b) := by
  rw [List.take_add_one, hy, List.any_append]
  simp [h]
theorem blend_no {x : Ln} {R : List Ln} (h : false = (stayT x && !(R.any (overB keyB clsB empB x)))) : blendT (x :: R) = blendT R := by
  show blendR keyB clsB empB (x :: R) = _
  rw [blendR, if_neg (by show ¬ (stayT x && _) = true; rw [← h]; simp)]
  rfl
theorem blend_yes {x : Ln} {R : List Ln} (h : true = (stayT x && !(R.any (overB keyB clsB empB x)))) : blendT (x :: R) = x :: blendT R := by
  show blendR keyB clsB empB (x :: R) = _
  rw [blendR, if_pos (by show (stayT x && _) = true; rw [← h])]
  rfl
theorem one_lines {W : World} {g : Nat} {x : Ln} (h : Blk W g 30 #[.string (str x.s), .string (str x.k), .string (str x.v), .int .i64 x.n]) : LnsAt W (g + 1) (some ⟨g, 0, none⟩) 1 [x] :=
  ⟨rfl, by unfold maxLen; omega, fun _ => ⟨_, rfl, by show g < g + 1; omega, fun j u hj => AppK.cells h j u (by simpa [lns] using hj)⟩⟩
theorem add_addL (a : Addr) (i j : Nat) : (a.add i).add j = a.add (i + j) := by
  unfold Addr.add
  by_cases hi : i = 0 <;> by_cases hj : j = 0 <;> simp [hi, hj, Nat.add_assoc]
theorem overT_is (x y : Ln) : overB keyB clsB empB x y = ((findT x.s x.k).isSome && decide (y.s = x.s) && decide (y.k = x.k) && (decide ((findT x.s x.k).map (·.l) = some false) || decide (y.v = []))) := by
  unfold overB clsB keyB empB
  rw [Bool.eq_iff_iff]
  simp only [Bool.and_eq_true, Bool.or_eq_true, decide_eq_true_eq, Prod.mk.injEq, Option.isSome_map]
  constructor
  · rintro ⟨⟨h1, h2, h3⟩, h4⟩; exact ⟨⟨⟨h1, h2⟩, h3⟩, h4⟩
  · rintro ⟨⟨⟨h1, h2⟩, h3⟩, h4⟩; exact ⟨⟨h1, h2, h3⟩, h4⟩

set_option maxRecDepth 100000 in
set_option maxHeartbeats 8000000 in
theorem rBlend_any (AA : Option Addr) (N C : Nat) (rows : List Sl) (ls : List (List Ln)) (w : World) (hA : SlsAt w w.heap.size AA N rows) (hR : RowsOf w rows ls) (hsz : ls.flatten.length ≤ 2513169434916) :
    Calls Try.prog 11 #[.slice AA N C] w fun e w' => ∃ A n c, e = .returned (.slice A n c) ∧ LnsAt w' w'.heap.size A n (blendT ls.flatten) ∧ Below w.heap.size w w' ∧ (A = none → c = 0) ∧ n ≤ c := by
  have hNm := hA.2.1
  unfold maxLen at hNm
  have HA := Lib.hid hA
  have HR := Lib.hid hR
  have HN0 : Hid (ls.length = N) := hR.len.symm.trans hA.1
  clear hA hR
  go_enter Try.func11, Try.ntmps11
  go_wp2_with fail
  go_loopw [3, 16] (fun v i wr => ∃ k : Nat, k ≤ N ∧ i = .int .i64 k ∧ Hid (OwnL w v (ls.take k).flatten wr)) (fun _ i _ => N - (intOf i).toNat)
  case atStart => exact ⟨0, Nat.zero_le _, rfl, World.ownsRow_nil _ _ _ _, Below.refl _ _⟩
  case round =>
    obtain ⟨k, hk, rfl, HO⟩ := hrel
    by_cases hlt : k < N
    · have b0 : (0 : Int) ≤ (k : Int) := by omega
      have b1 : (k : Int) < (N : Int) := by omega
      obtain ⟨ad, a, m, c, rfl, _, hx, q0⟩ := (HA.out.below HO.out.2).at_ hlt
      obtain ⟨l, hl⟩ : ∃ l, ls[k]? = some l := ⟨_, List.getElem?_eq_getElem (by have := HN0.out; omega)⟩
      have HL := Lib.hid ((HR.out.at_ k _ l hx hl).below HO.out.2)
      have HN := Lib.hid (HR.out.nil_ k _ hx)
      have hm : l.length = m := HL.out.1
      have HT : Hid ((ls.take (k + 1)).flatten = (ls.take k).flatten ++ l) := by
        show _ = _
        rw [List.take_add_one, hl]
        simp
      have htl : (ls.take k).flatten.length + m ≤ 2513169434916 := by
        have e : ls.flatten = (ls.take (k + 1)).flatten ++ (ls.drop (k + 1)).flatten := by rw [← List.flatten_append, List.take_append_drop]
        rw [e, HT.out] at hsz
        simp only [List.length_append] at hsz
        omega
      clear hx hl
      go_wp2_with (at_builtin; refine wpList_append_lines (by rfl) _ _ rfl w.heap.size _ (ls.take k).flatten l (by rfl) HO.out.1 a m c w.heap.size (by rfl) HL.out HN.out htl HO.out.2.size ?_; intro v' w1 hown1 hg1; have HO1 := Lib.hid (HO.out.grown hown1 hg1); rw [← HT.out] at HO1; clear hown1 hg1)
      go_roundw
      case rel => exact ⟨k + 1, by omega, by go_num, HO1⟩
      case measure => simp [intOf]; omega
    · obtain rfl : k = N := by omega
      have hOL := HO.out
      rw [List.take_of_length_le (by have := HN0.out; omega)] at hOL
      obtain ⟨Aa, ca, rfl, hLa, _, hca0⟩ := hOL.at_ (by unfold maxLen; omega)
      have HL := Lib.hid hLa
      have HBW := Lib.hid hOL.2
      clear HO hOL hLa HA HR HN0 hNm
      generalize hLf : ls.flatten = L at *
      have HLF := Lib.hid hLf
      clear hLf
      obtain ⟨n, hn⟩ : ∃ n, n = L.length := ⟨_, rfl⟩
      rw [← hn] at HL hsz hca0
      rw [← hn]
      have HLL := Lib.hid hn
      clear hn
      obtain ⟨w1, hw1⟩ : ∃ w1, w1 = wr := ⟨_, rfl⟩
      rw [← hw1] at HL HBW
      rw [← hw1]
      clear hw1
      go_wp2_with fail
      go_loopw [4, 26] (fun v i wr => ∃ (k : Nat) (o : List Ln), k ≤ n ∧ i = .int .i64 k ∧ o.length ≤ k ∧ Hid (blendT L = o ++ blendT (L.drop k)) ∧ Hid (OwnL w1 v o wr)) (fun _ i _ => n - (intOf i).toNat)
      case atStart => exact ⟨0, [], Nat.zero_le _, rfl, Nat.zero_le _, rfl, World.ownsRow_nil _ _ _ _, Below.refl _ _⟩
      case round =>
        obtain ⟨k, o, hk, rfl, hok, HE, HO⟩ := hrel
        by_cases hlt : k < n
        · have b0 : (0 : Int) ≤ (k : Int) := by omega
          have b1 : (k : Int) < (n : Int) := by omega
          obtain ⟨ad, x, rfl, hab, hx, q0, q1, q2, q3⟩ := (HL.out.below HO.out.2).at_ hlt
          have hsz1 := HO.out.2.size
          have HE0 := Lib.hid (Blk.new wr 30 #[.string (str x.s), .string (str x.k), .string (str x.v), .int .i64 x.n])
          have HO0 := Lib.hid (HO.out.next ((Below.refl _ wr).alloc (Nat.le_refl _) (.cells #[.string (str x.s), .string (str x.k), .string (str x.v), .int .i64 x.n] 30)))
          have HX : Hid (L.drop k = x :: L.drop (k + 1)) := by
            have hkl : k < L.length := by have := HLL.out; omega
            show _ = _
            rw [List.drop_eq_getElem_cons hkl]
            congr 1
            rw [List.getElem?_eq_getElem hkl] at hx
            exact Option.some.inj hx
          go_wp2_with fail
          have hz0 : wr.heap.size < (wr.alloc (.cells #[.string (str x.s), .string (str x.k), .string (str x.v), .int .i64 x.n] 30)).heap.size := by simp
          clear q0 q1 q2 q3 hx
          generalize wr.alloc (.cells #[.string (str x.s), .string (str x.k), .string (str x.v), .int .i64 x.n] 30) = W0 at *
          refine (rFind_any _ _ _).mono ?_
          rintro e W2 ⟨r, rfl, hr, hb⟩
          rw [str_list, str_list]
          rw [str_list, str_list] at hr
          have HE2 := Lib.hid (HE0.out.below hb HE0.out.lt)
          have HO2 := Lib.hid (HO0.out.next hb)
          have hl2 : wr.heap.size < W2.heap.size := HE2.out.lt
          have HK2 := Lib.hid (Blk.new W2 33 (krA r))
          have HE3 := Lib.hid (HE2.out.alloc (.cells (krA r) 33))
          have HO3 := Lib.hid (HO2.out.next ((Below.refl _ W2).alloc (Nat.le_refl _) (.cells (krA r) 33)))
          have hz3 : (W2.alloc (.cells (krA r) 33)).heap.size = W2.heap.size + 1 := by simp
          have hem := emp_str x.v
          have hSt : Hid (stayT x = !(decide (clsB (x.s, x.k) = some true) && decide (x.v = []))) := rfl
          have ev : W2.cell? ⟨wr.heap.size, 2, none⟩ = some (.string (str x.v)) := HE2.out.cell 2
          unfold krA at *
          have hrl : r.l = ((findT x.s x.k).getD noKy).l := hr.2.2.2.1
          clear hb hr HE0 HO0
          obtain ⟨wr0, hwr0⟩ : ∃ wr0, wr0 = wr := ⟨_, rfl⟩
          subst hwr0
          obtain ⟨R, hRR⟩ : ∃ R, R = L.drop (k + 1) := ⟨_, rfl⟩
          have HRR := Lib.hid hRR
          have HRL : Hid (R.length = n - (k + 1)) := by show _ = _; rw [hRR, List.length_drop, ← HLL.out]
          rw [← hRR] at HX
          clear hRR
          rcases ho : findT x.s x.k with _ | y0
          · rw [show (none : Option Ky).isSome = false from rfl]
            rw [ho] at hrl
            simp only [Option.getD_none] at hrl
            rw [hrl] at HK2 HE3 HO3 hz3
            rw [hrl]
            have HST : Hid (stayT x = true) := by show _ = _; rw [hSt.out]; unfold clsB; rw [ho]; rfl
            clear hSt hrl hem
            by_cases hca : ca = k + 1
            · have hnk : n - (k + 1) = 0 := by omega
              subst hca
              go_wp2_with fail
              generalize W2.alloc (.cells #[.string (str r.s), .string (str r.n), .int .i64 r.f, .bool noKy.l, .int .i64 r.k, .slice r.A r.m r.c] 33) = W3 at *
              go_loopw [11, 56] (fun v i wr => ∃ (m : Nat) (bb : Bool), m ≤ n - (k + 1) ∧ i = .int .i64 m ∧ v = .bool bb ∧ Hid (bb = (stayT x && !((R.take m).any (overB keyB clsB empB x)))) ∧ Hid (Below W3.heap.size W3 wr)) (fun _ i _ => (n - (k + 1)) - (intOf i).toNat)
              case atStart => exact ⟨0, _, Nat.zero_le _, rfl, rfl, by show _ = _; rw [HST.out]; simp, Below.refl _ _⟩
              case round =>
                obtain ⟨m, bb, hm, rfl, rfl, HBB, HW⟩ := hrel
                have hm0 : m = n - (k + 1) := by omega
                have HBE : Hid (bb = (stayT x && !(R.any (overB keyB clsB empB x)))) := by
                  show _ = _
                  rw [HBB.out, List.take_of_length_le (by rw [HRL.out]; omega)]
                have HOx := Lib.hid (HO3.out.next HW.out)
                have HEx := Lib.hid (HE3.out.below HW.out HE3.out.lt)
                clear HBB HW
                rcases bb with _ | _
                · have HNX : Hid (blendT (L.drop k) = blendT (L.drop (k + 1))) := by
                    show _ = _
                    rw [HX.out, ← HRR.out]
                    exact blend_no HBE.out
                  go_wp2_with fail
                  go_roundw
                  case rel => exact ⟨k + 1, o, by omega, by go_num, by omega, by show _ = _; rw [HE.out, HNX.out], HOx⟩
                  case measure => simp [intOf]; omega
                · have HNX : Hid (blendT (L.drop k) = x :: blendT (L.drop (k + 1))) := by
                    show _ = _
                    rw [HX.out, ← HRR.out]
                    exact blend_yes HBE.out
                  have e0 : wr.cell? ⟨wr0.heap.size, 0, none⟩ = some (.string (str x.s)) := HEx.out.cell 0
                  have e1 : wr.cell? ⟨wr0.heap.size, 1, none⟩ = some (.string (str x.k)) := HEx.out.cell 1
                  have e2 : wr.cell? ⟨wr0.heap.size, 2, none⟩ = some (.string (str x.v)) := HEx.out.cell 2
                  have e3 : wr.cell? ⟨wr0.heap.size, 3, none⟩ = some (.int .i64 x.n) := HEx.out.cell 3
                  have HN8 := Lib.hid (Blk.new wr 30 #[.string (str x.s), .string (str x.k), .string (str x.v), .int .i64 x.n])
                  have HO8 := Lib.hid (HOx.out.next ((Below.refl _ wr).alloc (Nat.le_refl _) (.cells #[.string (str x.s), .string (str x.k), .string (str x.v), .int .i64 x.n] 30)))
                  go_wp2_with (at_builtin; refine wpList_append_lines (by rfl) _ _ rfl w1.heap.size _ o [x] (by rfl) HO8.out.1 (some ⟨wr.heap.size, 0, none⟩) 1 1 (wr.heap.size + 1) (by rfl) (one_lines HN8.out) (fun e => by cases e) (by omega) HO8.out.2.size ?_; intro v' w4 hown4 hg4; have HO4 := Lib.hid (HO8.out.grown hown4 hg4); clear hown4 hg4)
                  go_roundw
                  case rel => exact ⟨k + 1, o ++ [x], by omega, by go_num, by simp; omega, by show _ = _; rw [HE.out, HNX.out]; simp, HO4⟩
                  case measure => simp [intOf]; omega
            · go_wp2_with fail
              have HCA : Hid (∀ wy, Below (W2.alloc (.cells #[.string (str r.s), .string (str r.n), .int .i64 r.f, .bool noKy.l, .int .i64 r.k, .slice r.A r.m r.c] 33)).heap.size (W2.alloc (.cells #[.string (str r.s), .string (str r.n), .int .i64 r.f, .bool noKy.l, .int .i64 r.k, .slice r.A r.m r.c] 33)) wy → ∀ m, m < n - (k + 1) → ∃ y, R[m]? = some y ∧ LnCell wy ((ad.add ((k + 1) * 4)).add (m * 4)) y) := by
                intro wy hwy m hm
                obtain ⟨ad', y, e, hab', hy, hc⟩ := (HL.out.below (more3 HO3.out.2 HO3.out.2.size hwy)).at_ (k := k + 1 + m) (by omega)
                cases e
                refine ⟨y, by rw [HRR.out, List.getElem?_drop]; exact hy, ?_⟩
                rw [add_addL, show (k + 1) * 4 + m * 4 = (k + 1 + m) * 4 by omega]
                exact hc
              generalize W2.alloc (.cells #[.string (str r.s), .string (str r.n), .int .i64 r.f, .bool noKy.l, .int .i64 r.k, .slice r.A r.m r.c] 33) = W3 at *
              generalize ad.add ((k + 1) * 4) = AD at *
              have HC := HCA
              go_loopw [11, 56] (fun v i wr => ∃ (m : Nat) (bb : Bool), m ≤ n - (k + 1) ∧ i = .int .i64 m ∧ v = .bool bb ∧ Hid (bb = (stayT x && !((R.take m).any (overB keyB clsB empB x)))) ∧ Hid (Below W3.heap.size W3 wr)) (fun _ i _ => (n - (k + 1)) - (intOf i).toNat)
              case atStart => exact ⟨0, _, Nat.zero_le _, rfl, rfl, by show _ = _; rw [HST.out]; simp, Below.refl _ _⟩
              case round =>
                obtain ⟨m, bb, hm, rfl, rfl, HBB, HW⟩ := hrel
                by_cases hl2 : m < n - (k + 1)
                · have c0 : (0 : Int) ≤ (m : Int) := by omega
                  have c1 : (m : Int) < ((n - (k + 1) : Nat) : Int) := by omega
                  obtain ⟨y, hy, p0, p1, p2, p3⟩ := HC.out wr HW.out m hl2
                  have e0 : wr.cell? ⟨wr0.heap.size, 0, none⟩ = some (.string (str x.s)) := (HE3.out.below HW.out HE3.out.lt).cell 0
                  have e1 : wr.cell? ⟨wr0.heap.size, 1, none⟩ = some (.string (str x.k)) := (HE3.out.below HW.out HE3.out.lt).cell 1
                  have k3 : wr.cell? ⟨W2.heap.size, 3, none⟩ = some (.bool noKy.l) := (HK2.out.below HW.out HK2.out.lt).cell 3
                  have zz0 : wr0.heap.size < wr.heap.size := by have := HW.out.size; omega
                  have zz1 : W2.heap.size < wr.heap.size := by have := HW.out.size; omega
                  have hs := eqs_str y.s x.s
                  have hq := eqs_str y.k x.k
                  have hv := emp_str y.v
                  have hov := overT_is x y
                  rw [ho] at hov
                  replace hov : overB keyB clsB empB x y = false := by rw [hov]; rfl
                  have HT2 := Lib.hid (anyl_take hy hov)
                  clear hy hov
                  go_wp2_with fail
                  go_roundw
                  case rel => exact ⟨m + 1, bb, by omega, by go_num, rfl, by show _ = _; rw [HBB.out, HT2.out, Bool.or_false], HW.out.alloc HW.out.size _⟩
                  case measure => simp [intOf]; omega
                · have hm0 : m = n - (k + 1) := by omega
                  have HBE : Hid (bb = (stayT x && !(R.any (overB keyB clsB empB x)))) := by
                    show _ = _
                    rw [HBB.out, List.take_of_length_le (by rw [HRL.out]; omega)]
                  have HOx := Lib.hid (HO3.out.next HW.out)
                  have HEx := Lib.hid (HE3.out.below HW.out HE3.out.lt)
                  clear HBB HW
                  rcases bb with _ | _
                  · have HNX : Hid (blendT (L.drop k) = blendT (L.drop (k + 1))) := by
                      show _ = _
                      rw [HX.out, ← HRR.out]
                      exact blend_no HBE.out
                    go_wp2_with fail
                    go_roundw
                    case rel => exact ⟨k + 1, o, by omega, by go_num, by omega, by show _ = _; rw [HE.out, HNX.out], HOx⟩
                    case measure => simp [intOf]; omega
                  · have HNX : Hid (blendT (L.drop k) = x :: blendT (L.drop (k + 1))) := by
                      show _ = _
                      rw [HX.out, ← HRR.out]
                      exact blend_yes HBE.out
                    have e0 : wr.cell? ⟨wr0.heap.size, 0, none⟩ = some (.string (str x.s)) := HEx.out.cell 0
                    have e1 : wr.cell? ⟨wr0.heap.size, 1, none⟩ = some (.string (str x.k)) := HEx.out.cell 1
                    have e2 : wr.cell? ⟨wr0.heap.size, 2, none⟩ = some (.string (str x.v)) := HEx.out.cell 2
                    have e3 : wr.cell? ⟨wr0.heap.size, 3, none⟩ = some (.int .i64 x.n) := HEx.out.cell 3
                    have HN8 := Lib.hid (Blk.new wr 30 #[.string (str x.s), .string (str x.k), .string (str x.v), .int .i64 x.n])
                    have HO8 := Lib.hid (HOx.out.next ((Below.refl _ wr).alloc (Nat.le_refl _) (.cells #[.string (str x.s), .string (str x.k), .string (str x.v), .int .i64 x.n] 30)))
                    go_wp2_with (at_builtin; refine wpList_append_lines (by rfl) _ _ rfl w1.heap.size _ o [x] (by rfl) HO8.out.1 (some ⟨wr.heap.size, 0, none⟩) 1 1 (wr.heap.size + 1) (by rfl) (one_lines HN8.out) (fun e => by cases e) (by omega) HO8.out.2.size ?_; intro v' w4 hown4 hg4; have HO4 := Lib.hid (HO8.out.grown hown4 hg4); clear hown4 hg4)
                    go_roundw
                    case rel => exact ⟨k + 1, o ++ [x], by omega, by go_num, by simp; omega, by show _ = _; rw [HE.out, HNX.out]; simp, HO4⟩
                    case measure => simp [intOf]; omega
          · rw [show (some y0 : Option Ky).isSome = true from rfl]
            rw [ho] at hrl
            simp only [Option.getD_some] at hrl
            rw [hrl] at HK2 HE3 HO3 hz3
            rw [hrl]
            rcases hyl : y0.l with _ | _
            · rw [hyl] at HK2 HE3 HO3 hz3
              have HST : Hid (stayT x = true) := by show _ = _; rw [hSt.out]; unfold clsB; rw [ho]; simp [hyl]
              clear hSt hrl hem
              by_cases hca : ca = k + 1
              · have hnk : n - (k + 1) = 0 := by omega
                subst hca
                go_wp2_with fail
                generalize W2.alloc (.cells #[.string (str r.s), .string (str r.n), .int .i64 r.f, .bool false, .int .i64 r.k, .slice r.A r.m r.c] 33) = W3 at *
                go_loopw [11, 56] (fun v i wr => ∃ (m : Nat) (bb : Bool), m ≤ n - (k + 1) ∧ i = .int .i64 m ∧ v = .bool bb ∧ Hid (bb = (stayT x && !((R.take m).any (overB keyB clsB empB x)))) ∧ Hid (Below W3.heap.size W3 wr)) (fun _ i _ => (n - (k + 1)) - (intOf i).toNat)
                case atStart => exact ⟨0, _, Nat.zero_le _, rfl, rfl, by show _ = _; rw [HST.out]; simp, Below.refl _ _⟩
                case round =>
                  obtain ⟨m, bb, hm, rfl, rfl, HBB, HW⟩ := hrel
                  have hm0 : m = n - (k + 1) := by omega
                  have HBE : Hid (bb = (stayT x && !(R.any (overB keyB clsB empB x)))) := by
                    show _ = _
                    rw [HBB.out, List.take_of_length_le (by rw [HRL.out]; omega)]
                  have HOx := Lib.hid (HO3.out.next HW.out)
                  have HEx := Lib.hid (HE3.out.below HW.out HE3.out.lt)
                  clear HBB HW
                  rcases bb with _ | _
                  · have HNX : Hid (blendT (L.drop k) = blendT (L.drop (k + 1))) := by
                      show _ = _
                      rw [HX.out, ← HRR.out]
                      exact blend_no HBE.out
                    go_wp2_with fail
                    go_roundw
                    case rel => exact ⟨k + 1, o, by omega, by go_num, by omega, by show _ = _; rw [HE.out, HNX.out], HOx⟩
                    case measure => simp [intOf]; omega
                  · have HNX : Hid (blendT (L.drop k) = x :: blendT (L.drop (k + 1))) := by
                      show _ = _
                      rw [HX.out, ← HRR.out]
                      exact blend_yes HBE.out
                    have e0 : wr.cell? ⟨wr0.heap.size, 0, none⟩ = some (.string (str x.s)) := HEx.out.cell 0
                    have e1 : wr.cell? ⟨wr0.heap.size, 1, none⟩ = some (.string (str x.k)) := HEx.out.cell 1
                    have e2 : wr.cell? ⟨wr0.heap.size, 2, none⟩ = some (.string (str x.v)) := HEx.out.cell 2
                    have e3 : wr.cell? ⟨wr0.heap.size, 3, none⟩ = some (.int .i64 x.n) := HEx.out.cell 3
                    have HN8 := Lib.hid (Blk.new wr 30 #[.string (str x.s), .string (str x.k), .string (str x.v), .int .i64 x.n])
                    have HO8 := Lib.hid (HOx.out.next ((Below.refl _ wr).alloc (Nat.le_refl _) (.cells #[.string (str x.s), .string (str x.k), .string (str x.v), .int .i64 x.n] 30)))
                    go_wp2_with (at_builtin; refine wpList_append_lines (by rfl) _ _ rfl w1.heap.size _ o [x] (by rfl) HO8.out.1 (some ⟨wr.heap.size, 0, none⟩) 1 1 (wr.heap.size + 1) (by rfl) (one_lines HN8.out) (fun e => by cases e) (by omega) HO8.out.2.size ?_; intro v' w4 hown4 hg4; have HO4 := Lib.hid (HO8.out.grown hown4 hg4); clear hown4 hg4)
                    go_roundw
                    case rel => exact ⟨k + 1, o ++ [x], by omega, by go_num, by simp; omega, by show _ = _; rw [HE.out, HNX.out]; simp, HO4⟩
                    case measure => simp [intOf]; omega
              · go_wp2_with fail
                have HCA : Hid (∀ wy, Below (W2.alloc (.cells #[.string (str r.s), .string (str r.n), .int .i64 r.f, .bool false, .int .i64 r.k, .slice r.A r.m r.c] 33)).heap.size (W2.alloc (.cells #[.string (str r.s), .string (str r.n), .int .i64 r.f, .bool false, .int .i64 r.k, .slice r.A r.m r.c] 33)) wy → ∀ m, m < n - (k + 1) → ∃ y, R[m]? = some y ∧ LnCell wy ((ad.add ((k + 1) * 4)).add (m * 4)) y) := by
                  intro wy hwy m hm
                  obtain ⟨ad', y, e, hab', hy, hc⟩ := (HL.out.below (more3 HO3.out.2 HO3.out.2.size hwy)).at_ (k := k + 1 + m) (by omega)
                  cases e
                  refine ⟨y, by rw [HRR.out, List.getElem?_drop]; exact hy, ?_⟩
                  rw [add_addL, show (k + 1) * 4 + m * 4 = (k + 1 + m) * 4 by omega]
                  exact hc
                generalize W2.alloc (.cells #[.string (str r.s), .string (str r.n), .int .i64 r.f, .bool false, .int .i64 r.k, .slice r.A r.m r.c] 33) = W3 at *
                generalize ad.add ((k + 1) * 4) = AD at *
                have HC := HCA
                go_loopw [11, 56] (fun v i wr => ∃ (m : Nat) (bb : Bool), m ≤ n - (k + 1) ∧ i = .int .i64 m ∧ v = .bool bb ∧ Hid (bb = (stayT x && !((R.take m).any (overB keyB clsB empB x)))) ∧ Hid (Below W3.heap.size W3 wr)) (fun _ i _ => (n - (k + 1)) - (intOf i).toNat)
                case atStart => exact ⟨0, _, Nat.zero_le _, rfl, rfl, by show _ = _; rw [HST.out]; simp, Below.refl _ _⟩
                case round =>
                  obtain ⟨m, bb, hm, rfl, rfl, HBB, HW⟩ := hrel
                  by_cases hl2 : m < n - (k + 1)
                  · have c0 : (0 : Int) ≤ (m : Int) := by omega
                    have c1 : (m : Int) < ((n - (k + 1) : Nat) : Int) := by omega
                    obtain ⟨y, hy, p0, p1, p2, p3⟩ := HC.out wr HW.out m hl2
                    have e0 : wr.cell? ⟨wr0.heap.size, 0, none⟩ = some (.string (str x.s)) := (HE3.out.below HW.out HE3.out.lt).cell 0
                    have e1 : wr.cell? ⟨wr0.heap.size, 1, none⟩ = some (.string (str x.k)) := (HE3.out.below HW.out HE3.out.lt).cell 1
                    have k3 : wr.cell? ⟨W2.heap.size, 3, none⟩ = some (.bool false) := (HK2.out.below HW.out HK2.out.lt).cell 3
                    have zz0 : wr0.heap.size < wr.heap.size := by have := HW.out.size; omega
                    have zz1 : W2.heap.size < wr.heap.size := by have := HW.out.size; omega
                    have hs := eqs_str y.s x.s
                    have hq := eqs_str y.k x.k
                    have hv := emp_str y.v
                    have hov := overT_is x y
                    rw [ho] at hov
                    rcases hd1 : decide (y.s = x.s) with _ | _
                    · rw [hd1] at hs hov
                      replace hov : overB keyB clsB empB x y = false := by rw [hov]; simp
                      clear hd1
                      have HT2 := Lib.hid (anyl_take hy hov)
                      clear hy hov
                      go_wp2_with fail
                      go_roundw
                      case rel => exact ⟨m + 1, bb, by omega, by go_num, rfl, by show _ = _; rw [HBB.out, HT2.out, Bool.or_false], HW.out.alloc HW.out.size _⟩
                      case measure => simp [intOf]; omega
                    · rw [hd1] at hs hov
                      rcases hd2 : decide (y.k = x.k) with _ | _
                      · rw [hd2] at hq hov
                        replace hov : overB keyB clsB empB x y = false := by rw [hov]; simp
                        clear hd1 hd2
                        have HT2 := Lib.hid (anyl_take hy hov)
                        clear hy hov
                        go_wp2_with fail
                        go_roundw
                        case rel => exact ⟨m + 1, bb, by omega, by go_num, rfl, by show _ = _; rw [HBB.out, HT2.out, Bool.or_false], HW.out.alloc HW.out.size _⟩
                        case measure => simp [intOf]; omega
                      · rw [hd2] at hq hov
                        replace hov : overB keyB clsB empB x y = true := by rw [hov]; simp [hyl]
                        clear hd1 hd2
                        have HT2 := Lib.hid (anyl_take hy hov)
                        clear hy hov
                        go_wp2_with fail
                        go_roundw
                        case rel => exact ⟨m + 1, false, by omega, by go_num, rfl, by show _ = _; rw [HT2.out]; simp, HW.out.alloc HW.out.size _⟩
                        case measure => simp [intOf]; omega
                  · have hm0 : m = n - (k + 1) := by omega
                    have HBE : Hid (bb = (stayT x && !(R.any (overB keyB clsB empB x)))) := by
                      show _ = _
                      rw [HBB.out, List.take_of_length_le (by rw [HRL.out]; omega)]
                    have HOx := Lib.hid (HO3.out.next HW.out)
                    have HEx := Lib.hid (HE3.out.below HW.out HE3.out.lt)
                    clear HBB HW
                    rcases bb with _ | _
                    · have HNX : Hid (blendT (L.drop k) = blendT (L.drop (k + 1))) := by
                        show _ = _
                        rw [HX.out, ← HRR.out]
                        exact blend_no HBE.out
                      go_wp2_with fail
                      go_roundw
                      case rel => exact ⟨k + 1, o, by omega, by go_num, by omega, by show _ = _; rw [HE.out, HNX.out], HOx⟩
                      case measure => simp [intOf]; omega
                    · have HNX : Hid (blendT (L.drop k) = x :: blendT (L.drop (k + 1))) := by
                        show _ = _
                        rw [HX.out, ← HRR.out]
                        exact blend_yes HBE.out
                      have e0 : wr.cell? ⟨wr0.heap.size, 0, none⟩ = some (.string (str x.s)) := HEx.out.cell 0
                      have e1 : wr.cell? ⟨wr0.heap.size, 1, none⟩ = some (.string (str x.k)) := HEx.out.cell 1
                      have e2 : wr.cell? ⟨wr0.heap.size, 2, none⟩ = some (.string (str x.v)) := HEx.out.cell 2
                      have e3 : wr.cell? ⟨wr0.heap.size, 3, none⟩ = some (.int .i64 x.n) := HEx.out.cell 3
                      have HN8 := Lib.hid (Blk.new wr 30 #[.string (str x.s), .string (str x.k), .string (str x.v), .int .i64 x.n])
                      have HO8 := Lib.hid (HOx.out.next ((Below.refl _ wr).alloc (Nat.le_refl _) (.cells #[.string (str x.s), .string (str x.k), .string (str x.v), .int .i64 x.n] 30)))
                      go_wp2_with (at_builtin; refine wpList_append_lines (by rfl) _ _ rfl w1.heap.size _ o [x] (by rfl) HO8.out.1 (some ⟨wr.heap.size, 0, none⟩) 1 1 (wr.heap.size + 1) (by rfl) (one_lines HN8.out) (fun e => by cases e) (by omega) HO8.out.2.size ?_; intro v' w4 hown4 hg4; have HO4 := Lib.hid (HO8.out.grown hown4 hg4); clear hown4 hg4)
                      go_roundw
                      case rel => exact ⟨k + 1, o ++ [x], by omega, by go_num, by simp; omega, by show _ = _; rw [HE.out, HNX.out]; simp, HO4⟩
                      case measure => simp [intOf]; omega
            · rw [hyl] at HK2 HE3 HO3 hz3
              obtain ⟨em, hm⟩ : ∃ em, decide (x.v = []) = em := ⟨_, rfl⟩
              have HST : Hid (stayT x = !em) := by show _ = _; rw [hSt.out]; unfold clsB; rw [ho, hm]; simp [hyl]
              rw [hm] at hem
              clear hSt hrl hm
              by_cases hca : ca = k + 1
              · have hnk : n - (k + 1) = 0 := by omega
                subst hca
                go_wp2_with fail
                generalize W2.alloc (.cells #[.string (str r.s), .string (str r.n), .int .i64 r.f, .bool true, .int .i64 r.k, .slice r.A r.m r.c] 33) = W3 at *
                go_loopw [11, 56] (fun v i wr => ∃ (m : Nat) (bb : Bool), m ≤ n - (k + 1) ∧ i = .int .i64 m ∧ v = .bool bb ∧ Hid (bb = (stayT x && !((R.take m).any (overB keyB clsB empB x)))) ∧ Hid (Below W3.heap.size W3 wr)) (fun _ i _ => (n - (k + 1)) - (intOf i).toNat)
                case atStart => exact ⟨0, _, Nat.zero_le _, rfl, rfl, by show _ = _; rw [HST.out]; simp, Below.refl _ _⟩
                case round =>
                  obtain ⟨m, bb, hm, rfl, rfl, HBB, HW⟩ := hrel
                  have hm0 : m = n - (k + 1) := by omega
                  have HBE : Hid (bb = (stayT x && !(R.any (overB keyB clsB empB x)))) := by
                    show _ = _
                    rw [HBB.out, List.take_of_length_le (by rw [HRL.out]; omega)]
                  have HOx := Lib.hid (HO3.out.next HW.out)
                  have HEx := Lib.hid (HE3.out.below HW.out HE3.out.lt)
                  clear HBB HW
                  rcases bb with _ | _
                  · have HNX : Hid (blendT (L.drop k) = blendT (L.drop (k + 1))) := by
                      show _ = _
                      rw [HX.out, ← HRR.out]
                      exact blend_no HBE.out
                    go_wp2_with fail
                    go_roundw
                    case rel => exact ⟨k + 1, o, by omega, by go_num, by omega, by show _ = _; rw [HE.out, HNX.out], HOx⟩
                    case measure => simp [intOf]; omega
                  · have HNX : Hid (blendT (L.drop k) = x :: blendT (L.drop (k + 1))) := by
                      show _ = _
                      rw [HX.out, ← HRR.out]
                      exact blend_yes HBE.out
                    have e0 : wr.cell? ⟨wr0.heap.size, 0, none⟩ = some (.string (str x.s)) := HEx.out.cell 0
                    have e1 : wr.cell? ⟨wr0.heap.size, 1, none⟩ = some (.string (str x.k)) := HEx.out.cell 1
                    have e2 : wr.cell? ⟨wr0.heap.size, 2, none⟩ = some (.string (str x.v)) := HEx.out.cell 2
                    have e3 : wr.cell? ⟨wr0.heap.size, 3, none⟩ = some (.int .i64 x.n) := HEx.out.cell 3
                    have HN8 := Lib.hid (Blk.new wr 30 #[.string (str x.s), .string (str x.k), .string (str x.v), .int .i64 x.n])
                    have HO8 := Lib.hid (HOx.out.next ((Below.refl _ wr).alloc (Nat.le_refl _) (.cells #[.string (str x.s), .string (str x.k), .string (str x.v), .int .i64 x.n] 30)))
                    go_wp2_with (at_builtin; refine wpList_append_lines (by rfl) _ _ rfl w1.heap.size _ o [x] (by rfl) HO8.out.1 (some ⟨wr.heap.size, 0, none⟩) 1 1 (wr.heap.size + 1) (by rfl) (one_lines HN8.out) (fun e => by cases e) (by omega) HO8.out.2.size ?_; intro v' w4 hown4 hg4; have HO4 := Lib.hid (HO8.out.grown hown4 hg4); clear hown4 hg4)
                    go_roundw
                    case rel => exact ⟨k + 1, o ++ [x], by omega, by go_num, by simp; omega, by show _ = _; rw [HE.out, HNX.out]; simp, HO4⟩
                    case measure => simp [intOf]; omega
              · go_wp2_with fail
                have HCA : Hid (∀ wy, Below (W2.alloc (.cells #[.string (str r.s), .string (str r.n), .int .i64 r.f, .bool true, .int .i64 r.k, .slice r.A r.m r.c] 33)).heap.size (W2.alloc (.cells #[.string (str r.s), .string (str r.n), .int .i64 r.f, .bool true, .int .i64 r.k, .slice r.A r.m r.c] 33)) wy → ∀ m, m < n - (k + 1) → ∃ y, R[m]? = some y ∧ LnCell wy ((ad.add ((k + 1) * 4)).add (m * 4)) y) := by
                  intro wy hwy m hm
                  obtain ⟨ad', y, e, hab', hy, hc⟩ := (HL.out.below (more3 HO3.out.2 HO3.out.2.size hwy)).at_ (k := k + 1 + m) (by omega)
                  cases e
                  refine ⟨y, by rw [HRR.out, List.getElem?_drop]; exact hy, ?_⟩
                  rw [add_addL, show (k + 1) * 4 + m * 4 = (k + 1 + m) * 4 by omega]
                  exact hc
                generalize W2.alloc (.cells #[.string (str r.s), .string (str r.n), .int .i64 r.f, .bool true, .int .i64 r.k, .slice r.A r.m r.c] 33) = W3 at *
                generalize ad.add ((k + 1) * 4) = AD at *
                have HC := HCA
                go_loopw [11, 56] (fun v i wr => ∃ (m : Nat) (bb : Bool), m ≤ n - (k + 1) ∧ i = .int .i64 m ∧ v = .bool bb ∧ Hid (bb = (stayT x && !((R.take m).any (overB keyB clsB empB x)))) ∧ Hid (Below W3.heap.size W3 wr)) (fun _ i _ => (n - (k + 1)) - (intOf i).toNat)
                case atStart => exact ⟨0, _, Nat.zero_le _, rfl, rfl, by show _ = _; rw [HST.out]; simp, Below.refl _ _⟩
                case round =>
                  obtain ⟨m, bb, hm, rfl, rfl, HBB, HW⟩ := hrel
                  by_cases hl2 : m < n - (k + 1)
                  · have c0 : (0 : Int) ≤ (m : Int) := by omega
                    have c1 : (m : Int) < ((n - (k + 1) : Nat) : Int) := by omega
                    obtain ⟨y, hy, p0, p1, p2, p3⟩ := HC.out wr HW.out m hl2
                    have e0 : wr.cell? ⟨wr0.heap.size, 0, none⟩ = some (.string (str x.s)) := (HE3.out.below HW.out HE3.out.lt).cell 0
                    have e1 : wr.cell? ⟨wr0.heap.size, 1, none⟩ = some (.string (str x.k)) := (HE3.out.below HW.out HE3.out.lt).cell 1
                    have k3 : wr.cell? ⟨W2.heap.size, 3, none⟩ = some (.bool true) := (HK2.out.below HW.out HK2.out.lt).cell 3
                    have zz0 : wr0.heap.size < wr.heap.size := by have := HW.out.size; omega
                    have zz1 : W2.heap.size < wr.heap.size := by have := HW.out.size; omega
                    have hs := eqs_str y.s x.s
                    have hq := eqs_str y.k x.k
                    have hv := emp_str y.v
                    have hov := overT_is x y
                    rw [ho] at hov
                    rcases hd1 : decide (y.s = x.s) with _ | _
                    · rw [hd1] at hs hov
                      replace hov : overB keyB clsB empB x y = false := by rw [hov]; simp
                      clear hd1
                      have HT2 := Lib.hid (anyl_take hy hov)
                      clear hy hov
                      go_wp2_with fail
                      go_roundw
                      case rel => exact ⟨m + 1, bb, by omega, by go_num, rfl, by show _ = _; rw [HBB.out, HT2.out, Bool.or_false], HW.out.alloc HW.out.size _⟩
                      case measure => simp [intOf]; omega
                    · rw [hd1] at hs hov
                      rcases hd2 : decide (y.k = x.k) with _ | _
                      · rw [hd2] at hq hov
                        replace hov : overB keyB clsB empB x y = false := by rw [hov]; simp
                        clear hd1 hd2
                        have HT2 := Lib.hid (anyl_take hy hov)
                        clear hy hov
                        go_wp2_with fail
                        go_roundw
                        case rel => exact ⟨m + 1, bb, by omega, by go_num, rfl, by show _ = _; rw [HBB.out, HT2.out, Bool.or_false], HW.out.alloc HW.out.size _⟩
                        case measure => simp [intOf]; omega
                      · rw [hd2] at hq hov
                        rcases hd3 : decide (y.v = []) with _ | _
                        · rw [hd3] at hv hov
                          replace hov : overB keyB clsB empB x y = false := by rw [hov]; simp [hyl]
                          clear hd1 hd2 hd3
                          have HT2 := Lib.hid (anyl_take hy hov)
                          clear hy hov
                          go_wp2_with fail
                          go_roundw
                          case rel => exact ⟨m + 1, bb, by omega, by go_num, rfl, by show _ = _; rw [HBB.out, HT2.out, Bool.or_false], HW.out.alloc HW.out.size _⟩
                          case measure => simp [intOf]; omega
                        · rw [hd3] at hv hov
                          replace hov : overB keyB clsB empB x y = true := by rw [hov]; simp
                          clear hd1 hd2 hd3
                          have HT2 := Lib.hid (anyl_take hy hov)
                          clear hy hov
                          go_wp2_with fail
                          go_roundw
                          case rel => exact ⟨m + 1, false, by omega, by go_num, rfl, by show _ = _; rw [HT2.out]; simp, HW.out.alloc HW.out.size _⟩
                          case measure => simp [intOf]; omega
                  · have hm0 : m = n - (k + 1) := by omega
                    have HBE : Hid (bb = (stayT x && !(R.any (overB keyB clsB empB x)))) := by
                      show _ = _
                      rw [HBB.out, List.take_of_length_le (by rw [HRL.out]; omega)]
                    have HOx := Lib.hid (HO3.out.next HW.out)
                    have HEx := Lib.hid (HE3.out.below HW.out HE3.out.lt)
                    clear HBB HW
                    rcases bb with _ | _
                    · have HNX : Hid (blendT (L.drop k) = blendT (L.drop (k + 1))) := by
                        show _ = _
                        rw [HX.out, ← HRR.out]
                        exact blend_no HBE.out
                      go_wp2_with fail
                      go_roundw
                      case rel => exact ⟨k + 1, o, by omega, by go_num, by omega, by show _ = _; rw [HE.out, HNX.out], HOx⟩
                      case measure => simp [intOf]; omega
                    · have HNX : Hid (blendT (L.drop k) = x :: blendT (L.drop (k + 1))) := by
                        show _ = _
                        rw [HX.out, ← HRR.out]
                        exact blend_yes HBE.out
                      have e0 : wr.cell? ⟨wr0.heap.size, 0, none⟩ = some (.string (str x.s)) := HEx.out.cell 0
                      have e1 : wr.cell? ⟨wr0.heap.size, 1, none⟩ = some (.string (str x.k)) := HEx.out.cell 1
                      have e2 : wr.cell? ⟨wr0.heap.size, 2, none⟩ = some (.string (str x.v)) := HEx.out.cell 2
                      have e3 : wr.cell? ⟨wr0.heap.size, 3, none⟩ = some (.int .i64 x.n) := HEx.out.cell 3
                      have HN8 := Lib.hid (Blk.new wr 30 #[.string (str x.s), .string (str x.k), .string (str x.v), .int .i64 x.n])
                      have HO8 := Lib.hid (HOx.out.next ((Below.refl _ wr).alloc (Nat.le_refl _) (.cells #[.string (str x.s), .string (str x.k), .string (str x.v), .int .i64 x.n] 30)))
                      go_wp2_with (at_builtin; refine wpList_append_lines (by rfl) _ _ rfl w1.heap.size _ o [x] (by rfl) HO8.out.1 (some ⟨wr.heap.size, 0, none⟩) 1 1 (wr.heap.size + 1) (by rfl) (one_lines HN8.out) (fun e => by cases e) (by omega) HO8.out.2.size ?_; intro v' w4 hown4 hg4; have HO4 := Lib.hid (HO8.out.grown hown4 hg4); clear hown4 hg4)
                      go_roundw
                      case rel => exact ⟨k + 1, o ++ [x], by omega, by go_num, by simp; omega, by show _ = _; rw [HE.out, HNX.out]; simp, HO4⟩
                      case measure => simp [intOf]; omega
        · obtain rfl : k = n := by omega
          have hle : blendT L = o := by
            rw [HE.out, List.drop_of_length_le (by have := HLL.out; omega)]
            simp [blendT, blendR]
          obtain ⟨Ao, co, rfl, hLo, hnil, hcap⟩ := HO.out.at_ (by unfold maxLen; omega)
          have HLo := Lib.hid hLo
          rw [← hle] at HLo
          have HNI := Lib.hid hnil
          have HCP := Lib.hid hcap
          clear hLo hnil hcap
          go_wp2_with fail
          go_ret
          exact ⟨Ao, _, co, rfl, by rw [HLF.out, hle]; rw [hle] at HLo; exact HLo.out, more3 HBW.out HBW.out.size HO.out.2, HNI.out, HCP.out⟩
end Go.Proofs.Ytfjfhbmbngogpaa
