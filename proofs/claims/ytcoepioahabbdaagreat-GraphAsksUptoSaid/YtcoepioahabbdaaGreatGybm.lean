/- The library's Compact at edges, on a row of the call's own. -/
import Derived.Test.YtcoepioahabbdaaGreatGybl
import Derived.BigQuiet
namespace Go.Proofs.YtcoepioahabbdaaGreat
open Go.RowKit
def cpStep (m : List Ed) (x : Ed) : List Ed := if m.getLast? = some x then m else m ++ [x]
def cptE (l : List Ed) : List Ed := l.foldl cpStep []
theorem cpt_snoc (l : List Ed) (x : Ed) : cptE (l ++ [x]) = cpStep (cptE l) x := by unfold cptE; rw [List.foldl_append]; rfl
theorem cpt_last (l : List Ed) (x : Ed) : (cptE (l ++ [x])).getLast? = some x := by
  rw [cpt_snoc]
  unfold cpStep
  split
  · assumption
  · simp
theorem cpt_mem (l : List Ed) : ∀ y, y ∈ cptE l ↔ y ∈ l := by
  have key : ∀ n (l : List Ed), l.length = n → ∀ y, y ∈ cptE l ↔ y ∈ l := fun n => by
    induction n with
    | zero =>
      intro l hl y
      rw [List.eq_nil_of_length_eq_zero hl]
      exact Iff.rfl
    | succ n ih =>
      intro l hl y
      have hne : l ≠ [] := by intro e; subst e; cases hl
      obtain ⟨p, x, rfl⟩ : ∃ p x, l = p ++ [x] := ⟨l.dropLast, l.getLast hne, (List.dropLast_concat_getLast hne).symm⟩
      have hp : p.length = n := by simp at hl; exact hl
      rw [cpt_snoc]
      unfold cpStep
      split
      · rename_i h
        have hx := List.mem_of_getLast? h
        rw [ih p hp y, List.mem_append, List.mem_singleton]
        constructor
        · exact .inl
        · rintro (h1 | rfl)
          · exact h1
          · exact (ih p hp y).1 hx
      · rw [List.mem_append, List.mem_append, ih p hp y]
  exact key l.length l rfl
theorem cpt_rises (l : List Ed) : weakE l → (cptE l).Pairwise ltE := by
  have key : ∀ n (l : List Ed), l.length = n → weakE l → (cptE l).Pairwise ltE := fun n => by
    induction n with
    | zero =>
      intro l hl _
      rw [List.eq_nil_of_length_eq_zero hl]
      exact List.Pairwise.nil
    | succ n ih =>
      intro l hl hw
      have hne : l ≠ [] := by intro e; subst e; cases hl
      obtain ⟨p, x, rfl⟩ : ∃ p x, l = p ++ [x] := ⟨l.dropLast, l.getLast hne, (List.dropLast_concat_getLast hne).symm⟩
      have hp : p.length = n := by simp at hl; exact hl
      obtain ⟨w1, _, w3⟩ := List.pairwise_append.1 hw
      have hr := ih p hp w1
      rw [cpt_snoc]
      unfold cpStep
      split
      · exact hr
      · rename_i h
        refine List.pairwise_append.2 ⟨hr, List.pairwise_singleton _ _, fun y hy z hz => ?_⟩
        rw [List.mem_singleton] at hz
        subst hz
        have hyp : ¬ ltE z y := w3 y ((cpt_mem p y).1 hy) z (by simp)
        rcases linE.tri y z with k | k | k
        · exact k
        · subst k
          have hne2 : cptE p ≠ [] := by intro e; rw [e] at hy; cases hy
          have hlast : (cptE p).getLast? = some ((cptE p).getLast hne2) := List.getLast?_eq_some_getLast hne2
          have hz2 : (cptE p).getLast hne2 ≠ y := fun e => h (by rw [hlast, e])
          have hlt : ltE y ((cptE p).getLast hne2) := by
            obtain ⟨q, hq⟩ : ∃ q, cptE p = q ++ [(cptE p).getLast hne2] := ⟨(cptE p).dropLast, (List.dropLast_concat_getLast hne2).symm⟩
            have hr2 := hr
            rw [hq] at hr2
            have hy2 : y ∈ q := by
              rw [hq, List.mem_append, List.mem_singleton] at hy
              rcases hy with hy | hy
              · exact hy
              · exact absurd hy.symm hz2
            exact (List.pairwise_append.1 hr2).2.2 y hy2 _ (by simp)
          exact absurd hlt (w3 _ ((cpt_mem p _).1 (List.getLast_mem hne2)) y (by simp))
        · exact absurd k hyp
  exact key l.length l rfl
theorem take_snoc {l : List Ed} {k : Nat} {x : Ed} (h : l[k]? = some x) : l.take (k + 1) = l.take k ++ [x] := by
  rw [List.take_add_one, h]
  rfl
theorem cpt_take {l : List Ed} {k : Nat} {x y : Ed} (hk : 1 ≤ k) (hx : l[k]? = some x) (hy : l[k - 1]? = some y) : cptE (l.take (k + 1)) = if y = x then cptE (l.take k) else cptE (l.take k) ++ [x] := by
  rw [take_snoc hx, cpt_snoc]
  unfold cpStep
  have : (cptE (l.take k)).getLast? = some y := by
    have := cpt_last (l.take (k - 1)) y
    rw [← take_snoc hy, show k - 1 + 1 = k by omega] at this
    exact this
  rw [this]
  by_cases e : y = x
  · rw [if_pos (by rw [e]), if_pos e]
  · rw [if_neg (fun h => e (Option.some.inj h)), if_neg e]
theorem cpt_one {l : List Ed} (h : 1 ≤ l.length) : cptE (l.take 1) = l.take 1 := by
  cases l with
  | nil => simp at h
  | cons a l => rfl
theorem ed_cells {w : World} {base g n cap : Nat} {l : List Ed} (h : OwnG edLay 58 w base (.slice (some ⟨g, 0, none⟩) n cap) l) {k : Nat} {x : Ed} (hx : l[k]? = some x) : w.cell? ⟨g, k * 3, none⟩ = some (.string (str x.f)) ∧ w.cell? ⟨g, k * 3 + 1, none⟩ = some (.string (str x.t)) ∧ w.cell? ⟨g, k * 3 + 2, none⟩ = some (.int .i64 x.r) := by
  have key : ∀ (i : Nat) (u : Value), (edLay.cs x)[i]? = some u → w.cell? ⟨g, k * 3 + i, none⟩ = some u := fun i u hu => by
    have hi : i < 3 := by
      rcases Nat.lt_or_ge i 3 with h' | h'
      · exact h'
      · rw [List.getElem?_eq_none (by rw [edLay.len]; exact h')] at hu; cases hu
    have e := h.cells (g := g) rfl (k * 3 + i) u ((edLay.all_get l k x hx i hi).trans hu)
    rwa [addA_mk, Nat.zero_add] at e
  exact ⟨key 0 _ rfl, key 1 _ rfl, key 2 _ rfl⟩
theorem own_setE {w : World} {base g n cap : Nat} {l : List Ed} (h : OwnG edLay 58 w base (.slice (some ⟨g, 0, none⟩) n cap) l) {k : Nat} (hk : k < n) (x : Ed) :
    OwnG edLay 58 (w.setCells g (k * 3) [.string (str x.f), .string (str x.t), .int .i64 x.r]) base (.slice (some ⟨g, 0, none⟩) n cap) (l.take k ++ [x] ++ l.drop (k + 1)) ∧ w.grownBy (w.setCells g (k * 3) [.string (str x.f), .string (str x.t), .int .i64 x.r]) (some g) := by
  obtain ⟨rfl, k1, k2, k3, k4, cur, k5, k6, k7⟩ := ownG_form h
  have hz : edLay.sz = 3 := rfl
  have htk : (l.take k).length = k := by rw [List.length_take]; omega
  have hdk : (l.drop (k + 1)).length = l.length - (k + 1) := List.length_drop
  obtain ⟨y, hy⟩ : ∃ y, l[k]? = some y := ⟨_, List.getElem?_eq_getElem hk⟩
  have hly : l = l.take k ++ [y] ++ l.drop (k + 1) := by
    have e : l[k] = y := by rw [List.getElem?_eq_getElem hk] at hy; exact Option.some.inj hy
    rw [List.append_assoc, List.singleton_append, ← e, ← List.drop_eq_getElem_cons hk, List.take_append_drop]
  have hlen : (l.take k ++ [x] ++ l.drop (k + 1)).length = l.length := by simp only [List.length_append, htk, hdk, List.length_singleton]; omega
  have o1 := own_over h (k * 3) [.string (str x.f), .string (str x.t), .int .i64 x.r] (l.take k ++ [x] ++ l.drop (k + 1)) (by rw [hlen]; exact k3) (by rw [hz]; simp only [List.length_cons, List.length_nil]; omega)
    (fun j u hj hjo => by
      simp only [List.length_cons, List.length_nil] at hjo
      rw [all_three, htk, List.length_singleton, hz] at hj
      conv => lhs; rw [hly]
      rw [all_three, htk, List.length_singleton, hz]
      split at hj
      · rename_i h1; rw [if_pos h1]; exact hj
      · rename_i h1
        split at hj
        · rename_i h2; omega
        · rename_i h2; rw [if_neg h1, if_neg h2]; exact hj)
    (fun j u hj hjl => by
      simp only [List.length_cons, List.length_nil] at hjl
      rw [all_three, htk, List.length_singleton, hz, if_neg (by omega), if_pos (by omega), Nat.add_sub_cancel_left] at hj
      simpa [Lay.all, edLay] using hj)
  rw [hlen] at o1
  exact o1
theorem wpList_clear_run {P : Program} (w : World) {ops : Array Oper} {rest : List Oper} {o : Oper} {a : Act} {Q : Exit → Act → World → Prop} (hgd : o.guard = none) (s : Operand) (t : TypeId)
    (ho : o.op = .call { callee := .builtin .clear, args := #[s], argTypes := #[t] }) (v : Value) (hs : a.eval s = v) {v' : Value} {w' : World}
    (hr : (Builtin.clear_ #[t] o.type #[v]).run P w = .ok v' w') (h : wpList P ops Q rest (a.put o.dst v') w') : wpList P ops Q (o :: rest) a w :=
  wpList_plain hgd fun _ hK => by
    unfold Oper.wp execOp
    simp only [ho, resolve, invoke, builtin, Sem.run_bind, Sem.run_pure, Result.andThen_ok, List.map_toArray, List.map_cons, List.map_nil, hs, hr]
    exact hK _ _ h
theorem drop_app {α : Type} {a b : List α} {m d : Nat} (h : a.length = m) : (a ++ b).drop (m + d) = b.drop d := by rw [← List.drop_drop, List.drop_left' h]
def CompPost (base : Nat) (l : List Ed) (w : World) (v : Value) (e : Ending) (w' : World) : Prop := ∃ v', e = .returned v' ∧ OwnG edLay 58 w' base v' (cptE l) ∧ w.grownBy w' v.ownBlock
theorem edZero (w : World) : (zeroValue 58).run Tryz.prog w = .ok (.agg #[.string ⟨#[]⟩, .string ⟨#[]⟩, .int .i64 0]) w := by kernel_rfl
theorem eqE_at (x y : Ed) (b : Bool) (h : b = decide (x = y)) : (∀ W, (binOp .eql 58 (.agg #[.string (str x.f), .string (str x.t), .int .i64 x.r]) (.agg #[.string (str y.f), .string (str y.t), .int .i64 y.r])).run Tryz.prog W = .ok (.bool b) W) ∧ (∀ W, (binOp .neq 58 (.agg #[.string (str x.f), .string (str x.t), .int .i64 x.r]) (.agg #[.string (str y.f), .string (str y.t), .int .i64 y.r])).run Tryz.prog W = .ok (.bool (!b)) W) := by
  have e : (((str x.f).toList == (str y.f).toList) && (((str x.t).toList == (str y.t).toList) && (x.r == y.r))) = b := by
    rw [eqT_str, eqT_str, h, Bool.eq_iff_iff]
    obtain ⟨x1, x2, x3⟩ := x
    obtain ⟨y1, y2, y3⟩ := y
    simp
  exact ⟨fun W => by rw [run_eql_edge, e], fun W => by rw [run_neq_edge, e]⟩
set_option maxRecDepth 10000 in
set_option maxHeartbeats 16000000 in
theorem compE_any (base : Nat) (v : Value) (l : List Ed) (w : World) (h : OwnG edLay 58 w base v l) (hl : l.length ≤ 1099511627776) (_hbase : base ≤ w.heap.size) :
    Calls Tryz.prog 33 #[v] w (CompPost base l w v) := by
  unfold CompPost
  by_cases h2 : l.length < 2
  · have hc : cptE l = l := by
      match l, h2 with
      | [], _ => rfl
      | [a], _ => rfl
      | _ :: _ :: _, h2 => simp at h2; omega
    rw [hc]
    obtain ⟨A, c, rfl, _, _, _, _⟩ := h.slice (by unfold maxLen; omega)
    have HO := Lib.hid h
    have z2 : (l.length : Int) < 2 := by omega
    clear h hc h2
    go_enter Tryz.func33, Tryz.ntmps33
    go_wp2_with fail
    go_ret
    exact ⟨_, rfl, HO.out, World.grownBy.refl _ _⟩
  · obtain ⟨g, cap, rfl, hg, hgl, hcap, hcm⟩ := ownG_at h (fun e => h2 (by rw [e]; decide))
    have hcm2 : cap ≤ 9223372036854775807 := by unfold maxLen at hcm; omega
    have HO := Lib.hid h
    have z2 : ¬ ((l.length : Int) < 2) := by omega
    have HC1 : Hid (cptE (l.take 1) = l.take 1) := cpt_one (by omega)
    obtain ⟨n, hn⟩ : ∃ n, l.length = n := ⟨_, rfl⟩
    rw [hn] at HO z2 hcap hl h2
    rw [hn]
    have HN := Lib.hid hn
    clear h hn
    go_enter Tryz.func33, Tryz.ntmps33
    go_wp2_with fail
    go_loopw [3] (fun i wr => ∃ k : Nat, 1 ≤ k ∧ k ≤ n ∧ i = .int .i64 k ∧ Hid (Below w.heap.size w wr) ∧ Hid (cptE (l.take k) = l.take k)) (fun i wr => n - (intOf i).toNat)
    case atStart => exact ⟨1, Nat.le_refl _, by omega, rfl, Below.refl _ _, HC1⟩
    case round =>
      clear HC1
      obtain ⟨k, hk1, hk, rfl, hb, hC⟩ := hrel
      have HOk := Lib.hid (HO.out.below hb.out)
      by_cases hlt : k < n
      · have b0 : (0 : Int) ≤ (k : Int) := by omega
        have b1 : (k : Int) < (n : Int) := by omega
        obtain ⟨x, hx⟩ : ∃ x, l[k]? = some x := ⟨_, List.getElem?_eq_getElem (by rw [HN.out]; exact hlt)⟩
        obtain ⟨y, hy⟩ : ∃ y, l[k - 1]? = some y := ⟨_, List.getElem?_eq_getElem (by rw [HN.out]; omega)⟩
        obtain ⟨q0, q1, q2⟩ := ed_cells HOk.out hx
        obtain ⟨p0, p1, p2⟩ := ed_cells HOk.out hy
        have d0 : (0 : Int) ≤ (k : Int) - 1 := by omega
        have d1 : (k : Int) - 1 < (n : Int) := by omega
        have d2 : ((k : Int) - 1).toNat = k - 1 := by omega
        have HT := Lib.hid (cpt_take hk1 hx hy)
        by_cases hxy : x = y
        · obtain ⟨he, _⟩ := eqE_at x y true (by rw [hxy]; simp)
          have HT2 : Hid (cptE (l.take (k + 1)) = l.take k) := by show _ = _; rw [HT.out, if_pos hxy.symm]; exact hC.out
          have hkc : ¬ (cap = k) := by omega
          clear hxy HT hC hx hy
          go_wp2_with fail
          go_quiet (fail)
          have HB2 := Lib.hid (below_drewN hb.out nq)
          have HO2 : Hid (OwnG edLay 58 (wr.drewN nq) base (.slice (some ⟨g, 0, none⟩) n cap) l) := HOk.out
          obtain ⟨w2, hw2⟩ : ∃ w2, wr.drewN nq = w2 := ⟨_, rfl⟩
          rw [hw2] at HB2 HO2
          clear q0 q1 q2 p0 p1 p2 he hb HOk
          rw [hw2]
          clear hw2
          go_wp2_with fail
          go_loopw [3, 5] (fun a c W => ∃ (kk q : Nat) (xs : List Ed), kk < k + q ∧ 1 ≤ q ∧ k + q ≤ n ∧ 1 ≤ kk ∧ a = .int .i64 kk ∧ c = .int .i64 q ∧ Hid (xs.length = n) ∧ Hid (xs.take kk = cptE (l.take (k + q))) ∧ Hid (xs.drop (k + q - 1) = l.drop (k + q - 1)) ∧ Hid (OwnG edLay 58 W base (.slice (some ⟨g, 0, none⟩) n cap) xs) ∧ Hid (w.grownBy W (some g))) (fun _ c W => n - (intOf c).toNat)
          case atStart => exact ⟨k, 1, l, by omega, Nat.le_refl _, by omega, hk1, rfl, rfl, HN.out, HT2.out.symm, rfl, HO2, grown_of_below HB2.out⟩
          case round =>
            clear HO2 HB2 HT2
            obtain ⟨kk, q, xs, hkq, hq1, hqn, hkk1, rfl, rfl, hXL, hXT, hXD, hX, hG⟩ := hrel
            by_cases hlt2 : q < n - k
            · have b2 : (q : Int) < ((n - k : Nat) : Int) := by omega
              have b3 : (0 : Int) ≤ (q : Int) := by omega
              obtain ⟨x, hx⟩ : ∃ x, l[k + q]? = some x := ⟨_, List.getElem?_eq_getElem (by rw [HN.out]; omega)⟩
              obtain ⟨y, hy⟩ : ∃ y, l[k + q - 1]? = some y := ⟨_, List.getElem?_eq_getElem (by rw [HN.out]; omega)⟩
              have hxs : xs[k + q]? = some x := by
                have e1 : (xs.drop (k + q - 1))[1]? = some x := by rw [hXD.out, List.getElem?_drop, show k + q - 1 + 1 = k + q by omega]; exact hx
                rwa [List.getElem?_drop, show k + q - 1 + 1 = k + q by omega] at e1
              have hys : xs[k + q - 1]? = some y := by
                have e1 : (xs.drop (k + q - 1))[0]? = some y := by rw [hXD.out, List.getElem?_drop]; exact hy
                rwa [List.getElem?_drop] at e1
              obtain ⟨q0, q1, q2⟩ := ed_cells hX.out hxs
              obtain ⟨p0, p1, p2⟩ := ed_cells hX.out hys
              rw [show (k + q) * 3 = k * 3 + q * 3 by omega] at q0 q1 q2
              rw [show (k + q - 1) * 3 = k * 3 + (q - 1) * 3 by omega] at p0 p1 p2
              have d0 : (0 : Int) ≤ (q : Int) - 1 := by omega
              have d1 : (q : Int) - 1 < ((n - k : Nat) : Int) := by omega
              have d2 : ((q : Int) - 1).toNat = q - 1 := by omega
              have HT := Lib.hid (cpt_take (by omega) hx hy)
              have hdr : Hid (xs.drop (k + (q + 1) - 1) = l.drop (k + (q + 1) - 1)) := by
                show _ = _
                rw [show k + (q + 1) - 1 = (k + q - 1) + 1 by omega, ← List.drop_drop, ← List.drop_drop, hXD.out]
              by_cases hxy : x = y
              · obtain ⟨_, he⟩ := eqE_at x y true (by rw [hxy]; simp)
                have HT2 : Hid (xs.take kk = cptE (l.take (k + (q + 1)))) := by show _ = _; rw [show k + (q + 1) = k + q + 1 by omega, HT.out, if_pos hxy.symm]; exact hXT.out
                clear hxy HT hx hy hxs hys hXT hXD
                go_wp2_with fail
                go_quiet (fail)
                go_wp2_with fail
                go_roundw
                case rel => exact ⟨kk, q + 1, xs, by omega, by omega, by omega, hkk1, rfl, by go_num, hXL, HT2, hdr, hX, (grown_trans hG.out (grown_of_below (below_drewN (Below.refl _ wr) nq)))⟩
                case measure => simp [intOf]; omega
              · obtain ⟨_, he⟩ := eqE_at x y false (by simp [hxy])
                have hkn : kk < n := by omega
                have hse := own_setE (w := wr) hX.out hkn x
                have hsp := fun i (hi : i < 3) => own_isSome hX.out (kk * 3 + i) (by show _ < cap * 3; omega)
                obtain ⟨o0, s0⟩ := Option.isSome_iff_exists.1 (hsp 0 (by omega)).1
                obtain ⟨o1, s1⟩ := Option.isSome_iff_exists.1 (hsp 1 (by omega)).1
                obtain ⟨o2, s2⟩ := Option.isSome_iff_exists.1 (hsp 2 (by omega)).1
                have z0 := (hsp 0 (by omega)).2
                have z1 := (hsp 1 (by omega)).2
                have z2' := (hsp 2 (by omega)).2
                rw [Nat.add_zero] at s0 z0
                have e0 : (0 : Int) ≤ (kk : Int) := by omega
                have e1 : (kk : Int) < (n : Int) := by omega
                have htk : (xs.take kk).length = kk := by rw [List.length_take, hXL.out]; omega
                have HXL : Hid ((xs.take kk ++ [x] ++ xs.drop (kk + 1)).length = n) := by
                  have := hXL.out
                  show _ = _
                  simp only [List.length_append, htk, List.length_singleton, List.length_drop]
                  omega
                have HXT : Hid ((xs.take kk ++ [x] ++ xs.drop (kk + 1)).take (kk + 1) = cptE (l.take (k + (q + 1)))) := by
                  show _ = _
                  rw [List.take_left' (by rw [List.length_append, htk, List.length_singleton]), show k + (q + 1) = k + q + 1 by omega, HT.out, if_neg (fun e => hxy e.symm), hXT.out]
                have HXD : Hid ((xs.take kk ++ [x] ++ xs.drop (kk + 1)).drop (k + (q + 1) - 1) = l.drop (k + (q + 1) - 1)) := by
                  show _ = _
                  obtain ⟨d, hd⟩ : ∃ d, k + (q + 1) - 1 = (kk + 1) + d := ⟨k + (q + 1) - 1 - (kk + 1), by omega⟩
                  rw [← hdr.out, hd, drop_app (by rw [List.length_append, htk, List.length_singleton]), List.drop_drop]
                clear hsp hse hxy HT hx hy hxs hys hXT hXD hdr htk
                go_wp2_with fail
                go_quiet (fail)
                have hse := own_setE (w := wr.drewN nq) hX.out hkn x
                have HSE := Lib.hid hse.1
                have HGE := Lib.hid (grown_trans hG.out (grown_trans (grown_of_below (g := g) (below_drewN (Below.refl _ wr) nq)) hse.2))
                clear hse
                go_wp2_with fail
                go_roundw
                case rel => exact ⟨kk + 1, q + 1, _, by omega, by omega, by omega, by omega, by go_num, by go_num, HXL, HXT, HXD, HSE, HGE⟩
                case measure => simp [intOf]; omega
            · obtain rfl : q = n - k := by omega
              have hkn : kk < n := by omega
              have hkc2 : ¬ (cap = kk) := by omega
              have HXT : Hid (xs.take kk = cptE l) := by
                have := hXT.out
                rw [show k + (n - k) = n by omega, show l.take n = l from List.take_of_length_le (by rw [HN.out]; exact Nat.le_refl _)] at this
                exact this
              have hzl : (Builtin.zeroCells #[Value.string ⟨#[]⟩, .string ⟨#[]⟩, .int .i64 0] (n - kk)).size = (n - kk) * 3 := zero_len _ _
              have hsp := fun i (hi : i < cap * 3) => own_isSome hX.out i hi
              have hcl : ∀ ty c, (Builtin.clear_ #[27] ty #[.slice (some ⟨g, kk * 3, none⟩) (n - kk) c]).run Tryz.prog wr = .ok (.tuple #[]) (wr.setCells g (kk * 3) (Builtin.zeroCells #[Value.string ⟨#[]⟩, .string ⟨#[]⟩, .int .i64 0] (n - kk)).toList) := fun ty c =>
                run_clear_k wr 27 58 ty (.agg #[.string ⟨#[]⟩, .string ⟨#[]⟩, .int .i64 0]) Tryz.underlying27 edZero
                  (fun v hv => by
                    simp only [Value.cells, Builtin.zeroCells, Array.toList_map, List.mem_map] at hv
                    obtain ⟨i, _, rfl⟩ := hv
                    have : i % 3 < 3 := Nat.mod_lt _ (by decide)
                    rcases (show i % 3 = 0 ∨ i % 3 = 1 ∨ i % 3 = 2 by omega) with e | e | e <;> simp [e, Value.oneCell'])
                  g (kk * 3) c (by omega) (fun j hj => (hsp (kk * 3 + j) (by have : j < (n - kk) * 3 := hj; omega)).1) (fun j hj => (hsp (kk * 3 + j) (by have : j < (n - kk) * 3 := hj; omega)).2)
              have hfin := own_over hX.out (kk * 3) (Builtin.zeroCells #[Value.string ⟨#[]⟩, .string ⟨#[]⟩, .int .i64 0] (n - kk)).toList (xs.take kk) (by rw [List.length_take]; omega) (by rw [Array.length_toList, hzl]; show _ ≤ cap * 3; omega)
                (fun j u hj hjo => by
                  have happ : edLay.all xs = edLay.all (xs.take kk) ++ edLay.all (xs.drop kk) := by rw [← edLay.all_app, List.take_append_drop]
                  rw [happ, List.getElem?_append_left (by have := all_get_some hj; rw [edLay.all_len]; exact this)]
                  exact hj)
                (fun j u hj _ => by
                  have := all_get_some hj
                  rw [List.length_take, show edLay.sz = 3 from rfl] at this
                  omega)
              have htk : (xs.take kk).length = kk := by rw [List.length_take, hXL.out]; omega
              rw [htk] at hfin
              obtain ⟨W9, hW9⟩ : ∃ W9, wr.setCells g (kk * 3) (Builtin.zeroCells #[Value.string ⟨#[]⟩, .string ⟨#[]⟩, .int .i64 0] (n - kk)).toList = W9 := ⟨_, rfl⟩
              rw [hW9] at hfin hcl
              have HF1 := Lib.hid hfin.1
              have HF2 := Lib.hid (grown_trans hG.out hfin.2)
              have e0 : (0 : Int) ≤ (kk : Int) := by omega
              have e1 : (kk : Int) ≤ (n : Int) := by omega
              have e2 : (kk : Int) ≤ (cap : Int) := by omega
              clear hsp hfin hzl hW9 hXT hXD htk hlt2
              go_wp2_with (at_builtin; refine wpList_clear_run _ rfl _ _ rfl _ rfl (hcl _ _) ?_)
              go_ret
              exact ⟨_, rfl, by rw [← HXT.out]; exact HF1.out, HF2.out⟩
        · obtain ⟨he, _⟩ := eqE_at x y false (by simp [hxy])
          have HT2 : Hid (cptE (l.take (k + 1)) = l.take (k + 1)) := by show _ = _; rw [HT.out, if_neg (fun e => hxy e.symm), hC.out, take_snoc hx]
          clear hxy HT hC hx hy
          go_wp2_with fail
          go_quiet (fail)
          go_wp2_with fail
          go_roundw
          case rel => exact ⟨k + 1, by omega, by omega, by go_num, below_drewN hb.out _, HT2⟩
          case measure => simp [intOf]; omega
      · obtain rfl : k = n := by omega
        have HC : Hid (cptE l = l) := by
          have := hC.out
          rwa [List.take_of_length_le (by rw [HN.out]; exact Nat.le_refl _)] at this
        go_wp2_with fail
        go_ret
        exact ⟨_, rfl, by rw [HC.out]; exact HOk.out, grown_of_below hb.out⟩
end Go.Proofs.YtcoepioahabbdaaGreat
