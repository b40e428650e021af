/- The walk of the law DiskDrops. -/
import Derived.Test.YthodbeeglkedcaaDtbr
namespace Go.Proofs.Ythodbeeglkedcaa
open Go.RowKit
theorem rank_at {a : List UInt8} {k : Nat} (h : plc[k]? = some a) : rankL a = k := by
  match k, h with
  | 0, h => obtain rfl : [101, 116, 99] = a := by simpa [plc] using h
            decide
  | 1, h => obtain rfl : [114, 117, 110] = a := by simpa [plc] using h
            decide
  | 2, h => obtain rfl : [108, 105, 98] = a := by simpa [plc] using h
            decide
  | n + 3, h => simp [plc] at h
theorem rank_no {a : List UInt8} (h : ∀ j x, plc[j]? = some x → j < 3 → x ≠ a) : rankL a = 9 := by
  have h0 := h 0 etcL rfl (by omega)
  have h1 := h 1 runL rfl (by omega)
  have h2 := h 2 libL rfl (by omega)
  unfold rankL
  rw [if_neg (fun e => h0 e.symm), if_neg (fun e => h1 e.symm), if_neg (fun e => h2 e.symm)]
set_option maxHeartbeats 4000000 in
theorem rank_any (a : List UInt8) (w : World) :
    Calls Try.prog 20 #[.string (str a)] w fun e w' => e = .returned (.int .i64 (rankL a)) ∧ Below w.heap.size w w' := by
  go_enter Try.func20, Try.ntmps20
  go_wp2_with fail
  refine (dPlaces_any _).mono ?_
  rintro e1 w1 ⟨PA, pc, rfl, hp, hb1⟩
  have HB1 := Lib.hid hb1
  have HP := Lib.hid hp
  clear hb1 hp
  go_wp2_with fail
  go_loopw [7] (fun i wr => ∃ k : Nat, k ≤ 3 ∧ i = .int .i64 k ∧ w1 = wr ∧ Hid (∀ j x, plc[j]? = some x → j < k → x ≠ a)) (fun i wr => 3 - (intOf i).toNat)
  case atStart => exact ⟨0, by omega, rfl, rfl, fun j x _ h => by omega⟩
  case round =>
    obtain ⟨k, hk, rfl, rfl, hN⟩ := hrel
    by_cases hlt : k < 3
    · have b0 : (0 : Int) ≤ (k : Int) := by omega
      have b1 : (k : Int) < 3 := by omega
      obtain ⟨ad, x, rfl, hab, hx, q0⟩ := HP.out.at_ hlt
      have hq := eq_strG x a
      by_cases hxa : x = a
      · have HR : Hid (rankL a = k) := rank_at (by rw [← hxa]; exact hx)
        rw [decide_eq_true hxa] at hq
        clear hxa hx
        go_wp2_with fail
        go_ret
        exact ⟨by rw [HR.out]; rfl, HB1.out⟩
      · have HN2 : Hid (∀ j x, plc[j]? = some x → j < k + 1 → x ≠ a) := fun j y hy hj => by
          rcases Nat.lt_or_ge j k with h | h
          · exact hN.out j y hy h
          · obtain rfl : j = k := by omega
            rw [hx] at hy
            injection hy with hy
            rw [← hy]; exact hxa
        rw [decide_eq_false hxa] at hq
        clear hxa hx
        go_wp2_with fail
        go_roundw
        case rel => exact ⟨k + 1, by omega, by go_num, by first | rfl | trivial, HN2⟩
        case measure => simp [intOf]; omega
    · obtain rfl : k = 3 := by omega
      have HR : Hid (rankL a = 9) := rank_no hN.out
      clear hlt
      go_wp2_with fail
      go_ret
      exact ⟨by rw [HR.out]; rfl, HB1.out⟩
theorem path_two_len {p : List UInt8} (h : (pathW nmsP p).k = 2) : p.length ≤ 200 := by
  obtain ⟨h1, h2, h3, h4⟩ := path_two h
  have e1 : (pathW nmsP p).pl.length = 3 := by
    rcases plc_cases h1 with e | e | e <;> rw [e] <;> rfl
  have e2 := nmsOk.short _ h2
  have e3 : (pathW nmsP p).o.length ≤ 20 := by
    unfold dropN at h3
    rw [Bool.and_eq_true, decide_eq_true_eq] at h3
    exact h3.1.2
  have e4 := congrArg List.length h4
  rw [e4]
  simp only [dropP, dotD, dotC, List.length_append, List.length_cons, List.length_nil]
  omega
theorem path_at {p : List UInt8} {y : Wy} (h : pathW nmsP p = y) (hp : p.length ≤ 4194304) (W : World) :
    Calls Try.prog 19 #[.string (str p)] W fun e w' => e = .returned (.agg #[.int .i64 y.k, .string (str y.pl), .string (str y.u), .string (str y.o)]) ∧ Below W.heap.size W w' := by
  have := Path_any (str p) (by rw [str_size]; exact hp) W
  unfold PathP at this
  rw [str_list, h] at this
  exact this
def DrOk (l : List Fi) (r : Fd) (xs : List (List UInt8)) : Prop :=
  r.d = xs.map (whereL nmsP l r.n) ∧ rises xs ∧ (∀ x ∈ xs, x ≠ []) ∧ (∀ x ∈ xs, DropOk nmsP l r.n x (whereL nmsP l r.n x)) ∧ (r.m = false → ∀ f ∈ l, (pathW nmsP f.p).k = 2 → (pathW nmsP f.p).u = r.n → (pathW nmsP f.p).o ∈ xs) ∧ r.n.length ≤ 60
theorem dr_ok {l : List Fi} {u : List UInt8} {r : Fd} (h : findL nmsP l u = (r, 0)) : ∃ xs, DrOk l r xs := by
  obtain ⟨h1, h2, h3⟩ := find_found nmsOk (fs := l) (u := u) (by rw [h])
  rw [h] at h2 h3
  rcases h3 with ⟨h3, h4⟩ | ⟨h3, h4⟩
  · have h3 : r.m = true := h3
    have h4 : r.d = [] := h4
    exact ⟨[], by rw [h4]; rfl, List.Pairwise.nil, by simp, by simp, (by rw [h3]; intro e; cases e), nmsOk.short _ h2⟩
  · refine ⟨xsL nmsP l r.n, h4, xs_rises l r.n, fun x hx e => ?_, fun x hx => drop_ok nmsOk h2 hx, fun _ f hf hk hu => xs_has hf hk hu, nmsOk.short _ h2⟩
    obtain ⟨f, hf, k1, k2, k3⟩ := xs_mem.1 hx
    obtain ⟨_, _, p3, _⟩ := path_two k1
    rw [k3, e] at p3
    revert p3; decide
def FdS (wF : World) (G : Nat) (r : Fd) (dA : Option Addr) (dc : Nat) (W : World) : Prop := Blk W G 30 (fdA r.n r.p r.m (.slice dA r.d.length dc)) ∧ RowAt W W.heap.size dA r.d.length r.d ∧ Below wF.heap.size wF W
theorem FdS.call {wF W W' : World} {G : Nat} {r : Fd} {dA : Option Addr} {dc : Nat} (h : FdS wF G r dA dc W) (hb : Below W.heap.size W W') : FdS wF G r dA dc W' := ⟨h.1.below hb h.1.lt, (h.2.1.below hb).wide hb.size, more3 h.2.2 h.2.2.size hb⟩
theorem FdS.alloc {wF W : World} {G : Nat} {r : Fd} {dA : Option Addr} {dc : Nat} (h : FdS wF G r dA dc W) (o : Obj) : FdS wF G r dA dc (W.alloc o) := h.call ((Below.refl _ W).alloc (Nat.le_refl _) _)
theorem FdS.drew {wF W : World} {G : Nat} {r : Fd} {dA : Option Addr} {dc : Nat} (h : FdS wF G r dA dc W) : FdS wF G r dA dc W.drew := ⟨h.1, h.2.1, h.2.2.drew⟩
theorem fldW3 (k : Int) (p u o : ByteArray) (w : World) : (Instr.field 45 (.agg #[.int .i64 k, .string p, .string u, .string o]) 3).run Try.prog w = .ok (.string o) w := by kernel_rfl
theorem nil_lt {x : List UInt8} (h : x ≠ []) : ([] : List UInt8) < x := by
  cases x with
  | nil => exact absurd rfl h
  | cons c x => exact List.nil_lt_cons c x
set_option maxRecDepth 100000 in
set_option maxHeartbeats 16000000 in
theorem DiskDrops_any (A : Option Addr) (n c : Nat) (l : List Fi) (u : ByteArray) (hu : u.size ≤ 4194304) (w : World) (h : FisAt w w.heap.size A n l) (hs : ∀ x ∈ l, SizeF x) :
    Calls Try.prog 7 #[.slice A n c, .string u] w fun e w' => e = .returned (.bool true) ∧ Below w.heap.size w w' := by
  have HL0 := Lib.hid h
  have HS := Lib.hid hs
  have hl := h.1
  have hnm := h.2.1
  unfold maxLen at hnm
  clear h hs
  go_enter Try.func7, Try.ntmps7
  go_wp2_with fail
  refine (shown12_any _).mono ?_
  rintro e w1 ⟨rfl, hb1⟩
  have HB1 := Lib.hid hb1
  have HL1 := Lib.hid ((HL0.out.below hb1).wide hb1.size)
  clear hb1 HL0
  obtain ⟨r, k0, hr⟩ : ∃ r k, findL nmsP l u.data.toList = (r, k) := ⟨_, _, rfl⟩
  have HR := Lib.hid hr
  clear hr
  go_wp2_with fail
  refine (dFind_any A n c _ l u hu w1 HL1.out (Nat.le_refl _) HS.out).mono ?_
  intro e w2 h2
  obtain ⟨dA, dc, rfl, hd, hb2⟩ := findP_of HR.out h2
  have hby : Below w1.heap.size w1 (w2.alloc (.cells #[.string (str r.n), .string (str r.p), .bool r.m, .slice dA r.d.length dc] 30)) := hb2.alloc hb2.size _
  have HS0 : Hid (FdS (w2.alloc (.cells #[.string (str r.n), .string (str r.p), .bool r.m, .slice dA r.d.length dc] 30)) w2.heap.size r dA dc (w2.alloc (.cells #[.string (str r.n), .string (str r.p), .bool r.m, .slice dA r.d.length dc] 30))) := ⟨Blk.new w2 _ _, (hd.below ((Below.refl _ w2).alloc (Nat.le_refl _) _)).wide (by simp), Below.refl _ _⟩
  have HL2 := Lib.hid ((HL1.out.below hby).wide hby.size)
  have HB2 := Lib.hid (more3 HB1.out HB1.out.size hby)
  have HGF : Hid (w2.heap.size < (w2.alloc (.cells #[.string (str r.n), .string (str r.p), .bool r.m, .slice dA r.d.length dc] 30)).heap.size) := by show _ < _; simp
  clear h2 hd hb2 hby HL1 HB1
  by_cases hk0 : k0 = 0
  · subst hk0
    obtain ⟨xs, hdr⟩ := dr_ok HR.out
    obtain ⟨d1, d2, d3, d4, d5, d6⟩ := hdr
    have D1 := Lib.hid d1
    have D2 := Lib.hid d2
    have D3 := Lib.hid d3
    have D4 := Lib.hid d4
    have D5 := Lib.hid d5
    have HML : Hid (r.d.length = xs.length) := by show _ = _; rw [d1, List.length_map]
    have HT : Hid (∀ W, Calls Try.prog 17 #[.string (str r.n)] W fun e w' => e = .returned (.string (str (nmsP.tmpl r.n))) ∧ Below W.heap.size W w') := fun W => by
      have := Nm.rTemplate_any (str r.n) (by rw [str_size]; unfold maxLen; omega) W
      rw [← tmpl_str] at this
      exact this
    have g3 : (w2.alloc (.cells #[.string (str r.n), .string (str r.p), .bool r.m, .slice dA r.d.length dc] 30)).cell? ⟨w2.heap.size, 3, none⟩ = some (.slice dA r.d.length dc) := HS0.out.1.cell 3
    have hdm := HS0.out.2.1.2.1
    unfold maxLen at hdm
    clear d1 d2 d3 d4 d5 HR
    go_wp2_with fail
    generalize w2.alloc (.cells #[.string (str r.n), .string (str r.p), .bool r.m, .slice dA r.d.length dc] 30) = wF at *
    generalize w2.heap.size = G at *
    go_loopw [7, 33] (fun s i wr => ∃ (k : Nat) (ls : List UInt8), k ≤ r.d.length ∧ s = .string (str ls) ∧ i = .int .i64 k ∧ Hid (∀ x, xs[k]? = some x → ls < x) ∧ Hid (FdS wF G r dA dc wr)) (fun s i wr => r.d.length - (intOf i).toNat)
    case atStart => exact ⟨0, [], Nat.zero_le _, rfl, rfl, fun x hx => nil_lt (D3.out x (List.mem_of_getElem? hx)), HS0⟩
    case round =>
      obtain ⟨k, ls, hk, rfl, rfl, hLs, hSt⟩ := hrel
      by_cases hlt : k < r.d.length
      · have b0 : (0 : Int) ≤ (k : Int) := by omega
        have b1 : (k : Int) < (r.d.length : Int) := by omega
        obtain ⟨ad, p, hAd, hab, hp, q0⟩ := hSt.out.2.1.at_ hlt
        obtain ⟨x, hx, hpx⟩ : ∃ x, xs[k]? = some x ∧ p = whereL nmsP l r.n x := by
          rw [D1.out, List.getElem?_map] at hp
          rcases h : xs[k]? with _ | x
          · rw [h] at hp; cases hp
          · rw [h] at hp
            injection hp with hp
            exact ⟨x, rfl, hp.symm⟩
        have hxm := List.mem_of_getElem? hx
        obtain ⟨a, v, hpw, hv, hno⟩ := D4.out x hxm
        rw [← hpx] at hpw
        have hpl : p.length ≤ 4194304 := by have := path_two_len (p := p) (by rw [hpw]); omega
        have HPa := Lib.hid (fun W => path_at hpw hpl W)
        have HNO := Lib.hid hno
        have HX := Lib.hid hx
        have hlsx := hLs.out x hx
        have hleq : ∀ W, (binOp .leq 9 (.string (str x)) (.string (str ls))).run Try.prog W = .ok (.bool false) W := fun W => by
          rw [run_leq_str, lt_str, str_list, eq_strG, decide_eq_false (fun e => ltL_irrefl _ (ltL_trans e hlsx)), decide_eq_false (fun e => by rw [e] at hlsx; exact ltL_irrefl _ hlsx)]
          rfl
        subst hAd
        clear hno hpx hpw hp hx hlsx hLs
        go_wp2_with fail
        refine (HPa.out _).mono ?_
        rintro e w4 ⟨rfl, hb4⟩
        have HS5 : Hid (FdS wF G r (some ad) dc (w4.alloc (.cells #[.int .i64 2, .string (str a), .string (str v), .string (str x)] 45))) := (hSt.out.call hb4).alloc _
        have HW5 : Hid (Blk (w4.alloc (.cells #[.int .i64 2, .string (str a), .string (str v), .string (str x)] 45)) w4.heap.size 45 (wyA ⟨2, a, v, x⟩)) := Blk.new w4 _ _
        have c0 : (w4.alloc (.cells #[.int .i64 2, .string (str a), .string (str v), .string (str x)] 45)).cell? ⟨w4.heap.size, 0, none⟩ = some (.int .i64 2) := HW5.out.cell 0
        have c2 : (w4.alloc (.cells #[.int .i64 2, .string (str a), .string (str v), .string (str x)] 45)).cell? ⟨w4.heap.size, 2, none⟩ = some (.string (str v)) := HW5.out.cell 2
        have c3 : (w4.alloc (.cells #[.int .i64 2, .string (str a), .string (str v), .string (str x)] 45)).cell? ⟨w4.heap.size, 3, none⟩ = some (.string (str x)) := HW5.out.cell 3
        have n0 : (w4.alloc (.cells #[.int .i64 2, .string (str a), .string (str v), .string (str x)] 45)).cell? ⟨G, 0, none⟩ = some (.string (str r.n)) := HS5.out.1.cell 0
        clear hb4 hSt q0 HPa
        go_upto_region 11 with fail
        generalize w4.alloc (.cells #[.int .i64 2, .string (str a), .string (str v), .string (str x)] 45) = w5 at *
        generalize w4.heap.size = T at *
        go_cut [62] (fun b wx => b = .bool false ∧ Hid (FdS wF G r (some ad) dc wx) ∧ Hid (Blk wx T 45 (wyA ⟨2, a, v, x⟩)))
        case first =>
          have hvn := eq_strG v r.n
          have hvt := eq_strG v (nmsP.tmpl r.n)
          by_cases hvr : v = r.n
          · rw [decide_eq_true hvr] at hvn
            clear hvr hvt hv
            refine wp_region_held_drew (S := (fun W => FdS wF G r (some ad) dc W ∧ Blk W T 45 (wyA ⟨2, a, v, x⟩))) (by kernel_rfl) ?_ (fun hHeld => ?_)
            · exact ⟨HS5.out.drew, HW5.out⟩
            refine wpAnyH_take (i := 0) (v := ?v0_1) rfl (by kernel_rfl) (by kernel_rfl) (by kernel_rfl) (fun _ _ _ h => h) (Or.inl ⟨by rfl, ?hy0_1⟩) (by assumption) ?_
            case hy0_1 => (intro W hSw; have q0 : W.cell? ⟨T, 0, none⟩ = some (.int .i64 2) := hSw.2.cell 0; have q1 : W.cell? ⟨T, 1, none⟩ = some (.string (str a)) := hSw.2.cell 1; have q2 : W.cell? ⟨T, 2, none⟩ = some (.string (str v)) := hSw.2.cell 2; have q3 : W.cell? ⟨T, 3, none⟩ = some (.string (str x)) := hSw.2.cell 3; have q4 : W.cell? ⟨G, 0, none⟩ = some (.string (str r.n)) := hSw.1.1.cell 0; (try dsimp only at hSw); go_simp; (try with_reducible rfl))
            try simp only [Act.put, List.getElem_toArray, List.getElem_cons_zero, List.setIfInBounds_toArray, List.set_cons_zero, List.set_cons_succ]
            refine wpAnyH_take (i := 1) (v := ?v1_1) rfl (by kernel_rfl) (by kernel_rfl) (by kernel_rfl) (fun _ _ _ h => h) (Or.inl ⟨by rfl, ?hy1_1⟩) (by assumption) ?_
            case hy1_1 => (intro W hSw; have q0 : W.cell? ⟨T, 0, none⟩ = some (.int .i64 2) := hSw.2.cell 0; have q1 : W.cell? ⟨T, 1, none⟩ = some (.string (str a)) := hSw.2.cell 1; have q2 : W.cell? ⟨T, 2, none⟩ = some (.string (str v)) := hSw.2.cell 2; have q3 : W.cell? ⟨T, 3, none⟩ = some (.string (str x)) := hSw.2.cell 3; have q4 : W.cell? ⟨G, 0, none⟩ = some (.string (str r.n)) := hSw.1.1.cell 0; (try dsimp only at hSw); go_simp; (try with_reducible rfl))
            try simp only [Act.put, List.getElem_toArray, List.getElem_cons_zero, List.getElem_cons_succ, List.setIfInBounds_toArray, List.set_cons_zero, List.set_cons_succ]
            refine wpAnyH_take (i := 2) (v := ?v2_1) rfl (by kernel_rfl) (by kernel_rfl) (by kernel_rfl) (fun _ _ _ h => h) (Or.inl ⟨by rfl, ?hy2_1⟩) (by assumption) ?_
            case hy2_1 => (intro W hSw; have q0 : W.cell? ⟨T, 0, none⟩ = some (.int .i64 2) := hSw.2.cell 0; have q1 : W.cell? ⟨T, 1, none⟩ = some (.string (str a)) := hSw.2.cell 1; have q2 : W.cell? ⟨T, 2, none⟩ = some (.string (str v)) := hSw.2.cell 2; have q3 : W.cell? ⟨T, 3, none⟩ = some (.string (str x)) := hSw.2.cell 3; have q4 : W.cell? ⟨G, 0, none⟩ = some (.string (str r.n)) := hSw.1.1.cell 0; (try dsimp only at hSw); go_simp; (try with_reducible rfl))
            try simp only [Act.put, List.getElem_toArray, List.getElem_cons_zero, List.getElem_cons_succ, List.setIfInBounds_toArray, List.set_cons_zero, List.set_cons_succ]
            refine wpAnyH_take (i := 3) (v := ?v3_1) rfl (by kernel_rfl) (by kernel_rfl) (by kernel_rfl) (fun _ _ _ h => h) (Or.inl ⟨by rfl, ?hy3_1⟩) (by assumption) ?_
            case hy3_1 => (intro W hSw; have q0 : W.cell? ⟨T, 0, none⟩ = some (.int .i64 2) := hSw.2.cell 0; have q1 : W.cell? ⟨T, 1, none⟩ = some (.string (str a)) := hSw.2.cell 1; have q2 : W.cell? ⟨T, 2, none⟩ = some (.string (str v)) := hSw.2.cell 2; have q3 : W.cell? ⟨T, 3, none⟩ = some (.string (str x)) := hSw.2.cell 3; have q4 : W.cell? ⟨G, 0, none⟩ = some (.string (str r.n)) := hSw.1.1.cell 0; (try dsimp only at hSw); go_simp; (try with_reducible rfl))
            try simp only [Act.put, List.getElem_toArray, List.getElem_cons_zero, List.getElem_cons_succ, List.setIfInBounds_toArray, List.set_cons_zero, List.set_cons_succ]
            refine wpAnyH_take (i := 4) (v := ?v4_1) rfl (by kernel_rfl) (by kernel_rfl) (by kernel_rfl) (fun _ _ _ h => h) (Or.inl ⟨by rfl, ?hy4_1⟩) (by assumption) ?_
            case hy4_1 => (intro W hSw; have q0 : W.cell? ⟨T, 0, none⟩ = some (.int .i64 2) := hSw.2.cell 0; have q1 : W.cell? ⟨T, 1, none⟩ = some (.string (str a)) := hSw.2.cell 1; have q2 : W.cell? ⟨T, 2, none⟩ = some (.string (str v)) := hSw.2.cell 2; have q3 : W.cell? ⟨T, 3, none⟩ = some (.string (str x)) := hSw.2.cell 3; have q4 : W.cell? ⟨G, 0, none⟩ = some (.string (str r.n)) := hSw.1.1.cell 0; (try dsimp only at hSw); go_simp; (try with_reducible rfl))
            try simp only [Act.put, List.getElem_toArray, List.getElem_cons_zero, List.getElem_cons_succ, List.setIfInBounds_toArray, List.set_cons_zero, List.set_cons_succ]
            refine wpAnyH_take (i := 5) (v := ?v5_1) rfl (by kernel_rfl) (by kernel_rfl) (by kernel_rfl) (fun _ _ _ h => h) (Or.inl ⟨by rfl, ?hy5_1⟩) (by assumption) ?_
            case hy5_1 => (intro W hSw; have q0 : W.cell? ⟨T, 0, none⟩ = some (.int .i64 2) := hSw.2.cell 0; have q1 : W.cell? ⟨T, 1, none⟩ = some (.string (str a)) := hSw.2.cell 1; have q2 : W.cell? ⟨T, 2, none⟩ = some (.string (str v)) := hSw.2.cell 2; have q3 : W.cell? ⟨T, 3, none⟩ = some (.string (str x)) := hSw.2.cell 3; have q4 : W.cell? ⟨G, 0, none⟩ = some (.string (str r.n)) := hSw.1.1.cell 0; (try dsimp only at hSw); go_simp; (try with_reducible rfl))
            try simp only [Act.put, List.getElem_toArray, List.getElem_cons_zero, List.getElem_cons_succ, List.setIfInBounds_toArray, List.set_cons_zero, List.set_cons_succ]
            refine wpAnyH_take (i := 6) (v := ?v6_1) rfl (by kernel_rfl) (by kernel_rfl) (by kernel_rfl) (fun _ _ _ h => h) (Or.inl ⟨by rfl, ?hy6_1⟩) (by assumption) ?_
            case hy6_1 => (intro W hSw; have q0 : W.cell? ⟨T, 0, none⟩ = some (.int .i64 2) := hSw.2.cell 0; have q1 : W.cell? ⟨T, 1, none⟩ = some (.string (str a)) := hSw.2.cell 1; have q2 : W.cell? ⟨T, 2, none⟩ = some (.string (str v)) := hSw.2.cell 2; have q3 : W.cell? ⟨T, 3, none⟩ = some (.string (str x)) := hSw.2.cell 3; have q4 : W.cell? ⟨G, 0, none⟩ = some (.string (str r.n)) := hSw.1.1.cell 0; (try dsimp only at hSw); go_simp; (try with_reducible rfl))
            try simp only [Act.put, List.getElem_toArray, List.getElem_cons_zero, List.getElem_cons_succ, List.setIfInBounds_toArray, List.set_cons_zero, List.set_cons_succ]
            refine wpAnyH_take (i := 7) (v := ?v7_1) rfl (by kernel_rfl) (by kernel_rfl) (by kernel_rfl) (fun _ _ _ h => h) (Or.inl ⟨by rfl, ?hy7_1⟩) (by assumption) ?_
            case hy7_1 => (intro W hSw; have q0 : W.cell? ⟨T, 0, none⟩ = some (.int .i64 2) := hSw.2.cell 0; have q1 : W.cell? ⟨T, 1, none⟩ = some (.string (str a)) := hSw.2.cell 1; have q2 : W.cell? ⟨T, 2, none⟩ = some (.string (str v)) := hSw.2.cell 2; have q3 : W.cell? ⟨T, 3, none⟩ = some (.string (str x)) := hSw.2.cell 3; have q4 : W.cell? ⟨G, 0, none⟩ = some (.string (str r.n)) := hSw.1.1.cell 0; (try dsimp only at hSw); go_simp; (try with_reducible rfl))
            try simp only [Act.put, List.getElem_toArray, List.getElem_cons_zero, List.getElem_cons_succ, List.setIfInBounds_toArray, List.set_cons_zero, List.set_cons_succ]
            refine wpAnyH_take (i := 8) (v := ?v8_1) rfl (by kernel_rfl) (by kernel_rfl) (by kernel_rfl) (fun _ _ _ h => h) (Or.inl ⟨by rfl, ?hy8_1⟩) (by assumption) ?_
            case hy8_1 => (intro W hSw; have q0 : W.cell? ⟨T, 0, none⟩ = some (.int .i64 2) := hSw.2.cell 0; have q1 : W.cell? ⟨T, 1, none⟩ = some (.string (str a)) := hSw.2.cell 1; have q2 : W.cell? ⟨T, 2, none⟩ = some (.string (str v)) := hSw.2.cell 2; have q3 : W.cell? ⟨T, 3, none⟩ = some (.string (str x)) := hSw.2.cell 3; have q4 : W.cell? ⟨G, 0, none⟩ = some (.string (str r.n)) := hSw.1.1.cell 0; (try dsimp only at hSw); go_simp; (try with_reducible rfl))
            try simp only [Act.put, List.getElem_toArray, List.getElem_cons_zero, List.getElem_cons_succ, List.setIfInBounds_toArray, List.set_cons_zero, List.set_cons_succ]
            refine wpAnyH_take (i := 9) (v := ?v9_1) rfl (by kernel_rfl) (by kernel_rfl) (by kernel_rfl) (fun _ _ _ h => h) (Or.inl ⟨by rfl, ?hy9_1⟩) (by assumption) ?_
            case hy9_1 => (intro W hSw; have q0 : W.cell? ⟨T, 0, none⟩ = some (.int .i64 2) := hSw.2.cell 0; have q1 : W.cell? ⟨T, 1, none⟩ = some (.string (str a)) := hSw.2.cell 1; have q2 : W.cell? ⟨T, 2, none⟩ = some (.string (str v)) := hSw.2.cell 2; have q3 : W.cell? ⟨T, 3, none⟩ = some (.string (str x)) := hSw.2.cell 3; have q4 : W.cell? ⟨G, 0, none⟩ = some (.string (str r.n)) := hSw.1.1.cell 0; (try dsimp only at hSw); go_simp; (try with_reducible rfl))
            try simp only [Act.put, List.getElem_toArray, List.getElem_cons_zero, List.getElem_cons_succ, List.setIfInBounds_toArray, List.set_cons_zero, List.set_cons_succ]
            refine wpAnyH_take (i := 10) (v := ?v10_1) rfl (by kernel_rfl) (by kernel_rfl) (by kernel_rfl) (fun _ _ _ h => h) (Or.inl ⟨by rfl, ?hy10_1⟩) (by assumption) ?_
            case hy10_1 => (intro W hSw; have q0 : W.cell? ⟨T, 0, none⟩ = some (.int .i64 2) := hSw.2.cell 0; have q1 : W.cell? ⟨T, 1, none⟩ = some (.string (str a)) := hSw.2.cell 1; have q2 : W.cell? ⟨T, 2, none⟩ = some (.string (str v)) := hSw.2.cell 2; have q3 : W.cell? ⟨T, 3, none⟩ = some (.string (str x)) := hSw.2.cell 3; have q4 : W.cell? ⟨G, 0, none⟩ = some (.string (str r.n)) := hSw.1.1.cell 0; (try dsimp only at hSw); go_simp; (try with_reducible rfl))
            try simp only [Act.put, List.getElem_toArray, List.getElem_cons_zero, List.getElem_cons_succ, List.setIfInBounds_toArray, List.set_cons_zero, List.set_cons_succ]
            refine wpAnyH_take (i := 11) (v := ?v11_1) rfl (by kernel_rfl) (by kernel_rfl) (by kernel_rfl) (fun _ _ _ h => h) (Or.inl ⟨by rfl, ?hy11_1⟩) (by assumption) ?_
            case hy11_1 => (intro W hSw; have q0 : W.cell? ⟨T, 0, none⟩ = some (.int .i64 2) := hSw.2.cell 0; have q1 : W.cell? ⟨T, 1, none⟩ = some (.string (str a)) := hSw.2.cell 1; have q2 : W.cell? ⟨T, 2, none⟩ = some (.string (str v)) := hSw.2.cell 2; have q3 : W.cell? ⟨T, 3, none⟩ = some (.string (str x)) := hSw.2.cell 3; have q4 : W.cell? ⟨G, 0, none⟩ = some (.string (str r.n)) := hSw.1.1.cell 0; (try dsimp only at hSw); go_simp; (try with_reducible rfl))
            try simp only [Act.put, List.getElem_toArray, List.getElem_cons_zero, List.getElem_cons_succ, List.setIfInBounds_toArray, List.set_cons_zero, List.set_cons_succ]
            refine wpAnyH_take (i := 12) (v := ?v12_1) rfl (by kernel_rfl) (by kernel_rfl) (by kernel_rfl) (fun _ _ _ h => h) (Or.inl ⟨by rfl, ?hy12_1⟩) (by assumption) ?_
            case hy12_1 => (intro W hSw; have q0 : W.cell? ⟨T, 0, none⟩ = some (.int .i64 2) := hSw.2.cell 0; have q1 : W.cell? ⟨T, 1, none⟩ = some (.string (str a)) := hSw.2.cell 1; have q2 : W.cell? ⟨T, 2, none⟩ = some (.string (str v)) := hSw.2.cell 2; have q3 : W.cell? ⟨T, 3, none⟩ = some (.string (str x)) := hSw.2.cell 3; have q4 : W.cell? ⟨G, 0, none⟩ = some (.string (str r.n)) := hSw.1.1.cell 0; (try dsimp only at hSw); go_simp; (try with_reducible rfl))
            try simp only [Act.put, List.getElem_toArray, List.getElem_cons_zero, List.getElem_cons_succ, List.setIfInBounds_toArray, List.set_cons_zero, List.set_cons_succ]
            refine wpAnyH_take (i := 13) (v := ?v13_1) rfl (by kernel_rfl) (by kernel_rfl) (by kernel_rfl) (fun _ _ _ h => h) (Or.inl ⟨by rfl, ?hy13_1⟩) (by assumption) ?_
            case hy13_1 => (intro W hSw; have q0 : W.cell? ⟨T, 0, none⟩ = some (.int .i64 2) := hSw.2.cell 0; have q1 : W.cell? ⟨T, 1, none⟩ = some (.string (str a)) := hSw.2.cell 1; have q2 : W.cell? ⟨T, 2, none⟩ = some (.string (str v)) := hSw.2.cell 2; have q3 : W.cell? ⟨T, 3, none⟩ = some (.string (str x)) := hSw.2.cell 3; have q4 : W.cell? ⟨G, 0, none⟩ = some (.string (str r.n)) := hSw.1.1.cell 0; (try dsimp only at hSw); go_simp; (try with_reducible rfl))
            try simp only [Act.put, List.getElem_toArray, List.getElem_cons_zero, List.getElem_cons_succ, List.setIfInBounds_toArray, List.set_cons_zero, List.set_cons_succ]
            refine wpAnyH_take (i := 14) (v := ?v14_1) rfl (by kernel_rfl) (by kernel_rfl) (by kernel_rfl) (fun _ _ _ h => h) (Or.inl ⟨by rfl, ?hy14_1⟩) (by assumption) ?_
            case hy14_1 => (intro W hSw; have q0 : W.cell? ⟨T, 0, none⟩ = some (.int .i64 2) := hSw.2.cell 0; have q1 : W.cell? ⟨T, 1, none⟩ = some (.string (str a)) := hSw.2.cell 1; have q2 : W.cell? ⟨T, 2, none⟩ = some (.string (str v)) := hSw.2.cell 2; have q3 : W.cell? ⟨T, 3, none⟩ = some (.string (str x)) := hSw.2.cell 3; have q4 : W.cell? ⟨G, 0, none⟩ = some (.string (str r.n)) := hSw.1.1.cell 0; (try dsimp only at hSw); go_simp; (try with_reducible rfl))
            try simp only [Act.put, List.getElem_toArray, List.getElem_cons_zero, List.getElem_cons_succ, List.setIfInBounds_toArray, List.set_cons_zero, List.set_cons_succ]
            refine wpAnyH_take (i := 15) (v := ?v15_1) rfl (by kernel_rfl) (by kernel_rfl) (by kernel_rfl) (fun _ _ _ h => h) (Or.inl ⟨by rfl, ?hy15_1⟩) (by assumption) ?_
            case hy15_1 => (intro W hSw; have q0 : W.cell? ⟨T, 0, none⟩ = some (.int .i64 2) := hSw.2.cell 0; have q1 : W.cell? ⟨T, 1, none⟩ = some (.string (str a)) := hSw.2.cell 1; have q2 : W.cell? ⟨T, 2, none⟩ = some (.string (str v)) := hSw.2.cell 2; have q3 : W.cell? ⟨T, 3, none⟩ = some (.string (str x)) := hSw.2.cell 3; have q4 : W.cell? ⟨G, 0, none⟩ = some (.string (str r.n)) := hSw.1.1.cell 0; (try dsimp only at hSw); go_simp; (try with_reducible rfl))
            try simp only [Act.put, List.getElem_toArray, List.getElem_cons_zero, List.getElem_cons_succ, List.setIfInBounds_toArray, List.set_cons_zero, List.set_cons_succ]
            refine wpAnyH_take (i := 16) (v := undef) rfl (by kernel_rfl) (by kernel_rfl) (by kernel_rfl) (fun _ _ _ h => h) (Or.inr ⟨by rfl, rfl⟩) (by assumption) ?_
            try simp only [Act.put, List.getElem_toArray, List.getElem_cons_zero, List.getElem_cons_succ, List.setIfInBounds_toArray, List.set_cons_zero, List.set_cons_succ]
            refine wpAnyH_take (i := 17) (v := undef) rfl (by kernel_rfl) (by kernel_rfl) (by kernel_rfl) (fun _ _ _ h => h) (Or.inr ⟨by rfl, rfl⟩) (by assumption) ?_
            try simp only [Act.put, List.getElem_toArray, List.getElem_cons_zero, List.getElem_cons_succ, List.setIfInBounds_toArray, List.set_cons_zero, List.set_cons_succ]
            refine wpAnyH_take (i := 18) (v := undef) rfl (by kernel_rfl) (by kernel_rfl) (by kernel_rfl) (fun _ _ _ h => h) (Or.inr ⟨by rfl, rfl⟩) (by assumption) ?_
            try simp only [Act.put, List.getElem_toArray, List.getElem_cons_zero, List.getElem_cons_succ, List.setIfInBounds_toArray, List.set_cons_zero, List.set_cons_succ]
            refine wpAnyH_take (i := 19) (v := undef) rfl (by kernel_rfl) (by kernel_rfl) (by kernel_rfl) (fun _ _ _ h => h) (Or.inr ⟨by rfl, rfl⟩) (by assumption) ?_
            try simp only [Act.put, List.getElem_toArray, List.getElem_cons_zero, List.getElem_cons_succ, List.setIfInBounds_toArray, List.set_cons_zero, List.set_cons_succ]
            refine wpAnyH_take (i := 20) (v := undef) rfl (by kernel_rfl) (by kernel_rfl) (by kernel_rfl) (fun _ _ _ h => h) (Or.inr ⟨by rfl, rfl⟩) (by assumption) ?_
            try simp only [Act.put, List.getElem_toArray, List.getElem_cons_zero, List.getElem_cons_succ, List.setIfInBounds_toArray, List.set_cons_zero, List.set_cons_succ]
            refine wpAnyH_take (i := 21) (v := undef) rfl (by kernel_rfl) (by kernel_rfl) (by kernel_rfl) (fun _ _ _ h => h) (Or.inr ⟨by rfl, rfl⟩) (by assumption) ?_
            try simp only [Act.put, List.getElem_toArray, List.getElem_cons_zero, List.getElem_cons_succ, List.setIfInBounds_toArray, List.set_cons_zero, List.set_cons_succ]
            refine wpAnyH_take (i := 22) (v := ?v22_1) rfl (by kernel_rfl) (by kernel_rfl) (by kernel_rfl) (fun _ _ _ h => h) (Or.inl ⟨by rfl, ?hy22_1⟩) (by assumption) ?_
            case hy22_1 => (intro W hSw; have q0 : W.cell? ⟨T, 0, none⟩ = some (.int .i64 2) := hSw.2.cell 0; have q1 : W.cell? ⟨T, 1, none⟩ = some (.string (str a)) := hSw.2.cell 1; have q2 : W.cell? ⟨T, 2, none⟩ = some (.string (str v)) := hSw.2.cell 2; have q3 : W.cell? ⟨T, 3, none⟩ = some (.string (str x)) := hSw.2.cell 3; have q4 : W.cell? ⟨G, 0, none⟩ = some (.string (str r.n)) := hSw.1.1.cell 0; (try dsimp only at hSw); go_simp; (try with_reducible rfl))
            try simp only [Act.put, List.getElem_toArray, List.getElem_cons_zero, List.getElem_cons_succ, List.setIfInBounds_toArray, List.set_cons_zero, List.set_cons_succ]
            refine wpAnyH_take (i := 23) (v := ?v23_1) rfl (by kernel_rfl) (by kernel_rfl) (by kernel_rfl) (fun _ _ _ h => h) (Or.inl ⟨by rfl, ?hy23_1⟩) (by assumption) ?_
            case hy23_1 => (intro W hSw; have q0 : W.cell? ⟨T, 0, none⟩ = some (.int .i64 2) := hSw.2.cell 0; have q1 : W.cell? ⟨T, 1, none⟩ = some (.string (str a)) := hSw.2.cell 1; have q2 : W.cell? ⟨T, 2, none⟩ = some (.string (str v)) := hSw.2.cell 2; have q3 : W.cell? ⟨T, 3, none⟩ = some (.string (str x)) := hSw.2.cell 3; have q4 : W.cell? ⟨G, 0, none⟩ = some (.string (str r.n)) := hSw.1.1.cell 0; (try dsimp only at hSw); go_simp; (try with_reducible rfl))
            try simp only [Act.put, List.getElem_toArray, List.getElem_cons_zero, List.getElem_cons_succ, List.setIfInBounds_toArray, List.set_cons_zero, List.set_cons_succ]
            refine wpAnyH_done (by kernel_rfl) ?_ _
            go_wp2_with fail
            go_meet
            exact ⟨rfl, hHeld.1, hHeld.2⟩
          · have hvt2 : v = nmsP.tmpl r.n := by rcases hv with h | h; exact absurd h hvr; exact h
            rw [decide_eq_false hvr] at hvn
            rw [decide_eq_true hvt2] at hvt
            clear hvr hv hvt2
            refine wp_region_held_drew (S := (fun W => FdS wF G r (some ad) dc W ∧ Blk W T 45 (wyA ⟨2, a, v, x⟩))) (by kernel_rfl) ?_ (fun hHeld => ?_)
            · exact ⟨HS5.out.drew, HW5.out⟩
            refine wpAnyH_take (i := 0) (v := ?v0_2) rfl (by kernel_rfl) (by kernel_rfl) (by kernel_rfl) (fun _ _ _ h => h) (Or.inl ⟨by rfl, ?hy0_2⟩) (by assumption) ?_
            case hy0_2 => (intro W hSw; have q0 : W.cell? ⟨T, 0, none⟩ = some (.int .i64 2) := hSw.2.cell 0; have q1 : W.cell? ⟨T, 1, none⟩ = some (.string (str a)) := hSw.2.cell 1; have q2 : W.cell? ⟨T, 2, none⟩ = some (.string (str v)) := hSw.2.cell 2; have q3 : W.cell? ⟨T, 3, none⟩ = some (.string (str x)) := hSw.2.cell 3; have q4 : W.cell? ⟨G, 0, none⟩ = some (.string (str r.n)) := hSw.1.1.cell 0; (try dsimp only at hSw); go_simp; (try with_reducible rfl))
            try simp only [Act.put, List.getElem_toArray, List.getElem_cons_zero, List.setIfInBounds_toArray, List.set_cons_zero, List.set_cons_succ]
            refine wpAnyH_take (i := 1) (v := ?v1_2) rfl (by kernel_rfl) (by kernel_rfl) (by kernel_rfl) (fun _ _ _ h => h) (Or.inl ⟨by rfl, ?hy1_2⟩) (by assumption) ?_
            case hy1_2 => (intro W hSw; have q0 : W.cell? ⟨T, 0, none⟩ = some (.int .i64 2) := hSw.2.cell 0; have q1 : W.cell? ⟨T, 1, none⟩ = some (.string (str a)) := hSw.2.cell 1; have q2 : W.cell? ⟨T, 2, none⟩ = some (.string (str v)) := hSw.2.cell 2; have q3 : W.cell? ⟨T, 3, none⟩ = some (.string (str x)) := hSw.2.cell 3; have q4 : W.cell? ⟨G, 0, none⟩ = some (.string (str r.n)) := hSw.1.1.cell 0; (try dsimp only at hSw); go_simp; (try with_reducible rfl))
            try simp only [Act.put, List.getElem_toArray, List.getElem_cons_zero, List.getElem_cons_succ, List.setIfInBounds_toArray, List.set_cons_zero, List.set_cons_succ]
            refine wpAnyH_take (i := 2) (v := ?v2_2) rfl (by kernel_rfl) (by kernel_rfl) (by kernel_rfl) (fun _ _ _ h => h) (Or.inl ⟨by rfl, ?hy2_2⟩) (by assumption) ?_
            case hy2_2 => (intro W hSw; have q0 : W.cell? ⟨T, 0, none⟩ = some (.int .i64 2) := hSw.2.cell 0; have q1 : W.cell? ⟨T, 1, none⟩ = some (.string (str a)) := hSw.2.cell 1; have q2 : W.cell? ⟨T, 2, none⟩ = some (.string (str v)) := hSw.2.cell 2; have q3 : W.cell? ⟨T, 3, none⟩ = some (.string (str x)) := hSw.2.cell 3; have q4 : W.cell? ⟨G, 0, none⟩ = some (.string (str r.n)) := hSw.1.1.cell 0; (try dsimp only at hSw); go_simp; (try with_reducible rfl))
            try simp only [Act.put, List.getElem_toArray, List.getElem_cons_zero, List.getElem_cons_succ, List.setIfInBounds_toArray, List.set_cons_zero, List.set_cons_succ]
            refine wpAnyH_take (i := 3) (v := ?v3_2) rfl (by kernel_rfl) (by kernel_rfl) (by kernel_rfl) (fun _ _ _ h => h) (Or.inl ⟨by rfl, ?hy3_2⟩) (by assumption) ?_
            case hy3_2 => (intro W hSw; have q0 : W.cell? ⟨T, 0, none⟩ = some (.int .i64 2) := hSw.2.cell 0; have q1 : W.cell? ⟨T, 1, none⟩ = some (.string (str a)) := hSw.2.cell 1; have q2 : W.cell? ⟨T, 2, none⟩ = some (.string (str v)) := hSw.2.cell 2; have q3 : W.cell? ⟨T, 3, none⟩ = some (.string (str x)) := hSw.2.cell 3; have q4 : W.cell? ⟨G, 0, none⟩ = some (.string (str r.n)) := hSw.1.1.cell 0; (try dsimp only at hSw); go_simp; (try with_reducible rfl))
            try simp only [Act.put, List.getElem_toArray, List.getElem_cons_zero, List.getElem_cons_succ, List.setIfInBounds_toArray, List.set_cons_zero, List.set_cons_succ]
            refine wpAnyH_take (i := 4) (v := ?v4_2) rfl (by kernel_rfl) (by kernel_rfl) (by kernel_rfl) (fun _ _ _ h => h) (Or.inl ⟨by rfl, ?hy4_2⟩) (by assumption) ?_
            case hy4_2 => (intro W hSw; have q0 : W.cell? ⟨T, 0, none⟩ = some (.int .i64 2) := hSw.2.cell 0; have q1 : W.cell? ⟨T, 1, none⟩ = some (.string (str a)) := hSw.2.cell 1; have q2 : W.cell? ⟨T, 2, none⟩ = some (.string (str v)) := hSw.2.cell 2; have q3 : W.cell? ⟨T, 3, none⟩ = some (.string (str x)) := hSw.2.cell 3; have q4 : W.cell? ⟨G, 0, none⟩ = some (.string (str r.n)) := hSw.1.1.cell 0; (try dsimp only at hSw); go_simp; (try with_reducible rfl))
            try simp only [Act.put, List.getElem_toArray, List.getElem_cons_zero, List.getElem_cons_succ, List.setIfInBounds_toArray, List.set_cons_zero, List.set_cons_succ]
            refine wpAnyH_take (i := 5) (v := ?v5_2) rfl (by kernel_rfl) (by kernel_rfl) (by kernel_rfl) (fun _ _ _ h => h) (Or.inl ⟨by rfl, ?hy5_2⟩) (by assumption) ?_
            case hy5_2 => (intro W hSw; have q0 : W.cell? ⟨T, 0, none⟩ = some (.int .i64 2) := hSw.2.cell 0; have q1 : W.cell? ⟨T, 1, none⟩ = some (.string (str a)) := hSw.2.cell 1; have q2 : W.cell? ⟨T, 2, none⟩ = some (.string (str v)) := hSw.2.cell 2; have q3 : W.cell? ⟨T, 3, none⟩ = some (.string (str x)) := hSw.2.cell 3; have q4 : W.cell? ⟨G, 0, none⟩ = some (.string (str r.n)) := hSw.1.1.cell 0; (try dsimp only at hSw); go_simp; (try with_reducible rfl))
            try simp only [Act.put, List.getElem_toArray, List.getElem_cons_zero, List.getElem_cons_succ, List.setIfInBounds_toArray, List.set_cons_zero, List.set_cons_succ]
            refine wpAnyH_take (i := 6) (v := ?v6_2) rfl (by kernel_rfl) (by kernel_rfl) (by kernel_rfl) (fun _ _ _ h => h) (Or.inl ⟨by rfl, ?hy6_2⟩) (by assumption) ?_
            case hy6_2 => (intro W hSw; have q0 : W.cell? ⟨T, 0, none⟩ = some (.int .i64 2) := hSw.2.cell 0; have q1 : W.cell? ⟨T, 1, none⟩ = some (.string (str a)) := hSw.2.cell 1; have q2 : W.cell? ⟨T, 2, none⟩ = some (.string (str v)) := hSw.2.cell 2; have q3 : W.cell? ⟨T, 3, none⟩ = some (.string (str x)) := hSw.2.cell 3; have q4 : W.cell? ⟨G, 0, none⟩ = some (.string (str r.n)) := hSw.1.1.cell 0; (try dsimp only at hSw); go_simp; (try with_reducible rfl))
            try simp only [Act.put, List.getElem_toArray, List.getElem_cons_zero, List.getElem_cons_succ, List.setIfInBounds_toArray, List.set_cons_zero, List.set_cons_succ]
            refine wpAnyH_take (i := 7) (v := ?v7_2) rfl (by kernel_rfl) (by kernel_rfl) (by kernel_rfl) (fun _ _ _ h => h) (Or.inl ⟨by rfl, ?hy7_2⟩) (by assumption) ?_
            case hy7_2 => (intro W hSw; have q0 : W.cell? ⟨T, 0, none⟩ = some (.int .i64 2) := hSw.2.cell 0; have q1 : W.cell? ⟨T, 1, none⟩ = some (.string (str a)) := hSw.2.cell 1; have q2 : W.cell? ⟨T, 2, none⟩ = some (.string (str v)) := hSw.2.cell 2; have q3 : W.cell? ⟨T, 3, none⟩ = some (.string (str x)) := hSw.2.cell 3; have q4 : W.cell? ⟨G, 0, none⟩ = some (.string (str r.n)) := hSw.1.1.cell 0; (try dsimp only at hSw); go_simp; (try with_reducible rfl))
            try simp only [Act.put, List.getElem_toArray, List.getElem_cons_zero, List.getElem_cons_succ, List.setIfInBounds_toArray, List.set_cons_zero, List.set_cons_succ]
            refine wpAnyH_take (i := 8) (v := ?v8_2) rfl (by kernel_rfl) (by kernel_rfl) (by kernel_rfl) (fun _ _ _ h => h) (Or.inl ⟨by rfl, ?hy8_2⟩) (by assumption) ?_
            case hy8_2 => (intro W hSw; have q0 : W.cell? ⟨T, 0, none⟩ = some (.int .i64 2) := hSw.2.cell 0; have q1 : W.cell? ⟨T, 1, none⟩ = some (.string (str a)) := hSw.2.cell 1; have q2 : W.cell? ⟨T, 2, none⟩ = some (.string (str v)) := hSw.2.cell 2; have q3 : W.cell? ⟨T, 3, none⟩ = some (.string (str x)) := hSw.2.cell 3; have q4 : W.cell? ⟨G, 0, none⟩ = some (.string (str r.n)) := hSw.1.1.cell 0; (try dsimp only at hSw); go_simp; (try with_reducible rfl))
            try simp only [Act.put, List.getElem_toArray, List.getElem_cons_zero, List.getElem_cons_succ, List.setIfInBounds_toArray, List.set_cons_zero, List.set_cons_succ]
            refine wpAnyH_take (i := 9) (v := ?v9_2) rfl (by kernel_rfl) (by kernel_rfl) (by kernel_rfl) (fun _ _ _ h => h) (Or.inl ⟨by rfl, ?hy9_2⟩) (by assumption) ?_
            case hy9_2 => (intro W hSw; have q0 : W.cell? ⟨T, 0, none⟩ = some (.int .i64 2) := hSw.2.cell 0; have q1 : W.cell? ⟨T, 1, none⟩ = some (.string (str a)) := hSw.2.cell 1; have q2 : W.cell? ⟨T, 2, none⟩ = some (.string (str v)) := hSw.2.cell 2; have q3 : W.cell? ⟨T, 3, none⟩ = some (.string (str x)) := hSw.2.cell 3; have q4 : W.cell? ⟨G, 0, none⟩ = some (.string (str r.n)) := hSw.1.1.cell 0; (try dsimp only at hSw); go_simp; (try with_reducible rfl))
            try simp only [Act.put, List.getElem_toArray, List.getElem_cons_zero, List.getElem_cons_succ, List.setIfInBounds_toArray, List.set_cons_zero, List.set_cons_succ]
            refine wpAnyH_take (i := 10) (v := ?v10_2) rfl (by kernel_rfl) (by kernel_rfl) (by kernel_rfl) (fun _ _ _ h => h) (Or.inl ⟨by rfl, ?hy10_2⟩) (by assumption) ?_
            case hy10_2 => (intro W hSw; have q0 : W.cell? ⟨T, 0, none⟩ = some (.int .i64 2) := hSw.2.cell 0; have q1 : W.cell? ⟨T, 1, none⟩ = some (.string (str a)) := hSw.2.cell 1; have q2 : W.cell? ⟨T, 2, none⟩ = some (.string (str v)) := hSw.2.cell 2; have q3 : W.cell? ⟨T, 3, none⟩ = some (.string (str x)) := hSw.2.cell 3; have q4 : W.cell? ⟨G, 0, none⟩ = some (.string (str r.n)) := hSw.1.1.cell 0; (try dsimp only at hSw); go_simp; (try with_reducible rfl))
            try simp only [Act.put, List.getElem_toArray, List.getElem_cons_zero, List.getElem_cons_succ, List.setIfInBounds_toArray, List.set_cons_zero, List.set_cons_succ]
            refine wpAnyH_take (i := 11) (v := ?v11_2) rfl (by kernel_rfl) (by kernel_rfl) (by kernel_rfl) (fun _ _ _ h => h) (Or.inl ⟨by rfl, ?hy11_2⟩) (by assumption) ?_
            case hy11_2 => (intro W hSw; have q0 : W.cell? ⟨T, 0, none⟩ = some (.int .i64 2) := hSw.2.cell 0; have q1 : W.cell? ⟨T, 1, none⟩ = some (.string (str a)) := hSw.2.cell 1; have q2 : W.cell? ⟨T, 2, none⟩ = some (.string (str v)) := hSw.2.cell 2; have q3 : W.cell? ⟨T, 3, none⟩ = some (.string (str x)) := hSw.2.cell 3; have q4 : W.cell? ⟨G, 0, none⟩ = some (.string (str r.n)) := hSw.1.1.cell 0; (try dsimp only at hSw); go_simp; (try with_reducible rfl))
            try simp only [Act.put, List.getElem_toArray, List.getElem_cons_zero, List.getElem_cons_succ, List.setIfInBounds_toArray, List.set_cons_zero, List.set_cons_succ]
            refine wpAnyH_take (i := 12) (v := ?v12_2) rfl (by kernel_rfl) (by kernel_rfl) (by kernel_rfl) (fun _ _ _ h => h) (Or.inl ⟨by rfl, ?hy12_2⟩) (by assumption) ?_
            case hy12_2 => (intro W hSw; have q0 : W.cell? ⟨T, 0, none⟩ = some (.int .i64 2) := hSw.2.cell 0; have q1 : W.cell? ⟨T, 1, none⟩ = some (.string (str a)) := hSw.2.cell 1; have q2 : W.cell? ⟨T, 2, none⟩ = some (.string (str v)) := hSw.2.cell 2; have q3 : W.cell? ⟨T, 3, none⟩ = some (.string (str x)) := hSw.2.cell 3; have q4 : W.cell? ⟨G, 0, none⟩ = some (.string (str r.n)) := hSw.1.1.cell 0; (try dsimp only at hSw); go_simp; (try with_reducible rfl))
            try simp only [Act.put, List.getElem_toArray, List.getElem_cons_zero, List.getElem_cons_succ, List.setIfInBounds_toArray, List.set_cons_zero, List.set_cons_succ]
            refine wpAnyH_take (i := 13) (v := ?v13_2) rfl (by kernel_rfl) (by kernel_rfl) (by kernel_rfl) (fun _ _ _ h => h) (Or.inl ⟨by rfl, ?hy13_2⟩) (by assumption) ?_
            case hy13_2 => (intro W hSw; have q0 : W.cell? ⟨T, 0, none⟩ = some (.int .i64 2) := hSw.2.cell 0; have q1 : W.cell? ⟨T, 1, none⟩ = some (.string (str a)) := hSw.2.cell 1; have q2 : W.cell? ⟨T, 2, none⟩ = some (.string (str v)) := hSw.2.cell 2; have q3 : W.cell? ⟨T, 3, none⟩ = some (.string (str x)) := hSw.2.cell 3; have q4 : W.cell? ⟨G, 0, none⟩ = some (.string (str r.n)) := hSw.1.1.cell 0; (try dsimp only at hSw); go_simp; (try with_reducible rfl))
            try simp only [Act.put, List.getElem_toArray, List.getElem_cons_zero, List.getElem_cons_succ, List.setIfInBounds_toArray, List.set_cons_zero, List.set_cons_succ]
            refine wpAnyH_take (i := 14) (v := ?v14_2) rfl (by kernel_rfl) (by kernel_rfl) (by kernel_rfl) (fun _ _ _ h => h) (Or.inl ⟨by rfl, ?hy14_2⟩) (by assumption) ?_
            case hy14_2 => (intro W hSw; have q0 : W.cell? ⟨T, 0, none⟩ = some (.int .i64 2) := hSw.2.cell 0; have q1 : W.cell? ⟨T, 1, none⟩ = some (.string (str a)) := hSw.2.cell 1; have q2 : W.cell? ⟨T, 2, none⟩ = some (.string (str v)) := hSw.2.cell 2; have q3 : W.cell? ⟨T, 3, none⟩ = some (.string (str x)) := hSw.2.cell 3; have q4 : W.cell? ⟨G, 0, none⟩ = some (.string (str r.n)) := hSw.1.1.cell 0; (try dsimp only at hSw); go_simp; (try with_reducible rfl))
            try simp only [Act.put, List.getElem_toArray, List.getElem_cons_zero, List.getElem_cons_succ, List.setIfInBounds_toArray, List.set_cons_zero, List.set_cons_succ]
            refine wpAnyH_take (i := 15) (v := ?v15_2) rfl (by kernel_rfl) (by kernel_rfl) (by kernel_rfl) (fun _ _ _ h => h) (Or.inl ⟨by rfl, ?hy15_2⟩) (by assumption) ?_
            case hy15_2 => (intro W hSw; have q0 : W.cell? ⟨T, 0, none⟩ = some (.int .i64 2) := hSw.2.cell 0; have q1 : W.cell? ⟨T, 1, none⟩ = some (.string (str a)) := hSw.2.cell 1; have q2 : W.cell? ⟨T, 2, none⟩ = some (.string (str v)) := hSw.2.cell 2; have q3 : W.cell? ⟨T, 3, none⟩ = some (.string (str x)) := hSw.2.cell 3; have q4 : W.cell? ⟨G, 0, none⟩ = some (.string (str r.n)) := hSw.1.1.cell 0; (try dsimp only at hSw); go_simp; (try with_reducible rfl))
            try simp only [Act.put, List.getElem_toArray, List.getElem_cons_zero, List.getElem_cons_succ, List.setIfInBounds_toArray, List.set_cons_zero, List.set_cons_succ]
            refine wpAnyH_take (i := 16) (v := ?v16_2) rfl (by kernel_rfl) (by kernel_rfl) (by kernel_rfl) (fun _ _ _ h => h) (Or.inl ⟨by rfl, ?hy16_2⟩) (by assumption) ?_
            case hy16_2 => (intro W hSw; have q0 : W.cell? ⟨T, 0, none⟩ = some (.int .i64 2) := hSw.2.cell 0; have q1 : W.cell? ⟨T, 1, none⟩ = some (.string (str a)) := hSw.2.cell 1; have q2 : W.cell? ⟨T, 2, none⟩ = some (.string (str v)) := hSw.2.cell 2; have q3 : W.cell? ⟨T, 3, none⟩ = some (.string (str x)) := hSw.2.cell 3; have q4 : W.cell? ⟨G, 0, none⟩ = some (.string (str r.n)) := hSw.1.1.cell 0; (try dsimp only at hSw); go_simp; (try with_reducible rfl))
            try simp only [Act.put, List.getElem_toArray, List.getElem_cons_zero, List.getElem_cons_succ, List.setIfInBounds_toArray, List.set_cons_zero, List.set_cons_succ]
            refine wpAnyH_take (i := 17) (v := ?v17_2) rfl (by kernel_rfl) (by kernel_rfl) (by kernel_rfl) (fun _ _ _ h => h) (Or.inl ⟨by rfl, ?hy17_2⟩) (by assumption) ?_
            case hy17_2 => (intro W hSw; have q0 : W.cell? ⟨T, 0, none⟩ = some (.int .i64 2) := hSw.2.cell 0; have q1 : W.cell? ⟨T, 1, none⟩ = some (.string (str a)) := hSw.2.cell 1; have q2 : W.cell? ⟨T, 2, none⟩ = some (.string (str v)) := hSw.2.cell 2; have q3 : W.cell? ⟨T, 3, none⟩ = some (.string (str x)) := hSw.2.cell 3; have q4 : W.cell? ⟨G, 0, none⟩ = some (.string (str r.n)) := hSw.1.1.cell 0; (try dsimp only at hSw); go_simp; (try with_reducible rfl))
            try simp only [Act.put, List.getElem_toArray, List.getElem_cons_zero, List.getElem_cons_succ, List.setIfInBounds_toArray, List.set_cons_zero, List.set_cons_succ]
            refine wpAnyH_take (i := 18) (v := ?v18_2) rfl (by kernel_rfl) (by kernel_rfl) (by kernel_rfl) (fun _ _ _ h => h) (Or.inl ⟨by rfl, ?hy18_2⟩) (by assumption) ?_
            case hy18_2 => (intro W hSw; have q0 : W.cell? ⟨T, 0, none⟩ = some (.int .i64 2) := hSw.2.cell 0; have q1 : W.cell? ⟨T, 1, none⟩ = some (.string (str a)) := hSw.2.cell 1; have q2 : W.cell? ⟨T, 2, none⟩ = some (.string (str v)) := hSw.2.cell 2; have q3 : W.cell? ⟨T, 3, none⟩ = some (.string (str x)) := hSw.2.cell 3; have q4 : W.cell? ⟨G, 0, none⟩ = some (.string (str r.n)) := hSw.1.1.cell 0; (try dsimp only at hSw); go_simp; (try with_reducible rfl))
            try simp only [Act.put, List.getElem_toArray, List.getElem_cons_zero, List.getElem_cons_succ, List.setIfInBounds_toArray, List.set_cons_zero, List.set_cons_succ]
            refine wpAnyH_take (i := 19) (v := ?v19_2) rfl (by kernel_rfl) (by kernel_rfl) (by kernel_rfl) (fun _ _ _ h => h) (Or.inl ⟨by rfl, ?hy19_2⟩) (by assumption) ?_
            case hy19_2 => (intro W hSw; have q0 : W.cell? ⟨T, 0, none⟩ = some (.int .i64 2) := hSw.2.cell 0; have q1 : W.cell? ⟨T, 1, none⟩ = some (.string (str a)) := hSw.2.cell 1; have q2 : W.cell? ⟨T, 2, none⟩ = some (.string (str v)) := hSw.2.cell 2; have q3 : W.cell? ⟨T, 3, none⟩ = some (.string (str x)) := hSw.2.cell 3; have q4 : W.cell? ⟨G, 0, none⟩ = some (.string (str r.n)) := hSw.1.1.cell 0; (try dsimp only at hSw); go_simp; (try with_reducible rfl))
            try simp only [Act.put, List.getElem_toArray, List.getElem_cons_zero, List.getElem_cons_succ, List.setIfInBounds_toArray, List.set_cons_zero, List.set_cons_succ]
            refine wpAnyH_ready (rs := [20]) (by kernel_rfl) (by simp) ?_
            refine AllReadyH.cons rfl (fun K hK => ?_) AllReadyH.nil
            go_simp
            refine (HT.out _).mono ?_
            rintro e6 w6 ⟨rfl, hb6⟩
            refine hK.out _ _ ?_ (fun hHeld2 => ?_)
            · exact ⟨hHeld.1.call hb6, hHeld.2.below hb6 hHeld.2.lt⟩
            clear hK K hHeld 
            have hHeld := hHeld2
            clear hHeld2
            try simp only [Act.put, List.getElem_toArray, List.getElem_cons_zero, List.getElem_cons_succ, List.setIfInBounds_toArray, List.set_cons_zero, List.set_cons_succ]
            refine wpAnyH_take (i := 21) (v := ?v21_2) rfl (by kernel_rfl) (by kernel_rfl) (by kernel_rfl) (fun _ _ _ h => h) (Or.inl ⟨by rfl, ?hy21_2⟩) (by assumption) ?_
            case hy21_2 => (intro W hSw; have q0 : W.cell? ⟨T, 0, none⟩ = some (.int .i64 2) := hSw.2.cell 0; have q1 : W.cell? ⟨T, 1, none⟩ = some (.string (str a)) := hSw.2.cell 1; have q2 : W.cell? ⟨T, 2, none⟩ = some (.string (str v)) := hSw.2.cell 2; have q3 : W.cell? ⟨T, 3, none⟩ = some (.string (str x)) := hSw.2.cell 3; have q4 : W.cell? ⟨G, 0, none⟩ = some (.string (str r.n)) := hSw.1.1.cell 0; (try dsimp only at hSw); go_simp; (try with_reducible rfl))
            try simp only [Act.put, List.getElem_toArray, List.getElem_cons_zero, List.getElem_cons_succ, List.setIfInBounds_toArray, List.set_cons_zero, List.set_cons_succ]
            refine wpAnyH_take (i := 22) (v := ?v22_2) rfl (by kernel_rfl) (by kernel_rfl) (by kernel_rfl) (fun _ _ _ h => h) (Or.inl ⟨by rfl, ?hy22_2⟩) (by assumption) ?_
            case hy22_2 => (intro W hSw; have q0 : W.cell? ⟨T, 0, none⟩ = some (.int .i64 2) := hSw.2.cell 0; have q1 : W.cell? ⟨T, 1, none⟩ = some (.string (str a)) := hSw.2.cell 1; have q2 : W.cell? ⟨T, 2, none⟩ = some (.string (str v)) := hSw.2.cell 2; have q3 : W.cell? ⟨T, 3, none⟩ = some (.string (str x)) := hSw.2.cell 3; have q4 : W.cell? ⟨G, 0, none⟩ = some (.string (str r.n)) := hSw.1.1.cell 0; (try dsimp only at hSw); go_simp; (try with_reducible rfl))
            try simp only [Act.put, List.getElem_toArray, List.getElem_cons_zero, List.getElem_cons_succ, List.setIfInBounds_toArray, List.set_cons_zero, List.set_cons_succ]
            refine wpAnyH_take (i := 23) (v := ?v23_2) rfl (by kernel_rfl) (by kernel_rfl) (by kernel_rfl) (fun _ _ _ h => h) (Or.inl ⟨by rfl, ?hy23_2⟩) (by assumption) ?_
            case hy23_2 => (intro W hSw; have q0 : W.cell? ⟨T, 0, none⟩ = some (.int .i64 2) := hSw.2.cell 0; have q1 : W.cell? ⟨T, 1, none⟩ = some (.string (str a)) := hSw.2.cell 1; have q2 : W.cell? ⟨T, 2, none⟩ = some (.string (str v)) := hSw.2.cell 2; have q3 : W.cell? ⟨T, 3, none⟩ = some (.string (str x)) := hSw.2.cell 3; have q4 : W.cell? ⟨G, 0, none⟩ = some (.string (str r.n)) := hSw.1.1.cell 0; (try dsimp only at hSw); go_simp; (try with_reducible rfl))
            try simp only [Act.put, List.getElem_toArray, List.getElem_cons_zero, List.getElem_cons_succ, List.setIfInBounds_toArray, List.set_cons_zero, List.set_cons_succ]
            refine wpAnyH_done (by kernel_rfl) ?_ _
            go_wp2_with fail
            go_meet
            exact ⟨rfl, hHeld.1, hHeld.2⟩
        case rest =>
          obtain ⟨rfl, hS6, hW6⟩ := hcut
          have q3 : wc.cell? ⟨T, 3, none⟩ = some (.string (str x)) := hW6.out.cell 3
          clear HS5 HW5 c0 c2 c3 n0 hleq
          go_wp2_with fail
          go_loopw [67] (fun i wr => ∃ (j : Nat), j ≤ n ∧ i = .int .i64 j ∧ Hid (FdS wF G r (some ad) dc wr) ∧ Hid (Blk wr T 45 (wyA ⟨2, a, v, x⟩))) (fun i wr => n - (intOf i).toNat)
          case atStart => exact ⟨0, Nat.zero_le _, rfl, hS6, hW6⟩
          case round =>
            obtain ⟨j, hj, rfl, hSj, hWj⟩ := hrel
            by_cases hjt : j < n
            · have f0 : (0 : Int) ≤ (j : Int) := by omega
              have f1 : (j : Int) < (n : Int) := by omega
              obtain ⟨ad2, f, rfl, hab2, hf, r0, r1, r2⟩ := (HL2.out.below hSj.out.2.2).at_ hjt
              have z1 : (ad2.add (j * 3)).block < wr.heap.size := by rw [block_addR]; have := hSj.out.2.2.size; omega
              have hfm := List.mem_of_getElem? hf
              obtain ⟨y, hy⟩ : ∃ y, pathW nmsP f.p = y := ⟨_, rfl⟩
              have HPf := Lib.hid (fun W => path_at hy (HS.out f hfm).1 W)
              have HNF := HNO.out f hfm
              rw [hy] at HNF
              have HNG := Lib.hid HNF
              have hSa : Hid (FdS wF G r (some ad) dc (wr.alloc (.cells #[.string (str f.p), .string (str f.t), .string (str f.l)] 38))) := hSj.out.alloc _
              have hWa : Hid (Blk (wr.alloc (.cells #[.string (str f.p), .string (str f.t), .string (str f.l)] 38)) T 45 (wyA ⟨2, a, v, x⟩)) := hWj.out.alloc _
              have ca : (wr.alloc (.cells #[.string (str f.p), .string (str f.t), .string (str f.l)] 38)).cell? ⟨wr.heap.size, 0, none⟩ = some (.string (str f.p)) := (Blk.new wr 38 #[.string (str f.p), .string (str f.t), .string (str f.l)]).cell 0
              clear HNF hf hy hfm hSj hWj
              go_wp2_with fail
              generalize wr.alloc (.cells #[.string (str f.p), .string (str f.t), .string (str f.l)] 38) = wa at *
              refine (HPf.out _).mono ?_
              rintro e7 w7 ⟨rfl, hb7⟩
              have hS8 : Hid (FdS wF G r (some ad) dc (w7.alloc (.cells #[.int .i64 y.k, .string (str y.pl), .string (str y.u), .string (str y.o)] 45))) := (hSa.out.call hb7).alloc _
              have hW8 : Hid (Blk (w7.alloc (.cells #[.int .i64 y.k, .string (str y.pl), .string (str y.u), .string (str y.o)] 45)) T 45 (wyA ⟨2, a, v, x⟩)) := (hWa.out.below hb7 hWa.out.lt).alloc _
              have hY8 : Hid (Blk (w7.alloc (.cells #[.int .i64 y.k, .string (str y.pl), .string (str y.u), .string (str y.o)] 45)) w7.heap.size 45 (wyA y)) := Blk.new w7 _ _
              have m0 : (w7.alloc (.cells #[.int .i64 y.k, .string (str y.pl), .string (str y.u), .string (str y.o)] 45)).cell? ⟨w7.heap.size, 0, none⟩ = some (.int .i64 y.k) := hY8.out.cell 0
              have m3 : (w7.alloc (.cells #[.int .i64 y.k, .string (str y.pl), .string (str y.u), .string (str y.o)] 45)).cell? ⟨w7.heap.size, 3, none⟩ = some (.string (str y.o)) := hY8.out.cell 3
              have m4 : (w7.alloc (.cells #[.int .i64 y.k, .string (str y.pl), .string (str y.u), .string (str y.o)] 45)).cell? ⟨T, 3, none⟩ = some (.string (str x)) := hW8.out.cell 3
              have hox := eq_strG y.o x
              clear hb7 hSa hWa HPf ca r0 r1 r2 z1
              by_cases h2 : y.k = 2
              · have t1 : (y.k == 2) = true := by simp [h2]
                have t2 : (y.k != 2) = false := by simp [h2]
                by_cases ho : y.o = x
                · obtain ⟨N1, N2⟩ := HNG.out h2 ho
                  rw [decide_eq_true ho] at hox
                  have hun := eq_strG y.u r.n
                  have huv := eq_strG y.u v
                  have hvn := eq_strG v r.n
                  clear h2 ho HNG
                  go_upto_region 19 with fail
                  generalize w7.alloc (.cells #[.int .i64 y.k, .string (str y.pl), .string (str y.u), .string (str y.o)] 45) = w8 at *
                  generalize w7.heap.size = T2 at *
                  by_cases hb1 : y.u = r.n
                  · have hvr : v = r.n := Classical.byContradiction (fun e => N1 ⟨hb1, e⟩)
                    have hb3 : y.u = v := hb1.trans hvr.symm
                    have hrk : ¬ ((rankL y.pl : Int) < (rankL a : Int)) := fun e => N2 ⟨hb3, by omega⟩
                    have hrk2 : decide ((rankL y.pl : Int) < (rankL a : Int)) = false := decide_eq_false hrk
                    have hrk3 : ¬ rankL y.pl < rankL a := fun e => hrk (by omega)
                    have hrk4 : decide (rankL y.pl < rankL a) = false := decide_eq_false hrk3
                    rw [decide_eq_true hb1] at hun
                    rw [decide_eq_true hb3] at huv
                    rw [decide_eq_true hvr] at hvn
                    have HRk1 := Lib.hid (fun W => rank_any y.pl W)
                    have HRk2 := Lib.hid (fun W => rank_any a W)
                    generalize rankL y.pl = rk1 at *
                    generalize rankL a = rk2 at *
                    clear hb1 hb3 hvr N1 N2 hrk
                    refine wp_region_held_drew (S := (fun W => FdS wF G r (some ad) dc W ∧ Blk W T 45 (wyA ⟨2, a, v, x⟩) ∧ Blk W T2 45 (wyA y))) (by kernel_rfl) ?_ (fun hHeld => ?_)
                    · exact ⟨hS8.out.drew, hW8.out, hY8.out⟩
                    refine wpAnyH_take (i := 0) (v := ?v0_3) rfl (by kernel_rfl) (by kernel_rfl) (by kernel_rfl) (fun _ _ _ h => h) (Or.inl ⟨by rfl, ?hy0_3⟩) (by assumption) ?_
                    case hy0_3 => (intro W hSw; have q1 : W.cell? ⟨T, 1, none⟩ = some (.string (str a)) := hSw.2.1.cell 1; have q2 : W.cell? ⟨T, 2, none⟩ = some (.string (str v)) := hSw.2.1.cell 2; have q4 : W.cell? ⟨G, 0, none⟩ = some (.string (str r.n)) := hSw.1.1.cell 0; have q5 : W.cell? ⟨T2, 1, none⟩ = some (.string (str y.pl)) := hSw.2.2.cell 1; have q6 : W.cell? ⟨T2, 2, none⟩ = some (.string (str y.u)) := hSw.2.2.cell 2; (try dsimp only at hSw); go_simp; (try with_reducible rfl))
                    try simp only [Act.put, List.getElem_toArray, List.getElem_cons_zero, List.setIfInBounds_toArray, List.set_cons_zero, List.set_cons_succ]
                    refine wpAnyH_take (i := 1) (v := ?v1_3) rfl (by kernel_rfl) (by kernel_rfl) (by kernel_rfl) (fun _ _ _ h => h) (Or.inl ⟨by rfl, ?hy1_3⟩) (by assumption) ?_
                    case hy1_3 => (intro W hSw; have q1 : W.cell? ⟨T, 1, none⟩ = some (.string (str a)) := hSw.2.1.cell 1; have q2 : W.cell? ⟨T, 2, none⟩ = some (.string (str v)) := hSw.2.1.cell 2; have q4 : W.cell? ⟨G, 0, none⟩ = some (.string (str r.n)) := hSw.1.1.cell 0; have q5 : W.cell? ⟨T2, 1, none⟩ = some (.string (str y.pl)) := hSw.2.2.cell 1; have q6 : W.cell? ⟨T2, 2, none⟩ = some (.string (str y.u)) := hSw.2.2.cell 2; (try dsimp only at hSw); go_simp; (try with_reducible rfl))
                    try simp only [Act.put, List.getElem_toArray, List.getElem_cons_zero, List.getElem_cons_succ, List.setIfInBounds_toArray, List.set_cons_zero, List.set_cons_succ]
                    refine wpAnyH_take (i := 2) (v := ?v2_3) rfl (by kernel_rfl) (by kernel_rfl) (by kernel_rfl) (fun _ _ _ h => h) (Or.inl ⟨by rfl, ?hy2_3⟩) (by assumption) ?_
                    case hy2_3 => (intro W hSw; have q1 : W.cell? ⟨T, 1, none⟩ = some (.string (str a)) := hSw.2.1.cell 1; have q2 : W.cell? ⟨T, 2, none⟩ = some (.string (str v)) := hSw.2.1.cell 2; have q4 : W.cell? ⟨G, 0, none⟩ = some (.string (str r.n)) := hSw.1.1.cell 0; have q5 : W.cell? ⟨T2, 1, none⟩ = some (.string (str y.pl)) := hSw.2.2.cell 1; have q6 : W.cell? ⟨T2, 2, none⟩ = some (.string (str y.u)) := hSw.2.2.cell 2; (try dsimp only at hSw); go_simp; (try with_reducible rfl))
                    try simp only [Act.put, List.getElem_toArray, List.getElem_cons_zero, List.getElem_cons_succ, List.setIfInBounds_toArray, List.set_cons_zero, List.set_cons_succ]
                    refine wpAnyH_take (i := 3) (v := ?v3_3) rfl (by kernel_rfl) (by kernel_rfl) (by kernel_rfl) (fun _ _ _ h => h) (Or.inl ⟨by rfl, ?hy3_3⟩) (by assumption) ?_
                    case hy3_3 => (intro W hSw; have q1 : W.cell? ⟨T, 1, none⟩ = some (.string (str a)) := hSw.2.1.cell 1; have q2 : W.cell? ⟨T, 2, none⟩ = some (.string (str v)) := hSw.2.1.cell 2; have q4 : W.cell? ⟨G, 0, none⟩ = some (.string (str r.n)) := hSw.1.1.cell 0; have q5 : W.cell? ⟨T2, 1, none⟩ = some (.string (str y.pl)) := hSw.2.2.cell 1; have q6 : W.cell? ⟨T2, 2, none⟩ = some (.string (str y.u)) := hSw.2.2.cell 2; (try dsimp only at hSw); go_simp; (try with_reducible rfl))
                    try simp only [Act.put, List.getElem_toArray, List.getElem_cons_zero, List.getElem_cons_succ, List.setIfInBounds_toArray, List.set_cons_zero, List.set_cons_succ]
                    refine wpAnyH_take (i := 4) (v := ?v4_3) rfl (by kernel_rfl) (by kernel_rfl) (by kernel_rfl) (fun _ _ _ h => h) (Or.inl ⟨by rfl, ?hy4_3⟩) (by assumption) ?_
                    case hy4_3 => (intro W hSw; have q1 : W.cell? ⟨T, 1, none⟩ = some (.string (str a)) := hSw.2.1.cell 1; have q2 : W.cell? ⟨T, 2, none⟩ = some (.string (str v)) := hSw.2.1.cell 2; have q4 : W.cell? ⟨G, 0, none⟩ = some (.string (str r.n)) := hSw.1.1.cell 0; have q5 : W.cell? ⟨T2, 1, none⟩ = some (.string (str y.pl)) := hSw.2.2.cell 1; have q6 : W.cell? ⟨T2, 2, none⟩ = some (.string (str y.u)) := hSw.2.2.cell 2; (try dsimp only at hSw); go_simp; (try with_reducible rfl))
                    try simp only [Act.put, List.getElem_toArray, List.getElem_cons_zero, List.getElem_cons_succ, List.setIfInBounds_toArray, List.set_cons_zero, List.set_cons_succ]
                    refine wpAnyH_take (i := 5) (v := ?v5_3) rfl (by kernel_rfl) (by kernel_rfl) (by kernel_rfl) (fun _ _ _ h => h) (Or.inl ⟨by rfl, ?hy5_3⟩) (by assumption) ?_
                    case hy5_3 => (intro W hSw; have q1 : W.cell? ⟨T, 1, none⟩ = some (.string (str a)) := hSw.2.1.cell 1; have q2 : W.cell? ⟨T, 2, none⟩ = some (.string (str v)) := hSw.2.1.cell 2; have q4 : W.cell? ⟨G, 0, none⟩ = some (.string (str r.n)) := hSw.1.1.cell 0; have q5 : W.cell? ⟨T2, 1, none⟩ = some (.string (str y.pl)) := hSw.2.2.cell 1; have q6 : W.cell? ⟨T2, 2, none⟩ = some (.string (str y.u)) := hSw.2.2.cell 2; (try dsimp only at hSw); go_simp; (try with_reducible rfl))
                    try simp only [Act.put, List.getElem_toArray, List.getElem_cons_zero, List.getElem_cons_succ, List.setIfInBounds_toArray, List.set_cons_zero, List.set_cons_succ]
                    refine wpAnyH_take (i := 6) (v := ?v6_3) rfl (by kernel_rfl) (by kernel_rfl) (by kernel_rfl) (fun _ _ _ h => h) (Or.inl ⟨by rfl, ?hy6_3⟩) (by assumption) ?_
                    case hy6_3 => (intro W hSw; have q1 : W.cell? ⟨T, 1, none⟩ = some (.string (str a)) := hSw.2.1.cell 1; have q2 : W.cell? ⟨T, 2, none⟩ = some (.string (str v)) := hSw.2.1.cell 2; have q4 : W.cell? ⟨G, 0, none⟩ = some (.string (str r.n)) := hSw.1.1.cell 0; have q5 : W.cell? ⟨T2, 1, none⟩ = some (.string (str y.pl)) := hSw.2.2.cell 1; have q6 : W.cell? ⟨T2, 2, none⟩ = some (.string (str y.u)) := hSw.2.2.cell 2; (try dsimp only at hSw); go_simp; (try with_reducible rfl))
                    try simp only [Act.put, List.getElem_toArray, List.getElem_cons_zero, List.getElem_cons_succ, List.setIfInBounds_toArray, List.set_cons_zero, List.set_cons_succ]
                    refine wpAnyH_take (i := 7) (v := ?v7_3) rfl (by kernel_rfl) (by kernel_rfl) (by kernel_rfl) (fun _ _ _ h => h) (Or.inl ⟨by rfl, ?hy7_3⟩) (by assumption) ?_
                    case hy7_3 => (intro W hSw; have q1 : W.cell? ⟨T, 1, none⟩ = some (.string (str a)) := hSw.2.1.cell 1; have q2 : W.cell? ⟨T, 2, none⟩ = some (.string (str v)) := hSw.2.1.cell 2; have q4 : W.cell? ⟨G, 0, none⟩ = some (.string (str r.n)) := hSw.1.1.cell 0; have q5 : W.cell? ⟨T2, 1, none⟩ = some (.string (str y.pl)) := hSw.2.2.cell 1; have q6 : W.cell? ⟨T2, 2, none⟩ = some (.string (str y.u)) := hSw.2.2.cell 2; (try dsimp only at hSw); go_simp; (try with_reducible rfl))
                    try simp only [Act.put, List.getElem_toArray, List.getElem_cons_zero, List.getElem_cons_succ, List.setIfInBounds_toArray, List.set_cons_zero, List.set_cons_succ]
                    refine wpAnyH_take (i := 8) (v := ?v8_3) rfl (by kernel_rfl) (by kernel_rfl) (by kernel_rfl) (fun _ _ _ h => h) (Or.inl ⟨by rfl, ?hy8_3⟩) (by assumption) ?_
                    case hy8_3 => (intro W hSw; have q1 : W.cell? ⟨T, 1, none⟩ = some (.string (str a)) := hSw.2.1.cell 1; have q2 : W.cell? ⟨T, 2, none⟩ = some (.string (str v)) := hSw.2.1.cell 2; have q4 : W.cell? ⟨G, 0, none⟩ = some (.string (str r.n)) := hSw.1.1.cell 0; have q5 : W.cell? ⟨T2, 1, none⟩ = some (.string (str y.pl)) := hSw.2.2.cell 1; have q6 : W.cell? ⟨T2, 2, none⟩ = some (.string (str y.u)) := hSw.2.2.cell 2; (try dsimp only at hSw); go_simp; (try with_reducible rfl))
                    try simp only [Act.put, List.getElem_toArray, List.getElem_cons_zero, List.getElem_cons_succ, List.setIfInBounds_toArray, List.set_cons_zero, List.set_cons_succ]
                    refine wpAnyH_take (i := 9) (v := ?v9_3) rfl (by kernel_rfl) (by kernel_rfl) (by kernel_rfl) (fun _ _ _ h => h) (Or.inl ⟨by rfl, ?hy9_3⟩) (by assumption) ?_
                    case hy9_3 => (intro W hSw; have q1 : W.cell? ⟨T, 1, none⟩ = some (.string (str a)) := hSw.2.1.cell 1; have q2 : W.cell? ⟨T, 2, none⟩ = some (.string (str v)) := hSw.2.1.cell 2; have q4 : W.cell? ⟨G, 0, none⟩ = some (.string (str r.n)) := hSw.1.1.cell 0; have q5 : W.cell? ⟨T2, 1, none⟩ = some (.string (str y.pl)) := hSw.2.2.cell 1; have q6 : W.cell? ⟨T2, 2, none⟩ = some (.string (str y.u)) := hSw.2.2.cell 2; (try dsimp only at hSw); go_simp; (try with_reducible rfl))
                    try simp only [Act.put, List.getElem_toArray, List.getElem_cons_zero, List.getElem_cons_succ, List.setIfInBounds_toArray, List.set_cons_zero, List.set_cons_succ]
                    refine wpAnyH_take (i := 10) (v := ?v10_3) rfl (by kernel_rfl) (by kernel_rfl) (by kernel_rfl) (fun _ _ _ h => h) (Or.inl ⟨by rfl, ?hy10_3⟩) (by assumption) ?_
                    case hy10_3 => (intro W hSw; have q1 : W.cell? ⟨T, 1, none⟩ = some (.string (str a)) := hSw.2.1.cell 1; have q2 : W.cell? ⟨T, 2, none⟩ = some (.string (str v)) := hSw.2.1.cell 2; have q4 : W.cell? ⟨G, 0, none⟩ = some (.string (str r.n)) := hSw.1.1.cell 0; have q5 : W.cell? ⟨T2, 1, none⟩ = some (.string (str y.pl)) := hSw.2.2.cell 1; have q6 : W.cell? ⟨T2, 2, none⟩ = some (.string (str y.u)) := hSw.2.2.cell 2; (try dsimp only at hSw); go_simp; (try with_reducible rfl))
                    try simp only [Act.put, List.getElem_toArray, List.getElem_cons_zero, List.getElem_cons_succ, List.setIfInBounds_toArray, List.set_cons_zero, List.set_cons_succ]
                    refine wpAnyH_take (i := 11) (v := ?v11_3) rfl (by kernel_rfl) (by kernel_rfl) (by kernel_rfl) (fun _ _ _ h => h) (Or.inl ⟨by rfl, ?hy11_3⟩) (by assumption) ?_
                    case hy11_3 => (intro W hSw; have q1 : W.cell? ⟨T, 1, none⟩ = some (.string (str a)) := hSw.2.1.cell 1; have q2 : W.cell? ⟨T, 2, none⟩ = some (.string (str v)) := hSw.2.1.cell 2; have q4 : W.cell? ⟨G, 0, none⟩ = some (.string (str r.n)) := hSw.1.1.cell 0; have q5 : W.cell? ⟨T2, 1, none⟩ = some (.string (str y.pl)) := hSw.2.2.cell 1; have q6 : W.cell? ⟨T2, 2, none⟩ = some (.string (str y.u)) := hSw.2.2.cell 2; (try dsimp only at hSw); go_simp; (try with_reducible rfl))
                    try simp only [Act.put, List.getElem_toArray, List.getElem_cons_zero, List.getElem_cons_succ, List.setIfInBounds_toArray, List.set_cons_zero, List.set_cons_succ]
                    refine wpAnyH_take (i := 12) (v := ?v12_3) rfl (by kernel_rfl) (by kernel_rfl) (by kernel_rfl) (fun _ _ _ h => h) (Or.inl ⟨by rfl, ?hy12_3⟩) (by assumption) ?_
                    case hy12_3 => (intro W hSw; have q1 : W.cell? ⟨T, 1, none⟩ = some (.string (str a)) := hSw.2.1.cell 1; have q2 : W.cell? ⟨T, 2, none⟩ = some (.string (str v)) := hSw.2.1.cell 2; have q4 : W.cell? ⟨G, 0, none⟩ = some (.string (str r.n)) := hSw.1.1.cell 0; have q5 : W.cell? ⟨T2, 1, none⟩ = some (.string (str y.pl)) := hSw.2.2.cell 1; have q6 : W.cell? ⟨T2, 2, none⟩ = some (.string (str y.u)) := hSw.2.2.cell 2; (try dsimp only at hSw); go_simp; (try with_reducible rfl))
                    try simp only [Act.put, List.getElem_toArray, List.getElem_cons_zero, List.getElem_cons_succ, List.setIfInBounds_toArray, List.set_cons_zero, List.set_cons_succ]
                    refine wpAnyH_take (i := 13) (v := ?v13_3) rfl (by kernel_rfl) (by kernel_rfl) (by kernel_rfl) (fun _ _ _ h => h) (Or.inl ⟨by rfl, ?hy13_3⟩) (by assumption) ?_
                    case hy13_3 => (intro W hSw; have q1 : W.cell? ⟨T, 1, none⟩ = some (.string (str a)) := hSw.2.1.cell 1; have q2 : W.cell? ⟨T, 2, none⟩ = some (.string (str v)) := hSw.2.1.cell 2; have q4 : W.cell? ⟨G, 0, none⟩ = some (.string (str r.n)) := hSw.1.1.cell 0; have q5 : W.cell? ⟨T2, 1, none⟩ = some (.string (str y.pl)) := hSw.2.2.cell 1; have q6 : W.cell? ⟨T2, 2, none⟩ = some (.string (str y.u)) := hSw.2.2.cell 2; (try dsimp only at hSw); go_simp; (try with_reducible rfl))
                    try simp only [Act.put, List.getElem_toArray, List.getElem_cons_zero, List.getElem_cons_succ, List.setIfInBounds_toArray, List.set_cons_zero, List.set_cons_succ]
                    refine wpAnyH_take (i := 14) (v := ?v14_3) rfl (by kernel_rfl) (by kernel_rfl) (by kernel_rfl) (fun _ _ _ h => h) (Or.inl ⟨by rfl, ?hy14_3⟩) (by assumption) ?_
                    case hy14_3 => (intro W hSw; have q1 : W.cell? ⟨T, 1, none⟩ = some (.string (str a)) := hSw.2.1.cell 1; have q2 : W.cell? ⟨T, 2, none⟩ = some (.string (str v)) := hSw.2.1.cell 2; have q4 : W.cell? ⟨G, 0, none⟩ = some (.string (str r.n)) := hSw.1.1.cell 0; have q5 : W.cell? ⟨T2, 1, none⟩ = some (.string (str y.pl)) := hSw.2.2.cell 1; have q6 : W.cell? ⟨T2, 2, none⟩ = some (.string (str y.u)) := hSw.2.2.cell 2; (try dsimp only at hSw); go_simp; (try with_reducible rfl))
                    try simp only [Act.put, List.getElem_toArray, List.getElem_cons_zero, List.getElem_cons_succ, List.setIfInBounds_toArray, List.set_cons_zero, List.set_cons_succ]
                    refine wpAnyH_take (i := 15) (v := ?v15_3) rfl (by kernel_rfl) (by kernel_rfl) (by kernel_rfl) (fun _ _ _ h => h) (Or.inl ⟨by rfl, ?hy15_3⟩) (by assumption) ?_
                    case hy15_3 => (intro W hSw; have q1 : W.cell? ⟨T, 1, none⟩ = some (.string (str a)) := hSw.2.1.cell 1; have q2 : W.cell? ⟨T, 2, none⟩ = some (.string (str v)) := hSw.2.1.cell 2; have q4 : W.cell? ⟨G, 0, none⟩ = some (.string (str r.n)) := hSw.1.1.cell 0; have q5 : W.cell? ⟨T2, 1, none⟩ = some (.string (str y.pl)) := hSw.2.2.cell 1; have q6 : W.cell? ⟨T2, 2, none⟩ = some (.string (str y.u)) := hSw.2.2.cell 2; (try dsimp only at hSw); go_simp; (try with_reducible rfl))
                    try simp only [Act.put, List.getElem_toArray, List.getElem_cons_zero, List.getElem_cons_succ, List.setIfInBounds_toArray, List.set_cons_zero, List.set_cons_succ]
                    refine wpAnyH_take (i := 16) (v := ?v16_3) rfl (by kernel_rfl) (by kernel_rfl) (by kernel_rfl) (fun _ _ _ h => h) (Or.inl ⟨by rfl, ?hy16_3⟩) (by assumption) ?_
                    case hy16_3 => (intro W hSw; have q1 : W.cell? ⟨T, 1, none⟩ = some (.string (str a)) := hSw.2.1.cell 1; have q2 : W.cell? ⟨T, 2, none⟩ = some (.string (str v)) := hSw.2.1.cell 2; have q4 : W.cell? ⟨G, 0, none⟩ = some (.string (str r.n)) := hSw.1.1.cell 0; have q5 : W.cell? ⟨T2, 1, none⟩ = some (.string (str y.pl)) := hSw.2.2.cell 1; have q6 : W.cell? ⟨T2, 2, none⟩ = some (.string (str y.u)) := hSw.2.2.cell 2; (try dsimp only at hSw); go_simp; (try with_reducible rfl))
                    try simp only [Act.put, List.getElem_toArray, List.getElem_cons_zero, List.getElem_cons_succ, List.setIfInBounds_toArray, List.set_cons_zero, List.set_cons_succ]
                    refine wpAnyH_take (i := 17) (v := ?v17_3) rfl (by kernel_rfl) (by kernel_rfl) (by kernel_rfl) (fun _ _ _ h => h) (Or.inl ⟨by rfl, ?hy17_3⟩) (by assumption) ?_
                    case hy17_3 => (intro W hSw; have q1 : W.cell? ⟨T, 1, none⟩ = some (.string (str a)) := hSw.2.1.cell 1; have q2 : W.cell? ⟨T, 2, none⟩ = some (.string (str v)) := hSw.2.1.cell 2; have q4 : W.cell? ⟨G, 0, none⟩ = some (.string (str r.n)) := hSw.1.1.cell 0; have q5 : W.cell? ⟨T2, 1, none⟩ = some (.string (str y.pl)) := hSw.2.2.cell 1; have q6 : W.cell? ⟨T2, 2, none⟩ = some (.string (str y.u)) := hSw.2.2.cell 2; (try dsimp only at hSw); go_simp; (try with_reducible rfl))
                    try simp only [Act.put, List.getElem_toArray, List.getElem_cons_zero, List.getElem_cons_succ, List.setIfInBounds_toArray, List.set_cons_zero, List.set_cons_succ]
                    refine wpAnyH_take (i := 18) (v := ?v18_3) rfl (by kernel_rfl) (by kernel_rfl) (by kernel_rfl) (fun _ _ _ h => h) (Or.inl ⟨by rfl, ?hy18_3⟩) (by assumption) ?_
                    case hy18_3 => (intro W hSw; have q1 : W.cell? ⟨T, 1, none⟩ = some (.string (str a)) := hSw.2.1.cell 1; have q2 : W.cell? ⟨T, 2, none⟩ = some (.string (str v)) := hSw.2.1.cell 2; have q4 : W.cell? ⟨G, 0, none⟩ = some (.string (str r.n)) := hSw.1.1.cell 0; have q5 : W.cell? ⟨T2, 1, none⟩ = some (.string (str y.pl)) := hSw.2.2.cell 1; have q6 : W.cell? ⟨T2, 2, none⟩ = some (.string (str y.u)) := hSw.2.2.cell 2; (try dsimp only at hSw); go_simp; (try with_reducible rfl))
                    try simp only [Act.put, List.getElem_toArray, List.getElem_cons_zero, List.getElem_cons_succ, List.setIfInBounds_toArray, List.set_cons_zero, List.set_cons_succ]
                    refine wpAnyH_take (i := 19) (v := ?v19_3) rfl (by kernel_rfl) (by kernel_rfl) (by kernel_rfl) (fun _ _ _ h => h) (Or.inl ⟨by rfl, ?hy19_3⟩) (by assumption) ?_
                    case hy19_3 => (intro W hSw; have q1 : W.cell? ⟨T, 1, none⟩ = some (.string (str a)) := hSw.2.1.cell 1; have q2 : W.cell? ⟨T, 2, none⟩ = some (.string (str v)) := hSw.2.1.cell 2; have q4 : W.cell? ⟨G, 0, none⟩ = some (.string (str r.n)) := hSw.1.1.cell 0; have q5 : W.cell? ⟨T2, 1, none⟩ = some (.string (str y.pl)) := hSw.2.2.cell 1; have q6 : W.cell? ⟨T2, 2, none⟩ = some (.string (str y.u)) := hSw.2.2.cell 2; (try dsimp only at hSw); go_simp; (try with_reducible rfl))
                    try simp only [Act.put, List.getElem_toArray, List.getElem_cons_zero, List.getElem_cons_succ, List.setIfInBounds_toArray, List.set_cons_zero, List.set_cons_succ]
                    refine wpAnyH_take (i := 20) (v := ?v20_3) rfl (by kernel_rfl) (by kernel_rfl) (by kernel_rfl) (fun _ _ _ h => h) (Or.inl ⟨by rfl, ?hy20_3⟩) (by assumption) ?_
                    case hy20_3 => (intro W hSw; have q1 : W.cell? ⟨T, 1, none⟩ = some (.string (str a)) := hSw.2.1.cell 1; have q2 : W.cell? ⟨T, 2, none⟩ = some (.string (str v)) := hSw.2.1.cell 2; have q4 : W.cell? ⟨G, 0, none⟩ = some (.string (str r.n)) := hSw.1.1.cell 0; have q5 : W.cell? ⟨T2, 1, none⟩ = some (.string (str y.pl)) := hSw.2.2.cell 1; have q6 : W.cell? ⟨T2, 2, none⟩ = some (.string (str y.u)) := hSw.2.2.cell 2; (try dsimp only at hSw); go_simp; (try with_reducible rfl))
                    try simp only [Act.put, List.getElem_toArray, List.getElem_cons_zero, List.getElem_cons_succ, List.setIfInBounds_toArray, List.set_cons_zero, List.set_cons_succ]
                    refine wpAnyH_take (i := 22) (v := ?v22_3) rfl (by kernel_rfl) (by kernel_rfl) (by kernel_rfl) (fun _ _ _ h => h) (Or.inl ⟨by rfl, ?hy22_3⟩) (by assumption) ?_
                    case hy22_3 => (intro W hSw; have q1 : W.cell? ⟨T, 1, none⟩ = some (.string (str a)) := hSw.2.1.cell 1; have q2 : W.cell? ⟨T, 2, none⟩ = some (.string (str v)) := hSw.2.1.cell 2; have q4 : W.cell? ⟨G, 0, none⟩ = some (.string (str r.n)) := hSw.1.1.cell 0; have q5 : W.cell? ⟨T2, 1, none⟩ = some (.string (str y.pl)) := hSw.2.2.cell 1; have q6 : W.cell? ⟨T2, 2, none⟩ = some (.string (str y.u)) := hSw.2.2.cell 2; (try dsimp only at hSw); go_simp; (try with_reducible rfl))
                    try simp only [Act.put, List.getElem_toArray, List.getElem_cons_zero, List.getElem_cons_succ, List.setIfInBounds_toArray, List.set_cons_zero, List.set_cons_succ]
                    refine wpAnyH_take (i := 23) (v := ?v23_3) rfl (by kernel_rfl) (by kernel_rfl) (by kernel_rfl) (fun _ _ _ h => h) (Or.inl ⟨by rfl, ?hy23_3⟩) (by assumption) ?_
                    case hy23_3 => (intro W hSw; have q1 : W.cell? ⟨T, 1, none⟩ = some (.string (str a)) := hSw.2.1.cell 1; have q2 : W.cell? ⟨T, 2, none⟩ = some (.string (str v)) := hSw.2.1.cell 2; have q4 : W.cell? ⟨G, 0, none⟩ = some (.string (str r.n)) := hSw.1.1.cell 0; have q5 : W.cell? ⟨T2, 1, none⟩ = some (.string (str y.pl)) := hSw.2.2.cell 1; have q6 : W.cell? ⟨T2, 2, none⟩ = some (.string (str y.u)) := hSw.2.2.cell 2; (try dsimp only at hSw); go_simp; (try with_reducible rfl))
                    try simp only [Act.put, List.getElem_toArray, List.getElem_cons_zero, List.getElem_cons_succ, List.setIfInBounds_toArray, List.set_cons_zero, List.set_cons_succ]
                    refine wpAnyH_ready (rs := [21]) (by kernel_rfl) (by simp) ?_
                    refine AllReadyH.cons rfl (fun K hK => ?_) AllReadyH.nil
                    go_simp
                    refine (HRk1.out _).mono ?_
                    rintro e9 w9 ⟨rfl, hb9⟩
                    refine hK.out _ _ ?_ (fun hHeld2 => ?_)
                    · exact ⟨hHeld.1.call hb9, hHeld.2.1.below hb9 hHeld.2.1.lt, hHeld.2.2.below hb9 hHeld.2.2.lt⟩
                    clear hK K hHeld 
                    have hHeld := hHeld2
                    clear hHeld2
                    try simp only [Act.put, List.getElem_toArray, List.getElem_cons_zero, List.getElem_cons_succ, List.setIfInBounds_toArray, List.set_cons_zero, List.set_cons_succ]
                    refine wpAnyH_ready (rs := [24]) (by kernel_rfl) (by simp) ?_
                    refine AllReadyH.cons rfl (fun K hK => ?_) AllReadyH.nil
                    go_simp
                    refine (HRk2.out _).mono ?_
                    rintro e9 w9 ⟨rfl, hb9⟩
                    refine hK.out _ _ ?_ (fun hHeld2 => ?_)
                    · exact ⟨hHeld.1.call hb9, hHeld.2.1.below hb9 hHeld.2.1.lt, hHeld.2.2.below hb9 hHeld.2.2.lt⟩
                    clear hK K hHeld 
                    have hHeld := hHeld2
                    clear hHeld2
                    try simp only [Act.put, List.getElem_toArray, List.getElem_cons_zero, List.getElem_cons_succ, List.setIfInBounds_toArray, List.set_cons_zero, List.set_cons_succ]
                    refine wpAnyH_take (i := 25) (v := ?v25_3) rfl (by kernel_rfl) (by kernel_rfl) (by kernel_rfl) (fun _ _ _ h => h) (Or.inl ⟨by rfl, ?hy25_3⟩) (by assumption) ?_
                    case hy25_3 => (intro W hSw; have q1 : W.cell? ⟨T, 1, none⟩ = some (.string (str a)) := hSw.2.1.cell 1; have q2 : W.cell? ⟨T, 2, none⟩ = some (.string (str v)) := hSw.2.1.cell 2; have q4 : W.cell? ⟨G, 0, none⟩ = some (.string (str r.n)) := hSw.1.1.cell 0; have q5 : W.cell? ⟨T2, 1, none⟩ = some (.string (str y.pl)) := hSw.2.2.cell 1; have q6 : W.cell? ⟨T2, 2, none⟩ = some (.string (str y.u)) := hSw.2.2.cell 2; (try dsimp only at hSw); go_simp; (try with_reducible rfl))
                    try simp only [Act.put, List.getElem_toArray, List.getElem_cons_zero, List.getElem_cons_succ, List.setIfInBounds_toArray, List.set_cons_zero, List.set_cons_succ]
                    refine wpAnyH_take (i := 26) (v := ?v26_3) rfl (by kernel_rfl) (by kernel_rfl) (by kernel_rfl) (fun _ _ _ h => h) (Or.inl ⟨by rfl, ?hy26_3⟩) (by assumption) ?_
                    case hy26_3 => (intro W hSw; have q1 : W.cell? ⟨T, 1, none⟩ = some (.string (str a)) := hSw.2.1.cell 1; have q2 : W.cell? ⟨T, 2, none⟩ = some (.string (str v)) := hSw.2.1.cell 2; have q4 : W.cell? ⟨G, 0, none⟩ = some (.string (str r.n)) := hSw.1.1.cell 0; have q5 : W.cell? ⟨T2, 1, none⟩ = some (.string (str y.pl)) := hSw.2.2.cell 1; have q6 : W.cell? ⟨T2, 2, none⟩ = some (.string (str y.u)) := hSw.2.2.cell 2; (try dsimp only at hSw); go_simp; (try with_reducible rfl))
                    try simp only [Act.put, List.getElem_toArray, List.getElem_cons_zero, List.getElem_cons_succ, List.setIfInBounds_toArray, List.set_cons_zero, List.set_cons_succ]
                    refine wpAnyH_take (i := 27) (v := ?v27_3) rfl (by kernel_rfl) (by kernel_rfl) (by kernel_rfl) (fun _ _ _ h => h) (Or.inl ⟨by rfl, ?hy27_3⟩) (by assumption) ?_
                    case hy27_3 => (intro W hSw; have q1 : W.cell? ⟨T, 1, none⟩ = some (.string (str a)) := hSw.2.1.cell 1; have q2 : W.cell? ⟨T, 2, none⟩ = some (.string (str v)) := hSw.2.1.cell 2; have q4 : W.cell? ⟨G, 0, none⟩ = some (.string (str r.n)) := hSw.1.1.cell 0; have q5 : W.cell? ⟨T2, 1, none⟩ = some (.string (str y.pl)) := hSw.2.2.cell 1; have q6 : W.cell? ⟨T2, 2, none⟩ = some (.string (str y.u)) := hSw.2.2.cell 2; (try dsimp only at hSw); go_simp; (try with_reducible rfl))
                    try simp only [Act.put, List.getElem_toArray, List.getElem_cons_zero, List.getElem_cons_succ, List.setIfInBounds_toArray, List.set_cons_zero, List.set_cons_succ]
                    refine wpAnyH_done (by kernel_rfl) ?_ _
                    go_wp2_with fail
                    go_roundw
                    case rel => exact ⟨j + 1, by omega, by go_num, hHeld.1, hHeld.2.1⟩
                    case measure => simp [intOf]; omega
                  · rw [decide_eq_false hb1] at hun
                    by_cases hb3 : y.u = v
                    · have hrk : ¬ ((rankL y.pl : Int) < (rankL a : Int)) := fun e => N2 ⟨hb3, by omega⟩
                      have hrk2 : decide ((rankL y.pl : Int) < (rankL a : Int)) = false := decide_eq_false hrk
                      have hrk3 : ¬ rankL y.pl < rankL a := fun e => hrk (by omega)
                      have hrk4 : decide (rankL y.pl < rankL a) = false := decide_eq_false hrk3
                      rw [decide_eq_true hb3] at huv
                      have HRk1 := Lib.hid (fun W => rank_any y.pl W)
                      have HRk2 := Lib.hid (fun W => rank_any a W)
                      generalize rankL y.pl = rk1 at *
                      generalize rankL a = rk2 at *
                      clear hb1 hb3 N1 N2 hvn hrk
                      refine wp_region_held_drew (S := (fun W => FdS wF G r (some ad) dc W ∧ Blk W T 45 (wyA ⟨2, a, v, x⟩) ∧ Blk W T2 45 (wyA y))) (by kernel_rfl) ?_ (fun hHeld => ?_)
                      · exact ⟨hS8.out.drew, hW8.out, hY8.out⟩
                      refine wpAnyH_take (i := 0) (v := ?v0_4) rfl (by kernel_rfl) (by kernel_rfl) (by kernel_rfl) (fun _ _ _ h => h) (Or.inl ⟨by rfl, ?hy0_4⟩) (by assumption) ?_
                      case hy0_4 => (intro W hSw; have q1 : W.cell? ⟨T, 1, none⟩ = some (.string (str a)) := hSw.2.1.cell 1; have q2 : W.cell? ⟨T, 2, none⟩ = some (.string (str v)) := hSw.2.1.cell 2; have q4 : W.cell? ⟨G, 0, none⟩ = some (.string (str r.n)) := hSw.1.1.cell 0; have q5 : W.cell? ⟨T2, 1, none⟩ = some (.string (str y.pl)) := hSw.2.2.cell 1; have q6 : W.cell? ⟨T2, 2, none⟩ = some (.string (str y.u)) := hSw.2.2.cell 2; (try dsimp only at hSw); go_simp; (try with_reducible rfl))
                      try simp only [Act.put, List.getElem_toArray, List.getElem_cons_zero, List.setIfInBounds_toArray, List.set_cons_zero, List.set_cons_succ]
                      refine wpAnyH_take (i := 1) (v := ?v1_4) rfl (by kernel_rfl) (by kernel_rfl) (by kernel_rfl) (fun _ _ _ h => h) (Or.inl ⟨by rfl, ?hy1_4⟩) (by assumption) ?_
                      case hy1_4 => (intro W hSw; have q1 : W.cell? ⟨T, 1, none⟩ = some (.string (str a)) := hSw.2.1.cell 1; have q2 : W.cell? ⟨T, 2, none⟩ = some (.string (str v)) := hSw.2.1.cell 2; have q4 : W.cell? ⟨G, 0, none⟩ = some (.string (str r.n)) := hSw.1.1.cell 0; have q5 : W.cell? ⟨T2, 1, none⟩ = some (.string (str y.pl)) := hSw.2.2.cell 1; have q6 : W.cell? ⟨T2, 2, none⟩ = some (.string (str y.u)) := hSw.2.2.cell 2; (try dsimp only at hSw); go_simp; (try with_reducible rfl))
                      try simp only [Act.put, List.getElem_toArray, List.getElem_cons_zero, List.getElem_cons_succ, List.setIfInBounds_toArray, List.set_cons_zero, List.set_cons_succ]
                      refine wpAnyH_take (i := 2) (v := ?v2_4) rfl (by kernel_rfl) (by kernel_rfl) (by kernel_rfl) (fun _ _ _ h => h) (Or.inl ⟨by rfl, ?hy2_4⟩) (by assumption) ?_
                      case hy2_4 => (intro W hSw; have q1 : W.cell? ⟨T, 1, none⟩ = some (.string (str a)) := hSw.2.1.cell 1; have q2 : W.cell? ⟨T, 2, none⟩ = some (.string (str v)) := hSw.2.1.cell 2; have q4 : W.cell? ⟨G, 0, none⟩ = some (.string (str r.n)) := hSw.1.1.cell 0; have q5 : W.cell? ⟨T2, 1, none⟩ = some (.string (str y.pl)) := hSw.2.2.cell 1; have q6 : W.cell? ⟨T2, 2, none⟩ = some (.string (str y.u)) := hSw.2.2.cell 2; (try dsimp only at hSw); go_simp; (try with_reducible rfl))
                      try simp only [Act.put, List.getElem_toArray, List.getElem_cons_zero, List.getElem_cons_succ, List.setIfInBounds_toArray, List.set_cons_zero, List.set_cons_succ]
                      refine wpAnyH_take (i := 3) (v := ?v3_4) rfl (by kernel_rfl) (by kernel_rfl) (by kernel_rfl) (fun _ _ _ h => h) (Or.inl ⟨by rfl, ?hy3_4⟩) (by assumption) ?_
                      case hy3_4 => (intro W hSw; have q1 : W.cell? ⟨T, 1, none⟩ = some (.string (str a)) := hSw.2.1.cell 1; have q2 : W.cell? ⟨T, 2, none⟩ = some (.string (str v)) := hSw.2.1.cell 2; have q4 : W.cell? ⟨G, 0, none⟩ = some (.string (str r.n)) := hSw.1.1.cell 0; have q5 : W.cell? ⟨T2, 1, none⟩ = some (.string (str y.pl)) := hSw.2.2.cell 1; have q6 : W.cell? ⟨T2, 2, none⟩ = some (.string (str y.u)) := hSw.2.2.cell 2; (try dsimp only at hSw); go_simp; (try with_reducible rfl))
                      try simp only [Act.put, List.getElem_toArray, List.getElem_cons_zero, List.getElem_cons_succ, List.setIfInBounds_toArray, List.set_cons_zero, List.set_cons_succ]
                      refine wpAnyH_take (i := 4) (v := ?v4_4) rfl (by kernel_rfl) (by kernel_rfl) (by kernel_rfl) (fun _ _ _ h => h) (Or.inl ⟨by rfl, ?hy4_4⟩) (by assumption) ?_
                      case hy4_4 => (intro W hSw; have q1 : W.cell? ⟨T, 1, none⟩ = some (.string (str a)) := hSw.2.1.cell 1; have q2 : W.cell? ⟨T, 2, none⟩ = some (.string (str v)) := hSw.2.1.cell 2; have q4 : W.cell? ⟨G, 0, none⟩ = some (.string (str r.n)) := hSw.1.1.cell 0; have q5 : W.cell? ⟨T2, 1, none⟩ = some (.string (str y.pl)) := hSw.2.2.cell 1; have q6 : W.cell? ⟨T2, 2, none⟩ = some (.string (str y.u)) := hSw.2.2.cell 2; (try dsimp only at hSw); go_simp; (try with_reducible rfl))
                      try simp only [Act.put, List.getElem_toArray, List.getElem_cons_zero, List.getElem_cons_succ, List.setIfInBounds_toArray, List.set_cons_zero, List.set_cons_succ]
                      refine wpAnyH_take (i := 5) (v := ?v5_4) rfl (by kernel_rfl) (by kernel_rfl) (by kernel_rfl) (fun _ _ _ h => h) (Or.inl ⟨by rfl, ?hy5_4⟩) (by assumption) ?_
                      case hy5_4 => (intro W hSw; have q1 : W.cell? ⟨T, 1, none⟩ = some (.string (str a)) := hSw.2.1.cell 1; have q2 : W.cell? ⟨T, 2, none⟩ = some (.string (str v)) := hSw.2.1.cell 2; have q4 : W.cell? ⟨G, 0, none⟩ = some (.string (str r.n)) := hSw.1.1.cell 0; have q5 : W.cell? ⟨T2, 1, none⟩ = some (.string (str y.pl)) := hSw.2.2.cell 1; have q6 : W.cell? ⟨T2, 2, none⟩ = some (.string (str y.u)) := hSw.2.2.cell 2; (try dsimp only at hSw); go_simp; (try with_reducible rfl))
                      try simp only [Act.put, List.getElem_toArray, List.getElem_cons_zero, List.getElem_cons_succ, List.setIfInBounds_toArray, List.set_cons_zero, List.set_cons_succ]
                      refine wpAnyH_take (i := 6) (v := undef) rfl (by kernel_rfl) (by kernel_rfl) (by kernel_rfl) (fun _ _ _ h => h) (Or.inr ⟨by rfl, rfl⟩) (by assumption) ?_
                      try simp only [Act.put, List.getElem_toArray, List.getElem_cons_zero, List.getElem_cons_succ, List.setIfInBounds_toArray, List.set_cons_zero, List.set_cons_succ]
                      refine wpAnyH_take (i := 7) (v := undef) rfl (by kernel_rfl) (by kernel_rfl) (by kernel_rfl) (fun _ _ _ h => h) (Or.inr ⟨by rfl, rfl⟩) (by assumption) ?_
                      try simp only [Act.put, List.getElem_toArray, List.getElem_cons_zero, List.getElem_cons_succ, List.setIfInBounds_toArray, List.set_cons_zero, List.set_cons_succ]
                      refine wpAnyH_take (i := 8) (v := undef) rfl (by kernel_rfl) (by kernel_rfl) (by kernel_rfl) (fun _ _ _ h => h) (Or.inr ⟨by rfl, rfl⟩) (by assumption) ?_
                      try simp only [Act.put, List.getElem_toArray, List.getElem_cons_zero, List.getElem_cons_succ, List.setIfInBounds_toArray, List.set_cons_zero, List.set_cons_succ]
                      refine wpAnyH_take (i := 9) (v := undef) rfl (by kernel_rfl) (by kernel_rfl) (by kernel_rfl) (fun _ _ _ h => h) (Or.inr ⟨by rfl, rfl⟩) (by assumption) ?_
                      try simp only [Act.put, List.getElem_toArray, List.getElem_cons_zero, List.getElem_cons_succ, List.setIfInBounds_toArray, List.set_cons_zero, List.set_cons_succ]
                      refine wpAnyH_take (i := 10) (v := undef) rfl (by kernel_rfl) (by kernel_rfl) (by kernel_rfl) (fun _ _ _ h => h) (Or.inr ⟨by rfl, rfl⟩) (by assumption) ?_
                      try simp only [Act.put, List.getElem_toArray, List.getElem_cons_zero, List.getElem_cons_succ, List.setIfInBounds_toArray, List.set_cons_zero, List.set_cons_succ]
                      refine wpAnyH_take (i := 11) (v := ?v11_4) rfl (by kernel_rfl) (by kernel_rfl) (by kernel_rfl) (fun _ _ _ h => h) (Or.inl ⟨by rfl, ?hy11_4⟩) (by assumption) ?_
                      case hy11_4 => (intro W hSw; have q1 : W.cell? ⟨T, 1, none⟩ = some (.string (str a)) := hSw.2.1.cell 1; have q2 : W.cell? ⟨T, 2, none⟩ = some (.string (str v)) := hSw.2.1.cell 2; have q4 : W.cell? ⟨G, 0, none⟩ = some (.string (str r.n)) := hSw.1.1.cell 0; have q5 : W.cell? ⟨T2, 1, none⟩ = some (.string (str y.pl)) := hSw.2.2.cell 1; have q6 : W.cell? ⟨T2, 2, none⟩ = some (.string (str y.u)) := hSw.2.2.cell 2; (try dsimp only at hSw); go_simp; (try with_reducible rfl))
                      try simp only [Act.put, List.getElem_toArray, List.getElem_cons_zero, List.getElem_cons_succ, List.setIfInBounds_toArray, List.set_cons_zero, List.set_cons_succ]
                      refine wpAnyH_take (i := 12) (v := ?v12_4) rfl (by kernel_rfl) (by kernel_rfl) (by kernel_rfl) (fun _ _ _ h => h) (Or.inl ⟨by rfl, ?hy12_4⟩) (by assumption) ?_
                      case hy12_4 => (intro W hSw; have q1 : W.cell? ⟨T, 1, none⟩ = some (.string (str a)) := hSw.2.1.cell 1; have q2 : W.cell? ⟨T, 2, none⟩ = some (.string (str v)) := hSw.2.1.cell 2; have q4 : W.cell? ⟨G, 0, none⟩ = some (.string (str r.n)) := hSw.1.1.cell 0; have q5 : W.cell? ⟨T2, 1, none⟩ = some (.string (str y.pl)) := hSw.2.2.cell 1; have q6 : W.cell? ⟨T2, 2, none⟩ = some (.string (str y.u)) := hSw.2.2.cell 2; (try dsimp only at hSw); go_simp; (try with_reducible rfl))
                      try simp only [Act.put, List.getElem_toArray, List.getElem_cons_zero, List.getElem_cons_succ, List.setIfInBounds_toArray, List.set_cons_zero, List.set_cons_succ]
                      refine wpAnyH_take (i := 13) (v := ?v13_4) rfl (by kernel_rfl) (by kernel_rfl) (by kernel_rfl) (fun _ _ _ h => h) (Or.inl ⟨by rfl, ?hy13_4⟩) (by assumption) ?_
                      case hy13_4 => (intro W hSw; have q1 : W.cell? ⟨T, 1, none⟩ = some (.string (str a)) := hSw.2.1.cell 1; have q2 : W.cell? ⟨T, 2, none⟩ = some (.string (str v)) := hSw.2.1.cell 2; have q4 : W.cell? ⟨G, 0, none⟩ = some (.string (str r.n)) := hSw.1.1.cell 0; have q5 : W.cell? ⟨T2, 1, none⟩ = some (.string (str y.pl)) := hSw.2.2.cell 1; have q6 : W.cell? ⟨T2, 2, none⟩ = some (.string (str y.u)) := hSw.2.2.cell 2; (try dsimp only at hSw); go_simp; (try with_reducible rfl))
                      try simp only [Act.put, List.getElem_toArray, List.getElem_cons_zero, List.getElem_cons_succ, List.setIfInBounds_toArray, List.set_cons_zero, List.set_cons_succ]
                      refine wpAnyH_take (i := 14) (v := ?v14_4) rfl (by kernel_rfl) (by kernel_rfl) (by kernel_rfl) (fun _ _ _ h => h) (Or.inl ⟨by rfl, ?hy14_4⟩) (by assumption) ?_
                      case hy14_4 => (intro W hSw; have q1 : W.cell? ⟨T, 1, none⟩ = some (.string (str a)) := hSw.2.1.cell 1; have q2 : W.cell? ⟨T, 2, none⟩ = some (.string (str v)) := hSw.2.1.cell 2; have q4 : W.cell? ⟨G, 0, none⟩ = some (.string (str r.n)) := hSw.1.1.cell 0; have q5 : W.cell? ⟨T2, 1, none⟩ = some (.string (str y.pl)) := hSw.2.2.cell 1; have q6 : W.cell? ⟨T2, 2, none⟩ = some (.string (str y.u)) := hSw.2.2.cell 2; (try dsimp only at hSw); go_simp; (try with_reducible rfl))
                      try simp only [Act.put, List.getElem_toArray, List.getElem_cons_zero, List.getElem_cons_succ, List.setIfInBounds_toArray, List.set_cons_zero, List.set_cons_succ]
                      refine wpAnyH_take (i := 15) (v := ?v15_4) rfl (by kernel_rfl) (by kernel_rfl) (by kernel_rfl) (fun _ _ _ h => h) (Or.inl ⟨by rfl, ?hy15_4⟩) (by assumption) ?_
                      case hy15_4 => (intro W hSw; have q1 : W.cell? ⟨T, 1, none⟩ = some (.string (str a)) := hSw.2.1.cell 1; have q2 : W.cell? ⟨T, 2, none⟩ = some (.string (str v)) := hSw.2.1.cell 2; have q4 : W.cell? ⟨G, 0, none⟩ = some (.string (str r.n)) := hSw.1.1.cell 0; have q5 : W.cell? ⟨T2, 1, none⟩ = some (.string (str y.pl)) := hSw.2.2.cell 1; have q6 : W.cell? ⟨T2, 2, none⟩ = some (.string (str y.u)) := hSw.2.2.cell 2; (try dsimp only at hSw); go_simp; (try with_reducible rfl))
                      try simp only [Act.put, List.getElem_toArray, List.getElem_cons_zero, List.getElem_cons_succ, List.setIfInBounds_toArray, List.set_cons_zero, List.set_cons_succ]
                      refine wpAnyH_take (i := 16) (v := ?v16_4) rfl (by kernel_rfl) (by kernel_rfl) (by kernel_rfl) (fun _ _ _ h => h) (Or.inl ⟨by rfl, ?hy16_4⟩) (by assumption) ?_
                      case hy16_4 => (intro W hSw; have q1 : W.cell? ⟨T, 1, none⟩ = some (.string (str a)) := hSw.2.1.cell 1; have q2 : W.cell? ⟨T, 2, none⟩ = some (.string (str v)) := hSw.2.1.cell 2; have q4 : W.cell? ⟨G, 0, none⟩ = some (.string (str r.n)) := hSw.1.1.cell 0; have q5 : W.cell? ⟨T2, 1, none⟩ = some (.string (str y.pl)) := hSw.2.2.cell 1; have q6 : W.cell? ⟨T2, 2, none⟩ = some (.string (str y.u)) := hSw.2.2.cell 2; (try dsimp only at hSw); go_simp; (try with_reducible rfl))
                      try simp only [Act.put, List.getElem_toArray, List.getElem_cons_zero, List.getElem_cons_succ, List.setIfInBounds_toArray, List.set_cons_zero, List.set_cons_succ]
                      refine wpAnyH_take (i := 17) (v := ?v17_4) rfl (by kernel_rfl) (by kernel_rfl) (by kernel_rfl) (fun _ _ _ h => h) (Or.inl ⟨by rfl, ?hy17_4⟩) (by assumption) ?_
                      case hy17_4 => (intro W hSw; have q1 : W.cell? ⟨T, 1, none⟩ = some (.string (str a)) := hSw.2.1.cell 1; have q2 : W.cell? ⟨T, 2, none⟩ = some (.string (str v)) := hSw.2.1.cell 2; have q4 : W.cell? ⟨G, 0, none⟩ = some (.string (str r.n)) := hSw.1.1.cell 0; have q5 : W.cell? ⟨T2, 1, none⟩ = some (.string (str y.pl)) := hSw.2.2.cell 1; have q6 : W.cell? ⟨T2, 2, none⟩ = some (.string (str y.u)) := hSw.2.2.cell 2; (try dsimp only at hSw); go_simp; (try with_reducible rfl))
                      try simp only [Act.put, List.getElem_toArray, List.getElem_cons_zero, List.getElem_cons_succ, List.setIfInBounds_toArray, List.set_cons_zero, List.set_cons_succ]
                      refine wpAnyH_take (i := 18) (v := ?v18_4) rfl (by kernel_rfl) (by kernel_rfl) (by kernel_rfl) (fun _ _ _ h => h) (Or.inl ⟨by rfl, ?hy18_4⟩) (by assumption) ?_
                      case hy18_4 => (intro W hSw; have q1 : W.cell? ⟨T, 1, none⟩ = some (.string (str a)) := hSw.2.1.cell 1; have q2 : W.cell? ⟨T, 2, none⟩ = some (.string (str v)) := hSw.2.1.cell 2; have q4 : W.cell? ⟨G, 0, none⟩ = some (.string (str r.n)) := hSw.1.1.cell 0; have q5 : W.cell? ⟨T2, 1, none⟩ = some (.string (str y.pl)) := hSw.2.2.cell 1; have q6 : W.cell? ⟨T2, 2, none⟩ = some (.string (str y.u)) := hSw.2.2.cell 2; (try dsimp only at hSw); go_simp; (try with_reducible rfl))
                      try simp only [Act.put, List.getElem_toArray, List.getElem_cons_zero, List.getElem_cons_succ, List.setIfInBounds_toArray, List.set_cons_zero, List.set_cons_succ]
                      refine wpAnyH_take (i := 19) (v := ?v19_4) rfl (by kernel_rfl) (by kernel_rfl) (by kernel_rfl) (fun _ _ _ h => h) (Or.inl ⟨by rfl, ?hy19_4⟩) (by assumption) ?_
                      case hy19_4 => (intro W hSw; have q1 : W.cell? ⟨T, 1, none⟩ = some (.string (str a)) := hSw.2.1.cell 1; have q2 : W.cell? ⟨T, 2, none⟩ = some (.string (str v)) := hSw.2.1.cell 2; have q4 : W.cell? ⟨G, 0, none⟩ = some (.string (str r.n)) := hSw.1.1.cell 0; have q5 : W.cell? ⟨T2, 1, none⟩ = some (.string (str y.pl)) := hSw.2.2.cell 1; have q6 : W.cell? ⟨T2, 2, none⟩ = some (.string (str y.u)) := hSw.2.2.cell 2; (try dsimp only at hSw); go_simp; (try with_reducible rfl))
                      try simp only [Act.put, List.getElem_toArray, List.getElem_cons_zero, List.getElem_cons_succ, List.setIfInBounds_toArray, List.set_cons_zero, List.set_cons_succ]
                      refine wpAnyH_take (i := 20) (v := ?v20_4) rfl (by kernel_rfl) (by kernel_rfl) (by kernel_rfl) (fun _ _ _ h => h) (Or.inl ⟨by rfl, ?hy20_4⟩) (by assumption) ?_
                      case hy20_4 => (intro W hSw; have q1 : W.cell? ⟨T, 1, none⟩ = some (.string (str a)) := hSw.2.1.cell 1; have q2 : W.cell? ⟨T, 2, none⟩ = some (.string (str v)) := hSw.2.1.cell 2; have q4 : W.cell? ⟨G, 0, none⟩ = some (.string (str r.n)) := hSw.1.1.cell 0; have q5 : W.cell? ⟨T2, 1, none⟩ = some (.string (str y.pl)) := hSw.2.2.cell 1; have q6 : W.cell? ⟨T2, 2, none⟩ = some (.string (str y.u)) := hSw.2.2.cell 2; (try dsimp only at hSw); go_simp; (try with_reducible rfl))
                      try simp only [Act.put, List.getElem_toArray, List.getElem_cons_zero, List.getElem_cons_succ, List.setIfInBounds_toArray, List.set_cons_zero, List.set_cons_succ]
                      refine wpAnyH_take (i := 22) (v := ?v22_4) rfl (by kernel_rfl) (by kernel_rfl) (by kernel_rfl) (fun _ _ _ h => h) (Or.inl ⟨by rfl, ?hy22_4⟩) (by assumption) ?_
                      case hy22_4 => (intro W hSw; have q1 : W.cell? ⟨T, 1, none⟩ = some (.string (str a)) := hSw.2.1.cell 1; have q2 : W.cell? ⟨T, 2, none⟩ = some (.string (str v)) := hSw.2.1.cell 2; have q4 : W.cell? ⟨G, 0, none⟩ = some (.string (str r.n)) := hSw.1.1.cell 0; have q5 : W.cell? ⟨T2, 1, none⟩ = some (.string (str y.pl)) := hSw.2.2.cell 1; have q6 : W.cell? ⟨T2, 2, none⟩ = some (.string (str y.u)) := hSw.2.2.cell 2; (try dsimp only at hSw); go_simp; (try with_reducible rfl))
                      try simp only [Act.put, List.getElem_toArray, List.getElem_cons_zero, List.getElem_cons_succ, List.setIfInBounds_toArray, List.set_cons_zero, List.set_cons_succ]
                      refine wpAnyH_take (i := 23) (v := ?v23_4) rfl (by kernel_rfl) (by kernel_rfl) (by kernel_rfl) (fun _ _ _ h => h) (Or.inl ⟨by rfl, ?hy23_4⟩) (by assumption) ?_
                      case hy23_4 => (intro W hSw; have q1 : W.cell? ⟨T, 1, none⟩ = some (.string (str a)) := hSw.2.1.cell 1; have q2 : W.cell? ⟨T, 2, none⟩ = some (.string (str v)) := hSw.2.1.cell 2; have q4 : W.cell? ⟨G, 0, none⟩ = some (.string (str r.n)) := hSw.1.1.cell 0; have q5 : W.cell? ⟨T2, 1, none⟩ = some (.string (str y.pl)) := hSw.2.2.cell 1; have q6 : W.cell? ⟨T2, 2, none⟩ = some (.string (str y.u)) := hSw.2.2.cell 2; (try dsimp only at hSw); go_simp; (try with_reducible rfl))
                      try simp only [Act.put, List.getElem_toArray, List.getElem_cons_zero, List.getElem_cons_succ, List.setIfInBounds_toArray, List.set_cons_zero, List.set_cons_succ]
                      refine wpAnyH_ready (rs := [21]) (by kernel_rfl) (by simp) ?_
                      refine AllReadyH.cons rfl (fun K hK => ?_) AllReadyH.nil
                      go_simp
                      refine (HRk1.out _).mono ?_
                      rintro e9 w9 ⟨rfl, hb9⟩
                      refine hK.out _ _ ?_ (fun hHeld2 => ?_)
                      · exact ⟨hHeld.1.call hb9, hHeld.2.1.below hb9 hHeld.2.1.lt, hHeld.2.2.below hb9 hHeld.2.2.lt⟩
                      clear hK K hHeld 
                      have hHeld := hHeld2
                      clear hHeld2
                      try simp only [Act.put, List.getElem_toArray, List.getElem_cons_zero, List.getElem_cons_succ, List.setIfInBounds_toArray, List.set_cons_zero, List.set_cons_succ]
                      refine wpAnyH_ready (rs := [24]) (by kernel_rfl) (by simp) ?_
                      refine AllReadyH.cons rfl (fun K hK => ?_) AllReadyH.nil
                      go_simp
                      refine (HRk2.out _).mono ?_
                      rintro e9 w9 ⟨rfl, hb9⟩
                      refine hK.out _ _ ?_ (fun hHeld2 => ?_)
                      · exact ⟨hHeld.1.call hb9, hHeld.2.1.below hb9 hHeld.2.1.lt, hHeld.2.2.below hb9 hHeld.2.2.lt⟩
                      clear hK K hHeld 
                      have hHeld := hHeld2
                      clear hHeld2
                      try simp only [Act.put, List.getElem_toArray, List.getElem_cons_zero, List.getElem_cons_succ, List.setIfInBounds_toArray, List.set_cons_zero, List.set_cons_succ]
                      refine wpAnyH_take (i := 25) (v := ?v25_4) rfl (by kernel_rfl) (by kernel_rfl) (by kernel_rfl) (fun _ _ _ h => h) (Or.inl ⟨by rfl, ?hy25_4⟩) (by assumption) ?_
                      case hy25_4 => (intro W hSw; have q1 : W.cell? ⟨T, 1, none⟩ = some (.string (str a)) := hSw.2.1.cell 1; have q2 : W.cell? ⟨T, 2, none⟩ = some (.string (str v)) := hSw.2.1.cell 2; have q4 : W.cell? ⟨G, 0, none⟩ = some (.string (str r.n)) := hSw.1.1.cell 0; have q5 : W.cell? ⟨T2, 1, none⟩ = some (.string (str y.pl)) := hSw.2.2.cell 1; have q6 : W.cell? ⟨T2, 2, none⟩ = some (.string (str y.u)) := hSw.2.2.cell 2; (try dsimp only at hSw); go_simp; (try with_reducible rfl))
                      try simp only [Act.put, List.getElem_toArray, List.getElem_cons_zero, List.getElem_cons_succ, List.setIfInBounds_toArray, List.set_cons_zero, List.set_cons_succ]
                      refine wpAnyH_take (i := 26) (v := ?v26_4) rfl (by kernel_rfl) (by kernel_rfl) (by kernel_rfl) (fun _ _ _ h => h) (Or.inl ⟨by rfl, ?hy26_4⟩) (by assumption) ?_
                      case hy26_4 => (intro W hSw; have q1 : W.cell? ⟨T, 1, none⟩ = some (.string (str a)) := hSw.2.1.cell 1; have q2 : W.cell? ⟨T, 2, none⟩ = some (.string (str v)) := hSw.2.1.cell 2; have q4 : W.cell? ⟨G, 0, none⟩ = some (.string (str r.n)) := hSw.1.1.cell 0; have q5 : W.cell? ⟨T2, 1, none⟩ = some (.string (str y.pl)) := hSw.2.2.cell 1; have q6 : W.cell? ⟨T2, 2, none⟩ = some (.string (str y.u)) := hSw.2.2.cell 2; (try dsimp only at hSw); go_simp; (try with_reducible rfl))
                      try simp only [Act.put, List.getElem_toArray, List.getElem_cons_zero, List.getElem_cons_succ, List.setIfInBounds_toArray, List.set_cons_zero, List.set_cons_succ]
                      refine wpAnyH_take (i := 27) (v := ?v27_4) rfl (by kernel_rfl) (by kernel_rfl) (by kernel_rfl) (fun _ _ _ h => h) (Or.inl ⟨by rfl, ?hy27_4⟩) (by assumption) ?_
                      case hy27_4 => (intro W hSw; have q1 : W.cell? ⟨T, 1, none⟩ = some (.string (str a)) := hSw.2.1.cell 1; have q2 : W.cell? ⟨T, 2, none⟩ = some (.string (str v)) := hSw.2.1.cell 2; have q4 : W.cell? ⟨G, 0, none⟩ = some (.string (str r.n)) := hSw.1.1.cell 0; have q5 : W.cell? ⟨T2, 1, none⟩ = some (.string (str y.pl)) := hSw.2.2.cell 1; have q6 : W.cell? ⟨T2, 2, none⟩ = some (.string (str y.u)) := hSw.2.2.cell 2; (try dsimp only at hSw); go_simp; (try with_reducible rfl))
                      try simp only [Act.put, List.getElem_toArray, List.getElem_cons_zero, List.getElem_cons_succ, List.setIfInBounds_toArray, List.set_cons_zero, List.set_cons_succ]
                      refine wpAnyH_done (by kernel_rfl) ?_ _
                      go_wp2_with fail
                      go_roundw
                      case rel => exact ⟨j + 1, by omega, by go_num, hHeld.1, hHeld.2.1⟩
                      case measure => simp [intOf]; omega
                    · rw [decide_eq_false hb3] at huv
                      clear hb1 hb3 N1 N2 hvn
                      refine wp_region_held_drew (S := (fun W => FdS wF G r (some ad) dc W ∧ Blk W T 45 (wyA ⟨2, a, v, x⟩) ∧ Blk W T2 45 (wyA y))) (by kernel_rfl) ?_ (fun hHeld => ?_)
                      · exact ⟨hS8.out.drew, hW8.out, hY8.out⟩
                      refine wpAnyH_take (i := 0) (v := ?v0_5) rfl (by kernel_rfl) (by kernel_rfl) (by kernel_rfl) (fun _ _ _ h => h) (Or.inl ⟨by rfl, ?hy0_5⟩) (by assumption) ?_
                      case hy0_5 => (intro W hSw; have q1 : W.cell? ⟨T, 1, none⟩ = some (.string (str a)) := hSw.2.1.cell 1; have q2 : W.cell? ⟨T, 2, none⟩ = some (.string (str v)) := hSw.2.1.cell 2; have q4 : W.cell? ⟨G, 0, none⟩ = some (.string (str r.n)) := hSw.1.1.cell 0; have q5 : W.cell? ⟨T2, 1, none⟩ = some (.string (str y.pl)) := hSw.2.2.cell 1; have q6 : W.cell? ⟨T2, 2, none⟩ = some (.string (str y.u)) := hSw.2.2.cell 2; (try dsimp only at hSw); go_simp; (try with_reducible rfl))
                      try simp only [Act.put, List.getElem_toArray, List.getElem_cons_zero, List.setIfInBounds_toArray, List.set_cons_zero, List.set_cons_succ]
                      refine wpAnyH_take (i := 1) (v := ?v1_5) rfl (by kernel_rfl) (by kernel_rfl) (by kernel_rfl) (fun _ _ _ h => h) (Or.inl ⟨by rfl, ?hy1_5⟩) (by assumption) ?_
                      case hy1_5 => (intro W hSw; have q1 : W.cell? ⟨T, 1, none⟩ = some (.string (str a)) := hSw.2.1.cell 1; have q2 : W.cell? ⟨T, 2, none⟩ = some (.string (str v)) := hSw.2.1.cell 2; have q4 : W.cell? ⟨G, 0, none⟩ = some (.string (str r.n)) := hSw.1.1.cell 0; have q5 : W.cell? ⟨T2, 1, none⟩ = some (.string (str y.pl)) := hSw.2.2.cell 1; have q6 : W.cell? ⟨T2, 2, none⟩ = some (.string (str y.u)) := hSw.2.2.cell 2; (try dsimp only at hSw); go_simp; (try with_reducible rfl))
                      try simp only [Act.put, List.getElem_toArray, List.getElem_cons_zero, List.getElem_cons_succ, List.setIfInBounds_toArray, List.set_cons_zero, List.set_cons_succ]
                      refine wpAnyH_take (i := 2) (v := ?v2_5) rfl (by kernel_rfl) (by kernel_rfl) (by kernel_rfl) (fun _ _ _ h => h) (Or.inl ⟨by rfl, ?hy2_5⟩) (by assumption) ?_
                      case hy2_5 => (intro W hSw; have q1 : W.cell? ⟨T, 1, none⟩ = some (.string (str a)) := hSw.2.1.cell 1; have q2 : W.cell? ⟨T, 2, none⟩ = some (.string (str v)) := hSw.2.1.cell 2; have q4 : W.cell? ⟨G, 0, none⟩ = some (.string (str r.n)) := hSw.1.1.cell 0; have q5 : W.cell? ⟨T2, 1, none⟩ = some (.string (str y.pl)) := hSw.2.2.cell 1; have q6 : W.cell? ⟨T2, 2, none⟩ = some (.string (str y.u)) := hSw.2.2.cell 2; (try dsimp only at hSw); go_simp; (try with_reducible rfl))
                      try simp only [Act.put, List.getElem_toArray, List.getElem_cons_zero, List.getElem_cons_succ, List.setIfInBounds_toArray, List.set_cons_zero, List.set_cons_succ]
                      refine wpAnyH_take (i := 3) (v := ?v3_5) rfl (by kernel_rfl) (by kernel_rfl) (by kernel_rfl) (fun _ _ _ h => h) (Or.inl ⟨by rfl, ?hy3_5⟩) (by assumption) ?_
                      case hy3_5 => (intro W hSw; have q1 : W.cell? ⟨T, 1, none⟩ = some (.string (str a)) := hSw.2.1.cell 1; have q2 : W.cell? ⟨T, 2, none⟩ = some (.string (str v)) := hSw.2.1.cell 2; have q4 : W.cell? ⟨G, 0, none⟩ = some (.string (str r.n)) := hSw.1.1.cell 0; have q5 : W.cell? ⟨T2, 1, none⟩ = some (.string (str y.pl)) := hSw.2.2.cell 1; have q6 : W.cell? ⟨T2, 2, none⟩ = some (.string (str y.u)) := hSw.2.2.cell 2; (try dsimp only at hSw); go_simp; (try with_reducible rfl))
                      try simp only [Act.put, List.getElem_toArray, List.getElem_cons_zero, List.getElem_cons_succ, List.setIfInBounds_toArray, List.set_cons_zero, List.set_cons_succ]
                      refine wpAnyH_take (i := 4) (v := ?v4_5) rfl (by kernel_rfl) (by kernel_rfl) (by kernel_rfl) (fun _ _ _ h => h) (Or.inl ⟨by rfl, ?hy4_5⟩) (by assumption) ?_
                      case hy4_5 => (intro W hSw; have q1 : W.cell? ⟨T, 1, none⟩ = some (.string (str a)) := hSw.2.1.cell 1; have q2 : W.cell? ⟨T, 2, none⟩ = some (.string (str v)) := hSw.2.1.cell 2; have q4 : W.cell? ⟨G, 0, none⟩ = some (.string (str r.n)) := hSw.1.1.cell 0; have q5 : W.cell? ⟨T2, 1, none⟩ = some (.string (str y.pl)) := hSw.2.2.cell 1; have q6 : W.cell? ⟨T2, 2, none⟩ = some (.string (str y.u)) := hSw.2.2.cell 2; (try dsimp only at hSw); go_simp; (try with_reducible rfl))
                      try simp only [Act.put, List.getElem_toArray, List.getElem_cons_zero, List.getElem_cons_succ, List.setIfInBounds_toArray, List.set_cons_zero, List.set_cons_succ]
                      refine wpAnyH_take (i := 5) (v := ?v5_5) rfl (by kernel_rfl) (by kernel_rfl) (by kernel_rfl) (fun _ _ _ h => h) (Or.inl ⟨by rfl, ?hy5_5⟩) (by assumption) ?_
                      case hy5_5 => (intro W hSw; have q1 : W.cell? ⟨T, 1, none⟩ = some (.string (str a)) := hSw.2.1.cell 1; have q2 : W.cell? ⟨T, 2, none⟩ = some (.string (str v)) := hSw.2.1.cell 2; have q4 : W.cell? ⟨G, 0, none⟩ = some (.string (str r.n)) := hSw.1.1.cell 0; have q5 : W.cell? ⟨T2, 1, none⟩ = some (.string (str y.pl)) := hSw.2.2.cell 1; have q6 : W.cell? ⟨T2, 2, none⟩ = some (.string (str y.u)) := hSw.2.2.cell 2; (try dsimp only at hSw); go_simp; (try with_reducible rfl))
                      try simp only [Act.put, List.getElem_toArray, List.getElem_cons_zero, List.getElem_cons_succ, List.setIfInBounds_toArray, List.set_cons_zero, List.set_cons_succ]
                      refine wpAnyH_take (i := 6) (v := undef) rfl (by kernel_rfl) (by kernel_rfl) (by kernel_rfl) (fun _ _ _ h => h) (Or.inr ⟨by rfl, rfl⟩) (by assumption) ?_
                      try simp only [Act.put, List.getElem_toArray, List.getElem_cons_zero, List.getElem_cons_succ, List.setIfInBounds_toArray, List.set_cons_zero, List.set_cons_succ]
                      refine wpAnyH_take (i := 7) (v := undef) rfl (by kernel_rfl) (by kernel_rfl) (by kernel_rfl) (fun _ _ _ h => h) (Or.inr ⟨by rfl, rfl⟩) (by assumption) ?_
                      try simp only [Act.put, List.getElem_toArray, List.getElem_cons_zero, List.getElem_cons_succ, List.setIfInBounds_toArray, List.set_cons_zero, List.set_cons_succ]
                      refine wpAnyH_take (i := 8) (v := undef) rfl (by kernel_rfl) (by kernel_rfl) (by kernel_rfl) (fun _ _ _ h => h) (Or.inr ⟨by rfl, rfl⟩) (by assumption) ?_
                      try simp only [Act.put, List.getElem_toArray, List.getElem_cons_zero, List.getElem_cons_succ, List.setIfInBounds_toArray, List.set_cons_zero, List.set_cons_succ]
                      refine wpAnyH_take (i := 9) (v := undef) rfl (by kernel_rfl) (by kernel_rfl) (by kernel_rfl) (fun _ _ _ h => h) (Or.inr ⟨by rfl, rfl⟩) (by assumption) ?_
                      try simp only [Act.put, List.getElem_toArray, List.getElem_cons_zero, List.getElem_cons_succ, List.setIfInBounds_toArray, List.set_cons_zero, List.set_cons_succ]
                      refine wpAnyH_take (i := 10) (v := undef) rfl (by kernel_rfl) (by kernel_rfl) (by kernel_rfl) (fun _ _ _ h => h) (Or.inr ⟨by rfl, rfl⟩) (by assumption) ?_
                      try simp only [Act.put, List.getElem_toArray, List.getElem_cons_zero, List.getElem_cons_succ, List.setIfInBounds_toArray, List.set_cons_zero, List.set_cons_succ]
                      refine wpAnyH_take (i := 11) (v := ?v11_5) rfl (by kernel_rfl) (by kernel_rfl) (by kernel_rfl) (fun _ _ _ h => h) (Or.inl ⟨by rfl, ?hy11_5⟩) (by assumption) ?_
                      case hy11_5 => (intro W hSw; have q1 : W.cell? ⟨T, 1, none⟩ = some (.string (str a)) := hSw.2.1.cell 1; have q2 : W.cell? ⟨T, 2, none⟩ = some (.string (str v)) := hSw.2.1.cell 2; have q4 : W.cell? ⟨G, 0, none⟩ = some (.string (str r.n)) := hSw.1.1.cell 0; have q5 : W.cell? ⟨T2, 1, none⟩ = some (.string (str y.pl)) := hSw.2.2.cell 1; have q6 : W.cell? ⟨T2, 2, none⟩ = some (.string (str y.u)) := hSw.2.2.cell 2; (try dsimp only at hSw); go_simp; (try with_reducible rfl))
                      try simp only [Act.put, List.getElem_toArray, List.getElem_cons_zero, List.getElem_cons_succ, List.setIfInBounds_toArray, List.set_cons_zero, List.set_cons_succ]
                      refine wpAnyH_take (i := 12) (v := ?v12_5) rfl (by kernel_rfl) (by kernel_rfl) (by kernel_rfl) (fun _ _ _ h => h) (Or.inl ⟨by rfl, ?hy12_5⟩) (by assumption) ?_
                      case hy12_5 => (intro W hSw; have q1 : W.cell? ⟨T, 1, none⟩ = some (.string (str a)) := hSw.2.1.cell 1; have q2 : W.cell? ⟨T, 2, none⟩ = some (.string (str v)) := hSw.2.1.cell 2; have q4 : W.cell? ⟨G, 0, none⟩ = some (.string (str r.n)) := hSw.1.1.cell 0; have q5 : W.cell? ⟨T2, 1, none⟩ = some (.string (str y.pl)) := hSw.2.2.cell 1; have q6 : W.cell? ⟨T2, 2, none⟩ = some (.string (str y.u)) := hSw.2.2.cell 2; (try dsimp only at hSw); go_simp; (try with_reducible rfl))
                      try simp only [Act.put, List.getElem_toArray, List.getElem_cons_zero, List.getElem_cons_succ, List.setIfInBounds_toArray, List.set_cons_zero, List.set_cons_succ]
                      refine wpAnyH_take (i := 13) (v := ?v13_5) rfl (by kernel_rfl) (by kernel_rfl) (by kernel_rfl) (fun _ _ _ h => h) (Or.inl ⟨by rfl, ?hy13_5⟩) (by assumption) ?_
                      case hy13_5 => (intro W hSw; have q1 : W.cell? ⟨T, 1, none⟩ = some (.string (str a)) := hSw.2.1.cell 1; have q2 : W.cell? ⟨T, 2, none⟩ = some (.string (str v)) := hSw.2.1.cell 2; have q4 : W.cell? ⟨G, 0, none⟩ = some (.string (str r.n)) := hSw.1.1.cell 0; have q5 : W.cell? ⟨T2, 1, none⟩ = some (.string (str y.pl)) := hSw.2.2.cell 1; have q6 : W.cell? ⟨T2, 2, none⟩ = some (.string (str y.u)) := hSw.2.2.cell 2; (try dsimp only at hSw); go_simp; (try with_reducible rfl))
                      try simp only [Act.put, List.getElem_toArray, List.getElem_cons_zero, List.getElem_cons_succ, List.setIfInBounds_toArray, List.set_cons_zero, List.set_cons_succ]
                      refine wpAnyH_take (i := 14) (v := ?v14_5) rfl (by kernel_rfl) (by kernel_rfl) (by kernel_rfl) (fun _ _ _ h => h) (Or.inl ⟨by rfl, ?hy14_5⟩) (by assumption) ?_
                      case hy14_5 => (intro W hSw; have q1 : W.cell? ⟨T, 1, none⟩ = some (.string (str a)) := hSw.2.1.cell 1; have q2 : W.cell? ⟨T, 2, none⟩ = some (.string (str v)) := hSw.2.1.cell 2; have q4 : W.cell? ⟨G, 0, none⟩ = some (.string (str r.n)) := hSw.1.1.cell 0; have q5 : W.cell? ⟨T2, 1, none⟩ = some (.string (str y.pl)) := hSw.2.2.cell 1; have q6 : W.cell? ⟨T2, 2, none⟩ = some (.string (str y.u)) := hSw.2.2.cell 2; (try dsimp only at hSw); go_simp; (try with_reducible rfl))
                      try simp only [Act.put, List.getElem_toArray, List.getElem_cons_zero, List.getElem_cons_succ, List.setIfInBounds_toArray, List.set_cons_zero, List.set_cons_succ]
                      refine wpAnyH_take (i := 15) (v := ?v15_5) rfl (by kernel_rfl) (by kernel_rfl) (by kernel_rfl) (fun _ _ _ h => h) (Or.inl ⟨by rfl, ?hy15_5⟩) (by assumption) ?_
                      case hy15_5 => (intro W hSw; have q1 : W.cell? ⟨T, 1, none⟩ = some (.string (str a)) := hSw.2.1.cell 1; have q2 : W.cell? ⟨T, 2, none⟩ = some (.string (str v)) := hSw.2.1.cell 2; have q4 : W.cell? ⟨G, 0, none⟩ = some (.string (str r.n)) := hSw.1.1.cell 0; have q5 : W.cell? ⟨T2, 1, none⟩ = some (.string (str y.pl)) := hSw.2.2.cell 1; have q6 : W.cell? ⟨T2, 2, none⟩ = some (.string (str y.u)) := hSw.2.2.cell 2; (try dsimp only at hSw); go_simp; (try with_reducible rfl))
                      try simp only [Act.put, List.getElem_toArray, List.getElem_cons_zero, List.getElem_cons_succ, List.setIfInBounds_toArray, List.set_cons_zero, List.set_cons_succ]
                      refine wpAnyH_take (i := 16) (v := ?v16_5) rfl (by kernel_rfl) (by kernel_rfl) (by kernel_rfl) (fun _ _ _ h => h) (Or.inl ⟨by rfl, ?hy16_5⟩) (by assumption) ?_
                      case hy16_5 => (intro W hSw; have q1 : W.cell? ⟨T, 1, none⟩ = some (.string (str a)) := hSw.2.1.cell 1; have q2 : W.cell? ⟨T, 2, none⟩ = some (.string (str v)) := hSw.2.1.cell 2; have q4 : W.cell? ⟨G, 0, none⟩ = some (.string (str r.n)) := hSw.1.1.cell 0; have q5 : W.cell? ⟨T2, 1, none⟩ = some (.string (str y.pl)) := hSw.2.2.cell 1; have q6 : W.cell? ⟨T2, 2, none⟩ = some (.string (str y.u)) := hSw.2.2.cell 2; (try dsimp only at hSw); go_simp; (try with_reducible rfl))
                      try simp only [Act.put, List.getElem_toArray, List.getElem_cons_zero, List.getElem_cons_succ, List.setIfInBounds_toArray, List.set_cons_zero, List.set_cons_succ]
                      refine wpAnyH_take (i := 17) (v := ?v17_5) rfl (by kernel_rfl) (by kernel_rfl) (by kernel_rfl) (fun _ _ _ h => h) (Or.inl ⟨by rfl, ?hy17_5⟩) (by assumption) ?_
                      case hy17_5 => (intro W hSw; have q1 : W.cell? ⟨T, 1, none⟩ = some (.string (str a)) := hSw.2.1.cell 1; have q2 : W.cell? ⟨T, 2, none⟩ = some (.string (str v)) := hSw.2.1.cell 2; have q4 : W.cell? ⟨G, 0, none⟩ = some (.string (str r.n)) := hSw.1.1.cell 0; have q5 : W.cell? ⟨T2, 1, none⟩ = some (.string (str y.pl)) := hSw.2.2.cell 1; have q6 : W.cell? ⟨T2, 2, none⟩ = some (.string (str y.u)) := hSw.2.2.cell 2; (try dsimp only at hSw); go_simp; (try with_reducible rfl))
                      try simp only [Act.put, List.getElem_toArray, List.getElem_cons_zero, List.getElem_cons_succ, List.setIfInBounds_toArray, List.set_cons_zero, List.set_cons_succ]
                      refine wpAnyH_take (i := 18) (v := ?v18_5) rfl (by kernel_rfl) (by kernel_rfl) (by kernel_rfl) (fun _ _ _ h => h) (Or.inl ⟨by rfl, ?hy18_5⟩) (by assumption) ?_
                      case hy18_5 => (intro W hSw; have q1 : W.cell? ⟨T, 1, none⟩ = some (.string (str a)) := hSw.2.1.cell 1; have q2 : W.cell? ⟨T, 2, none⟩ = some (.string (str v)) := hSw.2.1.cell 2; have q4 : W.cell? ⟨G, 0, none⟩ = some (.string (str r.n)) := hSw.1.1.cell 0; have q5 : W.cell? ⟨T2, 1, none⟩ = some (.string (str y.pl)) := hSw.2.2.cell 1; have q6 : W.cell? ⟨T2, 2, none⟩ = some (.string (str y.u)) := hSw.2.2.cell 2; (try dsimp only at hSw); go_simp; (try with_reducible rfl))
                      try simp only [Act.put, List.getElem_toArray, List.getElem_cons_zero, List.getElem_cons_succ, List.setIfInBounds_toArray, List.set_cons_zero, List.set_cons_succ]
                      refine wpAnyH_take (i := 19) (v := undef) rfl (by kernel_rfl) (by kernel_rfl) (by kernel_rfl) (fun _ _ _ h => h) (Or.inr ⟨by rfl, rfl⟩) (by assumption) ?_
                      try simp only [Act.put, List.getElem_toArray, List.getElem_cons_zero, List.getElem_cons_succ, List.setIfInBounds_toArray, List.set_cons_zero, List.set_cons_succ]
                      refine wpAnyH_take (i := 20) (v := undef) rfl (by kernel_rfl) (by kernel_rfl) (by kernel_rfl) (fun _ _ _ h => h) (Or.inr ⟨by rfl, rfl⟩) (by assumption) ?_
                      try simp only [Act.put, List.getElem_toArray, List.getElem_cons_zero, List.getElem_cons_succ, List.setIfInBounds_toArray, List.set_cons_zero, List.set_cons_succ]
                      refine wpAnyH_take (i := 21) (v := undef) rfl (by kernel_rfl) (by kernel_rfl) (by kernel_rfl) (fun _ _ _ h => h) (Or.inr ⟨by rfl, rfl⟩) (by assumption) ?_
                      try simp only [Act.put, List.getElem_toArray, List.getElem_cons_zero, List.getElem_cons_succ, List.setIfInBounds_toArray, List.set_cons_zero, List.set_cons_succ]
                      refine wpAnyH_take (i := 22) (v := undef) rfl (by kernel_rfl) (by kernel_rfl) (by kernel_rfl) (fun _ _ _ h => h) (Or.inr ⟨by rfl, rfl⟩) (by assumption) ?_
                      try simp only [Act.put, List.getElem_toArray, List.getElem_cons_zero, List.getElem_cons_succ, List.setIfInBounds_toArray, List.set_cons_zero, List.set_cons_succ]
                      refine wpAnyH_take (i := 23) (v := undef) rfl (by kernel_rfl) (by kernel_rfl) (by kernel_rfl) (fun _ _ _ h => h) (Or.inr ⟨by rfl, rfl⟩) (by assumption) ?_
                      try simp only [Act.put, List.getElem_toArray, List.getElem_cons_zero, List.getElem_cons_succ, List.setIfInBounds_toArray, List.set_cons_zero, List.set_cons_succ]
                      refine wpAnyH_take (i := 24) (v := undef) rfl (by kernel_rfl) (by kernel_rfl) (by kernel_rfl) (fun _ _ _ h => h) (Or.inr ⟨by rfl, rfl⟩) (by assumption) ?_
                      try simp only [Act.put, List.getElem_toArray, List.getElem_cons_zero, List.getElem_cons_succ, List.setIfInBounds_toArray, List.set_cons_zero, List.set_cons_succ]
                      refine wpAnyH_take (i := 25) (v := undef) rfl (by kernel_rfl) (by kernel_rfl) (by kernel_rfl) (fun _ _ _ h => h) (Or.inr ⟨by rfl, rfl⟩) (by assumption) ?_
                      try simp only [Act.put, List.getElem_toArray, List.getElem_cons_zero, List.getElem_cons_succ, List.setIfInBounds_toArray, List.set_cons_zero, List.set_cons_succ]
                      refine wpAnyH_take (i := 26) (v := ?v26_5) rfl (by kernel_rfl) (by kernel_rfl) (by kernel_rfl) (fun _ _ _ h => h) (Or.inl ⟨by rfl, ?hy26_5⟩) (by assumption) ?_
                      case hy26_5 => (intro W hSw; have q1 : W.cell? ⟨T, 1, none⟩ = some (.string (str a)) := hSw.2.1.cell 1; have q2 : W.cell? ⟨T, 2, none⟩ = some (.string (str v)) := hSw.2.1.cell 2; have q4 : W.cell? ⟨G, 0, none⟩ = some (.string (str r.n)) := hSw.1.1.cell 0; have q5 : W.cell? ⟨T2, 1, none⟩ = some (.string (str y.pl)) := hSw.2.2.cell 1; have q6 : W.cell? ⟨T2, 2, none⟩ = some (.string (str y.u)) := hSw.2.2.cell 2; (try dsimp only at hSw); go_simp; (try with_reducible rfl))
                      try simp only [Act.put, List.getElem_toArray, List.getElem_cons_zero, List.getElem_cons_succ, List.setIfInBounds_toArray, List.set_cons_zero, List.set_cons_succ]
                      refine wpAnyH_take (i := 27) (v := ?v27_5) rfl (by kernel_rfl) (by kernel_rfl) (by kernel_rfl) (fun _ _ _ h => h) (Or.inl ⟨by rfl, ?hy27_5⟩) (by assumption) ?_
                      case hy27_5 => (intro W hSw; have q1 : W.cell? ⟨T, 1, none⟩ = some (.string (str a)) := hSw.2.1.cell 1; have q2 : W.cell? ⟨T, 2, none⟩ = some (.string (str v)) := hSw.2.1.cell 2; have q4 : W.cell? ⟨G, 0, none⟩ = some (.string (str r.n)) := hSw.1.1.cell 0; have q5 : W.cell? ⟨T2, 1, none⟩ = some (.string (str y.pl)) := hSw.2.2.cell 1; have q6 : W.cell? ⟨T2, 2, none⟩ = some (.string (str y.u)) := hSw.2.2.cell 2; (try dsimp only at hSw); go_simp; (try with_reducible rfl))
                      try simp only [Act.put, List.getElem_toArray, List.getElem_cons_zero, List.getElem_cons_succ, List.setIfInBounds_toArray, List.set_cons_zero, List.set_cons_succ]
                      refine wpAnyH_done (by kernel_rfl) ?_ _
                      go_wp2_with fail
                      go_roundw
                      case rel => exact ⟨j + 1, by omega, by go_num, hHeld.1, hHeld.2.1⟩
                      case measure => simp [intOf]; omega
                · rw [decide_eq_false ho] at hox
                  clear h2 ho HNG
                  go_wp2_with fail
                  go_roundw
                  case rel => exact ⟨j + 1, by omega, by go_num, hS8, hW8⟩
                  case measure => simp [intOf]; omega
              · have t1 : (y.k == 2) = false := by simp [h2]
                have t2 : (y.k != 2) = true := by simp [h2]
                clear h2 HNG hox
                go_upto_region 21 with fail
                go_wp2_with fail
                go_roundw
                case rel => exact ⟨j + 1, by omega, by go_num, hS8, hW8⟩
                case measure => simp [intOf]; omega
            · obtain rfl : j = n := by omega
              have HLs : Hid (∀ x', xs[k + 1]? = some x' → x < x') := fun x' hx' => by
                obtain ⟨i1, e1⟩ := List.getElem?_eq_some_iff.1 HX.out
                obtain ⟨i2, e2⟩ := List.getElem?_eq_some_iff.1 hx'
                have := List.pairwise_iff_getElem.1 D2.out k (k + 1) i1 i2 (by omega)
                rwa [e1, e2] at this
              clear hjt
              go_wp2_with fail
              go_roundw
              case rel => exact ⟨k + 1, x, by omega, rfl, by go_num, HLs, hSj⟩
              case measure => simp [intOf]; omega
      · obtain rfl : k = r.d.length := by omega
        clear hlt hLs
        go_wp2_with fail
        go_loopw [116] (fun i wr => ∃ (j : Nat), j ≤ n ∧ i = .int .i64 j ∧ Hid (FdS wF G r dA dc wr)) (fun i wr => n - (intOf i).toNat)
        case atStart => exact ⟨0, Nat.zero_le _, rfl, hSt⟩
        case round =>
          obtain ⟨j, hj, rfl, hSj⟩ := hrel
          by_cases hjt : j < n
          · have f0 : (0 : Int) ≤ (j : Int) := by omega
            have f1 : (j : Int) < (n : Int) := by omega
            obtain ⟨ad2, f, rfl, hab2, hf, r0, r1, r2⟩ := (HL2.out.below hSj.out.2.2).at_ hjt
            have z1 : (ad2.add (j * 3)).block < wr.heap.size := by rw [block_addR]; have := hSj.out.2.2.size; omega
            have hfm := List.mem_of_getElem? hf
            have HPf := Lib.hid (fun W => path_at (rfl : pathW nmsP f.p = pathW nmsP f.p) (HS.out f hfm).1 W)
            have HD5 := Lib.hid (fun hm => D5.out hm f hfm)
            generalize pathW nmsP f.p = y at *
            have hSa : Hid (FdS wF G r dA dc (wr.alloc (.cells #[.string (str f.p), .string (str f.t), .string (str f.l)] 38))) := hSj.out.alloc _
            have ca : (wr.alloc (.cells #[.string (str f.p), .string (str f.t), .string (str f.l)] 38)).cell? ⟨wr.heap.size, 0, none⟩ = some (.string (str f.p)) := (Blk.new wr 38 #[.string (str f.p), .string (str f.t), .string (str f.l)]).cell 0
            clear hf hfm hSj
            go_wp2_with fail
            generalize wr.alloc (.cells #[.string (str f.p), .string (str f.t), .string (str f.l)] 38) = wa at *
            refine (HPf.out _).mono ?_
            rintro e7 w7 ⟨rfl, hb7⟩
            have hS8 : Hid (FdS wF G r dA dc (w7.alloc (.cells #[.int .i64 y.k, .string (str y.pl), .string (str y.u), .string (str y.o)] 45))) := (hSa.out.call hb7).alloc _
            have hY8 : Hid (Blk (w7.alloc (.cells #[.int .i64 y.k, .string (str y.pl), .string (str y.u), .string (str y.o)] 45)) w7.heap.size 45 (wyA y)) := Blk.new w7 _ _
            have m0 : (w7.alloc (.cells #[.int .i64 y.k, .string (str y.pl), .string (str y.u), .string (str y.o)] 45)).cell? ⟨w7.heap.size, 0, none⟩ = some (.int .i64 y.k) := hY8.out.cell 0
            have m2 : (w7.alloc (.cells #[.int .i64 y.k, .string (str y.pl), .string (str y.u), .string (str y.o)] 45)).cell? ⟨w7.heap.size, 2, none⟩ = some (.string (str y.u)) := hY8.out.cell 2
            have n0 : (w7.alloc (.cells #[.int .i64 y.k, .string (str y.pl), .string (str y.u), .string (str y.o)] 45)).cell? ⟨G, 0, none⟩ = some (.string (str r.n)) := hS8.out.1.cell 0
            have n2 : (w7.alloc (.cells #[.int .i64 y.k, .string (str y.pl), .string (str y.u), .string (str y.o)] 45)).cell? ⟨G, 2, none⟩ = some (.bool r.m) := hS8.out.1.cell 2
            have n3 : (w7.alloc (.cells #[.int .i64 y.k, .string (str y.pl), .string (str y.u), .string (str y.o)] 45)).cell? ⟨G, 3, none⟩ = some (.slice dA r.d.length dc) := hS8.out.1.cell 3
            have hun := eq_strG y.u r.n
            clear hb7 hSa HPf ca r0 r1 r2 z1
            by_cases h2 : y.k = 2
            · have t1 : (y.k == 2) = true := by simp [h2]
              have t2 : (y.k != 2) = false := by simp [h2]
              by_cases hu2 : y.u = r.n
              · rw [decide_eq_true hu2] at hun
                by_cases hrt : r.m = false
                · have hrm : r.m = false := hrt
                  clear hrt
                  have hyx := HD5.out hrm h2 hu2
                  rw [hrm] at n2
                  have HYX := Lib.hid hyx
                  clear h2 hu2 hyx HD5 hrm
                  go_wp2_with fail
                  generalize w7.alloc (.cells #[.int .i64 y.k, .string (str y.pl), .string (str y.u), .string (str y.o)] 45) = w8 at *
                  generalize w7.heap.size = T2 at *
                  go_loopw [17, 140] (fun b i wr => ∃ (k : Nat) (bb : Bool), k ≤ r.d.length ∧ b = .bool bb ∧ i = .int .i64 k ∧ Hid (bb = (xs.take k).any (fun z => decide (z = y.o))) ∧ Hid (FdS wF G r dA dc wr) ∧ Hid (Blk wr T2 45 (wyA y))) (fun b i wr => r.d.length - (intOf i).toNat)
                  case atStart => exact ⟨0, false, Nat.zero_le _, rfl, rfl, rfl, hS8, hY8⟩
                  case round =>
                    obtain ⟨k, bb, hk, rfl, rfl, hB, hSk, hYk⟩ := hrel
                    by_cases hkt : k < r.d.length
                    · have g0 : (0 : Int) ≤ (k : Int) := by omega
                      have g1 : (k : Int) < (r.d.length : Int) := by omega
                      obtain ⟨ad3, p, hAd, hab3, hp, q0⟩ := hSk.out.2.1.at_ hkt
                      subst hAd
                      obtain ⟨x, hx, hpx⟩ : ∃ x, xs[k]? = some x ∧ p = whereL nmsP l r.n x := by
                        rw [D1.out, List.getElem?_map] at hp
                        rcases h : xs[k]? with _ | x
                        · rw [h] at hp; cases hp
                        · rw [h] at hp
                          injection hp with hp
                          exact ⟨x, rfl, hp.symm⟩
                      obtain ⟨a, v, hpw, _, _⟩ := D4.out x (List.mem_of_getElem? hx)
                      rw [← hpx] at hpw
                      have hpl : p.length ≤ 4194304 := by have := path_two_len (p := p) (by rw [hpw]); omega
                      have HPa := Lib.hid (fun W => path_at hpw hpl W)
                      obtain ⟨hk2, he2⟩ := List.getElem?_eq_some_iff.1 hx
                      have HB2 : Hid (((xs.take k).any (fun z => decide (z = y.o)) || decide (x = y.o)) = (xs.take (k + 1)).any (fun z => decide (z = y.o))) := by
                        show _ = _
                        rw [List.take_succ_eq_append_getElem hk2, he2, List.any_append]
                        simp
                      clear hpx hpw hp hx hk2 he2
                      cases bb with
                      | true =>
                        have HB3 : Hid (true = (xs.take (k + 1)).any (fun z => decide (z = y.o))) := by show _ = _; rw [← HB2.out, ← hB.out]; rfl
                        clear hB HB2 HPa
                        go_upto_region 32 with fail
                        refine wp_region_held_drew (S := (fun W => FdS wF G r (some ad3) dc W ∧ Blk W T2 45 (wyA y))) (by kernel_rfl) ?_ (fun hHeld => ?_)
                        · exact ⟨hSk.out.drew, hYk.out⟩
                        refine wpAnyH_take (i := 0) (v := ?v0_6) rfl (by kernel_rfl) (by kernel_rfl) (by kernel_rfl) (fun _ _ _ h => h) (Or.inl ⟨by rfl, ?hy0_6⟩) (by assumption) ?_
                        case hy0_6 => (intro W hSw; (try dsimp only at hSw); go_simp; (try with_reducible rfl))
                        try simp only [Act.put, List.getElem_toArray, List.getElem_cons_zero, List.setIfInBounds_toArray, List.set_cons_zero, List.set_cons_succ]
                        refine wpAnyH_take (i := 1) (v := ?v1_6) rfl (by kernel_rfl) (by kernel_rfl) (by kernel_rfl) (fun _ _ _ h => h) (Or.inl ⟨by rfl, ?hy1_6⟩) (by assumption) ?_
                        case hy1_6 => (intro W hSw; (try dsimp only at hSw); go_simp; (try with_reducible rfl))
                        try simp only [Act.put, List.getElem_toArray, List.getElem_cons_zero, List.getElem_cons_succ, List.setIfInBounds_toArray, List.set_cons_zero, List.set_cons_succ]
                        refine wpAnyH_take (i := 2) (v := undef) rfl (by kernel_rfl) (by kernel_rfl) (by kernel_rfl) (fun _ _ _ h => h) (Or.inr ⟨by rfl, rfl⟩) (by assumption) ?_
                        try simp only [Act.put, List.getElem_toArray, List.getElem_cons_zero, List.getElem_cons_succ, List.setIfInBounds_toArray, List.set_cons_zero, List.set_cons_succ]
                        refine wpAnyH_take (i := 3) (v := undef) rfl (by kernel_rfl) (by kernel_rfl) (by kernel_rfl) (fun _ _ _ h => h) (Or.inr ⟨by rfl, rfl⟩) (by assumption) ?_
                        try simp only [Act.put, List.getElem_toArray, List.getElem_cons_zero, List.getElem_cons_succ, List.setIfInBounds_toArray, List.set_cons_zero, List.set_cons_succ]
                        refine wpAnyH_take (i := 4) (v := undef) rfl (by kernel_rfl) (by kernel_rfl) (by kernel_rfl) (fun _ _ _ h => h) (Or.inr ⟨by rfl, rfl⟩) (by assumption) ?_
                        try simp only [Act.put, List.getElem_toArray, List.getElem_cons_zero, List.getElem_cons_succ, List.setIfInBounds_toArray, List.set_cons_zero, List.set_cons_succ]
                        refine wpAnyH_take (i := 5) (v := undef) rfl (by kernel_rfl) (by kernel_rfl) (by kernel_rfl) (fun _ _ _ h => h) (Or.inr ⟨by rfl, rfl⟩) (by assumption) ?_
                        try simp only [Act.put, List.getElem_toArray, List.getElem_cons_zero, List.getElem_cons_succ, List.setIfInBounds_toArray, List.set_cons_zero, List.set_cons_succ]
                        refine wpAnyH_take (i := 6) (v := undef) rfl (by kernel_rfl) (by kernel_rfl) (by kernel_rfl) (fun _ _ _ h => h) (Or.inr ⟨by rfl, rfl⟩) (by assumption) ?_
                        try simp only [Act.put, List.getElem_toArray, List.getElem_cons_zero, List.getElem_cons_succ, List.setIfInBounds_toArray, List.set_cons_zero, List.set_cons_succ]
                        refine wpAnyH_take (i := 7) (v := undef) rfl (by kernel_rfl) (by kernel_rfl) (by kernel_rfl) (fun _ _ _ h => h) (Or.inr ⟨by rfl, rfl⟩) (by assumption) ?_
                        try simp only [Act.put, List.getElem_toArray, List.getElem_cons_zero, List.getElem_cons_succ, List.setIfInBounds_toArray, List.set_cons_zero, List.set_cons_succ]
                        refine wpAnyH_take (i := 8) (v := ?v8_6) rfl (by kernel_rfl) (by kernel_rfl) (by kernel_rfl) (fun _ _ _ h => h) (Or.inl ⟨by rfl, ?hy8_6⟩) (by assumption) ?_
                        case hy8_6 => (intro W hSw; (try dsimp only at hSw); go_simp; (try with_reducible rfl))
                        try simp only [Act.put, List.getElem_toArray, List.getElem_cons_zero, List.getElem_cons_succ, List.setIfInBounds_toArray, List.set_cons_zero, List.set_cons_succ]
                        refine wpAnyH_take (i := 9) (v := ?v9_6) rfl (by kernel_rfl) (by kernel_rfl) (by kernel_rfl) (fun _ _ _ h => h) (Or.inl ⟨by rfl, ?hy9_6⟩) (by assumption) ?_
                        case hy9_6 => (intro W hSw; (try dsimp only at hSw); go_simp; (try with_reducible rfl))
                        try simp only [Act.put, List.getElem_toArray, List.getElem_cons_zero, List.getElem_cons_succ, List.setIfInBounds_toArray, List.set_cons_zero, List.set_cons_succ]
                        refine wpAnyH_done (by kernel_rfl) ?_ _
                        go_wp2_with fail
                        go_roundw
                        case rel => exact ⟨k + 1, true, by omega, rfl, by go_num, HB3, hHeld.1, hHeld.2⟩
                        case measure => simp [intOf]; omega
                      | false =>
                        have HB3 : Hid (decide (x = y.o) = (xs.take (k + 1)).any (fun z => decide (z = y.o))) := by show _ = _; rw [← HB2.out, ← hB.out]; rfl
                        have hxo := eq_strG x y.o
                        have hfl := fldW3 2 (str a) (str v) (str x)
                        generalize decide (x = y.o) = bx at *
                        clear hB HB2
                        go_upto_region 32 with fail
                        refine wp_region_held_drew (S := (fun W => FdS wF G r (some ad3) dc W ∧ Blk W T2 45 (wyA y))) (by kernel_rfl) ?_ (fun hHeld => ?_)
                        · exact ⟨hSk.out.drew, hYk.out⟩
                        refine wpAnyH_take (i := 0) (v := ?v0_7) rfl (by kernel_rfl) (by kernel_rfl) (by kernel_rfl) (fun _ _ _ h => h) (Or.inl ⟨by rfl, ?hy0_7⟩) (by assumption) ?_
                        case hy0_7 => (intro W hSw; (try dsimp only at hSw); go_simp; (try with_reducible rfl))
                        try simp only [Act.put, List.getElem_toArray, List.getElem_cons_zero, List.setIfInBounds_toArray, List.set_cons_zero, List.set_cons_succ]
                        refine wpAnyH_take (i := 1) (v := ?v1_7) rfl (by kernel_rfl) (by kernel_rfl) (by kernel_rfl) (fun _ _ _ h => h) (Or.inl ⟨by rfl, ?hy1_7⟩) (by assumption) ?_
                        case hy1_7 => (intro W hSw; (try dsimp only at hSw); go_simp; (try with_reducible rfl))
                        try simp only [Act.put, List.getElem_toArray, List.getElem_cons_zero, List.getElem_cons_succ, List.setIfInBounds_toArray, List.set_cons_zero, List.set_cons_succ]
                        refine wpAnyH_take (i := 2) (v := ?v2_7) rfl (by kernel_rfl) (by kernel_rfl) (by kernel_rfl) (fun _ _ _ h => h) (Or.inl ⟨by rfl, ?hy2_7⟩) (by assumption) ?_
                        case hy2_7 => (intro W hSw; (try dsimp only at hSw); go_simp; (try with_reducible rfl))
                        try simp only [Act.put, List.getElem_toArray, List.getElem_cons_zero, List.getElem_cons_succ, List.setIfInBounds_toArray, List.set_cons_zero, List.set_cons_succ]
                        refine wpAnyH_take (i := 5) (v := ?v5_7) rfl (by kernel_rfl) (by kernel_rfl) (by kernel_rfl) (fun _ _ _ h => h) (Or.inl ⟨by rfl, ?hy5_7⟩) (by assumption) ?_
                        case hy5_7 => (intro W hSw; have q6 : W.cell? ⟨T2, 3, none⟩ = some (.string (str y.o)) := hSw.2.cell 3; (try dsimp only at hSw); go_simp; (try with_reducible rfl))
                        try simp only [Act.put, List.getElem_toArray, List.getElem_cons_zero, List.getElem_cons_succ, List.setIfInBounds_toArray, List.set_cons_zero, List.set_cons_succ]
                        refine wpAnyH_take (i := 6) (v := ?v6_7) rfl (by kernel_rfl) (by kernel_rfl) (by kernel_rfl) (fun _ _ _ h => h) (Or.inl ⟨by rfl, ?hy6_7⟩) (by assumption) ?_
                        case hy6_7 => (intro W hSw; have q6 : W.cell? ⟨T2, 3, none⟩ = some (.string (str y.o)) := hSw.2.cell 3; (try dsimp only at hSw); go_simp; (try with_reducible rfl))
                        try simp only [Act.put, List.getElem_toArray, List.getElem_cons_zero, List.getElem_cons_succ, List.setIfInBounds_toArray, List.set_cons_zero, List.set_cons_succ]
                        refine wpAnyH_ready (rs := [3]) (by kernel_rfl) (by simp) ?_
                        refine AllReadyH.cons rfl (fun K hK => ?_) AllReadyH.nil
                        go_simp
                        refine (HPa.out _).mono ?_
                        rintro e9 w9 ⟨rfl, hb9⟩
                        refine hK.out _ _ ?_ (fun hHeld2 => ?_)
                        · exact ⟨hHeld.1.call hb9, hHeld.2.below hb9 hHeld.2.lt⟩
                        clear hK K hHeld 
                        have hHeld := hHeld2
                        clear hHeld2
                        refine wpAnyH_take (i := 4) (v := ?v4_7) rfl (by kernel_rfl) (by kernel_rfl) (by kernel_rfl) (fun _ _ _ h => h) (Or.inl ⟨by rfl, ?hy4_7⟩) (by assumption) ?_
                        case hy4_7 => (intro W hSw; have q6 : W.cell? ⟨T2, 3, none⟩ = some (.string (str y.o)) := hSw.2.cell 3; (try dsimp only at hSw); go_simp; (try with_reducible rfl))
                        try simp only [Act.put, List.getElem_toArray, List.getElem_cons_zero, List.getElem_cons_succ, List.setIfInBounds_toArray, List.set_cons_zero, List.set_cons_succ]
                        refine wpAnyH_take (i := 7) (v := ?v7_7) rfl (by kernel_rfl) (by kernel_rfl) (by kernel_rfl) (fun _ _ _ h => h) (Or.inl ⟨by rfl, ?hy7_7⟩) (by assumption) ?_
                        case hy7_7 => (intro W hSw; have q6 : W.cell? ⟨T2, 3, none⟩ = some (.string (str y.o)) := hSw.2.cell 3; (try dsimp only at hSw); go_simp; (try with_reducible rfl))
                        try simp only [Act.put, List.getElem_toArray, List.getElem_cons_zero, List.getElem_cons_succ, List.setIfInBounds_toArray, List.set_cons_zero, List.set_cons_succ]
                        refine wpAnyH_take (i := 8) (v := ?v8_7) rfl (by kernel_rfl) (by kernel_rfl) (by kernel_rfl) (fun _ _ _ h => h) (Or.inl ⟨by rfl, ?hy8_7⟩) (by assumption) ?_
                        case hy8_7 => (intro W hSw; have q6 : W.cell? ⟨T2, 3, none⟩ = some (.string (str y.o)) := hSw.2.cell 3; (try dsimp only at hSw); go_simp; (try with_reducible rfl))
                        try simp only [Act.put, List.getElem_toArray, List.getElem_cons_zero, List.getElem_cons_succ, List.setIfInBounds_toArray, List.set_cons_zero, List.set_cons_succ]
                        refine wpAnyH_take (i := 9) (v := ?v9_7) rfl (by kernel_rfl) (by kernel_rfl) (by kernel_rfl) (fun _ _ _ h => h) (Or.inl ⟨by rfl, ?hy9_7⟩) (by assumption) ?_
                        case hy9_7 => (intro W hSw; have q6 : W.cell? ⟨T2, 3, none⟩ = some (.string (str y.o)) := hSw.2.cell 3; (try dsimp only at hSw); go_simp; (try with_reducible rfl))
                        try simp only [Act.put, List.getElem_toArray, List.getElem_cons_zero, List.getElem_cons_succ, List.setIfInBounds_toArray, List.set_cons_zero, List.set_cons_succ]
                        refine wpAnyH_done (by kernel_rfl) ?_ _
                        go_wp2_with fail
                        go_roundw
                        case rel => exact ⟨k + 1, bx, by omega, rfl, by go_num, HB3, hHeld.1, hHeld.2⟩
                        case measure => simp [intOf]; omega
                    · obtain rfl : k = r.d.length := by omega
                      have HBT : bb = true := by
                        rw [hB.out, List.take_of_length_le (by have := HML.out; omega), List.any_eq_true]
                        exact ⟨y.o, HYX.out, by simp⟩
                      subst HBT
                      clear hkt hB
                      go_wp2_with fail
                      go_roundw
                      case rel => exact ⟨j + 1, by omega, by go_num, hSk⟩
                      case measure => simp [intOf]; omega
                · have hrm : r.m = true := by simpa using hrt
                  rw [hrm] at n2
                  clear h2 hu2 HD5 hrm hrt
                  go_wp2_with fail
                  go_roundw
                  case rel => exact ⟨j + 1, by omega, by go_num, hS8⟩
                  case measure => simp [intOf]; omega
              · rw [decide_eq_false hu2] at hun
                clear h2 hu2 HD5
                go_wp2_with fail
                go_roundw
                case rel => exact ⟨j + 1, by omega, by go_num, hS8⟩
                case measure => simp [intOf]; omega
            · have t1 : (y.k == 2) = false := by simp [h2]
              have t2 : (y.k != 2) = true := by simp [h2]
              clear h2 HD5 hun
              go_upto_region 36 with fail
              go_wp2_with fail
              go_roundw
              case rel => exact ⟨j + 1, by omega, by go_num, hS8⟩
              case measure => simp [intOf]; omega
          · obtain rfl : j = n := by omega
            have HBz := Lib.hid (more3 HB2.out HB2.out.size hSj.out.2.2)
            clear hjt
            go_wp2_with fail
            go_ret
            exact ⟨rfl, HBz.out⟩
  · have t1 : (k0 == 0) = false := by simp [hk0]
    have t2 : (k0 != 0) = true := by simp [hk0]
    go_wp2_with fail
    go_ret
    exact ⟨rfl, HB2.out⟩
end Go.Proofs.Ythodbeeglkedcaa
