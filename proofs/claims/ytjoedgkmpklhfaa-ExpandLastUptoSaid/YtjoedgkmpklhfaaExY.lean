/- Rows of pairs that grow; the walk of the law ExpandLast. -/
import Derived.Test.YtjoedgkmpklhfaaExV
import Derived.Laws.OwnMore
namespace Go.Proofs.Ytjoedgkmpklhfaa
open Go.RowKit Go.WideMaps Go.Maps

theorem pairInfo : (Try.prog.info? 35).map (fun i => (i.zero, i.size, i.bytes)) = some (some (.agg #[.string ⟨#[]⟩, .string ⟨#[]⟩]), 2, 32) := by kernel_rfl
theorem pcells_one {env : List PairX} : ∀ u ∈ pcells env, u.oneCell' = true := by
  intro u hu
  unfold pcells at hu
  obtain ⟨p, _, hp⟩ := List.mem_flatMap.1 hu
  simp at hp
  rcases hp with rfl | rfl <;> rfl
theorem add_addY (a : Addr) (i j : Nat) : (a.add i).add j = a.add (i + j) := by
  unfold Addr.add
  by_cases hi : i = 0 <;> by_cases hj : j = 0 <;> simp [hi, hj, Nat.add_assoc]
theorem add_oneY (a : Addr) : a.add 1 = ⟨a.block, a.off + 1, none⟩ := by simp [Addr.add]
theorem pcells_cell {w : World} {ad : Addr} {l : List PairX} (h : ∀ j p, l[j]? = some p → w.cell? (ad.add (j * 2)) = some (.string (str p.1)) ∧ w.cell? ⟨(ad.add (j * 2)).block, (ad.add (j * 2)).off + 1, none⟩ = some (.string (str p.2))) :
    ∀ j u, (pcells l)[j]? = some u → w.cell? (ad.add j) = some u := by
  intro j u hj
  have hjl : j < l.length * 2 := by
    rcases Nat.lt_or_ge j (l.length * 2) with h' | h'
    · exact h'
    · rw [List.getElem?_eq_none (by rw [pcells_length]; exact h')] at hj; cases hj
  have hl : j / 2 < l.length := by omega
  obtain ⟨h1, h2⟩ := h (j / 2) l[j / 2] (List.getElem?_eq_getElem hl)
  obtain ⟨k1, k2⟩ := pcells_at l (j / 2) l[j / 2] (List.getElem?_eq_getElem hl)
  rcases Nat.mod_two_eq_zero_or_one j with e | e
  · have ej : j / 2 * 2 = j := by omega
    rw [ej] at h1 k1
    rw [k1] at hj
    injection hj with hj
    rw [← hj]; exact h1
  · have ej : j / 2 * 2 + 1 = j := by omega
    rw [ej] at k2
    rw [k2] at hj
    injection hj with hj
    rw [← hj, show ad.add j = (ad.add (j / 2 * 2)).add 1 by rw [add_addY, ej], add_oneY]
    exact h2
theorem own_base {w : World} {base base' : Nat} {e : TypeId} {size : Nat} {v : Value} {n : Nat} {xs : List Value} (h : w.ownsRow base e size v n xs) (hb : base' ≤ base) : w.ownsRow base' e size v n xs := by
  refine ⟨h.1, ?_⟩
  rcases h.2 with h | ⟨g, cap, cur, h1, h2, h3⟩
  · exact .inl h
  · exact .inr ⟨g, cap, cur, h1, Nat.le_trans hb h2, h3⟩
theorem own_form {w : World} {base : Nat} {e : TypeId} {size : Nat} {v : Value} {n : Nat} {xs : List Value} (h : w.ownsRow base e size v n xs) : ∃ A nv cv, v = .slice A nv cv := by
  rcases h.2 with ⟨h, _⟩ | ⟨g, cap, _, h, _⟩
  · exact ⟨_, _, _, h⟩
  · exact ⟨_, _, _, h⟩
theorem own_below {w w' : World} {base : Nat} {e : TypeId} {size : Nat} {v : Value} {n : Nat} {xs : List Value} (h : w.ownsRow base e size v n xs) (hb : Below w.heap.size w w') : w'.ownsRow base e size v n xs :=
  h.kept (row := none) ⟨hb.os, hb.tape, hb.output, hb.size, fun j hj _ => hb.block j hj⟩ (Classical.em _)
theorem pairsAt_of_own {w : World} {base n nv cv : Nat} {A : Option Addr} {l : List PairX} (h : w.ownsRow base 35 2 (.slice A nv cv) n (pcells l)) (hn : n ≤ maxLen) (hp : ∀ p ∈ l, p.1.length ≤ maxLen ∧ p.2.length ≤ maxLen) : nv = n ∧ PairsAt w w.heap.size A n l := by
  have hl : l.length = n := by have := h.1; rw [pcells_length] at this; omega
  rcases h.2 with ⟨h1, h2⟩ | ⟨g, cap, cur, h1, h2, h3, h4, h5, h6, h7⟩
  · injection h1 with h1 h11 h12
    subst h2
    exact ⟨h11, hl, Nat.zero_le _, hp, fun h => by omega⟩
  · injection h1 with h1 h11 h12
    subst h1 h11 h12
    refine ⟨rfl, hl, hn, hp, fun _ => ⟨_, rfl, (Array.getElem?_eq_some_iff.1 h3).1, fun j p hj => ?_⟩⟩
    obtain ⟨k1, k2⟩ := pcells_at l j p hj
    have c1 := h.cells (g := g) rfl _ _ k1
    have c2 := h.cells (g := g) rfl _ _ k2
    refine ⟨c1, ?_⟩
    rw [← add_addY, add_oneY] at c2
    exact c2
theorem run_append_pairs {w : World} (base : Nat) (i : TypeInfo) (hi : Try.prog.info? 35 = some i) (hz : i.zero = some (.agg #[.string ⟨#[]⟩, .string ⟨#[]⟩])) (hsize : i.size = 2) (hby : i.bytes = 32)
    (v : Value) (n : Nat) (xs : List PairX) (hown : w.ownsRow base 35 2 v n (pcells xs)) (B : Nat) (A : Option Addr) (m c : Nat) (l : List PairX) (hr : PairsAt w B A m l) (hn : n + m ≤ 4398046511104) (hbase : base ≤ w.heap.size) :
    ∃ v' w', (Builtin.append_ #[28, 28] 28 #[v, .slice A m c]).run Try.prog w = .ok v' w' ∧ w'.ownsRow base 35 2 v' (n + m) (pcells (xs ++ l)) ∧ w.grownBy w' v.ownBlock := by
  rw [pcells_app]
  by_cases h0 : m = 0
  · have hl : l = [] := List.eq_nil_of_length_eq_zero (by rw [hr.1, h0])
    subst hl
    subst h0
    cases A with
    | none => exact ⟨v, w, run_append_none base _ _ _ i 2 Try.underlying28 hi v n _ hown c, by simpa [pcells] using hown, World.grownBy.refl w _⟩
    | some ad =>
      obtain ⟨v', w', hrun, h2, h3, _⟩ := run_append_own_at (P := Try.prog) w base 28 28 35 i _ 2 32 Try.underlying28 hi hz hsize hby rfl (by omega) v n _ hown ad 0 c [] rfl (by simp) (by simp) (by unfold maxLen; omega) (by omega) hbase
      exact ⟨v', w', hrun, h2, h3⟩
  · obtain ⟨ad, rfl, _, hc⟩ := hr.2.2.2 (by omega)
    obtain ⟨v', w', hrun, h2, h3, _⟩ := run_append_own_at (P := Try.prog) w base 28 28 35 i _ 2 32 Try.underlying28 hi hz hsize hby rfl (by omega) v n _ hown ad m c (pcells l) (by rw [pcells_length, hr.1]) (pcells_cell hc) pcells_one (by unfold maxLen; omega) (by omega) hbase
    exact ⟨v', w', hrun, h2, h3⟩
theorem wpList_append_pairs {w : World} {ops : Array Oper} {rest : List Oper} {o : Oper} {a : Act} {Q : Exit → Act → World → Prop} (hw : Region.wanted o (yielded ops a.tmps) = true) (s x : Operand)
    (ho : o.op = .call { callee := .builtin .append, args := #[s, x], argTypes := #[28, 28] }) (hty : o.type = 28)
    (base : Nat) (i : TypeInfo) (hi : Try.prog.info? 35 = some i) (hz : i.zero = some (.agg #[.string ⟨#[]⟩, .string ⟨#[]⟩])) (hsize : i.size = 2) (hby : i.bytes = 32)
    (v : Value) (n : Nat) (xs : List PairX) (hs : a.eval s = v) (hown : w.ownsRow base 35 2 v n (pcells xs)) (B : Nat) (A : Option Addr) (m c : Nat) (l : List PairX) (hx : a.eval x = .slice A m c) (hr : PairsAt w B A m l) (hn : n + m ≤ 4398046511104) (hbase : base ≤ w.heap.size)
    (h : ∀ v' w', w'.ownsRow base 35 2 v' (n + m) (pcells (xs ++ l)) → w.grownBy w' v.ownBlock → wpList Try.prog ops Q rest (a.put o.dst v') w') : wpList Try.prog ops Q (o :: rest) a w := by
  obtain ⟨v', w', hrun, h2, h3⟩ := run_append_pairs base i hi hz hsize hby v n xs hown B A m c l hr hn hbase
  refine wpList_want hw ?_
  unfold Oper.wp execOp
  simp only [ho, hty, resolve, invoke, builtin, Sem.run_bind, Sem.run_pure, Result.andThen_ok, List.map_toArray, List.map_cons, List.map_nil, hs, hx, hrun]
  exact h v' w' h2 h3

/-- What Vars hands back is a row of its own. -/
def VarsQ (env : List PairX) (l : List (List UInt8)) (w : World) (e : Ending) (w' : World) : Prop :=
  ∃ (A : Option Addr) (n c : Nat), e = .returned (.slice A n c) ∧ n ≤ c ∧ RowAt w' w'.heap.size A n (varsX env l) ∧ Below w.heap.size w w' ∧ w'.ownsRow w.heap.size 9 1 (.slice A n c) n (wcells (varsX env l))
set_option maxHeartbeats 8000000 in
set_option maxRecDepth 100000 in
theorem Vars_own (A A2 : Option Addr) (n c n2 c2 B : Nat) (l : List (List UInt8)) (env : List PairX) (w : World) (h : RowAt w B A n l) (h2 : PairsAt w B A2 n2 env) (hB : B ≤ w.heap.size) (hsz : ∀ x ∈ l, x.length ≤ maxLen)
    (hF : ∀ x ∈ l, wholeX x = [] → (fillX env x).length ≤ 140737488355328) (hV : ∀ x ∈ l, wholeX x ≠ [] → (valX env (wholeX x)).length ≤ 4294967296) (hT : (varsX env l).length ≤ 8796093022208) :
    Calls Try.prog 12 #[.slice A n c, .slice A2 n2 c2] w (VarsQ env l w) := by
  obtain ⟨i0, hi, hz0, hz1, hz2⟩ := info_parts strInfo
  have hm := h.2.1
  unfold maxLen at hm
  have HR := Lib.hid h
  have HF := Lib.hid hF
  have HV := Lib.hid hV
  have HS := Lib.hid hsz
  have HT := Lib.hid (fun k => Nat.le_trans (varsX_part env l k) hT)
  clear hF hV hsz hT h
  go_enter Try.func12, Try.ntmps12
  go_wp2_with fail
  refine (valuesOf_any A2 n2 c2 B env _ h2 hB).mono ?_
  rintro e w1 ⟨M, rfl, hM, hE, hb1⟩
  have HE := Lib.hid hE
  have HB1 := Lib.hid hb1
  have hMl := hE.lt
  have hs1 := hb1.size
  have HR1 : Hid (RowAt w1 w1.heap.size A n l) := (HR.out.below (hb1.mono hB)).wide (by omega)
  clear hE hb1 h2
  go_wp2_with fail
  go_loopw [6, 15] (fun v i wr => ∃ k : Nat, k ≤ n ∧ i = .int .i64 k ∧ Hid (wr.ownsRow w1.heap.size 9 1 v (varsX env (l.take k)).length (wcells (varsX env (l.take k)))) ∧ Hid (Below w1.heap.size w1 wr)) (fun v i wr => n - (intOf i).toNat)
  case atStart => exact ⟨0, Nat.zero_le _, rfl, World.ownsRow_nil _ _ _ _, Below.refl _ _⟩
  case round =>
    obtain ⟨k, hk, rfl, hown, hb⟩ := hrel
    have hbs : w1.heap.size ≤ wr.heap.size := hb.out.size
    by_cases hlt : k < n
    · have b0 : (0 : Int) ≤ (k : Int) := by omega
      have b1 : (k : Int) < (n : Int) := by omega
      obtain ⟨ad, x, rfl, hbl, hx, hc⟩ := (HR1.out.below hb.out).at_ hlt
      have hxm := List.mem_of_getElem? hx
      have hxs := HS.out x hxm
      have HX := Lib.hid (varsX_take (env := env) hx)
      have HT1 := HT.out (k + 1)
      rw [HX.out, List.length_append] at HT1
      rcases hw : wholeOk (str x) with _ | _
      · have hwn := whole_nil hw
        have HO := Lib.hid (oneX_fill (env := env) (w := x) hwn)
        have hfl := HF.out x hxm hwn
        rw [HO.out] at HT1
        have hl1 : (varsX env (List.take k l)).length + 1 ≤ 8796093022208 := HT1
        have HEr : Hid (EnvAt wr M env) := HE.out.below hb.out hMl
        clear hx hwn HT1
        go_wp2_with fail
        refine (wholeWord_any _ _).mono ?_
        rintro e w2 ⟨rfl, q, rfl⟩
        go_wp2_with fail
        refine (fill_any (str x) M env hxs hfl (wr.drewN q) (by exact HEr.out)).mono ?_
        rintro e w3 ⟨rfl, hb3⟩
        have hb3' : Below wr.heap.size wr w3 := below_drewL hb3
        have hown3 : w3.ownsRow w1.heap.size 9 1 u6 (varsX env (l.take k)).length (wcells (varsX env (l.take k))) := hown.out.kept ⟨hb3.os, hb3.tape, hb3.output, hb3.size, fun j hj _ => hb3.block j hj⟩ (Classical.em _)
        have HO3 := Lib.hid hown3
        have Hb3 : Hid (Below w1.heap.size w1 w3) := below_more hb.out hbs hb3'
        have hs3 : w1.heap.size ≤ w3.heap.size := Hb3.out.size
        clear hb3 hb3' hown3
        go_wp2_with (at_builtin; refine wpList_append_own _ rfl _ _ 27 rfl w1.heap.size 9 i0 (.string ⟨#[]⟩) 1 16 Try.underlying27 hi hz0 hz1 hz2 rfl (by decide) _ _ _ rfl (HO3.out.alloc _) ⟨w3.heap.size, 0, none⟩ 1 1 [.string (str (fillX env (str x).data.toList))] rfl rfl ?c1 ?c2 ?c3 ?c4 ?c5 ?_)
        case c1 =>
          intro j u hj
          match j, hj with
          | 0, hj =>
            simp at hj
            subst hj
            simp [Addr.add]
        case c2 => intro u hu; simp at hu; subst hu; rfl
        case c3 => unfold maxLen; omega
        case c4 => omega
        case c5 => simp; omega
        intro v' w4 hown' hgrow _
        have HO4 : Hid (w4.ownsRow w1.heap.size 9 1 v' (varsX env (l.take (k + 1))).length (wcells (varsX env (l.take (k + 1))))) := by
          rw [HX.out, HO.out, wcells_app, List.length_append]; exact hown'
        have Hb4 : Hid (Below w1.heap.size w1 w4) := (Hb3.out.alloc hs3 _).grown hgrow (by simp; omega) (fun j hj => (HO3.out.lt j hj).1)
        clear hown' hgrow
        go_wp2_with fail
        go_roundw
        case rel => exact ⟨k + 1, by omega, by go_num, HO4, Hb4⟩
        case measure => simp [intOf]; omega
      · have hwn := whole_ok hw
        have HO := Lib.hid (oneX_whole (env := env) (w := x) hwn)
        have hvl := HV.out x hxm hwn
        rw [HO.out] at HT1
        have hws : (wholeS (str x)).size ≤ 60 := wholeX_size x
        have HEr : Hid (EnvAt wr M env) := HE.out.below hb.out hMl
        clear hx hwn
        go_wp2_with fail
        refine (wholeWord_any _ _).mono ?_
        rintro e w2 ⟨rfl, q, rfl⟩
        go_wp2_with (at_lookup; refine wpList_look _ rfl _ _ rfl M env rfl (by exact HEr.out) _ rfl (by unfold maxLen; omega) ?_)
        refine (fields_any (str (valX env (wholeX x))) (by exact hvl) (wr.drewN q)).mono ?_
        rintro e w3 ⟨A3, rfl, hr3, hb3⟩
        have hb3' : Below wr.heap.size wr w3 := below_drewL hb3
        have hown3 : w3.ownsRow w1.heap.size 9 1 u6 (varsX env (l.take k)).length (wcells (varsX env (l.take k))) := hown.out.kept ⟨hb3.os, hb3.tape, hb3.output, hb3.size, fun j hj _ => hb3.block j hj⟩ (Classical.em _)
        have HO3 := Lib.hid hown3
        have HR3 := Lib.hid hr3
        have Hb3 : Hid (Below w1.heap.size w1 w3) := below_more hb.out hbs hb3'
        have hs3 : w1.heap.size ≤ w3.heap.size := Hb3.out.size
        clear hb3 hb3' hown3 hr3
        go_wp2_with (at_builtin; refine wpList_append_texts (by rfl) _ _ rfl rfl w1.heap.size i0 hi hz0 hz1 hz2 _ _ _ rfl HO3.out _ _ _ _ _ rfl HR3.out (by exact HT1) hs3 ?_)
        intro v' w4 hown' hgrow
        have HO4 : Hid (w4.ownsRow w1.heap.size 9 1 v' (varsX env (l.take (k + 1))).length (wcells (varsX env (l.take (k + 1))))) := by
          rw [HX.out, HO.out, List.length_append]; exact hown'
        have Hb4 : Hid (Below w1.heap.size w1 w4) := Hb3.out.grown hgrow hs3 (fun j hj => (HO3.out.lt j hj).1)
        clear hown' hgrow
        go_wp2_with fail
        go_roundw
        case rel => exact ⟨k + 1, by omega, by go_num, HO4, Hb4⟩
        case measure => simp [intOf]; omega
    · obtain rfl : k = n := by omega
      have hall : l.take k = l := List.take_of_length_le (by rw [HR.out.1]; exact Nat.le_refl _)
      have HOa : Hid (wr.ownsRow w1.heap.size 9 1 u6 (varsX env l).length (wcells (varsX env l))) := by have := hown.out; rwa [hall] at this
      have hTl := HT.out k
      rw [hall] at hTl
      clear hall
      obtain ⟨vA, vn, vc, rfl⟩ : ∃ vA vn vc, u6 = .slice vA vn vc := by
        rcases HOa.out.2 with ⟨h, _⟩ | ⟨g, cap, _, h, _⟩
        · exact ⟨_, _, _, h⟩
        · exact ⟨_, _, _, h⟩
      go_wp2_with fail
      go_ret
      obtain ⟨r1, r2, r3⟩ := rowAt_of_own HOa.out (by unfold maxLen; omega)
      subst r1
      exact ⟨vA, _, vc, rfl, r2, r3, more HB1.out hb.out, own_base HOa.out hs1⟩
theorem Vars_smallQ (A A2 : Option Addr) (n c n2 c2 B : Nat) (l : List (List UInt8)) (env : List PairX) (w : World) (h : RowAt w B A n l) (h2 : PairsAt w B A2 n2 env) (hB : B ≤ w.heap.size) (hs : ∀ x ∈ l, x.length ≤ 1048576) (hp : ∀ p ∈ env, p.2.length ≤ 1048576) (hl : l.length ≤ 2097152) :
    Calls Try.prog 12 #[.slice A n c, .slice A2 n2 c2] w (VarsQ env l w) :=
  Vars_own A A2 n c n2 c2 B l env w h h2 hB (fun x hx => by have := hs x hx; unfold maxLen; omega) (fun x hx _ => by have := fillX_bound hp (hs x hx); omega) (fun x _ _ => by have := valX_bound hp (wholeX x); omega) (varsX_bound2 hp hl)

set_option maxHeartbeats 8000000 in
set_option maxRecDepth 100000 in
theorem ExpandLast_any (A0 A1 A2 : Option Addr) (n0 c0 n1 c1 n2 c2 B : Nat) (l0 l1 : List (List UInt8)) (env : List PairX) (nm vv : ByteArray) (w : World) (h0 : RowAt w B A0 n0 l0) (h1 : RowAt w B A1 n1 l1) (h2 : PairsAt w B A2 n2 env) (hB : B ≤ w.heap.size)
    (hs0 : ∀ x ∈ l0, x.length ≤ 1048576) (hs1 : ∀ x ∈ l1, x.length ≤ 1048576) (hp : ∀ p ∈ env, p.1.length ≤ 1048576 ∧ p.2.length ≤ 1048576) (hl : l0.length + l1.length ≤ 1048576) (he : env.length ≤ 1048576) (hn : nm.size ≤ 1048576) (hv : vv.size ≤ 1048576) :
    Calls Try.prog 6 #[.slice A0 n0 c0, .slice A1 n1 c1, .slice A2 n2 c2, .string nm, .string vv] w fun e w' => e = .returned (.bool true) ∧ Below w.heap.size w w' := by
  obtain ⟨ip, hpi, hpz0, hpz1, hpz2⟩ := info_parts pairInfo
  obtain ⟨is, hsi, hsz0, hsz1, hsz2⟩ := info_parts strInfo
  have hn2 : n2 ≤ 1048576 := by rw [← h2.1]; exact he
  obtain rfl : n0 = l0.length := h0.1.symm
  obtain rfl : n1 = l1.length := h1.1.symm
  have HPL : Hid (∀ p ∈ env ++ [(nm.data.toList, vv.data.toList)], p.1.length ≤ 1048576 ∧ p.2.length ≤ 1048576) := by
    intro p hp'
    rcases List.mem_append.1 hp' with h | h
    · exact hp p h
    · rw [List.mem_singleton] at h; subst h; exact ⟨by rw [size_list]; omega, by rw [size_list]; exact hv⟩
  have HPV : Hid (∀ p ∈ env, p.2.length ≤ 1048576) := fun p hp' => (hp p hp').2
  have HS0 := Lib.hid hs0
  have HS1 := Lib.hid hs1
  go_enter Try.func6, Try.ntmps6
  go_wp2_with fail
  refine (shown6_any _).mono ?_
  rintro e w1 ⟨rfl, hb1⟩
  have HB1 := Lib.hid hb1
  have HA1 : Hid (RowAt w1 w1.heap.size A0 l0.length l0) := (h0.below (hb1.mono hB)).wide (by have := hb1.size; omega)
  have HC1 : Hid (RowAt w1 w1.heap.size A1 l1.length l1) := (h1.below (hb1.mono hB)).wide (by have := hb1.size; omega)
  have HP1 : Hid (PairsAt w1 w1.heap.size A2 n2 env) := (h2.below (hb1.mono hB)).wide (by have := hb1.size; omega)
  clear hb1 h0 h1 h2 hs0 hs1 hp
  go_wp2_with (at_builtin; refine wpList_append_pairs (by rfl) _ _ rfl rfl w1.heap.size ip hpi hpz0 hpz1 hpz2 (.slice none 0 0) 0 [] rfl (World.ownsRow_nil _ _ _ _) _ _ _ _ env rfl HP1.out (by omega) (Nat.le_refl _) ?_)
  intro v2 w2 hown2 hg2
  have HO2 : Hid (w2.ownsRow w1.heap.size 35 2 v2 n2 (pcells env)) := (show w2.ownsRow w1.heap.size 35 2 v2 n2 (pcells env) by simpa using hown2)
  have HB2 : Hid (Below w1.heap.size w1 w2) := (Below.refl _ _).grown hg2 (Nat.le_refl _) (fun j hj => by cases hj)
  have hs2 : w1.heap.size ≤ w2.heap.size := HB2.out.size
  obtain ⟨vA, vn, vc, rfl⟩ := own_form HO2.out
  clear hown2 hg2
  have ep : (#[.string nm, .string vv] : Array Value) = (pcells [(nm.data.toList, vv.data.toList)]).toArray := by simp [pcells, str_data]
  have HPN : Hid (PairsAt (w2.alloc (.cells #[.string nm, .string vv] 35)) (w2.heap.size + 1) (some ⟨w2.heap.size, 0, none⟩) 1 [(nm.data.toList, vv.data.toList)]) := by
    show PairsAt _ _ _ _ _
    rw [ep]
    exact pairsAt_new _ w2 (by simp [maxLen]) (fun p hp' => by
      have := HPL.out p (List.mem_append.2 (.inr hp'))
      exact ⟨by unfold maxLen; omega, by unfold maxLen; omega⟩)
  clear ep
  go_wp2_with (at_builtin; refine wpList_append_pairs (by rfl) _ _ rfl rfl w1.heap.size ip hpi hpz0 hpz1 hpz2 _ _ env rfl (HO2.out.alloc _) _ _ _ _ [(nm.data.toList, vv.data.toList)] rfl HPN.out (by omega) (by simp; omega) ?_)
  intro v3 w3 hown3 hg3
  have HO3 : Hid (w3.ownsRow w1.heap.size 35 2 v3 (n2 + 1) (pcells (env ++ [(nm.data.toList, vv.data.toList)]))) := hown3
  have HB3 : Hid (Below w1.heap.size w1 w3) := (HB2.out.alloc hs2 _).grown hg3 (by simp; omega) (fun j hj => (HO2.out.lt j hj).1)
  have hs3 : w1.heap.size ≤ w3.heap.size := HB3.out.size
  obtain ⟨uA, un, uc, rfl⟩ := own_form HO3.out
  obtain ⟨e3, hp3⟩ := pairsAt_of_own HO3.out (by unfold maxLen; omega) (fun p hp' => by
    have := HPL.out p hp'
    exact ⟨by unfold maxLen; omega, by unfold maxLen; omega⟩)
  subst e3
  have HP3 := Lib.hid hp3
  have HBw : Hid (Below w.heap.size w w3) := HB1.out.trans (HB3.out.mono HB1.out.size)
  have HAw : Hid (RowAt w3 w3.heap.size A0 l0.length l0) := (HA1.out.below HB3.out).wide hs3
  have HCw : Hid (RowAt w3 w3.heap.size A1 l1.length l1) := (HC1.out.below HB3.out).wide hs3
  have HEw : Hid (PairsAt w3 w3.heap.size A2 n2 env) := (HP1.out.below HB3.out).wide hs3
  clear hown3 hg3 hp3 HPN HO2 HB2 HO3 HA1 HC1 HP1 HB1 HB3 hs2 hs3
  go_wp2_with fail
  refine (VarName_any nm _).mono ?_
  rintro e w' ⟨rfl, rfl⟩
  rcases hvn : varS nm with _ | _
  · clear hvn
    go_wp2_with (at_builtin; refine wpList_append_texts (by rfl) _ _ rfl rfl w3.heap.size is hsi hsz0 hsz1 hsz2 (.slice none 0 0) 0 [] rfl (World.ownsRow_nil _ _ _ _) _ _ _ _ l0 rfl HAw.out (by omega) (Nat.le_refl _) ?_)
    intro v7 w7 hown7 hg7
    have HO7 : Hid (w7.ownsRow w3.heap.size 9 1 v7 l0.length (wcells l0)) := (show w7.ownsRow w3.heap.size 9 1 v7 l0.length (wcells l0) by simpa using hown7)
    have HB7 : Hid (Below w3.heap.size w3 w7) := (Below.refl _ _).grown hg7 (Nat.le_refl _) (fun j hj => by cases hj)
    have HC7 := Lib.hid (HCw.out.below HB7.out)
    have hs7 : w3.heap.size ≤ w7.heap.size := HB7.out.size
    obtain ⟨A7, n7, c7, rfl⟩ := own_form HO7.out
    clear hown7 hg7
    go_wp2_with (at_builtin; refine wpList_append_texts (by rfl) _ _ rfl rfl w3.heap.size is hsi hsz0 hsz1 hsz2 _ _ l0 rfl HO7.out _ _ _ _ l1 rfl HC7.out (by omega) hs7 ?_)
    intro v8 w8 hown8 hg8
    obtain ⟨A8, n8, c8, rfl⟩ := own_form hown8
    obtain ⟨r8, _, hr8⟩ := rowAt_of_own hown8 (by unfold maxLen; omega)
    subst r8
    have HR8 := Lib.hid hr8
    have HB8 : Hid (Below w3.heap.size w3 w8) := HB7.out.grown hg8 hs7 (fun j hj => (HO7.out.lt j hj).1)
    have hs8 : w3.heap.size ≤ w8.heap.size := HB8.out.size
    have HA8 := Lib.hid ((HAw.out.below HB8.out).wide hs8)
    have HC8 := Lib.hid ((HCw.out.below HB8.out).wide hs8)
    have HE8 := Lib.hid ((HEw.out.below HB8.out).wide hs8)
    have HBb8 := Lib.hid (below_more HBw.out HBw.out.size HB8.out)
    have HS01 : Hid (∀ x ∈ l0 ++ l1, x.length ≤ 1048576) := fun x hx => (List.mem_append.1 hx).elim (HS0.out x) (HS1.out x)
    clear hown8 hg8 hr8 HO7 HB7 HC7 HAw HCw HEw HBw hs7
    go_wp2_with fail
    refine (Vars_small A8 A2 _ c8 n2 c2 w8.heap.size (l0 ++ l1) env _ HR8.out HE8.out (Nat.le_refl _) HS01.out HPV.out (by rw [List.length_append]; omega)).mono ?_
    rintro e w9 ⟨A9, n9, c9, rfl, _, hr9, hb9⟩
    have HR9 := Lib.hid hr9
    have HA9 := Lib.hid ((HA8.out.below hb9).wide hb9.size)
    have HC9 := Lib.hid ((HC8.out.below hb9).wide hb9.size)
    have HE9 := Lib.hid ((HE8.out.below hb9).wide hb9.size)
    have HBb9 := Lib.hid (below_more HBb8.out HBb8.out.size hb9)
    clear hr9 hb9 HA8 HC8 HE8 HBb8 HB8 HR8
    go_wp2_with fail
    refine (Vars_smallQ A0 A2 _ c0 n2 c2 w9.heap.size l0 env _ HA9.out HE9.out (Nat.le_refl _) HS0.out HPV.out (by omega)).mono ?_
    rintro e w10 ⟨A10, n10, c10, rfl, _, _, hb10, hown10⟩
    have HO10 := Lib.hid hown10
    have HC10 := Lib.hid ((HC9.out.below hb10).wide hb10.size)
    have HE10 := Lib.hid ((HE9.out.below hb10).wide hb10.size)
    have HX10 := Lib.hid hb10
    have hs10 := hb10.size
    clear hb10 hown10 HA9 HC9 HE9
    go_wp2_with fail
    refine (Vars_small A1 A2 _ c1 n2 c2 w10.heap.size l1 env _ HC10.out HE10.out (Nat.le_refl _) HS1.out HPV.out (by omega)).mono ?_
    rintro e w11 ⟨A11, n11, c11, rfl, _, hr11, hb11⟩
    have HO11 := Lib.hid (own_below HO10.out hb11)
    have HR11 := Lib.hid hr11
    have HX11 := Lib.hid (below_more HX10.out hs10 hb11)
    have hs11 := hb11.size
    have hn10 : n10 = (varsX env l0).length := by have := HO11.out.1; rw [wcells_length] at this; omega
    have hn11 : n11 = (varsX env l1).length := HR11.out.1.symm
    have hv0 := varsX_bound HPV.out l0
    have hv1 := varsX_bound HPV.out l1
    have hsum : n10 + n11 ≤ 8796093022208 := by omega
    clear hr11 hb11 HO10 HC10 HE10 HX10 hn10 hn11 hv0 hv1
    go_wp2_with (at_builtin; refine wpList_append_texts (by rfl) _ _ rfl rfl w9.heap.size is hsi hsz0 hsz1 hsz2 _ _ (varsX env l0) rfl HO11.out _ _ _ _ (varsX env l1) rfl HR11.out hsum (by omega) ?_)
    intro v12 w12 hown12 hg12
    obtain ⟨A12, n12, c12, rfl⟩ := own_form hown12
    obtain ⟨r12, _, hr12⟩ := rowAt_of_own hown12 (by unfold maxLen; omega)
    subst r12
    have HR13 : Hid (RowAt w12 w12.heap.size A12 (n10 + n11) (varsX env (l0 ++ l1))) := by rw [varsX_app]; exact hr12
    have hb12 : Below w9.heap.size w9 w12 := HX11.out.grown hg12 (by omega) (fun j hj => (HO11.out.lt j hj).1)
    have HR14 := Lib.hid ((HR9.out.below hb12).wide hb12.size)
    have HBb12 := Lib.hid (below_more HBb9.out HBb9.out.size hb12)
    clear hown12 hg12 hr12 hb12 HR9 HBb9 HO11 HR11 HX11 hsum hs10 hs11
    go_wp2_with fail
    refine (Same5_any A9 A12 n9 _ c9 c12 w12.heap.size _ _ w12 HR14.out HR13.out).mono ?_
    rintro e w13 ⟨rfl, j13, rfl⟩
    rw [show decide (varsX env (l0 ++ l1) = varsX env (l0 ++ l1)) = true from decide_eq_true rfl]
    go_wp2_with fail
    go_ret
    exact ⟨rfl, below_drewN HBb12.out j13⟩
  · have HLV := Lib.hid (last_val env vv.data.toList (n := nm.data.toList) hvn)
    have h60 : nm.size ≤ 60 := by have := ((varX_iff nm.data.toList).1 hvn).2.1; rw [size_list] at this; exact this
    have z1 : (⟨#[36, 123]⟩ : ByteArray).size ≤ 2 := Nat.le_refl _
    have z2 : (⟨#[125]⟩ : ByteArray).size ≤ 1 := Nat.le_refl _
    have z3 : (⟨#[36]⟩ : ByteArray).size ≤ 1 := Nat.le_refl _
    have z4 : ((⟨#[36, 123]⟩ : ByteArray) ++ nm).size ≤ 1048100 := by rw [ByteArray.size_append]; omega
    have ew : (#[.string ((⟨#[36, 123]⟩ : ByteArray) ++ nm ++ (⟨#[125]⟩ : ByteArray)), .string ((⟨#[36]⟩ : ByteArray) ++ nm)] : Array Value) = (wcells [36 :: 123 :: (nm.data.toList ++ [125]), 36 :: nm.data.toList]).toArray := by
      have e1 : (⟨#[36, 123]⟩ : ByteArray) ++ nm ++ (⟨#[125]⟩ : ByteArray) = str (36 :: 123 :: (nm.data.toList ++ [125])) := by
        apply ext_list; rw [app_list, app_list]; rfl
      have e2 : (⟨#[36]⟩ : ByteArray) ++ nm = str (36 :: nm.data.toList) := by apply ext_list; rw [app_list]; rfl
      rw [e1, e2]; rfl
    have EW := Lib.hid ew
    clear ew
    go_wp2_with fail
    rw [EW.out]
    have HL : RowAt (w3.alloc (.cells (wcells [36 :: 123 :: (nm.data.toList ++ [125]), 36 :: nm.data.toList]).toArray 9)) (w3.heap.size + 1) (some ⟨w3.heap.size, 0, none⟩) 2 [36 :: 123 :: (nm.data.toList ++ [125]), 36 :: nm.data.toList] := rowAt_new _ w3 (by simp [maxLen])
    have hal : Below w3.heap.size w3 (w3.alloc (.cells (wcells [36 :: 123 :: (nm.data.toList ++ [125]), 36 :: nm.data.toList]).toArray 9)) := (Below.refl _ _).alloc (Nat.le_refl _) _
    have hnl : nm.data.toList.length = nm.size := size_list nm
    refine (Vars_small (some ⟨w3.heap.size, 0, none⟩) uA 2 2 (n2 + 1) uc (w3.heap.size + 1) [36 :: 123 :: (nm.data.toList ++ [125]), 36 :: nm.data.toList] (env ++ [(nm.data.toList, vv.data.toList)]) _ HL ((HP3.out.below hal).wide (Nat.le_succ _)) (by simp)
      (by intro x hx; simp at hx; rcases hx with rfl | rfl <;> simp <;> omega) (fun p hp' => (HPL.out p hp').2) (by simp)).mono ?_
    rintro e w4 ⟨A4, n4, c4, rfl, _, hr4, hb4⟩
    rw [HLV.out] at hr4
    have HR4 := Lib.hid hr4
    have hb34 : Below w3.heap.size w3 w4 := hal.trans (hb4.mono (by simp))
    have HBx := Lib.hid (below_more HBw.out HBw.out.size hb34)
    have HAx := Lib.hid ((HAw.out.below hb34).wide hb34.size)
    have HCx := Lib.hid ((HCw.out.below hb34).wide hb34.size)
    have HEx := Lib.hid ((HEw.out.below hb34).wide hb34.size)
    clear hr4 hb4 HL hal hb34 HBw HAw HCw HEw HP3 hnl
    go_wp2_with fail
    have e5 : (#[.string vv] : Array Value) = (wcells [vv.data.toList]).toArray := by simp [wcells, str_data]
    rw [e5]
    have HOL : (w4.alloc (.cells (wcells [vv.data.toList]).toArray 9)).ownsRow w4.heap.size 9 1 (.slice (some ⟨w4.heap.size, 0, none⟩) 1 1) 1 (wcells [vv.data.toList]) := by
      have := World.ownsRow_lit (base := w4.heap.size) (e := 9) (size := 1) w4 (wcells [vv.data.toList]).toArray 1 (Nat.le_refl _) (by simp [maxLen]) (by simp [wcells])
      simpa using this
    have hal4 : Below w4.heap.size w4 (w4.alloc (.cells (wcells [vv.data.toList]).toArray 9)) := (Below.refl _ _).alloc (Nat.le_refl _) _
    refine (Blanks_any vv (⟨#[32, 9]⟩) (by omega) (by decide) _).mono ?_
    rintro e w5 ⟨v5, rfl, hown5, hb5⟩
    obtain ⟨A5, n5, c5, rfl⟩ := own_form hown5
    have hbc := blanksX_count vv.data.toList
    rw [size_list] at hbc
    obtain ⟨r5, _, r6⟩ := rowAt_of_own hown5 (by unfold maxLen; show (blanksL [32, 9] vv.data.toList).length ≤ _; omega)
    subst r5
    have HR5 := Lib.hid r6
    have HO5 := Lib.hid (own_below HOL hb5)
    have hb45 : Below w4.heap.size w4 w5 := hal4.trans (hb5.mono (by simp))
    have HB45 := Lib.hid hb45
    have hs45 : w4.heap.size ≤ w5.heap.size := hb45.size
    clear HOL hal4 hown5 hb5 r6 hb45 e5
    go_wp2_with (at_builtin; refine wpList_append_texts (by rfl) _ _ rfl rfl w4.heap.size is hsi hsz0 hsz1 hsz2 _ _ [vv.data.toList] rfl HO5.out _ _ _ _ _ rfl HR5.out (by show 1 + (blanksL [32, 9] vv.data.toList).length ≤ _; omega) hs45 ?_)
    intro v6 w6 hown6 hg6
    obtain ⟨A6, n6, c6, rfl⟩ := own_form hown6
    obtain ⟨r7, _, r8⟩ := rowAt_of_own hown6 (by unfold maxLen; show 1 + (blanksL [32, 9] vv.data.toList).length ≤ _; omega)
    subst r7
    have HR6 : Hid (RowAt w6 w6.heap.size A6 (1 + (blanksL [32, 9] vv.data.toList).length) (vv.data.toList :: blanksL [32, 9] vv.data.toList)) := r8
    have hb46 : Below w4.heap.size w4 w6 := HB45.out.grown hg6 hs45 (fun j hj => (HO5.out.lt j hj).1)
    have HR4' := Lib.hid ((HR4.out.below hb46).wide hb46.size)
    have HBy := Lib.hid (below_more HBx.out HBx.out.size hb46)
    have HAy := Lib.hid ((HAx.out.below hb46).wide hb46.size)
    have HCy := Lib.hid ((HCx.out.below hb46).wide hb46.size)
    have HEy := Lib.hid ((HEx.out.below hb46).wide hb46.size)
    clear hown6 hg6 r8 hb46 HBx HAx HCx HEx HR4 HR5 HO5 HB45 hs45 hbc
    go_wp2_with fail
    refine (Same5_any A4 A6 n4 _ c4 c6 w6.heap.size _ _ w6 HR4'.out HR6.out).mono ?_
    rintro e w' ⟨rfl, jj, rfl⟩
    rw [show decide (vv.data.toList :: blanksL [32, 9] vv.data.toList = vv.data.toList :: blanksL [32, 9] vv.data.toList) = true from decide_eq_true rfl]
    have HBw : Hid (Below w.heap.size w (w6.drewN jj)) := below_drewN HBy.out jj
    have HAw : Hid (RowAt (w6.drewN jj) (w6.drewN jj).heap.size A0 l0.length l0) := HAy.out
    have HCw : Hid (RowAt (w6.drewN jj) (w6.drewN jj).heap.size A1 l1.length l1) := HCy.out
    have HEw : Hid (PairsAt (w6.drewN jj) (w6.drewN jj).heap.size A2 n2 env) := HEy.out
    clear HBy HAy HCy HEy HR4' HR6
    generalize w6.drewN jj = w3 at *
    go_wp2_with (at_builtin; refine wpList_append_texts (by rfl) _ _ rfl rfl w3.heap.size is hsi hsz0 hsz1 hsz2 (.slice none 0 0) 0 [] rfl (World.ownsRow_nil _ _ _ _) _ _ _ _ l0 rfl HAw.out (by omega) (Nat.le_refl _) ?_)
    intro v7 w7 hown7 hg7
    have HO7 : Hid (w7.ownsRow w3.heap.size 9 1 v7 l0.length (wcells l0)) := (show w7.ownsRow w3.heap.size 9 1 v7 l0.length (wcells l0) by simpa using hown7)
    have HB7 : Hid (Below w3.heap.size w3 w7) := (Below.refl _ _).grown hg7 (Nat.le_refl _) (fun j hj => by cases hj)
    have HC7 := Lib.hid (HCw.out.below HB7.out)
    have hs7 : w3.heap.size ≤ w7.heap.size := HB7.out.size
    obtain ⟨A7, n7, c7, rfl⟩ := own_form HO7.out
    clear hown7 hg7
    go_wp2_with (at_builtin; refine wpList_append_texts (by rfl) _ _ rfl rfl w3.heap.size is hsi hsz0 hsz1 hsz2 _ _ l0 rfl HO7.out _ _ _ _ l1 rfl HC7.out (by omega) hs7 ?_)
    intro v8 w8 hown8 hg8
    obtain ⟨A8, n8, c8, rfl⟩ := own_form hown8
    obtain ⟨r8, _, hr8⟩ := rowAt_of_own hown8 (by unfold maxLen; omega)
    subst r8
    have HR8 := Lib.hid hr8
    have HB8 : Hid (Below w3.heap.size w3 w8) := HB7.out.grown hg8 hs7 (fun j hj => (HO7.out.lt j hj).1)
    have hs8 : w3.heap.size ≤ w8.heap.size := HB8.out.size
    have HA8 := Lib.hid ((HAw.out.below HB8.out).wide hs8)
    have HC8 := Lib.hid ((HCw.out.below HB8.out).wide hs8)
    have HE8 := Lib.hid ((HEw.out.below HB8.out).wide hs8)
    have HBb8 := Lib.hid (below_more HBw.out HBw.out.size HB8.out)
    have HS01 : Hid (∀ x ∈ l0 ++ l1, x.length ≤ 1048576) := fun x hx => (List.mem_append.1 hx).elim (HS0.out x) (HS1.out x)
    clear hown8 hg8 hr8 HO7 HB7 HC7 HAw HCw HEw HBw hs7
    go_wp2_with fail
    refine (Vars_small A8 A2 _ c8 n2 c2 w8.heap.size (l0 ++ l1) env _ HR8.out HE8.out (Nat.le_refl _) HS01.out HPV.out (by rw [List.length_append]; omega)).mono ?_
    rintro e w9 ⟨A9, n9, c9, rfl, _, hr9, hb9⟩
    have HR9 := Lib.hid hr9
    have HA9 := Lib.hid ((HA8.out.below hb9).wide hb9.size)
    have HC9 := Lib.hid ((HC8.out.below hb9).wide hb9.size)
    have HE9 := Lib.hid ((HE8.out.below hb9).wide hb9.size)
    have HBb9 := Lib.hid (below_more HBb8.out HBb8.out.size hb9)
    clear hr9 hb9 HA8 HC8 HE8 HBb8 HB8 HR8
    go_wp2_with fail
    refine (Vars_smallQ A0 A2 _ c0 n2 c2 w9.heap.size l0 env _ HA9.out HE9.out (Nat.le_refl _) HS0.out HPV.out (by omega)).mono ?_
    rintro e w10 ⟨A10, n10, c10, rfl, _, _, hb10, hown10⟩
    have HO10 := Lib.hid hown10
    have HC10 := Lib.hid ((HC9.out.below hb10).wide hb10.size)
    have HE10 := Lib.hid ((HE9.out.below hb10).wide hb10.size)
    have HX10 := Lib.hid hb10
    have hs10 := hb10.size
    clear hb10 hown10 HA9 HC9 HE9
    go_wp2_with fail
    refine (Vars_small A1 A2 _ c1 n2 c2 w10.heap.size l1 env _ HC10.out HE10.out (Nat.le_refl _) HS1.out HPV.out (by omega)).mono ?_
    rintro e w11 ⟨A11, n11, c11, rfl, _, hr11, hb11⟩
    have HO11 := Lib.hid (own_below HO10.out hb11)
    have HR11 := Lib.hid hr11
    have HX11 := Lib.hid (below_more HX10.out hs10 hb11)
    have hs11 := hb11.size
    have hn10 : n10 = (varsX env l0).length := by have := HO11.out.1; rw [wcells_length] at this; omega
    have hn11 : n11 = (varsX env l1).length := HR11.out.1.symm
    have hv0 := varsX_bound HPV.out l0
    have hv1 := varsX_bound HPV.out l1
    have hsum : n10 + n11 ≤ 8796093022208 := by omega
    clear hr11 hb11 HO10 HC10 HE10 HX10 hn10 hn11 hv0 hv1
    go_wp2_with (at_builtin; refine wpList_append_texts (by rfl) _ _ rfl rfl w9.heap.size is hsi hsz0 hsz1 hsz2 _ _ (varsX env l0) rfl HO11.out _ _ _ _ (varsX env l1) rfl HR11.out hsum (by omega) ?_)
    intro v12 w12 hown12 hg12
    obtain ⟨A12, n12, c12, rfl⟩ := own_form hown12
    obtain ⟨r12, _, hr12⟩ := rowAt_of_own hown12 (by unfold maxLen; omega)
    subst r12
    have HR13 : Hid (RowAt w12 w12.heap.size A12 (n10 + n11) (varsX env (l0 ++ l1))) := by rw [varsX_app]; exact hr12
    have hb12 : Below w9.heap.size w9 w12 := HX11.out.grown hg12 (by omega) (fun j hj => (HO11.out.lt j hj).1)
    have HR14 := Lib.hid ((HR9.out.below hb12).wide hb12.size)
    have HBb12 := Lib.hid (below_more HBb9.out HBb9.out.size hb12)
    clear hown12 hg12 hr12 hb12 HR9 HBb9 HO11 HR11 HX11 hsum hs10 hs11
    go_wp2_with fail
    refine (Same5_any A9 A12 n9 _ c9 c12 w12.heap.size _ _ w12 HR14.out HR13.out).mono ?_
    rintro e w13 ⟨rfl, j13, rfl⟩
    rw [show decide (varsX env (l0 ++ l1) = varsX env (l0 ++ l1)) = true from decide_eq_true rfl]
    go_wp2_with fail
    go_ret
    exact ⟨rfl, below_drewN HBb12.out j13⟩
end Go.Proofs.Ytjoedgkmpklhfaa
