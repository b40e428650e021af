/- The walk of the law WordsJoin. -/
import Derived.Test.YtbgblbikffamkaaWdV
import Derived.Maps.AppendAt
namespace Go.Proofs.Ytbgblbikffamkaa
open Go.RowKit

theorem join_list (a b : ByteArray) : (a ++ (⟨#[32]⟩ : ByteArray) ++ b).data.toList = a.data.toList ++ 32 :: b.data.toList := by
  rw [app_list, app_list, List.append_assoc]; rfl
theorem RowAt.cut_none {w : World} {B : Nat} {A : Option Addr} {n : Nat} {l : List (List UInt8)} (h : RowAt w B A n l) (hn : n = 0) : l = [] := List.eq_nil_of_length_eq_zero (by rw [h.1, hn])

section
variable {P : Program} {w : World}
theorem run_append_none (base : Nat) (t ty e : TypeId) (i : TypeInfo) (size : Nat) (ht : P.underlying t = some (.slice e)) (hi : P.info? e = some i)
    (v : Value) (n : Nat) (xs : List Value) (hown : w.ownsRow base e size v n xs) (c : Nat) : (Builtin.append_ #[t, t] ty #[v, .slice none 0 c]).run P w = .ok v w := by
  rcases hown.2 with ⟨rfl, rfl⟩ | ⟨g, cap, cur, rfl, _, _, hnc, _⟩
  · simp [Builtin.append_, run_underlying ht, sizeOf, typeInfo, hi, Builtin.lenOf, Builtin.firstCells]
  · simp [Builtin.append_, run_underlying ht, sizeOf, typeInfo, hi, Builtin.lenOf, Builtin.firstCells, hnc, storeCells]
end
/-- append of a row of texts, nil or not, onto a row of the call's own. -/
theorem run_append_texts {w : World} (base : Nat) (i : TypeInfo) (hi : Try.prog.info? 9 = some i) (hz : i.zero = some (.string ⟨#[]⟩)) (hsize : i.size = 1) (hby : i.bytes = 16)
    (v : Value) (n : Nat) (xs : List (List UInt8)) (hown : w.ownsRow base 9 1 v n (wcells xs)) (B : Nat) (A : Option Addr) (m c : Nat) (l : List (List UInt8)) (hr : RowAt w B A m l) (hn : n ≤ 1000) (hm : m ≤ 1000) (hbase : base ≤ w.heap.size) :
    ∃ v' w', (Builtin.append_ #[22, 22] 22 #[v, .slice A m c]).run Try.prog w = .ok v' w' ∧ w'.ownsRow base 9 1 v' (n + m) (wcells (xs ++ l)) ∧ w.grownBy w' v.ownBlock := by
  rw [wcells_app]
  by_cases h0 : m = 0
  · have hl : l = [] := List.eq_nil_of_length_eq_zero (by rw [hr.1, h0])
    subst hl
    subst h0
    cases A with
    | none => exact ⟨v, w, run_append_none base _ _ _ i 1 Try.underlying22 hi v n _ hown c, by simpa [wcells] using hown, World.grownBy.refl w _⟩
    | some ad =>
      obtain ⟨v', w', hrun, h2, h3, _⟩ := run_append_own_at (P := Try.prog) w base 22 22 9 i _ 1 16 Try.underlying22 hi hz hsize hby rfl (by omega) v n _ hown ad 0 c [] rfl (by simp) (by simp) (by unfold maxLen; omega) (by omega) hbase
      exact ⟨v', w', hrun, h2, h3⟩
  · obtain ⟨ad, rfl, _, hc⟩ := hr.2.2 (by omega)
    obtain ⟨v', w', hrun, h2, h3, _⟩ := run_append_own_at (P := Try.prog) w base 22 22 9 i _ 1 16 Try.underlying22 hi hz hsize hby rfl (by omega) v n _ hown ad m c (wcells l) (by rw [wcells_length, hr.1]; omega) (fun j u hu => by
      unfold wcells at hu
      rw [List.getElem?_map] at hu
      cases hx : l[j]? with
      | none => rw [hx] at hu; cases hu
      | some x =>
        rw [hx] at hu
        injection hu with hu
        subst hu
        exact hc j x hx) (fun u hu => by
      unfold wcells at hu
      obtain ⟨x, _, rfl⟩ := List.mem_map.1 hu
      rfl) (by unfold maxLen; omega) (by omega) hbase
    exact ⟨v', w', hrun, h2, h3⟩
theorem wpList_want {P : Program} {ops : Array Oper} {rest : List Oper} {o : Oper} {a : Act} {w : World} {Q : Exit → Act → World → Prop} (hw : Region.wanted o (yielded ops a.tmps) = true) (h : o.wp P a w (wpList P ops Q rest) Q) : wpList P ops Q (o :: rest) a w := by
  rw [wpList, if_pos hw]
  exact .inl h
theorem wpList_append_texts {w : World} {ops : Array Oper} {rest : List Oper} {o : Oper} {a : Act} {Q : Exit → Act → World → Prop} (hw : Region.wanted o (yielded ops a.tmps) = true) (s x : Operand)
    (ho : o.op = .call { callee := .builtin .append, args := #[s, x], argTypes := #[22, 22] }) (hty : o.type = 22)
    (base : Nat) (i : TypeInfo) (hi : Try.prog.info? 9 = some i) (hz : i.zero = some (.string ⟨#[]⟩)) (hsize : i.size = 1) (hby : i.bytes = 16)
    (v : Value) (n : Nat) (xs : List (List UInt8)) (hs : a.eval s = v) (hown : w.ownsRow base 9 1 v n (wcells xs)) (B : Nat) (A : Option Addr) (m c : Nat) (l : List (List UInt8)) (hx : a.eval x = .slice A m c) (hr : RowAt w B A m l) (hn : n ≤ 1000) (hm : m ≤ 1000) (hbase : base ≤ w.heap.size)
    (h : ∀ v' w', w'.ownsRow base 9 1 v' (n + m) (wcells (xs ++ l)) → w.grownBy w' v.ownBlock → wpList Try.prog ops Q rest (a.put o.dst v') w') : wpList Try.prog ops Q (o :: rest) a w := by
  obtain ⟨v', w', hrun, h2, h3⟩ := run_append_texts base i hi hz hsize hby v n xs hown B A m c l hr hn hm hbase
  refine wpList_want hw ?_
  unfold Oper.wp execOp
  simp only [ho, hty, resolve, invoke, builtin, Sem.run_bind, Sem.run_pure, Result.andThen_ok, List.map_toArray, List.map_cons, List.map_nil, hs, hx, hrun]
  exact h v' w' h2 h3

set_option maxHeartbeats 8000000 in
theorem WordsJoin_any (a b : ByteArray) (ha : a.size ≤ 140737488351232) (hb : b.size ≤ 140737488351232) (w : World) :
    Calls Try.prog 6 #[.string a, .string b] w fun e w' => e = .returned (.bool true) ∧ Below w.heap.size w w' := by
  have hta : topS a.data.toList + 1 ≤ 140737488355328 := by have := topS_le a.data.toList; rw [size_list] at this; omega
  have htb : topS b.data.toList + 1 ≤ 140737488355328 := by have := topS_le b.data.toList; rw [size_list] at this; omega
  have hma : a.size ≤ maxLen := by unfold maxLen; omega
  have hmb : b.size ≤ maxLen := by unfold maxLen; omega
  go_enter Try.func6, Try.ntmps6
  go_wp2_with fail
  refine (shown5_any _).mono ?_
  rintro e w1 ⟨rfl, hb1⟩
  have HB1 := Lib.hid hb1
  clear hb1
  go_wp2_with fail
  refine (Split_any _ hma hta _).mono ?_
  rintro e w2 ⟨A, n, c, rfl, hnc, hn32, hrow, hb2⟩
  have HR2 := Lib.hid hrow
  have HB2 := Lib.hid (below_more HB1.out HB1.out.size hb2)
  clear hrow hb2
  go_wp2_with fail
  refine (Split_any _ hmb htb _).mono ?_
  rintro e w3 ⟨A', n', c', rfl, hnc', hn32', hrow', hb3⟩
  have HR3 := Lib.hid hrow'
  have HR2b := Lib.hid (HR2.out.below hb3)
  have hs23 := hb3.size
  have HB3 := Lib.hid (below_more HB2.out HB2.out.size hb3)
  clear hrow' hb3 HR2 HB2 HB1
  by_cases hea : (splitW a.data.toList).2 = 0
  · by_cases heb : (splitW b.data.toList).2 = 0
    · have HSB := Lib.hid (split_both hea heb)
      have htp : topS (a ++ (⟨#[32]⟩ : ByteArray) ++ b).data.toList + 1 ≤ 140737488355328 := by
        rw [join_list]
        have := topS_both hea heb
        rw [size_list, size_list] at this
        omega
      have HTP := Lib.hid htp
      have HMX : Hid ((a ++ (⟨#[32]⟩ : ByteArray) ++ b).size ≤ maxLen) := by
        show _ ≤ _
        rw [ByteArray.size_append, ByteArray.size_append]
        show a.size + 1 + b.size ≤ maxLen
        unfold maxLen; omega
      have la := HR2b.out.1
      have lb := HR3.out.1
      rw [la, lb] at HSB
      have HEA := Lib.hid hea
      have HEB := Lib.hid heb
      clear htp hea heb
      have z1 : ¬ (9223372036854775807 < a.size + (⟨#[32]⟩ : ByteArray).size) := by show ¬ (_ < a.size + 1); omega
      have z2 : ¬ (9223372036854775807 < (a ++ (⟨#[32]⟩ : ByteArray)).size + b.size) := by rw [ByteArray.size_append]; show ¬ (_ < a.size + 1 + b.size); omega
      rw [HEA.out, HEB.out]
      go_wp2_with fail
      refine (Split_any _ HMX.out HTP.out _).mono ?_
      rintro e w4 ⟨A2, n2, c2, rfl, hnc2, hn322, hrow2, hb4⟩
      rw [join_list] at hrow2 ⊢
      rw [HSB.out] at hrow2 ⊢
      have HB4 := Lib.hid (below_more HB3.out HB3.out.size hb4)
      have HR2c := Lib.hid ((HR2b.out.wide hs23).below hb4)
      have HR3c := Lib.hid (HR3.out.below hb4)
      have hs34 := hb4.size
      clear hb4 z1 z2
      by_cases hle : n + n' ≤ 32
      · rw [if_pos hle] at hrow2 ⊢
        have s1 : (n : Int) + (n' : Int) ≤ 32 := by omega
        have s2 : decide ((32 : Int) < (n : Int) + (n' : Int)) = false := by simp; omega
        dsimp only at hrow2 ⊢
        have HR4 := Lib.hid hrow2
        clear hrow2
        obtain ⟨i0, hi, hz0, hz1, hz2⟩ := info_parts strInfoW
        go_wp2_with (at_builtin; refine wpList_append_texts (by rfl) _ _ rfl rfl w4.heap.size i0 hi hz0 hz1 hz2 (.slice none 0 0) 0 [] rfl (World.ownsRow_nil _ _ _ _) _ A n c (splitW a.data.toList).1 rfl HR2c.out (by omega) (by omega) (Nat.le_refl _) ?_)
        intro v1 w5 hown5 hg5
        have Hb5 : Hid (Below w4.heap.size w4 w5) := (Below.refl _ _).grown hg5 (Nat.le_refl _) (by simp [Value.ownBlock])
        have HR3d := Lib.hid ((HR3c.out.wide hs34).below Hb5.out)
        have HR4d := Lib.hid (HR4.out.below Hb5.out)
        have HO5 := Lib.hid hown5
        clear hown5 hg5
        go_wp2_with (at_builtin; refine wpList_append_texts (by rfl) _ _ rfl rfl w4.heap.size i0 hi hz0 hz1 hz2 v1 n (splitW a.data.toList).1 rfl HO5.out _ A' n' c' (splitW b.data.toList).1 rfl HR3d.out (by omega) (by omega) Hb5.out.size ?_)
        intro v2 w6 hown6 hg6
        have Hb6 : Hid (Below w4.heap.size w4 w6) := Hb5.out.grown hg6 Hb5.out.size (fun k hk => (HO5.out.lt k hk).1)
        have HR4e : Hid (RowAt w6 w6.heap.size A2 n2 ((splitW a.data.toList).1 ++ (splitW b.data.toList).1)) := (HR4.out.below Hb6.out).wide Hb6.out.size
        obtain ⟨A6, n6, c6, rfl⟩ : ∃ A n c, v2 = .slice A n c := by
          rcases hown6.2 with ⟨h1, _⟩ | ⟨g, cap, cur', h1, _⟩
          · exact ⟨_, _, _, h1⟩
          · exact ⟨_, _, _, h1⟩
        obtain ⟨r1, _, r3⟩ := rowAt_of_own hown6 (by omega)
        subst r1
        have HR6 := Lib.hid r3
        have HB6 := Lib.hid (below_more HB4.out HB4.out.size Hb6.out)
        clear hown6 hg6 r3
        go_wp2_with fail
        refine (Same5_any A2 A6 n2 (n + n') c2 c6 w6.heap.size _ _ _ HR4e.out HR6.out).mono ?_
        rintro e w7 ⟨rfl, j, rfl⟩
        rw [decide_eq_true (rfl : (splitW a.data.toList).1 ++ (splitW b.data.toList).1 = _)]
        have HB7 := Lib.hid (below_drewN HB6.out j)
        go_wp2_with fail
        go_ret
        exact ⟨rfl, HB7.out⟩
      · rw [if_neg hle] at hrow2 ⊢
        have s1 : (32 : Int) < (n : Int) + (n' : Int) := by omega
        dsimp only at hrow2 ⊢
        have n20 : n2 = 0 := by have := hrow2.1; simpa using this.symm
        subst n20
        clear hrow2
        go_wp2_with fail
        go_ret
        exact ⟨rfl, HB4.out⟩
    · have e1 : (((splitW b.data.toList).2 : Int) != 0) = true := by simp; omega
      have HEA := Lib.hid hea
      clear hea heb
      rw [HEA.out]
      go_wp2_with fail
      go_ret
      exact ⟨rfl, HB3.out⟩
  · have e1 : (((splitW a.data.toList).2 : Int) != 0) = true := by simp; omega
    clear hea
    go_wp2_with fail
    go_ret
    exact ⟨rfl, HB3.out⟩
end Go.Proofs.Ytbgblbikffamkaa
