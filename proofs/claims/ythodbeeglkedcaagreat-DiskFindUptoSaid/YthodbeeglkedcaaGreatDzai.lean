/- The walk of the document's add. -/
import Derived.Test.YthodbeeglkedcaaGreatDzah
import Derived.Sort.Walk0
namespace Go.Proofs.YthodbeeglkedcaaGreat
open Go.RowKit
def addAt (l : List (List UInt8)) (s : List UInt8) (k : Nat) (done : List (List UInt8)) (put : Bool) : Prop := addL l s = done ++ addGo s put (l.drop k)
theorem addAt_zero (l : List (List UInt8)) (s : List UInt8) : addAt l s 0 [] false := rfl
theorem addAt_step {l : List (List UInt8)} {s x : List UInt8} {k : Nat} {done : List (List UInt8)} {put : Bool} (h : addAt l s k done put) (hx : l[k]? = some x) :
    addAt l s (k + 1) (done ++ ((if put = false ∧ (s < x ∨ s = x) then [s] else []) ++ (if x = s then [] else [x]))) (put || decide (s < x ∨ s = x)) := by
  have hk : k < l.length := by
    rcases Nat.lt_or_ge k l.length with h' | h'
    · exact h'
    · rw [List.getElem?_eq_none h'] at hx; cases hx
  have he : l[k] = x := by rw [List.getElem?_eq_getElem hk] at hx; exact Option.some.inj hx
  unfold addAt at *
  rw [h, List.drop_eq_getElem_cons hk, he, addGo]
  simp only [List.append_assoc]
theorem addAt_end {l : List (List UInt8)} {s : List UInt8} {k : Nat} {done : List (List UInt8)} {put : Bool} (h : addAt l s k done put) (hk : l.length ≤ k) : addL l s = done ++ (if put = true then [] else [s]) := by
  unfold addAt at h
  rw [h, List.drop_of_length_le hk, addGo]
theorem lt_str (s : ByteArray) (x : List UInt8) : Op.bytesLess s.toList (str x).toList = decide (s.data.toList < x) := by
  rw [bytesLess_eq, Lib.toList_data, Lib.toList_data, str_list]
theorem eq_strL (s : ByteArray) (x : List UInt8) : (s.toList == (str x).toList) = decide (s.data.toList = x) := by
  rw [Lib.toList_data, Lib.toList_data, str_list, Bool.eq_iff_iff, decide_eq_true_eq, beq_iff_eq]
theorem eq_strR (s : ByteArray) (x : List UInt8) : ((str x).toList == s.toList) = decide (x = s.data.toList) := by
  rw [Lib.toList_data, Lib.toList_data, str_list, Bool.eq_iff_iff, decide_eq_true_eq, beq_iff_eq]
theorem run_leq_str (w : World) (a b : ByteArray) : (binOp .leq 9 (.string a) (.string b)).run Tryz.prog w = .ok (.bool (Op.bytesLess a.toList b.toList || a.toList == b.toList)) w := by kernel_rfl
def OwnT (w : World) (B : Nat) (v : Value) (l : List (List UInt8)) : Prop := w.ownsRow B 9 1 v l.length (wcells l)
def AddPost (l : List (List UInt8)) (sl : List UInt8) (w : World) (e : Ending) (w' : World) : Prop := ∃ v, e = .returned v ∧ OwnT w' w.heap.size v (addL l sl) ∧ Below w.heap.size w w'
theorem one_cell (s : ByteArray) : wcells [s.data.toList] = [Value.string s] := by unfold wcells; rw [List.map_cons, List.map_nil, str_data]
set_option maxHeartbeats 8000000 in
theorem add_any (A : Option Addr) (n c B : Nat) (l : List (List UInt8)) (s : ByteArray) (w : World) (h : RowAt w B A n l) (hB : B ≤ w.heap.size) (hn : n ≤ 1000000) :
    Calls Tryz.prog 43 #[.slice A n c, .string s] w (AddPost l s.data.toList w) := by
  obtain ⟨i0, hi, hz0, hz1, hz2⟩ := info_parts strInfo
  have hat0 := Lib.hid (addAt_zero l s.data.toList)
  have HL := Lib.hid h
  have hone := Lib.hid (one_cell s)
  have hl := h.1
  clear h
  have E1 := Lib.hid (lt_str s)
  have E2 := Lib.hid (eq_strL s)
  have E3 := Lib.hid (eq_strR s)
  generalize s.data.toList = sl at *
  go_enter Tryz.func43, Tryz.ntmps43
  go_wp2_with fail
  go_loopw [5, 6, 11] (fun v p i wr => ∃ (k : Nat) (done : List (List UInt8)) (put : Bool), k ≤ n ∧ done.length ≤ 2 * k ∧ i = .int .i64 k ∧ p = .bool put ∧ Hid (addAt l sl k done put) ∧ Hid (OwnT wr w.heap.size v done) ∧ Hid (Below w.heap.size w wr)) (fun v p i wr => n - (intOf i).toNat)
  case atStart => exact ⟨0, [], false, Nat.zero_le _, Nat.le_refl _, rfl, rfl, hat0, World.ownsRow_nil _ _ _ _, Below.refl _ _⟩
  case round =>
    obtain ⟨k, done, put, hk, hdl, rfl, rfl, hat, hO, hbw⟩ := hrel
    have hbs : w.heap.size ≤ wr.heap.size := hbw.out.size
    obtain ⟨wo, rfl⟩ : ∃ wo : World, wo = wr := ⟨_, rfl⟩
    by_cases hlt : k < n
    · have b0 : (0 : Int) ≤ (k : Int) := by omega
      have b1 : (k : Int) < (n : Int) := by omega
      obtain ⟨ad, x, rfl, hab, hx, q0⟩ := (HL.out.below (hbw.out.mono hB)).at_ hlt
      have hst := addAt_step hat.out hx
      have honex := Lib.hid (one_cell (str x))
      rw [str_list] at honex
      clear hx
      have e1 := E1.out x
      have e2 := E2.out x
      have e3 := E3.out x
      cases put with
      | true =>
        by_cases hxs : x = sl
        · have d3 : ((str x).toList == s.toList) = true := by rw [e3]; simp [hxs]
          have HST : Hid (addAt l sl (k + 1) done true) := by
            show addAt _ _ _ _ _
            have := hst
            simp [hxs] at this
            simpa [List.append_assoc] using this
          clear hst e1 e2 e3 hxs
          go_wp2_with fail
          go_roundw
          case rel => exact ⟨k + 1, done, true, by omega, by first | omega | (simp only [List.length_append, List.length_cons, List.length_nil]; omega), by go_num, rfl, HST, hO, hbw⟩
          case measure => simp [intOf]; omega
        · have d3 : ((str x).toList == s.toList) = false := by rw [e3]; simp [hxs]
          have HST : Hid (addAt l sl (k + 1) (done ++ [x]) true) := by
            show addAt _ _ _ _ _
            have := hst
            simp [hxs] at this
            simpa [List.append_assoc] using this
          clear hst e1 e2 e3 hxs
          go_wp2_with (at_builtin; refine wpList_append_own _ rfl _ _ 24 rfl w.heap.size 9 i0 (.string ⟨#[]⟩) 1 16 Tryz.underlying24 hi hz0 hz1 hz2 rfl (by decide) _ _ _ rfl (hO.out.alloc _) ⟨wo.heap.size, 0, none⟩ 1 1 [.string (str x)] rfl rfl ?a1 ?b1 ?c1 ?d1 ?e1 ?_)
          case a1 =>
            intro j u hj
            match j, hj with
            | 0, hj =>
              simp at hj
              subst hj
              simp [Addr.add]
          case b1 => intro u hu; simp at hu; subst hu; rfl
          case c1 => unfold maxLen; first | omega | (simp only [List.length_append, List.length_cons, List.length_nil]; omega)
          case d1 => first | omega | (simp only [List.length_append, List.length_cons, List.length_nil]; omega)
          case e1 => simp; omega
          intro v1 w1 own1 grow1 _
          have hO1 : Hid (OwnT w1 w.heap.size v1 (done ++ [x])) := by
            show World.ownsRow _ _ _ _ _ _ _
            rw [wcells_app, honex.out]; simpa only [List.length_append, List.length_cons, List.length_nil, Nat.zero_add] using own1
          have hb1 : Hid (Below w.heap.size w w1) := (hbw.out.alloc hbs _).grown grow1 (by simp; omega) (fun g hg => (hO.out.lt g hg).1)
          have hs1 : w.heap.size ≤ w1.heap.size := hb1.out.size
          clear own1 grow1
          go_wp2_with fail
          go_roundw
          case rel => exact ⟨k + 1, (done ++ [x]), true, by omega, by first | omega | (simp only [List.length_append, List.length_cons, List.length_nil]; omega), by go_num, rfl, HST, hO1, hb1⟩
          case measure => simp [intOf]; omega
      | false =>
        by_cases hls : sl < x
        · have hxs : ¬ x = sl := fun e => by rw [e] at hls; exact ltL_irrefl _ hls
          have d1 : ∀ W, (binOp .leq 9 (.string s) (.string (str x))).run Tryz.prog W = .ok (.bool true) W := fun W => by rw [run_leq_str, e1]; simp [hls]
          have d3 : ((str x).toList == s.toList) = false := by rw [e3]; simp [hxs]
          have HST : Hid (addAt l sl (k + 1) ((done ++ [sl]) ++ [x]) true) := by
            show addAt _ _ _ _ _
            have := hst
            simp [hls, hxs] at this
            simpa [List.append_assoc] using this
          clear hst e1 e2 e3 hxs hls
          go_wp2_with (at_builtin; refine wpList_append_own _ rfl _ _ 24 rfl w.heap.size 9 i0 (.string ⟨#[]⟩) 1 16 Tryz.underlying24 hi hz0 hz1 hz2 rfl (by decide) _ _ _ rfl (hO.out.alloc _) ⟨wo.heap.size, 0, none⟩ 1 1 [.string s] rfl rfl ?a2 ?b2 ?c2 ?d2 ?e2 ?_)
          case a2 =>
            intro j u hj
            match j, hj with
            | 0, hj =>
              simp at hj
              subst hj
              simp [Addr.add]
          case b2 => intro u hu; simp at hu; subst hu; rfl
          case c2 => unfold maxLen; first | omega | (simp only [List.length_append, List.length_cons, List.length_nil]; omega)
          case d2 => first | omega | (simp only [List.length_append, List.length_cons, List.length_nil]; omega)
          case e2 => simp; omega
          intro v2 w2 own2 grow2 _
          have hO2 : Hid (OwnT w2 w.heap.size v2 (done ++ [sl])) := by
            show World.ownsRow _ _ _ _ _ _ _
            rw [wcells_app, hone.out]; simpa only [List.length_append, List.length_cons, List.length_nil, Nat.zero_add] using own2
          have hb2 : Hid (Below w.heap.size w w2) := (hbw.out.alloc hbs _).grown grow2 (by simp; omega) (fun g hg => (hO.out.lt g hg).1)
          have hs2 : w.heap.size ≤ w2.heap.size := hb2.out.size
          clear own2 grow2
          go_wp2_with (at_builtin; refine wpList_append_own _ rfl _ _ 24 rfl w.heap.size 9 i0 (.string ⟨#[]⟩) 1 16 Tryz.underlying24 hi hz0 hz1 hz2 rfl (by decide) _ _ _ rfl (hO2.out.alloc _) ⟨w2.heap.size, 0, none⟩ 1 1 [.string (str x)] rfl rfl ?a3 ?b3 ?c3 ?d3 ?e3 ?_)
          case a3 =>
            intro j u hj
            match j, hj with
            | 0, hj =>
              simp at hj
              subst hj
              simp [Addr.add]
          case b3 => intro u hu; simp at hu; subst hu; rfl
          case c3 => unfold maxLen; first | omega | (simp only [List.length_append, List.length_cons, List.length_nil]; omega)
          case d3 => first | omega | (simp only [List.length_append, List.length_cons, List.length_nil]; omega)
          case e3 => simp; omega
          intro v3 w3 own3 grow3 _
          have hO3 : Hid (OwnT w3 w.heap.size v3 ((done ++ [sl]) ++ [x])) := by
            show World.ownsRow _ _ _ _ _ _ _
            rw [wcells_app, honex.out]; simpa only [List.length_append, List.length_cons, List.length_nil, Nat.zero_add] using own3
          have hb3 : Hid (Below w.heap.size w w3) := (hb2.out.alloc hs2 _).grown grow3 (by simp; omega) (fun g hg => (hO2.out.lt g hg).1)
          have hs3 : w.heap.size ≤ w3.heap.size := hb3.out.size
          clear own3 grow3
          go_wp2_with fail
          go_roundw
          case rel => exact ⟨k + 1, ((done ++ [sl]) ++ [x]), true, by omega, by first | omega | (simp only [List.length_append, List.length_cons, List.length_nil]; omega), by go_num, rfl, HST, hO3, hb3⟩
          case measure => simp [intOf]; omega
        · by_cases hxs : x = sl
          · have d1 : ∀ W, (binOp .leq 9 (.string s) (.string (str x))).run Tryz.prog W = .ok (.bool true) W := fun W => by rw [run_leq_str, e2]; simp [hxs]
            have d3 : ((str x).toList == s.toList) = true := by rw [e3]; simp [hxs]
            have HST : Hid (addAt l sl (k + 1) (done ++ [sl]) true) := by
              show addAt _ _ _ _ _
              have := hst
              simp [hxs] at this
              simpa [List.append_assoc] using this
            clear hst e1 e2 e3 hxs hls
            go_wp2_with (at_builtin; refine wpList_append_own _ rfl _ _ 24 rfl w.heap.size 9 i0 (.string ⟨#[]⟩) 1 16 Tryz.underlying24 hi hz0 hz1 hz2 rfl (by decide) _ _ _ rfl (hO.out.alloc _) ⟨wo.heap.size, 0, none⟩ 1 1 [.string s] rfl rfl ?a4 ?b4 ?c4 ?d4 ?e4 ?_)
            case a4 =>
              intro j u hj
              match j, hj with
              | 0, hj =>
                simp at hj
                subst hj
                simp [Addr.add]
            case b4 => intro u hu; simp at hu; subst hu; rfl
            case c4 => unfold maxLen; first | omega | (simp only [List.length_append, List.length_cons, List.length_nil]; omega)
            case d4 => first | omega | (simp only [List.length_append, List.length_cons, List.length_nil]; omega)
            case e4 => simp; omega
            intro v4 w4 own4 grow4 _
            have hO4 : Hid (OwnT w4 w.heap.size v4 (done ++ [sl])) := by
              show World.ownsRow _ _ _ _ _ _ _
              rw [wcells_app, hone.out]; simpa only [List.length_append, List.length_cons, List.length_nil, Nat.zero_add] using own4
            have hb4 : Hid (Below w.heap.size w w4) := (hbw.out.alloc hbs _).grown grow4 (by simp; omega) (fun g hg => (hO.out.lt g hg).1)
            have hs4 : w.heap.size ≤ w4.heap.size := hb4.out.size
            clear own4 grow4
            go_wp2_with fail
            go_roundw
            case rel => exact ⟨k + 1, (done ++ [sl]), true, by omega, by first | omega | (simp only [List.length_append, List.length_cons, List.length_nil]; omega), by go_num, rfl, HST, hO4, hb4⟩
            case measure => simp [intOf]; omega
          · have hsx : ¬ sl = x := fun e => hxs e.symm
            have d1 : ∀ W, (binOp .leq 9 (.string s) (.string (str x))).run Tryz.prog W = .ok (.bool false) W := fun W => by rw [run_leq_str, e1, e2]; simp [hsx, hls]
            have d3 : ((str x).toList == s.toList) = false := by rw [e3]; simp [hxs]
            have HST : Hid (addAt l sl (k + 1) (done ++ [x]) false) := by
              show addAt _ _ _ _ _
              have := hst
              simp [hls, hxs, hsx] at this
              simpa [List.append_assoc] using this
            clear hst e1 e2 e3 hxs hls hsx
            go_wp2_with (at_builtin; refine wpList_append_own _ rfl _ _ 24 rfl w.heap.size 9 i0 (.string ⟨#[]⟩) 1 16 Tryz.underlying24 hi hz0 hz1 hz2 rfl (by decide) _ _ _ rfl (hO.out.alloc _) ⟨wo.heap.size, 0, none⟩ 1 1 [.string (str x)] rfl rfl ?a5 ?b5 ?c5 ?d5 ?e5 ?_)
            case a5 =>
              intro j u hj
              match j, hj with
              | 0, hj =>
                simp at hj
                subst hj
                simp [Addr.add]
            case b5 => intro u hu; simp at hu; subst hu; rfl
            case c5 => unfold maxLen; first | omega | (simp only [List.length_append, List.length_cons, List.length_nil]; omega)
            case d5 => first | omega | (simp only [List.length_append, List.length_cons, List.length_nil]; omega)
            case e5 => simp; omega
            intro v5 w5 own5 grow5 _
            have hO5 : Hid (OwnT w5 w.heap.size v5 (done ++ [x])) := by
              show World.ownsRow _ _ _ _ _ _ _
              rw [wcells_app, honex.out]; simpa only [List.length_append, List.length_cons, List.length_nil, Nat.zero_add] using own5
            have hb5 : Hid (Below w.heap.size w w5) := (hbw.out.alloc hbs _).grown grow5 (by simp; omega) (fun g hg => (hO.out.lt g hg).1)
            have hs5 : w.heap.size ≤ w5.heap.size := hb5.out.size
            clear own5 grow5
            go_wp2_with fail
            go_roundw
            case rel => exact ⟨k + 1, (done ++ [x]), false, by omega, by first | omega | (simp only [List.length_append, List.length_cons, List.length_nil]; omega), by go_num, rfl, HST, hO5, hb5⟩
            case measure => simp [intOf]; omega
    · obtain rfl : k = n := by omega
      have HE := addAt_end hat.out (by omega)
      cases put with
      | true =>
        have HE1 : Hid (addL l sl = done) := by show _ = _; rw [HE]; simp
        clear HE
        go_wp2_with fail
        go_ret
        exact ⟨_, rfl, by rw [HE1.out]; exact hO.out, hbw.out⟩
      | false =>
        have HE1 : Hid (addL l sl = done ++ [sl]) := by show _ = _; rw [HE]; simp
        clear HE
        go_wp2_with (at_builtin; refine wpList_append_own _ rfl _ _ 24 rfl w.heap.size 9 i0 (.string ⟨#[]⟩) 1 16 Tryz.underlying24 hi hz0 hz1 hz2 rfl (by decide) _ _ _ rfl (hO.out.alloc _) ⟨wo.heap.size, 0, none⟩ 1 1 [.string s] rfl rfl ?a6 ?b6 ?c6 ?d6 ?e6 ?_)
        case a6 =>
          intro j u hj
          match j, hj with
          | 0, hj =>
            simp at hj
            subst hj
            simp [Addr.add]
        case b6 => intro u hu; simp at hu; subst hu; rfl
        case c6 => unfold maxLen; first | omega | (simp only [List.length_append, List.length_cons, List.length_nil]; omega)
        case d6 => first | omega | (simp only [List.length_append, List.length_cons, List.length_nil]; omega)
        case e6 => simp; omega
        intro v6 w6 own6 grow6 _
        have hO6 : Hid (OwnT w6 w.heap.size v6 (done ++ [sl])) := by
          show World.ownsRow _ _ _ _ _ _ _
          rw [wcells_app, hone.out]; simpa only [List.length_append, List.length_cons, List.length_nil, Nat.zero_add] using own6
        have hb6 : Hid (Below w.heap.size w w6) := (hbw.out.alloc hbs _).grown grow6 (by simp; omega) (fun g hg => (hO.out.lt g hg).1)
        have hs6 : w.heap.size ≤ w6.heap.size := hb6.out.size
        clear own6 grow6
        go_wp2_with fail
        go_ret
        exact ⟨_, rfl, by rw [HE1.out]; exact hO6.out, hb6.out⟩
end Go.Proofs.YthodbeeglkedcaaGreat
