/- Value of any key, by the developers and by the document; the walks of the document's wrong and Check. The walks of the l -/
import Derived.Test.YtadifolonbkamaaGreatDoorKcbv
import Derived.Test.YtadifolonbkamaaGreatDoorKcbk
import Derived.Deep.RegionHeld3
namespace Go.Proofs.YtadifolonbkamaaGreatDoor
open Go.RowKit
def rvalT (x : Ky) (v : ByteArray) : Int := if x.f < 1 ∨ 11 < x.f then 3 else valueT x v
theorem rvalT_in {x : Ky} {v : ByteArray} (h1 : 1 ≤ x.f) (h2 : x.f ≤ 11) : rvalT x v = valueT x v := by unfold rvalT; rw [if_neg (by omega)]
set_option maxHeartbeats 4000000 in
theorem rval_no (r : Kr) (h : r.f < 1 ∨ 11 < r.f) (v : ByteArray) (w : World) :
    Calls Tryz.prog 16 #[.agg #[.string (str r.s), .string (str r.n), .int .i64 r.f, .bool r.l, .int .i64 r.k, .slice r.A r.m r.c], .string v] w fun e w' => e = .returned (.int .i64 3) ∧ Below w.heap.size w w' := by
  by_cases h1 : r.f < 1
  · clear h
    go_enter Tryz.func16, Tryz.ntmps16
    go_wp2_with fail
    go_ret
    exact ⟨rfl, (Below.refl _ w).alloc (Nat.le_refl _) _⟩
  · have h2 : 11 < r.f := by omega
    have h3 : 1 ≤ r.f := by omega
    have u1 : (0 : Nat) ≤ 1 := Nat.zero_le _
    clear h h1
    go_enter Tryz.func16, Tryz.ntmps16
    go_wp2_with fail
    go_ret
    exact ⟨rfl, (Below.refl _ w).alloc (Nat.le_refl _) _⟩
theorem rv_key (rs rn : List UInt8) (f : Int) (l : Bool) (k : Int) (A : Option Addr) (m c : Nat) (ws : List (List UInt8)) (v : ByteArray) (hv : v.size ≤ 1048576) (B : Nat) (w : World) (hw : RowAt w B A m ws) (hB : B ≤ w.heap.size) :
    Calls Tryz.prog 16 #[.agg #[.string (str rs), .string (str rn), .int .i64 f, .bool l, .int .i64 k, .slice A m c], .string v] w fun e w' => e = .returned (.int .i64 (rvalT ⟨rs, rn, f, l, k, ws⟩ v)) ∧ Below w.heap.size w w' := by
  by_cases hr : f < 1 ∨ 11 < f
  · unfold rvalT
    rw [if_pos hr]
    exact rval_no ⟨rs, rn, f, l, k, A, m, c⟩ hr v w
  rw [rvalT_in (show 1 ≤ f by omega) (show f ≤ 11 by omega)]
  have hval : ∀ b : Bool, (if v.toList.isEmpty = true then l else b) = takesT ⟨rs, rn, f, l, k, ws⟩ v → (if (if v.toList.isEmpty = true then l else b) = true then (0 : Int) else 12) = valueT ⟨rs, rn, f, l, k, ws⟩ v := fun b h => by unfold valueT; rw [h]
  have hcs : f = 1 ∨ f = 2 ∨ f = 3 ∨ f = 4 ∨ f = 5 ∨ f = 6 ∨ f = 7 ∨ f = 8 ∨ f = 9 ∨ f = 10 ∨ f = 11 := by omega
  rcases hcs with rfl | rfl | rfl | rfl | rfl | rfl | rfl | rfl | rfl | rfl | rfl
  · refine (rval_text ⟨rs, rn, 1, l, k, A, m, c⟩ v hv w).mono ?_
    rintro e w1 ⟨he, hb⟩
    refine ⟨he.trans ?_, hb⟩
    have ht' : takesT ⟨rs, rn, 1, l, k, ws⟩ v = true := by unfold takesT; rw [if_pos rfl]
    unfold valueT
    rw [ht']
    cases v.toList.isEmpty <;> rfl
  · refine (rval_bool ⟨rs, rn, 2, l, k, A, m, c⟩ v hv w).mono ?_
    rintro e w1 ⟨he, hb⟩
    refine ⟨he.trans ?_, hb⟩
    have ht' : takesT ⟨rs, rn, 2, l, k, ws⟩ v = if v.toList.isEmpty = true then l else (boolS v) := by unfold takesT; exact (if_neg (show ¬ (2 : Int) = 1 by decide)).trans rfl
    rw [hval _ ht'.symm]
  · refine (rval_num ⟨rs, rn, 3, l, k, A, m, c⟩ v hv w).mono ?_
    rintro e w1 ⟨he, hb⟩
    refine ⟨he.trans ?_, hb⟩
    have ht' : takesT ⟨rs, rn, 3, l, k, ws⟩ v = if v.toList.isEmpty = true then l else (numS v) := by unfold takesT; exact (if_neg (show ¬ (3 : Int) = 1 by decide)).trans rfl
    rw [hval _ ht'.symm]
  · refine (rval_span ⟨rs, rn, 4, l, k, A, m, c⟩ v hv w).mono ?_
    rintro e w1 ⟨he, hb⟩
    refine ⟨he.trans ?_, hb⟩
    have ht' : takesT ⟨rs, rn, 4, l, k, ws⟩ v = if v.toList.isEmpty = true then l else (Sn.parseOk v) := by unfold takesT; exact (if_neg (show ¬ (4 : Int) = 1 by decide)).trans rfl
    rw [hval _ ht'.symm]
  · refine (rval_unit ⟨rs, rn, 5, l, k, A, m, c⟩ v hv w).mono ?_
    rintro e w1 ⟨he, hb⟩
    refine ⟨he.trans ?_, hb⟩
    have ht' : takesT ⟨rs, rn, 5, l, k, ws⟩ v = if v.toList.isEmpty = true then l else (unitS v) := by unfold takesT; exact (if_neg (show ¬ (5 : Int) = 1 by decide)).trans rfl
    rw [hval _ ht'.symm]
  · refine (rval_names ⟨rs, rn, 6, l, k, A, m, c⟩ v hv w).mono ?_
    rintro e w1 ⟨he, hb⟩
    refine ⟨he.trans ?_, hb⟩
    have ht' : takesT ⟨rs, rn, 6, l, k, ws⟩ v = if v.toList.isEmpty = true then l else (listS unitS v) := by unfold takesT; exact (if_neg (show ¬ (6 : Int) = 1 by decide)).trans rfl
    rw [hval _ ht'.symm]
  · refine (rval_cmd ⟨rs, rn, 7, l, k, A, m, c⟩ v hv w).mono ?_
    rintro e w1 ⟨he, hb⟩
    refine ⟨he.trans ?_, hb⟩
    have ht' : takesT ⟨rs, rn, 7, l, k, ws⟩ v = if v.toList.isEmpty = true then l else (cmdS v) := by unfold takesT; exact (if_neg (show ¬ (7 : Int) = 1 by decide)).trans rfl
    rw [hval _ ht'.symm]
  · refine (rval_env ⟨rs, rn, 8, l, k, A, m, c⟩ v hv w).mono ?_
    rintro e w1 ⟨he, hb⟩
    refine ⟨he.trans ?_, hb⟩
    have ht' : takesT ⟨rs, rn, 8, l, k, ws⟩ v = if v.toList.isEmpty = true then l else (envS v) := by unfold takesT; exact (if_neg (show ¬ (8 : Int) = 1 by decide)).trans rfl
    rw [hval _ ht'.symm]
  · refine (rval_cal ⟨rs, rn, 9, l, k, A, m, c⟩ v hv w).mono ?_
    rintro e w1 ⟨he, hb⟩
    refine ⟨he.trans ?_, hb⟩
    have ht' : takesT ⟨rs, rn, 9, l, k, ws⟩ v = if v.toList.isEmpty = true then l else (calS v) := by unfold takesT; exact (if_neg (show ¬ (9 : Int) = 1 by decide)).trans rfl
    rw [hval _ ht'.symm]
  · refine (rval_word ⟨rs, rn, 10, l, k, A, m, c⟩ v hv B ws w hw hB).mono ?_
    rintro e w1 ⟨he, hb⟩
    refine ⟨he.trans ?_, hb⟩
    have ht' : takesT ⟨rs, rn, 10, l, k, ws⟩ v = if v.toList.isEmpty = true then l else (ws.any (fun y => decide (y = v.data.toList))) := by unfold takesT; exact (if_neg (show ¬ (10 : Int) = 1 by decide)).trans rfl
    rw [hval _ ht'.symm]
  · refine (rval_nums ⟨rs, rn, 11, l, k, A, m, c⟩ v hv w).mono ?_
    rintro e w1 ⟨he, hb⟩
    refine ⟨he.trans ?_, hb⟩
    have ht' : takesT ⟨rs, rn, 11, l, k, ws⟩ v = if v.toList.isEmpty = true then l else (listS numS v) := by unfold takesT; exact (if_neg (show ¬ (11 : Int) = 1 by decide)).trans rfl
    rw [hval _ ht'.symm]
theorem rvalT_is {r : Kr} {w : World} {B : Nat} {x : Ky} (h : r.is w B x) (v : ByteArray) : rvalT ⟨r.s, r.n, r.f, r.l, r.k, x.w⟩ v = rvalT x v := by
  obtain ⟨h1, h2, h3, h4, h5, _⟩ := h
  rw [h1, h2, h3, h4, h5]
theorem keysT_filter (s : List UInt8) : keysT s = allT.filter fun y => decide (y.s = s) := by
  have hall : ∀ y ∈ allT, y.s = nUnit ∨ y.s = nServ ∨ y.s = nSock ∨ y.s = nTime ∨ y.s = nInst := by decide +kernel
  by_cases h1 : s = nUnit
  · subst h1; decide +kernel
  by_cases h2 : s = nServ
  · subst h2; decide +kernel
  by_cases h3 : s = nSock
  · subst h3; decide +kernel
  by_cases h4 : s = nTime
  · subst h4; decide +kernel
  by_cases h5 : s = nInst
  · subst h5; decide +kernel
  have e : keysT s = [] := by unfold keysT; rw [if_neg h1, if_neg h2, if_neg h3, if_neg h4, if_neg h5]
  rw [e]
  symm
  rw [List.filter_eq_nil_iff]
  intro y hy h
  have hs := of_decide_eq_true h
  rcases hall y hy with q | q | q | q | q
  · exact h1 (hs.symm.trans q)
  · exact h2 (hs.symm.trans q)
  · exact h3 (hs.symm.trans q)
  · exact h4 (hs.symm.trans q)
  · exact h5 (hs.symm.trans q)
theorem often_any (s : List UInt8) (kind : Int) : oftenT s kind = allT.any fun y => decide (y.s = s) && isForK y.k kind := by
  unfold oftenT
  rw [keysT_filter, List.any_filter]
  rfl
theorem allT_k : ∀ y ∈ allT, y.k ∈ ([2, 4, 8, 30] : List Int) := by decide +kernel
theorem shift_one {k kind : Int} (h1 : 1 ≤ kind) (h4 : kind ≤ 4) (hk : k ∈ ([2, 4, 8, 30] : List Int)) : (bits .and .i64 (k / 2 ^ kind.toNat) 1 == 1) = isForK k kind := by
  have hc : kind = 1 ∨ kind = 2 ∨ kind = 3 ∨ kind = 4 := by omega
  simp only [List.mem_cons, List.not_mem_nil, or_false] at hk
  rcases hc with rfl | rfl | rfl | rfl <;> rcases hk with rfl | rfl | rfl | rfl <;> decide +kernel
theorem any_stepF {p : Ky → Bool} {k : Nat} {x : Ky} (hx : allT[k]? = some x) : (allT.take (k + 1)).any p = ((allT.take k).any p || p x) := by
  rw [List.take_add_one, hx]; simp
set_option maxRecDepth 100000 in
set_option maxHeartbeats 16000000 in
theorem rwrong_of (kind : Int) (s k v : ByteArray) (n : Int) (hv : v.size ≤ 1048576) (w : World) :
    Calls Tryz.prog 38 #[.int .i64 kind, .agg #[.string s, .string k, .string v, .int .i64 n]] w fun e w' => e = .returned (.int .i64 (lineV valueT kind s k v)) ∧ Below w.heap.size w w' := by
  have HB0 : Hid (Below w.heap.size w (w.alloc (.cells #[.string s, .string k, .string v, .int .i64 n] 44))) := (Below.refl _ w).alloc (Nat.le_refl _) _
  have HL0 : Hid (Blk (w.alloc (.cells #[.string s, .string k, .string v, .int .i64 n] 44)) w.heap.size 44 #[.string s, .string k, .string v, .int .i64 n]) := Blk.new w _ _
  obtain ⟨rg, hrg⟩ : ∃ b, (decide (1 ≤ kind) && decide (kind ≤ 4)) = b := ⟨_, rfl⟩
  have HLOW : Hid (kind < 1 → ∀ y ∈ allT, isForK y.k kind = false) := fun h y hy => forK_low h (allT_k y hy)
  have HHIGH : Hid (4 < kind → ∀ y ∈ allT, isForK y.k kind = false) := fun h y hy => forK_high h (allT_k y hy)
  have HOF := Lib.hid (often_any s.data.toList kind)
  have HLEN : Hid (allT.length = 42) := allT_len
  have HAK := Lib.hid allT_k
  clear hrg rg
  go_enter Tryz.func38, Tryz.ntmps38
  go_wp2_with fail
  generalize w.alloc (.cells #[.string s, .string k, .string v, .int .i64 n] 44) = wa at *
  refine (Keys_any _).mono ?_
  rintro e1 w1 ⟨vv, rfl, hk⟩
  have hb1 := hk.below
  obtain ⟨A, c, rfl, hkeys⟩ := hk.at_ (by decide +kernel)
  rw [allT_len] at hkeys ⊢
  have HB1 := Lib.hid (more3 HB0.out HB0.out.size hb1)
  have HL1 := Lib.hid (HL0.out.below hb1 HL0.out.lt)
  have HK1 := Lib.hid hkeys
  have hL1 := HL1.out.lt
  clear hb1 hk hkeys HB0 HL0
  have hST := fun (p : Ky → Bool) (q : Nat) (y : Ky) (hy : allT[q]? = some y) => any_stepF (p := p) hy
  generalize allT = al at *
  have HSTEP := Lib.hid hST
  clear hST
  go_wp2_with fail
  go_loopw [5, 12] (fun o i wr => ∃ (j : Nat) (b : Bool), j ≤ 42 ∧ i = .int .i64 j ∧ o = .bool b ∧ Hid (b = (al.take j).any fun y => decide (y.s = s.data.toList) && isForK y.k kind) ∧ Hid (Below w1.heap.size w1 wr)) (fun o i wr => 42 - (intOf i).toNat)
  case atStart => exact ⟨0, false, Nat.zero_le _, rfl, rfl, by show _ = _; simp, Below.refl _ _⟩
  case round =>
    obtain ⟨j, b, hj, rfl, rfl, hb, hB⟩ := hrel
    have j0 : (0 : Int) ≤ (j : Int) := by omega
    by_cases hlt : j < 42
    · have j1 : (j : Int) < 42 := by omega
      obtain ⟨ad, r, x, rfl, hab, hx, hr, q0, q1, q2, q3, q4, q5⟩ := (HK1.out.below hB.out).at_ hlt
      have hxm : x ∈ al := List.mem_of_getElem? hx
      have HT := Lib.hid (fun p => HSTEP.out p j x hx)
      have HBn : Hid (Below w1.heap.size w1 (wr.alloc (.cells #[.string (str r.s), .string (str r.n), .int .i64 r.f, .bool r.l, .int .i64 r.k, .slice r.A r.m r.c] 28))) := hB.out.alloc hB.out.size _
      have l0 : (wr.alloc (.cells #[.string (str r.s), .string (str r.n), .int .i64 r.f, .bool r.l, .int .i64 r.k, .slice r.A r.m r.c] 28)).cell? ⟨w.heap.size, 0, none⟩ = some (.string s) := (HL1.out.below HBn.out hL1).cell 0
      have hrs := hr.1
      have hrk := hr.2.2.2.2.1
      obtain ⟨rs, rn, rf, rl, rk, rA, rm, rc⟩ := r
      dsimp only at hrs hrk q0 q1 q2 q3 q4 q5 l0 HBn
      subst hrs hrk
      have hq : ((str x.s).toList == s.toList) = decide (x.s = s.data.toList) := by
        rw [Lib.toList_data, Lib.toList_data, str_list, Bool.eq_iff_iff, decide_eq_true_eq, beq_iff_eq]
      have hxk := HAK.out x hxm
      have HXM := Lib.hid hxm
      clear hr hx hxm
      rcases b with _ | _
      · by_cases hs : x.s = s.data.toList
        · rw [decide_eq_true hs] at hq
          by_cases hlow : kind < 1
          · have HN : Hid (false = (al.take (j + 1)).any fun y => decide (y.s = s.data.toList) && isForK y.k kind) := by
              show _ = _
              rw [HT.out, ← hb.out, HLOW.out hlow x HXM.out]; simp
            have hl1 : decide ((1 : Int) ≤ kind) = false := decide_eq_false (by omega)
            clear hs
            go_wp2_with fail
            go_roundw
            case rel => exact ⟨j + 1, false, by omega, by go_num, rfl, HN, HBn⟩
            case measure => simp [intOf]; omega
          · by_cases hhigh : 4 < kind
            · have HN : Hid (false = (al.take (j + 1)).any fun y => decide (y.s = s.data.toList) && isForK y.k kind) := by
                show _ = _
                rw [HT.out, ← hb.out, HHIGH.out hhigh x HXM.out]; simp
              have hl1 : (1 : Int) ≤ kind := by omega
              have hl4 : decide (kind ≤ (4 : Int)) = false := decide_eq_false (by omega)
              clear hs
              go_wp2_with fail
              go_roundw
              case rel => exact ⟨j + 1, false, by omega, by go_num, rfl, HN, HBn⟩
              case measure => simp [intOf]; omega
            · have hl1 : (1 : Int) ≤ kind := by omega
              have hl0 : (0 : Int) ≤ kind := by omega
              have hl4 : kind ≤ 4 := by omega
              have hsh := shift_one hl1 hl4 hxk
              have HN : Hid (isForK x.k kind = (al.take (j + 1)).any fun y => decide (y.s = s.data.toList) && isForK y.k kind) := by
                show _ = _
                rw [HT.out, ← hb.out, decide_eq_true hs]; simp
              clear hs
              rcases hfk : isForK x.k kind with _ | _
              all_goals
                rw [hfk] at hsh HN
                go_wp2_with fail
                go_roundw
                case rel => exact ⟨j + 1, _, by omega, by go_num, rfl, HN, HBn⟩
                case measure => simp [intOf]; omega
        · rw [decide_eq_false hs] at hq
          have HN : Hid (false = (al.take (j + 1)).any fun y => decide (y.s = s.data.toList) && isForK y.k kind) := by
            show _ = _
            rw [HT.out, ← hb.out, decide_eq_false hs]; simp
          clear hs
          go_wp2_with fail
          go_roundw
          case rel => exact ⟨j + 1, false, by omega, by go_num, rfl, HN, HBn⟩
          case measure => simp [intOf]; omega
      · have HN : Hid (true = (al.take (j + 1)).any fun y => decide (y.s = s.data.toList) && isForK y.k kind) := by
          show _ = _
          rw [HT.out, ← hb.out]; rfl
        go_wp2_with fail
        go_roundw
        case rel => exact ⟨j + 1, true, by omega, by go_num, rfl, HN, HBn⟩
        case measure => simp [intOf]; omega
    · obtain rfl : j = 42 := by omega
      have HO : Hid (oftenT s.data.toList kind = b) := by
        show _ = _
        rw [HOF.out, hb.out, List.take_of_length_le (by rw [HLEN.out]; exact Nat.le_refl _)]
      have HB2 := Lib.hid (HB1.out.trans (hB.out.mono HB1.out.size))
      have HL2 := Lib.hid (HL1.out.below hB.out hL1)
      have l0 : wr.cell? ⟨w.heap.size, 0, none⟩ = some (.string s) := HL2.out.cell 0
      have l1 : wr.cell? ⟨w.heap.size, 1, none⟩ = some (.string k) := HL2.out.cell 1
      clear hlt
      rcases b with _ | _
      · have HR : Hid (lineV valueT kind s k v = 10) := by show _ = _; unfold lineV; rw [HO.out, if_neg (by simp)]
        go_wp2_with fail
        go_ret
        exact ⟨ret_int HR.out.symm, HB2.out⟩
      · have HR : Hid (lineV valueT kind s k v = match findT s.data.toList k.data.toList with | some x => valueT x v | none => 11) := by show _ = _; unfold lineV; rw [HO.out, if_pos rfl]; rfl
        go_wp2_with fail
        refine (rFind_any s k _).mono ?_
        rintro e4 w4 ⟨r, rfl, hr, hb4⟩
        have HB4 := Lib.hid (more3 HB2.out HB2.out.size hb4)
        have HL4 := Lib.hid (HL2.out.below hb4 HL2.out.lt)
        have HX4 := Lib.hid hr
        clear hb4 hr l0 l1
        unfold krA
        rcases hf : findT s.data.toList k.data.toList with _ | x
        · rw [hf] at HR
          rw [show (none : Option Ky).isSome = false from rfl]
          go_wp2_with fail
          go_ret
          exact ⟨ret_int HR.out.symm, HB4.out.alloc HB4.out.size _⟩
        · rw [hf] at HR HX4
          rw [show (some x : Option Ky).isSome = true from rfl]
          have hfb := find_f hf
          have l2 : (w4.alloc (.cells #[.string (str r.s), .string (str r.n), .int .i64 r.f, .bool r.l, .int .i64 r.k, .slice r.A r.m r.c] 28)).cell? ⟨w.heap.size, 2, none⟩ = some (.string v) := (HL4.out.alloc _).cell 2
          have HB5 : Hid (Below w.heap.size w (w4.alloc (.cells #[.string (str r.s), .string (str r.n), .int .i64 r.f, .bool r.l, .int .i64 r.k, .slice r.A r.m r.c] 28))) := HB4.out.alloc HB4.out.size _
          have hX4 : r.is w4 w4.heap.size x := HX4.out
          have HX5 : Hid (r.is (w4.alloc (.cells #[.string (str r.s), .string (str r.n), .int .i64 r.f, .bool r.l, .int .i64 r.k, .slice r.A r.m r.c] 28)) w4.heap.size x) := hX4.below ((Below.refl _ _).alloc (Nat.le_refl _) _)
          have HC5 := rv_key r.s r.n r.f r.l r.k r.A r.m r.c x.w v hv w4.heap.size _ HX5.out.2.2.2.2.2.1 (by simp)
          rw [rvalT_is HX5.out, rvalT_in hfb.1 hfb.2] at HC5
          have HC5 := Lib.hid HC5
          clear hf hfb hX4
          go_wp2_with fail
          refine HC5.out.mono ?_
          rintro e6 w6 ⟨rfl, hb6⟩
          go_wp2_with fail
          go_ret
          exact ⟨ret_int HR.out.symm, more3 HB5.out HB5.out.size hb6⟩
set_option maxHeartbeats 8000000 in
theorem rCheck_of (kind : Int) (A : Option Addr) (n c B : Nat) (l : List Ln) (w : World) (h : LnsAt w B A n l) (hB : B ≤ w.heap.size) (hV : ∀ x ∈ l, x.v.length ≤ 1048576) :
    Calls Tryz.prog 18 #[.int .i64 kind, .slice A n c] w fun e w' => e = .returned (.agg (fltA (checkV valueT kind l).1 (checkV valueT kind l).2)) ∧ Below w.heap.size w w' := by
  have hm := h.2.1
  unfold maxLen at hm
  have hl := h.1
  have HL := Lib.hid h
  have HV := Lib.hid hV
  clear h hV
  have HR0 : Hid (Blk (w.alloc (.cells #[.int .i64 0, .int .i64 0] 37)) w.heap.size 37 (fltA 0 0)) := Blk.new w _ _
  have HB0 : Hid (Below w.heap.size w (w.alloc (.cells #[.int .i64 0, .int .i64 0] 37))) := (Below.refl _ w).alloc (Nat.le_refl _) _
  have HN0 : Hid (∀ x ∈ l.take 0, lineV valueT kind (str x.s) (str x.k) (str x.v) = 0) := fun x hx => by simp at hx
  go_enter Tryz.func18, Tryz.ntmps18
  go_wp2_with fail
  generalize w.alloc (.cells #[.int .i64 0, .int .i64 0] 37) = w1 at *
  go_loopw [10] (fun i wr => ∃ k : Nat, k ≤ n ∧ i = .int .i64 k ∧ Hid (Below w.heap.size w wr) ∧ Hid (Blk wr w.heap.size 37 (fltA 0 0)) ∧ Hid (∀ x ∈ l.take k, lineV valueT kind (str x.s) (str x.k) (str x.v) = 0)) (fun i wr => n - (intOf i).toNat)
  case atStart => exact ⟨0, Nat.zero_le _, rfl, HB0, HR0, HN0⟩
  case round =>
    obtain ⟨k, hk, rfl, hb, hR, hN⟩ := hrel
    have hRl : w.heap.size < wr.heap.size := hR.out.lt
    by_cases hlt : k < n
    · have b0 : (0 : Int) ≤ (k : Int) := by omega
      have b1 : (k : Int) < (n : Int) := by omega
      obtain ⟨ad, x, rfl, hab, hx, q0, q1, q2, q3⟩ := (HL.out.below (hb.out.mono hB)).at_ hlt
      have z1 : (ad.add (k * 4)).block < wr.heap.size := by rw [block_addW]; omega
      have hxl : x ∈ l := List.mem_of_getElem? hx
      have HB1 : Hid (Below w.heap.size w (wr.alloc (.cells #[.string (str x.s), .string (str x.k), .string (str x.v), .int .i64 x.n] 44))) := hb.out.alloc hb.out.size _
      have HR1 : Hid (Blk (wr.alloc (.cells #[.string (str x.s), .string (str x.k), .string (str x.v), .int .i64 x.n] 44)) w.heap.size 37 (fltA 0 0)) := hR.out.alloc _
      have HA1 : Hid (Blk (wr.alloc (.cells #[.string (str x.s), .string (str x.k), .string (str x.v), .int .i64 x.n] 44)) wr.heap.size 44 #[.string (str x.s), .string (str x.k), .string (str x.v), .int .i64 x.n]) := Blk.new wr _ _
      have HC := Lib.hid (rwrong_of kind (str x.s) (str x.k) (str x.v) x.n (by rw [str_size]; exact HV.out x hxl) (wr.alloc (.cells #[.string (str x.s), .string (str x.k), .string (str x.v), .int .i64 x.n] 44)))
      have hkl : k < l.length := by omega
      have hxe : l[k] = x := by rw [List.getElem?_eq_getElem hkl] at hx; exact Option.some.inj hx
      by_cases h0 : lineV valueT kind (str x.s) (str x.k) (str x.v) = 0
      · have HN1 : Hid (∀ y ∈ l.take (k + 1), lineV valueT kind (str y.s) (str y.k) (str y.v) = 0) := by
          intro y hy
          rw [List.take_succ_eq_append_getElem hkl, hxe, List.mem_append] at hy
          rcases hy with hy | hy
          · exact hN.out y hy
          · simp at hy; subst hy; exact h0
        rw [h0] at HC
        clear h0 hx hxl hxe
        go_wp2_with fail
        refine HC.out.mono ?_
        rintro e w2 ⟨rfl, hb2⟩
        have HB2 := Lib.hid (more3 HB1.out HB1.out.size hb2)
        have HR2 := Lib.hid (HR1.out.below hb2 HR1.out.lt)
        clear hb2
        go_wp2_with fail
        go_roundw
        case rel => exact ⟨k + 1, by omega, by go_num, HB2, HR2, HN1⟩
        case measure => simp [intOf]; omega
      · have HE : Hid (checkV valueT kind l = (lineV valueT kind (str x.s) (str x.k) (str x.v), x.n)) := by
          show _ = _
          conv => lhs; rw [← List.take_append_drop k l]
          rw [checkV_app valueT kind _ _ hN.out, List.drop_eq_getElem_cons hkl, hxe, checkV, if_neg h0]
        have hne : (lineV valueT kind (str x.s) (str x.k) (str x.v) != 0) = true := by simpa using h0
        obtain ⟨q, hq⟩ : ∃ q, lineV valueT kind (str x.s) (str x.k) (str x.v) = q := ⟨_, rfl⟩
        rw [hq] at HC hne HE
        clear h0 hx hxl hxe hq
        go_wp2_with fail
        refine HC.out.mono ?_
        rintro e w2 ⟨rfl, hb2⟩
        have HB2 := Lib.hid (more3 HB1.out HB1.out.size hb2)
        have HR2 := Lib.hid (HR1.out.below hb2 HR1.out.lt)
        have HA2 := Lib.hid (HA1.out.below hb2 HA1.out.lt)
        have c3 : w2.cell? ⟨wr.heap.size, 3, none⟩ = some (.int .i64 x.n) := HA2.out.cell 3
        clear hb2
        go_wp2_with (refine wpList_store_row rfl 37 (.tmp 4) (.tmp 22) (by rfl) w.heap.size (fltA q x.n) (by rfl) (by rfl) 37 (fltA 0 0) HR2.out (by kernel_rfl) rfl (fltA_all _ _) ?_)
        exact bodyPost_ret (results_cell_one (p := 4) rfl _ _ w.heap.size 37 (fltA q x.n) _ rfl (Blk.row HR2.out _) Tryz.underlying37 rfl (by kernel_rfl)) rfl ⟨by rw [HE.out], below_setRow HB2.out (Nat.le_refl _) _⟩
    · obtain rfl : k = n := by omega
      have HE : Hid (checkV valueT kind l = (0, 0)) := by
        have := hN.out
        rw [List.take_of_length_le (by omega)] at this
        exact checkV_clean valueT kind l this
      go_wp2_with (refine wpList_store_row rfl 37 (.tmp 4) (.tmp 24) (by rfl) w.heap.size (fltA 0 0) (by rfl) (by rfl) 37 (fltA 0 0) hR.out (by kernel_rfl) rfl (fltA_all _ _) ?_)
      exact bodyPost_ret (results_cell_one (p := 4) rfl _ _ w.heap.size 37 (fltA 0 0) _ rfl (Blk.row hR.out _) Tryz.underlying37 rfl (by kernel_rfl)) rfl ⟨by rw [HE.out], below_setRow hb.out (Nat.le_refl _) _⟩
end Go.Proofs.YtadifolonbkamaaGreatDoor
namespace Go.Proofs.YtadifolonbkamaaGreatDoor
open Go.RowKit
set_option maxHeartbeats 8000000 in
theorem KeysCheck_any (kind : Int) (A : Option Addr) (n c : Nat) (l : List Ln) (w : World) (h : LnsAt w w.heap.size A n l) (hz : ∀ x ∈ l, x.v.length ≤ 1048576) (ht : Ca.TabM w) :
    Calls Tryz.prog 5 #[.int .i64 kind, .slice A n c] w fun e w' => e = .returned (.bool true) ∧ Below w.heap.size w w' := by
  obtain ⟨⟨f1, f2⟩, hf⟩ : ∃ p, checkV valueT kind l = p := ⟨_, rfl⟩
  have HF := Lib.hid (check_flt hf)
  have HV : Hid (∀ x ∈ l, ValueSays valueT x.s x.k (str x.v) w) := fun x hx => says_all _ _ _ (by rw [str_size]; exact Nat.le_trans (hz x hx) (by decide)) w ht
  have HL := Lib.hid h
  have HZ := Lib.hid hz
  clear h hz ht hf
  have hq := fun W => run_eql_fault W f1 f2 f1 f2
  go_enter Tryz.func5, Tryz.ntmps5
  go_wp2_with fail
  refine (shown_any _).mono ?_
  rintro e1 w1 ⟨rfl, hb1⟩
  have HB1 := Lib.hid hb1
  clear hb1
  go_wp2_with fail
  refine (Check_of valueT kind A n c w.heap.size l w w1 (HL.out.below HB1.out) HB1.out.size HB1.out HV.out).mono ?_
  rintro e2 w2 ⟨rfl, hb2⟩
  rw [HF.out]
  have HB2 := Lib.hid (more3 HB1.out HB1.out.size hb2)
  clear hb2
  go_wp2_with fail
  refine (rCheck_of kind A n c w.heap.size l w2 (HL.out.below HB2.out) HB2.out.size HZ.out).mono ?_
  rintro e3 w3 ⟨rfl, hb3⟩
  rw [HF.out]
  go_wp2_with fail
  go_ret
  exact ⟨by simp, more3 HB2.out HB2.out.size hb3⟩
end Go.Proofs.YtadifolonbkamaaGreatDoor
namespace Go.Proofs.YtadifolonbkamaaGreatDoor
open Go.RowKit Go.Joins Go.ChangeShapes Go.WideShapes Go.ChangeAt Go.Deep
open Go.ChangeMaps (open_string shut_string)
section
variable {H : Type} {enc : TypeId × Value → H} {W : World} {base : Nat} {spare : Nat → Bool} {held : Bool}
set_option maxRecDepth 100000 in
theorem open_lines_upto {v : Value} {d : DataW H} {p : List MemPlace} {b0 : Nat} (hv : Value.okWide Tryz.prog W .any b0 35 v) (h : DataW.Trod enc Tryz.prog W 0 (fun _ => true) true 35 v d p) :
    ∃ (A : Option Addr) (n c : Nat) (l : List Ln), v = .slice A n c ∧ n ≤ c ∧ LnsAt W W.heap.size A n l ∧ (A = none → c = 0) ∧ n ≤ Rows.uptoBulk d ∧ (∀ x ∈ l, x.s.length + x.k.length + x.v.length ≤ Rows.uptoBulk d) := by
  obtain ⟨a0, len0, cap0, rfl⟩ := okWide_slice Tryz.underlying35 hv
  obtain ⟨fuel, hf⟩ := h
  have k4 : Tryz.prog.cellsOf 44 = 4 := by kernel_rfl
  have kb : Tryz.prog.bytesOf 44 = 56 := by kernel_rfl
  rcases open_slice Tryz.underlying35 hf with ⟨hcs, hx⟩ | ⟨a, len, cap, m, n', D, Pl, hcs, _, hl, hm, hmm, hx, hi⟩
  · have e := hcs
    simp [Value.cells] at e
    obtain ⟨rfl, rfl, rfl⟩ := e
    exact ⟨none, 0, 0, [], rfl, Nat.le_refl _, LnsAt.none_, fun _ => rfl, Nat.zero_le _, by simp⟩
  · rw [k4] at hi
    have hml : len ≤ m := by rw [hmm]; split <;> omega
    simp only [Prod.mk.injEq] at hx
    have hV : ∀ i, i < len → ∃ q : Ln, (∀ j u, (lnCells q)[j]? = some u → W.cell? (a.add (i * 4 + j)) = some u) ∧ LnData q (D i) := fun i hil => by
      obtain ⟨cs, h1, h2⟩ := hi i (by omega)
      obtain ⟨_, hlen, hat⟩ := World.cells?_some h1
      obtain ⟨q, rfl, m1⟩ := line_of hlen h2
      refine ⟨q, fun j u hj => ?_, m1⟩
      have hj2 : j < 4 := by
        rcases Nat.lt_or_ge j 4 with h' | h'
        · exact h'
        · rw [List.getElem?_eq_none (by exact h')] at hj; cases hj
      rw [← add_of_addP, hat j hj2, hj]
    obtain ⟨X, hX⟩ := pick_ltP (⟨[], [], [], 0⟩ : Ln) hV
    have hmem : ∀ x ∈ (List.range len).map X, ∃ i, i < len ∧ x = X i := by
      intro x hx
      obtain ⟨j, hj, rfl⟩ := List.mem_map.1 hx
      exact ⟨j, List.mem_range.1 hj, rfl⟩
    have e := hcs
    simp [Value.cells] at e
    obtain ⟨rfl, rfl, rfl⟩ := e
    refine ⟨some a, len0, cap0, (List.range len0).map X, rfl, hl, ⟨by simp, by omega, fun h0 => ⟨a, rfl, cell_ltP ((hX 0 h0).1 0 _ rfl), fun j u hj => ?_⟩⟩, (fun h => by cases h), ?_, ?_⟩
    · have hjl : j < len0 * 4 := by
        rcases Nat.lt_or_ge j (len0 * 4) with h' | h'
        · exact h'
        · rw [List.getElem?_eq_none (by rw [lns_length]; simpa using h')] at hj; cases hj
      have hd : j = j / 4 * 4 + j % 4 := by omega
      have hk : j / 4 < len0 := by omega
      have hg := lns_get ((List.range len0).map X) (j / 4) (X (j / 4)) (by rw [List.getElem?_map, List.getElem?_range hk]; rfl) (j % 4) (by omega)
      rw [← hd, hj] at hg
      have := (hX (j / 4) hk).1 (j % 4) u hg.symm
      rwa [← hd] at this
    · rw [hx.1, Rows.uptoBulk]
      have h1 := bulk_countP ((List.range len0).map D) (fun z hz => by
        obtain ⟨i, hi', rfl⟩ := List.mem_map.1 hz
        have := (hX i (List.mem_range.1 hi')).2.bulk
        omega)
      rw [List.length_map, List.length_range] at h1
      omega
    · intro x hxm
      obtain ⟨i, hil, rfl⟩ := hmem x hxm
      rw [hx.1, Rows.uptoBulk]
      have h1 := (hX i hil).2.bulk
      have h2 := bulk_memP (x := D i) (l := (List.range len0).map D) (List.mem_map.2 ⟨i, List.mem_range.2 hil, rfl⟩)
      omega
end
end Go.Proofs.YtadifolonbkamaaGreatDoor
