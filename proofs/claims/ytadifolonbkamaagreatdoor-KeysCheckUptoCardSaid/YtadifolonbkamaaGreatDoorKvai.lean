/- The walks of the developers' Find, isFor, checkLine's predicate, slices.IndexFunc and ContainsFunc at it. The walks of t -/
import Derived.Test.YtadifolonbkamaaGreatDoorKvag
import Derived.BigQuiet
import Derived.Test.YtadifolonbkamaaGreatDoorKvah
namespace Go.Proofs.YtadifolonbkamaaGreatDoor
open Go.RowKit
set_option maxHeartbeats 4000000 in
theorem Find_any (s nm : ByteArray) (w : World) :
    Calls Tryz.prog 13 #[.string s, .string nm] w (NamedP (findT s.data.toList nm.data.toList) w) := by
  have HR0 : Hid (Blk (w.alloc (.cells #[.string ⟨#[]⟩, .string ⟨#[]⟩, .int .i64 0, .bool false, .int .i64 0, .slice none 0 0] 28)) w.heap.size 28 (krA noKr)) := Blk.new w _ _
  have HB0 : Hid (Below w.heap.size w (w.alloc (.cells #[.string ⟨#[]⟩, .string ⟨#[]⟩, .int .i64 0, .bool false, .int .i64 0, .slice none 0 0] 28))) := (Below.refl _ w).alloc (Nat.le_refl _) _
  go_enter Tryz.func13, Tryz.ntmps13
  go_wp2_with fail
  generalize w.alloc (.cells #[.string ⟨#[]⟩, .string ⟨#[]⟩, .int .i64 0, .bool false, .int .i64 0, .slice none 0 0] 28) = w0 at *
  refine (keysOf_any s _).mono ?_
  rintro e1 w1 ⟨A, c, rfl, hk, hb1⟩
  have HR1 := Lib.hid (HR0.out.below hb1 HR0.out.lt)
  have HB1 := Lib.hid (more3 HB0.out HB0.out.size hb1)
  clear hb1
  go_wp2_with fail
  refine (named_any A _ c _ _ nm _ hk (Nat.le_refl _)).mono ?_
  rintro e2 w2 ⟨r, rfl, hr, hb2⟩
  have HR2 := Lib.hid (HR1.out.below hb2 HR1.out.lt)
  have HB2 := Lib.hid (more3 HB1.out HB1.out.size hb2)
  have HX := Lib.hid hr
  clear hb2 hr hk
  go_wp2_with (refine wpList_store_row rfl 28 (.tmp 4) (.tmp 10) (by rfl) w.heap.size (krA r) (by rfl) (by rfl) 28 (krA noKr) HR2.out (by kernel_rfl) rfl (krA_all _) ?_)
  refine bodyPost_ret (results_cell_tmp (p := 4) (q := 5) rfl _ _ w.heap.size 28 (krA r) _ _ rfl rfl (Blk.row HR2.out _) Tryz.underlying28 rfl (by kernel_rfl)) rfl ⟨r, rfl, by rw [size_row]; exact HX.out.keep HR2.out (by decide) (heap_row_other _ _ _), below_setRow HB2.out (Nat.le_refl _) _⟩
theorem isFor_no (r : Kr) (kind : Int) (h : decide (0 ≤ kind) = false) (w : World) :
    Calls Tryz.prog 68 #[.agg #[.string (str r.s), .string (str r.n), .int .i64 r.f, .bool r.l, .int .i64 r.k, .slice r.A r.m r.c], .int .i64 kind] w fun e w' => e = .returned (.bool false) ∧ Below w.heap.size w w' := by
  go_enter Tryz.func68, Tryz.ntmps68
  go_wp2_with fail
  go_region
  all_goals
    go_wp2_with fail
    go_ret
    exact ⟨rfl, below_drewN ((Below.refl _ w).alloc (Nat.le_refl _) _) 1⟩
theorem isFor_yes (r : Kr) (kind : Int) (h : 0 ≤ kind) (w : World) :
    Calls Tryz.prog 68 #[.agg #[.string (str r.s), .string (str r.n), .int .i64 r.f, .bool r.l, .int .i64 r.k, .slice r.A r.m r.c], .int .i64 kind] w fun e w' => e = .returned (.bool (bits .and .i64 r.k (wrap64 (2 ^ min kind.toNat 64)) != 0)) ∧ Below w.heap.size w w' := by
  go_enter Tryz.func68, Tryz.ntmps68
  go_wp2_with fail
  go_region
  all_goals
    go_wp2_with fail
    go_ret
    exact ⟨rfl, below_drewN ((Below.refl _ w).alloc (Nat.le_refl _) _) 1⟩
set_option maxRecDepth 100000 in
theorem bits_for : ∀ k ∈ ([2, 4, 8, 30] : List Int), ∀ m, m < 65 → (bits .and .i64 k (wrap64 (2 ^ m)) != 0) = k.toNat.testBit m := by decide +kernel
theorem isFor_any (r : Kr) (kind : Int) (hk : r.k ∈ ([2, 4, 8, 30] : List Int)) (w : World) :
    Calls Tryz.prog 68 #[.agg #[.string (str r.s), .string (str r.n), .int .i64 r.f, .bool r.l, .int .i64 r.k, .slice r.A r.m r.c], .int .i64 kind] w fun e w' => e = .returned (.bool (isForK r.k kind)) ∧ Below w.heap.size w w' := by
  by_cases h : 0 ≤ kind
  · have := isFor_yes r kind h w
    rw [bits_for r.k hk _ (by omega)] at this
    unfold isForK
    rw [decide_eq_true h, Bool.true_and]
    exact this
  · unfold isForK
    rw [decide_eq_false h, Bool.false_and]
    exact isFor_no r kind (decide_eq_false h) w
theorem isAllowed_any (r : Kr) (kind : Int) (hk : r.k ∈ ([2, 4, 8, 30] : List Int)) (K : Nat) (w : World) (hK : w.cell? ⟨K, 0, none⟩ = some (.int .i64 kind)) (hKl : K < w.heap.size) :
    Calls Tryz.prog 67 #[.agg #[.string (str r.s), .string (str r.n), .int .i64 r.f, .bool r.l, .int .i64 r.k, .slice r.A r.m r.c], .pointer (some ⟨K, 0, none⟩)] w fun e w' => e = .returned (.bool (isForK r.k kind)) ∧ Below w.heap.size w w' := by
  go_enter Tryz.func67, Tryz.ntmps67
  go_wp2_with (go_at_call 68; refine (isFor_any r kind hk _).mono ?_; rintro e w1 ⟨rfl, hb⟩)
  go_ret
  exact ⟨rfl, more ((Below.refl _ w).alloc (Nat.le_refl _) _) hb⟩
theorem any_take {α : Type} {l : List α} {p : α → Bool} {k : Nat} {x : α} (h : (l.take k).any p = false) (hx : l[k]? = some x) : (p x = true → l.any p = true) ∧ (p x = false → (l.take (k + 1)).any p = false) := by
  have hk : k < l.length := by
    rcases Nat.lt_or_ge k l.length with h' | h'
    · exact h'
    · rw [List.getElem?_eq_none h'] at hx; cases hx
  have he : l[k] = x := by rw [List.getElem?_eq_getElem hk] at hx; exact Option.some.inj hx
  constructor
  · intro e
    exact List.any_eq_true.2 ⟨x, by rw [← he]; exact List.getElem_mem hk, e⟩
  · intro e
    rw [List.take_succ_eq_append_getElem hk, he, List.any_append, h]
    simp [e]
set_option maxHeartbeats 8000000 in
theorem keyIndex_any (A : Option Addr) (n c B : Nat) (l : List Ky) (kind : Int) (K : Nat) (w : World) (h : KysAt w B A n l) (hB : B ≤ w.heap.size) (hk : ∀ x ∈ l, x.k ∈ ([2, 4, 8, 30] : List Int)) (hK : w.cell? ⟨K, 0, none⟩ = some (.int .i64 kind)) (hKl : K < w.heap.size) :
    Calls Tryz.prog 94 #[.slice A n c, .func (.func 67) #[] #[.pointer (some ⟨K, 0, none⟩)]] w fun e w' => ∃ i : Int, e = .returned (.int .i64 i) ∧ decide (0 ≤ i) = l.any (fun x => isForT x kind) ∧ Below w.heap.size w w' := by
  have hm := h.2.1
  unfold maxLen at hm
  have hl := h.1
  have HL := Lib.hid h
  have HKK := Lib.hid hk
  have HN0 : Hid ((l.take 0).any (fun x => isForT x kind) = false) := rfl
  clear h hk
  go_enter Tryz.func94, Tryz.ntmps94
  go_wp2_with fail
  go_loopw [8] (fun i wr => ∃ k : Nat, k ≤ n ∧ i = .int .i64 k ∧ Hid (Below w.heap.size w wr) ∧ Hid ((l.take k).any (fun x => isForT x kind) = false)) (fun i wr => n - (intOf i).toNat)
  case atStart => exact ⟨0, Nat.zero_le _, rfl, Below.refl _ _, HN0⟩
  case round =>
    obtain ⟨k, hk, rfl, hb, hN⟩ := hrel
    have hbs : w.heap.size ≤ wr.heap.size := hb.out.size
    by_cases hlt : k < n
    · have b0 : (0 : Int) ≤ (k : Int) := by omega
      have b1 : (k : Int) < (n : Int) := by omega
      obtain ⟨ad, r, x, rfl, hab, hx, hr, q0, q1, q2, q3, q4, q5⟩ := (HL.out.below (hb.out.mono hB)).at_ hlt
      have hxl : x ∈ l := List.mem_of_getElem? hx
      have hrk : r.k ∈ ([2, 4, 8, 30] : List Int) := by rw [hr.2.2.2.2.1]; exact HKK.out x hxl
      have hp : isForT x kind = isForK r.k kind := by unfold isForT; rw [hr.2.2.2.2.1]
      obtain ⟨n1, n2⟩ := any_take hN.out hx
      have HC := Lib.hid (isAllowed_any r kind hrk K wr ((hb.out.cell hKl).trans hK) (by omega))
      clear hr hxl hrk hx
      rcases hf : isForT x kind with _ | _
      · have HF := Lib.hid (n2 hf)
        rw [← hp, hf] at HC
        clear hf hp n1 n2
        go_wp2_with (go_at_call 67; refine HC.out.mono ?_; rintro e w1 ⟨rfl, hb1⟩)
        go_roundw
        case rel => exact ⟨k + 1, by omega, by go_num, more hb.out hb1, HF⟩
        case measure => simp [intOf]; omega
      · have HF := Lib.hid (n1 hf)
        rw [← hp, hf] at HC
        clear hf hp n1 n2
        go_wp2_with (go_at_call 67; refine HC.out.mono ?_; rintro e w1 ⟨rfl, hb1⟩)
        go_ret
        exact ⟨_, rfl, by rw [HF.out]; simp, more hb.out hb1⟩
    · obtain rfl : k = n := by omega
      have HF : Hid (l.any (fun x => isForT x kind) = false) := by
        have := hN.out
        rwa [List.take_of_length_le (by omega)] at this
      go_wp2_with fail
      go_ret
      exact ⟨_, rfl, by rw [HF.out]; simp, hb.out⟩
theorem keyHas_any (A : Option Addr) (n c B : Nat) (l : List Ky) (kind : Int) (K : Nat) (w : World) (h : KysAt w B A n l) (hB : B ≤ w.heap.size) (hk : ∀ x ∈ l, x.k ∈ ([2, 4, 8, 30] : List Int)) (hK : w.cell? ⟨K, 0, none⟩ = some (.int .i64 kind)) (hKl : K < w.heap.size) :
    Calls Tryz.prog 69 #[.slice A n c, .func (.func 67) #[] #[.pointer (some ⟨K, 0, none⟩)]] w fun e w' => e = .returned (.bool (l.any (fun x => isForT x kind))) ∧ Below w.heap.size w w' := by
  have HC := Lib.hid (keyIndex_any A n c B l kind K w h hB hk hK hKl)
  clear h hk hK
  go_enter Tryz.func69, Tryz.ntmps69
  go_wp2_with fail
  refine HC.out.mono ?_
  rintro e w1 ⟨i, rfl, hi, hb⟩
  have HI := Lib.hid hi
  clear hi
  go_wp2_with fail
  go_ret
  exact ⟨ret_bool HI.out, hb⟩
end Go.Proofs.YtadifolonbkamaaGreatDoor
namespace Go.Proofs.YtadifolonbkamaaGreatDoor
open Go.RowKit
def kindsT (s : List UInt8) : Int := if s = nServ then 2 else if s = nSock then 4 else if s = nTime then 8 else 30
theorem kinds_any (s : ByteArray) (w : World) : Calls Tryz.prog 47 #[.string s] w fun e w' => e = .returned (.int .i64 (kindsT s.data.toList)) ∧ w = w' := by
  have q1 : (s.toList == ([83, 101, 114, 118, 105, 99, 101] : List UInt8)) = decide (s.data.toList = nServ) := eq_lit s nServ
  have q2 : (s.toList == ([83, 111, 99, 107, 101, 116] : List UInt8)) = decide (s.data.toList = nSock) := eq_lit s nSock
  have q3 : (s.toList == ([84, 105, 109, 101, 114] : List UInt8)) = decide (s.data.toList = nTime) := eq_lit s nTime
  unfold kindsT
  by_cases h1 : s.data.toList = nServ
  · rw [if_pos h1]
    rw [decide_eq_true h1] at q1
    clear h1 q2 q3
    go_enter Tryz.func47, Tryz.ntmps47
    go_wp2_with fail
    go_ret
    exact ⟨rfl, rfl⟩
  rw [if_neg h1]
  rw [decide_eq_false h1] at q1
  by_cases h2 : s.data.toList = nSock
  · rw [if_pos h2]
    rw [decide_eq_true h2] at q2
    clear h1 h2 q3
    go_enter Tryz.func47, Tryz.ntmps47
    go_wp2_with fail
    go_ret
    exact ⟨rfl, rfl⟩
  rw [if_neg h2]
  rw [decide_eq_false h2] at q2
  by_cases h3 : s.data.toList = nTime
  · rw [if_pos h3]
    rw [decide_eq_true h3] at q3
    clear h1 h2 h3
    go_enter Tryz.func47, Tryz.ntmps47
    go_wp2_with fail
    go_ret
    exact ⟨rfl, rfl⟩
  rw [if_neg h3]
  rw [decide_eq_false h3] at q3
  clear h1 h2 h3
  go_enter Tryz.func47, Tryz.ntmps47
  go_wp2_with fail
  go_ret
  exact ⟨rfl, rfl⟩
theorem KLst.from_ {w w1 W : World} {v : Value} {ks : List Ky} (h : KLst w1 W v ks) (hb : Below w.heap.size w w1) : KLst w W v ks := by
  obtain ⟨rs, h1, h2, h3⟩ := h
  exact ⟨rs, own_base h1 hb.size, h2, more3 hb hb.size h3⟩
def rowT (sec : List UInt8) (f : Int) (l : Bool) (ns : List (List UInt8)) : List Ky := ns.map fun n => ⟨sec, n, f, l, kindsT sec, []⟩
theorem rowT_take {sec : List UInt8} {f : Int} {l : Bool} {ns : List (List UInt8)} {k : Nat} {x : List UInt8} (h : ns[k]? = some x) : rowT sec f l (ns.take (k + 1)) = rowT sec f l (ns.take k) ++ [⟨sec, x, f, l, kindsT sec, []⟩] := by
  have hk : k < ns.length := by
    rcases Nat.lt_or_ge k ns.length with h' | h'
    · exact h'
    · rw [List.getElem?_eq_none h'] at h; cases h
  have he : ns[k] = x := by rw [List.getElem?_eq_getElem hk] at h; exact Option.some.inj h
  rw [List.take_succ_eq_append_getElem hk, he]
  simp [rowT]
theorem blanks_row (names : List UInt8) (ns : List (List UInt8)) (hns : blanksL [32] names = ns) (hn : names.length ≤ 100000) (w : World) :
    Calls Tryz.prog 29 #[.string (str names), .string ⟨#[32]⟩] w fun e w' => ∃ v, e = .returned v ∧ w'.ownsRow w.heap.size 9 1 v ns.length (wcells ns) ∧ Below w.heap.size w w' := by
  subst hns
  exact Blanks_any (str names) ⟨#[32]⟩ (by rw [str_size]; omega) (by decide) w
set_option maxRecDepth 100000 in
set_option maxHeartbeats 8000000 in
theorem row_any (sec names : List UInt8) (ns : List (List UInt8)) (hns : blanksL [32] names = ns) (f : Int) (l : Bool) (hn : names.length ≤ 100000) (hlen : ns.length ≤ 1000) (w : World) :
    Calls Tryz.prog 23 #[.string (str sec), .string (str names), .int .i64 f, .bool l] w fun e w' => ∃ v, e = .returned v ∧ KLst w w' v (rowT sec f l ns) := by
  have HB := Lib.hid fun w => blanks_row names ns hns hn w
  clear hns hn
  have HKI : Hid (∀ w, Calls Tryz.prog 47 #[.string (str sec)] w fun e w' => e = .returned (.int .i64 (kindsT sec)) ∧ w = w') := fun w => kinds_any (str sec) w
  go_enter Tryz.func23, Tryz.ntmps23
  go_wp2_with fail
  refine (HB.out _).mono ?_
  rintro e1 w1 ⟨v1, rfl, ho, hb1⟩
  obtain ⟨A1, n1, c1, rfl⟩ : ∃ ao n' cap, v1 = .slice ao n' cap := by
    rcases ho.2 with ⟨hv, _⟩ | ⟨g, cap, cur, hv, _⟩
    · exact ⟨_, _, _, hv⟩
    · exact ⟨_, _, _, hv⟩
  obtain ⟨rfl, _, hr⟩ := rowAt_of_own ho (by unfold maxLen; omega)
  have HR1 := Lib.hid hr
  have HK1 : Hid (KLst w1 w1 (.slice none 0 0) (rowT sec f l (ns.take 0))) := KLst.nil w1
  have HB1 := Lib.hid hb1
  clear ho hr hb1 HB
  go_wp2_with fail
  go_loopw [9, 15] (fun v i wr => ∃ k : Nat, k ≤ ns.length ∧ i = .int .i64 k ∧ Hid (KLst w1 wr v (rowT sec f l (ns.take k)))) (fun v i wr => ns.length - (intOf i).toNat)
  case atStart => exact ⟨0, Nat.zero_le _, rfl, HK1⟩
  case round =>
    obtain ⟨k, hk, rfl, HK⟩ := hrel
    by_cases hlt : k < ns.length
    · have b0 : (0 : Int) ≤ (k : Int) := by omega
      have b1 : (k : Int) < (ns.length : Int) := by omega
      obtain ⟨ad, x, rfl, hab, hx, q0⟩ := (HR1.out.below HK.out.below).at_ hlt
      have HT := Lib.hid (rowT_take (sec := sec) (f := f) (l := l) hx)
      have hkl : (rowT sec f l (ns.take k)).length ≤ 1000 := by unfold rowT; rw [List.length_map, List.length_take]; omega
      have HK2 := Lib.hid (HK.out.next ((Below.refl wr.heap.size wr).alloc (Nat.le_refl _) (.cells #[.string (str sec), .string (str x), .int .i64 f, .bool l, .int .i64 (kindsT sec), .slice none 0 0] 28)))
      have HA2 : Hid (KrsAre (wr.alloc (.cells #[.string (str sec), .string (str x), .int .i64 f, .bool l, .int .i64 (kindsT sec), .slice none 0 0] 28)) (wr.alloc (.cells #[.string (str sec), .string (str x), .int .i64 f, .bool l, .int .i64 (kindsT sec), .slice none 0 0] 28)).heap.size [⟨sec, x, f, l, kindsT sec, none, 0, 0⟩] [⟨sec, x, f, l, kindsT sec, []⟩]) := KrsAre.cons ⟨rfl, rfl, rfl, rfl, rfl, RowS.none_⟩ KrsAre.nil
      have HC2 : Hid (∀ j u, (krs [⟨sec, x, f, l, kindsT sec, none, 0, 0⟩])[j]? = some u → (wr.alloc (.cells #[.string (str sec), .string (str x), .int .i64 f, .bool l, .int .i64 (kindsT sec), .slice none 0 0] 28)).cell? ((⟨wr.heap.size, 0, none⟩ : Addr).add j) = some u) := by
        intro j u hj
        have e : (⟨wr.heap.size, 0, none⟩ : Addr).add j = ⟨wr.heap.size, j, none⟩ := by unfold Addr.add; split <;> simp_all
        have HN := Blk.new wr 28 #[.string (str sec), .string (str x), .int .i64 f, .bool l, .int .i64 (kindsT sec), .slice none 0 0]
        rw [e, HN.cell j]
        rw [krs_one] at hj
        simpa [krCells] using hj
      clear hx
      go_wp2_with (first
        | (go_at_call 47; refine (HKI.out _).mono ?_; rintro e3 w3 ⟨rfl, rfl⟩)
        | (at_builtin; refine wpList_append_keys rfl _ _ rfl _ (rowT sec f l (ns.take k)) [⟨sec, x, f, l, kindsT sec, []⟩] [⟨sec, x, f, l, kindsT sec, none, 0, 0⟩] rfl HK2.out ⟨wr.heap.size, 0, none⟩ 1 1 rfl rfl HA2.out HC2.out (by simp; omega) ?_; intro v' w' hk' _; rw [← HT.out] at hk'; have HK' := Lib.hid hk'; clear hk'))
      go_roundw
      case rel => exact ⟨k + 1, by omega, by go_num, HK'⟩
      case measure => simp [intOf]; omega
    · obtain rfl : k = ns.length := by omega
      have HE := HK.out
      rw [List.take_of_length_le (Nat.le_refl _)] at HE
      have HE := Lib.hid HE
      go_wp2_with fail
      go_ret
      exact ⟨_, rfl, HE.out.from_ HB1.out⟩
end Go.Proofs.YtadifolonbkamaaGreatDoor
