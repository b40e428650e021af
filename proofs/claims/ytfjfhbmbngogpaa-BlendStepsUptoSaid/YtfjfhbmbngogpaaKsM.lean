/- The walks of the document's kinds, row, worded. -/
import Derived.Test.YtfjfhbmbngogpaaKsK
namespace Go.Proofs.Ytfjfhbmbngogpaa
open Go.RowKit

def kindsT (s : List UInt8) : Int := if s = nServ then 2 else if s = nSock then 4 else if s = nTime then 8 else 30
theorem kinds_any (s : ByteArray) (w : World) : Calls Try.prog 35 #[.string s] w fun e w' => e = .returned (.int .i64 (kindsT s.data.toList)) ∧ w = w' := by
  have q1 : (s.toList == ([83, 101, 114, 118, 105, 99, 101] : List UInt8)) = decide (s.data.toList = nServ) := eq_lit s nServ
  have q2 : (s.toList == ([83, 111, 99, 107, 101, 116] : List UInt8)) = decide (s.data.toList = nSock) := eq_lit s nSock
  have q3 : (s.toList == ([84, 105, 109, 101, 114] : List UInt8)) = decide (s.data.toList = nTime) := eq_lit s nTime
  unfold kindsT
  by_cases h1 : s.data.toList = nServ
  · rw [if_pos h1]
    rw [decide_eq_true h1] at q1
    clear h1 q2 q3
    go_enter Try.func35, Try.ntmps35
    go_wp2_with fail
    go_ret
    exact ⟨rfl, rfl⟩
  rw [if_neg h1]
  rw [decide_eq_false h1] at q1
  by_cases h2 : s.data.toList = nSock
  · rw [if_pos h2]
    rw [decide_eq_true h2] at q2
    clear h1 h2 q3
    go_enter Try.func35, Try.ntmps35
    go_wp2_with fail
    go_ret
    exact ⟨rfl, rfl⟩
  rw [if_neg h2]
  rw [decide_eq_false h2] at q2
  by_cases h3 : s.data.toList = nTime
  · rw [if_pos h3]
    rw [decide_eq_true h3] at q3
    clear h1 h2 h3
    go_enter Try.func35, Try.ntmps35
    go_wp2_with fail
    go_ret
    exact ⟨rfl, rfl⟩
  rw [if_neg h3]
  rw [decide_eq_false h3] at q3
  clear h1 h2 h3
  go_enter Try.func35, Try.ntmps35
  go_wp2_with fail
  go_ret
  exact ⟨rfl, rfl⟩
theorem KLst.from_ {w w1 W : World} {v : Value} {ks : List Ky} (h : KLst w1 W v ks) (hb : Below w.heap.size w w1) : KLst w W v ks := by
  obtain ⟨rs, h1, h2, h3⟩ := h
  exact ⟨rs, own_base h1 hb.size, h2, more3 hb hb.size h3⟩
/-- Keys of one form, of names. -/
def rowT (sec : List UInt8) (f : Int) (l : Bool) (ns : List (List UInt8)) : List Ky := ns.map fun n => ⟨sec, n, f, l, kindsT sec, []⟩
theorem rowT_take {sec : List UInt8} {f : Int} {l : Bool} {ns : List (List UInt8)} {k : Nat} {x : List UInt8} (h : ns[k]? = some x) : rowT sec f l (ns.take (k + 1)) = rowT sec f l (ns.take k) ++ [⟨sec, x, f, l, kindsT sec, []⟩] := by
  have hk : k < ns.length := by
    rcases Nat.lt_or_ge k ns.length with h' | h'
    · exact h'
    · rw [List.getElem?_eq_none h'] at h; cases h
  have he : ns[k] = x := by rw [List.getElem?_eq_getElem hk] at h; exact Option.some.inj h
  rw [List.take_succ_eq_append_getElem hk, he]
  simp [rowT]
theorem blanks_row (names : List UInt8) (ns : List (List UInt8)) (hns : blanksL [32] names = ns) (hn : names.length ≤ 100000) (w : World) :
    Calls Try.prog 34 #[.string (str names), .string ⟨#[32]⟩] w fun e w' => ∃ v, e = .returned v ∧ w'.ownsRow w.heap.size 9 1 v ns.length (wcells ns) ∧ Below w.heap.size w w' := by
  subst hns
  exact Blanks_any (str names) ⟨#[32]⟩ (by rw [str_size]; omega) (by decide) w
set_option maxRecDepth 100000 in
set_option maxHeartbeats 8000000 in
theorem row_any (sec names : List UInt8) (ns : List (List UInt8)) (hns : blanksL [32] names = ns) (f : Int) (l : Bool) (hn : names.length ≤ 100000) (hlen : ns.length ≤ 1000) (w : World) :
    Calls Try.prog 32 #[.string (str sec), .string (str names), .int .i64 f, .bool l] w fun e w' => ∃ v, e = .returned v ∧ KLst w w' v (rowT sec f l ns) := by
  have HB := Lib.hid fun w => blanks_row names ns hns hn w
  clear hns hn
  have HKI : Hid (∀ w, Calls Try.prog 35 #[.string (str sec)] w fun e w' => e = .returned (.int .i64 (kindsT sec)) ∧ w = w') := fun w => kinds_any (str sec) w
  go_enter Try.func32, Try.ntmps32
  go_wp2_with fail
  refine (HB.out _).mono ?_
  rintro e1 w1 ⟨v1, rfl, ho, hb1⟩
  obtain ⟨A1, n1, c1, rfl⟩ : ∃ ao n' cap, v1 = .slice ao n' cap := by
    rcases ho.2 with ⟨hv, _⟩ | ⟨g, cap, cur, hv, _⟩
    · exact ⟨_, _, _, hv⟩
    · exact ⟨_, _, _, hv⟩
  obtain ⟨rfl, _, hr⟩ := rowAt_of_own ho (by unfold maxLen; omega)
  have HR1 := Lib.hid hr
  have HK1 : Hid (KLst w1 w1 (.slice none 0 0) (rowT sec f l (ns.take 0))) := KLst.nil w1
  have HB1 := Lib.hid hb1
  clear ho hr hb1 HB
  go_wp2_with fail
  go_loopw [9, 15] (fun v i wr => ∃ k : Nat, k ≤ ns.length ∧ i = .int .i64 k ∧ Hid (KLst w1 wr v (rowT sec f l (ns.take k)))) (fun v i wr => ns.length - (intOf i).toNat)
  case atStart => exact ⟨0, Nat.zero_le _, rfl, HK1⟩
  case round =>
    obtain ⟨k, hk, rfl, HK⟩ := hrel
    by_cases hlt : k < ns.length
    · have b0 : (0 : Int) ≤ (k : Int) := by omega
      have b1 : (k : Int) < (ns.length : Int) := by omega
      obtain ⟨ad, x, rfl, hab, hx, q0⟩ := (HR1.out.below HK.out.below).at_ hlt
      have HT := Lib.hid (rowT_take (sec := sec) (f := f) (l := l) hx)
      have hkl : (rowT sec f l (ns.take k)).length ≤ 1000 := by unfold rowT; rw [List.length_map, List.length_take]; omega
      have HK2 := Lib.hid (HK.out.next ((Below.refl wr.heap.size wr).alloc (Nat.le_refl _) (.cells #[.string (str sec), .string (str x), .int .i64 f, .bool l, .int .i64 (kindsT sec), .slice none 0 0] 33)))
      have HA2 : Hid (KrsAre (wr.alloc (.cells #[.string (str sec), .string (str x), .int .i64 f, .bool l, .int .i64 (kindsT sec), .slice none 0 0] 33)) (wr.alloc (.cells #[.string (str sec), .string (str x), .int .i64 f, .bool l, .int .i64 (kindsT sec), .slice none 0 0] 33)).heap.size [⟨sec, x, f, l, kindsT sec, none, 0, 0⟩] [⟨sec, x, f, l, kindsT sec, []⟩]) := KrsAre.cons ⟨rfl, rfl, rfl, rfl, rfl, RowS.none_⟩ KrsAre.nil
      have HC2 : Hid (∀ j u, (krs [⟨sec, x, f, l, kindsT sec, none, 0, 0⟩])[j]? = some u → (wr.alloc (.cells #[.string (str sec), .string (str x), .int .i64 f, .bool l, .int .i64 (kindsT sec), .slice none 0 0] 33)).cell? ((⟨wr.heap.size, 0, none⟩ : Addr).add j) = some u) := by
        intro j u hj
        have e : (⟨wr.heap.size, 0, none⟩ : Addr).add j = ⟨wr.heap.size, j, none⟩ := by unfold Addr.add; split <;> simp_all
        have HN := Blk.new wr 33 #[.string (str sec), .string (str x), .int .i64 f, .bool l, .int .i64 (kindsT sec), .slice none 0 0]
        rw [e, HN.cell j]
        rw [krs_one] at hj
        simpa [krCells] using hj
      clear hx
      go_wp2_with (first
        | (go_at_call 35; refine (HKI.out _).mono ?_; rintro e3 w3 ⟨rfl, rfl⟩)
        | (at_builtin; refine wpList_append_keys rfl _ _ rfl _ (rowT sec f l (ns.take k)) [⟨sec, x, f, l, kindsT sec, []⟩] [⟨sec, x, f, l, kindsT sec, none, 0, 0⟩] rfl HK2.out ⟨wr.heap.size, 0, none⟩ 1 1 rfl rfl HA2.out HC2.out (by simp; omega) ?_; intro v' w' hk' _; rw [← HT.out] at hk'; have HK' := Lib.hid hk'; clear hk'))
      go_roundw
      case rel => exact ⟨k + 1, by omega, by go_num, HK'⟩
      case measure => simp [intOf]; omega
    · obtain rfl : k = ns.length := by omega
      have HE := HK.out
      rw [List.take_of_length_le (Nat.le_refl _)] at HE
      have HE := Lib.hid HE
      go_wp2_with fail
      go_ret
      exact ⟨_, rfl, HE.out.from_ HB1.out⟩
end Go.Proofs.Ytfjfhbmbngogpaa
