/- What the laws of graph show: a service made by New. The walk of the document's May. The library's binary search among no -/
import Derived.Test.YtcoepioahabbdaaGreatGyaw
import Derived.Great.BuildSlice
import Derived.Test.YtcoepioahabbdaaGreatGyar
import Derived.Test.YtcoepioahabbdaaGreatGyau
namespace Go.Proofs.YtcoepioahabbdaaGreat
open Go.RowKit
def tSv : Tx := [97, 46, 115, 101, 114, 118, 105, 99, 101]
def tTg : Tx := [98, 46, 116, 97, 114, 103, 101, 116]
def zeroU : Array Value := #[.string ⟨#[]⟩, .int .i64 0, .string ⟨#[]⟩, .bool false, .slice none 0 0, .int .i64 0, .int .i64 0, .int .i64 0, .slice none 0 0, .slice none 0 0, .slice none 0 0, .slice none 0 0, .slice none 0 0, .bool false, .int .i64 0, .int .i64 0, .int .i64 0, .int .i64 0, .slice none 0 0, .slice none 0 0, .slice none 0 0, .slice none 0 0, .int .i64 0, .string ⟨#[]⟩, .string ⟨#[]⟩, .slice none 0 0, .slice none 0 0, .slice none 0 0, .slice none 0 0, .bool false, .slice none 0 0, .slice none 0 0, .slice none 0 0, .slice none 0 0, .string ⟨#[]⟩]
def baseU : Array Value := #[.string (str tSv), .int .i64 1, .string ⟨#[]⟩, .bool true, .slice none 0 0, .int .i64 10, .int .i64 5, .int .i64 0, .slice none 0 0, .slice none 0 0, .slice none 0 0, .slice none 0 0, .slice none 0 0, .bool false, .int .i64 0, .int .i64 0, .int .i64 0, .int .i64 0, .slice none 0 0, .slice none 0 0, .slice none 0 0, .slice none 0 0, .int .i64 0, .string ⟨#[]⟩, .string ⟨#[]⟩, .slice none 0 0, .slice none 0 0, .slice none 0 0, .slice none 0 0, .bool false, .slice none 0 0, .slice none 0 0, .slice none 0 0, .slice none 0 0, .string ⟨#[]⟩]
def servU : Array Value := #[.string (str tSv), .int .i64 1, .string ⟨#[]⟩, .bool true, .slice none 0 0, .int .i64 10, .int .i64 5, .int .i64 1, .slice none 0 0, .slice none 0 0, .slice none 0 0, .slice none 0 0, .slice none 0 0, .bool false, .int .i64 1, .int .i64 0, .int .i64 90, .int .i64 90, .slice none 0 0, .slice none 0 0, .slice none 0 0, .slice none 0 0, .int .i64 0, .string ⟨#[]⟩, .string ⟨#[]⟩, .slice none 0 0, .slice none 0 0, .slice none 0 0, .slice none 0 0, .bool false, .slice none 0 0, .slice none 0 0, .slice none 0 0, .slice none 0 0, .string ⟨#[]⟩]
theorem sv_good : Nm.goodP (str tSv) = true := by decide +kernel
theorem sv_kind : Nm.kindP (str tSv) = 1 := by decide +kernel
theorem built_baseU : Tryz.prog.built 51 [(0, .string (str tSv)), (1, .int .i64 1), (3, .bool true), (5, .int .i64 10), (6, .int .i64 5)] = some baseU := by kernel_rfl
theorem size_U : (Tryz.prog.info? 51).map (·.size) = some 35 := by kernel_rfl
theorem baseU_all : baseU.all (·.oneCell') = true := by simp [baseU, Value.oneCell']
theorem servU_all : servU.all (·.oneCell') = true := by simp [servU, Value.oneCell']
theorem servU_eq : (((baseU.setIfInBounds 7 (.int .i64 1)).setIfInBounds 14 (.int .i64 1)).setIfInBounds 16 (.int .i64 90)).setIfInBounds 17 (.int .i64 90) = servU := by rfl
set_option maxRecDepth 10000 in
set_option maxHeartbeats 8000000 in
theorem newSv_any (w : World) : Calls Tryz.prog 43 #[.string (str tSv)] w fun e w' => e = .returned (.agg servU) ∧ Below w.heap.size w w' := by
  have hs : (str tSv).size ≤ maxLen := by rw [str_size]; decide
  have hz : Tryz.prog.built 51 [] = some zeroU := by kernel_rfl
  go_enter Tryz.func43, Tryz.ntmps43
  go_wp2_with fail
  have hR0 : Blk (w.alloc (.cells zeroU 51)) w.heap.size 51 zeroU := Blk.new _ _ _
  have hB0 : Below w.heap.size w (w.alloc (.cells zeroU 51)) := (Below.refl _ w).alloc (Nat.le_refl _) _
  change Calls _ _ _ (w.alloc (.cells zeroU 51)) _
  obtain ⟨w1, hw1⟩ : ∃ w1, w.alloc (.cells zeroU 51) = w1 := ⟨_, rfl⟩
  rw [hw1] at hR0 hB0
  rw [hw1]
  clear hw1
  refine (Nm.May_any _ hs _).mono ?_
  rintro e w2 ⟨rfl, hb2⟩
  rw [sv_good]
  go_wp2_with fail
  refine (Nm.Kind_any _ hs _).mono ?_
  rintro e w3 ⟨rfl, hb3⟩
  rw [sv_kind]
  have hB3 : Below w1.heap.size w1 w3 := hb2.trans (hb3.mono hb2.size)
  have HR3 := Lib.hid (hR0.below hB3 hR0.lt)
  have HB3 : Hid (Below w.heap.size w w3) := hB0.trans (hB3.mono hB0.size)
  clear hR0 hB0 hb2 hb3 hB3
  have n1 : (w3.alloc (.cells baseU 51)).cell? ⟨w3.heap.size, 1, none⟩ = some (.int .i64 1) := (Blk.new w3 _ baseU).cell 1
  have n7 : (w3.alloc (.cells baseU 51)).cell? ⟨w3.heap.size, 7, none⟩ = some (.int .i64 0) := (Blk.new w3 _ baseU).cell 7
  have m7 := (Blk.new w3 51 baseU).frozen 7
  go_wp2_with (first
    | (refine wpList_buildTo rfl 51 _ rfl (some 11) rfl baseU (by first | (simp only [List.map_toArray, List.map_cons, List.map_nil]; exact built_baseU) | (simp; exact built_baseU)) ?_)
    | (refine wpList_store_row rfl 51 (.tmp 3) (.tmp 11) (by rfl) w3.heap.size baseU (by rfl) (by rfl) 51 _ (by exact heap_alloc_new _ _) (by exact size_U) (by rfl) baseU_all ?_
       rw [heap_alloc_setRow])
    | (rw [servU_eq]
       refine wpList_load_row rfl 51 (.tmp 3) (by rfl) w3.heap.size (by rfl) 51 servU (0, 0) _ (by exact heap_alloc_new _ _) Tryz.underlying51 rfl (by exact size_U) ?_)
    | (refine wpList_store_row rfl 51 (.tmp 2) (.tmp 23) (by rfl) w.heap.size servU (by rfl) (by rfl) 51 zeroU (HR3.out.alloc _) (by exact size_U) (by rfl) servU_all ?_)
    | fail)
  refine bodyPost_ret (results_cellG (p := 2) rfl _ _ w.heap.size 51 servU _ rfl (Blk.row (HR3.out.alloc _) servU) Tryz.underlying51 rfl (by exact size_U)) rfl ⟨rfl, below_setRow (HB3.out.alloc HB3.out.size _) (Nat.le_refl _) _⟩
end Go.Proofs.YtcoepioahabbdaaGreat
namespace Go.Proofs.YtcoepioahabbdaaGreat
open Go.RowKit
theorem run_geq_str (w : World) (a b : ByteArray) : (binOp .geq 9 (.string a) (.string b)).run Tryz.prog w = .ok (.bool (!(Op.bytesLess a.toList b.toList))) w := by kernel_rfl
theorem geqT (x y : Tx) (W : World) : (binOp .geq 9 (.string (str x)) (.string (str y))).run Tryz.prog W = .ok (.bool (!decide (x < y))) W := by
  rw [run_geq_str, ltT_str]
def NdUp (ns : List Nd) (k : Nat) : Prop := ∀ i x, i < k → ns[i]? = some x → goodN kT x ∧ ∀ y, 0 < i → ns[i - 1]? = some y → y.n < x.n
def EdUp (ns : List Nd) (es : List Ed) (k : Nat) : Prop := ∀ i x, i < k → es[i]? = some x → goodE ns x ∧ ∀ y, 0 < i → es[i - 1]? = some y → ltE y x
theorem NdUp.zero (ns : List Nd) : NdUp ns 0 := fun i x h => by omega
theorem EdUp.zero (ns : List Nd) (es : List Ed) : EdUp ns es 0 := fun i x h => by omega
theorem NdUp.snoc {ns : List Nd} {k : Nat} {x : Nd} (h : NdUp ns k) (hx : ns[k]? = some x) (hg : goodN kT x) (hp : ∀ y, 0 < k → ns[k - 1]? = some y → y.n < x.n) : NdUp ns (k + 1) := fun i z hi hz => by
  rcases Nat.lt_succ_iff_lt_or_eq.1 hi with h' | h'
  · exact h i z h' hz
  · subst h'
    rw [hx] at hz
    injection hz with hz
    subst hz
    exact ⟨hg, hp⟩
theorem EdUp.snoc {ns : List Nd} {es : List Ed} {k : Nat} {x : Ed} (h : EdUp ns es k) (hx : es[k]? = some x) (hg : goodE ns x) (hp : ∀ y, 0 < k → es[k - 1]? = some y → ltE y x) : EdUp ns es (k + 1) := fun i z hi hz => by
  rcases Nat.lt_succ_iff_lt_or_eq.1 hi with h' | h'
  · exact h i z h' hz
  · subst h'
    rw [hx] at hz
    injection hz with hz
    subst hz
    exact ⟨hg, hp⟩
theorem may_of {ns : List Nd} {es : List Ed} (h1 : ns.length ≤ 64) (h2 : NdUp ns ns.length) (h3 : EdUp ns es es.length) : MayG kT ns es := by
  have at1 : ∀ {i : Nat} {x : Nd}, ns[i]? = some x → i < ns.length := fun h => (List.getElem?_eq_some_iff.1 h).1
  have at2 : ∀ {i : Nat} {x : Ed}, es[i]? = some x → i < es.length := fun h => (List.getElem?_eq_some_iff.1 h).1
  refine ⟨h1, fun x hx => ?_, ?_, fun x hx => ?_, ?_⟩
  · obtain ⟨i, hi⟩ := List.mem_iff_getElem?.1 hx
    exact (h2 i x (at1 hi) hi).1
  · have h4 : risesG (fun a b : Tx => a < b) (ns.map (·.n)) := rises_at linT fun i a b ha hb => by
      rw [List.getElem?_map] at ha hb
      obtain ⟨x, hx, rfl⟩ := Option.map_eq_some_iff.1 ha
      obtain ⟨y, hy, rfl⟩ := Option.map_eq_some_iff.1 hb
      exact (h2 (i + 1) y (at1 hy) hy).2 x (by omega) (by simpa using hx)
    show ns.Pairwise (fun a b => a.n < b.n)
    exact List.pairwise_map.1 h4
  · obtain ⟨i, hi⟩ := List.mem_iff_getElem?.1 hx
    exact (h3 i x (at2 hi) hi).1
  · exact rises_at linE fun i x y hx hy => (h3 (i + 1) y (at2 hy) hy).2 x (by omega) (by simpa using hx)
theorem no_node {ns : List Nd} {es : List Ed} {k : Nat} {x : Nd} (hx : ns[k]? = some x) (h : ¬ goodN kT x) : ¬ MayG kT ns es := fun m => h (m.good x (List.mem_of_getElem? hx))
theorem no_rise {ns : List Nd} {es : List Ed} {k : Nat} {x y : Nd} (h0 : 0 < k) (hx : ns[k]? = some x) (hy : ns[k - 1]? = some y) (h : ¬ y.n < x.n) : ¬ MayG kT ns es := fun m => by
  obtain ⟨k1, e1⟩ := List.getElem?_eq_some_iff.1 hx
  obtain ⟨k2, e2⟩ := List.getElem?_eq_some_iff.1 hy
  have := List.pairwise_iff_getElem.1 m.nrise (k - 1) k k2 k1 (by omega)
  rw [e1, e2] at this
  exact h this
theorem no_edge {ns : List Nd} {es : List Ed} {k : Nat} {x : Ed} (hx : es[k]? = some x) (h : ¬ goodE ns x) : ¬ MayG kT ns es := fun m => h (m.edge x (List.mem_of_getElem? hx))
theorem no_riseE {ns : List Nd} {es : List Ed} {k : Nat} {x y : Ed} (h0 : 0 < k) (hx : es[k]? = some x) (hy : es[k - 1]? = some y) (h : ¬ ltE y x) : ¬ MayG kT ns es := fun m => by
  obtain ⟨k1, e1⟩ := List.getElem?_eq_some_iff.1 hx
  obtain ⟨k2, e2⟩ := List.getElem?_eq_some_iff.1 hy
  have := List.pairwise_iff_getElem.1 m.erise (k - 1) k k2 k1 (by omega)
  rw [e1, e2] at this
  exact h this
def MayPost (ns : List Nd) (es : List Ed) (w : World) (e : Ending) (w' : World) : Prop := ∃ r, e = .returned (.bool r) ∧ (r = true ↔ MayG kT ns es) ∧ Below w.heap.size w w'
end Go.Proofs.YtcoepioahabbdaaGreat
namespace Go.Proofs.YtcoepioahabbdaaGreat
open Go.RowKit
set_option maxRecDepth 10000 in
set_option maxHeartbeats 8000000 in
theorem bsrN_any (A : Option Addr) (n c B : Nat) (L : List Nd) (t : Tx) (w : World) (h : SlAt ndLay w B A n L) (hB : B ≤ w.heap.size) (hr : risesK (fun r : Nd => r.n) L) (hn62 : n ≤ 1048576) :
    Calls Tryz.prog 104 #[.slice A n c, .string (str t), .func (.func 105) #[] #[]] w (SrchPost (fun r : Nd => r.n) L t w) := by
  have hl : L.length = n := h.1
  have HL := Lib.hid h
  have HR := Lib.hid hr
  clear h hr
  have HS0 : Hid (Sides (fun r : Nd => r.n) L t 0 n) := by
    show Sides _ _ _ _ _
    rw [← hl]
    exact Sides.start _ _ _
  unfold SrchPost
  go_enter Tryz.func104, Tryz.ntmps104
  go_wp2_with fail
  go_loopw [9, 10] (fun s9 s10 wr => ∃ lo hi : Nat, s9 = .int .i64 lo ∧ s10 = .int .i64 hi ∧ lo ≤ hi ∧ hi ≤ n ∧ Hid (Below w.heap.size w wr) ∧ Hid (Sides (fun r : Nd => r.n) L t lo hi)) (fun s9 s10 wr => (intOf s10).toNat - (intOf s9).toNat)
  case atStart => exact ⟨0, n, rfl, rfl, Nat.zero_le _, Nat.le_refl _, Below.refl _ _, HS0⟩
  case round =>
    obtain ⟨lo, hi, rfl, rfl, hlh, hin, hb, hI⟩ := hrel
    have hws := hb.out.size
    by_cases hlt : lo < hi
    · have hmn : (lo + hi) / 2 < n := by omega
      obtain ⟨ad, r, rfl, hab, hx, q0, q1, q2⟩ := nds_at (HL.out.below (hb.out.mono hB)) (k := (lo + hi) / 2) hmn
      have hc := fun W => srchN_any r t W
      by_cases hlx : Lib.compareBytes r.n t < 0
      · have HI1 := Lib.hid (hI.out.up HR.out hx ((cmpB_spec _ _).1.1 hlx))
        go_wp2_with fail
        refine (hc _).mono ?_
        rintro e w5 ⟨rfl, hb5⟩
        have HB5 := Lib.hid (more3 hb.out hb.out.size hb5)
        clear hb5
        go_wp2_with fail
        go_roundw
        case rel => exact ⟨(lo + hi) / 2 + 1, hi, by rw [show ((lo : Int) + (hi : Int)) / 2 + 1 = (((lo + hi) / 2 + 1 : Nat) : Int) by omega], rfl, by omega, hin, HB5, HI1⟩
        case measure => simp [intOf]; omega
      · have HI1 := Lib.hid (hI.out.down HR.out hx (fun k => hlx ((cmpB_spec _ _).1.2 k)))
        go_wp2_with fail
        refine (hc _).mono ?_
        rintro e w5 ⟨rfl, hb5⟩
        have HB5 := Lib.hid (more3 hb.out hb.out.size hb5)
        clear hb5
        go_wp2_with fail
        go_roundw
        case rel => exact ⟨lo, (lo + hi) / 2, rfl, by rw [show ((lo : Int) + (hi : Int)) / 2 = (((lo + hi) / 2 : Nat) : Int) by omega], by omega, by omega, HB5, HI1⟩
        case measure => simp [intOf]; omega
    · obtain rfl : hi = lo := by omega
      have HP := Lib.hid (hI.out.pos (by omega))
      by_cases hn : hi < n
      · obtain ⟨ad, r, rfl, hab, hx, q0, q1, q2⟩ := nds_at (HL.out.below (hb.out.mono hB)) (k := hi) hn
        have hc := fun W => srchN_any r t W
        have HQ := Lib.hid (pos_has HP.out HR.out)
        by_cases hlx : Lib.compareBytes r.n t = 0
        · have HF : Hid (hasK (fun r : Nd => r.n) L t = true) := HQ.out.2 ⟨_, hx, (cmpB_spec _ _).2.1 hlx⟩
          go_wp2_with fail
          refine (hc _).mono ?_
          rintro e w5 ⟨rfl, hb5⟩
          have HB5 := Lib.hid (more3 hb.out hb.out.size hb5)
          clear hb5
          go_wp2_with fail
          go_ret2
          exact ⟨hi, HP.out, by rw [HF.out]; rfl, HB5.out⟩
        · have HF : Hid (hasK (fun r : Nd => r.n) L t = false) := by
            show _ = _
            rw [Bool.eq_false_iff]
            intro hh
            obtain ⟨y, hy, e⟩ := HQ.out.1 hh
            rw [hx] at hy
            cases hy
            exact hlx ((cmpB_spec _ _).2.2 e)
          have hlxb : (Lib.compareBytes r.n t == 0) = false := by simpa using hlx
          go_wp2_with fail
          refine (hc _).mono ?_
          rintro e w5 ⟨rfl, hb5⟩
          have HB5 := Lib.hid (more3 hb.out hb.out.size hb5)
          clear hb5
          go_wp2_with fail
          go_ret2
          exact ⟨hi, HP.out, by rw [HF.out]; rfl, HB5.out⟩
      · have HF : Hid (hasK (fun r : Nd => r.n) L t = false) := pos_all HP.out (by omega)
        go_wp2_with fail
        go_ret2
        exact ⟨hi, HP.out, by rw [HF.out]; rfl, hb.out⟩
end Go.Proofs.YtcoepioahabbdaaGreat
