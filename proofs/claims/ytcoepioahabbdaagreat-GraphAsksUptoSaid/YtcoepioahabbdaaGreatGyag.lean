/- The walks of the document's Has, Node, put. The walk of the document's put. -/
import Derived.Test.YtcoepioahabbdaaGreatGyae
import Derived.BigQuiet
import Derived.Deep.RegionLaw
namespace Go.Proofs.YtcoepioahabbdaaGreat
open Go.RowKit
theorem Blk.row {w : World} {g : Nat} {t : TypeId} {cs : Array Value} (h : Blk w g t cs) (cs' : Array Value) : Blk (w.setRow g cs') g t cs' := setRow_heap w g cs cs' t (0, 0) h
theorem heap_row_other (w : World) (F : Nat) (cs : Array Value) (i : Nat) (h : i ≠ F) : (w.setRow F cs).heap[i]? = w.heap[i]? := by
  unfold World.setRow
  simp only [Array.getElem?_modify]
  rw [if_neg (Ne.symm h)]
theorem size_row (w : World) (F : Nat) (cs : Array Value) : (w.setRow F cs).heap.size = w.heap.size := by simp [World.setRow]
theorem below_setRow {B : Nat} {a w : World} (h : Below B a w) {g : Nat} (hg : B ≤ g) (cs : Array Value) : Below B a (w.setRow g cs) :=
  ⟨h.os, h.tape, h.output, by rw [size_row]; exact h.size, fun i hi => by rw [heap_row_other w g cs i (by omega)]; exact h.block i hi⟩
theorem results_cell_tmp {P : Program} {fn : Func} {p q : Tmp} {ty : TypeId} (h : fn.results = #[.cell p ty, .tmp q]) (tmps : Array Value) (w : World) (g : Nat) (t : TypeId) (cs : Array Value) (d : TypeDesc) (v : Value)
    (hp : tmps.getD p undef = .pointer (some ⟨g, 0, none⟩)) (hv : tmps.getD q undef = v) (hg : w.heap[g]? = some (.cells cs t (0, 0)))
    (hu : P.underlying ty = some d) (hd : (match d with | .struct _ | .array _ _ => true | _ => false) = true) (hi : (P.info? ty).map (·.size) = some cs.size) :
    (results fn tmps).run P w = .ok (.tuple #[.agg cs, v]) w := by
  have hp' : tmps[p]?.getD undef = .pointer (some ⟨g, 0, none⟩) := by simpa using hp
  have hv' : tmps[q]?.getD undef = v := by simpa using hv
  simp [results, h, hp', hv', asAddr, run_loadVar_row w g t ty cs (0, 0) d hg hu hd hi]
theorem find_take {α : Type} {l : List α} {p : α → Bool} {k : Nat} {x : α} (h : (l.take k).find? p = none) (hx : l[k]? = some x) : (p x = true → l.find? p = some x) ∧ (p x = false → (l.take (k + 1)).find? p = none) := by
  have hk : k < l.length := by
    rcases Nat.lt_or_ge k l.length with h' | h'
    · exact h'
    · rw [List.getElem?_eq_none h'] at hx; cases hx
  have he : l[k] = x := by rw [List.getElem?_eq_getElem hk] at hx; exact Option.some.inj hx
  constructor
  · intro e
    conv => lhs; rw [← List.take_append_drop k l]
    rw [List.find?_append, h, List.drop_eq_getElem_cons hk, he, List.find?_cons]
    simp [e]
  · intro e
    rw [List.take_succ_eq_append_getElem hk, he, List.find?_append, h]
    simp [e]
theorem mem_take {α : Type} [DecidableEq α] {l : List α} {k : Nat} {x y : α} (h : y ∉ l.take k) (hx : l[k]? = some x) : (x = y → y ∈ l) ∧ (x ≠ y → y ∉ l.take (k + 1)) := by
  have hk : k < l.length := by
    rcases Nat.lt_or_ge k l.length with h' | h'
    · exact h'
    · rw [List.getElem?_eq_none h'] at hx; cases hx
  have he : l[k] = x := by rw [List.getElem?_eq_getElem hk] at hx; exact Option.some.inj hx
  constructor
  · rintro rfl
    rw [← he]
    exact List.getElem_mem hk
  · intro hn hm
    rw [List.take_succ_eq_append_getElem hk, he] at hm
    rcases List.mem_append.1 hm with hm | hm
    · exact h hm
    · exact hn (List.mem_singleton.1 hm).symm
def ndA (x : Nd) : Array Value := #[.string (str x.n), .int .i64 x.k, .int .i64 x.s]
theorem ndA_all (x : Nd) : (ndA x).all (·.oneCell') = true := by simp [ndA, Value.oneCell']
def noNd : Nd := ⟨[], 0, 0⟩
def nodeV (o : Option Nd) : Value := .tuple #[.agg (ndA (o.getD noNd)), .bool o.isSome]
set_option maxHeartbeats 8000000 in
theorem gHas_any (g : Array Value) (ns : List Nd) (es : List Ed) (f t : Tx) (r : Int) (B : Nat) (w : World) (h : GrAt w B g ns es) (hB : B ≤ w.heap.size) :
    Calls Tryz.prog 86 #[.agg g, .string (str f), .string (str t), .int .i64 r] w fun e w' => e = .returned (.bool (hasG es f t r)) ∧ Below w.heap.size w w' := by
  obtain ⟨NA, nc, EA, ec, rfl, _, _, _, _, _, hE⟩ := h.form
  have hm := hE.2.1
  unfold maxLen at hm
  have HL := Lib.hid hE
  clear h hE
  have HB0 : Hid (Below w.heap.size w (w.alloc (.cells #[.slice NA ns.length nc, .slice EA es.length ec] 29))) := (Below.refl _ w).alloc (Nat.le_refl _) _
  have HN0 : Hid ((⟨f, t, r⟩ : Ed) ∉ es.take 0) := by intro h; simp at h
  go_enter Tryz.func86, Tryz.ntmps86
  go_wp2_with fail
  generalize w.alloc (.cells #[.slice NA ns.length nc, .slice EA es.length ec] 29) = w0 at *
  go_loopw [14] (fun i wr => ∃ k : Nat, k ≤ es.length ∧ i = .int .i64 k ∧ Hid (Below w.heap.size w wr) ∧ Hid ((⟨f, t, r⟩ : Ed) ∉ es.take k)) (fun i wr => es.length - (intOf i).toNat)
  case atStart => exact ⟨0, Nat.zero_le _, rfl, HB0, HN0⟩
  case round =>
    obtain ⟨k, hk, rfl, hb, hN⟩ := hrel
    by_cases hlt : k < es.length
    · have b0 : (0 : Int) ≤ (k : Int) := by omega
      have b1 : (k : Int) < (es.length : Int) := by omega
      obtain ⟨ad, x, rfl, hab, hx, q0, q1, q2⟩ := eds_at (HL.out.below (hb.out.mono hB)) hlt
      obtain ⟨n1, n2⟩ := mem_take hN.out hx
      have hq : ∀ W, (binOp .eql 58 (.agg #[.string (str x.f), .string (str x.t), .int .i64 x.r]) (.agg #[.string (str f), .string (str t), .int .i64 r])).run Tryz.prog W = .ok (.bool (decide (x = ⟨f, t, r⟩))) W := fun W => by
        rw [run_eql_edge, eqT_str, eqT_str]
        congr 2
        obtain ⟨x1, x2, x3⟩ := x
        rw [Bool.eq_iff_iff]
        simp
      by_cases hxn : x = ⟨f, t, r⟩
      · have HF : Hid (hasG es f t r = true) := decide_eq_true (n1 hxn)
        rw [decide_eq_true hxn] at hq
        clear hxn n1 n2 hx
        go_wp2_with fail
        go_ret
        exact ⟨ret_bool HF.out.symm, hb.out.alloc hb.out.size _⟩
      · have HF := Lib.hid (n2 hxn)
        rw [decide_eq_false hxn] at hq
        clear hxn n1 n2 hx
        go_wp2_with fail
        go_roundw
        case rel => exact ⟨k + 1, by omega, by go_num, hb.out.alloc hb.out.size _, HF⟩
        case measure => simp [intOf]; omega
    · obtain rfl : k = es.length := by omega
      have HF : Hid (hasG es f t r = false) := by
        have := hN.out
        rw [List.take_of_length_le (by omega)] at this
        exact decide_eq_false this
      go_wp2_with fail
      go_ret
      exact ⟨ret_bool HF.out.symm, hb.out⟩
set_option maxHeartbeats 8000000 in
theorem gNode_any (g : Array Value) (ns : List Nd) (es : List Ed) (u : Tx) (B : Nat) (w : World) (h : GrAt w B g ns es) (hB : B ≤ w.heap.size) :
    Calls Tryz.prog 15 #[.agg g, .string (str u)] w fun e w' => e = .returned (nodeV (nodeG ns u)) ∧ Below w.heap.size w w' := by
  obtain ⟨NA, nc, EA, ec, rfl, _, _, _, _, hE, _⟩ := h.form
  have hm := hE.2.1
  unfold maxLen at hm
  have HL := Lib.hid hE
  clear h hE
  have HR0 : Hid (Blk ((w.alloc (.cells #[.slice NA ns.length nc, .slice EA es.length ec] 29)).alloc (.cells #[.string ⟨#[]⟩, .int .i64 0, .int .i64 0] 32)) (w.heap.size + 1) 32 (ndA noNd)) := by
    have := Blk.new (w.alloc (.cells #[.slice NA ns.length nc, .slice EA es.length ec] 29)) 32 (ndA noNd)
    rwa [show (w.alloc (.cells #[.slice NA ns.length nc, .slice EA es.length ec] 29)).heap.size = w.heap.size + 1 by simp] at this
  have HB0 : Hid (Below w.heap.size w ((w.alloc (.cells #[.slice NA ns.length nc, .slice EA es.length ec] 29)).alloc (.cells #[.string ⟨#[]⟩, .int .i64 0, .int .i64 0] 32))) := ((Below.refl _ w).alloc (Nat.le_refl _) _).alloc (by simp) _
  have HN0 : Hid ((ns.take 0).find? (fun x => decide (x.n = u)) = none) := rfl
  go_enter Tryz.func15, Tryz.ntmps15
  go_wp2_with fail
  generalize (w.alloc (.cells #[.slice NA ns.length nc, .slice EA es.length ec] 29)).alloc (.cells #[.string ⟨#[]⟩, .int .i64 0, .int .i64 0] 32) = w0 at *
  go_loopw [11] (fun i wr => ∃ k : Nat, k ≤ ns.length ∧ i = .int .i64 k ∧ Hid (Below w.heap.size w wr) ∧ Hid (Blk wr (w.heap.size + 1) 32 (ndA noNd)) ∧ Hid ((ns.take k).find? (fun x => decide (x.n = u)) = none)) (fun i wr => ns.length - (intOf i).toNat)
  case atStart => exact ⟨0, Nat.zero_le _, rfl, HB0, HR0, HN0⟩
  case round =>
    obtain ⟨k, hk, rfl, hb, hR, hN⟩ := hrel
    have hRl : w.heap.size + 1 < wr.heap.size := hR.out.lt
    by_cases hlt : k < ns.length
    · have b0 : (0 : Int) ≤ (k : Int) := by omega
      have b1 : (k : Int) < (ns.length : Int) := by omega
      obtain ⟨ad, x, rfl, hab, hx, q0, q1, q2⟩ := nds_at (HL.out.below (hb.out.mono hB)) hlt
      have z1 : (ad.add (k * 3)).block < wr.heap.size := by rw [addA_block]; omega
      obtain ⟨n1, n2⟩ := find_take hN.out hx
      have hq := eqT_str x.n u
      by_cases hxn : x.n = u
      · have HF := Lib.hid (n1 (decide_eq_true hxn))
        rw [decide_eq_true hxn] at hq
        clear hxn n1 n2 hx
        have HR1 : Hid (Blk (wr.alloc (.cells #[.string (str x.n), .int .i64 x.k, .int .i64 x.s] 32)) (w.heap.size + 1) 32 (ndA noNd)) := hR.out.alloc _
        have HB1 : Hid (Below w.heap.size w (wr.alloc (.cells #[.string (str x.n), .int .i64 x.k, .int .i64 x.s] 32))) := hb.out.alloc hb.out.size _
        go_wp2_with (refine wpList_store_row rfl 32 (.tmp 4) (.tmp 19) (by rfl) (w.heap.size + 1) (ndA x) (by rfl) (by rfl) 32 (ndA noNd) HR1.out (by kernel_rfl) rfl (ndA_all _) ?_)
        refine bodyPost_ret (results_cell_tmp (p := 4) (q := 5) rfl _ _ (w.heap.size + 1) 32 (ndA x) _ _ rfl rfl (Blk.row HR1.out _) Tryz.underlying32 rfl (by kernel_rfl)) rfl ⟨by unfold nodeG; rw [HF.out]; rfl, below_setRow HB1.out (by omega) _⟩
      · have HF := Lib.hid (n2 (decide_eq_false hxn))
        rw [decide_eq_false hxn] at hq
        clear hxn n1 n2 hx
        go_wp2_with fail
        go_roundw
        case rel => exact ⟨k + 1, by omega, by go_num, hb.out.alloc hb.out.size _, hR.out.alloc _, HF⟩
        case measure => simp [intOf]; omega
    · obtain rfl : k = ns.length := by omega
      have HF : Hid (nodeG ns u = none) := by
        have := hN.out
        rwa [List.take_of_length_le (by omega)] at this
      go_wp2_with (refine wpList_store_row rfl 32 (.tmp 4) (.tmp 21) (by rfl) (w.heap.size + 1) (ndA noNd) (by rfl) (by rfl) 32 (ndA noNd) hR.out (by kernel_rfl) rfl (ndA_all _) ?_)
      exact bodyPost_ret (results_cell_tmp (p := 4) (q := 5) rfl _ _ (w.heap.size + 1) 32 (ndA noNd) _ _ rfl rfl (Blk.row hR.out _) Tryz.underlying32 rfl (by kernel_rfl)) rfl ⟨by rw [HF.out]; rfl, below_setRow hb.out (by omega) _⟩
end Go.Proofs.YtcoepioahabbdaaGreat
namespace Go.Proofs.YtcoepioahabbdaaGreat
open Go.RowKit
theorem add_g0 (g j : Nat) : (⟨g, 0, none⟩ : Addr).add j = ⟨g, j, none⟩ := by unfold Addr.add; split <;> simp_all
section
variable {α : Type} {L : Lay α} {T : TypeId}
theorem OwnG.new (w : World) (l : List α) (_h0 : 0 < l.length) (hl : l.length ≤ maxLen) : OwnG L T (w.alloc (.cells (L.all l).toArray T)).drew w.heap.size (.slice (some ⟨w.heap.size, 0, none⟩) l.length l.length) l := by
  refine ⟨L.all_len l, .inr ⟨w.heap.size, l.length, (L.all l).toArray, rfl, Nat.le_refl _, heap_alloc_new w _, Nat.le_refl _, hl, ?_, ?_⟩⟩
  · simp [L.all_len]
  · rw [← L.all_len l]
    simp
theorem OwnG.some {w : World} {base : Nat} {v : Value} {l : List α} (h : OwnG L T w base v l) (h0 : 0 < l.length) (hn : l.length ≤ maxLen) : ∃ g c, v = .slice (some ⟨g, 0, none⟩) l.length c ∧ l.length ≤ c ∧ base ≤ g ∧ g < w.heap.size ∧ v.ownBlock = some g ∧ SlAt L w w.heap.size (some ⟨g, 0, none⟩) l.length l := by
  obtain ⟨A, c, rfl, hc, hno, had, hr⟩ := h.slice hn
  cases A with
  | none => have := hno rfl; omega
  | some ad =>
    obtain ⟨h1, h2, h3, h4⟩ := had ad rfl
    obtain ⟨g, rfl⟩ : ∃ g, ad = ⟨g, 0, none⟩ := ⟨_, h4⟩
    exact ⟨g, c, rfl, hc, h1, h2, rfl, hr⟩
theorem put_below {w w1 : World} {v : Value} (o : Obj) (h1 : (w.alloc o).drew.grownBy w1 v.ownBlock) (hv : v.ownBlock = Option.some w.heap.size) : Below w.heap.size w w1 := by
  have hb : Below w.heap.size w (w.alloc o).drew := ((Below.refl _ w).alloc (Nat.le_refl _) o).drew
  exact hb.grown h1 (by simp) (fun k hk => by rw [hv] at hk; injection hk with hk; omega)
end
def PutPost (base : Nat) (l' : List Tx) (w : World) (e : Ending) (w' : World) : Prop := ∃ v', e = .returned v' ∧ OwnG txLay 9 w' base v' l' ∧ Below w.heap.size w w'
set_option maxHeartbeats 8000000 in
theorem gPut_any (base : Nat) (v : Value) (l : List Tx) (s : Tx) (w : World) (h : OwnG txLay 9 w base v l) (hb : base ≤ w.heap.size) (hl : l.length ≤ 1048576) :
    Calls Tryz.prog 34 #[v, .string (str s)] w (PutPost base (putG (fun a b : Tx => a < b) l s) w) := by
  have HO := Lib.hid h
  obtain ⟨A, c, rfl, hc, hno, had, hrow⟩ := h.slice (by unfold maxLen; omega)
  have HL := Lib.hid hrow
  have HAD := Lib.hid had
  have HN0 : Hid (∀ i x, i < 0 → l[i]? = some x → x < s) := fun i x hi => by omega
  clear h hrow had
  go_enter Tryz.func34, Tryz.ntmps34
  go_wp2_with fail
  go_loopw [5] (fun i wr => ∃ k : Nat, k ≤ l.length ∧ i = .int .i64 k ∧ w = wr ∧ Hid (∀ i x, i < k → l[i]? = some x → x < s)) (fun i wr => l.length - (intOf i).toNat)
  case atStart => exact ⟨0, Nat.zero_le _, rfl, rfl, HN0⟩
  case round =>
    obtain ⟨k, hk, rfl, rfl, hN⟩ := hrel
    have HNEW : Hid (OwnG txLay 9 (w.alloc (.cells #[.string (str s)] 9)).drew w.heap.size (.slice (some ⟨w.heap.size, 0, none⟩) 1 1) [s]) := OwnG.new w [s] (by simp) (by simp [maxLen])
    by_cases hlt : k < l.length
    · have b0 : (0 : Int) ≤ (k : Int) := by omega
      have b1 : (k : Int) < (l.length : Int) := by omega
      obtain ⟨ad, x, rfl, hab, hx, q0⟩ := txs_at HL.out hlt
      have HX := Lib.hid hx
      have hq := ltT_str x s
      have hq2 := eqT_str x s
      by_cases hxs : x < s
      · have HF : Hid (∀ i x, i < k + 1 → l[i]? = some x → x < s) := fun i y hi hy => by
          rcases Nat.lt_succ_iff_lt_or_eq.1 hi with h' | h'
          · exact hN.out i y h' hy
          · subst h'; rw [HX.out] at hy; injection hy with hy; subst hy; exact hxs
        rw [decide_eq_true hxs] at hq
        clear hxs hx hq2
        go_wp2_with fail
        go_roundw
        case rel => exact ⟨k + 1, by omega, by go_num, by first | rfl | trivial, HF⟩
        case measure => simp [intOf]; omega
      · have HP : Hid (putG (fun a b : Tx => a < b) l s = if l[k]? = some s then l else l.take k ++ s :: l.drop k) := putG_at (by omega) hN.out (fun y hy => by rw [HX.out] at hy; injection hy with hy; subst hy; exact hxs)
        rw [decide_eq_false hxs] at hq
        by_cases he : x = s
        · have HP2 : Hid (putG (fun a b : Tx => a < b) l s = l) := by show _ = _; rw [HP.out, if_pos (by rw [HX.out, he])]
          rw [decide_eq_true he] at hq2
          clear he hx hxs
          go_wp2_with fail
          go_ret
          exact ⟨_, rfl, by rw [HP2.out]; exact HO.out, Below.refl _ _⟩
        · have HP2 : Hid (putG (fun a b : Tx => a < b) l s = l.take k ++ ([s] ++ l.drop k)) := by show _ = _; rw [HP.out, if_neg (by rw [HX.out]; intro e; injection e with e; exact he e)]; rfl
          rw [decide_eq_false he] at hq2
          clear he hx hxs
          have b2 : (k : Int) ≤ (l.length : Int) := by omega
          have b3 : (k : Int) ≤ (c : Int) := by omega
          go_wp2_with fail
          obtain ⟨had1, had2, had3, had4⟩ := HAD.out ad rfl
          obtain ⟨g, rfl⟩ : ∃ g, ad = ⟨g, 0, none⟩ := ⟨_, had4⟩
          have hck : ¬ c = k := by omega
          have HD : Hid (∀ j u, (txLay.all (l.drop k))[j]? = some u → (w.alloc (.cells #[.string (str s)] 9)).drew.cell? ((⟨g, k, none⟩ : Addr).add j) = some u) := fun j u hj => by
            have := (HL.out.below (((Below.refl _ w).alloc (Nat.le_refl _) (.cells #[.string (str s)] 9)).drew)).drop hk
            rw [show txLay.sz = 1 from rfl, Nat.mul_one, add_g0] at this
            exact this.cells _ rfl j u hj
          have hld : (l.drop k).length = l.length - k := List.length_drop ..
          clear q0 hN HP HX HAD had4 hno
          go_region_law (first
            | (refine step_appendO txTy rfl (.tmp 38) (.tmp 41) (by rfl) w.heap.size (.slice (some ⟨w.heap.size, 0, none⟩) 1 1) [s] (l.drop k) (by rfl) HNEW.out ⟨g, k, none⟩ (l.length - k) (c - k) (by simp [Act.eval]) hld HD.out (by simp; omega) (by simp) ?_
               intro v1 w1 ho1 hg1 _
               have hbw1 := Lib.hid (put_below _ hg1 rfl)
               obtain ⟨g1, c1, hv1, _, _, _, _, hs1⟩ := ho1.some (by simp) (by simp [maxLen]; omega)
               subst hv1
               have HS1 := Lib.hid hs1
               have hl1 : ([s] ++ l.drop k).length = l.length - k + 1 := by simp
               have HR1 : Hid (SlAt txLay w1 w1.heap.size (some ⟨g, 0, none⟩) k (l.take k)) := ((HL.out.take hk).below hbw1.out).wide hbw1.out.size
               clear ho1 hg1 hs1)
            | (refine step_appendN txTy rfl (.tmp 36) (.tmp 42) (by rfl) w1.heap.size (some ⟨g, 0, none⟩) k k (l.take k) ([s] ++ l.drop k) (by rfl) (by intro h; cases h) HR1.out ⟨g1, 0, none⟩ (l.length - k + 1) c1 (by rfl) hl1 (HS1.out.cells _ rfl) (by omega) (by omega) ?_
               intro v2 w2 ho2 hg2
               have HO2 := Lib.hid ho2
               have HG2 := Lib.hid hg2
               clear ho2 hg2))
          go_wp2_with fail
          go_ret
          exact ⟨_, rfl, by rw [HP2.out]; exact HO2.out.base_le (by have := hbw1.out.size; omega), hbw1.out.trans ((Below.refl _ w1).grown HG2.out (Nat.le_refl _) (fun k hk => by cases hk) |>.mono hbw1.out.size)⟩
    · obtain rfl : k = l.length := by omega
      have HP2 : Hid (putG (fun a b : Tx => a < b) l s = l.take l.length ++ ([s] ++ l.drop l.length)) := by
        show _ = _
        rw [putG_at (Nat.le_refl _) hN.out (fun y hy => by simp at hy), if_neg (by simp)]; rfl
      go_wp2_with fail
      have HNC : Hid (∀ j u, (txLay.all [s])[j]? = some u → (w.alloc (.cells #[.string (str s)] 9)).drew.cell? ((⟨w.heap.size, 0, none⟩ : Addr).add j) = some u) := fun j u hj => by
        obtain ⟨g, c, e, _, _, _, _, hs⟩ := HNEW.out.some (by simp) (by simp [maxLen])
        injection e with e1 e2 e3
        injection e1 with e1
        injection e1 with e1
        rw [e1]
        exact hs.cells _ rfl j u hj
      have HBW : Hid (Below w.heap.size w (w.alloc (.cells #[.string (str s)] 9)).drew) := ((Below.refl _ w).alloc (Nat.le_refl _) _).drew
      cases A with
      | none =>
        obtain rfl : c = 0 := hno rfl
        have hl0 : l.length = 0 := by omega
        have HT : Hid (SlAt txLay (w.alloc (.cells #[.string (str s)] 9)).drew (w.alloc (.cells #[.string (str s)] 9)).drew.heap.size none 0 (l.take l.length)) := by
          have : l = [] := List.eq_nil_of_length_eq_zero hl0
          subst this
          exact SlAt.none_
        go_region_law (first | (refine step_appendN txTy rfl (.tmp 36) (.tmp 42) (by rfl) (w.alloc (.cells #[.string (str s)] 9)).drew.heap.size none 0 0 (l.take l.length) [s] (by rfl) (fun _ => ⟨rfl, rfl⟩) HT.out ⟨w.heap.size, 0, none⟩ 1 1 (by rfl) rfl HNC.out (by omega) (by omega) ?_; intro v2 w2 ho2 hg2; have HO2 := Lib.hid ho2; have HG2 := Lib.hid hg2; clear ho2 hg2) | fail)
        go_wp2_with fail
        go_ret
        refine ⟨_, rfl, ?_, HBW.out.trans (((Below.refl _ _).grown HG2.out (Nat.le_refl _) (fun k hk => by cases hk)).mono HBW.out.size)⟩
        have : l = [] := List.eq_nil_of_length_eq_zero hl0
        subst this
        exact HO2.out.base_le (by have := HBW.out.size; omega)
      | some ad =>
        obtain ⟨had1, had2, had3, had4⟩ := HAD.out ad rfl
        obtain ⟨g, rfl⟩ : ∃ g, ad = ⟨g, 0, none⟩ := ⟨_, had4⟩
        have b2 : (l.length : Int) ≤ (c : Int) := by omega
        have b0 : (0 : Int) ≤ (l.length : Int) := by omega
        have HT : Hid (SlAt txLay (w.alloc (.cells #[.string (str s)] 9)).drew (w.alloc (.cells #[.string (str s)] 9)).drew.heap.size (some ⟨g, 0, none⟩) l.length (l.take l.length)) := ((HL.out.take (Nat.le_refl _)).below HBW.out).wide HBW.out.size
        have HD : l.drop l.length = [] := List.drop_of_length_le (Nat.le_refl _)
        clear had4 hno HAD
        by_cases hck : c = l.length
        · go_region_law (first | (refine step_appendN txTy rfl (.tmp 36) (.tmp 42) (by rfl) (w.alloc (.cells #[.string (str s)] 9)).drew.heap.size (some ⟨g, 0, none⟩) l.length l.length (l.take l.length) [s] (by rfl) (by intro h; cases h) HT.out ⟨w.heap.size, 0, none⟩ 1 1 (by rfl) rfl HNC.out (by omega) (by omega) ?_; intro v2 w2 ho2 hg2; have HO2 := Lib.hid ho2; have HG2 := Lib.hid hg2; clear ho2 hg2) | fail)
          go_wp2_with fail
          go_ret
          refine ⟨_, rfl, ?_, HBW.out.trans (((Below.refl _ _).grown HG2.out (Nat.le_refl _) (fun k hk => by cases hk)).mono HBW.out.size)⟩
          rw [HP2.out, HD]
          exact HO2.out.base_le (by have := HBW.out.size; omega)
        · go_region_law (first | (refine step_appendN txTy rfl (.tmp 36) (.tmp 42) (by rfl) (w.alloc (.cells #[.string (str s)] 9)).drew.heap.size (some ⟨g, 0, none⟩) l.length l.length (l.take l.length) [s] (by rfl) (by intro h; cases h) HT.out ⟨w.heap.size, 0, none⟩ 1 1 (by rfl) rfl HNC.out (by omega) (by omega) ?_; intro v2 w2 ho2 hg2; have HO2 := Lib.hid ho2; have HG2 := Lib.hid hg2; clear ho2 hg2) | fail)
          go_wp2_with fail
          go_ret
          refine ⟨_, rfl, ?_, HBW.out.trans (((Below.refl _ _).grown HG2.out (Nat.le_refl _) (fun k hk => by cases hk)).mono HBW.out.size)⟩
          rw [HP2.out, HD]
          exact HO2.out.base_le (by have := HBW.out.size; omega)
end Go.Proofs.YtcoepioahabbdaaGreat
