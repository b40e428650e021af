/- The walk of the document's May: a map of the paths that were seen. The walk of the document's Links. -/
import Derived.Test.YthodbeeglkedcaaGreatDzax
import Derived.Maps.Own
import Derived.Maps.OwnOps
import Derived.Maps.OwnSet
import Derived.Maps.Views
import Derived.Maps.StringElems
namespace Go.Proofs.YthodbeeglkedcaaGreat
open Go.RowKit Go.WideMaps Go.Maps
theorem keyLawS : Keyed Tryz.prog 9 := string_keyed Tryz.underlying9
theorem zeroBoolS (w : World) : (zeroValue 4).run Tryz.prog w = .ok (.bool false) w := by kernel_rfl
theorem plainElem_bool_invS {P : Program} {e : TypeId} (he : P.underlying e = some .bool) {v : Value} {z : DataW Unit × List MemPlace} (h : plainElem P e v = some z) : ∃ b : Bool, v = .bool b ∧ z = (.lit (.bool b), []) := by
  unfold plainElem at h
  rw [he] at h
  cases v <;> simp at h
  exact ⟨_, rfl, h.symm⟩
def MapS (w : World) (b n : Nat) (f : List UInt8 → Bool) : Prop :=
  ∃ D : DataW Unit, w.ownsMap Tryz.prog 9 (plainElem Tryz.prog 4) b n D ∧ ∀ p, p.length ≤ maxLen → D.atKey (.string p) (.lit (.bool false)) = .lit (.bool (f p))
theorem MapS.lt {w : World} {b n : Nat} {f : List UInt8 → Bool} (h : MapS w b n f) : b < w.heap.size := by
  obtain ⟨D, h, _⟩ := h
  exact h.lt
theorem MapS.kept {w w' : World} {b n : Nat} {f : List UInt8 → Bool} {row : Option Nat} (h : MapS w b n f) (hg : w.grownBy w' row) (hne : some b ≠ row) : MapS w' b n f := by
  obtain ⟨D, h, k⟩ := h
  exact ⟨D, h.kept hg hne, k⟩
theorem MapS.below {w w' : World} {b n : Nat} {f : List UInt8 → Bool} (h : MapS w b n f) (hb : Below w.heap.size w w') : MapS w' b n f := h.kept (only_of_below hb none) (by simp)
theorem MapS.same {w : World} {b n : Nat} {f g : List UInt8 → Bool} (h : MapS w b n f) (e : ∀ p, f p = g p) : MapS w b n g := by
  obtain ⟨D, h, k⟩ := h
  exact ⟨D, h, fun p hp => by rw [k p hp, e p]⟩
theorem mapS_made (w : World) : MapS (w.alloc (.map #[] 0)) w.heap.size 0 (fun _ => false) := ⟨.map [], World.ownsMap_made _ _ _ _, fun _ _ => rfl⟩
set_option maxRecDepth 100000 in
theorem wpList_lookS {w : World} {ops : Array Oper} {rest : List Oper} {o : Oper} {a : Act} {Q : Exit → Act → World → Prop}
    (hg : o.guard = none) (m x : Operand) (hop : o.op = Op.lookup 52 m x false) (b n : Nat) (f : List UInt8 → Bool)
    (hm : a.eval m = .map (some b)) (h : MapS w b n f) (p : List UInt8) (hp : p.length ≤ maxLen) (hx : a.eval x = .string (str p)) (c : Bool) (hc : f p = c)
    (hK : wpList Tryz.prog ops Q rest (a.put o.dst (.bool c)) w) :
    wpList Tryz.prog ops Q (o :: rest) a w := by
  refine wpList_plain hg fun K' hK' => ?_
  obtain ⟨D, hD, hat⟩ := h
  have hkey : keyOf Tryz.prog 9 (.string (str p)) = some (.string p) := keyOf_string_mk Tryz.underlying9 hp
  obtain ⟨v, ps, hrun, hv⟩ := hD.lookup keyLawS Tryz.underlying52 (zeroBoolS _) (plainElem_bool Tryz.underlying4 false) hkey
  obtain ⟨d, rfl, hd⟩ := plainElem_bool_invS Tryz.underlying4 hv
  simp only [Prod.mk.injEq] at hd
  have hd' := hd.1
  rw [hat p hp, hc] at hd'
  have hcf : d = c := by
    injection hd' with h1
    injection h1 with h1
    exact h1.symm
  subst hcf
  unfold Oper.wp
  simp [execOp, hop, hm, hx, hrun, Result.andThen]
  exact hK' _ _ hK
theorem wpList_markS {w : World} {ops : Array Oper} {rest : List Oper} {o : Oper} {a : Act} {Q : Exit → Act → World → Prop}
    (hg : o.guard = none) (m x v : Operand) (hop : o.op = Op.mapUpdate 52 m x v) (b n : Nat) (f : List UInt8 → Bool)
    (hm : a.eval m = .map (some b)) (h : MapS w b n f) (hn : n < maxLen) (p : List UInt8) (hp : p.length ≤ maxLen) (hx : a.eval x = .string (str p)) (hv : a.eval v = .bool true)
    (hK : ∀ w', MapS w' b (n + 1) (fun q => decide (p = q) || f q) → w.grownBy w' (some b) → wpList Tryz.prog ops Q rest (a.put o.dst undef) w') :
    wpList Tryz.prog ops Q (o :: rest) a w := by
  obtain ⟨D, hD, hat⟩ := h
  have hkey : keyOf Tryz.prog 9 (.string (str p)) = some (.string p) := keyOf_string_mk Tryz.underlying9 hp
  refine wpList_mapUpdate_own w hg m x v 52 hop 9 4 keyLawS Tryz.underlying52 (plainElem Tryz.prog 4) b n D hm hD hn (.string (str p)) (.bool true) (.string p) hx hv hkey (.lit (.bool true)) [] (plainElem_bool Tryz.underlying4 true) ?_
  intro w' h1 h2
  refine hK w' ⟨_, h1, fun q hq => ?_⟩ h2
  by_cases e : p = q
  · subst e
    rw [atKey_put_same hD.isMap (by trivial)]
    simp
  · rw [atKey_put_other (by intro h; injection h with h; exact e h.symm), hat q hq]
    simp [e]
def seenF (l : List Fi) (k : Nat) (p : List UInt8) : Bool := (l.take k).any (fun f => decide (f.p = p))
def mayTo (l : List Fi) (k : Nat) : Prop := (∀ f ∈ l.take k, mayF nmsP f = true) ∧ ((l.take k).map (·.p)).Nodup
theorem mayTo_zero (l : List Fi) : mayTo l 0 := ⟨by simp, by simp⟩
theorem take_one {l : List Fi} {k : Nat} {x : Fi} (hx : l[k]? = some x) : k < l.length ∧ l.take (k + 1) = l.take k ++ [x] := by
  have hk : k < l.length := by
    rcases Nat.lt_or_ge k l.length with h' | h'
    · exact h'
    · rw [List.getElem?_eq_none h'] at hx; cases hx
  have he : l[k] = x := by rw [List.getElem?_eq_getElem hk] at hx; exact Option.some.inj hx
  exact ⟨hk, by rw [List.take_succ_eq_append_getElem hk, he]⟩
theorem seen_iff {l : List Fi} {k : Nat} {p : List UInt8} : seenF l k p = true ↔ p ∈ (l.take k).map (·.p) := by
  unfold seenF
  rw [List.any_eq_true, List.mem_map]
  simp
theorem seen_succ {l : List Fi} {k : Nat} {x : Fi} (hx : l[k]? = some x) (p : List UInt8) : (decide (x.p = p) || seenF l k p) = seenF l (k + 1) p := by
  unfold seenF
  rw [(take_one hx).2, List.any_append, Bool.or_comm]
  simp
theorem mayTo_succ {l : List Fi} {k : Nat} {x : Fi} (h : mayTo l k) (hx : l[k]? = some x) (hs : seenF l k x.p = false) (hm : mayF nmsP x = true) : mayTo l (k + 1) := by
  unfold mayTo
  rw [(take_one hx).2]
  refine ⟨fun f hf => ?_, ?_⟩
  · rcases List.mem_append.1 hf with hf | hf
    · exact h.1 f hf
    · rw [List.mem_singleton.1 hf]; exact hm
  · rw [List.map_append, List.nodup_append]
    refine ⟨h.2, by simp, fun a ha b hb e => ?_⟩
    simp at hb
    rw [e, hb] at ha
    rw [seen_iff.2 ha] at hs
    cases hs
theorem may_seen {l : List Fi} {k : Nat} {x : Fi} (hx : l[k]? = some x) (hs : seenF l k x.p = true) : mayL nmsP l = false := by
  rcases hm : mayL nmsP l with _ | _
  · rfl
  · exfalso
    have hn := (may_parts.1 hm).2.2
    have h1 := (take_one hx).2
    rw [← List.take_append_drop (k + 1) l, h1, List.map_append, List.map_append, List.nodup_append, List.nodup_append] at hn
    exact hn.1.2.2 _ (seen_iff.1 hs) x.p (by simp) rfl
theorem may_bad {l : List Fi} {k : Nat} {x : Fi} (hx : l[k]? = some x) (hs : mayF nmsP x = false) : mayL nmsP l = false := by
  rcases hm : mayL nmsP l with _ | _
  · rfl
  · rw [(may_parts.1 hm).2.1 x (List.mem_of_getElem? hx)] at hs; cases hs
theorem may_long {l : List Fi} (h : 120 < l.length) : mayL nmsP l = false := by
  unfold mayL
  rw [decide_eq_false (by omega)]; rfl
theorem may_all {l : List Fi} {k : Nat} (h : l.length ≤ 120) (hk : l.length ≤ k) (ht : mayTo l k) : mayL nmsP l = true := by
  unfold mayTo at ht
  rw [List.take_of_length_le hk] at ht
  exact may_parts.2 ⟨h, ht.1, ht.2⟩
set_option maxHeartbeats 8000000 in
theorem May_any (A : Option Addr) (n c B : Nat) (l : List Fi) (w : World) (h : FisAt w B A n l) (hB : B ≤ w.heap.size) (hs : ∀ x ∈ l, SizeF x) :
    Calls Tryz.prog 9 #[.slice A n c] w fun e w' => e = .returned (.bool (mayL nmsP l)) ∧ Below w.heap.size w w' := by
  have hl := h.1
  have HL := Lib.hid h
  have HS := Lib.hid hs
  clear h hs
  by_cases h120 : 120 < n
  · have HV := Lib.hid (may_long (l := l) (by omega))
    have t1 : (120 : Int) < (n : Int) := by omega
    clear h120
    go_enter Tryz.func9, Tryz.ntmps9
    go_wp2_with fail
    go_ret
    exact ⟨ret_bool HV.out.symm, Below.refl _ _⟩
  have t1 : (n : Int) ≤ 120 := by omega
  have u1 : (0 : Nat) ≤ 1 := Nat.zero_le _
  have HM0 : Hid (MapS (w.alloc (.map #[] 0)) w.heap.size 0 (seenF l 0)) := (mapS_made w).same (fun p => rfl)
  have HB0 : Hid (Below w.heap.size w (w.alloc (.map #[] 0))) := (Below.refl _ w).alloc (Nat.le_refl _) _
  have HT0 := Lib.hid (mayTo_zero l)
  have hmm := @run_makeMap Tryz.prog
  go_enter Tryz.func9, Tryz.ntmps9
  go_wp2_with fail
  go_loopw [12] (fun i wr => ∃ k : Nat, k ≤ n ∧ i = .int .i64 k ∧ Hid (Below w.heap.size w wr) ∧ Hid (MapS wr w.heap.size k (seenF l k)) ∧ Hid (mayTo l k)) (fun i wr => n - (intOf i).toNat)
  case atStart => exact ⟨0, Nat.zero_le _, rfl, HB0, HM0, HT0⟩
  case round =>
    obtain ⟨k, hk, rfl, hb, hM, hT⟩ := hrel
    have hMl := hM.out.lt
    by_cases hlt : k < n
    · have b0 : (0 : Int) ≤ (k : Int) := by omega
      have b1 : (k : Int) < (n : Int) := by omega
      obtain ⟨ad, x, rfl, hab, hx, q0, q1, q2⟩ := (HL.out.below (hb.out.mono hB)).at_ hlt
      have z1 : (ad.add (k * 3)).block < wr.heap.size := by rw [block_addR]; have := hb.out.size; omega
      have hsx := HS.out x (List.mem_of_getElem? hx)
      have hpl : x.p.length ≤ maxLen := by unfold maxLen; have := hsx.1; omega
      have HX := Lib.hid hx
      have HC := Lib.hid (fun W => mayFile_any x hsx W)
      clear hx hsx
      have HM1 : Hid (MapS (wr.alloc (.cells #[.string (str x.p), .string (str x.t), .string (str x.l)] 34)) w.heap.size k (seenF l k)) := hM.out.below ((Below.refl _ wr).alloc (Nat.le_refl _) _)
      have HB1 : Hid (Below w.heap.size w (wr.alloc (.cells #[.string (str x.p), .string (str x.t), .string (str x.l)] 34))) := hb.out.alloc hb.out.size _
      have HK1 : Hid (Blk (wr.alloc (.cells #[.string (str x.p), .string (str x.t), .string (str x.l)] 34)) wr.heap.size 34 (fiA x)) := Blk.new wr _ _
      rcases hse : seenF l k x.p with _ | _
      · rcases hme : mayF nmsP x with _ | _
        · have HV := Lib.hid (may_bad HX.out hme)
          rw [hme] at HC
          clear hme
          go_wp2_with (first | (refine wpList_lookS rfl (.tmp 16) (.tmp 18) rfl w.heap.size k (seenF l k) rfl HM1.out x.p hpl rfl false hse ?_) | (go_at_call 27; refine (HC.out _).mono ?_; rintro e2 w2 ⟨rfl, hb2⟩))
          go_ret
          exact ⟨ret_bool HV.out.symm, more3 HB1.out HB1.out.size hb2⟩
        · have HT1 := Lib.hid (mayTo_succ hT.out HX.out hse hme)
          rw [hme] at HC
          clear hme
          have HSN := Lib.hid (fun p => seen_succ HX.out p)
          have hkm : k < maxLen := by unfold maxLen; omega
          go_wp2_with (first | (refine wpList_lookS rfl (.tmp 16) (.tmp 18) rfl w.heap.size k (seenF l k) rfl HM1.out x.p hpl rfl false hse ?_) | (go_at_call 27; refine (HC.out _).mono ?_; rintro e2 w2 ⟨rfl, hb2⟩; have q02 : w2.cell? ⟨wr.heap.size, 0, none⟩ = some (.string (str x.p)) := (HK1.out.below hb2 HK1.out.lt).cell 0; have HM2 := Lib.hid (HM1.out.below hb2); have HB2 := Lib.hid (more3 HB1.out HB1.out.size hb2)) | (refine wpList_markS rfl (.tmp 25) (.tmp 27) (.const (.bool true)) rfl w.heap.size k (seenF l k) rfl HM2.out hkm x.p hpl rfl rfl ?_; intro w3 hM3 hg3))
          have HM3 : Hid (MapS w3 w.heap.size (k + 1) (seenF l (k + 1))) := hM3.same HSN.out
          have HB3 : Hid (Below w.heap.size w w3) := below_only HB2.out hg3 (Nat.le_refl _) HB2.out.size
          clear hM3 hg3
          go_wp2_with fail
          go_roundw
          case rel => exact ⟨k + 1, by omega, by go_num, HB3, HM3, HT1⟩
          case measure => simp [intOf]; omega
      · have HV := Lib.hid (may_seen HX.out hse)
        clear HC
        go_wp2_with (refine wpList_lookS rfl (.tmp 16) (.tmp 18) rfl w.heap.size k (seenF l k) rfl HM1.out x.p hpl rfl true hse ?_)
        go_ret
        exact ⟨ret_bool HV.out.symm, HB1.out⟩
    · obtain rfl : k = n := by omega
      have HV := Lib.hid (may_all (l := l) (by omega) (by omega) hT.out)
      clear hlt
      go_wp2_with fail
      go_ret
      exact ⟨ret_bool HV.out.symm, hb.out⟩
end Go.Proofs.YthodbeeglkedcaaGreat
namespace Go.Proofs.YthodbeeglkedcaaGreat
open Go.RowKit
theorem addGo_len (s : List UInt8) (put : Bool) (l : List (List UInt8)) : (addGo s put l).length ≤ l.length + (if put = true then 0 else 1) := by
  induction l generalizing put with
  | nil => cases put <;> simp [addGo]
  | cons y l ih =>
    rw [addGo, List.length_append, List.length_append]
    by_cases h : s < y ∨ s = y
    · have := ih true
      have e : (put || decide (s < y ∨ s = y)) = true := by simp [h]
      rw [e]
      simp at this
      cases put <;> simp [h] <;> split <;> simp <;> omega
    · have := ih put
      have e : (put || decide (s < y ∨ s = y)) = put := by simp [h]
      rw [e]
      cases put <;> simp [h] at this ⊢ <;> split <;> simp <;> omega
theorem addL_len (l : List (List UInt8)) (s : List UInt8) : (addL l s).length ≤ l.length + 1 := addGo_len s false l
theorem links_no {k : Int} {l : List Fi} {u : List UInt8} (h : mayL nmsP l = false) : linksL nmsP k l u = [] := by
  unfold linksL
  rw [if_neg (by rw [h]; simp)]
theorem takeL_len (q : Wy → Bool) (l : List Fi) (a : List (List UInt8)) : (takeL q nmsP a l).length ≤ a.length + l.length := by
  induction l generalizing a with
  | nil => simp [takeL]
  | cons f l ih =>
    have e : takeL q nmsP a (f :: l) = takeL q nmsP (if q (pathW nmsP f.p) = true then addL a (pathW nmsP f.p).o else a) l := rfl
    rw [e]
    have h1 := ih (if q (pathW nmsP f.p) = true then addL a (pathW nmsP f.p).o else a)
    have h2 : (if q (pathW nmsP f.p) = true then addL a (pathW nmsP f.p).o else a).length ≤ a.length + 1 := by
      split
      · exact addL_len _ _
      · omega
    rw [List.length_cons]
    omega
theorem takeL_succ {q : Wy → Bool} {l : List Fi} {k : Nat} {x : Fi} (hx : l[k]? = some x) : takeL q nmsP [] (l.take (k + 1)) = if q (pathW nmsP x.p) = true then addL (takeL q nmsP [] (l.take k)) (pathW nmsP x.p).o else takeL q nmsP [] (l.take k) := by
  rw [(take_one hx).2]
  unfold takeL
  rw [List.foldl_append]
  rfl
def RowOut (w' : World) (v : Value) (l : List (List UInt8)) : Prop := ∃ A c, v = .slice A l.length c ∧ RowAt w' w'.heap.size A l.length l
theorem rowOut_nil (w : World) : RowOut w (.slice none 0 0) [] := ⟨none, 0, rfl, RowAt.none_⟩
def LinksP (l : List Fi) (u : List UInt8) (w : World) (e : Ending) (w' : World) : Prop := ∃ v1 v2, e = .returned (.tuple #[v1, v2]) ∧ RowOut w' v1 (linksL nmsP 3 l u) ∧ RowOut w' v2 (linksL nmsP 4 l u) ∧ Below w.heap.size w w'
theorem addP_row {l : List (List UInt8)} {s : List UInt8} {w : World} {e : Ending} {w' : World} (h : AddPost l s w e w') (hl : l.length ≤ 1000000) : ∃ A c, e = .returned (.slice A (addL l s).length c) ∧ RowAt w' w'.heap.size A (addL l s).length (addL l s) ∧ Below w.heap.size w w' := by
  obtain ⟨v, rfl, ho, hb⟩ := h
  obtain ⟨A, c, rfl, hr⟩ := own_row ho (by unfold maxLen; have := addL_len l s; omega)
  exact ⟨A, c, rfl, hr, hb⟩
theorem path_short (x : Fi) (h : SizeF x) (W : World) : Calls Tryz.prog 42 #[.string (str x.p)] W fun e w' => e = .returned (.agg (wyA (pathW nmsP x.p))) ∧ Below W.heap.size W w' := by
  have := Path_any (str x.p) (by rw [str_size]; exact h.1) W
  unfold PathP at this
  rw [str_list] at this
  exact this
end Go.Proofs.YthodbeeglkedcaaGreat
