/- The walk of GraphOwn. -/
import Derived.Test.YtcoepioahabbdaaGreatGybq
import Derived.Test.YtcoepioahabbdaaGreatGybt
import Derived.Test.YtcoepioahabbdaaGreatGyad
namespace Go.Proofs.YtcoepioahabbdaaGreat
open Go.RowKit Go.WideMaps Go.Maps
def seenF (l : List LdR) : Tx → Option Value := fun p => if kT p ≠ 0 ∧ ∃ r ∈ l, r.x.n = p then some (.bool true) else none
theorem seenF_all {l : List LdR} {p : Tx} (h1 : kT p ≠ 0) (h2 : ∃ r ∈ l, r.x.n = p) : seenF l p = some (.bool true) := if_pos ⟨h1, h2⟩
theorem mem_take_succ {α : Type} {l : List α} {k : Nat} {r z : α} (hx : l[k]? = some r) : z ∈ l.take (k + 1) ↔ z ∈ l.take k ∨ z = r := by
  rw [List.take_add_one, hx]
  simp
theorem seenF_same {L : List LdR} {k : Nat} {r : LdR} (hx : L[k]? = some r) (h : kT r.x.n = 0 ∨ seenF (L.take k) r.x.n = some (.bool true)) (p : Tx) : seenF (L.take k) p = seenF (L.take (k + 1)) p := by
  have hi : (kT p ≠ 0 ∧ ∃ z ∈ L.take k, z.x.n = p) ↔ (kT p ≠ 0 ∧ ∃ z ∈ L.take (k + 1), z.x.n = p) := by
    refine ⟨fun ⟨a, z, hz, e⟩ => ⟨a, z, (mem_take_succ hx).2 (.inl hz), e⟩, fun ⟨a, z, hz, e⟩ => ?_⟩
    rcases (mem_take_succ hx).1 hz with hz | hz
    · exact ⟨a, z, hz, e⟩
    · subst hz
      subst e
      rcases h with h | h
      · exact absurd h a
      · unfold seenF at h
        by_cases c : kT z.x.n ≠ 0 ∧ ∃ y ∈ L.take k, y.x.n = z.x.n
        · exact c
        · rw [if_neg c] at h; cases h
  unfold seenF
  by_cases c : kT p ≠ 0 ∧ ∃ z ∈ L.take k, z.x.n = p
  · rw [if_pos c, if_pos (hi.1 c)]
  · rw [if_neg c, if_neg (fun d => c (hi.2 d))]
theorem seenF_put {L : List LdR} {k : Nat} {r : LdR} (hx : L[k]? = some r) (h : kT r.x.n ≠ 0) (p : Tx) : putV (seenF (L.take k)) r.x.n (.bool true) p = seenF (L.take (k + 1)) p := by
  unfold putV
  by_cases e : r.x.n = p
  · subst e
    rw [if_pos rfl, seenF_all h ⟨r, (mem_take_succ hx).2 (.inr rfl), rfl⟩]
  · rw [if_neg e]
    unfold seenF
    by_cases c : kT p ≠ 0 ∧ ∃ z ∈ L.take k, z.x.n = p
    · obtain ⟨a, z, hz, e2⟩ := c
      rw [if_pos ⟨a, z, hz, e2⟩, if_pos ⟨a, z, (mem_take_succ hx).2 (.inl hz), e2⟩]
    · rw [if_neg c, if_neg]
      rintro ⟨a, z, hz, e2⟩
      rcases (mem_take_succ hx).1 hz with hz | hz
      · exact c ⟨a, z, hz, e2⟩
      · subst hz; exact e e2
theorem seen_first {L : List LdR} {k : Nat} {r : LdR} (hx : L[k]? = some r) (hk : kT r.x.n ≠ 0) (h : seenF (L.take k) r.x.n = none) : firstL' (L.map (·.x)) r.x.n = some r.x := by
  have hno : ∀ z ∈ L.take k, z.x.n ≠ r.x.n := fun z hz e => by
    rw [seenF_all hk ⟨z, hz, e⟩] at h
    cases h
  obtain ⟨hk2, he⟩ := List.getElem?_eq_some_iff.1 hx
  unfold firstL'
  have hs : L = L.take k ++ r :: L.drop (k + 1) := by
    conv => lhs; rw [← List.take_append_drop k L, List.drop_eq_getElem_cons hk2, he]
  rw [hs, List.map_append, List.map_cons, List.find?_append, List.find?_eq_none.2, Option.none_or, List.find?_cons_of_pos]
  · simp
  · intro z hz
    obtain ⟨y, hy, rfl⟩ := List.mem_map.1 hz
    simpa using hno y hy
theorem seenF_bool (L : List LdR) (p : Tx) : seenF L p = none ∨ seenF L p = some (.bool true) := by
  unfold seenF
  by_cases c : kT p ≠ 0 ∧ ∃ z ∈ L, z.x.n = p
  · rw [if_pos c]; exact .inr rfl
  · rw [if_neg c]; exact .inl rfl
structure OnS (w W : World) (B : Nat) (A : Option Addr) (n : Nat) (L : List LdR) (gb : Nat) (g : Array Value) (ns : List Nd) (es : List Ed) (mb m : Nat) (f : Tx → Option Value) : Prop where
  lds : LdsAt W B A n L
  gk : Blk W gb 29 g
  gr : GrAt W mb g ns es
  map : MapV W mb m f
  below : Below w.heap.size w W
  hB : B ≤ w.heap.size
  hw : w.heap.size ≤ mb
  hg : gb < mb
section
variable {w W W' : World} {B : Nat} {A : Option Addr} {n : Nat} {L : List LdR} {gb : Nat} {g : Array Value} {ns : List Nd} {es : List Ed} {mb m : Nat} {f : Tx → Option Value}
theorem OnS.call (h : OnS w W B A n L gb g ns es mb m f) (hb : Below W.heap.size W W') : OnS w W' B A n L gb g ns es mb m f :=
  ⟨h.lds.below (hb.mono (Nat.le_trans h.hB h.below.size)), h.gk.below hb h.gk.lt, h.gr.below (hb.mono (Nat.le_of_lt h.map.lt)), h.map.below hb, more3 h.below h.below.size hb, h.hB, h.hw, h.hg⟩
theorem OnS.put {f' : Tx → Option Value} {m' : Nat} (h : OnS w W B A n L gb g ns es mb m f) (hm : MapV W' mb m' f') (hb : W.grownBy W' (some mb)) : OnS w W' B A n L gb g ns es mb m' f' :=
  have hB : Below mb W W' := grown_below hb (Nat.le_of_lt h.map.lt)
  ⟨h.lds.below (hB.mono (Nat.le_trans h.hB h.hw)), h.gk.below hB h.hg, h.gr.below hB, hm, h.below.trans (hB.mono h.hw), h.hB, h.hw, h.hg⟩
theorem OnS.same {f' : Tx → Option Value} {m' : Nat} (h : OnS w W B A n L gb g ns es mb m f) (hm : m ≤ m') (e : ∀ p, f p = f' p) : OnS w W B A n L gb g ns es mb m' f' :=
  ⟨h.lds, h.gk, h.gr, (h.map.mono hm).same e, h.below, h.hB, h.hw, h.hg⟩
structure OxS (w W : World) (B : Nat) (A : Option Addr) (n : Nat) (L : List LdR) (gb : Nat) (g : Array Value) (ns : List Nd) (es : List Ed) (mb m : Nat) (f : Tx → Option Value) (xb : Nat) (r : LdR) : Prop where
  o : OnS w W B A n L gb g ns es mb m f
  k : Blk W xb 53 r.a
  ne : xb ≠ mb
theorem OxS.call {xb : Nat} {r : LdR} (h : OxS w W B A n L gb g ns es mb m f xb r) (hb : Below W.heap.size W W') : OxS w W' B A n L gb g ns es mb m f xb r := ⟨h.o.call hb, h.k.below hb h.k.lt, h.ne⟩
theorem OxS.put {xb : Nat} {r : LdR} {f' : Tx → Option Value} {m' : Nat} (h : OxS w W B A n L gb g ns es mb m f xb r) (hm : MapV W' mb m' f') (hb : W.grownBy W' (some mb)) : OxS w W' B A n L gb g ns es mb m' f' xb r :=
  ⟨h.o.put hm hb, (hb.block xb h.k.lt (fun e => h.ne (by injection e))).trans h.k, h.ne⟩
end
theorem OnS.eds {w W : World} {B : Nat} {A : Option Addr} {n : Nat} {L : List LdR} {gb : Nat} {N : Value} {EA : Option Addr} {ec : Nat} {ns : List Nd} {es : List Ed} {mb m : Nat} {f : Tx → Option Value} (h : OnS w W B A n L gb #[N, .slice EA es.length ec] ns es mb m f) : SlAt edLay W mb EA es.length es := by
  obtain ⟨NA', nc', EA', ec', he, _, _, _, _, _, h6⟩ := h.gr.form
  have : (Value.slice EA es.length ec) = .slice EA' es.length ec' := by
    have := congrArg (fun a => a[1]?) he
    simpa using this
  injection this with h1 h2 h3
  rw [h1]
  exact h6
theorem rel_row {w : World} {B : Nat} {r : LdR} {RA : Option Addr} {rc : Nat} (h : LdIs w B r) (hra : r.a[9]? = some (.slice RA r.x.rels.length rc)) : SlAt rlLay w B RA r.x.rels.length r.x.rels := by
  obtain ⟨A', c', h1, _, _, h2⟩ := h.rels
  rw [hra] at h1
  injection h1 with h1
  injection h1 with h1 _ _
  rw [h1]
  exact h2
theorem zeroB_run (w : World) : (zeroValue 4).run Tryz.prog w = .ok (.bool false) w := by kernel_rfl
set_option maxRecDepth 10000 in
set_option maxHeartbeats 32000000 in
theorem GraphOwn_any (A : Option Addr) (n c B : Nat) (L : List LdR) (w : World) (hL : LdsAt w B A n L) (hB : B ≤ w.heap.size) (hS : ∀ r ∈ L, Small r.x) :
    Calls Tryz.prog 6 #[.slice A n c] w fun e w' => e = .returned (.bool true) ∧ Below w.heap.size w w' := by
  have hmm := @run_makeMap Tryz.prog
  have HL := Lib.hid hL
  have hLn := hL.row.1
  clear hL
  go_enter Tryz.func6, Tryz.ntmps6
  go_wp2_with fail
  refine (shown15_any _).mono ?_
  rintro e w1 ⟨rfl, hb1⟩
  have HB1 := Lib.hid hb1
  have HL1 := Lib.hid (HL.out.below (hb1.mono hB))
  have hs1 := hb1.size
  clear hb1 HL
  go_wp2_with fail
  refine (sound_any A n c B L w1 HL1.out (by omega) (fun r hr => (hS r hr).n)).mono ?_
  rintro e w2 ⟨r, rfl, hr, hb2⟩
  have HB2 := Lib.hid (more3 HB1.out hs1 hb2)
  have HL2 := Lib.hid (HL1.out.below (hb2.mono (by omega)))
  have hs2 := hb2.size
  have HR := Lib.hid hr
  clear hb2 hr HL1
  cases r with
  | false =>
    go_wp2_with fail
    go_ret
    exact ⟨rfl, HB2.out⟩
  | true =>
    by_cases hn64 : n ≤ 64
    case neg =>
      have z64 : (64 : Int) < (n : Int) := by omega
      go_wp2_with fail
      go_ret
      exact ⟨rfl, HB2.out⟩
    have z64 : decide ((64 : Int) < (n : Int)) = false := decide_eq_false (by omega)
    clear HR
    go_wp2_with fail
    refine (oOf_any A n c B L w2 HL2.out (by omega) hS (by omega)).mono ?_
    rintro e w3 ⟨g1, rfl, hg1, hb3⟩
    have HB3 := Lib.hid (more3 HB2.out (by omega) hb3)
    have HL3 := Lib.hid (HL2.out.below (hb3.mono (by omega)))
    have hs3 := hb3.size
    have hok := ofE_ok (K := kT) (L.map (·.x))
    obtain ⟨ns, hns⟩ : ∃ ns, nodesL kT (L.map (·.x)) = ns := ⟨_, rfl⟩
    obtain ⟨es, hes⟩ : ∃ es, ofE kT (L.map (·.x)) = es := ⟨_, rfl⟩
    rw [hns, hes] at hg1 hok
    clear hns hes
    obtain ⟨NA, nc, EA, ec, rfl, _⟩ := hg1.form
    have HG1 := Lib.hid hg1
    have HOK := Lib.hid hok
    have HES := Lib.hid (may_few hok.may)
    have HOL : Hid (∀ u k, (outG es u k).length ≤ 40960) := fun u k => by have := outP_few es u k es.length; rw [outP_all] at this; have := HES.out; omega
    have HLL : Hid ((L.map (·.x)).length ≤ 64) := by show _ ≤ _; rw [List.length_map]; omega
    clear hb3 hg1 HL2 hok
    have HO0 : Hid (OnS w ((w3.alloc (.cells #[.slice NA ns.length nc, .slice EA es.length ec] 29)).alloc (.map #[] 0)) B A n L w3.heap.size #[.slice NA ns.length nc, .slice EA es.length ec] ns es (w3.heap.size + 1) 0 (seenF (L.take 0))) := by
      have hba : Below w3.heap.size w3 ((w3.alloc (.cells #[.slice NA ns.length nc, .slice EA es.length ec] 29)).alloc (.map #[] 0)) := ((Below.refl _ w3).alloc (Nat.le_refl _) _).alloc (by simp) _
      have h1 := (mapV_made (w3.alloc (.cells #[.slice NA ns.length nc, .slice EA es.length ec] 29))).same (g := seenF (L.take 0)) (fun p => by unfold seenF; simp)
      rw [show (w3.alloc (.cells #[.slice NA ns.length nc, .slice EA es.length ec] 29)).heap.size = w3.heap.size + 1 by simp] at h1
      exact ⟨HL3.out.below (hba.mono (by omega)), (Blk.new w3 _ _).alloc _, (HG1.out.below hba).wide (Nat.le_succ _), h1, more3 HB3.out (by omega) hba, hB, by omega, by omega⟩
    go_wp2_with fail
    obtain ⟨w4, hw4⟩ : ∃ w4, (w3.alloc (.cells #[.slice NA ns.length nc, .slice EA es.length ec] 29)).alloc (.map #[] 0) = w4 := ⟨_, rfl⟩
    rw [hw4] at HO0
    rw [hw4]
    obtain ⟨mb, hmb⟩ : ∃ mb, w3.heap.size + 1 = mb := ⟨_, rfl⟩
    obtain ⟨gb, hgb⟩ : ∃ gb, w3.heap.size = gb := ⟨_, rfl⟩
    have HO4 : Hid (OnS w w4 B A n L gb #[.slice NA ns.length nc, .slice EA es.length ec] ns es mb 0 (seenF (L.take 0))) := by rw [← hgb, ← hmb]; exact HO0.out
    try simp only [hmb]
    try simp only [hgb]
    clear hw4 HO0 HL3 HG1 HB3 HB2 HB1 hs1 hs2 hs3
    go_loopw [28] (fun i wr => ∃ k : Nat, k ≤ n ∧ i = .int .i64 k ∧ Hid (OnS w wr B A n L gb #[.slice NA ns.length nc, .slice EA es.length ec] ns es mb k (seenF (L.take k)))) (fun i wr => n - (intOf i).toNat)
    case atStart => exact ⟨0, Nat.zero_le _, rfl, HO4⟩
    case round =>
      clear HO4
      obtain ⟨k, hk, rfl, hO⟩ := hrel
      by_cases hlt : k < n
      · have b0 : (0 : Int) ≤ (k : Int) := by omega
        have b1 : (k : Int) < (n : Int) := by omega
        obtain ⟨ad, r, rfl, hab, hx, hld⟩ := load_row hO.out.lds.row hlt
        have HLD := Lib.hid (hld wr (Below.refl _ _))
        have hI := hO.out.lds.is r (List.mem_of_getElem? hx)
        have hmem : r ∈ L := List.mem_of_getElem? hx
        have hSr := hS r hmem
        have hnl := hSr.n
        have hsz : (str r.x.n).size ≤ maxLen := by rw [str_size]; exact hnl
        have hmy := fun W => Nm.rMay_any (str r.x.n) hsz W
        rw [kT_good] at hmy
        have HX := Lib.hid hx
        have HNM := Lib.hid hI.name
        have HX0 : Hid (OxS w (wr.alloc (.cells r.a 53)) B (some ad) n L gb #[.slice NA ns.length nc, .slice EA es.length ec] ns es mb k (seenF (L.take k)) wr.heap.size r) :=
          ⟨hO.out.call ((Below.refl _ _).alloc (Nat.le_refl _) _), Blk.new _ _ _, by have := hO.out.map.lt; omega⟩
        have e0 : (wr.alloc (.cells r.a 53)).cell? ⟨wr.heap.size, 0, none⟩ = some (.string (str r.x.n)) := box_cell HX0.out.k hI.name
        have hlk := HX0.out.o.map.look (t := 42) Tryz.underlying42 (zeroB_run _) r.x.n hnl
        clear hx hld
        rcases seenF_bool (L.take k) r.x.n with hsn | hsn
        case inr =>
          have HSN := Lib.hid hsn
          rw [hsn, Option.getD_some] at hlk
          clear hsn hmy
          go_wp2_with (first
            | (refine wpList_load_part rfl 53 (.tmp 30) (by rfl) (ad.add (k * 42)) (by rfl) (.agg r.a) HLD.out ?_)
            | (refine wpList_store_row rfl 53 (.tmp 6) (.tmp 31) (by rfl) wr.heap.size r.a (by rfl) (by rfl) 53 _ (by exact heap_alloc_new _ _) (infoL r) (by rw [r.size]; rfl) r.all ?_
               rw [heap_alloc_setRow])
            | fail)
          go_roundw
          case rel => exact ⟨k + 1, by omega, by go_num, HX0.out.o.same (Nat.le_succ _) (seenF_same HX.out (.inr HSN.out))⟩
          case measure => simp [intOf]; omega
        have HSN := Lib.hid hsn
        rw [hsn, Option.getD_none] at hlk
        clear hsn
        have HFI := Lib.hid (fun h => seen_first HX.out h HSN.out)
        have HIX := Lib.hid hI
        clear hI
        go_wp2_with (first
          | (refine wpList_load_part rfl 53 (.tmp 30) (by rfl) (ad.add (k * 42)) (by rfl) (.agg r.a) HLD.out ?_)
          | (refine wpList_store_row rfl 53 (.tmp 6) (.tmp 31) (by rfl) wr.heap.size r.a (by rfl) (by rfl) 53 _ (by exact heap_alloc_new _ _) (infoL r) (by rw [r.size]; rfl) r.all ?_
             rw [heap_alloc_setRow])
          | fail)
        obtain ⟨xb, hxb⟩ : ∃ xb, wr.heap.size = xb := ⟨_, rfl⟩
        obtain ⟨wx, hwx⟩ : ∃ wx, wr.alloc (.cells r.a 53) = wx := ⟨_, rfl⟩
        rw [hwx, hxb] at HX0
        rw [hwx, hxb]
        clear hwx hxb hlk e0 HLD hO
        refine (hmy _).mono ?_
        rintro e w5 ⟨rfl, hb5⟩
        have HX5 := Lib.hid (HX0.out.call hb5)
        clear HX0 hmy hb5
        by_cases hk0 : kT r.x.n = 0
        · rw [show decide (kT r.x.n ≠ 0) = false by simp [hk0]]
          have HK0 := Lib.hid hk0
          clear hk0
          go_wp2_with fail
          go_roundw
          case rel => exact ⟨k + 1, by omega, by go_num, HX5.out.o.same (Nat.le_succ _) (seenF_same HX.out (.inl HK0.out))⟩
          case measure => simp [intOf]; omega
        rw [show decide (kT r.x.n ≠ 0) = true by simp [hk0]]
        have HK0 := Lib.hid hk0
        clear hk0
        have e0 : w5.cell? ⟨xb, 0, none⟩ = some (.string (str r.x.n)) := box_cell HX5.out.k HNM.out
        go_wp2_with (first
          | (refine wpList_putV rfl (.tmp 42) (.tmp 44) (.const (.bool true)) Tryz.underlying42 rfl mb k (seenF (L.take k)) (by rfl) HX5.out.o.map (by unfold maxLen; omega) r.x.n hnl (.bool true) (by rfl) (by rfl) ?_
             intro w6 hM6 hG6
             have HX6 : Hid (OxS w w6 B (some ad) n L gb #[.slice NA ns.length nc, .slice EA es.length ec] ns es mb (k + 1) (seenF (L.take (k + 1))) xb r) := HX5.out.put (hM6.same (seenF_put HX.out HK0.out)) hG6
             obtain ⟨RA, rc, hra, _, _, hrw⟩ := HIX.out.rels
             have HRA := Lib.hid hra
             have e9 : w6.cell? ⟨xb, 9, none⟩ = some (.slice RA r.x.rels.length rc) := box_cell HX6.out.k hra
             clear hM6 hG6 hrw hra)
          | fail)
        clear e0 e9
        have hra1 := HRA.out
        clear HX5
        have HRL : Hid (∀ q ∈ r.x.rels, q.2.length ≤ maxLen) := hSr.rels
        obtain ⟨nr, hnr⟩ : ∃ nr, r.x.rels.length = nr := ⟨_, rfl⟩
        have hnrm : nr ≤ 1048576 := by have := hSr.rows; omega
        rw [hnr] at HRA hra1
        rw [hnr]
        have HNR := Lib.hid hnr
        clear hnr hra1
        obtain ⟨f2, hf2⟩ : ∃ f2, seenF (L.take (k + 1)) = f2 := ⟨_, rfl⟩
        rw [hf2] at HX6
        have HF2 := Lib.hid hf2
        clear hf2
        go_loopw [49] (fun i wi => ∃ j : Nat, j ≤ nr ∧ i = .int .i64 j ∧ Hid (OxS w wi B (some ad) n L gb #[.slice NA ns.length nc, .slice EA es.length ec] ns es mb (k + 1) f2 xb r)) (fun i wi => nr - (intOf i).toNat)
        case atStart => exact ⟨0, Nat.zero_le _, rfl, HX6⟩
        case round =>
          clear HX6
          obtain ⟨j, hj, rfl, hX⟩ := hrel
          obtain ⟨wi, hren⟩ : ∃ wi, wi = wr := ⟨wr, rfl⟩
          subst hren
          by_cases hlt2 : j < nr
          · have c0 : (0 : Int) ≤ (j : Int) := by omega
            have c1' : (j : Int) < (nr : Int) := by omega
            have hrow := rel_row (hX.out.o.lds.is r hmem) (by rw [HNR.out]; exact HRA.out)
            rw [HNR.out] at hrow
            obtain ⟨ad2, q, rfl, hab2, hq, z0, z1⟩ := rls_at hrow hlt2
            have hql := HRL.out q (List.mem_of_getElem? hq)
            have HQ := Lib.hid hq
            have HXa : Hid (OxS w (wi.alloc (.cells #[.int .i64 q.1, .string (str q.2)] 56)) B (some ad) n L gb #[.slice NA ns.length nc, .slice EA es.length ec] ns es mb (k + 1) f2 xb r) := hX.out.call ((Below.refl _ _).alloc (Nat.le_refl _) _)
            have HQa : Hid (Blk (wi.alloc (.cells #[.int .i64 q.1, .string (str q.2)] 56)) wi.heap.size 56 #[.int .i64 q.1, .string (str q.2)]) := Blk.new _ _ _
            have e0 := HXa.out.o.gk.cell 0
            have e1 := HXa.out.o.gk.cell 1
            have HND := Lib.hid (oNode15_any _ ns es q.2 mb _ HXa.out.o.gr (Nat.le_of_lt HXa.out.o.map.lt))
            rw [nodeV_eq] at HND
            obtain ⟨p, hp⟩ : ∃ p, nodeB ns q.2 = p := ⟨_, rfl⟩
            obtain ⟨a2, ha2⟩ : ∃ a2, (nodeG ns q.2).getD noNd = a2 := ⟨_, rfl⟩
            rw [hp, ha2] at HND
            have HP := Lib.hid hp
            clear hq hrow ha2 hp
            go_wp2_with fail
            obtain ⟨qb, hqb⟩ : ∃ qb, wi.heap.size = qb := ⟨_, rfl⟩
            obtain ⟨wq, hwq⟩ : ∃ wq, wi.alloc (.cells #[.int .i64 q.1, .string (str q.2)] 56) = wq := ⟨_, rfl⟩
            rw [hwq] at HXa HND
            rw [hwq, hqb] at HQa
            rw [hwq, hqb]
            clear hwq hqb e0 e1 z0 z1 hX
            refine HND.out.mono ?_
            rintro e w7 ⟨rfl, hb7⟩
            have hxc := (HXa.out.call hb7).call ((Below.refl _ _).alloc (Nat.le_refl _) (.cells #[.string (str a2.n), .int .i64 a2.k, .int .i64 a2.s] 32))
            have hqc := (HQa.out.below hb7 HQa.out.lt).alloc (.cells #[.string (str a2.n), .int .i64 a2.k, .int .i64 a2.s] 32)
            have f0 := hqc.cell 0
            have f1 := hqc.cell 1
            have f2' : (w7.alloc (.cells #[.string (str a2.n), .int .i64 a2.k, .int .i64 a2.s] 32)).cell? ⟨xb, 0, none⟩ = some (.string (str r.x.n)) := box_cell hxc.k HNM.out
            have f3 : (w7.alloc (.cells #[.string (str a2.n), .int .i64 a2.k, .int .i64 a2.s] 32)).cell? ⟨xb, 1, none⟩ = some (.int .i64 r.x.s) := box_cell hxc.k HIX.out.state
            have HO6 := Lib.hid hxc
            have HQ6 := Lib.hid hqc
            have heq := eqT_str q.2 r.x.n
            clear hb7 hxc hqc HXa HQa HND
            cases p
            case false =>
              go_wp2_with fail
              go_roundw
              case rel => exact ⟨j + 1, by omega, by go_num, HO6⟩
              case measure => simp [intOf]; omega
            by_cases hqn : q.2 = r.x.n
            · rw [decide_eq_true hqn] at heq
              clear hqn
              go_wp2_with fail
              go_roundw
              case rel => exact ⟨j + 1, by omega, by go_num, HO6⟩
              case measure => simp [intOf]; omega
            have HQN := Lib.hid hqn
            rw [decide_eq_false hqn] at heq
            clear hqn
            by_cases h1 : q.1 < 1
            · go_wp2_with fail
              go_roundw
              case rel => exact ⟨j + 1, by omega, by go_num, HO6⟩
              case measure => simp [intOf]; omega
            have H1 : Hid (1 ≤ q.1) := by show _ ≤ _; omega
            have h1b : decide (q.1 < 1) = false := decide_eq_false h1
            by_cases h9 : 9 < q.1
            · go_wp2_with fail
              go_roundw
              case rel => exact ⟨j + 1, by omega, by go_num, HO6⟩
              case measure => simp [intOf]; omega
            have H9 : Hid (q.1 ≤ 9) := by show _ ≤ _; omega
            have h9b : decide (9 < q.1) = false := decide_eq_false h9
            by_cases hs : r.x.s = 1
            case neg =>
              have hsb : (r.x.s != 1) = true := by simpa using hs
              go_wp2_with fail
              go_roundw
              case rel => exact ⟨j + 1, by omega, by go_num, HO6⟩
              case measure => simp [intOf]; omega
            have hsb : (r.x.s != 1) = false := by simpa using hs
            have hany : (outG es r.x.n q.1).any (fun z => decide (z = (str q.2).data.toList)) = true := by
              have hm2 : q.2 ∈ outG es r.x.n q.1 := own_rel HOK.out HLL.out (HFI.out HK0.out) (List.mem_map.2 ⟨r, hmem, rfl⟩) HK0.out hs (List.mem_of_getElem? HQ.out) H1.out H9.out HP.out HQN.out
              exact List.any_eq_true.2 ⟨q.2, hm2, by rw [str_list]; simp⟩
            have HANY := Lib.hid hany
            clear hany hs h1 h9
            go_wp2_with fail
            obtain ⟨w8, hw8⟩ : ∃ w8, w7.alloc (.cells #[.string (str a2.n), .int .i64 a2.k, .int .i64 a2.s] 32) = w8 := ⟨_, rfl⟩
            rw [hw8] at HO6 HQ6
            rw [hw8]
            clear hw8 f0 f1 f2' f3
            refine wp_region_held_drew (S := fun W => OxS w W B (some ad) n L gb #[.slice NA ns.length nc, .slice EA es.length ec] ns es mb (k + 1) f2 xb r ∧ Blk W qb 56 #[.int .i64 q.1, .string (str q.2)]) (by kernel_rfl) ?_ (fun hHeld => ?_)
            · exact ⟨HO6.out.call (Below.refl _ _).drew, HQ6.out.below (Below.refl _ _).drew HQ6.out.lt⟩
            refine wpAnyH_take (i := 0) (v := ?v0_1) rfl (by kernel_rfl) (by kernel_rfl) (by kernel_rfl) (fun _ _ _ h => h) (Or.inl ⟨by rfl, ?hy0_1⟩) (by assumption) ?_
            case hy0_1 => (intro W hSw; have p0 := hSw.1.o.gk.cell 0; have p1 := hSw.1.o.gk.cell 1; (try dsimp only at hSw); go_simp; (try with_reducible rfl))
            try simp only [Act.put, List.getElem_toArray, List.getElem_cons_zero, List.setIfInBounds_toArray, List.set_cons_zero, List.set_cons_succ]
            refine wpAnyH_take (i := 1) (v := ?v1_1) rfl (by kernel_rfl) (by kernel_rfl) (by kernel_rfl) (fun _ _ _ h => h) (Or.inl ⟨by rfl, ?hy1_1⟩) (by assumption) ?_
            case hy1_1 => (intro W hSw; (try dsimp only at hSw); go_simp; (try with_reducible rfl))
            try simp only [Act.put, List.getElem_toArray, List.getElem_cons_zero, List.getElem_cons_succ, List.setIfInBounds_toArray, List.set_cons_zero, List.set_cons_succ]
            refine wpAnyH_take (i := 2) (v := ?v2_1) rfl (by kernel_rfl) (by kernel_rfl) (by kernel_rfl) (fun _ _ _ h => h) (Or.inl ⟨by rfl, ?hy2_1⟩) (by assumption) ?_
            case hy2_1 => (intro W hSw; have p0 : W.cell? ⟨xb, 0, none⟩ = some (.string (str r.x.n)) := box_cell hSw.1.k HNM.out; (try dsimp only at hSw); go_simp; (try with_reducible rfl))
            try simp only [Act.put, List.getElem_toArray, List.getElem_cons_zero, List.getElem_cons_succ, List.setIfInBounds_toArray, List.set_cons_zero, List.set_cons_succ]
            refine wpAnyH_take (i := 3) (v := ?v3_1) rfl (by kernel_rfl) (by kernel_rfl) (by kernel_rfl) (fun _ _ _ h => h) (Or.inl ⟨by rfl, ?hy3_1⟩) (by assumption) ?_
            case hy3_1 => (intro W hSw; (try dsimp only at hSw); go_simp; (try with_reducible rfl))
            try simp only [Act.put, List.getElem_toArray, List.getElem_cons_zero, List.getElem_cons_succ, List.setIfInBounds_toArray, List.set_cons_zero, List.set_cons_succ]
            refine wpAnyH_take (i := 4) (v := ?v4_1) rfl (by kernel_rfl) (by kernel_rfl) (by kernel_rfl) (fun _ _ _ h => h) (Or.inl ⟨by rfl, ?hy4_1⟩) (by assumption) ?_
            case hy4_1 => (intro W hSw; have p0 : W.cell? ⟨qb, 0, none⟩ = some (.int .i64 q.1) := hSw.2.cell 0; (try dsimp only at hSw); go_simp; (try with_reducible rfl))
            try simp only [Act.put, List.getElem_toArray, List.getElem_cons_zero, List.getElem_cons_succ, List.setIfInBounds_toArray, List.set_cons_zero, List.set_cons_succ]
            refine wpAnyH_take (i := 6) (v := ?v6_1) rfl (by kernel_rfl) (by kernel_rfl) (by kernel_rfl) (fun _ _ _ h => h) (Or.inl ⟨by rfl, ?hy6_1⟩) (by assumption) ?_
            case hy6_1 => (intro W hSw; (try dsimp only at hSw); go_simp; (try with_reducible rfl))
            try simp only [Act.put, List.getElem_toArray, List.getElem_cons_zero, List.getElem_cons_succ, List.setIfInBounds_toArray, List.set_cons_zero, List.set_cons_succ]
            refine wpAnyH_take (i := 7) (v := ?v7_1) rfl (by kernel_rfl) (by kernel_rfl) (by kernel_rfl) (fun _ _ _ h => h) (Or.inl ⟨by rfl, ?hy7_1⟩) (by assumption) ?_
            case hy7_1 => (intro W hSw; have p0 : W.cell? ⟨qb, 1, none⟩ = some (.string (str q.2)) := hSw.2.cell 1; (try dsimp only at hSw); go_simp; (try with_reducible rfl))
            try simp only [Act.put, List.getElem_toArray, List.getElem_cons_zero, List.getElem_cons_succ, List.setIfInBounds_toArray, List.set_cons_zero, List.set_cons_succ]
            refine wpAnyH_ready (rs := [5]) (by kernel_rfl) (by simp) ?_
            refine AllReadyH.cons rfl (fun K hK => ?_) AllReadyH.nil
            go_simp
            refine (oOut_any _ ns es r.x.n q.1 mb _ hHeld.1.o.gr (Nat.le_of_lt hHeld.1.o.map.lt) (by have := HES.out; omega)).mono ?_
            intro e wb hp
            obtain ⟨LD, c4, rfl, hs, hb⟩ := put_row hp (by have := HOL.out r.x.n q.1; unfold maxLen; omega)
            have HS4 := Lib.hid hs
            refine hK.out _ _ ?_ (fun hHeld2 => ?_)
            · exact ⟨hHeld.1.call hb, hHeld.2.below hb hHeld.2.lt⟩
            clear hK K hHeld hb hs hp
            have hHeld := hHeld2
            clear hHeld2
            try simp only [Act.put, List.getElem_toArray, List.getElem_cons_zero, List.getElem_cons_succ, List.setIfInBounds_toArray, List.set_cons_zero, List.set_cons_succ]
            refine wpAnyH_ready (rs := [8]) (by kernel_rfl) (by simp) ?_
            refine AllReadyH.cons rfl (fun K hK => ?_) AllReadyH.nil
            go_simp
            refine (Has_any LD _ c4 _ _ (str q.2) _ (txs_row.1 HS4.out)).mono ?_
            rintro e we ⟨he, rfl⟩
            rw [HANY.out] at he
            subst he
            refine hK.out _ _ ?_ (fun hHeld2 => ?_)
            · exact hHeld
            clear hK K hHeld HS4
            have hHeld := hHeld2
            clear hHeld2
            try simp only [Act.put, List.getElem_toArray, List.getElem_cons_zero, List.getElem_cons_succ, List.setIfInBounds_toArray, List.set_cons_zero, List.set_cons_succ]
            refine wpAnyH_take (i := 9) (v := ?v9_1) rfl (by kernel_rfl) (by kernel_rfl) (by kernel_rfl) (fun _ _ _ h => h) (Or.inl ⟨by rfl, ?hy9_1⟩) (by assumption) ?_
            case hy9_1 => (intro W hSw; (try dsimp only at hSw); go_simp; (try with_reducible rfl))
            try simp only [Act.put, List.getElem_toArray, List.getElem_cons_zero, List.getElem_cons_succ, List.setIfInBounds_toArray, List.set_cons_zero, List.set_cons_succ]
            refine wpAnyH_done (by kernel_rfl) ?_ _
            have HO9 := Lib.hid hHeld.1
            clear hHeld HO6 HQ6
            go_wp2_with fail
            go_roundw
            case rel => exact ⟨j + 1, by omega, by go_num, HO9⟩
            case measure => simp [intOf]; omega
          · obtain rfl : nr = j := by omega
            go_wp2_with fail
            go_roundw
            case rel => exact ⟨k + 1, by omega, by go_num, by rw [HF2.out]; exact hX.out.o⟩
            case measure => simp [intOf]; omega
      · obtain rfl : k = n := by omega
        have htk : L.take k = L := List.take_of_length_le (by omega)
        rw [htk] at hO
        have e1 := hO.out.gk.cell 1
        go_wp2_with fail
        clear e1
        go_loopw [99] (fun i wi => ∃ j : Nat, j ≤ es.length ∧ i = .int .i64 j ∧ Hid (OnS w wi B A k L gb #[.slice NA ns.length nc, .slice EA es.length ec] ns es mb k (seenF L))) (fun i wi => es.length - (intOf i).toNat)
        case atStart => exact ⟨0, Nat.zero_le _, rfl, hO⟩
        case round =>
          clear hO
          obtain ⟨j, hj, rfl, hX⟩ := hrel
          have hesl := HES.out
          by_cases hlt2 : j < es.length
          · have c0 : (0 : Int) ≤ (j : Int) := by omega
            have c1' : (j : Int) < (es.length : Int) := by omega
            obtain ⟨ad2, x, rfl, hab2, hx, q0, q1, q2⟩ := eds_at hX.out.eds hlt2
            obtain ⟨⟨hk1, y1, hy1, hn1⟩, ⟨hk2, y2, hy2, hn2⟩⟩ := own_ends HOK.out (List.mem_of_getElem? hx)
            obtain ⟨r1, hr1, rfl⟩ := List.mem_map.1 hy1
            obtain ⟨r2, hr2, rfl⟩ := List.mem_map.1 hy2
            have hl1 : x.f.length ≤ maxLen := by rw [← hn1]; exact (hS r1 hr1).n
            have hl2 : x.t.length ≤ maxLen := by rw [← hn2]; exact (hS r2 hr2).n
            have HXa : Hid (OnS w (wr.alloc (.cells #[.string (str x.f), .string (str x.t), .int .i64 x.r] 58)) B A k L gb #[.slice NA ns.length nc, .slice (some ad2) es.length ec] ns es mb k (seenF L)) := hX.out.call ((Below.refl _ _).alloc (Nat.le_refl _) _)
            have hlk1 := HXa.out.map.look (t := 42) Tryz.underlying42 (zeroB_run _) x.f hl1
            have hlk2 := HXa.out.map.look (t := 42) Tryz.underlying42 (zeroB_run _) x.t hl2
            rw [seenF_all hk1 ⟨r1, hr1, hn1⟩, Option.getD_some] at hlk1
            rw [seenF_all hk2 ⟨r2, hr2, hn2⟩, Option.getD_some] at hlk2
            clear hx hy1 hy2 hn1 hn2 hk1 hk2
            go_wp2_with fail
            go_roundw
            case rel => exact ⟨j + 1, by omega, by go_num, HXa⟩
            case measure => simp [intOf]; omega
          · obtain rfl : j = es.length := by omega
            go_wp2_with fail
            go_ret
            exact ⟨rfl, hX.out.below⟩
end Go.Proofs.YtcoepioahabbdaaGreat
