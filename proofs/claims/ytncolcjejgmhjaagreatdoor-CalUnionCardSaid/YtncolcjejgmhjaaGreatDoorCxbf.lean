/- The walks of the developers' parseExpression and Parse. -/
import Derived.Test.YtncolcjejgmhjaaGreatDoorCxbd
import Derived.Test.YtncolcjejgmhjaaGreatDoorCxbe
import Derived.Test.YtncolcjejgmhjaaGreatDoorCxap
namespace Go.Proofs.YtncolcjejgmhjaaGreatDoor
open Go.RowKit
def NoInt (cs : Array Value) : Prop := ∀ (i : Nat) (q : IntKind) (m : Int), cs[i]? ≠ some (.int q m)
theorem noInt_arr (sl : Nat → Sl) : NoInt (arr6 sl) := fun _ _ _ h => arr6_no h
theorem noInt_ch (c : Ch) : NoInt c.cells := fun i q m h => by
  unfold Ch.cells at h
  match i with
  | 0 | 1 | 2 | 3 | 4 | 5 | 6 => cases h
  | (i + 7) => simp at h
theorem noInt_blk {w : World} {F : Nat} {t : TypeId} {cs : Array Value} (hF : Blk w F t cs) (hn : NoInt cs) {a : Addr} {q : IntKind} {m : Int} (h : w.cell? a = some (.int q m)) : a.block ≠ F := by
  rintro rfl
  obtain ⟨b, o, sp⟩ := a
  have hsp : sp = none := World.cell?_spot h
  subst hsp
  have := hF.cell o
  rw [h] at this
  exact hn _ _ _ this.symm
theorem pts_keepN {w w' : World} {B n F : Nat} {t : TypeId} {cs : Array Value} {A : Option Addr} {ps : List Pt} (h : PtsAt w B A n ps) (hF : Blk w F t cs) (hn : NoInt cs) (hk : ∀ i, i ≠ F → w'.heap[i]? = w.heap[i]?) : PtsAt w' B A n ps := by
  obtain ⟨h1, h2, h3, h4⟩ := h
  refine ⟨h1, h2, h3, fun hp => ?_⟩
  obtain ⟨ad, e, hB, hc⟩ := h4 hp
  refine ⟨ad, e, hB, fun j u hu => ?_⟩
  obtain ⟨m, rfl⟩ := pts_int hu
  have h5 := hc j _ hu
  exact (World.cell?_of_block (hk _ (noInt_blk hF hn h5))).trans h5
theorem ints_keepN {w w' : World} {B n F : Nat} {t : TypeId} {cs : Array Value} {A : Option Addr} {ps : List Int} (h : IntsAt w B A n ps) (hF : Blk w F t cs) (hn : NoInt cs) (hk : ∀ i, i ≠ F → w'.heap[i]? = w.heap[i]?) : IntsAt w' B A n ps := by
  obtain ⟨h1, h2, h3, h4⟩ := h
  refine ⟨h1, h2, h3, fun hp => ?_⟩
  obtain ⟨ad, e, hB, hc⟩ := h4 hp
  refine ⟨ad, e, hB, fun j u hu => ?_⟩
  have hu2 := hu
  unfold ints at hu2
  rw [List.getElem?_map] at hu2
  have h5 := hc j u hu
  cases hx : ps[j]? with
  | none => rw [hx] at hu2; cases hu2
  | some x =>
    rw [hx] at hu2
    injection hu2 with hu2
    subst hu2
    exact (World.cell?_of_block (hk _ (noInt_blk hF hn h5))).trans h5
def nilCh : Ch := ⟨⟨none, 0, 0⟩, ⟨none, 0, 0⟩, ⟨none, 0, 0⟩, ⟨none, 0, 0⟩, ⟨none, 0, 0⟩, ⟨none, 0, 0⟩, ⟨none, 0, 0⟩⟩
def chOf (d : Sl) (sl : Nat → Sl) : Ch := ⟨d, sl 0, sl 1, sl 2, sl 3, sl 4, sl 5⟩
theorem ch_all (c : Ch) : c.cells.all (·.oneCell') = true := by simp [Ch.cells, Value.oneCell']
def ExprP (l : List UInt8) (w : World) (e : Ending) (w' : World) : Prop :=
  ∃ c : Ch, e = .returned (.tuple #[.agg c.cells, .bool (exprD l).isSome]) ∧ (∀ cl, exprD l = some cl → CalAt w' w'.heap.size c cl) ∧ Below w.heap.size w w'
theorem exprP_no {l : List UInt8} {w w' : World} {c : Ch} (h : exprD l = none) (hb : Below w.heap.size w w') : ExprP l w (.returned (.tuple #[.agg c.cells, .bool false])) w' :=
  ⟨c, by rw [h]; rfl, (fun cl hf => by rw [h] at hf; cases hf), hb⟩
theorem exprP_map {l dt tm : List UInt8} {dd : List Int} {w w' : World} {d : Sl} {sl : Nat → Sl} {b : Bool} (h : exprD l = (fieldsD dt tm).map (calD dd)) (hb : b = (fieldsD dt tm).isSome)
    (hd : IntsAt w' w'.heap.size d.A d.n dd) (hf : ∀ fs, fieldsD dt tm = some fs → ∀ f, f < 6 → PtsAt w' w'.heap.size (sl f).A (sl f).n (fs.getD f [])) (hB : Below w.heap.size w w') : ExprP l w (.returned (.tuple #[.agg (chOf d sl).cells, .bool b])) w' := by
  refine ⟨chOf d sl, by rw [h, hb, Option.isSome_map], fun cl hcl => ?_, hB⟩
  rw [h] at hcl
  obtain ⟨fs, hfs, rfl⟩ := Option.map_eq_some_iff.1 hcl
  have h6 := hf fs hfs
  refine ⟨hd, fun f => ?_⟩
  match f with
  | 0 => exact h6 0 (by omega)
  | 1 => exact h6 1 (by omega)
  | 2 => exact h6 2 (by omega)
  | 3 => exact h6 3 (by omega)
  | 4 => exact h6 4 (by omega)
  | 5 => exact h6 5 (by omega)
  | (f + 6) => exact h6 5 (by omega)
theorem takeD_small {c : UInt8} {miss : List UInt8} {l : List (List UInt8)} {M : Nat} (hm : miss.length ≤ M) (h : ∀ x ∈ l, x.length ≤ M) : (takeD c miss l).1.length ≤ M ∧ ∀ x ∈ (takeD c miss l).2, x.length ≤ M := by
  cases l with
  | nil => exact ⟨hm, fun x hx => by cases hx⟩
  | cons a l =>
    rw [takeD]
    split
    · exact ⟨h a (by simp), fun x hx => h x (by simp [hx])⟩
    · exact ⟨hm, h⟩
theorem split_neM (b : UInt8) (l : List UInt8) : ∃ x tl, splitL b l = x :: tl := by
  have := sgo_len b l []
  cases h : splitL b l with
  | nil => unfold splitL at h; rw [h] at this; simp at this
  | cons x tl => exact ⟨x, tl, rfl⟩
set_option maxRecDepth 100000 in
set_option maxHeartbeats 16000000 in
theorem parseExpression_any (s : ByteArray) (hs : s.size ≤ 4000) (w : World) (htab : TabM w) :
    Calls Tryz.prog 31 #[.string s] w (ExprP s.data.toList w) := by
  obtain ⟨m, hml⟩ := htab.ml
  have HMX : Hid (∀ W, Below w.heap.size w W → W.cell? ⟨3, 0, none⟩ = some (.int .i64 m)) := fun W hb => (hb.cell (p := ⟨3, 0, none⟩) (World.block_lt_of_cell? w _ hml)).trans hml
  have HT := Lib.hid htab
  clear htab hml
  obtain ⟨x, tl, hL⟩ := split_neM 32 s.data.toList
  have hsm : ∀ y ∈ x :: tl, y.length ≤ 4000 := fun y hy => by
    rw [← hL] at hy
    have := pieceB_size hy
    rw [size_list] at this
    omega
  have hntl : (x :: tl).length ≤ 4001 := by
    have := sgo_le 32 s.data.toList []
    rw [size_list] at this
    rw [← hL]
    unfold splitL; omega
  rw [List.length_cons] at hntl
  have HXP : Hid (exprD s.data.toList = if (takeD 58 midnight (takeD 45 anyDate (restD s.data.toList)).2).2 = [] then (fieldsD (takeD 45 anyDate (restD s.data.toList)).1 (takeD 58 midnight (takeD 45 anyDate (restD s.data.toList)).2).1).map (calD ((daysL x).getD [])) else none) := by
    show _ = _
    unfold exprD
    rw [hL]
    rfl
  have HRD : Hid (restD s.data.toList = if (daysL x).isSome = true then tl else x :: tl) := by
    show _ = _
    unfold restD
    rw [hL]
    rfl
  have HB0 : Hid (Below w.heap.size w (w.alloc (.cells #[.slice none 0 0, .slice none 0 0, .slice none 0 0, .slice none 0 0, .slice none 0 0, .slice none 0 0, .slice none 0 0] 25))) := (Below.refl _ _).alloc (Nat.le_refl _) _
  have HR0 : Hid (Blk (w.alloc (.cells #[.slice none 0 0, .slice none 0 0, .slice none 0 0, .slice none 0 0, .slice none 0 0, .slice none 0 0, .slice none 0 0] 25)) w.heap.size 25 nilCh.cells) := Blk.new w _ _
  have ZN : (w.alloc (.cells #[.slice none 0 0, .slice none 0 0, .slice none 0 0, .slice none 0 0, .slice none 0 0, .slice none 0 0, .slice none 0 0] 25)).heap.size = w.heap.size + 1 := by simp
  go_enter Tryz.func31, Tryz.ntmps31
  go_wp2_with fail
  generalize w.alloc (.cells #[.slice none 0 0, .slice none 0 0, .slice none 0 0, .slice none 0 0, .slice none 0 0, .slice none 0 0, .slice none 0 0] 25) = w0 at *
  refine (splitAt_any 32 s (by omega) m _ (HMX.out _ HB0.out)).mono ?_
  rintro e w1 ⟨rfl, hw1⟩
  rw [hL] at hw1 ⊢
  have HB1 : Hid (Below w.heap.size w w1) := by rw [hw1]; exact HB0.out.alloc (by omega) _
  have HR1 : Hid (Blk w1 w.heap.size 25 nilCh.cells) := by rw [hw1]; exact HR0.out.alloc _
  have Z1 : w1.heap.size = w.heap.size + 2 := by rw [hw1]; simp; omega
  have hW1 : WordsAt w1 w1.heap.size (some ⟨w.heap.size + 1, 0, none⟩) (x :: tl).length (x :: tl) := by
    rw [Z1, hw1, ← ZN]
    have := words_new (x :: tl) w0 (by rw [List.length_cons]; unfold maxLen; omega)
    rw [show w.heap.size + 2 = w0.heap.size + 1 by omega]
    exact this
  have hc1 : w1.cell? ⟨w.heap.size + 1, 0, none⟩ = some (.string (str x)) := by
    obtain ⟨ad, x', e, _, hx', hc'⟩ := hW1.at_ (k := 0) (by simp)
    cases e
    have : x' = x := by simpa using hx'.symm
    subst this
    simpa [Addr.add] using hc'
  have HW1 := Lib.hid hW1
  have HPD : Hid (Calls Tryz.prog 50 #[.string (str x)] w1 (DaysP x w1)) := parseDays_any (str x) (hsm x (by simp)) w1 (HT.out.below HB1.out)
  have HSM := Lib.hid hsm
  rw [List.length_cons] at HW1 ⊢
  rw [ZN]
  clear hw1 hW1 HB0 HR0 ZN hsm hL
  have n1 : (1 : Int) ≤ ((tl.length + 1 : Nat) : Int) := by omega
  have n0 : (0 : Int) < ((tl.length + 1 : Nat) : Int) := by omega
  go_wp2_with fail
  refine HPD.out.mono ?_
  rintro e w2 ⟨DA, dn, dc, rfl, hdc, hdi, hb2⟩
  have HB2 := Lib.hid (more3 HB1.out HB1.out.size hb2)
  have HR2 := Lib.hid (HR1.out.below hb2 HR1.out.lt)
  have HW2 := Lib.hid (HW1.out.below hb2)
  have HI2 := Lib.hid hdi
  have hs12 := hb2.size
  clear hb2 hdi hc1 HB1 HR1 HW1 HPD
  by_cases hok : (daysL x).isSome = true
  · have HRX : Hid (restD s.data.toList = tl) := by show _ = _; rw [HRD.out, if_pos hok]
    rw [hok]
    by_cases ht0 : tl.length = 0
    · have htl : tl = [] := List.eq_nil_of_length_eq_zero ht0
      have t1 : tl.length + 1 = 1 := by omega
      have HWR : Hid (WordsAt w2 w2.heap.size (some ⟨w.heap.size + 1, 0, none⟩) 0 tl) := ⟨ht0, Nat.zero_le _, by rw [htl]; exact Reads.none_⟩
      have HSM2 : Hid (∀ y ∈ tl, y.length ≤ 4000) := fun y hy => HSM.out y (by simp [hy])
      rw [t1]
      clear HW2 HRD hok htl
      have HXQ : Hid (exprD s.data.toList = if (takeD 58 midnight (takeD 45 anyDate (tl)).2).2 = [] then (fieldsD (takeD 45 anyDate (tl)).1 (takeD 58 midnight (takeD 45 anyDate (tl)).2).1).map (calD ((daysL x).getD [])) else none) := by show _ = _; rw [HXP.out, HRX.out]
      obtain ⟨k1, k2⟩ := takeD_small (c := 45) (miss := anyDate) (l := tl) (M := 4000) (by decide) HSM2.out
      obtain ⟨k3, k4⟩ := takeD_small (c := 58) (miss := midnight) (M := 4000) (by decide) k2
      have K1 := Lib.hid k1
      have K3 := Lib.hid k3
      clear k1 k2 k3 k4 HXP
      go_wp2_with fail
      refine (takeWord_any 45 ⟨#[42, 45, 42, 45, 42]⟩ (tl) (some ⟨w.heap.size + 1, 0, none⟩) 0 0 w2.heap.size (by omega) _ HWR.out (Nat.le_refl _)).mono ?_
      rintro e w4 ⟨A4, n4, c4, rfl, hc4, hw4, hb4⟩
      rw [show (ByteArray.data ⟨#[42, 45, 42, 45, 42]⟩).toList = anyDate from rfl] at hw4 ⊢
      have HB4 := Lib.hid (more3 HB2.out HB2.out.size hb4)
      have HR4 := Lib.hid (HR2.out.below hb4 HR2.out.lt)
      have HI4 := Lib.hid (HI2.out.below hb4)
      have HW4 := Lib.hid hw4
      have hs24 := hb4.size
      clear hb4 hw4
      go_wp2_with fail
      refine (takeWord_any 58 ⟨#[48, 48, 58, 48, 48, 58, 48, 48]⟩ _ A4 n4 c4 w2.heap.size hc4 _ HW4.out hs24).mono ?_
      rintro e w5 ⟨A5, n5, c5, rfl, hc5, hw5, hb5⟩
      rw [show (ByteArray.data ⟨#[48, 48, 58, 48, 48, 58, 48, 48]⟩).toList = midnight from rfl] at hw5 ⊢
      have HB5 := Lib.hid (more3 HB4.out HB4.out.size hb5)
      have HR5 : Hid (Blk w5 w.heap.size 25 nilCh.cells) := HR4.out.below hb5 HR4.out.lt
      have HI5 := Lib.hid ((HI4.out.wide hs24).below hb5)
      have hs45 := hb5.size
      have hl5 := hw5.1
      clear hb5 hw5
      generalize takeD 58 midnight (takeD 45 anyDate (tl)).2 = tk at *
      obtain ⟨tm, rest⟩ := tk
      generalize (takeD 45 anyDate (tl)).1 = dt at *
      dsimp only at *
      by_cases hrest : rest = []
      · have n50 : n5 = 0 := by rw [← hl5, hrest]; rfl
        subst n50
        have HXR : Hid (exprD s.data.toList = (fieldsD dt tm).map (calD ((daysL x).getD []))) := by show _ = _; rw [HXQ.out, if_pos hrest]
        have HPF : Hid (Calls Tryz.prog 52 #[.string (str dt), .string (str tm)] w5 (FieldsP dt tm w5)) := parseFields_any (str dt) (str tm) K1.out K3.out w5 (HT.out.below HB5.out)
        clear hrest hl5 HXQ
        go_wp2_with fail
        refine HPF.out.mono ?_
        rintro e w6 ⟨sl, rfl, hfs, hb6⟩
        have HB6 := Lib.hid (more3 HB5.out HB5.out.size hb6)
        have HR6 := Lib.hid (HR5.out.below hb6 HR5.out.lt)
        have HI6 := Lib.hid ((HI5.out.wide hs45).below hb6)
        have HS6 := Lib.hid hb6.size
        have HFS := Lib.hid hfs
        clear hfs hb6 HPF
        have HA7 : Hid (Blk (w6.alloc (.cells #[.slice none 0 0, .slice none 0 0, .slice none 0 0, .slice none 0 0, .slice none 0 0, .slice none 0 0] 46)) w6.heap.size 46 (arr6 nilS)) := Blk.new w6 _ _
        have HR7 : Hid (Blk (w6.alloc (.cells #[.slice none 0 0, .slice none 0 0, .slice none 0 0, .slice none 0 0, .slice none 0 0, .slice none 0 0] 46)) w.heap.size 25 nilCh.cells) := HR6.out.alloc _
        have HB7 : Hid (Below w.heap.size w (w6.alloc (.cells #[.slice none 0 0, .slice none 0 0, .slice none 0 0, .slice none 0 0, .slice none 0 0, .slice none 0 0] 46))) := HB6.out.alloc HB6.out.size _
        have HI7 : Hid (IntsAt (w6.alloc (.cells #[.slice none 0 0, .slice none 0 0, .slice none 0 0, .slice none 0 0, .slice none 0 0, .slice none 0 0] 46)) (w6.heap.size + 1) DA dn ((daysL x).getD [])) := ((HI6.out.wide HS6.out).below ((Below.refl _ _).alloc (Nat.le_refl _) _)).wide (Nat.le_succ _)
        have HF7 : Hid (∀ fs, fieldsD dt tm = some fs → ∀ f, f < 6 → PtsAt (w6.alloc (.cells #[.slice none 0 0, .slice none 0 0, .slice none 0 0, .slice none 0 0, .slice none 0 0, .slice none 0 0] 46)) (w6.heap.size + 1) (sl f).A (sl f).n (fs.getD f [])) := fun fs h f hf => ((HFS.out fs h f hf).below ((Below.refl _ _).alloc (Nat.le_refl _) _)).wide (Nat.le_succ _)
        have Z7 : (w6.alloc (.cells #[.slice none 0 0, .slice none 0 0, .slice none 0 0, .slice none 0 0, .slice none 0 0, .slice none 0 0] 46)).heap.size = w6.heap.size + 1 := by simp
        have hRA : w.heap.size ≠ w6.heap.size := by have := HR6.out.lt; omega
        have HIS : Hid ((fieldsD dt tm).isSome = (fieldsD dt tm).isSome) := rfl
        generalize hbb : (fieldsD dt tm).isSome = bb at *
        have a0 : ((w6.alloc (.cells #[.slice none 0 0, .slice none 0 0, .slice none 0 0, .slice none 0 0, .slice none 0 0, .slice none 0 0] 46)).setRow w6.heap.size (arr6 sl)).cell? ⟨w6.heap.size, 0, none⟩ = some (.slice (sl 0).A (sl 0).n (sl 0).c) := (Blk.row HA7.out (arr6 sl)).cell 0
        have a1 : ((w6.alloc (.cells #[.slice none 0 0, .slice none 0 0, .slice none 0 0, .slice none 0 0, .slice none 0 0, .slice none 0 0] 46)).setRow w6.heap.size (arr6 sl)).cell? ⟨w6.heap.size, 1, none⟩ = some (.slice (sl 1).A (sl 1).n (sl 1).c) := (Blk.row HA7.out (arr6 sl)).cell 1
        have a2 : ((w6.alloc (.cells #[.slice none 0 0, .slice none 0 0, .slice none 0 0, .slice none 0 0, .slice none 0 0, .slice none 0 0] 46)).setRow w6.heap.size (arr6 sl)).cell? ⟨w6.heap.size, 2, none⟩ = some (.slice (sl 2).A (sl 2).n (sl 2).c) := (Blk.row HA7.out (arr6 sl)).cell 2
        have a3 : ((w6.alloc (.cells #[.slice none 0 0, .slice none 0 0, .slice none 0 0, .slice none 0 0, .slice none 0 0, .slice none 0 0] 46)).setRow w6.heap.size (arr6 sl)).cell? ⟨w6.heap.size, 3, none⟩ = some (.slice (sl 3).A (sl 3).n (sl 3).c) := (Blk.row HA7.out (arr6 sl)).cell 3
        have a4 : ((w6.alloc (.cells #[.slice none 0 0, .slice none 0 0, .slice none 0 0, .slice none 0 0, .slice none 0 0, .slice none 0 0] 46)).setRow w6.heap.size (arr6 sl)).cell? ⟨w6.heap.size, 4, none⟩ = some (.slice (sl 4).A (sl 4).n (sl 4).c) := (Blk.row HA7.out (arr6 sl)).cell 4
        have a5 : ((w6.alloc (.cells #[.slice none 0 0, .slice none 0 0, .slice none 0 0, .slice none 0 0, .slice none 0 0, .slice none 0 0] 46)).setRow w6.heap.size (arr6 sl)).cell? ⟨w6.heap.size, 5, none⟩ = some (.slice (sl 5).A (sl 5).n (sl 5).c) := (Blk.row HA7.out (arr6 sl)).cell 5
        have HR8 : Hid (Blk ((w6.alloc (.cells #[.slice none 0 0, .slice none 0 0, .slice none 0 0, .slice none 0 0, .slice none 0 0, .slice none 0 0] 46)).setRow w6.heap.size (arr6 sl)) w.heap.size 25 nilCh.cells) := (heap_row_other _ _ _ _ hRA).trans HR7.out
        have HI8 : Hid (IntsAt ((w6.alloc (.cells #[.slice none 0 0, .slice none 0 0, .slice none 0 0, .slice none 0 0, .slice none 0 0, .slice none 0 0] 46)).setRow w6.heap.size (arr6 sl)) (w6.heap.size + 1) DA dn ((daysL x).getD [])) := ints_keepN HI7.out HA7.out (noInt_arr _) (heap_row_other _ _ _)
        have HF8 : Hid (∀ fs, fieldsD dt tm = some fs → ∀ f, f < 6 → PtsAt ((w6.alloc (.cells #[.slice none 0 0, .slice none 0 0, .slice none 0 0, .slice none 0 0, .slice none 0 0, .slice none 0 0] 46)).setRow w6.heap.size (arr6 sl)) (w6.heap.size + 1) (sl f).A (sl f).n (fs.getD f [])) := fun fs h f hf => pts_keepN (HF7.out fs h f hf) HA7.out (noInt_arr _) (heap_row_other _ _ _)
        have HB8 : Hid (Below w.heap.size w ((w6.alloc (.cells #[.slice none 0 0, .slice none 0 0, .slice none 0 0, .slice none 0 0, .slice none 0 0, .slice none 0 0] 46)).setRow w6.heap.size (arr6 sl))) := below_setRow HB7.out (by have := HR6.out.lt; omega) _
        have Z8 : ((w6.alloc (.cells #[.slice none 0 0, .slice none 0 0, .slice none 0 0, .slice none 0 0, .slice none 0 0, .slice none 0 0] 46)).setRow w6.heap.size (arr6 sl)).heap.size = w6.heap.size + 1 := by rw [size_row]; exact Z7
        have HZ8 := Lib.hid Z8
        clear Z7 Z8
        go_wp2_with (first | (refine wpList_store_row rfl 46 (.tmp 9) (.tmp 40) (by rfl) w6.heap.size (arr6 sl) (by rfl) (by rfl) 46 (arr6 nilS) HA7.out (by kernel_rfl) rfl (arr6_all _) ?_; generalize ((w6.alloc (.cells #[.slice none 0 0, .slice none 0 0, .slice none 0 0, .slice none 0 0, .slice none 0 0, .slice none 0 0] 46)).setRow w6.heap.size (arr6 sl)) = w9 at *) | (refine wpList_store_row rfl 25 (.tmp 2) (.tmp 55) (by rfl) w.heap.size (chOf ⟨DA, dn, dc⟩ sl).cells (by rfl) (by rfl) 25 nilCh.cells HR8.out (by kernel_rfl) rfl (ch_all _) ?_))
        exact bodyPost_ret (results_cell_tmp (p := 2) (q := 3) rfl _ _ w.heap.size 25 (chOf ⟨DA, dn, dc⟩ sl).cells _ _ rfl rfl (Blk.row HR8.out _) Tryz.underlying25 rfl (by kernel_rfl)) rfl
          (exprP_map HXR.out hbb.symm (by rw [size_row, HZ8.out]; exact ints_keepN HI8.out HR8.out (noInt_ch _) (heap_row_other _ _ _)) (fun fs h f hf => by rw [size_row, HZ8.out]; exact pts_keepN (HF8.out fs h f hf) HR8.out (noInt_ch _) (heap_row_other _ _ _)) (below_setRow HB8.out (Nat.le_refl _) _))
      · have n5p : (0 : Int) < (n5 : Int) := by
          rcases Nat.eq_zero_or_pos n5 with h | h
          · rw [h] at hl5; exact absurd (List.eq_nil_of_length_eq_zero hl5) hrest
          · omega
        have HNO : Hid (exprD s.data.toList = none) := by show _ = _; rw [HXQ.out, if_neg hrest]
        clear hrest hl5 HXQ
        go_wp2_with (refine wpList_store_row rfl 25 (.tmp 2) (.tmp 35) (by rfl) w.heap.size nilCh.cells (by rfl) (by rfl) 25 nilCh.cells HR5.out (by kernel_rfl) rfl (ch_all _) ?_)
        exact bodyPost_ret (results_cell_tmp (p := 2) (q := 3) rfl _ _ w.heap.size 25 nilCh.cells _ _ rfl rfl (Blk.row HR5.out _) Tryz.underlying25 rfl (by kernel_rfl)) rfl (exprP_no HNO.out (below_setRow HB5.out (Nat.le_refl _) _))
    · have t2 : (1 : Int) < ((tl.length + 1 : Nat) : Int) := by omega
      have HWR : Hid (WordsAt w2 w2.heap.size (some ⟨w.heap.size + 1, 1, none⟩) tl.length tl) := by
        have hw := HW2.out.wide hs12
        obtain ⟨q1, q2, q3⟩ := hw
        refine ⟨rfl, by unfold maxLen at *; omega, by simp [wcells], fun _ => ?_⟩
        obtain ⟨ad, e, hb, hcc⟩ := q3.2 (by omega)
        cases e
        refine ⟨_, rfl, hb, fun j u hj => ?_⟩
        have h9 := hcc (j + 1) u (by simpa [wcells] using hj)
        have e1 : (⟨w.heap.size + 1, 1, none⟩ : Addr).add j = (⟨w.heap.size + 1, 0, none⟩ : Addr).add (j + 1) := by
          unfold Addr.add
          split <;> simp_all <;> omega
        rw [e1]; exact h9
      have HSM2 : Hid (∀ y ∈ tl, y.length ≤ 4000) := fun y hy => HSM.out y (by simp [hy])
      clear HW2 HRD hok
      have HXQ : Hid (exprD s.data.toList = if (takeD 58 midnight (takeD 45 anyDate (tl)).2).2 = [] then (fieldsD (takeD 45 anyDate (tl)).1 (takeD 58 midnight (takeD 45 anyDate (tl)).2).1).map (calD ((daysL x).getD [])) else none) := by show _ = _; rw [HXP.out, HRX.out]
      obtain ⟨k1, k2⟩ := takeD_small (c := 45) (miss := anyDate) (l := tl) (M := 4000) (by decide) HSM2.out
      obtain ⟨k3, k4⟩ := takeD_small (c := 58) (miss := midnight) (M := 4000) (by decide) k2
      have K1 := Lib.hid k1
      have K3 := Lib.hid k3
      clear k1 k2 k3 k4 HXP
      go_wp2_with fail
      refine (takeWord_any 45 ⟨#[42, 45, 42, 45, 42]⟩ (tl) (some ⟨w.heap.size + 1, 1, none⟩) tl.length tl.length w2.heap.size (by omega) _ HWR.out (Nat.le_refl _)).mono ?_
      rintro e w4 ⟨A4, n4, c4, rfl, hc4, hw4, hb4⟩
      rw [show (ByteArray.data ⟨#[42, 45, 42, 45, 42]⟩).toList = anyDate from rfl] at hw4 ⊢
      have HB4 := Lib.hid (more3 HB2.out HB2.out.size hb4)
      have HR4 := Lib.hid (HR2.out.below hb4 HR2.out.lt)
      have HI4 := Lib.hid (HI2.out.below hb4)
      have HW4 := Lib.hid hw4
      have hs24 := hb4.size
      clear hb4 hw4
      go_wp2_with fail
      refine (takeWord_any 58 ⟨#[48, 48, 58, 48, 48, 58, 48, 48]⟩ _ A4 n4 c4 w2.heap.size hc4 _ HW4.out hs24).mono ?_
      rintro e w5 ⟨A5, n5, c5, rfl, hc5, hw5, hb5⟩
      rw [show (ByteArray.data ⟨#[48, 48, 58, 48, 48, 58, 48, 48]⟩).toList = midnight from rfl] at hw5 ⊢
      have HB5 := Lib.hid (more3 HB4.out HB4.out.size hb5)
      have HR5 : Hid (Blk w5 w.heap.size 25 nilCh.cells) := HR4.out.below hb5 HR4.out.lt
      have HI5 := Lib.hid ((HI4.out.wide hs24).below hb5)
      have hs45 := hb5.size
      have hl5 := hw5.1
      clear hb5 hw5
      generalize takeD 58 midnight (takeD 45 anyDate (tl)).2 = tk at *
      obtain ⟨tm, rest⟩ := tk
      generalize (takeD 45 anyDate (tl)).1 = dt at *
      dsimp only at *
      by_cases hrest : rest = []
      · have n50 : n5 = 0 := by rw [← hl5, hrest]; rfl
        subst n50
        have HXR : Hid (exprD s.data.toList = (fieldsD dt tm).map (calD ((daysL x).getD []))) := by show _ = _; rw [HXQ.out, if_pos hrest]
        have HPF : Hid (Calls Tryz.prog 52 #[.string (str dt), .string (str tm)] w5 (FieldsP dt tm w5)) := parseFields_any (str dt) (str tm) K1.out K3.out w5 (HT.out.below HB5.out)
        clear hrest hl5 HXQ
        go_wp2_with fail
        refine HPF.out.mono ?_
        rintro e w6 ⟨sl, rfl, hfs, hb6⟩
        have HB6 := Lib.hid (more3 HB5.out HB5.out.size hb6)
        have HR6 := Lib.hid (HR5.out.below hb6 HR5.out.lt)
        have HI6 := Lib.hid ((HI5.out.wide hs45).below hb6)
        have HS6 := Lib.hid hb6.size
        have HFS := Lib.hid hfs
        clear hfs hb6 HPF
        have HA7 : Hid (Blk (w6.alloc (.cells #[.slice none 0 0, .slice none 0 0, .slice none 0 0, .slice none 0 0, .slice none 0 0, .slice none 0 0] 46)) w6.heap.size 46 (arr6 nilS)) := Blk.new w6 _ _
        have HR7 : Hid (Blk (w6.alloc (.cells #[.slice none 0 0, .slice none 0 0, .slice none 0 0, .slice none 0 0, .slice none 0 0, .slice none 0 0] 46)) w.heap.size 25 nilCh.cells) := HR6.out.alloc _
        have HB7 : Hid (Below w.heap.size w (w6.alloc (.cells #[.slice none 0 0, .slice none 0 0, .slice none 0 0, .slice none 0 0, .slice none 0 0, .slice none 0 0] 46))) := HB6.out.alloc HB6.out.size _
        have HI7 : Hid (IntsAt (w6.alloc (.cells #[.slice none 0 0, .slice none 0 0, .slice none 0 0, .slice none 0 0, .slice none 0 0, .slice none 0 0] 46)) (w6.heap.size + 1) DA dn ((daysL x).getD [])) := ((HI6.out.wide HS6.out).below ((Below.refl _ _).alloc (Nat.le_refl _) _)).wide (Nat.le_succ _)
        have HF7 : Hid (∀ fs, fieldsD dt tm = some fs → ∀ f, f < 6 → PtsAt (w6.alloc (.cells #[.slice none 0 0, .slice none 0 0, .slice none 0 0, .slice none 0 0, .slice none 0 0, .slice none 0 0] 46)) (w6.heap.size + 1) (sl f).A (sl f).n (fs.getD f [])) := fun fs h f hf => ((HFS.out fs h f hf).below ((Below.refl _ _).alloc (Nat.le_refl _) _)).wide (Nat.le_succ _)
        have Z7 : (w6.alloc (.cells #[.slice none 0 0, .slice none 0 0, .slice none 0 0, .slice none 0 0, .slice none 0 0, .slice none 0 0] 46)).heap.size = w6.heap.size + 1 := by simp
        have hRA : w.heap.size ≠ w6.heap.size := by have := HR6.out.lt; omega
        have HIS : Hid ((fieldsD dt tm).isSome = (fieldsD dt tm).isSome) := rfl
        generalize hbb : (fieldsD dt tm).isSome = bb at *
        have a0 : ((w6.alloc (.cells #[.slice none 0 0, .slice none 0 0, .slice none 0 0, .slice none 0 0, .slice none 0 0, .slice none 0 0] 46)).setRow w6.heap.size (arr6 sl)).cell? ⟨w6.heap.size, 0, none⟩ = some (.slice (sl 0).A (sl 0).n (sl 0).c) := (Blk.row HA7.out (arr6 sl)).cell 0
        have a1 : ((w6.alloc (.cells #[.slice none 0 0, .slice none 0 0, .slice none 0 0, .slice none 0 0, .slice none 0 0, .slice none 0 0] 46)).setRow w6.heap.size (arr6 sl)).cell? ⟨w6.heap.size, 1, none⟩ = some (.slice (sl 1).A (sl 1).n (sl 1).c) := (Blk.row HA7.out (arr6 sl)).cell 1
        have a2 : ((w6.alloc (.cells #[.slice none 0 0, .slice none 0 0, .slice none 0 0, .slice none 0 0, .slice none 0 0, .slice none 0 0] 46)).setRow w6.heap.size (arr6 sl)).cell? ⟨w6.heap.size, 2, none⟩ = some (.slice (sl 2).A (sl 2).n (sl 2).c) := (Blk.row HA7.out (arr6 sl)).cell 2
        have a3 : ((w6.alloc (.cells #[.slice none 0 0, .slice none 0 0, .slice none 0 0, .slice none 0 0, .slice none 0 0, .slice none 0 0] 46)).setRow w6.heap.size (arr6 sl)).cell? ⟨w6.heap.size, 3, none⟩ = some (.slice (sl 3).A (sl 3).n (sl 3).c) := (Blk.row HA7.out (arr6 sl)).cell 3
        have a4 : ((w6.alloc (.cells #[.slice none 0 0, .slice none 0 0, .slice none 0 0, .slice none 0 0, .slice none 0 0, .slice none 0 0] 46)).setRow w6.heap.size (arr6 sl)).cell? ⟨w6.heap.size, 4, none⟩ = some (.slice (sl 4).A (sl 4).n (sl 4).c) := (Blk.row HA7.out (arr6 sl)).cell 4
        have a5 : ((w6.alloc (.cells #[.slice none 0 0, .slice none 0 0, .slice none 0 0, .slice none 0 0, .slice none 0 0, .slice none 0 0] 46)).setRow w6.heap.size (arr6 sl)).cell? ⟨w6.heap.size, 5, none⟩ = some (.slice (sl 5).A (sl 5).n (sl 5).c) := (Blk.row HA7.out (arr6 sl)).cell 5
        have HR8 : Hid (Blk ((w6.alloc (.cells #[.slice none 0 0, .slice none 0 0, .slice none 0 0, .slice none 0 0, .slice none 0 0, .slice none 0 0] 46)).setRow w6.heap.size (arr6 sl)) w.heap.size 25 nilCh.cells) := (heap_row_other _ _ _ _ hRA).trans HR7.out
        have HI8 : Hid (IntsAt ((w6.alloc (.cells #[.slice none 0 0, .slice none 0 0, .slice none 0 0, .slice none 0 0, .slice none 0 0, .slice none 0 0] 46)).setRow w6.heap.size (arr6 sl)) (w6.heap.size + 1) DA dn ((daysL x).getD [])) := ints_keepN HI7.out HA7.out (noInt_arr _) (heap_row_other _ _ _)
        have HF8 : Hid (∀ fs, fieldsD dt tm = some fs → ∀ f, f < 6 → PtsAt ((w6.alloc (.cells #[.slice none 0 0, .slice none 0 0, .slice none 0 0, .slice none 0 0, .slice none 0 0, .slice none 0 0] 46)).setRow w6.heap.size (arr6 sl)) (w6.heap.size + 1) (sl f).A (sl f).n (fs.getD f [])) := fun fs h f hf => pts_keepN (HF7.out fs h f hf) HA7.out (noInt_arr _) (heap_row_other _ _ _)
        have HB8 : Hid (Below w.heap.size w ((w6.alloc (.cells #[.slice none 0 0, .slice none 0 0, .slice none 0 0, .slice none 0 0, .slice none 0 0, .slice none 0 0] 46)).setRow w6.heap.size (arr6 sl))) := below_setRow HB7.out (by have := HR6.out.lt; omega) _
        have Z8 : ((w6.alloc (.cells #[.slice none 0 0, .slice none 0 0, .slice none 0 0, .slice none 0 0, .slice none 0 0, .slice none 0 0] 46)).setRow w6.heap.size (arr6 sl)).heap.size = w6.heap.size + 1 := by rw [size_row]; exact Z7
        have HZ8 := Lib.hid Z8
        clear Z7 Z8
        go_wp2_with (first | (refine wpList_store_row rfl 46 (.tmp 9) (.tmp 40) (by rfl) w6.heap.size (arr6 sl) (by rfl) (by rfl) 46 (arr6 nilS) HA7.out (by kernel_rfl) rfl (arr6_all _) ?_; generalize ((w6.alloc (.cells #[.slice none 0 0, .slice none 0 0, .slice none 0 0, .slice none 0 0, .slice none 0 0, .slice none 0 0] 46)).setRow w6.heap.size (arr6 sl)) = w9 at *) | (refine wpList_store_row rfl 25 (.tmp 2) (.tmp 55) (by rfl) w.heap.size (chOf ⟨DA, dn, dc⟩ sl).cells (by rfl) (by rfl) 25 nilCh.cells HR8.out (by kernel_rfl) rfl (ch_all _) ?_))
        exact bodyPost_ret (results_cell_tmp (p := 2) (q := 3) rfl _ _ w.heap.size 25 (chOf ⟨DA, dn, dc⟩ sl).cells _ _ rfl rfl (Blk.row HR8.out _) Tryz.underlying25 rfl (by kernel_rfl)) rfl
          (exprP_map HXR.out hbb.symm (by rw [size_row, HZ8.out]; exact ints_keepN HI8.out HR8.out (noInt_ch _) (heap_row_other _ _ _)) (fun fs h f hf => by rw [size_row, HZ8.out]; exact pts_keepN (HF8.out fs h f hf) HR8.out (noInt_ch _) (heap_row_other _ _ _)) (below_setRow HB8.out (Nat.le_refl _) _))
      · have n5p : (0 : Int) < (n5 : Int) := by
          rcases Nat.eq_zero_or_pos n5 with h | h
          · rw [h] at hl5; exact absurd (List.eq_nil_of_length_eq_zero hl5) hrest
          · omega
        have HNO : Hid (exprD s.data.toList = none) := by show _ = _; rw [HXQ.out, if_neg hrest]
        clear hrest hl5 HXQ
        go_wp2_with (refine wpList_store_row rfl 25 (.tmp 2) (.tmp 35) (by rfl) w.heap.size nilCh.cells (by rfl) (by rfl) 25 nilCh.cells HR5.out (by kernel_rfl) rfl (ch_all _) ?_)
        exact bodyPost_ret (results_cell_tmp (p := 2) (q := 3) rfl _ _ w.heap.size 25 nilCh.cells _ _ rfl rfl (Blk.row HR5.out _) Tryz.underlying25 rfl (by kernel_rfl)) rfl (exprP_no HNO.out (below_setRow HB5.out (Nat.le_refl _) _))
  · have HRX : Hid (restD s.data.toList = x :: tl) := by show _ = _; rw [HRD.out, if_neg hok]
    have hokf : (daysL x).isSome = false := by simpa using hok
    rw [hokf]
    have HWR : Hid (WordsAt w2 w2.heap.size (some ⟨w.heap.size + 1, 0, none⟩) (tl.length + 1) (x :: tl)) := HW2.out.wide hs12
    clear HW2 HRD hok
    have HXQ : Hid (exprD s.data.toList = if (takeD 58 midnight (takeD 45 anyDate (x :: tl)).2).2 = [] then (fieldsD (takeD 45 anyDate (x :: tl)).1 (takeD 58 midnight (takeD 45 anyDate (x :: tl)).2).1).map (calD ((daysL x).getD [])) else none) := by show _ = _; rw [HXP.out, HRX.out]
    obtain ⟨k1, k2⟩ := takeD_small (c := 45) (miss := anyDate) (l := x :: tl) (M := 4000) (by decide) HSM.out
    obtain ⟨k3, k4⟩ := takeD_small (c := 58) (miss := midnight) (M := 4000) (by decide) k2
    have K1 := Lib.hid k1
    have K3 := Lib.hid k3
    clear k1 k2 k3 k4 HXP
    go_wp2_with fail
    refine (takeWord_any 45 ⟨#[42, 45, 42, 45, 42]⟩ (x :: tl) (some ⟨w.heap.size + 1, 0, none⟩) (tl.length + 1) (tl.length + 1) w2.heap.size (by omega) _ HWR.out (Nat.le_refl _)).mono ?_
    rintro e w4 ⟨A4, n4, c4, rfl, hc4, hw4, hb4⟩
    rw [show (ByteArray.data ⟨#[42, 45, 42, 45, 42]⟩).toList = anyDate from rfl] at hw4 ⊢
    have HB4 := Lib.hid (more3 HB2.out HB2.out.size hb4)
    have HR4 := Lib.hid (HR2.out.below hb4 HR2.out.lt)
    have HI4 := Lib.hid (HI2.out.below hb4)
    have HW4 := Lib.hid hw4
    have hs24 := hb4.size
    clear hb4 hw4
    go_wp2_with fail
    refine (takeWord_any 58 ⟨#[48, 48, 58, 48, 48, 58, 48, 48]⟩ _ A4 n4 c4 w2.heap.size hc4 _ HW4.out hs24).mono ?_
    rintro e w5 ⟨A5, n5, c5, rfl, hc5, hw5, hb5⟩
    rw [show (ByteArray.data ⟨#[48, 48, 58, 48, 48, 58, 48, 48]⟩).toList = midnight from rfl] at hw5 ⊢
    have HB5 := Lib.hid (more3 HB4.out HB4.out.size hb5)
    have HR5 : Hid (Blk w5 w.heap.size 25 nilCh.cells) := HR4.out.below hb5 HR4.out.lt
    have HI5 := Lib.hid ((HI4.out.wide hs24).below hb5)
    have hs45 := hb5.size
    have hl5 := hw5.1
    clear hb5 hw5
    generalize takeD 58 midnight (takeD 45 anyDate (x :: tl)).2 = tk at *
    obtain ⟨tm, rest⟩ := tk
    generalize (takeD 45 anyDate (x :: tl)).1 = dt at *
    dsimp only at *
    by_cases hrest : rest = []
    · have n50 : n5 = 0 := by rw [← hl5, hrest]; rfl
      subst n50
      have HXR : Hid (exprD s.data.toList = (fieldsD dt tm).map (calD ((daysL x).getD []))) := by show _ = _; rw [HXQ.out, if_pos hrest]
      have HPF : Hid (Calls Tryz.prog 52 #[.string (str dt), .string (str tm)] w5 (FieldsP dt tm w5)) := parseFields_any (str dt) (str tm) K1.out K3.out w5 (HT.out.below HB5.out)
      clear hrest hl5 HXQ
      go_wp2_with fail
      refine HPF.out.mono ?_
      rintro e w6 ⟨sl, rfl, hfs, hb6⟩
      have HB6 := Lib.hid (more3 HB5.out HB5.out.size hb6)
      have HR6 := Lib.hid (HR5.out.below hb6 HR5.out.lt)
      have HI6 := Lib.hid ((HI5.out.wide hs45).below hb6)
      have HS6 := Lib.hid hb6.size
      have HFS := Lib.hid hfs
      clear hfs hb6 HPF
      have HA7 : Hid (Blk (w6.alloc (.cells #[.slice none 0 0, .slice none 0 0, .slice none 0 0, .slice none 0 0, .slice none 0 0, .slice none 0 0] 46)) w6.heap.size 46 (arr6 nilS)) := Blk.new w6 _ _
      have HR7 : Hid (Blk (w6.alloc (.cells #[.slice none 0 0, .slice none 0 0, .slice none 0 0, .slice none 0 0, .slice none 0 0, .slice none 0 0] 46)) w.heap.size 25 nilCh.cells) := HR6.out.alloc _
      have HB7 : Hid (Below w.heap.size w (w6.alloc (.cells #[.slice none 0 0, .slice none 0 0, .slice none 0 0, .slice none 0 0, .slice none 0 0, .slice none 0 0] 46))) := HB6.out.alloc HB6.out.size _
      have HI7 : Hid (IntsAt (w6.alloc (.cells #[.slice none 0 0, .slice none 0 0, .slice none 0 0, .slice none 0 0, .slice none 0 0, .slice none 0 0] 46)) (w6.heap.size + 1) DA dn ((daysL x).getD [])) := ((HI6.out.wide HS6.out).below ((Below.refl _ _).alloc (Nat.le_refl _) _)).wide (Nat.le_succ _)
      have HF7 : Hid (∀ fs, fieldsD dt tm = some fs → ∀ f, f < 6 → PtsAt (w6.alloc (.cells #[.slice none 0 0, .slice none 0 0, .slice none 0 0, .slice none 0 0, .slice none 0 0, .slice none 0 0] 46)) (w6.heap.size + 1) (sl f).A (sl f).n (fs.getD f [])) := fun fs h f hf => ((HFS.out fs h f hf).below ((Below.refl _ _).alloc (Nat.le_refl _) _)).wide (Nat.le_succ _)
      have Z7 : (w6.alloc (.cells #[.slice none 0 0, .slice none 0 0, .slice none 0 0, .slice none 0 0, .slice none 0 0, .slice none 0 0] 46)).heap.size = w6.heap.size + 1 := by simp
      have hRA : w.heap.size ≠ w6.heap.size := by have := HR6.out.lt; omega
      have HIS : Hid ((fieldsD dt tm).isSome = (fieldsD dt tm).isSome) := rfl
      generalize hbb : (fieldsD dt tm).isSome = bb at *
      have a0 : ((w6.alloc (.cells #[.slice none 0 0, .slice none 0 0, .slice none 0 0, .slice none 0 0, .slice none 0 0, .slice none 0 0] 46)).setRow w6.heap.size (arr6 sl)).cell? ⟨w6.heap.size, 0, none⟩ = some (.slice (sl 0).A (sl 0).n (sl 0).c) := (Blk.row HA7.out (arr6 sl)).cell 0
      have a1 : ((w6.alloc (.cells #[.slice none 0 0, .slice none 0 0, .slice none 0 0, .slice none 0 0, .slice none 0 0, .slice none 0 0] 46)).setRow w6.heap.size (arr6 sl)).cell? ⟨w6.heap.size, 1, none⟩ = some (.slice (sl 1).A (sl 1).n (sl 1).c) := (Blk.row HA7.out (arr6 sl)).cell 1
      have a2 : ((w6.alloc (.cells #[.slice none 0 0, .slice none 0 0, .slice none 0 0, .slice none 0 0, .slice none 0 0, .slice none 0 0] 46)).setRow w6.heap.size (arr6 sl)).cell? ⟨w6.heap.size, 2, none⟩ = some (.slice (sl 2).A (sl 2).n (sl 2).c) := (Blk.row HA7.out (arr6 sl)).cell 2
      have a3 : ((w6.alloc (.cells #[.slice none 0 0, .slice none 0 0, .slice none 0 0, .slice none 0 0, .slice none 0 0, .slice none 0 0] 46)).setRow w6.heap.size (arr6 sl)).cell? ⟨w6.heap.size, 3, none⟩ = some (.slice (sl 3).A (sl 3).n (sl 3).c) := (Blk.row HA7.out (arr6 sl)).cell 3
      have a4 : ((w6.alloc (.cells #[.slice none 0 0, .slice none 0 0, .slice none 0 0, .slice none 0 0, .slice none 0 0, .slice none 0 0] 46)).setRow w6.heap.size (arr6 sl)).cell? ⟨w6.heap.size, 4, none⟩ = some (.slice (sl 4).A (sl 4).n (sl 4).c) := (Blk.row HA7.out (arr6 sl)).cell 4
      have a5 : ((w6.alloc (.cells #[.slice none 0 0, .slice none 0 0, .slice none 0 0, .slice none 0 0, .slice none 0 0, .slice none 0 0] 46)).setRow w6.heap.size (arr6 sl)).cell? ⟨w6.heap.size, 5, none⟩ = some (.slice (sl 5).A (sl 5).n (sl 5).c) := (Blk.row HA7.out (arr6 sl)).cell 5
      have HR8 : Hid (Blk ((w6.alloc (.cells #[.slice none 0 0, .slice none 0 0, .slice none 0 0, .slice none 0 0, .slice none 0 0, .slice none 0 0] 46)).setRow w6.heap.size (arr6 sl)) w.heap.size 25 nilCh.cells) := (heap_row_other _ _ _ _ hRA).trans HR7.out
      have HI8 : Hid (IntsAt ((w6.alloc (.cells #[.slice none 0 0, .slice none 0 0, .slice none 0 0, .slice none 0 0, .slice none 0 0, .slice none 0 0] 46)).setRow w6.heap.size (arr6 sl)) (w6.heap.size + 1) DA dn ((daysL x).getD [])) := ints_keepN HI7.out HA7.out (noInt_arr _) (heap_row_other _ _ _)
      have HF8 : Hid (∀ fs, fieldsD dt tm = some fs → ∀ f, f < 6 → PtsAt ((w6.alloc (.cells #[.slice none 0 0, .slice none 0 0, .slice none 0 0, .slice none 0 0, .slice none 0 0, .slice none 0 0] 46)).setRow w6.heap.size (arr6 sl)) (w6.heap.size + 1) (sl f).A (sl f).n (fs.getD f [])) := fun fs h f hf => pts_keepN (HF7.out fs h f hf) HA7.out (noInt_arr _) (heap_row_other _ _ _)
      have HB8 : Hid (Below w.heap.size w ((w6.alloc (.cells #[.slice none 0 0, .slice none 0 0, .slice none 0 0, .slice none 0 0, .slice none 0 0, .slice none 0 0] 46)).setRow w6.heap.size (arr6 sl))) := below_setRow HB7.out (by have := HR6.out.lt; omega) _
      have Z8 : ((w6.alloc (.cells #[.slice none 0 0, .slice none 0 0, .slice none 0 0, .slice none 0 0, .slice none 0 0, .slice none 0 0] 46)).setRow w6.heap.size (arr6 sl)).heap.size = w6.heap.size + 1 := by rw [size_row]; exact Z7
      have HZ8 := Lib.hid Z8
      clear Z7 Z8
      go_wp2_with (first | (refine wpList_store_row rfl 46 (.tmp 9) (.tmp 40) (by rfl) w6.heap.size (arr6 sl) (by rfl) (by rfl) 46 (arr6 nilS) HA7.out (by kernel_rfl) rfl (arr6_all _) ?_; generalize ((w6.alloc (.cells #[.slice none 0 0, .slice none 0 0, .slice none 0 0, .slice none 0 0, .slice none 0 0, .slice none 0 0] 46)).setRow w6.heap.size (arr6 sl)) = w9 at *) | (refine wpList_store_row rfl 25 (.tmp 2) (.tmp 55) (by rfl) w.heap.size (chOf ⟨DA, dn, dc⟩ sl).cells (by rfl) (by rfl) 25 nilCh.cells HR8.out (by kernel_rfl) rfl (ch_all _) ?_))
      exact bodyPost_ret (results_cell_tmp (p := 2) (q := 3) rfl _ _ w.heap.size 25 (chOf ⟨DA, dn, dc⟩ sl).cells _ _ rfl rfl (Blk.row HR8.out _) Tryz.underlying25 rfl (by kernel_rfl)) rfl
        (exprP_map HXR.out hbb.symm (by rw [size_row, HZ8.out]; exact ints_keepN HI8.out HR8.out (noInt_ch _) (heap_row_other _ _ _)) (fun fs h f hf => by rw [size_row, HZ8.out]; exact pts_keepN (HF8.out fs h f hf) HR8.out (noInt_ch _) (heap_row_other _ _ _)) (below_setRow HB8.out (Nat.le_refl _) _))
    · have n5p : (0 : Int) < (n5 : Int) := by
        rcases Nat.eq_zero_or_pos n5 with h | h
        · rw [h] at hl5; exact absurd (List.eq_nil_of_length_eq_zero hl5) hrest
        · omega
      have HNO : Hid (exprD s.data.toList = none) := by show _ = _; rw [HXQ.out, if_neg hrest]
      clear hrest hl5 HXQ
      go_wp2_with (refine wpList_store_row rfl 25 (.tmp 2) (.tmp 35) (by rfl) w.heap.size nilCh.cells (by rfl) (by rfl) 25 nilCh.cells HR5.out (by kernel_rfl) rfl (ch_all _) ?_)
      exact bodyPost_ret (results_cell_tmp (p := 2) (q := 3) rfl _ _ w.heap.size 25 nilCh.cells _ _ rfl rfl (Blk.row HR5.out _) Tryz.underlying25 rfl (by kernel_rfl)) rfl (exprP_no HNO.out (below_setRow HB5.out (Nat.le_refl _) _))
end Go.Proofs.YtncolcjejgmhjaaGreatDoor
