/- The walks of search and choose. The graph in the making: its box, its edges; the walk of add. -/
import Derived.Test.YtcoepioahabbdaaGreatGyau
import Derived.Test.YtcoepioahabbdaaGreatGybd
namespace Go.Proofs.YtcoepioahabbdaaGreat
open Go.RowKit
theorem fold_zip (z a : Array Value) (n : Nat) (h : z.size = a.size) (hn : n = a.size) : Array.foldl (fun (cs : Array Value) (x : Value × Nat) => cs.setIfInBounds x.2 x.1) z (a.zipIdx 0) 0 n = a := by
  subst hn
  have key := @Array.foldl_induction _ _ (a.zipIdx 0) (motive := fun i (cs : Array Value) => cs.size = a.size ∧ ∀ j, j < i → cs[j]? = a[j]?) (init := z) (f := fun (cs : Array Value) (x : Value × Nat) => cs.setIfInBounds x.2 x.1) ⟨h, fun j hj => absurd hj (Nat.not_lt_zero _)⟩ (fun i cs ⟨h1, h2⟩ => by
    have hi : i.1 < a.size := by have := i.2; simpa using this
    refine ⟨by rw [Array.size_setIfInBounds]; exact h1, fun j hj => ?_⟩
    simp only [Fin.getElem_fin, Array.getElem_zipIdx, Nat.zero_add]
    by_cases e : j = i.1
    · subst e
      rw [Array.getElem?_setIfInBounds_self_of_lt (by rw [h1]; exact hi), Array.getElem?_eq_getElem hi]
    · rw [Array.getElem?_setIfInBounds_ne (fun k => e k.symm)]
      exact h2 j (by omega))
  rw [Array.size_zipIdx] at key
  refine Array.ext_getElem? fun j => ?_
  by_cases hj : j < a.size
  · exact key.2 j hj
  · rw [Array.getElem?_eq_none (by rw [key.1]; omega), Array.getElem?_eq_none (by omega)]
abbrev nmR : LdR → Tx := fun r => r.x.n
set_option maxRecDepth 10000 in
set_option maxHeartbeats 4000000 in
theorem search_any (A : Option Addr) (n c B : Nat) (U : List LdR) (t : Tx) (w : World) (h : LdsAt w B A n U) (hB : B ≤ w.heap.size) (hr : risesK nmR U) (hn62 : n ≤ 1048576) :
    Calls Tryz.prog 44 #[.slice A n c, .string (str t)] w (SrchPost nmR U t w) := by
  have HC := Lib.hid (bsrL_any A n c B U t w h hB hr hn62)
  clear h hr
  unfold SrchPost at HC ⊢
  go_enter Tryz.func44, Tryz.ntmps44
  go_wp2_with fail
  refine HC.out.mono ?_
  rintro e w' ⟨i, hp, rfl, hb⟩
  have HP := Lib.hid hp
  have HB := Lib.hid hb
  clear hp hb HC
  go_wp2_with fail
  go_ret2
  exact ⟨i, HP.out, rfl, HB.out⟩
def chR (L : List LdR) : List LdR := chooseK nmR kT L
theorem chR_sub {L : List LdR} : ∀ r ∈ chR L, r ∈ L := fun r hr => List.mem_of_find?_eq_some (chooseK_first L r hr)
theorem chR_len (L : List LdR) : (chR L).length ≤ 64 := chooseK_len L
theorem chR_take_succ {L : List LdR} {k : Nat} {r : LdR} (h : L[k]? = some r) : chR (L.take (k + 1)) = stepK nmR kT (chR (L.take k)) r := by
  unfold chR
  rw [List.take_add_one, h]
  exact chooseK_snoc _ _
def ChoosePost (l : List LdR) (w : World) (e : Ending) (w' : World) : Prop := ∃ A c, e = .returned (.slice A l.length c) ∧ OwnG ldLay 53 w' w.heap.size (.slice A l.length c) l ∧ Below w.heap.size w w'
theorem own_lds {w w0 : World} {base B n : Nat} {A A0 : Option Addr} {n0 c : Nat} {L U : List LdR} (h : OwnG ldLay 53 w base (.slice A n c) U) (hl : U.length ≤ 64) (hn : n = U.length) (hL : LdsAt w0 B A0 n0 L) (hb : Below B w0 w) (hB : B ≤ w.heap.size) (hs : ∀ r ∈ U, r ∈ L) : LdsAt w w.heap.size A n U := by
  subst hn
  obtain ⟨A', c', e, h1, h2, h3, h4⟩ := h.slice (by unfold maxLen; omega)
  injection e with e1 e2 e3
  subst e1 e3
  exact ⟨h4, fun r hr => ((hL.is r (hs r hr)).below hb).wide hB⟩
set_option maxRecDepth 10000 in
set_option maxHeartbeats 16000000 in
theorem choose_any (A : Option Addr) (n c B : Nat) (L : List LdR) (w : World) (h : LdsAt w B A n L) (hB : B ≤ w.heap.size) (hS : ∀ r ∈ L, r.x.n.length ≤ maxLen) (hn : n ≤ 1048576) :
    Calls Tryz.prog 28 #[.slice A n c] w (ChoosePost (chR L) w) := by
  have hLn := h.row.1
  have HL := Lib.hid h
  have HO0 : Hid (OwnG ldLay 53 w w.heap.size (.slice none 0 0) (chR (L.take 0))) := OwnG.nil _ _
  have HB0 : Hid (Below w.heap.size w w) := Below.refl _ _
  clear h
  unfold ChoosePost
  go_enter Tryz.func28, Tryz.ntmps28
  go_wp2_with fail
  go_loopw [3, 10] (fun v i wr => ∃ (A' : Option Addr) (m c' k : Nat), k ≤ n ∧ Hid (m = (chR (L.take k)).length) ∧ v = .slice A' m c' ∧ i = .int .i64 k ∧ Hid (OwnG ldLay 53 wr w.heap.size (.slice A' m c') (chR (L.take k))) ∧ Hid (Below w.heap.size w wr)) (fun _ i wr => n - (intOf i).toNat)
  case atStart => exact ⟨none, 0, 0, 0, Nat.zero_le _, rfl, rfl, rfl, HO0, HB0⟩
  case round =>
    clear HO0 HB0
    obtain ⟨A', m, c', k, hk, hM, rfl, rfl, hO, hBw⟩ := hrel
    by_cases hlt : k < n
    · have b0 : (0 : Int) ≤ (k : Int) := by omega
      have b1 : (k : Int) < (n : Int) := by omega
      have hm64 : m ≤ 64 := by rw [hM.out]; exact chR_len _
      have hws := hBw.out.size
      obtain ⟨ad, r, rfl, hab, hx, hld⟩ := load_row HL.out.row hlt
      have HLD := Lib.hid (hld wr (hBw.out.mono hB))
      have hI := HL.out.is r (List.mem_of_getElem? hx)
      have hnl := hS r (List.mem_of_getElem? hx)
      have hsz : (str r.x.n).size ≤ maxLen := by rw [str_size]; exact hnl
      have HX := Lib.hid (chR_take_succ hx)
      have hbx : Below w.heap.size w (wr.alloc (.cells r.a 53)) := hBw.out.alloc hws _
      have hbk : Blk (wr.alloc (.cells r.a 53)) wr.heap.size 53 r.a := Blk.new _ _ _
      have hox : OwnG ldLay 53 (wr.alloc (.cells r.a 53)) w.heap.size (.slice A' m c') (chR (L.take k)) := hO.out.below ((Below.refl _ wr).alloc (Nat.le_refl _) _)
      have e0 : (wr.alloc (.cells r.a 53)).cell? ⟨wr.heap.size, 0, none⟩ = some (.string (str r.x.n)) := box_cell hbk hI.name
      have hlu := own_lds hox (chR_len _) hM.out HL.out (hbx.mono hB) (by have := hbx.size; omega) (fun r hr => List.mem_of_mem_take (chR_sub r hr))
      have hsr := search_any A' m c' _ _ r.x.n _ hlu (Nat.le_refl _) (chooseK_rises _) (by omega)
      clear hx hld hI hlu
      obtain ⟨U, hU⟩ : ∃ U, chR (L.take k) = U := ⟨_, rfl⟩
      have hUr : risesK nmR U := by rw [← hU]; exact chooseK_rises _
      have HUR := Lib.hid hUr
      rw [hU] at hM hO hox hsr HX
      have hU64 : U.length ≤ 64 := by rw [← hM.out]; exact hm64
      clear hU hUr
      go_wp2_with (first
        | (refine wpList_load_part rfl 53 (.tmp 12) (by rfl) (ad.add (k * 42)) (by rfl) (.agg r.a) HLD.out ?_)
        | (refine wpList_store_row rfl 53 (.tmp 5) (.tmp 13) (by rfl) wr.heap.size r.a (by rfl) (by rfl) 53 _ (by exact heap_alloc_new _ _) (infoL r) (by rw [r.size]; rfl) r.all ?_
           rw [heap_alloc_setRow])
        | fail)
      obtain ⟨w2, hw2⟩ : ∃ w2, wr.alloc (.cells r.a 53) = w2 := ⟨_, rfl⟩
      obtain ⟨xb, hxb⟩ : ∃ xb, wr.heap.size = xb := ⟨_, rfl⟩
      rw [hw2] at hbx hbk hox hsr e0
      rw [hw2]
      rw [hxb] at hbk e0
      rw [hxb]
      have HBX := Lib.hid hbx
      have HBK := Lib.hid hbk
      have HOX := Lib.hid hox
      have hxl := hbk.lt
      clear hbx hbk hox hw2 hO hBw HLD
      refine hsr.mono ?_
      rintro e w3 ⟨i, hp, rfl, hb3⟩
      have HP := Lib.hid hp
      have HB3 := Lib.hid (more3 HBX.out HBX.out.size hb3)
      have HBK3 := Lib.hid (HBK.out.below hb3 hxl)
      have HOX3 := Lib.hid (HOX.out.below hb3)
      have e3 : w3.cell? ⟨xb, 0, none⟩ = some (.string (str r.x.n)) := (hb3.cell hxl).trans e0
      have h3s := hb3.size
      have hil := hp.le
      clear hp hb3 HBX HBK HOX hsr e0
      cases hh : hasK nmR U r.x.n with
      | true =>
        have HS := Lib.hid (stepK_has (K := kT) HUR.out (by omega) hh)
        clear hh
        go_wp2_with fail
        go_roundw
        case rel => exact ⟨A', m, c', k + 1, by omega, by rw [HX.out, HS.out]; exact hM.out, rfl, by go_num, by rw [HX.out, HS.out]; exact HOX3.out, HB3.out⟩
        case measure => simp [intOf]; omega
      | false =>
        by_cases h64 : i = 64
        · have HS := Lib.hid (stepK_full (K := kT) (by omega) HP.out h64)
          clear hh
          have z64 : ((i : Int) == 64) = true := by simp [h64]
          go_wp2_with fail
          go_roundw
          case rel => exact ⟨A', m, c', k + 1, by omega, by rw [HX.out, HS.out]; exact hM.out, rfl, by go_num, by rw [HX.out, HS.out]; exact HOX3.out, HB3.out⟩
          case measure => simp [intOf]; omega
        · have z64 : ((i : Int) == 64) = false := by simp; omega
          have hMay := Nm.May_any (str r.x.n) hsz w3
          rw [kT_good] at hMay
          by_cases hk0 : kT r.x.n = 0
          · have HS := Lib.hid (stepK_no (nm := nmR) (K := kT) (u := U) (x := r) hk0)
            rw [show decide (kT r.x.n ≠ 0) = false by simp [hk0]] at hMay
            clear hh hk0
            go_wp2_with fail
            refine hMay.mono ?_
            rintro e w4 ⟨rfl, hb4⟩
            have HB4 := Lib.hid (more3 HB3.out HB3.out.size hb4)
            have HOX4 := Lib.hid (HOX3.out.below hb4)
            clear hb4 hMay
            go_wp2_with fail
            go_roundw
            case rel => exact ⟨A', m, c', k + 1, by omega, by rw [HX.out, HS.out]; exact hM.out, rfl, by go_num, by rw [HX.out, HS.out]; exact HOX4.out, HB4.out⟩
            case measure => simp [intOf]; omega
          · have HS := Lib.hid (stepK_put (K := kT) HP.out hh hk0)
            rw [show decide (kT r.x.n ≠ 0) = true by simp [hk0]] at hMay
            clear hh hk0
            go_wp2_with fail
            refine hMay.mono ?_
            rintro e w4 ⟨rfl, hb4⟩
            have HB4 := Lib.hid (more3 HB3.out HB3.out.size hb4)
            have HOX4 := Lib.hid (HOX3.out.below hb4)
            have hbk4 := HBK3.out.below hb4 HBK3.out.lt
            have HLB := Lib.hid (load_box r hbk4)
            have HBK4 := Lib.hid hbk4
            clear hb4 hMay hbk4
            have hrs := r.size
            go_wp2_with (first
              | (refine wpList_load_part rfl 53 (.tmp 5) (by rfl) ⟨xb, 0, none⟩ (by rfl) (.agg r.a) HLB.out ?_)
              | fail)
            rw [fold_zip _ r.a _ (by rw [r.size]; rfl) (by first | rfl | exact r.size.symm)]
            have HBV : Hid (Blk (w4.alloc (.cells r.a 53)) w4.heap.size 53 r.a) := Blk.new _ _ _
            have HO5 : Hid (OwnG ldLay 53 (w4.alloc (.cells r.a 53)) w.heap.size (.slice A' m c') U) := HOX4.out.below ((Below.refl _ w4).alloc (Nat.le_refl _) _)
            have HB5 : Hid (Below w.heap.size w (w4.alloc (.cells r.a 53))) := HB4.out.alloc HB4.out.size _
            have hne : (Value.slice A' m c').ownBlock ≠ some w4.heap.size := fun e => by have := (HOX4.out.lt e).2; omega
            have hins := ins_any w.heap.size (.slice A' m c') U i w4.heap.size r _ HO5.out hil hU64 HBV.out hne HB5.out.size
            refine hins.mono ?_
            rintro e w6 ⟨v6, rfl, ho6, hg6, _⟩
            have hb6 := HB5.out.grown hg6 HB5.out.size (fun g hg => (HO5.out.lt hg).1)
            have hl6 : (U.take i ++ r :: U.drop i).length = U.length + 1 := by rw [List.length_append, List.length_cons, List.length_take, List.length_drop]; omega
            obtain ⟨g6, c6, rfl, q1, q2, q3, q4⟩ := ownG_at ho6 (fun e => by have := congrArg List.length e; rw [hl6] at this; cases this)
            rw [hl6] at ho6 q3
            have HO6 := Lib.hid ho6
            have HB6 := Lib.hid hb6
            rw [hl6, ← hM.out]
            rw [← hM.out] at q3
            unfold maxLen at q4
            clear hb6 ho6 hg6 hins hl6 HBV HO5 HB5 hne
            by_cases hf : m = 64
            · subst hf
              have HC := Lib.hid (ownG_cut HO6.out (k := 64) (by rw [← hM.out]; omega))
              have z1 : (64 : Int) ≤ (c6 : Int) := by omega
              go_wp2_with fail
              go_roundw
              case rel => exact ⟨_, 64, c6, k + 1, by omega, by rw [HX.out, HS.out, List.length_take, List.length_append, List.length_cons, List.length_take, List.length_drop]; have := hM.out; show _ = _; omega, rfl, by go_num, by rw [HX.out, HS.out]; exact HC.out, HB6.out⟩
              case measure => simp [intOf]; omega
            · have hm1 : m + 1 ≤ 64 := by omega
              have z1 : (m : Int) + 1 ≤ 64 := by omega
              have z2 : (m : Int) + 1 ≤ (c6 : Int) := by omega
              have zm : min ((m : Int) + 1) 64 = (m : Int) + 1 := by omega
              have ztn : ((m : Int) + 1).toNat = m + 1 := by omega
              have HC := Lib.hid (ownG_cut HO6.out (k := m + 1) (by rw [← hM.out]; exact Nat.le_refl _))
              have HT : Hid ((U.take i ++ r :: U.drop i).take 64 = (U.take i ++ r :: U.drop i).take (m + 1)) := by
                have hl6 : (U.take i ++ r :: U.drop i).length = m + 1 := by rw [List.length_append, List.length_cons, List.length_take, List.length_drop]; have := hM.out; omega
                have q1 : (U.take i ++ r :: U.drop i).take 64 = U.take i ++ r :: U.drop i := List.take_of_length_le (by omega)
                have q2 : (U.take i ++ r :: U.drop i).take (m + 1) = U.take i ++ r :: U.drop i := List.take_of_length_le (by omega)
                exact q1.trans q2.symm
              go_wp2_with fail
              go_roundw
              case rel => exact ⟨_, m + 1, c6, k + 1, by omega, by rw [HX.out, HS.out, HT.out, List.length_take, List.length_append, List.length_cons, List.length_take, List.length_drop]; have := hM.out; show _ = _; omega, rfl, by go_num, by rw [HX.out, HS.out, HT.out]; exact HC.out, HB6.out⟩
              case measure => simp [intOf]; omega
    · obtain rfl : k = n := by omega
      have HT : Hid (L.take k = L) := List.take_of_length_le (by omega)
      go_wp2_with fail
      go_ret
      rw [HT.out] at hM hO
      refine ⟨A', c', by rw [← hM.out]; rfl, by rw [← hM.out]; exact hO.out, hBw.out⟩
end Go.Proofs.YtcoepioahabbdaaGreat
namespace Go.Proofs.YtcoepioahabbdaaGreat
open Go.RowKit
structure Wb (w : World) (g : Nat) (UA : Option Addr) (n uc : Nat) (E : Value) (es : List Ed) : Prop where
  box : Blk w g 67 #[.slice UA n uc, E]
  own : OwnG edLay 58 w (g + 1) E es
structure FrE (g : Nat) (w : World) (E : Value) (w' : World) (E' : Value) : Prop where
  os : w'.os = w.os
  tape : w'.tape = w.tape
  output : w'.output = w.output
  size : w.heap.size ≤ w'.heap.size
  block : ∀ k, k < w.heap.size → k ≠ g → E.ownBlock ≠ some k → w'.heap[k]? = w.heap[k]?
  new : ∀ b, E'.ownBlock = some b → E.ownBlock = some b ∨ w.heap.size ≤ b
theorem FrE.refl (g : Nat) (w : World) (E : Value) : FrE g w E w E := ⟨rfl, rfl, rfl, Nat.le_refl _, fun _ _ _ _ => rfl, fun _ h => .inl h⟩
theorem FrE.trans {g : Nat} {a b c : World} {E F G : Value} (h : FrE g a E b F) (k : FrE g b F c G) : FrE g a E c G :=
  ⟨k.os.trans h.os, k.tape.trans h.tape, k.output.trans h.output, Nat.le_trans h.size k.size, fun i hi h1 h2 => by
    refine (k.block i (Nat.lt_of_lt_of_le hi h.size) h1 (fun e => ?_)).trans (h.block i hi h1 h2)
    rcases h.new i e with e | e
    · exact h2 e
    · omega, fun i hi => by
    rcases k.new i hi with e | e
    · exact h.new i e
    · exact .inr (Nat.le_trans h.size e)⟩
theorem FrE.of_below {g : Nat} {w w' : World} (E : Value) (h : Below w.heap.size w w') : FrE g w E w' E := ⟨h.os, h.tape, h.output, h.size, fun k hk _ _ => h.block k hk, fun _ h => .inl h⟩
theorem FrE.below {g : Nat} {w w' : World} {E E' : Value} (h : FrE g w E w' E') (hE : ∀ b, E.ownBlock = some b → g + 1 ≤ b) (hg : g ≤ w.heap.size) : Below g w w' :=
  ⟨h.os, h.tape, h.output, h.size, fun k hk => h.block k (by omega) (by omega) (fun e => by have := hE k e; omega)⟩
theorem Wb.ge {w : World} {g : Nat} {UA : Option Addr} {n uc : Nat} {E : Value} {es : List Ed} (h : Wb w g UA n uc E es) : ∀ b, E.ownBlock = some b → g + 1 ≤ b := fun _ hb => (h.own.lt hb).1
theorem Wb.lt {w : World} {g : Nat} {UA : Option Addr} {n uc : Nat} {E : Value} {es : List Ed} (h : Wb w g UA n uc E es) : g < w.heap.size := h.box.lt
theorem Wb.below {w w' : World} {g : Nat} {UA : Option Addr} {n uc : Nat} {E : Value} {es : List Ed} (h : Wb w g UA n uc E es) (hb : Below w.heap.size w w') : Wb w' g UA n uc E es := ⟨h.box.below hb h.box.lt, h.own.below hb⟩
theorem Wb.fr {w w' : World} {g : Nat} {UA : Option Addr} {n uc : Nat} {E E' : Value} {es : List Ed} (h : Wb w g UA n uc E es) (hf : FrE g w E w' E') : Below g w w' := hf.below h.ge (Nat.le_of_lt h.lt)
structure Bx (w : World) (g : Nat) (E : Value) (b : Nat) (T : TypeId) (cs : Array Value) : Prop where
  blk : Blk w b T cs
  ne : b ≠ g
  ned : E.ownBlock ≠ some b
theorem Bx.fr {w w' : World} {g b : Nat} {E E' : Value} {T : TypeId} {cs : Array Value} (h : Bx w g E b T cs) (hf : FrE g w E w' E') : Bx w' g E' b T cs :=
  ⟨(hf.block b h.blk.lt h.ne h.ned).trans h.blk, h.ne, fun e => by
    rcases hf.new b e with e | e
    · exact h.ned e
    · have := h.blk.lt; omega⟩
theorem Bx.below {w w' : World} {g b : Nat} {E : Value} {T : TypeId} {cs : Array Value} (h : Bx w g E b T cs) (hb : Below w.heap.size w w') : Bx w' g E b T cs := h.fr (.of_below E hb)
theorem Wb.bx {w : World} {g : Nat} {UA : Option Addr} {n uc : Nat} {E : Value} {es : List Ed} (h : Wb w g UA n uc E es) (T : TypeId) (cs : Array Value) : Bx (w.alloc (.cells cs T)) g E w.heap.size T cs :=
  ⟨Blk.new w T cs, by have := h.lt; omega, fun e => by have := (h.own.lt e).2; omega⟩
def WbPost (g : Nat) (UA : Option Addr) (n uc : Nat) (E : Value) (es' : List Ed) (w : World) (e : Ending) (w' : World) : Prop := e = .returned (.tuple #[]) ∧ ∃ E', Wb w' g UA n uc E' es' ∧ FrE g w E w' E'
structure Us (w : World) (g : Nat) (UA : Option Addr) (n : Nat) (U : List LdR) : Prop where
  lds : LdsAt w g UA n U
  rise : risesK nmR U
  few : n ≤ 64
theorem Us.fr {w w' : World} {g : Nat} {UA : Option Addr} {n uc : Nat} {E E' : Value} {es : List Ed} {U : List LdR} (h : Us w g UA n U) (hw : Wb w g UA n uc E es) (hf : FrE g w E w' E') : Us w' g UA n U := ⟨h.lds.below (hw.fr hf), h.rise, h.few⟩
theorem Us.below {w w' : World} {g : Nat} {UA : Option Addr} {n : Nat} {U : List LdR} (h : Us w g UA n U) (hb : Below w.heap.size w w') (hg : g ≤ w.heap.size) : Us w' g UA n U := ⟨h.lds.below (hb.mono hg), h.rise, h.few⟩
def hasN (U : List LdR) (t : Tx) : Bool := hasK nmR U t
def intsV (rs : List Int) : Array Value := (rs.map (fun r => Value.int .i64 r)).toArray
theorem intsV_get {rs : List Int} {k : Nat} {r : Int} (h : rs[k]? = some r) : (intsV rs)[k]? = some (.int .i64 r) := by
  unfold intsV
  rw [List.getElem?_toArray, List.getElem?_map, h]
  rfl
theorem ed_one {w : World} {b : Nat} (x : Ed) (h : Blk w b 58 #[.string (str x.f), .string (str x.t), .int .i64 x.r]) : ∀ (j : Nat) (u : Value), (edLay.all [x])[j]? = some u → w.cell? ((⟨b, 0, none⟩ : Addr).add j) = some u := fun j u hj => by
  rw [addA_mk, Nat.zero_add]
  refine box_cell h ?_
  simpa [Lay.all, edLay] using hj
theorem Wb.put {w w1 : World} {g : Nat} {UA : Option Addr} {n uc : Nat} {E v : Value} {es es' : List Ed} (h : Wb w g UA n uc E es) (ho : OwnG edLay 58 w1 (g + 1) v es') (hg : w.grownBy w1 E.ownBlock) (hn : v.ownBlock = E.ownBlock ∨ v.ownBlock = some w.heap.size) :
    Wb (w1.setCell ⟨g, 1, none⟩ v) g UA n uc v es' ∧ FrE g w E (w1.setCell ⟨g, 1, none⟩ v) v ∧ Blk w1 g 67 #[.slice UA n uc, E] := by
  have hB : Blk w1 g 67 #[.slice UA n uc, E] := (hg.block g h.lt (fun e => by have := h.ge g e.symm; omega)).trans h.box
  refine ⟨⟨hB.setCell 1 v, ho.kept (grown_setCell w1 ⟨g, 1, none⟩ v) (fun x hx e => by have := (ho.lt hx).1; injection e with e; simp at e; omega)⟩, ⟨hg.os, hg.tape, hg.output, by simpa using hg.size, fun k hk h1 h2 => ?_, fun b hb => ?_⟩, hB⟩
  · exact (heap_setCell_other w1 ⟨g, 1, none⟩ k v h1).trans (hg.block k hk (fun e => h2 e.symm))
  · rcases hn with e | e
    · exact .inl (by rw [← e]; exact hb)
    · rw [e] at hb
      injection hb with hb
      exact .inr (by omega)
set_option maxRecDepth 10000 in
set_option maxHeartbeats 16000000 in
theorem add_any (g : Nat) (UA : Option Addr) (n uc : Nat) (E : Value) (es : List Ed) (U : List LdR) (f t : Tx) (rs : List Int) (rb : Nat) (w : World) (hw : Wb w g UA n uc E es) (hU : Us w g UA n U) (hR : Bx w g E rb 3 (intsV rs)) (hr : rs.length ≤ 8) (hl : es.length ≤ 549755813888) :
    Calls Tryz.prog 49 #[.pointer (some ⟨g, 0, none⟩), .string (str f), .string (str t), .slice (some ⟨rb, 0, none⟩) rs.length rs.length] w (WbPost g UA n uc E (es ++ addC (hasN U) f (rs.map (fun r => (t, r)))) w) := by
  have HW := Lib.hid hw
  have HU := Lib.hid hU
  have HR := Lib.hid hR
  have hgl := hw.lt
  have c0 : w.cell? ⟨g, 0, none⟩ = some (.slice UA n uc) := hw.box.cell 0
  have hsr := search_any UA n uc g U t w hU.lds (Nat.le_of_lt hgl) hU.rise (by have := hU.few; omega)
  have HA := Lib.hid (addC_to (hasN U) f t rs)
  obtain ⟨ad1, had1⟩ : ∃ ad1, addC (hasN U) f (rs.map (fun r => (t, r))) = ad1 := ⟨_, rfl⟩
  rw [had1] at HA
  rw [had1]
  clear hw hU hR had1
  go_enter Tryz.func49, Tryz.ntmps49
  go_wp2_with fail
  refine hsr.mono ?_
  rintro e w1 ⟨i, _, rfl, hb1⟩
  have HW1 := Lib.hid (HW.out.below hb1)
  have HU1 := Lib.hid (HU.out.below hb1 (Nat.le_of_lt hgl))
  have HR1 := Lib.hid (HR.out.below hb1)
  have HF1 := Lib.hid (FrE.of_below (g := g) E hb1)
  clear hb1 HW HU HR c0 hsr
  cases hh : hasN U t with
  | false =>
    have hh' : hasK nmR U t = false := hh
    rw [hh']
    have HN : Hid (ad1 = []) := by show _ = _; rw [HA.out, hh, if_neg (by simp)]
    clear hh hh' HA
    go_wp2_with fail
    refine bodyPost_ret (results_none rfl _ _ _) rfl ?_
    exact ⟨rfl, E, by rw [HN.out, List.append_nil]; exact HW1.out, HF1.out⟩
  | true =>
    have hh' : hasK nmR U t = true := hh
    rw [hh']
    have hq := eqT_str f t
    by_cases hft : f = t
    · rw [decide_eq_true hft] at hq
      have HN : Hid (ad1 = []) := by show _ = _; rw [HA.out, if_neg (by simp [hft])]
      clear hft hh hh' HA
      go_wp2_with fail
      refine bodyPost_ret (results_none rfl _ _ _) rfl ?_
      exact ⟨rfl, E, by rw [HN.out, List.append_nil]; exact HW1.out, HF1.out⟩
    · rw [decide_eq_false hft] at hq
      have HN : Hid (ad1 = rs.map (fun r => (⟨f, t, r⟩ : Ed))) := by show _ = _; rw [HA.out, if_pos ⟨hh, hft⟩]
      clear hft hh hh' HA
      have hrm : rs.length ≤ maxLen := by unfold maxLen; omega
      go_wp2_with fail
      go_loopw [30] (fun i wr => ∃ (k : Nat) (E' : Value), k ≤ rs.length ∧ i = .int .i64 k ∧ Hid (Wb wr g UA n uc E' (es ++ (rs.take k).map (fun r => (⟨f, t, r⟩ : Ed)))) ∧ Hid (FrE g w1 E wr E')) (fun i wr => rs.length - (intOf i).toNat)
      case atStart => exact ⟨0, E, Nat.zero_le _, rfl, by show Wb _ _ _ _ _ _ _; rw [List.take_zero, List.map_nil, List.append_nil]; exact HW1.out, FrE.refl _ _ _⟩
      case round =>
        obtain ⟨k, E', hk, rfl, hWk, hFk⟩ := hrel
        by_cases hlt : k < rs.length
        · have b0 : (0 : Int) ≤ (k : Int) := by omega
          have b1 : (k : Int) < (rs.length : Int) := by omega
          obtain ⟨r, hx⟩ : ∃ r, rs[k]? = some r := ⟨_, List.getElem?_eq_getElem hlt⟩
          have HRk := Lib.hid (HR1.out.fr hFk.out)
          have q0 : wr.cell? ⟨rb, k, none⟩ = some (.int .i64 r) := box_cell HRk.out.blk (intsV_get hx)
          have q1 : wr.cell? ⟨g, 1, none⟩ = some E' := hWk.out.box.cell 1
          have HT := Lib.hid (map_take_succ hx (fun r => (⟨f, t, r⟩ : Ed)))
          have hln : (es ++ (rs.take k).map (fun r => (⟨f, t, r⟩ : Ed))).length ≤ 549755813888 + 8 := by rw [List.length_append, List.length_map, List.length_take]; omega
          obtain ⟨es1, hes1⟩ : ∃ es1, es ++ (rs.take k).map (fun r => (⟨f, t, r⟩ : Ed)) = es1 := ⟨_, rfl⟩
          have HT2 : Hid (es ++ (rs.take (k + 1)).map (fun r => (⟨f, t, r⟩ : Ed)) = es1 ++ [⟨f, t, r⟩]) := by show _ = _; rw [HT.out, ← List.append_assoc, hes1]
          rw [hes1] at hWk hln
          have HWa := Lib.hid (hWk.out.below ((Below.refl _ wr).alloc (Nat.le_refl _) (.cells #[.string (str f), .string (str t), .int .i64 r] 58)))
          have HFa := Lib.hid (hFk.out.trans (FrE.of_below E' ((Below.refl _ wr).alloc (Nat.le_refl _) (.cells #[.string (str f), .string (str t), .int .i64 r] 58))))
          have HEa := Lib.hid (ed_one ⟨f, t, r⟩ (Blk.new wr 58 #[.string (str f), .string (str t), .int .i64 r]))
          have hga := hWk.out.lt
          clear hes1 HT hWk hFk HRk hx
          go_wp2_with (refine wpList_appendO edTy rfl _ _ rfl (g + 1) E' es1 [⟨f, t, r⟩] rfl HWa.out.own ⟨wr.heap.size, 0, none⟩ 1 1 rfl rfl HEa.out (by omega) (by simp; omega) ?_)
          intro v5 w5 own5 grow5 new5
          obtain ⟨k1, k2, k3⟩ := HWa.out.put own5 grow5 (by simpa using new5)
          have q5 : w5.cell? ⟨g, 1, none⟩ = some E' := k3.cell 1
          have z5 : w5.frozen? ⟨g, 1, none⟩ = false := k3.frozen 1
          obtain ⟨A5, c5, rfl, _, _, _, _⟩ := own5.slice (by rw [List.length_append, List.length_singleton]; unfold maxLen; omega)
          rw [show (es1 ++ [(⟨f, t, r⟩ : Ed)]).length = es1.length + 1 by simp] at k1 k2
          rw [← HT2.out] at k1
          have K1 := Lib.hid k1
          have K2 := Lib.hid (HFa.out.trans k2)
          clear own5 grow5 new5 k1 k2 k3 HWa HFa HEa q0 q1
          go_wp2_with fail
          go_roundw
          case rel => exact ⟨k + 1, _, by omega, by go_num, K1, K2⟩
          case measure => simp [intOf]; omega
        · obtain rfl : k = rs.length := by omega
          rw [List.take_of_length_le (Nat.le_refl _)] at hWk
          have HF2 := Lib.hid (HF1.out.trans hFk.out)
          go_wp2_with fail
          refine bodyPost_ret (results_none rfl _ _ _) rfl ?_
          exact ⟨rfl, E', by rw [HN.out]; exact hWk.out, HF2.out⟩
end Go.Proofs.YtcoepioahabbdaaGreat
