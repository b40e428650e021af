/- The walk of the document's Drops. -/
import Derived.Test.YthodbeeglkedcaaGreatDzay
import Derived.Laws.OwnMore
namespace Go.Proofs.YthodbeeglkedcaaGreat
open Go.RowKit
def qD (fo : List (List UInt8)) (w : Wy) : Bool := decide (w.k = 2) && decide (w.u ∈ fo)
theorem drops_q (l : List Fi) (u : List UInt8) : dropsL nmsP l u = (takeL (qD (foldsL nmsP u)) nmsP [] l).map (whereL nmsP l u) := rfl
def pthL (fs : List Fi) (L : List (List UInt8)) : List UInt8 := (L.find? (fun p => (atL fs p).isSome)).getD []
def candL (fo : List (List UInt8)) (x : List UInt8) : List (List UInt8) := fo.flatMap fun v => plc.map fun a => dropP a v x
theorem where_pth (fs : List Fi) (u x : List UInt8) : whereL nmsP fs u x = pthL fs (candL (foldsL nmsP u) x) := rfl
theorem dropP_ne (a v x : List UInt8) : dropP a v x ≠ [] := by unfold dropP; simp
theorem pth_snoc {fs : List Fi} {L : List (List UInt8)} {p : List UInt8} (hL : ∀ q ∈ L, q ≠ []) : pthL fs (L ++ [p]) = if (atL fs p).isSome = true ∧ pthL fs L = [] then p else pthL fs L := by
  unfold pthL
  rw [List.find?_append]
  rcases hf : L.find? (fun p => (atL fs p).isSome) with _ | q
  · by_cases h : (atL fs p).isSome = true <;> simp [h]
  · have hq : q ≠ [] := hL q (List.mem_of_find?_eq_some hf)
    simp [hq]
theorem cand_ne (fo : List (List UInt8)) (x : List UInt8) : ∀ q ∈ candL fo x, q ≠ [] := by
  intro q hq
  obtain ⟨v, _, hq⟩ := List.mem_flatMap.1 hq
  obtain ⟨a, _, rfl⟩ := List.mem_map.1 hq
  exact dropP_ne _ _ _
theorem cand_succ {fo : List (List UInt8)} {j : Nat} {v : List UInt8} (x : List UInt8) (hv : fo[j]? = some v) : candL (fo.take (j + 1)) x = candL (fo.take j) x ++ plc.map fun a => dropP a v x := by
  have hj : j < fo.length := by
    rcases Nat.lt_or_ge j fo.length with h' | h'
    · exact h'
    · rw [List.getElem?_eq_none h'] at hv; cases hv
  have he : fo[j] = v := by rw [List.getElem?_eq_getElem hj] at hv; exact Option.some.inj hv
  unfold candL
  rw [List.take_succ_eq_append_getElem hj, he, List.flatMap_append]
  simp
theorem path_o_len (p : List UInt8) : (pathW nmsP p).o.length ≤ 60 := by
  have := path_is nmsP p
  generalize pathW nmsP p = w at *
  cases this with
  | none => simp [noWy]
  | own a u h1 h2 => simp
  | drop a u x h1 h2 h3 =>
    unfold dropN at h3
    rw [Bool.and_eq_true, decide_eq_true_eq] at h3
    show x.length ≤ 60
    omega
  | want a u v h1 h2 h3 => exact nmsOk.short v h3
  | need a u v h1 h2 h3 => exact nmsOk.short v h3
theorem take_o_len (q : Wy → Bool) (l : List Fi) : ∀ x ∈ takeL q nmsP [] l, x.length ≤ 60 := by
  intro x hx
  rcases (take_mem q nmsP l [] x).1 hx with h | ⟨f, _, _, h⟩
  · cases h
  · rw [← h]; exact path_o_len _
theorem tmpl_len (u : List UInt8) : (nmsP.tmpl u).length ≤ 200 := by
  show (Nm.tmplS (str u)).data.toList.length ≤ 200
  rw [size_list]
  unfold Nm.tmplS
  split
  · decide
  · have h1 := Nm.joinS_size (Nm.preP (str u)) ⟨#[]⟩ (Nm.atP (str u)) (Nm.kindP (str u))
    have h2 := Nm.preP_size (str u)
    have h3 : (⟨#[]⟩ : ByteArray).size = 0 := rfl
    omega
theorem tmpl_str (u : List UInt8) : str (nmsP.tmpl u) = Nm.tmplS (str u) := str_data (Nm.tmplS (str u))
theorem drop_list (a v x : List UInt8) : (str a ++ (⟨#[47]⟩ : ByteArray) ++ str v ++ (⟨#[46, 100, 47]⟩ : ByteArray) ++ str x ++ (⟨#[46, 99, 111, 110, 102]⟩ : ByteArray)).data.toList = dropP a v x := by
  rw [app_list, app_list, app_list, app_list, app_list, str_list, str_list, str_list]
  unfold dropP dotD dotC
  simp
theorem row_lit (w : World) (x : ByteArray) : (w.alloc (.cells #[.string x] 9)).ownsRow w.heap.size 9 1 (.slice (some ⟨w.heap.size, 0, none⟩) 1 1) 1 (wcells [x.data.toList]) := by
  have h := World.ownsRow_lit (base := w.heap.size) (e := 9) (size := 1) w #[.string x] 1 (Nat.le_refl _) (by decide) rfl
  rw [one_cell]
  exact h
theorem any_mem (l : List (List UInt8)) (a : List UInt8) : (l.any (fun x => decide (x = a))) = decide (a ∈ l) := by
  rw [Bool.eq_iff_iff, List.any_eq_true, decide_eq_true_eq]
  constructor
  · rintro ⟨x, hx, e⟩
    rw [decide_eq_true_eq] at e
    rw [← e]; exact hx
  · exact fun h => ⟨a, h, by simp⟩
theorem plc_succ {m : Nat} {a : List UInt8} (v x : List UInt8) (ha : plc[m]? = some a) : (plc.take (m + 1)).map (fun a => dropP a v x) = (plc.take m).map (fun a => dropP a v x) ++ [dropP a v x] := by
  have hm : m < plc.length := by
    rcases Nat.lt_or_ge m plc.length with h' | h'
    · exact h'
    · rw [List.getElem?_eq_none h'] at ha; cases ha
  have he : plc[m] = a := by rw [List.getElem?_eq_getElem hm] at ha; exact Option.some.inj ha
  rw [List.take_succ_eq_append_getElem hm, he, List.map_append]
  rfl
theorem cand_ne2 (fo : List (List UInt8)) (v x : List UInt8) (m : Nat) : ∀ q ∈ candL fo x ++ (plc.take m).map (fun a => dropP a v x), q ≠ [] := by
  intro q hq
  rcases List.mem_append.1 hq with hq | hq
  · exact cand_ne fo x q hq
  · obtain ⟨a, _, rfl⟩ := List.mem_map.1 hq
    exact dropP_ne _ _ _
theorem pth_next {fs : List Fi} {fo : List (List UInt8)} {v x a : List UInt8} {m : Nat} (ha : plc[m]? = some a) :
    pthL fs (candL fo x ++ (plc.take (m + 1)).map (fun a => dropP a v x)) = if (atL fs (dropP a v x)).isSome = true ∧ pthL fs (candL fo x ++ (plc.take m).map (fun a => dropP a v x)) = [] then dropP a v x else pthL fs (candL fo x ++ (plc.take m).map (fun a => dropP a v x)) := by
  rw [plc_succ v x ha, ← List.append_assoc]
  exact pth_snoc (cand_ne2 fo v x m)
theorem drop_str (a v x : List UInt8) : str a ++ (⟨#[47]⟩ : ByteArray) ++ str v ++ (⟨#[46, 100, 47]⟩ : ByteArray) ++ str x ++ (⟨#[46, 99, 111, 110, 102]⟩ : ByteArray) = str (dropP a v x) := ext_list (drop_list a v x)
theorem at_drop (A : Option Addr) (n c B : Nat) (l : List Fi) (a v x : List UInt8) (w : World) (h : FisAt w B A n l) (hB : B ≤ w.heap.size) :
    Calls Tryz.prog 40 #[.slice A n c, .string (str a ++ (⟨#[47]⟩ : ByteArray) ++ str v ++ (⟨#[46, 100, 47]⟩ : ByteArray) ++ str x ++ (⟨#[46, 99, 111, 110, 102]⟩ : ByteArray))] w fun e w' => e = .returned (atV (atL l (dropP a v x))) ∧ Below w.heap.size w w' := by
  have := at_any A n c B l (str a ++ (⟨#[47]⟩ : ByteArray) ++ str v ++ (⟨#[46, 100, 47]⟩ : ByteArray) ++ str x ++ (⟨#[46, 99, 111, 110, 102]⟩ : ByteArray)) w h hB
  rw [drop_list] at this
  exact this
theorem map_take {α β : Type} {l : List α} {k : Nat} {x : α} (f : α → β) (hx : l[k]? = some x) : (l.take (k + 1)).map f = (l.take k).map f ++ [f x] := by
  have hk : k < l.length := by
    rcases Nat.lt_or_ge k l.length with h' | h'
    · exact h'
    · rw [List.getElem?_eq_none h'] at hx; cases hx
  have he : l[k] = x := by rw [List.getElem?_eq_getElem hk] at hx; exact Option.some.inj hx
  rw [List.take_succ_eq_append_getElem hk, he, List.map_append]
  rfl
def RowNew (B0 : Nat) (w' : World) (v : Value) (l : List (List UInt8)) : Prop := ∃ A c, v = .slice A l.length c ∧ RowAt w' w'.heap.size A l.length l ∧ ∀ ad, A = some ad → B0 ≤ ad.block
theorem own_new {w : World} {base B0 : Nat} {v : Value} {l : List (List UInt8)} (h : OwnT w base v l) (hn : l.length ≤ maxLen) (hB : B0 ≤ base) : RowNew B0 w v l := by
  obtain ⟨A, c, rfl, hr⟩ := own_row h hn
  refine ⟨A, c, rfl, hr, ?_⟩
  rintro ad rfl
  rcases h.2 with ⟨h1, _⟩ | ⟨g, cap, cur, h1, h2, _⟩
  · cases h1
  · injection h1 with h1
    injection h1 with h1
    subst h1
    exact Nat.le_trans hB h2
def DropsP (l : List Fi) (u : List UInt8) (w : World) (e : Ending) (w' : World) : Prop := ∃ v, e = .returned v ∧ RowNew w.heap.size w' v (dropsL nmsP l u) ∧ Below w.heap.size w w'
set_option maxRecDepth 100000 in
set_option maxHeartbeats 8000000 in
theorem Drops_any (A : Option Addr) (n c B : Nat) (l : List Fi) (u : ByteArray) (hu : u.size ≤ 4194304) (w : World) (h : FisAt w B A n l) (hB : B ≤ w.heap.size) (hs : ∀ x ∈ l, SizeF x) (hn : n ≤ 120) :
    Calls Tryz.prog 22 #[.slice A n c, .string u] w (DropsP l u.data.toList w) := by
  obtain ⟨i0, hi, hz0, hz1, hz2⟩ := info_parts strInfo
  obtain ⟨ul, rfl⟩ : ∃ ul, u = str ul := ⟨u.data.toList, (str_data u).symm⟩
  rw [str_list]
  have hl := h.1
  have HL := Lib.hid h
  have HS := Lib.hid hs
  have hun : (str ul).size ≤ maxLen := by unfold maxLen; omega
  obtain ⟨bi, hbi⟩ : ∃ b, nmsP.isI ul = b := ⟨_, rfl⟩
  have hfo : Hid (foldsL nmsP ul = if bi = true then [ul, nmsP.tmpl ul] else [ul]) := by show _ = _; unfold foldsL; rw [hbi]
  have HI : Hid (∀ W, Calls Tryz.prog 20 #[.string (str ul)] W fun e w' => e = .returned (.bool bi) ∧ Below W.heap.size W w') := fun W => by
    have := Nm.rIsInstance_any (str ul) hun W
    rw [← isI_eq, hbi] at this
    exact this
  have HT : Hid (∀ W, Calls Tryz.prog 21 #[.string (str ul)] W fun e w' => e = .returned (.string (str (nmsP.tmpl ul))) ∧ Below W.heap.size W w') := fun W => by
    have := Nm.rTemplate_any (str ul) hun W
    rw [← tmpl_str] at this
    exact this
  have honet := Lib.hid (one_cell (str (nmsP.tmpl ul)))
  rw [str_list] at honet
  have htl := tmpl_len ul
  clear hbi
  have HO0 := Lib.hid (row_lit w (str ul))
  rw [str_list] at HO0
  have HB0 : Hid (Below w.heap.size w (w.alloc (.cells #[.string (str ul)] 9))) := (Below.refl _ w).alloc (Nat.le_refl _) _
  clear h hs
  unfold DropsP
  go_enter Tryz.func22, Tryz.ntmps22
  go_wp2_with fail
  refine (HI.out _).mono ?_
  rintro e1 w1 ⟨rfl, hb1⟩
  have HB1 := Lib.hid (more3 HB0.out HB0.out.size hb1)
  have HO1 := Lib.hid (own_below HO0.out hb1)
  clear hb1 HB0 HO0
  go_upto_if 23 with fail
  go_cut [6] (fun v wx => ∃ (FA : Option Addr) (nf fc : Nat), v = .slice FA nf fc ∧ nf ≤ 2 ∧ Hid (RowAt wx wx.heap.size FA nf (foldsL nmsP ul)) ∧ Hid (Below w.heap.size w wx))
  case first =>
    cases bi with
    | false =>
      have hr : Hid (RowAt w1 w1.heap.size (some ⟨w.heap.size, 0, none⟩) 1 [ul]) := by
        obtain ⟨A', c', e', hr⟩ := own_row HO1.out (by decide)
        injection e' with e1
        subst e1
        exact hr
      have hfo2 : foldsL nmsP ul = [ul] := by rw [hfo.out]; rfl
      go_wp2_with fail
      go_meet
      exact ⟨_, 1, _, rfl, by omega, by rw [hfo2]; exact hr, HB1⟩
    | true =>
      have hfo2 : foldsL nmsP ul = [ul, nmsP.tmpl ul] := by rw [hfo.out]; rfl
      go_wp2_with fail
      refine (HT.out _).mono ?_
      rintro e2 w2 ⟨rfl, hb2⟩
      have HB2 := Lib.hid (more3 HB1.out HB1.out.size hb2)
      have HO2 := Lib.hid (own_below HO1.out hb2)
      have hbs := HB2.out.size
      clear hb2 HB1 HO1
      go_wp2_with (at_builtin; refine wpList_append_own _ rfl _ _ 24 rfl w.heap.size 9 i0 (.string ⟨#[]⟩) 1 16 Tryz.underlying24 hi hz0 hz1 hz2 rfl (by decide) _ _ _ rfl (HO2.out.alloc _) ⟨w2.heap.size, 0, none⟩ 1 1 [.string (str (nmsP.tmpl ul))] rfl rfl ?a1 ?b1 ?c1 ?d1 ?e1 ?_)
      case a1 =>
        intro j u hj
        match j, hj with
        | 0, hj =>
          simp at hj
          subst hj
          simp [Addr.add]
      case b1 => intro u hu; simp at hu; subst hu; rfl
      case c1 => unfold maxLen; omega
      case d1 => omega
      case e1 => simp; omega
      intro v' w3 own3 grow3 _
      have HO3 : OwnT w3 w.heap.size v' [ul, nmsP.tmpl ul] := by
        show World.ownsRow _ _ _ _ _ _ _
        rw [show wcells [ul, nmsP.tmpl ul] = wcells [ul] ++ wcells [nmsP.tmpl ul] from rfl, honet.out]
        exact own3
      obtain ⟨A', c', rfl, hr⟩ := own_row HO3 (by show (2 : Nat) ≤ maxLen; decide)
      have HB3 : Hid (Below w.heap.size w w3) := (HB2.out.alloc hbs _).grown grow3 (by simp; omega) (fun g hg => (HO2.out.lt g hg).1)
      clear own3 grow3 HO3
      go_wp2_with fail
      go_meet
      exact ⟨_, 2, _, rfl, by omega, by rw [hfo2]; exact hr, HB3⟩
  case rest =>
    obtain ⟨FA, nf, fc, rfl, hnf, hF, hBc⟩ := hcut
    have hfl : (foldsL nmsP ul).length = nf := hF.out.1
    have hwf := hBc.out.size
    have HQ := Lib.hid (drops_q l ul)
    have HWh := Lib.hid (fun x => where_pth l ul x)
    have hfs : ∀ v ∈ foldsL nmsP ul, v.length ≤ 4194304 := by
      intro v hv
      unfold foldsL at hv
      split at hv
      · rcases List.mem_cons.1 hv with rfl | hv
        · exact hu
        · rw [List.mem_singleton.1 hv]; omega
      · rw [List.mem_singleton.1 hv]; exact hu
    have HFS := Lib.hid hfs
    generalize hFO : foldsL nmsP ul = fo at *
    clear HI HT honet hfo hfs HO1 HB1
    have HTO := Lib.hid (take_o_len (qD fo) l)
    go_wp2_with fail
    go_loopw [5, 31] (fun p i wr => ∃ (k n1 : Nat) (A1 : Option Addr) (c1 : Nat), k ≤ n ∧ n1 ≤ k ∧ i = .int .i64 k ∧ p = .slice A1 n1 c1 ∧ Hid (RowAt wr wr.heap.size A1 n1 (takeL (qD fo) nmsP [] (l.take k))) ∧ Hid (Below wc.heap.size wc wr)) (fun p i wr => n - (intOf i).toNat)
    case atStart => exact ⟨0, 0, none, 0, Nat.zero_le _, Nat.le_refl _, rfl, rfl, RowAt.none_, Below.refl _ _⟩
    case round =>
      obtain ⟨k, n1, A1, c1, hk, hn1, rfl, rfl, hR, hb⟩ := hrel
      have hbs := hb.out.size
      by_cases hlt : k < n
      · have b0 : (0 : Int) ≤ (k : Int) := by omega
        have b1 : (k : Int) < (n : Int) := by omega
        obtain ⟨ad, x, rfl, hab, hx, q0, q1, q2⟩ := (HL.out.below (more3 hBc.out hwf hb.out |>.mono hB)).at_ hlt
        have z1 : (ad.add (k * 3)).block < wr.heap.size := by rw [block_addR]; omega
        have HP := Lib.hid (fun W => path_short x (HS.out x (List.mem_of_getElem? hx)) W)
        have HT3 := Lib.hid (takeL_succ (q := qD fo) hx)
        obtain ⟨y, hy⟩ : ∃ y, pathW nmsP x.p = y := ⟨_, rfl⟩
        rw [hy] at HP HT3
        clear hx hy
        have hRf : Hid (RowAt (wr.alloc (.cells #[.string (str x.p), .string (str x.t), .string (str x.l)] 34)) (wr.alloc (.cells #[.string (str x.p), .string (str x.t), .string (str x.l)] 34)).heap.size A1 n1 (takeL (qD fo) nmsP [] (l.take k))) := (hR.out.below ((Below.refl _ wr).alloc (Nat.le_refl _) _)).wide (by simp)
        have hbf : Hid (Below wc.heap.size wc (wr.alloc (.cells #[.string (str x.p), .string (str x.t), .string (str x.l)] 34))) := hb.out.alloc hbs _
        go_wp2_with fail
        generalize wr.alloc (.cells #[.string (str x.p), .string (str x.t), .string (str x.l)] 34) = wg at *
        refine (HP.out _).mono ?_
        rintro e2 w2 ⟨rfl, hb2⟩
        have hRp := Lib.hid ((hRf.out.below hb2).wide hb2.size)
        have hbp := Lib.hid (more3 hbf.out hbf.out.size hb2)
        have hRw : Hid (RowAt (w2.alloc (.cells #[.int .i64 y.k, .string (str y.pl), .string (str y.u), .string (str y.o)] 68)) (w2.alloc (.cells #[.int .i64 y.k, .string (str y.pl), .string (str y.u), .string (str y.o)] 68)).heap.size A1 n1 (takeL (qD fo) nmsP [] (l.take k))) := (hRp.out.below ((Below.refl _ w2).alloc (Nat.le_refl _) _)).wide (by simp)
        have hbw : Hid (Below wc.heap.size wc (w2.alloc (.cells #[.int .i64 y.k, .string (str y.pl), .string (str y.u), .string (str y.o)] 68))) := hbp.out.alloc hbp.out.size _
        have hW : Hid (Blk (w2.alloc (.cells #[.int .i64 y.k, .string (str y.pl), .string (str y.u), .string (str y.o)] 68)) w2.heap.size 68 (wyA y)) := Blk.new w2 _ _
        have hk0 : (w2.alloc (.cells #[.int .i64 y.k, .string (str y.pl), .string (str y.u), .string (str y.o)] 68)).cell? ⟨w2.heap.size, 0, none⟩ = some (.int .i64 y.k) := hW.out.cell 0
        have hk2 : (w2.alloc (.cells #[.int .i64 y.k, .string (str y.pl), .string (str y.u), .string (str y.o)] 68)).cell? ⟨w2.heap.size, 2, none⟩ = some (.string (str y.u)) := hW.out.cell 2
        have hk3 : (w2.alloc (.cells #[.int .i64 y.k, .string (str y.pl), .string (str y.u), .string (str y.o)] 68)).cell? ⟨w2.heap.size, 3, none⟩ = some (.string (str y.o)) := hW.out.cell 3
        have HH : Hid (Calls Tryz.prog 25 #[.slice FA nf fc, .string (str y.u)] (w2.alloc (.cells #[.int .i64 y.k, .string (str y.pl), .string (str y.u), .string (str y.o)] 68)) fun e w' => e = .returned (.bool (decide (y.u ∈ fo))) ∧ (w2.alloc (.cells #[.int .i64 y.k, .string (str y.pl), .string (str y.u), .string (str y.o)] 68)) = w') := by
          have := Has_any FA nf fc _ fo (str y.u) (w2.alloc (.cells #[.int .i64 y.k, .string (str y.pl), .string (str y.u), .string (str y.o)] 68)) (hF.out.below hbw.out)
          rw [str_list, show (fo.any fun x => decide (x = y.u)) = decide (y.u ∈ fo) from any_mem fo y.u] at this
          exact this
        clear hR hb hRf hbf hRp hbp hb2 HP q0 q1 q2
        rw [show wyA y = #[.int .i64 y.k, .string (str y.pl), .string (str y.u), .string (str y.o)] from rfl]
        generalize takeL (qD fo) nmsP [] (l.take k) = l1 at *
        have hl1 : l1.length = n1 := hRw.out.1
        by_cases h3 : y.k = 2
        · have t3 : (y.k == 2) = true := by simp [h3]
          by_cases hm : y.u ∈ fo
          · have e1 : (if qD fo y = true then addL l1 y.o else l1) = addL l1 y.o := by rw [if_pos]; unfold qD; rw [decide_eq_true h3, decide_eq_true hm]; rfl
            rw [decide_eq_true hm] at HH
            clear h3 hm
            go_wp2_with fail
            generalize w2.alloc (.cells #[.int .i64 y.k, .string (str y.pl), .string (str y.u), .string (str y.o)] 68) = ww at *
            refine HH.out.mono ?_
            rintro e3 w3 ⟨rfl, rfl⟩
            have HA := Lib.hid (add_any A1 n1 c1 _ l1 (str y.o) ww hRw.out (Nat.le_refl _) (by omega))
            go_wp2_with fail
            refine HA.out.mono ?_
            rintro e3 w3 h3
            obtain ⟨A3, c3, rfl, hr3, hb3⟩ := addP_row h3 (by omega)
            rw [str_list] at hr3
            rw [str_list]
            have HBz := Lib.hid (more3 hbw.out hbw.out.size hb3)
            go_wp2_with fail
            go_roundw
            case rel => exact ⟨k + 1, _, A3, c3, by omega, by have := addL_len l1 y.o; omega, by go_num, rfl, by rw [HT3.out, e1]; exact hr3, HBz.out⟩
            case measure => simp [intOf]; omega
          · have e1 : (if qD fo y = true then addL l1 y.o else l1) = l1 := by rw [if_neg]; unfold qD; rw [decide_eq_false hm]; simp
            rw [decide_eq_false hm] at HH
            clear h3 hm
            go_wp2_with fail
            generalize w2.alloc (.cells #[.int .i64 y.k, .string (str y.pl), .string (str y.u), .string (str y.o)] 68) = ww at *
            refine HH.out.mono ?_
            rintro e3 w3 ⟨rfl, rfl⟩
            go_wp2_with fail
            go_roundw
            case rel => exact ⟨k + 1, n1, A1, c1, by omega, by omega, by go_num, rfl, by rw [HT3.out, e1]; exact hRw.out, hbw.out⟩
            case measure => simp [intOf]; omega
        · have t3 : (y.k == 2) = false := by simp [h3]
          have e1 : (if qD fo y = true then addL l1 y.o else l1) = l1 := by rw [if_neg]; unfold qD; rw [decide_eq_false h3]; simp
          clear h3 HH
          go_wp2_with fail
          generalize w2.alloc (.cells #[.int .i64 y.k, .string (str y.pl), .string (str y.u), .string (str y.o)] 68) = ww at *
          go_roundw
          case rel => exact ⟨k + 1, n1, A1, c1, by omega, by omega, by go_num, rfl, by rw [HT3.out, e1]; exact hRw.out, hbw.out⟩
          case measure => simp [intOf]; omega
      · obtain rfl : k = n := by omega
        rw [List.take_of_length_le (by omega)] at hR
        have hx1 := hR.out.1
        generalize hxs : takeL (qD fo) nmsP [] l = xs at *
        clear hlt
        obtain ⟨wa, rfl⟩ : ∃ wa : World, wa = wr := ⟨_, rfl⟩
        have HFa := Lib.hid ((hF.out.below hb.out).wide hb.out.size)
        have HBa := Lib.hid (more3 hBc.out hwf hb.out)
        have HLa := Lib.hid (HL.out.below (HBa.out.mono hB))
        have hBa : B ≤ wa.heap.size := Nat.le_trans hB HBa.out.size
        have hn1' : n1 ≤ 120 := by omega
        clear hF hBc hb HS
        go_wp2_with fail
        go_loopw [10, 54] (fun v i wr => ∃ k : Nat, k ≤ n1 ∧ i = .int .i64 k ∧ Hid (OwnT wr wa.heap.size v ((xs.take k).map (whereL nmsP l ul))) ∧ Hid (Below wa.heap.size wa wr)) (fun v i wr => n1 - (intOf i).toNat)
        case atStart => exact ⟨0, Nat.zero_le _, rfl, World.ownsRow_nil _ _ _ _, Below.refl _ _⟩
        case round =>
          obtain ⟨k, hk, rfl, hO, hb⟩ := hrel
          have hbs := hb.out.size
          obtain ⟨wb, rfl⟩ : ∃ wb : World, wb = wr := ⟨_, rfl⟩
          by_cases hlt : k < n1
          · have b0 : (0 : Int) ≤ (k : Int) := by omega
            have b1 : (k : Int) < (n1 : Int) := by omega
            have b2 : decide (k < n1) = true := by simp [hlt]
            obtain ⟨ad, x, rfl, hab, hx, q0⟩ := (hR.out.below hb.out).at_ hlt
            have hxl : x.length ≤ 60 := HTO.out x (by rw [← hxs]; exact List.mem_of_getElem? (by rw [hxs]; exact hx))
            have HMT := Lib.hid (map_take (whereL nmsP l ul) hx)
            have HWx := Lib.hid (HWh.out x)
            have hlen : ((xs.take k).map (whereL nmsP l ul)).length = k := by rw [List.length_map, List.length_take, hx1]; omega
            clear hx
            go_wp2_with fail
            go_loopw [13, 60] (fun p i wr => ∃ j : Nat, j ≤ nf ∧ i = .int .i64 j ∧ p = .string (str (pthL l (candL (fo.take j) x))) ∧ Hid (Below wb.heap.size wb wr)) (fun p i wr => nf - (intOf i).toNat)
            case atStart => exact ⟨0, Nat.zero_le _, rfl, rfl, Below.refl _ _⟩
            case round =>
              obtain ⟨j, hj, rfl, rfl, hb3⟩ := hrel
              obtain ⟨wj, rfl⟩ : ∃ wj : World, wj = wr := ⟨_, rfl⟩
              have hb3s := hb3.out.size
              by_cases hjl : j < nf
              · have d0 : (0 : Int) ≤ (j : Int) := by omega
                have d1 : (j : Int) < (nf : Int) := by omega
                have d2 : decide (j < nf) = true := by simp [hjl]
                have hbj := Lib.hid (more3 hb.out hbs hb3.out)
                obtain ⟨fd, v, rfl, hfab, hv, q3⟩ := (HFa.out.below hbj.out).at_ hjl
                have hvl : v.length ≤ 4194304 := HFS.out v (List.mem_of_getElem? hv)
                have HCS := Lib.hid (cand_succ x hv)
                clear hv
                go_wp2_with fail
                refine (places_any _).mono ?_
                rintro e4 w4 ⟨PA, pc, rfl, hpr, hb4⟩
                have HPR := Lib.hid hpr
                have Hb4 := Lib.hid (more3 hb3.out hb3s hb4)
                have hb4s := hb4.size
                clear hpr hb4
                go_wp2_with fail
                go_loopw [13, 66] (fun p i wr => ∃ m : Nat, m ≤ 3 ∧ i = .int .i64 m ∧ p = .string (str (pthL l (candL (fo.take j) x ++ (plc.take m).map (fun a => dropP a v x)))) ∧ Hid (Below w4.heap.size w4 wr)) (fun p i wr => 3 - (intOf i).toNat)
                case atStart => exact ⟨0, by omega, rfl, by simp, Below.refl _ _⟩
                case round =>
                  obtain ⟨m, hm, rfl, rfl, hb5⟩ := hrel
                  have hb5s := hb5.out.size
                  by_cases hml : m < 3
                  · have f0 : (0 : Int) ≤ (m : Int) := by omega
                    have f1 : (m : Int) < 3 := by omega
                    have f2 : decide (m < 3) = true := by simp [hml]
                    obtain ⟨pd, a, rfl, hpab, ha, q4⟩ := (HPR.out.below hb5.out).at_ hml
                    have hal := plc_len ha
                    have HPN := Lib.hid (pth_next (fs := l) (fo := fo.take j) (v := v) (x := x) ha)
                    have Hb5 := Lib.hid (more3 Hb4.out Hb4.out.size hb5.out)
                    have Hb6 := Lib.hid (more3 hb.out hbs Hb5.out)
                    have HAt := Lib.hid (at_drop A _ c B l a v x wr (HLa.out.below (Hb6.out.mono hBa)) (Nat.le_trans hBa Hb6.out.size))
                    have s1 : (str a).size + 1 ≤ 9223372036854775807 := by rw [str_size]; omega
                    have s2 : (str a).size + 1 + (str v).size ≤ 9223372036854775807 := by rw [str_size, str_size]; omega
                    have s3 : (str a).size + 1 + (str v).size + 3 ≤ 9223372036854775807 := by rw [str_size, str_size]; omega
                    have s4 : (str a).size + 1 + (str v).size + 3 + (str x).size ≤ 9223372036854775807 := by rw [str_size, str_size, str_size]; omega
                    have s5 : (str a).size + 1 + (str v).size + 3 + (str x).size + 5 ≤ 9223372036854775807 := by rw [str_size, str_size, str_size]; omega
                    have HDS := Lib.hid (drop_str a v x)
                    clear ha
                    rcases hf : atL l (dropP a v x) with _ | f
                    · rw [hf, atV_none] at HAt
                      have HP1 : Hid (pthL l (candL (fo.take j) x ++ (plc.take (m + 1)).map (fun a => dropP a v x)) = pthL l (candL (fo.take j) x ++ (plc.take m).map (fun a => dropP a v x))) := by show _ = _; rw [HPN.out, hf]; simp
                      clear hf HPN
                      go_wp2_with (go_at_call 40; refine HAt.out.mono ?_; rintro e7 w7 ⟨rfl, hb7⟩)
                      go_roundw
                      case rel => exact ⟨m + 1, by omega, by go_num, by rw [HP1.out, List.map_take], (more3 hb5.out hb5s hb7).alloc (by have := hb7.size; omega) _⟩
                      case measure => simp [intOf]; omega
                    · rw [hf, atV_some] at HAt
                      by_cases hp0 : pthL l (candL (fo.take j) x ++ (plc.take m).map (fun a => dropP a v x)) = []
                      · have HP1 : Hid (pthL l (candL (fo.take j) x ++ (plc.take (m + 1)).map (fun a => dropP a v x)) = dropP a v x) := by show _ = _; rw [HPN.out, hf, if_pos ⟨rfl, hp0⟩]
                        have e0 : ((str (pthL l (candL (fo.take j) x ++ (plc.take m).map (fun a => dropP a v x)))).toList == []) = true := by rw [eq_nil, decide_eq_true hp0]
                        generalize pthL l (candL (fo.take j) x ++ (plc.take m).map (fun a => dropP a v x)) = p0 at *
                        clear hf HPN hp0
                        go_wp2_with (go_at_call 40; refine HAt.out.mono ?_; rintro e7 w7 ⟨rfl, hb7⟩)
                        go_roundw
                        case rel => exact ⟨m + 1, by omega, by go_num, by rw [HP1.out, ← HDS.out], (more3 hb5.out hb5s hb7).alloc (by have := hb7.size; omega) _⟩
                        case measure => simp [intOf]; omega
                      · have HP1 : Hid (pthL l (candL (fo.take j) x ++ (plc.take (m + 1)).map (fun a => dropP a v x)) = pthL l (candL (fo.take j) x ++ (plc.take m).map (fun a => dropP a v x))) := by show _ = _; rw [HPN.out, if_neg (fun h => hp0 h.2)]
                        have e0 : ((str (pthL l (candL (fo.take j) x ++ (plc.take m).map (fun a => dropP a v x)))).toList == []) = false := by rw [eq_nil, decide_eq_false hp0]
                        generalize pthL l (candL (fo.take j) x ++ (plc.take m).map (fun a => dropP a v x)) = p0 at *
                        clear hf HPN hp0
                        go_wp2_with (go_at_call 40; refine HAt.out.mono ?_; rintro e7 w7 ⟨rfl, hb7⟩)
                        go_roundw
                        case rel => exact ⟨m + 1, by omega, by go_num, by rw [HP1.out], (more3 hb5.out hb5s hb7).alloc (by have := hb7.size; omega) _⟩
                        case measure => simp [intOf]; omega
                  · obtain rfl : m = 3 := by omega
                    have HPE : Hid (pthL l (candL (fo.take j) x ++ (plc.take 3).map (fun a => dropP a v x)) = pthL l (candL (fo.take (j + 1)) x)) := by show _ = _; rw [HCS.out]; rfl
                    clear hml
                    go_wp2_with fail
                    go_roundw
                    case rel => exact ⟨j + 1, by omega, by go_num, by rw [HPE.out], more3 Hb4.out Hb4.out.size hb5.out⟩
                    case measure => simp [intOf]; omega
              · obtain rfl : j = nf := by omega
                have HPE : Hid (pthL l (candL (fo.take j) x) = whereL nmsP l ul x) := by show _ = _; rw [HWx.out, List.take_of_length_le (by omega)]
                rw [HPE.out]
                obtain ⟨px, hpx⟩ : ∃ px, whereL nmsP l ul x = px := ⟨_, rfl⟩
                rw [hpx] at HMT ⊢
                clear hpx
                have honep := Lib.hid (one_cell (str px))
                rw [str_list] at honep
                have HOj := Lib.hid (own_below hO.out hb3.out)
                have Hbj := Lib.hid (more3 hb.out hbs hb3.out)
                have Hbjs := Hbj.out.size
                clear hjl
                go_wp2_with (at_builtin; refine wpList_append_own _ rfl _ _ 24 rfl wa.heap.size 9 i0 (.string ⟨#[]⟩) 1 16 Tryz.underlying24 hi hz0 hz1 hz2 rfl (by decide) _ _ _ rfl (HOj.out.alloc _) ⟨wj.heap.size, 0, none⟩ 1 1 [.string (str px)] rfl rfl ?a2 ?b2 ?c2 ?d2 ?e2 ?_)
                case a2 =>
                  intro j u hj
                  match j, hj with
                  | 0, hj =>
                    simp at hj
                    subst hj
                    simp [Addr.add]
                case b2 => intro u hu; simp at hu; subst hu; rfl
                case c2 => rw [hlen]; unfold maxLen; omega
                case d2 => rw [hlen]; omega
                case e2 => simp; omega
                intro v' w6 own6 grow6 _
                have HO6 : Hid (OwnT w6 wa.heap.size v' ((xs.take (k + 1)).map (whereL nmsP l ul))) := by
                  show World.ownsRow _ _ _ _ _ _ _
                  rw [HMT.out, wcells_app, honep.out, List.length_append, hlen, List.map_take]
                  exact own6
                have HB6 : Hid (Below wa.heap.size wa w6) := (Hbj.out.alloc Hbjs _).grown grow6 (by simp; omega) (fun g hg => (HOj.out.lt g hg).1)
                clear own6 grow6
                go_wp2_with fail
                go_roundw
                case rel => exact ⟨k + 1, by omega, by go_num, HO6, HB6⟩
                case measure => simp [intOf]; omega
          · obtain rfl : k = n1 := by omega
            have hle : ((xs.take k).map (whereL nmsP l ul)) = xs.map (whereL nmsP l ul) := by rw [List.take_of_length_le (by omega)]
            rw [hle] at hO
            have hr9 := own_new hO.out (by rw [List.length_map, hx1]; unfold maxLen; omega) HBa.out.size
            clear hlt
            go_wp2_with fail
            go_ret
            exact ⟨_, rfl, by rw [HQ.out]; exact hr9, more3 HBa.out HBa.out.size hb.out⟩
end Go.Proofs.YthodbeeglkedcaaGreat
