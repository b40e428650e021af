/- What comes next, by fields: the least number of a part, of a field; the least six numbers; the step to the next day. It  -/
import Derived.Test.YtadifolonbkamaaGreatDoorKvan
import Derived.Test.YtadifolonbkamaaGreatDoorKvaq
namespace Go.Proofs.YtadifolonbkamaaGreatDoor.Ca
theorem ptAB {f : Nat} {p : Pt} (h : mayP f p = true) : ptA f p ≤ ptB f p ∧ lo f ≤ ptA f p ∧ ptB f p ≤ hi f := by
  have hm := (mayP_iff f p).1 h
  have hl := lo_bd f
  unfold ptA ptB
  split
  · omega
  · split
    · split <;> omega
    · omega
theorem in_range {f : Nat} {p : Pt} {n : Int} (h : mayP f p = true) (hn : inP f p n = true) : lo f ≤ n ∧ n ≤ hi f := by
  have := ptAB h
  have := (inP_iff f p n).1 hn
  omega
theorem inF_range {f : Nat} {l : List Pt} {n : Int} (h : mayF f l = true) (hn : inF f l n = true) : lo f ≤ n ∧ n ≤ hi f := by
  unfold inF at hn
  rw [List.any_eq_true] at hn
  obtain ⟨p, hp, hi⟩ := hn
  exact in_range (((mayF_iff f l).1 h).2 p hp) hi
structure Six where
  y : Int
  m : Int
  d : Int
  h : Int
  i : Int
  s : Int
def Six.at (v : Six) : Nat → Int
  | 0 => v.y
  | 1 => v.m
  | 2 => v.d
  | 3 => v.h
  | 4 => v.i
  | _ => v.s
def Six.le (v u : Six) : Prop := v.y < u.y ∨ v.y = u.y ∧ (v.m < u.m ∨ v.m = u.m ∧ (v.d < u.d ∨ v.d = u.d ∧ (v.h < u.h ∨ v.h = u.h ∧ (v.i < u.i ∨ v.i = u.i ∧ v.s ≤ u.s))))
theorem Six.le_refl (v : Six) : v.le v := by unfold Six.le; omega
theorem Six.le_trans {a b c : Six} (h : a.le b) (h' : b.le c) : a.le c := by unfold Six.le at *; omega
def Six.good (c : Cl) (v : Six) : Prop := inF 0 c.yr v.y = true ∧ inF 1 c.mo v.m = true ∧ inF 2 c.dy v.d = true ∧ inF 3 c.hr v.h = true ∧ inF 4 c.mi v.i = true ∧ inF 5 c.se v.s = true
def Six.bd (v : Six) : Prop := 0 ≤ v.y ∧ v.y ≤ 2200 ∧ 0 ≤ v.m ∧ v.m ≤ 2200 ∧ 0 ≤ v.d ∧ v.d ≤ 2200 ∧ 0 ≤ v.h ∧ v.h ≤ 2200 ∧ 0 ≤ v.i ∧ v.i ≤ 2200 ∧ 0 ≤ v.s ∧ v.s ≤ 2200
def Six.far (v : Six) : Nat := (2201 * (2201 * (2201 * (2201 * (2201 * (2200 - v.y) + (2200 - v.m)) + (2200 - v.d)) + (2200 - v.h)) + (2200 - v.i)) + (2200 - v.s)).toNat
def Six.set (v : Six) (f : Nat) (x : Int) : Six :=
  match f with
  | 0 => ⟨x, 0, 0, 0, 0, 0⟩
  | 1 => ⟨v.y, x, 0, 0, 0, 0⟩
  | 2 => ⟨v.y, v.m, x, 0, 0, 0⟩
  | 3 => ⟨v.y, v.m, v.d, x, 0, 0⟩
  | 4 => ⟨v.y, v.m, v.d, v.h, x, 0⟩
  | _ => ⟨v.y, v.m, v.d, v.h, v.i, x⟩
def Six.upto (c : Cl) (v : Six) (f : Nat) : Prop := ∀ j, j < f → j < 6 → inF j (c.fld j) (v.at j) = true
theorem Six.good.at_ {c : Cl} {v : Six} (h : v.good c) {f : Nat} (hf : f < 6) : inF f (c.fld f) (v.at f) = true := by
  obtain ⟨a, b, e, g, i, j⟩ := h
  have : f = 0 ∨ f = 1 ∨ f = 2 ∨ f = 3 ∨ f = 4 ∨ f = 5 := by omega
  rcases this with rfl | rfl | rfl | rfl | rfl | rfl
  · exact a
  · exact b
  · exact e
  · exact g
  · exact i
  · exact j
theorem mayC_fld {c : Cl} (h : mayC c = true) {f : Nat} (hf : f < 6) : mayF f (c.fld f) = true := by
  obtain ⟨_, a, b, e, g, i, j⟩ := (mayC_iff c).1 h
  have : f = 0 ∨ f = 1 ∨ f = 2 ∨ f = 3 ∨ f = 4 ∨ f = 5 := by omega
  rcases this with rfl | rfl | rfl | rfl | rfl | rfl
  · exact a
  · exact b
  · exact e
  · exact g
  · exact i
  · exact j
theorem Six.good.nn {c : Cl} (hc : mayC c = true) {u : Six} (h : u.good c) : 0 ≤ u.y ∧ 0 ≤ u.m ∧ 0 ≤ u.d ∧ 0 ≤ u.h ∧ 0 ≤ u.i ∧ 0 ≤ u.s := by
  have b : ∀ f, f < 6 → 0 ≤ u.at f := fun f hf => by
    have h1 := inF_range (mayC_fld hc hf) (h.at_ hf)
    have h2 := (lo_bd f).1
    omega
  exact ⟨b 0 (by omega), b 1 (by omega), b 2 (by omega), b 3 (by omega), b 4 (by omega), b 5 (by omega)⟩
structure Adv (c : Cl) (n0 v : Six) (f : Nat) : Prop where
  bd : v.bd
  ahead : v.upto c f
  ge : n0.le v
  least : ∀ u : Six, u.good c → n0.le u → v.le u
section
variable {c : Cl} {n0 v : Six} {f : Nat}
theorem six_f (h : f < 6) : f = 0 ∨ f = 1 ∨ f = 2 ∨ f = 3 ∨ f = 4 ∨ f = 5 := by omega
theorem Adv.next (h : Adv c n0 v f) (hi : inF f (c.fld f) (v.at f) = true) : Adv c n0 v (f + 1) :=
  ⟨h.bd, fun j hj h6 => by
    by_cases e : j = f
    · rw [e]; exact hi
    · exact h.ahead j (by omega) h6, h.ge, h.least⟩
theorem Adv.later (hc : mayC c = true) (h : Adv c n0 v f) (hf : f < 6) {m : Int} (h1 : v.at f < m) (hm : m ≤ 2200) (hi : inF f (c.fld f) m = true) (hl : ∀ k, v.at f ≤ k → inF f (c.fld f) k = true → m ≤ k) : Adv c n0 (v.set f m) (f + 1) := by
  obtain ⟨hb, ha, hg, hle⟩ := h
  have key : ∀ u : Six, u.good c → n0.le u → (v.set f m).le u := by
    intro u hu hn
    have a1 := hle u hu hn
    have a2 : v.at f ≤ u.at f → m ≤ u.at f := fun hh => hl _ hh (hu.at_ hf)
    have a3 := hu.nn hc
    clear hl hle ha hg hi hu hn
    unfold Six.le Six.bd at *
    rcases six_f hf with rfl | rfl | rfl | rfl | rfl | rfl <;> simp only [Six.at, Six.set] at * <;> omega
  refine ⟨?_, ?_, ?_, key⟩
  · clear key hl hle ha hg hi
    unfold Six.bd at *
    rcases six_f hf with rfl | rfl | rfl | rfl | rfl | rfl <;> simp only [Six.at, Six.set] at * <;> omega
  · intro j hj h6
    by_cases e : j = f
    · subst e
      have : (v.set j m).at j = m := by rcases six_f hf with rfl | rfl | rfl | rfl | rfl | rfl <;> rfl
      rw [this]; exact hi
    · have hjf : j < f := by omega
      have : (v.set f m).at j = v.at j := by
        rcases six_f hf with rfl | rfl | rfl | rfl | rfl | rfl <;> rcases six_f h6 with rfl | rfl | rfl | rfl | rfl | rfl <;> first | rfl | (exfalso; omega)
      rw [this]; exact ha j hjf h6
  · refine Six.le_trans hg ?_
    clear key hl hle ha hg hi
    unfold Six.le
    rcases six_f hf with rfl | rfl | rfl | rfl | rfl | rfl <;> simp only [Six.at, Six.set, true_and] at * <;> omega
theorem Adv.none_ (h : Adv c n0 v 0) (hi : ∀ k, v.y ≤ k → inF 0 c.yr k = false) (u : Six) (hu : u.good c) : ¬ n0.le u := by
  intro hn
  have a1 := h.least u hu hn
  have a2 : ¬ v.y ≤ u.y := fun hh => by have := hi _ hh; rw [hu.1] at this; cases this
  unfold Six.le at a1
  omega
end
noncomputable def sixOf (t : Int) : Six := ⟨fY t, fM t, fD t, fH t, fI t, fS t⟩
theorem numsB_good (c : Cl) (t : Int) : numsB c t = true ↔ (sixOf t).good c := by
  unfold numsB Six.good sixOf
  simp only [Bool.and_eq_true]
theorem six_range {t : Int} (h : isT t = true) : 2000 ≤ fY t ∧ fY t ≤ 2199 ∧ 1 ≤ fM t ∧ fM t ≤ 12 ∧ 1 ≤ fD t ∧ fD t ≤ 31 ∧ 0 ≤ fH t ∧ fH t ≤ 23 ∧ 0 ≤ fI t ∧ fI t ≤ 59 ∧ 0 ≤ fS t ∧ fS t ≤ 59 := by
  obtain ⟨⟨a, b, c, d, e, f⟩, h0, h1, m0, m1, s0, s1, _, _⟩ := date_of h
  have := (dim_bd (fY t) (fM t) c d).2
  omega
theorem match_six {c : Cl} {t : Int} (h : matchB c t = true) : isT t = true ∧ dayB c.ds (fW t) = true ∧ (sixOf t).good c := by
  obtain ⟨_, h2, h3, h4⟩ := (matchB_iff c t).1 h
  exact ⟨h2, h3, (numsB_good c t).1 h4⟩
structure Nxt (c : Cl) (x : Int) (v : Six) : Prop where
  ge : (sixOf x).le v
  least : ∀ s, x ≤ s → matchB c s = true → v.le (sixOf s)
def Six.tom (v : Six) : Six := ⟨v.y, v.m, v.d + 1, 0, 0, 0⟩
noncomputable def hitB (c : Cl) (v : Six) : Bool := toOk v.y v.m v.d v.h v.i v.s && dayB c.ds (fW (toN v.y v.m v.d v.h v.i v.s))
theorem Nxt.miss {c : Cl} {x : Int} {v : Six} (hc : mayC c = true) (h : Nxt c x v) (hg : v.good c) (hno : hitB c v = false) : ∀ s, x ≤ s → matchB c s = true → v.tom.le (sixOf s) := by
  intro s hs hm
  have hl := h.least s hs hm
  obtain ⟨hT, hD, hG⟩ := match_six hm
  have hr := six_range hT
  by_cases e : v.y = fY s ∧ v.m = fM s ∧ v.d = fD s
  · exfalso
    obtain ⟨e1, e2, e3⟩ := e
    have hday : isDayB v.y v.m v.d = true := by rw [isDayB_iff, e1, e2, e3]; exact (date_of hT).day
    have r : ∀ f, f < 6 → lo f ≤ v.at f ∧ v.at f ≤ hi f := fun f hf => inF_range (mayC_fld hc hf) (hg.at_ hf)
    have r3 := r 3 (by omega)
    have r4 := r 4 (by omega)
    have r5 := r 5 (by omega)
    have hcl : isClB v.h v.i v.s = true := (isClB_iff _ _ _).2 ⟨r3.1, r3.2, r4.1, r4.2, r5.1, r5.2⟩
    have ho : toOk v.y v.m v.d v.h v.i v.s = true := by unfold toOk; rw [hday, hcl]; rfl
    have hw : fW (toN v.y v.m v.d v.h v.i v.s) = fW s := by
      rw [(date_eq (to_date ho)).2.2.2.2.2.2.2, (date_of hT).w_eq, e1, e2, e3]
    unfold hitB at hno
    rw [ho, hw, hD] at hno
    cases hno
  · unfold Six.le Six.tom sixOf at *
    simp only at *
    omega
theorem Nxt.more {c : Cl} {x : Int} {v v' : Six} (h : Nxt c x v) (hm : ∀ s, x ≤ s → matchB c s = true → v.tom.le (sixOf s)) (h1 : v.tom.le v') (h2 : ∀ u : Six, u.good c → v.tom.le u → v'.le u) : Nxt c x v' :=
  ⟨Six.le_trans h.ge (Six.le_trans (by unfold Six.le Six.tom; simp only [true_and]; omega) h1), fun s hs hM => h2 _ (match_six hM).2.2 (hm s hs hM)⟩
end Go.Proofs.YtadifolonbkamaaGreatDoor.Ca
namespace Go.Proofs.YtadifolonbkamaaGreatDoor.Ca
open Go.RowKit
theorem partInfoT : (Tryz.prog.info? 111).map (fun i => (i.zero, i.size, i.bytes)) = some (some (.agg #[.int .i64 0, .int .i64 0, .int .i64 0]), 3, 24) := by kernel_rfl
theorem pts_snocT (ps : List Pt) (p : Pt) : pts (ps ++ [p]) = pts ps ++ [.int .i64 p.a, .int .i64 p.b, .int .i64 p.s] := by simp [pts, ptCells]
theorem own_belowT {base size n : Nat} {e : TypeId} {X Y : World} {v : Value} {xs : List Value} (h : X.ownsRow base e size v n xs) (hb : Below X.heap.size X Y) : Y.ownsRow base e size v n xs := by
  obtain ⟨q1, q2⟩ := h
  refine ⟨q1, ?_⟩
  rcases q2 with q2 | ⟨g, cap, cur, hv, hg, hbk, hr⟩
  · exact .inl q2
  · exact .inr ⟨g, cap, cur, hv, hg, Blk.below (t := e) (cs := cur) hbk hb (Array.getElem?_eq_some_iff.1 hbk).1, hr⟩
def PartsP (s : ByteArray) (w : World) (e : Ending) (w' : World) : Prop :=
  Below w.heap.size w w' ∧ match partsL s.data.toList with
  | some ps => ∃ v, e = .returned v ∧ w'.ownsRow w.heap.size 111 3 v ps.length (pts ps)
  | none => e = .returned (.slice none 0 0)
theorem parts_some {s : List UInt8} {ps : List Pt} (h : mapO partL (splitL 44 s) = some ps) : partsL s = some ps := h
theorem parts_no {s x : List UInt8} (hx : x ∈ splitL 44 s) (h : partL x = none) : partsL s = none := mapO_none hx h
theorem mapO_lenT {α β : Type} {g : α → Option β} {l : List α} {r : List β} (h : mapO g l = some r) : r.length = l.length := by
  induction l generalizing r with
  | nil => cases h; rfl
  | cons x l ih =>
    rw [mapO] at h
    cases hx : g x with
    | none => rw [hx] at h; cases h
    | some y =>
      rw [hx] at h
      cases hr : mapO g l with
      | none => rw [hr] at h; cases h
      | some ys =>
        rw [hr] at h
        have e := Option.some.inj h
        rw [← e, List.length_cons, List.length_cons, ih hr]
set_option maxRecDepth 100000 in
set_option maxHeartbeats 8000000 in
theorem parts_any (s : ByteArray) (hs : s.size ≤ 4194303) (w : World) :
    Calls Tryz.prog 62 #[.string s] w (PartsP s w) := by
  obtain ⟨i0, hi, hz0, hz1, hz2⟩ := info_parts partInfoT
  go_enter Tryz.func62, Tryz.ntmps62
  go_wp2_with fail
  refine (Split_any s 44 (by omega) _).mono ?_
  rintro e w1 ⟨v, rfl, hown, hb1⟩
  obtain ⟨A, nv, cv, rfl⟩ : ∃ A nv cv, v = .slice A nv cv := by
    rcases hown.2 with ⟨hv, _⟩ | ⟨g, cap, cur, hv, _⟩
    · exact ⟨_, _, _, hv⟩
    · exact ⟨_, _, _, hv⟩
  have HYES := fun ps => Lib.hid (parts_some (s := s.data.toList) (ps := ps))
  have HNO := fun x => Lib.hid (parts_no (s := s.data.toList) (x := x))
  have hrl : (splitL 44 s.data.toList).length ≤ s.size + 1 := by
    have := sgo_cnt 44 s.data.toList []
    rw [size_list] at this
    exact this
  have hsl := fun x => split_len (b := 44) (l := s.data.toList) (x := x)
  rw [size_list] at hsl
  generalize splitL 44 s.data.toList = rs at hown hrl HYES HNO hsl
  obtain ⟨rfl, hcv, hra⟩ := rowAt_of_own hown (by unfold maxLen; omega)
  have HRA := Lib.hid hra
  have HSL := Lib.hid hsl
  have HB1 := Lib.hid hb1
  have hw1 := hb1.size
  clear hown hb1 hra hsl
  go_wp2_with fail
  go_loopw [3, 11] (fun v i wr => ∃ (vv : Value) (k : Nat) (ps : List Pt), vv = v ∧ k ≤ rs.length ∧ i = .int .i64 k ∧ ps.length = k ∧ Hid (mapO partL (rs.take k) = some ps) ∧ Hid (wr.ownsRow w1.heap.size 111 3 v ps.length (pts ps)) ∧ Hid (Below w1.heap.size w1 wr)) (fun v i wr => rs.length - (intOf i).toNat)
  case atStart => exact ⟨_, 0, [], rfl, Nat.zero_le _, rfl, rfl, rfl, World.ownsRow_nil _ _ _ _, Below.refl _ _⟩
  case round =>
    obtain ⟨v, k, ps, rfl, hk, rfl, hpl, hmp, hO, hB⟩ := hrel
    obtain ⟨wo, rfl⟩ : ∃ wo : World, wo = wr := ⟨_, rfl⟩
    have b0 : (0 : Int) ≤ (k : Int) := by omega
    have hwo : w1.heap.size ≤ wo.heap.size := hB.out.size
    by_cases hlt : k < rs.length
    · have b1 : (k : Int) < (rs.length : Int) := by omega
      obtain ⟨ad, x, rfl, hadB, hx, hc⟩ := (HRA.out.below hB.out).at_ hlt
      have hxl : (str x).size ≤ 4194303 := by
        have h1 := HSL.out x (List.mem_of_getElem? hx)
        rw [str_size]; omega
      have HX := Lib.hid hx
      have HP := Lib.hid (part_any (str x) hxl wo)
      have HS := Lib.hid (part_same x)
      clear hx
      go_wp2_with fail
      refine HP.out.mono ?_
      rintro e w2 ⟨he, hb2⟩
      rw [str_list] at he
      obtain ⟨⟨pa, pb, pc, ok⟩, hpi⟩ : ∃ p, partI x = p := ⟨_, rfl⟩
      rw [hpi] at he HS
      dsimp only at he HS
      subst he
      have HO2 : Hid ((w2.alloc (.cells #[.int .i64 pa, .int .i64 pb, .int .i64 pc] 111)).ownsRow w1.heap.size 111 3 v ps.length (pts ps)) := (own_belowT hO.out hb2).alloc _
      have HB2 : Hid (Below w1.heap.size w1 (w2.alloc (.cells #[.int .i64 pa, .int .i64 pb, .int .i64 pc] 111))) := (hB.out.trans (hb2.mono hwo)).alloc (Nat.le_trans hwo hb2.size) _
      have hwz : w1.heap.size ≤ w2.heap.size := Nat.le_trans hwo hb2.size
      clear hb2 hpi HP
      rcases ok with _ | _
      · have HN : Hid (partsL s.data.toList = none) := (HNO x).out (List.mem_of_getElem? HX.out) (by rw [HS.out]; rfl)
        go_wp2_with fail
        go_ret
        refine ⟨HB1.out.trans (HB2.out.mono hw1), ?_⟩
        rw [HN.out]
        rfl
      · have HQ : Hid (partL x = some ⟨pa, pb, pc⟩) := by show _ = _; rw [HS.out]; rfl
        go_wp2_with (at_builtin; refine wpList_append_own _ rfl _ _ 61 rfl w1.heap.size 111 i0 (.agg #[.int .i64 0, .int .i64 0, .int .i64 0]) 3 24 Tryz.underlying61 hi hz0 hz1 hz2 rfl (by decide) _ _ _ rfl (HO2.out.alloc _) ⟨w2.heap.size + 1, 0, none⟩ 1 1 [.int .i64 pa, .int .i64 pb, .int .i64 pc] rfl rfl ?c1 ?c2 ?c3 ?c4 ?c5 ?_)
        case c1 =>
          intro j u hj
          have e : (⟨w2.heap.size + 1, 0, none⟩ : Addr).add j = ⟨w2.heap.size + 1, j, none⟩ := by unfold Addr.add; split <;> simp_all
          have HN : Blk ((w2.alloc (.cells #[.int .i64 pa, .int .i64 pb, .int .i64 pc] 111)).alloc (.cells #[.int .i64 pa, .int .i64 pb, .int .i64 pc] 111)) (w2.heap.size + 1) 111 #[.int .i64 pa, .int .i64 pb, .int .i64 pc] := by
            have := Blk.new (w2.alloc (.cells #[.int .i64 pa, .int .i64 pb, .int .i64 pc] 111)) 111 #[.int .i64 pa, .int .i64 pb, .int .i64 pc]
            rw [show (w2.alloc (.cells #[.int .i64 pa, .int .i64 pb, .int .i64 pc] 111)).heap.size = w2.heap.size + 1 by simp] at this
            exact this
          rw [e, HN.cell j]
          simpa using hj
        case c2 => intro u hu; simp at hu; rcases hu with rfl | rfl | rfl <;> rfl
        case c3 => unfold maxLen; omega
        case c4 => omega
        case c5 => simp; omega
        intro v' w3 hown' hgrow _
        have HM : Hid (mapO partL (rs.take (k + 1)) = some (ps ++ [⟨pa, pb, pc⟩])) := by
          show _ = _
          rw [List.take_add_one, HX.out]
          exact mapO_snoc hmp.out HQ.out
        have HO3 : Hid (w3.ownsRow w1.heap.size 111 3 v' (ps ++ [(⟨pa, pb, pc⟩ : Pt)]).length (pts (ps ++ [(⟨pa, pb, pc⟩ : Pt)]))) := by
          show World.ownsRow _ _ _ _ _ _ _
          rw [pts_snocT, List.length_append, hpl]
          exact hown'
        have HB3 : Hid (Below w1.heap.size w1 w3) := (HB2.out.alloc (by simp; omega) _).grown hgrow (by simp; omega) (fun g hg => (HO2.out.lt g hg).1)
        clear hown' hgrow
        go_wp2_with fail
        go_roundw
        case rel => exact ⟨_, k + 1, _, rfl, by omega, by go_num, by rw [List.length_append, hpl]; rfl, HM, HO3, HB3⟩
        case measure => simp [intOf]; omega
    · obtain rfl : k = rs.length := by omega
      have HY : Hid (partsL s.data.toList = some ps) := (HYES ps).out (by rw [← hmp.out, List.take_length])
      go_wp2_with fail
      go_ret
      refine ⟨HB1.out.trans (hB.out.mono hw1), ?_⟩
      rw [HY.out]
      refine ⟨_, rfl, ?_⟩
      have h := hO.out
      obtain ⟨q1, q2⟩ := h
      refine ⟨q1, ?_⟩
      rcases q2 with q2 | ⟨g, cap, cur, hv, hg, hr⟩
      · exact .inl q2
      · exact .inr ⟨g, cap, cur, hv, by omega, hr⟩
end Go.Proofs.YtadifolonbkamaaGreatDoor.Ca
