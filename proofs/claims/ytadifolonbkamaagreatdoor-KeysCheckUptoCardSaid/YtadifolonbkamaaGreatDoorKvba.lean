/- The walk of the splitter's take. -/
import Derived.Test.YtadifolonbkamaaGreatDoorKvaz
namespace Go.Proofs.YtadifolonbkamaaGreatDoor.Wd
open Go.Proofs.YtadifolonbkamaaGreatDoor.Ca
open Go.RowKit
def TakeP (B p : Nat) (w : World) (r : Option (List (List UInt8) × Option (List UInt8) × UInt8)) (e : Ending) (w' : World) : Prop :=
  (match r with
  | some st => e = .returned (.bool true) ∧ SpAt w' B p st
  | none => e = .returned (.bool false)) ∧ Below B w w'
theorem takeP_some {B p : Nat} {w w' : World} {r : Option (List (List UInt8) × Option (List UInt8) × UInt8)} {st : List (List UInt8) × Option (List UInt8) × UInt8} {e : Ending} (hr : r = some st) (he : e = .returned (.bool true)) (h : SpAt w' B p st) (hb : Below B w w') : TakeP B p w r e w' := by
  subst hr; exact ⟨⟨he, h⟩, hb⟩
theorem takeP_none {B p : Nat} {w w' : World} {r : Option (List (List UInt8) × Option (List UInt8) × UInt8)} {e : Ending} (hr : r = none) (he : e = .returned (.bool false)) (hb : Below B w w') : TakeP B p w r e w' := by
  subst hr; exact ⟨he, hb⟩
theorem sp_quote {w : World} {B p : Nat} {v u : Value} {b : Bool} {q : UInt8} {ws : List (List UInt8)} {c : List UInt8} (hp : SpB w p v u b q) (hB : B ≤ p) (hv : w.ownsRow B 9 1 v ws.length (wcells ws)) (hu : w.ownsRow B 5 1 u c.length (Lib.byteCells c)) (x : UInt8) :
    SpAt ((w.setCell ⟨p, 1, none⟩ (.bool true)).setCell ⟨p, 3, none⟩ (.int .u8 x.toNat)) B p (ws, some c, x) ∧ Below B w ((w.setCell ⟨p, 1, none⟩ (.bool true)).setCell ⟨p, 3, none⟩ (.int .u8 x.toNat)) := by
  have h1 := hp.put1 true
  exact ⟨⟨v, u, h1.put3 x, hB, own_setCell (own_setCell hv hp (by decide)) h1 (by decide), own_setCell (own_setCell hu hp (by decide)) h1 (by decide)⟩, ((Below.refl B w).setCell (p := ⟨p, 1, none⟩) hB _).setCell (p := ⟨p, 3, none⟩) hB _⟩
theorem sp_word {w w0 : World} {B p : Nat} {v u : Value} {q : UInt8} {ws : List (List UInt8)} {c : List UInt8} (hp : SpB w p v u true q) (hB : B ≤ p) (hv : w.ownsRow B 9 1 v ws.length (wcells ws)) (hb : Below B w0 w)
    {x : Value} {n : Nat} (hx : w.ownsRow B 5 1 x n (Lib.byteCells c)) : SpAt (w.setCell ⟨p, 2, none⟩ x) B p (ws, some c, q) ∧ Below B w0 (w.setCell ⟨p, 2, none⟩ x) := by
  have hn : n = c.length := by have := hx.1; simp [Lib.byteCells] at this; omega
  subst hn
  exact ⟨⟨v, x, hp.put2 x, hB, own_setCell hv hp (by decide), own_setCell hx hp (by decide)⟩, hb.setCell (p := ⟨p, 2, none⟩) hB _⟩
set_option maxHeartbeats 4000000 in
theorem take_blank (B p : Nat) (c : UInt8) (ws : List (List UInt8)) (cur : Option (List UInt8)) (q : UInt8) (w : World) (h : SpAt w B p (ws, cur, q)) (_hB : B ≤ w.heap.size) (_hl : ws.length ≤ 32) (_hcl : (cur.getD []).length + 1 ≤ 140737488355328) (hq : q = 0) (hc : blankW c = true) :
    Calls Tryz.prog 108 #[.pointer (some ⟨p, 0, none⟩), .int .u8 c.toNat, .bool false] w (TakeP B p w (takeW c false (ws, cur, q))) := by
  have HR : Hid (takeW c false (ws, cur, q) = some (endW ws cur, none, q)) := by show _ = _; unfold takeW; dsimp only; rw [if_pos ⟨rfl, hq, hc⟩, hq]
  have HS := Lib.hid h
  obtain ⟨v, u, hp, hBp, hv, hu⟩ := h
  obtain ⟨ao, nv, cv, hvv, hvn⟩ : ∃ ao nv cv, v = .slice ao nv cv ∧ nv = ws.length := by
    rcases hv.2 with ⟨h1, h2⟩ | ⟨g, cap, cur', h1, _⟩
    · exact ⟨none, 0, 0, h1, h2.symm⟩
    · exact ⟨_, _, _, h1, rfl⟩
  subst hvv
  subst hvn
  obtain ⟨c0, c1, c2, c3, f0, f1, f2, f3⟩ := hp.cells
  have hpl : p < w.heap.size := Blk.lt hp
  have HP := Lib.hid hp
  have HV := Lib.hid hv
  have HU := Lib.hid hu
  clear hp hv hu
  have q0 : ((q.toNat : Int) == 0) = true := by rw [hq]; rfl
  unfold blankW at hc
  rw [Bool.or_eq_true, beq_iff_eq, beq_iff_eq] at hc
  by_cases h32 : c = 32
  · have b1 : ((c.toNat : Int) == 32) = true := by rw [h32]; rfl
    clear hq hc h32
    go_enter Tryz.func108, Tryz.ntmps108
    go_wp2_with fail
    refine (endWord_any B p ws cur q _ HS.out _hB (by omega)).mono ?_
    rintro e w1 ⟨rfl, hs1, hb1⟩
    go_wp2_with fail
    go_ret
    exact takeP_some HR.out rfl hs1 hb1
  · have h9 : c = 9 := by rcases hc with h | h; exact absurd h h32; exact h
    have b1 : ((c.toNat : Int) == 32) = false := by rw [h9]; rfl
    have b2 : ((c.toNat : Int) == 9) = true := by rw [h9]; rfl
    clear hq hc h32 h9
    go_enter Tryz.func108, Tryz.ntmps108
    go_wp2_with fail
    refine (endWord_any B p ws cur q _ HS.out _hB (by omega)).mono ?_
    rintro e w1 ⟨rfl, hs1, hb1⟩
    go_wp2_with fail
    go_ret
    exact takeP_some HR.out rfl hs1 hb1
set_option maxHeartbeats 4000000 in
theorem take_full_e (B p : Nat) (c : UInt8) (ws : List (List UInt8)) (cur : Option (List UInt8)) (q : UInt8) (w : World) (h : SpAt w B p (ws, cur, q)) (_hB : B ≤ w.heap.size) (_hl : ws.length ≤ 32) (_hcl : (cur.getD []).length + 1 ≤ 140737488355328) (h32 : ws.length = 32) :
    Calls Tryz.prog 108 #[.pointer (some ⟨p, 0, none⟩), .int .u8 c.toNat, .bool true] w (TakeP B p w (takeW c true (ws, cur, q))) := by
  have HR : Hid (takeW c true (ws, cur, q) = none) := by show _ = _; unfold takeW; dsimp only; rw [if_neg (by simp), if_pos h32]
  obtain ⟨v, u, hp, hBp, hv, hu⟩ := h
  obtain ⟨ao, nv, cv, hvv, hvn⟩ : ∃ ao nv cv, v = .slice ao nv cv ∧ nv = ws.length := by
    rcases hv.2 with ⟨h1, h2⟩ | ⟨g, cap, cur', h1, _⟩
    · exact ⟨none, 0, 0, h1, h2.symm⟩
    · exact ⟨_, _, _, h1, rfl⟩
  subst hvv
  subst hvn
  obtain ⟨c0, c1, c2, c3, f0, f1, f2, f3⟩ := hp.cells
  have hpl : p < w.heap.size := Blk.lt hp
  have HP := Lib.hid hp
  have HV := Lib.hid hv
  have HU := Lib.hid hu
  clear hp hv hu
  have l32 : ((ws.length : Int) == 32) = true := by simp; omega
  clear h32
  go_enter Tryz.func108, Tryz.ntmps108
  go_wp2_with fail
  go_ret
  exact takeP_none HR.out rfl (Below.refl _ _)
set_option maxHeartbeats 4000000 in
theorem take_full_q (B p : Nat) (c : UInt8) (ws : List (List UInt8)) (cur : Option (List UInt8)) (q : UInt8) (w : World) (h : SpAt w B p (ws, cur, q)) (_hB : B ≤ w.heap.size) (_hl : ws.length ≤ 32) (_hcl : (cur.getD []).length + 1 ≤ 140737488355328) (h32 : ws.length = 32) (hq : ¬ q = 0) :
    Calls Tryz.prog 108 #[.pointer (some ⟨p, 0, none⟩), .int .u8 c.toNat, .bool false] w (TakeP B p w (takeW c false (ws, cur, q))) := by
  have HR : Hid (takeW c false (ws, cur, q) = none) := by show _ = _; unfold takeW; dsimp only; rw [if_neg (fun h => hq h.2.1), if_pos h32]
  obtain ⟨v, u, hp, hBp, hv, hu⟩ := h
  obtain ⟨ao, nv, cv, hvv, hvn⟩ : ∃ ao nv cv, v = .slice ao nv cv ∧ nv = ws.length := by
    rcases hv.2 with ⟨h1, h2⟩ | ⟨g, cap, cur', h1, _⟩
    · exact ⟨none, 0, 0, h1, h2.symm⟩
    · exact ⟨_, _, _, h1, rfl⟩
  subst hvv
  subst hvn
  obtain ⟨c0, c1, c2, c3, f0, f1, f2, f3⟩ := hp.cells
  have hpl : p < w.heap.size := Blk.lt hp
  have HP := Lib.hid hp
  have HV := Lib.hid hv
  have HU := Lib.hid hu
  clear hp hv hu
  have l32 : ((ws.length : Int) == 32) = true := by simp; omega
  have q0 : ((q.toNat : Int) == 0) = false := by
    simp only [beq_eq_false_iff_ne, ne_eq]
    intro e
    exact hq (byte_eq.2 (by show _ = 0; omega))
  have q0n : ((q.toNat : Int) != 0) = true := by
    simp only [bne_iff_ne, ne_eq]
    intro e
    exact hq (byte_eq.2 (by show _ = 0; omega))
  clear h32 hq
  go_enter Tryz.func108, Tryz.ntmps108
  go_wp2_with fail
  go_ret
  exact takeP_none HR.out rfl (Below.refl _ _)
set_option maxHeartbeats 4000000 in
theorem take_full_0 (B p : Nat) (c : UInt8) (ws : List (List UInt8)) (cur : Option (List UInt8)) (q : UInt8) (w : World) (h : SpAt w B p (ws, cur, q)) (_hB : B ≤ w.heap.size) (_hl : ws.length ≤ 32) (_hcl : (cur.getD []).length + 1 ≤ 140737488355328) (h32 : ws.length = 32) (hq : q = 0) (hb : blankW c = false) :
    Calls Tryz.prog 108 #[.pointer (some ⟨p, 0, none⟩), .int .u8 c.toNat, .bool false] w (TakeP B p w (takeW c false (ws, cur, q))) := by
  have HR : Hid (takeW c false (ws, cur, q) = none) := by show _ = _; unfold takeW; dsimp only; rw [if_neg (by rw [hb]; simp), if_pos h32]
  obtain ⟨v, u, hp, hBp, hv, hu⟩ := h
  obtain ⟨ao, nv, cv, hvv, hvn⟩ : ∃ ao nv cv, v = .slice ao nv cv ∧ nv = ws.length := by
    rcases hv.2 with ⟨h1, h2⟩ | ⟨g, cap, cur', h1, _⟩
    · exact ⟨none, 0, 0, h1, h2.symm⟩
    · exact ⟨_, _, _, h1, rfl⟩
  subst hvv
  subst hvn
  obtain ⟨c0, c1, c2, c3, f0, f1, f2, f3⟩ := hp.cells
  have hpl : p < w.heap.size := Blk.lt hp
  have HP := Lib.hid hp
  have HV := Lib.hid hv
  have HU := Lib.hid hu
  clear hp hv hu
  have l32 : ((ws.length : Int) == 32) = true := by simp; omega
  have q0 : ((q.toNat : Int) == 0) = true := by rw [hq]; rfl
  have q0n : ((q.toNat : Int) != 0) = false := by rw [hq]; rfl
  have b1 : ((c.toNat : Int) == 32) = false := by
    simp only [beq_eq_false_iff_ne, ne_eq]
    intro e
    rw [show c = 32 from byte_eq.2 (by show _ = 32; omega)] at hb
    exact absurd hb (by decide)
  have b2 : ((c.toNat : Int) == 9) = false := by
    simp only [beq_eq_false_iff_ne, ne_eq]
    intro e
    rw [show c = 9 from byte_eq.2 (by show _ = 9; omega)] at hb
    exact absurd hb (by decide)
  clear h32 hq hb
  go_enter Tryz.func108, Tryz.ntmps108
  go_wp2_with fail
  go_ret
  exact takeP_none HR.out rfl (Below.refl _ _)
set_option maxHeartbeats 4000000 in
theorem take_esc (B p : Nat) (c : UInt8) (ws : List (List UInt8)) (cur : Option (List UInt8)) (q : UInt8) (w : World) (h : SpAt w B p (ws, cur, q)) (_hB : B ≤ w.heap.size) (_hl : ws.length ≤ 32) (_hcl : (cur.getD []).length + 1 ≤ 140737488355328) (h32 : ws.length < 32) :
    Calls Tryz.prog 108 #[.pointer (some ⟨p, 0, none⟩), .int .u8 c.toNat, .bool true] w (TakeP B p w (takeW c true (ws, cur, q))) := by
  have HR : Hid (takeW c true (ws, cur, q) = some (ws, some (cur.getD [] ++ [c]), q)) := by show _ = _; unfold takeW; dsimp only; rw [if_neg (by simp), if_neg (by omega), if_pos rfl]
  obtain ⟨v, u, hp, hBp, hv, hu⟩ := h
  obtain ⟨ao, nv, cv, hvv, hvn⟩ : ∃ ao nv cv, v = .slice ao nv cv ∧ nv = ws.length := by
    rcases hv.2 with ⟨h1, h2⟩ | ⟨g, cap, cur', h1, _⟩
    · exact ⟨none, 0, 0, h1, h2.symm⟩
    · exact ⟨_, _, _, h1, rfl⟩
  subst hvv
  subst hvn
  obtain ⟨c0, c1, c2, c3, f0, f1, f2, f3⟩ := hp.cells
  have hpl : p < w.heap.size := Blk.lt hp
  have HP := Lib.hid hp
  have HV := Lib.hid hv
  have HU := Lib.hid hu
  clear hp hv hu
  have l32 : ((ws.length : Int) == 32) = false := by simp; omega
  obtain ⟨i0, hi, hz0, hz1, hz2⟩ := info_parts byteInfoW
  have HPa : Hid (SpB ((w.setCell ⟨p, 1, none⟩ (.bool true)).alloc (.cells #[.int .u8 c.toNat] 5)) p (.slice ao ws.length cv) u true q) := Blk.alloc (HP.out.put1 true) _
  have HVa : Hid (((w.setCell ⟨p, 1, none⟩ (.bool true)).alloc (.cells #[.int .u8 c.toNat] 5)).ownsRow B 9 1 (.slice ao ws.length cv) ws.length (wcells ws)) := (own_setCell HV.out HP.out (by decide)).alloc _
  have HUa : Hid (((w.setCell ⟨p, 1, none⟩ (.bool true)).alloc (.cells #[.int .u8 c.toNat] 5)).ownsRow B 5 1 u (cur.getD []).length (Lib.byteCells (cur.getD []))) := (own_setCell HU.out HP.out (by decide)).alloc _
  have HBa : Hid (Below B w ((w.setCell ⟨p, 1, none⟩ (.bool true)).alloc (.cells #[.int .u8 c.toNat] 5))) := ((Below.refl B w).setCell (p := ⟨p, 1, none⟩) hBp _).alloc (by simpa [World.setCell] using _hB) _
  go_enter Tryz.func108, Tryz.ntmps108
  go_wp2_with (at_builtin; refine wpList_append_own _ rfl _ _ 120 rfl B 5 i0 (.int .u8 0) 1 1 Tryz.underlying120 hi hz0 hz1 hz2 rfl (by decide) _ _ _ rfl HUa.out ⟨w.heap.size, 0, none⟩ 1 1 [.int .u8 c.toNat] rfl rfl ?c1 ?c2 ?c3 ?c4 ?c5 ?_)
  case c2 => rfl
  case c3 => unfold maxLen; omega
  case c5 => omega
  intro v' w2 hown' hgrow _
  have HP1 := Lib.hid (SpB.grown HPa.out HUa.out (by decide) hgrow)
  have HV1 := Lib.hid (own_other HVa.out HUa.out (by decide) hgrow)
  have HB1 := Lib.hid (HBa.out.grown hgrow (Nat.le_trans _hB HBa.out.size) (fun k hk => (HUa.out.lt k hk).1))
  have HO1 : Hid (w2.ownsRow B 5 1 v' ((cur.getD []).length + 1) (Lib.byteCells (cur.getD [] ++ [c]))) := by rw [Lib.byteCells_append]; exact hown'
  have hown2 := hown'.2
  clear hown' hgrow c0 c1 c2 c3 f0 f1 f2 f3
  obtain ⟨d0, d1, d2, d3, e0, e1, e2, e3⟩ := HP1.out.cells
  obtain ⟨g, cap, rfl⟩ : ∃ g cap, v' = .slice (some ⟨g, 0, none⟩) ((cur.getD []).length + 1) cap := by
    rcases hown2 with ⟨_, h0⟩ | ⟨g, cap, cur', hv, _⟩
    · omega
    · exact ⟨g, cap, hv⟩
  have HX := Lib.hid (sp_word HP1.out hBp HV1.out HB1.out HO1.out)
  clear hown2
  go_wp2_with fail
  go_ret
  exact takeP_some HR.out rfl HX.out.1 HX.out.2
set_option maxHeartbeats 4000000 in
theorem take_shut (B p : Nat) (c : UInt8) (ws : List (List UInt8)) (cur : Option (List UInt8)) (q : UInt8) (w : World) (h : SpAt w B p (ws, cur, q)) (_hB : B ≤ w.heap.size) (_hl : ws.length ≤ 32) (_hcl : (cur.getD []).length + 1 ≤ 140737488355328) (h32 : ws.length < 32) (hq : ¬ q = 0) (hc : c = q) :
    Calls Tryz.prog 108 #[.pointer (some ⟨p, 0, none⟩), .int .u8 c.toNat, .bool false] w (TakeP B p w (takeW c false (ws, cur, q))) := by
  have HR : Hid (takeW c false (ws, cur, q) = some (ws, some (cur.getD []), 0)) := by show _ = _; unfold takeW; dsimp only; rw [if_neg (fun h => hq h.2.1), if_neg (by omega), if_neg (by simp), if_pos ⟨hq, hc⟩]
  obtain ⟨v, u, hp, hBp, hv, hu⟩ := h
  obtain ⟨ao, nv, cv, hvv, hvn⟩ : ∃ ao nv cv, v = .slice ao nv cv ∧ nv = ws.length := by
    rcases hv.2 with ⟨h1, h2⟩ | ⟨g, cap, cur', h1, _⟩
    · exact ⟨none, 0, 0, h1, h2.symm⟩
    · exact ⟨_, _, _, h1, rfl⟩
  subst hvv
  subst hvn
  obtain ⟨c0, c1, c2, c3, f0, f1, f2, f3⟩ := hp.cells
  have hpl : p < w.heap.size := Blk.lt hp
  have HP := Lib.hid hp
  have HV := Lib.hid hv
  have HU := Lib.hid hu
  clear hp hv hu
  have l32 : ((ws.length : Int) == 32) = false := by simp; omega
  have q0 : ((q.toNat : Int) == 0) = false := by
    simp only [beq_eq_false_iff_ne, ne_eq]
    intro e
    exact hq (byte_eq.2 (by show _ = 0; omega))
  have q0n : ((q.toNat : Int) != 0) = true := by
    simp only [bne_iff_ne, ne_eq]
    intro e
    exact hq (byte_eq.2 (by show _ = 0; omega))
  have cq : ((c.toNat : Int) == (q.toNat : Int)) = true := by rw [hc]; simp
  have HX := Lib.hid (sp_quote HP.out hBp HV.out HU.out 0)
  clear hq hc
  go_enter Tryz.func108, Tryz.ntmps108
  go_wp2_with fail
  go_ret
  exact takeP_some HR.out rfl HX.out.1 HX.out.2
set_option maxHeartbeats 4000000 in
theorem take_inq (B p : Nat) (c : UInt8) (ws : List (List UInt8)) (cur : Option (List UInt8)) (q : UInt8) (w : World) (h : SpAt w B p (ws, cur, q)) (_hB : B ≤ w.heap.size) (_hl : ws.length ≤ 32) (_hcl : (cur.getD []).length + 1 ≤ 140737488355328) (h32 : ws.length < 32) (hq : ¬ q = 0) (hc : ¬ c = q) :
    Calls Tryz.prog 108 #[.pointer (some ⟨p, 0, none⟩), .int .u8 c.toNat, .bool false] w (TakeP B p w (takeW c false (ws, cur, q))) := by
  have HR : Hid (takeW c false (ws, cur, q) = some (ws, some (cur.getD [] ++ [c]), q)) := by show _ = _; unfold takeW; dsimp only; rw [if_neg (fun h => hq h.2.1), if_neg (by omega), if_neg (by simp), if_neg (fun h => hc h.2), if_neg (fun h => hq h.1)]
  obtain ⟨v, u, hp, hBp, hv, hu⟩ := h
  obtain ⟨ao, nv, cv, hvv, hvn⟩ : ∃ ao nv cv, v = .slice ao nv cv ∧ nv = ws.length := by
    rcases hv.2 with ⟨h1, h2⟩ | ⟨g, cap, cur', h1, _⟩
    · exact ⟨none, 0, 0, h1, h2.symm⟩
    · exact ⟨_, _, _, h1, rfl⟩
  subst hvv
  subst hvn
  obtain ⟨c0, c1, c2, c3, f0, f1, f2, f3⟩ := hp.cells
  have hpl : p < w.heap.size := Blk.lt hp
  have HP := Lib.hid hp
  have HV := Lib.hid hv
  have HU := Lib.hid hu
  clear hp hv hu
  have l32 : ((ws.length : Int) == 32) = false := by simp; omega
  have q0 : ((q.toNat : Int) == 0) = false := by
    simp only [beq_eq_false_iff_ne, ne_eq]
    intro e
    exact hq (byte_eq.2 (by show _ = 0; omega))
  have q0n : ((q.toNat : Int) != 0) = true := by
    simp only [bne_iff_ne, ne_eq]
    intro e
    exact hq (byte_eq.2 (by show _ = 0; omega))
  have cq : ((c.toNat : Int) == (q.toNat : Int)) = false := by
    simp only [beq_eq_false_iff_ne, ne_eq]
    intro e
    exact hc (byte_eq.2 (by omega))
  clear hq hc
  obtain ⟨i0, hi, hz0, hz1, hz2⟩ := info_parts byteInfoW
  have HPa : Hid (SpB ((w.setCell ⟨p, 1, none⟩ (.bool true)).alloc (.cells #[.int .u8 c.toNat] 5)) p (.slice ao ws.length cv) u true q) := Blk.alloc (HP.out.put1 true) _
  have HVa : Hid (((w.setCell ⟨p, 1, none⟩ (.bool true)).alloc (.cells #[.int .u8 c.toNat] 5)).ownsRow B 9 1 (.slice ao ws.length cv) ws.length (wcells ws)) := (own_setCell HV.out HP.out (by decide)).alloc _
  have HUa : Hid (((w.setCell ⟨p, 1, none⟩ (.bool true)).alloc (.cells #[.int .u8 c.toNat] 5)).ownsRow B 5 1 u (cur.getD []).length (Lib.byteCells (cur.getD []))) := (own_setCell HU.out HP.out (by decide)).alloc _
  have HBa : Hid (Below B w ((w.setCell ⟨p, 1, none⟩ (.bool true)).alloc (.cells #[.int .u8 c.toNat] 5))) := ((Below.refl B w).setCell (p := ⟨p, 1, none⟩) hBp _).alloc (by simpa [World.setCell] using _hB) _
  go_enter Tryz.func108, Tryz.ntmps108
  go_wp2_with (at_builtin; refine wpList_append_own _ rfl _ _ 120 rfl B 5 i0 (.int .u8 0) 1 1 Tryz.underlying120 hi hz0 hz1 hz2 rfl (by decide) _ _ _ rfl HUa.out ⟨w.heap.size, 0, none⟩ 1 1 [.int .u8 c.toNat] rfl rfl ?c1 ?c2 ?c3 ?c4 ?c5 ?_)
  case c2 => rfl
  case c3 => unfold maxLen; omega
  case c5 => omega
  intro v' w2 hown' hgrow _
  have HP1 := Lib.hid (SpB.grown HPa.out HUa.out (by decide) hgrow)
  have HV1 := Lib.hid (own_other HVa.out HUa.out (by decide) hgrow)
  have HB1 := Lib.hid (HBa.out.grown hgrow (Nat.le_trans _hB HBa.out.size) (fun k hk => (HUa.out.lt k hk).1))
  have HO1 : Hid (w2.ownsRow B 5 1 v' ((cur.getD []).length + 1) (Lib.byteCells (cur.getD [] ++ [c]))) := by rw [Lib.byteCells_append]; exact hown'
  have hown2 := hown'.2
  clear hown' hgrow c0 c1 c2 c3 f0 f1 f2 f3
  obtain ⟨d0, d1, d2, d3, e0, e1, e2, e3⟩ := HP1.out.cells
  obtain ⟨g, cap, rfl⟩ : ∃ g cap, v' = .slice (some ⟨g, 0, none⟩) ((cur.getD []).length + 1) cap := by
    rcases hown2 with ⟨_, h0⟩ | ⟨g, cap, cur', hv, _⟩
    · omega
    · exact ⟨g, cap, hv⟩
  have HX := Lib.hid (sp_word HP1.out hBp HV1.out HB1.out HO1.out)
  clear hown2
  go_wp2_with fail
  go_ret
  exact takeP_some HR.out rfl HX.out.1 HX.out.2
set_option maxHeartbeats 4000000 in
theorem take_open1 (B p : Nat) (c : UInt8) (ws : List (List UInt8)) (cur : Option (List UInt8)) (q : UInt8) (w : World) (h : SpAt w B p (ws, cur, q)) (_hB : B ≤ w.heap.size) (_hl : ws.length ≤ 32) (_hcl : (cur.getD []).length + 1 ≤ 140737488355328) (h32 : ws.length < 32) (hq : q = 0) (hc : c = 39) :
    Calls Tryz.prog 108 #[.pointer (some ⟨p, 0, none⟩), .int .u8 c.toNat, .bool false] w (TakeP B p w (takeW c false (ws, cur, q))) := by
  have hb : blankW c = false := by rw [hc]; rfl
  have HR : Hid (takeW c false (ws, cur, q) = some (ws, some (cur.getD []), c)) := by show _ = _; unfold takeW; dsimp only; rw [if_neg (by rw [hb]; simp), if_neg (by omega), if_neg (by simp), if_neg (fun h => h.1 hq), if_pos ⟨hq, by rw [hc]; decide⟩]
  obtain ⟨v, u, hp, hBp, hv, hu⟩ := h
  obtain ⟨ao, nv, cv, hvv, hvn⟩ : ∃ ao nv cv, v = .slice ao nv cv ∧ nv = ws.length := by
    rcases hv.2 with ⟨h1, h2⟩ | ⟨g, cap, cur', h1, _⟩
    · exact ⟨none, 0, 0, h1, h2.symm⟩
    · exact ⟨_, _, _, h1, rfl⟩
  subst hvv
  subst hvn
  obtain ⟨c0, c1, c2, c3, f0, f1, f2, f3⟩ := hp.cells
  have hpl : p < w.heap.size := Blk.lt hp
  have HP := Lib.hid hp
  have HV := Lib.hid hv
  have HU := Lib.hid hu
  clear hp hv hu
  have l32 : ((ws.length : Int) == 32) = false := by simp; omega
  have q0 : ((q.toNat : Int) == 0) = true := by rw [hq]; rfl
  have q0n : ((q.toNat : Int) != 0) = false := by rw [hq]; rfl
  have b1 : ((c.toNat : Int) == 32) = false := by
    simp only [beq_eq_false_iff_ne, ne_eq]
    intro e
    rw [show c = 32 from byte_eq.2 (by show _ = 32; omega)] at hb
    exact absurd hb (by decide)
  have b2 : ((c.toNat : Int) == 9) = false := by
    simp only [beq_eq_false_iff_ne, ne_eq]
    intro e
    rw [show c = 9 from byte_eq.2 (by show _ = 9; omega)] at hb
    exact absurd hb (by decide)
  have s1 : ((c.toNat : Int) == 39) = true := by rw [hc]; rfl
  have HX := Lib.hid (sp_quote HP.out hBp HV.out HU.out c)
  clear hq hc hb
  go_enter Tryz.func108, Tryz.ntmps108
  go_wp2_with fail
  go_ret
  exact takeP_some HR.out rfl HX.out.1 HX.out.2
set_option maxHeartbeats 4000000 in
theorem take_open2 (B p : Nat) (c : UInt8) (ws : List (List UInt8)) (cur : Option (List UInt8)) (q : UInt8) (w : World) (h : SpAt w B p (ws, cur, q)) (_hB : B ≤ w.heap.size) (_hl : ws.length ≤ 32) (_hcl : (cur.getD []).length + 1 ≤ 140737488355328) (h32 : ws.length < 32) (hq : q = 0) (hc : c = 34) :
    Calls Tryz.prog 108 #[.pointer (some ⟨p, 0, none⟩), .int .u8 c.toNat, .bool false] w (TakeP B p w (takeW c false (ws, cur, q))) := by
  have hb : blankW c = false := by rw [hc]; rfl
  have HR : Hid (takeW c false (ws, cur, q) = some (ws, some (cur.getD []), c)) := by show _ = _; unfold takeW; dsimp only; rw [if_neg (by rw [hb]; simp), if_neg (by omega), if_neg (by simp), if_neg (fun h => h.1 hq), if_pos ⟨hq, by rw [hc]; decide⟩]
  obtain ⟨v, u, hp, hBp, hv, hu⟩ := h
  obtain ⟨ao, nv, cv, hvv, hvn⟩ : ∃ ao nv cv, v = .slice ao nv cv ∧ nv = ws.length := by
    rcases hv.2 with ⟨h1, h2⟩ | ⟨g, cap, cur', h1, _⟩
    · exact ⟨none, 0, 0, h1, h2.symm⟩
    · exact ⟨_, _, _, h1, rfl⟩
  subst hvv
  subst hvn
  obtain ⟨c0, c1, c2, c3, f0, f1, f2, f3⟩ := hp.cells
  have hpl : p < w.heap.size := Blk.lt hp
  have HP := Lib.hid hp
  have HV := Lib.hid hv
  have HU := Lib.hid hu
  clear hp hv hu
  have l32 : ((ws.length : Int) == 32) = false := by simp; omega
  have q0 : ((q.toNat : Int) == 0) = true := by rw [hq]; rfl
  have q0n : ((q.toNat : Int) != 0) = false := by rw [hq]; rfl
  have b1 : ((c.toNat : Int) == 32) = false := by
    simp only [beq_eq_false_iff_ne, ne_eq]
    intro e
    rw [show c = 32 from byte_eq.2 (by show _ = 32; omega)] at hb
    exact absurd hb (by decide)
  have b2 : ((c.toNat : Int) == 9) = false := by
    simp only [beq_eq_false_iff_ne, ne_eq]
    intro e
    rw [show c = 9 from byte_eq.2 (by show _ = 9; omega)] at hb
    exact absurd hb (by decide)
  have s1 : ((c.toNat : Int) == 39) = false := by rw [hc]; rfl
  have s2 : ((c.toNat : Int) == 34) = true := by rw [hc]; rfl
  have HX := Lib.hid (sp_quote HP.out hBp HV.out HU.out c)
  clear hq hc hb
  go_enter Tryz.func108, Tryz.ntmps108
  go_wp2_with fail
  go_ret
  exact takeP_some HR.out rfl HX.out.1 HX.out.2
set_option maxHeartbeats 4000000 in
theorem take_bare (B p : Nat) (c : UInt8) (ws : List (List UInt8)) (cur : Option (List UInt8)) (q : UInt8) (w : World) (h : SpAt w B p (ws, cur, q)) (_hB : B ≤ w.heap.size) (_hl : ws.length ≤ 32) (_hcl : (cur.getD []).length + 1 ≤ 140737488355328) (h32 : ws.length < 32) (hq : q = 0) (hb : blankW c = false) (hc1 : ¬ c = 39) (hc2 : ¬ c = 34) :
    Calls Tryz.prog 108 #[.pointer (some ⟨p, 0, none⟩), .int .u8 c.toNat, .bool false] w (TakeP B p w (takeW c false (ws, cur, q))) := by
  have HR : Hid (takeW c false (ws, cur, q) = some (ws, some (cur.getD [] ++ [c]), q)) := by show _ = _; unfold takeW; dsimp only; rw [if_neg (by rw [hb]; simp), if_neg (by omega), if_neg (by simp), if_neg (fun h => h.1 hq), if_neg (by rintro ⟨_, h | h⟩; exact hc1 h; exact hc2 h)]
  obtain ⟨v, u, hp, hBp, hv, hu⟩ := h
  obtain ⟨ao, nv, cv, hvv, hvn⟩ : ∃ ao nv cv, v = .slice ao nv cv ∧ nv = ws.length := by
    rcases hv.2 with ⟨h1, h2⟩ | ⟨g, cap, cur', h1, _⟩
    · exact ⟨none, 0, 0, h1, h2.symm⟩
    · exact ⟨_, _, _, h1, rfl⟩
  subst hvv
  subst hvn
  obtain ⟨c0, c1, c2, c3, f0, f1, f2, f3⟩ := hp.cells
  have hpl : p < w.heap.size := Blk.lt hp
  have HP := Lib.hid hp
  have HV := Lib.hid hv
  have HU := Lib.hid hu
  clear hp hv hu
  have l32 : ((ws.length : Int) == 32) = false := by simp; omega
  have q0 : ((q.toNat : Int) == 0) = true := by rw [hq]; rfl
  have q0n : ((q.toNat : Int) != 0) = false := by rw [hq]; rfl
  have b1 : ((c.toNat : Int) == 32) = false := by
    simp only [beq_eq_false_iff_ne, ne_eq]
    intro e
    rw [show c = 32 from byte_eq.2 (by show _ = 32; omega)] at hb
    exact absurd hb (by decide)
  have b2 : ((c.toNat : Int) == 9) = false := by
    simp only [beq_eq_false_iff_ne, ne_eq]
    intro e
    rw [show c = 9 from byte_eq.2 (by show _ = 9; omega)] at hb
    exact absurd hb (by decide)
  have s1 : ((c.toNat : Int) == 39) = false := by
    simp only [beq_eq_false_iff_ne, ne_eq]
    intro e
    exact hc1 (byte_eq.2 (by show _ = 39; omega))
  have s2 : ((c.toNat : Int) == 34) = false := by
    simp only [beq_eq_false_iff_ne, ne_eq]
    intro e
    exact hc2 (byte_eq.2 (by show _ = 34; omega))
  clear hq hb hc1 hc2
  obtain ⟨i0, hi, hz0, hz1, hz2⟩ := info_parts byteInfoW
  have HPa : Hid (SpB ((w.setCell ⟨p, 1, none⟩ (.bool true)).alloc (.cells #[.int .u8 c.toNat] 5)) p (.slice ao ws.length cv) u true q) := Blk.alloc (HP.out.put1 true) _
  have HVa : Hid (((w.setCell ⟨p, 1, none⟩ (.bool true)).alloc (.cells #[.int .u8 c.toNat] 5)).ownsRow B 9 1 (.slice ao ws.length cv) ws.length (wcells ws)) := (own_setCell HV.out HP.out (by decide)).alloc _
  have HUa : Hid (((w.setCell ⟨p, 1, none⟩ (.bool true)).alloc (.cells #[.int .u8 c.toNat] 5)).ownsRow B 5 1 u (cur.getD []).length (Lib.byteCells (cur.getD []))) := (own_setCell HU.out HP.out (by decide)).alloc _
  have HBa : Hid (Below B w ((w.setCell ⟨p, 1, none⟩ (.bool true)).alloc (.cells #[.int .u8 c.toNat] 5))) := ((Below.refl B w).setCell (p := ⟨p, 1, none⟩) hBp _).alloc (by simpa [World.setCell] using _hB) _
  go_enter Tryz.func108, Tryz.ntmps108
  go_wp2_with (at_builtin; refine wpList_append_own _ rfl _ _ 120 rfl B 5 i0 (.int .u8 0) 1 1 Tryz.underlying120 hi hz0 hz1 hz2 rfl (by decide) _ _ _ rfl HUa.out ⟨w.heap.size, 0, none⟩ 1 1 [.int .u8 c.toNat] rfl rfl ?c1 ?c2 ?c3 ?c4 ?c5 ?_)
  case c2 => rfl
  case c3 => unfold maxLen; omega
  case c5 => omega
  intro v' w2 hown' hgrow _
  have HP1 := Lib.hid (SpB.grown HPa.out HUa.out (by decide) hgrow)
  have HV1 := Lib.hid (own_other HVa.out HUa.out (by decide) hgrow)
  have HB1 := Lib.hid (HBa.out.grown hgrow (Nat.le_trans _hB HBa.out.size) (fun k hk => (HUa.out.lt k hk).1))
  have HO1 : Hid (w2.ownsRow B 5 1 v' ((cur.getD []).length + 1) (Lib.byteCells (cur.getD [] ++ [c]))) := by rw [Lib.byteCells_append]; exact hown'
  have hown2 := hown'.2
  clear hown' hgrow c0 c1 c2 c3 f0 f1 f2 f3
  obtain ⟨d0, d1, d2, d3, e0, e1, e2, e3⟩ := HP1.out.cells
  obtain ⟨g, cap, rfl⟩ : ∃ g cap, v' = .slice (some ⟨g, 0, none⟩) ((cur.getD []).length + 1) cap := by
    rcases hown2 with ⟨_, h0⟩ | ⟨g, cap, cur', hv, _⟩
    · omega
    · exact ⟨g, cap, hv⟩
  have HX := Lib.hid (sp_word HP1.out hBp HV1.out HB1.out HO1.out)
  clear hown2
  go_wp2_with fail
  go_ret
  exact takeP_some HR.out rfl HX.out.1 HX.out.2
theorem take_any (B p : Nat) (c : UInt8) (esc : Bool) (ws : List (List UInt8)) (cur : Option (List UInt8)) (q : UInt8) (w : World) (h : SpAt w B p (ws, cur, q)) (hB : B ≤ w.heap.size) (hl : ws.length ≤ 32) (hcl : (cur.getD []).length + 1 ≤ 140737488355328) :
    Calls Tryz.prog 108 #[.pointer (some ⟨p, 0, none⟩), .int .u8 c.toNat, .bool esc] w (TakeP B p w (takeW c esc (ws, cur, q))) := by
  by_cases h32 : ws.length = 32
  · cases esc with
    | true => exact take_full_e B p c ws cur q w h hB hl hcl h32
    | false =>
      by_cases hq : q = 0
      · cases hb : blankW c with
        | true => exact take_blank B p c ws cur q w h hB hl hcl hq hb
        | false => exact take_full_0 B p c ws cur q w h hB hl hcl h32 hq hb
      · exact take_full_q B p c ws cur q w h hB hl hcl h32 hq
  · have h32 : ws.length < 32 := by omega
    cases esc with
    | true => exact take_esc B p c ws cur q w h hB hl hcl h32
    | false =>
      by_cases hq : q = 0
      · cases hb : blankW c with
        | true => exact take_blank B p c ws cur q w h hB hl hcl hq hb
        | false =>
          by_cases h1 : c = 39
          · exact take_open1 B p c ws cur q w h hB hl hcl h32 hq h1
          · by_cases h2 : c = 34
            · exact take_open2 B p c ws cur q w h hB hl hcl h32 hq h2
            · exact take_bare B p c ws cur q w h hB hl hcl h32 hq hb h1 h2
      · by_cases h1 : c = q
        · exact take_shut B p c ws cur q w h hB hl hcl h32 hq h1
        · exact take_inq B p c ws cur q w h hB hl hcl h32 hq h1
end Go.Proofs.YtadifolonbkamaaGreatDoor.Wd
