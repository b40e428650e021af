/- All and the document's Blend at rows that are laid for the call; what the laws show first. -/
import Derived.Test.YtfjfhbmbngogpaaBlB
namespace Go.Proofs.Ytfjfhbmbngogpaa
open Go.RowKit

/-- A slice of lines, as it is handed to All. -/
structure Pl (W : World) (p : Sl) (l : List Ln) : Prop where
  at_ : LnsAt W W.heap.size p.1 p.2.1 l
  nil_ : p.1 = none → p.2.2 = 0
  small : ∀ x ∈ l, smallK (keyB x)
  cap : p.2.1 ≤ p.2.2
theorem Pl.below {W W' : World} {p : Sl} {l : List Ln} (h : Pl W p l) (hb : Below W.heap.size W W') : Pl W' p l := ⟨(h.at_.below hb).wide hb.size, h.nil_, h.small, h.cap⟩
theorem Pl.alloc {W : World} {p : Sl} {l : List Ln} (h : Pl W p l) (o : Obj) : Pl (W.alloc o) p l := h.below ((Below.refl _ W).alloc (Nat.le_refl _) o)
theorem Pl.blk {W : World} {g n : Nat} {t : TypeId} {l : List Ln} (h : Blk W g t (lns l).toArray) (hn : n = l.length) (hm : n ≤ maxLen) (c : Nat) (hs : ∀ x ∈ l, smallK (keyB x)) (hc : n ≤ c) : Pl W (some ⟨g, 0, none⟩, n, c) l :=
  ⟨⟨hn.symm, hm, fun _ => ⟨_, rfl, h.lt, fun j u hj => by rw [add_cellO', h.cell j]; simpa using hj⟩⟩, fun e => (by cases e), hs, hc⟩
/-- What All hands back. -/
def AllP (l : List Ln) (w : World) (e : Ending) (w' : World) : Prop := ∃ A n c, e = .returned (.slice A n c) ∧ Pl w' (A, n, c) (blendT l) ∧ Below w.heap.size w w'
theorem rows_of (ps : List Sl) (ls : List (List Ln)) (w : World) (hlen : ps.length = ls.length) (h : ∀ (j : Nat) (p : Sl) (l : List Ln), ps[j]? = some p → ls[j]? = some l → Pl w p l) (hn : ps.length ≤ 1000) :
    SlsAt (w.alloc (.cells (ps.map slV).toArray 22)) (w.alloc (.cells (ps.map slV).toArray 22)).heap.size (some ⟨w.heap.size, 0, none⟩) ps.length ps ∧ RowsOf (w.alloc (.cells (ps.map slV).toArray 22)) ps ls := by
  have hB := Blk.new w 22 (ps.map slV).toArray
  refine ⟨⟨rfl, by unfold maxLen; omega, fun _ => ⟨_, rfl, by simp, fun j r hj => ?_⟩⟩, hlen, fun j r l hr hl => ((h j r l hr hl).alloc _).at_, fun x hx => ?_, fun j r hr => ?_⟩
  · rw [add_cellO', hB.cell j]
    simp [hj]
  · obtain ⟨l, hl, hxl⟩ := List.mem_flatten.1 hx
    obtain ⟨j, hj⟩ := List.getElem?_of_mem hl
    obtain ⟨p, hp⟩ : ∃ p, ps[j]? = some p := ⟨_, List.getElem?_eq_getElem (by have := (List.getElem?_eq_some_iff.1 hj).1; omega)⟩
    exact (h j p l hp hj).small x hxl
  · obtain ⟨l, hl⟩ : ∃ l, ls[j]? = some l := ⟨_, List.getElem?_eq_getElem (by have := (List.getElem?_eq_some_iff.1 hr).1; omega)⟩
    exact (h j r l hr hl).nil_
theorem blend_small {l : List Ln} (h : ∀ x ∈ l, smallK (keyB x)) : ∀ x ∈ blendT l, smallK (keyB x) := fun x hx => h x (blendR_sub keyB clsB empB l x hx)
theorem all_of (ps : List Sl) (ls : List (List Ln)) (w : World) (hlen : ps.length = ls.length) (h : ∀ (j : Nat) (p : Sl) (l : List Ln), ps[j]? = some p → ls[j]? = some l → Pl w p l) (hn : ps.length ≤ 1000) (hsz : ls.flatten.length ≤ 2513169434916) :
    Calls Try.prog 10 #[.slice (some ⟨w.heap.size, 0, none⟩) ps.length ps.length] (w.alloc (.cells (ps.map slV).toArray 22)) (AllP ls.flatten w) := by
  obtain ⟨h1, h2⟩ := rows_of ps ls w hlen h hn
  refine (bAll_any _ _ ps.length ps ls _ h1 h2 hsz).mono ?_
  rintro e w' ⟨A, n, c, rfl, hl, hb, hc⟩
  exact ⟨A, n, c, rfl, ⟨hl, hc.1, blend_small h2.small, hc.2⟩, ((Below.refl _ w).alloc (Nat.le_refl _) _).trans (hb.mono (by simp))⟩
theorem rb_of (ps : List Sl) (ls : List (List Ln)) (w : World) (hlen : ps.length = ls.length) (h : ∀ (j : Nat) (p : Sl) (l : List Ln), ps[j]? = some p → ls[j]? = some l → Pl w p l) (hn : ps.length ≤ 1000) (hsz : ls.flatten.length ≤ 2513169434916) :
    Calls Try.prog 11 #[.slice (some ⟨w.heap.size, 0, none⟩) ps.length ps.length] (w.alloc (.cells (ps.map slV).toArray 22)) (AllP ls.flatten w) := by
  obtain ⟨h1, h2⟩ := rows_of ps ls w hlen h hn
  refine (rBlend_any _ _ ps.length ps ls _ h1 h2 hsz).mono ?_
  rintro e w' ⟨A, n, c, rfl, hl, hb, hc⟩
  exact ⟨A, n, c, rfl, ⟨hl, hc.1, blend_small h2.small, hc.2⟩, ((Below.refl _ w).alloc (Nat.le_refl _) _).trans (hb.mono (by simp))⟩
section
variable (A0 A1 A2 : Option Addr) (n0 c0 n1 c1 n2 c2 : Nat) (l0 l1 l2 : List Ln) (w : World)
theorem at1 (h0 : Pl w (A0, n0, c0) l0) : ∀ (j : Nat) (p : Sl) (l : List Ln), [(A0, n0, c0)][j]? = some p → [l0][j]? = some l → Pl w p l := by
  intro j p l hp hl
  rcases j with _ | j
  · simp at hp hl; subst hp hl; exact h0
  · simp at hp
theorem at2 (h0 : Pl w (A0, n0, c0) l0) (h1 : Pl w (A1, n1, c1) l1) : ∀ (j : Nat) (p : Sl) (l : List Ln), [(A0, n0, c0), (A1, n1, c1)][j]? = some p → [l0, l1][j]? = some l → Pl w p l := by
  intro j p l hp hl
  rcases j with _ | _ | j
  · simp at hp hl; subst hp hl; exact h0
  · simp at hp hl; subst hp hl; exact h1
  · simp at hp
theorem at3 (h0 : Pl w (A0, n0, c0) l0) (h1 : Pl w (A1, n1, c1) l1) (h2 : Pl w (A2, n2, c2) l2) : ∀ (j : Nat) (p : Sl) (l : List Ln), [(A0, n0, c0), (A1, n1, c1), (A2, n2, c2)][j]? = some p → [l0, l1, l2][j]? = some l → Pl w p l := by
  intro j p l hp hl
  rcases j with _ | _ | _ | j
  · simp at hp hl; subst hp hl; exact h0
  · simp at hp hl; subst hp hl; exact h1
  · simp at hp hl; subst hp hl; exact h2
  · simp at hp
theorem all1 (h0 : Pl w (A0, n0, c0) l0) (hs : l0.length ≤ 2513169434916) :
    Calls Try.prog 10 #[.slice (some ⟨w.heap.size, 0, none⟩) 1 1] (w.alloc (.cells #[.slice A0 n0 c0] 22)) (AllP l0 w) := by
  have := all_of [(A0, n0, c0)] [l0] w rfl (at1 A0 n0 c0 l0 w h0) (by simp) (by simpa using hs)
  rw [show [l0].flatten = l0 by simp] at this
  exact this
theorem rb1 (h0 : Pl w (A0, n0, c0) l0) (hs : l0.length ≤ 2513169434916) :
    Calls Try.prog 11 #[.slice (some ⟨w.heap.size, 0, none⟩) 1 1] (w.alloc (.cells #[.slice A0 n0 c0] 22)) (AllP l0 w) := by
  have := rb_of [(A0, n0, c0)] [l0] w rfl (at1 A0 n0 c0 l0 w h0) (by simp) (by simpa using hs)
  rw [show [l0].flatten = l0 by simp] at this
  exact this
theorem all2 (h0 : Pl w (A0, n0, c0) l0) (h1 : Pl w (A1, n1, c1) l1) (hs : (l0 ++ l1).length ≤ 2513169434916) :
    Calls Try.prog 10 #[.slice (some ⟨w.heap.size, 0, none⟩) 2 2] (w.alloc (.cells #[.slice A0 n0 c0, .slice A1 n1 c1] 22)) (AllP (l0 ++ l1) w) := by
  have := all_of [(A0, n0, c0), (A1, n1, c1)] [l0, l1] w rfl (at2 A0 A1 n0 c0 n1 c1 l0 l1 w h0 h1) (by simp) (by simpa using hs)
  rw [show [l0, l1].flatten = l0 ++ l1 by simp] at this
  exact this
theorem all3 (h0 : Pl w (A0, n0, c0) l0) (h1 : Pl w (A1, n1, c1) l1) (h2 : Pl w (A2, n2, c2) l2) (hs : (l0 ++ (l1 ++ l2)).length ≤ 2513169434916) :
    Calls Try.prog 10 #[.slice (some ⟨w.heap.size, 0, none⟩) 3 3] (w.alloc (.cells #[.slice A0 n0 c0, .slice A1 n1 c1, .slice A2 n2 c2] 22)) (AllP (l0 ++ (l1 ++ l2)) w) := by
  have := all_of [(A0, n0, c0), (A1, n1, c1), (A2, n2, c2)] [l0, l1, l2] w rfl (at3 A0 A1 A2 n0 c0 n1 c1 n2 c2 l0 l1 l2 w h0 h1 h2) (by simp) (by simpa using hs)
  rw [show [l0, l1, l2].flatten = l0 ++ (l1 ++ l2) by simp] at this
  exact this
theorem rb3 (h0 : Pl w (A0, n0, c0) l0) (h1 : Pl w (A1, n1, c1) l1) (h2 : Pl w (A2, n2, c2) l2) (hs : (l0 ++ (l1 ++ l2)).length ≤ 2513169434916) :
    Calls Try.prog 11 #[.slice (some ⟨w.heap.size, 0, none⟩) 3 3] (w.alloc (.cells #[.slice A0 n0 c0, .slice A1 n1 c1, .slice A2 n2 c2] 22)) (AllP (l0 ++ (l1 ++ l2)) w) := by
  have := rb_of [(A0, n0, c0), (A1, n1, c1), (A2, n2, c2)] [l0, l1, l2] w rfl (at3 A0 A1 A2 n0 c0 n1 c1 n2 c2 l0 l1 l2 w h0 h1 h2) (by simp) (by simpa using hs)
  rw [show [l0, l1, l2].flatten = l0 ++ (l1 ++ l2) by simp] at this
  exact this
theorem all0 : Calls Try.prog 10 #[.slice none 0 0] w (AllP [] w) := by
  refine (bAll_any none 0 0 [] [] w ⟨rfl, Nat.zero_le _, fun h => by omega⟩ ⟨rfl, fun j r l h => by simp at h, fun x h => by simp at h, fun j r h => by simp at h⟩ (by simp)).mono ?_
  rintro e w' ⟨A, n, c, rfl, hl, hb, hc⟩
  exact ⟨A, n, c, rfl, ⟨hl, hc.1, blend_small (fun x h => by simp at h), hc.2⟩, hb⟩
end

/-! ### shown -/
def unitB : List UInt8 := [85, 110, 105, 116]
def afterB : List UInt8 := [65, 102, 116, 101, 114]
def descB : List UInt8 := [68, 101, 115, 99, 114, 105, 112, 116, 105, 111, 110]
def shA : List Ln := [⟨unitB, afterB, [97, 46, 115, 101, 114, 118, 105, 99, 101], 0⟩, ⟨unitB, descB, [120], 0⟩]
def shB : List Ln := [⟨unitB, afterB, [], 0⟩, ⟨unitB, afterB, [98, 46, 115, 101, 114, 118, 105, 99, 101], 0⟩, ⟨unitB, descB, [121], 0⟩]
theorem sh_two : blendT (shA ++ shB) = [⟨unitB, afterB, [98, 46, 115, 101, 114, 118, 105, 99, 101], 0⟩, ⟨unitB, descB, [121], 0⟩] := by decide +kernel
theorem sh_one : (blendT shA).length = 2 := by decide +kernel
theorem sh_small : (∀ x ∈ shA, smallK (keyB x)) ∧ ∀ x ∈ shB, smallK (keyB x) := by
  constructor
  · intro x hx
    simp [shA] at hx
    rcases hx with rfl | rfl <;> exact ⟨by unfold maxLen; decide, by unfold maxLen; decide⟩
  · intro x hx
    simp [shB] at hx
    rcases hx with rfl | rfl | rfl <;> exact ⟨by unfold maxLen; decide, by unfold maxLen; decide⟩
set_option maxRecDepth 100000 in
set_option maxHeartbeats 4000000 in
theorem shown_any (w : World) : Calls Try.prog 8 #[] w fun e w' => e = .returned (.bool true) ∧ Below w.heap.size w w' := by
  go_enter Try.func8, Try.ntmps8
  go_wp2_with fail
  have hPA := (Pl.blk (n := 2) (l := shA) (Blk.new w 30 (lns shA).toArray) rfl (by decide) 2 sh_small.1 (by decide)).alloc (.cells (lns shB).toArray 30)
  have hPB := Pl.blk (n := 3) (l := shB) (Blk.new (w.alloc (.cells (lns shA).toArray 30)) 30 (lns shB).toArray) rfl (by decide) 3 sh_small.2 (by decide)
  have hz : ((w.alloc (.cells (lns shA).toArray 30)).alloc (.cells (lns shB).toArray 30)).heap.size = w.heap.size + 1 + 1 := by simp
  have hz1 : (w.alloc (.cells (lns shA).toArray 30)).heap.size = w.heap.size + 1 := by simp
  have hB0 : Below w.heap.size w ((w.alloc (.cells (lns shA).toArray 30)).alloc (.cells (lns shB).toArray 30)) := ((Below.refl _ w).alloc (Nat.le_refl _) _).alloc (by simp) _
  rw [hz1] at hPB
  have H := all2 _ _ _ _ _ _ _ _ _ hPA hPB (by decide)
  rw [hz] at H
  change Calls _ _ _ (World.alloc ((w.alloc (.cells (lns shA).toArray 30)).alloc (.cells (lns shB).toArray 30)) _) _
  generalize (w.alloc (.cells (lns shA).toArray 30)).alloc (.cells (lns shB).toArray 30) = w2 at *
  have HPA := Lib.hid hPA
  have HB0 := Lib.hid hB0
  clear hPA hPB hz hz1 hB0
  refine H.mono ?_
  rintro e w3 ⟨A, n, c, rfl, hP, hb⟩
  rw [sh_two] at hP
  obtain rfl : 2 = n := hP.at_.1
  obtain ⟨ad, x0, rfl, hab, hx0, q0, q1, q2, q3⟩ := hP.at_.at_ (k := 0) (by show 0 < 2; omega)
  obtain ⟨ad', x1, e', _, hx1, p0, p1, p2, p3⟩ := hP.at_.at_ (k := 1) (by show 1 < 2; omega)
  cases e'
  simp at hx0 hx1
  subst hx0 hx1
  simp only [Nat.zero_mul, Nat.one_mul] at q2 p2
  rw [show ad.add 0 = ad from rfl] at q2
  rw [show ad.add 4 = ⟨ad.block, ad.off + 4, none⟩ from rfl] at p2
  dsimp only at p2
  have HPA3 := Lib.hid (HPA.out.below hb)
  have HB3 := Lib.hid (more3 HB0.out HB0.out.size hb)
  clear hP hb H q0 q1 q3 p0 p1 p3
  have u1 : (str [98, 46, 115, 101, 114, 118, 105, 99, 101]).toList = [98, 46, 115, 101, 114, 118, 105, 99, 101] := by rw [Lib.toList_data, str_list]
  have u2 : (str [121]).toList = [121] := by rw [Lib.toList_data, str_list]
  go_wp2_with fail
  have H2 := all1 _ _ _ _ w3 HPA3.out (by decide)
  refine H2.mono ?_
  rintro e w4 ⟨A4, n4, c4, rfl, hP4, hb4⟩
  obtain rfl : 2 = n4 := sh_one.symm.trans hP4.at_.1
  have HB4 := Lib.hid (more3 HB3.out HB3.out.size hb4)
  clear hP4 hb4 H2
  go_wp2_with fail
  refine (all0 w4).mono ?_
  rintro e w5 ⟨A5, n5, c5, rfl, hP5, hb5⟩
  obtain rfl : 0 = n5 := hP5.at_.1
  have HB5 := Lib.hid (more3 HB4.out HB4.out.size hb5)
  clear hP5 hb5
  go_wp2_with fail
  go_ret
  exact ⟨rfl, HB5.out⟩
end Go.Proofs.Ytfjfhbmbngogpaa
