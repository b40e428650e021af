/- New rows of texts and of pairs; the walk of what the laws show first. -/
import Derived.Test.YtjoedgkmpklhfaaExF
namespace Go.Proofs.Ytjoedgkmpklhfaa
open Go.RowKit Go.WideMaps Go.Maps

theorem add_new (g j : Nat) : (⟨g, 0, none⟩ : Addr).add j = ⟨g, j, none⟩ := by unfold Addr.add; split <;> simp_all
theorem cell_new (w : World) (t : TypeId) (cs : Array Value) (j : Nat) : (w.alloc (.cells cs t)).cell? ⟨w.heap.size, j, none⟩ = cs[j]? := Lib.cell_of_heap (Blk.new w t cs) j
theorem rowAt_new (l : List (List UInt8)) (w : World) (hl : l.length ≤ maxLen) : RowAt (w.alloc (.cells (wcells l).toArray 9)) (w.heap.size + 1) (some ⟨w.heap.size, 0, none⟩) l.length l := by
  refine ⟨rfl, hl, fun _ => ⟨_, rfl, Nat.lt_succ_self _, fun j x hj => ?_⟩⟩
  rw [add_new, cell_new]
  unfold wcells
  simp [hj]
def pcells (env : List PairX) : List Value := env.flatMap fun p => [Value.string (str p.1), Value.string (str p.2)]
theorem pcells_length (env : List PairX) : (pcells env).length = env.length * 2 := by
  induction env with
  | nil => rfl
  | cons p env ih => simp [pcells] at ih ⊢; omega
theorem pcells_app (a b : List PairX) : pcells (a ++ b) = pcells a ++ pcells b := by simp [pcells]
theorem pcells_at : ∀ (env : List PairX) (j : Nat) (p : PairX), env[j]? = some p → (pcells env)[j * 2]? = some (Value.string (str p.1)) ∧ (pcells env)[j * 2 + 1]? = some (Value.string (str p.2))
  | [], j, p, h => by simp at h
  | q :: t, 0, p, h => by
    simp at h
    subst h
    simp [pcells]
  | q :: t, j + 1, p, h => by
    have ih := pcells_at t j p (by simpa using h)
    have e : pcells (q :: t) = Value.string (str q.1) :: Value.string (str q.2) :: pcells t := by simp [pcells]
    rw [e, show (j + 1) * 2 = j * 2 + 1 + 1 by omega, show j * 2 + 1 + 1 + 1 = (j * 2 + 1) + 1 + 1 by omega]
    simpa using ih
theorem pairsAt_new (env : List PairX) (w : World) (hl : env.length ≤ maxLen) (hp : ∀ p ∈ env, p.1.length ≤ maxLen ∧ p.2.length ≤ maxLen) : PairsAt (w.alloc (.cells (pcells env).toArray 35)) (w.heap.size + 1) (some ⟨w.heap.size, 0, none⟩) env.length env := by
  refine ⟨rfl, hl, hp, fun _ => ⟨_, rfl, Nat.lt_succ_self _, fun j p hj => ?_⟩⟩
  obtain ⟨h1, h2⟩ := pcells_at env j p hj
  rw [add_new, cell_new]
  refine ⟨by simpa using h1, ?_⟩
  show (w.alloc (.cells (pcells env).toArray 35)).cell? ⟨w.heap.size, j * 2 + 1, none⟩ = _
  rw [cell_new]
  simpa using h2

/-! ### what is shown first -/
def s6 : ByteArray := ⟨#[37, 110, 32, 37, 78, 32, 37, 112, 32, 37, 105, 32, 37, 73, 32, 49, 48, 48, 37, 37]⟩
def u6a : ByteArray := ⟨#[97, 64, 120, 45, 121, 46, 115, 101, 114, 118, 105, 99, 101]⟩
def o6 : ByteArray := ⟨#[97, 64, 120, 45, 121, 46, 115, 101, 114, 118, 105, 99, 101, 32, 97, 64, 120, 45, 121, 32, 97, 32, 120, 45, 121, 32, 120, 47, 121, 32, 49, 48, 48, 37]⟩
def u6b : ByteArray := ⟨#[97, 46, 115, 101, 114, 118, 105, 99, 101]⟩
theorem sh6_spec : specS s6 u6a = o6 ∧ specE s6 u6a = 0 := by decide +kernel
theorem sh6_bad : specS ⟨#[37]⟩ u6b = ⟨#[]⟩ ∧ specE ⟨#[37]⟩ u6b = 14 := by decide +kernel
def l6 : List (List UInt8) := [[36, 65], [60, 36, 123, 66, 125, 62, 36, 36], [36, 99]]
def env6 : List PairX := [([65], [120, 32, 32, 121]), ([66], [113])]
def out6 : List (List UInt8) := [[120], [121], [60, 113, 62, 36]]
theorem sh6_fill : fillX env6 [60, 36, 123, 66, 125, 62, 36, 36] = [60, 113, 62, 36] := by
  rw [fillX_other env6 (by decide), fillX_var env6 (by decide)]
  rw [show brX [123, 66, 125, 62, 36, 36] = [66] from by decide, show valX env6 [66] = [113] from by decide]
  rw [show ([123, 66, 125, 62, 36, 36] : List UInt8).drop (([66] : List UInt8).length + 2) = [62, 36, 36] from rfl]
  rw [fillX_other env6 (by decide), fillX_two, fillX_nil]
  rfl
theorem sh6_vars : varsX env6 l6 = out6 := by
  show oneX env6 [36, 65] ++ (oneX env6 [60, 36, 123, 66, 125, 62, 36, 36] ++ (oneX env6 [36, 99] ++ [])) = _
  rw [oneX_whole (w := [36, 65]) (by decide), oneX_fill (w := [60, 36, 123, 66, 125, 62, 36, 36]) (by decide), oneX_whole (w := [36, 99]) (by decide), sh6_fill]
  decide
theorem len6 : ∀ p ∈ env6, p.1.length ≤ maxLen ∧ p.2.length ≤ maxLen := by decide
theorem fill6 : ∀ x ∈ l6, wholeX x = [] → (fillX env6 x).length ≤ 140737488355328 := by
  intro x hx hw
  have h : x = [36, 65] ∨ x = [60, 36, 123, 66, 125, 62, 36, 36] ∨ x = [36, 99] := by simpa [l6] using hx
  rcases h with rfl | rfl | rfl
  · revert hw; decide
  · rw [sh6_fill]; decide
  · revert hw; decide
theorem val6 : ∀ x ∈ l6, wholeX x ≠ [] → (valX env6 (wholeX x)).length ≤ 4294967296 := by decide

set_option maxHeartbeats 4000000 in
set_option maxRecDepth 100000 in
theorem shown6_any (w : World) :
    Calls Try.prog 8 #[] w fun e w' => e = .returned (.bool true) ∧ Below w.heap.size w w' := by
  have h1 := Lib.hid sh6_spec
  have h2 := Lib.hid sh6_bad
  go_enter Try.func8, Try.ntmps8
  go_wp2_with fail
  refine (Spec_any s6 u6a (by decide) (by decide) _).mono ?_
  rintro e w1 ⟨rfl, hb1⟩
  rw [h1.out.1, h1.out.2]
  have HB1 := Lib.hid hb1
  clear hb1
  go_wp2_with fail
  refine (Spec_any ⟨#[37]⟩ u6b (by decide) (by decide) _).mono ?_
  rintro e w2 ⟨rfl, hb2⟩
  rw [h2.out.1, h2.out.2]
  have HB2 := Lib.hid (below_more HB1.out HB1.out.size hb2)
  clear hb2
  go_wp2_with fail
  obtain ⟨W3, hW3⟩ : ∃ W3, w2.alloc (.cells (wcells l6).toArray 9) = W3 := ⟨_, rfl⟩
  have hs3 : W3.heap.size = w2.heap.size + 1 := by rw [← hW3]; simp
  have HL : RowAt W3 W3.heap.size (some ⟨w2.heap.size, 0, none⟩) 3 l6 := by rw [hs3, ← hW3]; exact rowAt_new l6 w2 (by decide)
  have HBa : Hid (Below w.heap.size w W3) := by rw [← hW3]; exact HB2.out.alloc HB2.out.size _
  have HP : PairsAt (W3.alloc (.cells (pcells env6).toArray 35)) (W3.heap.size + 1) (some ⟨W3.heap.size, 0, none⟩) 2 env6 := pairsAt_new env6 W3 (by decide) len6
  have HL2 : RowAt (W3.alloc (.cells (pcells env6).toArray 35)) (W3.heap.size + 1) (some ⟨w2.heap.size, 0, none⟩) 3 l6 := (HL.below ((Below.refl _ _).alloc (Nat.le_refl _) _)).wide (Nat.le_succ _)
  have HBb : Hid (Below w.heap.size w (W3.alloc (.cells (pcells env6).toArray 35))) := HBa.out.alloc HBa.out.size _
  show Calls Try.prog 12 #[.slice (some ⟨w2.heap.size, 0, none⟩) 3 3, .slice (some ⟨w2.heap.size + 1, 0, none⟩) 2 2] ((w2.alloc (.cells (wcells l6).toArray 9)).alloc (.cells (pcells env6).toArray 35)) _
  rw [hW3, ← hs3]
  refine (Vars_any (some ⟨w2.heap.size, 0, none⟩) (some ⟨W3.heap.size, 0, none⟩) 3 3 2 2 (W3.heap.size + 1) l6 env6 _ HL2 HP (by simp) (by decide) fill6 val6 (by rw [sh6_vars]; decide)).mono ?_
  rintro e w4 ⟨A, n, c, rfl, hnc, hrow, hb4⟩
  rw [sh6_vars] at hrow
  have HR4 := Lib.hid hrow
  have HB4 := Lib.hid (below_more HBb.out HBb.out.size hb4)
  clear hrow hb4 HL HL2 HP HBa HBb hs3 hW3
  have ho : o6.toList = [97, 64, 120, 45, 121, 46, 115, 101, 114, 118, 105, 99, 101, 32, 97, 64, 120, 45, 121, 32, 97, 32, 120, 45, 121, 32, 120, 47, 121, 32, 49, 48, 48, 37] := by rw [Lib.toList_data]; rfl
  go_wp2_with fail
  refine (Same5_any A (some ⟨w4.heap.size, 0, none⟩) n 3 c 3 (w4.heap.size + 1) out6 out6 (w4.alloc (.cells (wcells out6).toArray 9)) ((HR4.out.below ((Below.refl _ _).alloc (Nat.le_refl _) _)).wide (Nat.le_succ _)) (rowAt_new out6 w4 (by decide))).mono ?_
  rintro e w5 ⟨rfl, j, rfl⟩
  rw [show decide (out6 = out6) = true from rfl]
  have HB5 : Hid (Below w.heap.size w ((w4.alloc (.cells (wcells out6).toArray 9)).drewN j)) := below_drewN (HB4.out.alloc HB4.out.size _) j
  go_wp2_with fail
  go_ret
  exact ⟨rfl, HB5.out⟩
end Go.Proofs.Ytjoedgkmpklhfaa
