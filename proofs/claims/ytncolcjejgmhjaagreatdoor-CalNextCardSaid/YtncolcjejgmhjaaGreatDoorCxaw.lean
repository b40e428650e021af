/- The library's cuts on plain lists; the walks of the developers' dayOf, fullForm. The developers' Next: what its loop kee -/
import Derived.Test.YtncolcjejgmhjaaGreatDoorCxao
import Derived.Lib.CutLaws
import Derived.Test.YtncolcjejgmhjaaGreatDoorCxav
import Derived.Deep.DeepCutAuto
import Derived.Deep.CutBlock
namespace Go.Proofs.YtncolcjejgmhjaaGreatDoor
open Go.RowKit
theorem cut_cut1 (c : UInt8) (l : List UInt8) : Lib.cut l [c] = cut1 c l := by
  induction l with
  | nil => rfl
  | cons x l ih =>
    have hge := Lib.index_ge l [c]
    have hp : ([c].isPrefixOf (x :: l)) = decide (x = c) := by
      rw [Bool.eq_iff_iff]; simp [List.isPrefixOf]; exact eq_comm
    rw [cut1]
    unfold Lib.cut at ih ⊢
    have e : Lib.index (x :: l) [c] = if x = c then 0 else if Lib.index l [c] = -1 then -1 else Lib.index l [c] + 1 := by
      rw [Lib.index, hp]
      by_cases h : x = c <;> simp [h]
    by_cases hx : x = c
    · rw [e, if_pos hx, if_pos hx]; rfl
    · rw [e, if_neg hx, if_neg hx, ← ih]
      by_cases h1 : Lib.index l [c] = -1
      · rw [if_pos h1, if_neg (by omega), if_neg (by omega)]
      · rw [if_neg h1, if_pos (by omega), if_pos (by omega)]
        have e2 : (Lib.index l [c] + 1).toNat = (Lib.index l [c]).toNat + 1 := by omega
        rw [e2]; rfl
theorem cut_dots (l : List UInt8) : Lib.cut l [46, 46] = match cutDots l with
    | some z => (z.1, z.2, true)
    | none => (l, [], false) := by
  induction l with
  | nil => rfl
  | cons x l ih =>
    have hge := Lib.index_ge l [46, 46]
    have hp : ([46, 46].isPrefixOf (x :: l)) = decide (x = 46 ∧ l.head? = some 46) := by
      rw [Bool.eq_iff_iff]
      cases l with
      | nil => simp [List.isPrefixOf]
      | cons y r => simp [List.isPrefixOf]; constructor <;> rintro ⟨a, b⟩ <;> exact ⟨a.symm, b.symm⟩
    rw [cutDots]
    unfold Lib.cut at ih ⊢
    have e : Lib.index (x :: l) [46, 46] = if (x = 46 ∧ l.head? = some 46) then 0 else if Lib.index l [46, 46] = -1 then -1 else Lib.index l [46, 46] + 1 := by
      rw [Lib.index, hp]
      by_cases h : x = 46 ∧ l.head? = some 46 <;> simp [h]
    by_cases hx : x = 46 ∧ l.head? = some 46
    · rw [e, if_pos hx, if_pos hx]
      simp only
      rw [if_pos (by omega)]
      cases l with
      | nil => simp at hx
      | cons y r => rfl
    · rw [e, if_neg hx, if_neg hx]
      by_cases h1 : Lib.index l [46, 46] = -1
      · rw [if_pos h1, if_neg (by omega)]
        rw [if_neg (by omega)] at ih
        cases hc : cutDots l with
        | none => rfl
        | some z => rw [hc] at ih; simp at ih
      · rw [if_neg h1, if_pos (by omega)]
        rw [if_pos (by omega)] at ih
        have e2 : (Lib.index l [46, 46] + 1).toNat = (Lib.index l [46, 46]).toNat + 1 := by omega
        cases hc : cutDots l with
        | none => rw [hc] at ih; simp at ih
        | some z =>
          rw [hc] at ih
          simp only [Prod.mk.injEq, and_true] at ih
          simp only [Option.map_some]
          rw [← ih.1, ← ih.2, e2]
          rfl
theorem has_byte (l : List UInt8) (c : UInt8) : decide (0 ≤ Lib.indexByte l c) = decide (c ∈ l) := by
  rw [Bool.eq_iff_iff, decide_eq_true_iff, decide_eq_true_iff]
  induction l with
  | nil => simp [Lib.indexByte]
  | cons x l ih =>
    have hge := Lib.indexByte_ge l c
    rw [Lib.indexByte]
    by_cases hx : x = c
    · subst hx; simp
    · have hx' : (x == c) = false := by simpa using hx
      rw [hx']
      simp only [Bool.false_eq_true, if_false, List.mem_cons]
      by_cases h1 : Lib.indexByte l c = -1
      · rw [if_pos (by simp [h1])]
        have : c ∉ l := fun h => by have := ih.2 h; omega
        constructor
        · intro h; omega
        · rintro (h | h)
          · exact absurd h.symm hx
          · exact absurd h this
      · rw [if_neg (by simp [h1])]
        constructor
        · intro _; exact .inr (ih.1 (by omega))
        · rintro (h | h)
          · exact absurd h.symm hx
          · have := ih.2 h; omega
theorem dayN_hit {l : List UInt8} {k : Nat} (hk : k < 7) (h : l = dayL ((k : Int) + 1)) : dayN l = (k : Int) + 1 := by
  have : k = 0 ∨ k = 1 ∨ k = 2 ∨ k = 3 ∨ k = 4 ∨ k = 5 ∨ k = 6 := by omega
  subst h
  rcases this with rfl | rfl | rfl | rfl | rfl | rfl | rfl <;> decide
theorem dayN_none {l : List UInt8} (h : ∀ k : Nat, k < 7 → l ≠ dayL ((k : Int) + 1)) : dayN l = 0 := by
  rcases dayN_spec l with h0 | ⟨h0, h1, h2⟩
  · exact h0
  · exfalso
    refine h (dayN l - 1).toNat (by omega) ?_
    rw [show (((dayN l - 1).toNat : Nat) : Int) + 1 = dayN l by omega]; exact h2
theorem run_index_day (k : Nat) (hk : k < 7) (w : World) : (Instr.index 75 (.agg daysCells) (.int .i64 (k : Int))).run Tryz.prog w = .ok (.string (str (dayL ((k : Int) + 1)))) w := by
  have : k = 0 ∨ k = 1 ∨ k = 2 ∨ k = 3 ∨ k = 4 ∨ k = 5 ∨ k = 6 := by omega
  rcases this with rfl | rfl | rfl | rfl | rfl | rfl | rfl <;>
  simp [Instr.index, run_underlying Tryz.underlying75, asIntOf, part, isAgg, run_underlying Tryz.underlying9, daysCells] <;> rfl
set_option maxHeartbeats 4000000 in
theorem dayOf_any (s : ByteArray) (w : World) (ht : Tabs w) :
    Calls Tryz.prog 62 #[.string s] w fun e w' => e = .returned (.int .i64 (dayN s.data.toList)) ∧ w = w' := by
  have HC : Hid (∀ i, w.cell? ⟨1, i, none⟩ = daysCells[i]?) := fun i => World.var?_cell days_glob ht.days i
  have c0 : w.cell? ⟨1, 0, none⟩ = some (.string ⟨#[77, 111, 110]⟩) := HC.out 0
  have c1 : w.cell? ⟨1, 1, none⟩ = some (.string ⟨#[84, 117, 101]⟩) := HC.out 1
  have c2 : w.cell? ⟨1, 2, none⟩ = some (.string ⟨#[87, 101, 100]⟩) := HC.out 2
  have c3 : w.cell? ⟨1, 3, none⟩ = some (.string ⟨#[84, 104, 117]⟩) := HC.out 3
  have c4 : w.cell? ⟨1, 4, none⟩ = some (.string ⟨#[70, 114, 105]⟩) := HC.out 4
  have c5 : w.cell? ⟨1, 5, none⟩ = some (.string ⟨#[83, 97, 116]⟩) := HC.out 5
  have c6 : w.cell? ⟨1, 6, none⟩ = some (.string ⟨#[83, 117, 110]⟩) := HC.out 6
  have HIx := Lib.hid run_index_day
  unfold daysCells at HIx
  clear ht
  go_enter Tryz.func62, Tryz.ntmps62
  go_wp2_with fail
  go_loop [3, 4, 6] (fun _ _ i => ∃ k : Nat, k ≤ 7 ∧ i = .int .i64 k ∧ Hid (∀ j : Nat, j < k → s.data.toList ≠ dayL ((j : Int) + 1))) (fun _ _ i => 7 - (intOf i).toNat)
  case atStart => exact ⟨0, by omega, rfl, fun j hj => absurd hj (by omega)⟩
  case round =>
    obtain ⟨k, hk, rfl, hno⟩ := hrel
    by_cases hlt : k < 7
    · have hix := HIx.out k hlt
      by_cases he : s.data.toList = dayL ((k : Int) + 1)
      · have HN := Lib.hid (dayN_hit hlt he)
        have e : (s.toList == (str (dayL ((k : Int) + 1))).toList) = true := by rw [beq_str]; exact decide_eq_true (eq_str.2 he)
        clear he
        go_wp2_with fail
        go_ret
        exact ⟨ret_int HN.out.symm, rfl⟩
      · have e : (s.toList == (str (dayL ((k : Int) + 1))).toList) = false := by rw [beq_str]; exact decide_eq_false fun h => he (eq_str.1 h)
        have HN : Hid (∀ j : Nat, j < k + 1 → s.data.toList ≠ dayL ((j : Int) + 1)) := fun j hj => by
          by_cases hjk : j = k
          · rw [hjk]; exact he
          · exact hno.out j (by omega)
        have u1 : (0 : Nat) ≤ 1 := Nat.zero_le _
        clear he
        go_wp2_with fail
        go_round
        case rel => exact ⟨k + 1, by omega, by go_num, HN⟩
        case measure => simp [intOf]; omega
    · obtain rfl : k = 7 := by omega
      have HN := Lib.hid (dayN_none hno.out)
      clear hk hlt
      go_wp2_with fail
      go_ret
      exact ⟨ret_int HN.out.symm, rfl⟩
end Go.Proofs.YtncolcjejgmhjaaGreatDoor
namespace Go.Proofs.YtncolcjejgmhjaaGreatDoor
open Go.RowKit
def AdvIs (l : Cl) (n0 v : Six) (ok : Bool) : Prop := (ok = true → v.good l ∧ n0.le v ∧ ∀ u : Six, u.good l → n0.le u → v.le u) ∧ (ok = false → ∀ u : Six, u.good l → ¬ n0.le u)
def AdvPost2 (l : Cl) (n0 : Six) (w : World) (e : Ending) (w' : World) : Prop :=
  ∃ (v : Six) (ok : Bool), e = .returned (.tuple #[.agg #[.int .i64 v.y, .int .i64 v.m, .int .i64 v.d, .int .i64 v.h, .int .i64 v.i, .int .i64 v.s], .bool ok]) ∧ AdvIs l n0 v ok ∧ Below w.heap.size w w'
theorem advance2_any (c : Ch) (l : Cl) (n0 : Six) (hm : mayC l = true) (hn : n0.bd) (w : World) (ht : Tabs w) (hc : CalAt w w.heap.size c l) :
    Calls Tryz.prog 16 #[.agg c.six, .agg #[.int .i64 n0.y, .int .i64 n0.m, .int .i64 n0.d, .int .i64 n0.h, .int .i64 n0.i, .int .i64 n0.s]] w (AdvPost2 l n0 w) := by
  refine (advance_any c l n0 hm hn w ht hc).mono ?_
  rintro e w' ⟨⟨v, he, h1, h2, h3⟩ | ⟨he, h1⟩, hb⟩
  · exact ⟨v, true, he, ⟨fun _ => ⟨h1, h2, h3⟩, fun h => (by cases h)⟩, hb⟩
  · exact ⟨⟨0, 0, 0, 0, 0, 0⟩, false, he, ⟨fun h => (by cases h), fun _ => h1⟩, hb⟩
def fstI (x : Int) : Int := min (max x (-1)) 6311433600 + 1
theorem fst_no {c : Cl} {x : Int} (h : isT (fstI x) = false) : nextN c x = 0 ∧ nextOk c x = false := by
  refine next_none fun s hs => ?_
  rw [← Bool.not_eq_true]
  intro hm
  have hb := match_bd hm
  have : ¬ isT (fstI x) = true := by rw [h]; simp
  rw [isT_iff] at this
  unfold fstI at this
  omega
theorem fst_le {x s : Int} (h : isT (fstI x) = true) (hs : x < s) (h0 : 0 ≤ s) : fstI x ≤ s := by
  have := (isT_iff _).1 h
  unfold fstI at *
  omega
theorem fst_gt {x : Int} (h : isT (fstI x) = true) : x < fstI x := by
  have := (isT_iff _).1 h
  unfold fstI at *
  omega
theorem may_no_next {c : Cl} {x : Int} (h : mayC c = false) : nextN c x = 0 ∧ nextOk c x = false := by
  refine next_none fun s hs => ?_
  unfold matchB
  rw [h]; rfl
def NxtIs (l : Cl) (x : Int) (v : Six) (ok : Bool) : Prop := (ok = true → v.good l ∧ Nxt l x v) ∧ (ok = false → ∀ s, x ≤ s → matchB l s = false)
theorem NxtIs.first {l : Cl} {x : Int} {v : Six} {ok : Bool} (hx : isT x = true) (h : AdvIs l (sixOf x) v ok) : NxtIs l x v ok :=
  ⟨fun e => ⟨(h.1 e).1, Nxt.start hx (h.1 e).2.1 (h.1 e).2.2⟩, fun e => Nxt.start_no hx (h.2 e)⟩
theorem NxtIs.next {l : Cl} {x : Int} {v v' : Six} {ok : Bool} (hm : mayC l = true) (h : NxtIs l x v true) (hno : hitB l v = false) (ha : AdvIs l v.tom v' ok) : NxtIs l x v' ok := by
  have hk := Nxt.miss hm (h.1 rfl).2 (h.1 rfl).1 hno
  exact ⟨fun e => ⟨(ha.1 e).1, (h.1 rfl).2.more hk (ha.1 e).2.1 (ha.1 e).2.2⟩, fun e => Nxt.more_no hk (ha.2 e)⟩
theorem NxtIs.far {l : Cl} {x : Int} {v v' : Six} (hm : mayC l = true) (h : NxtIs l x v true) (ha : AdvIs l v.tom v' true) : v'.far < v.far :=
  Six.tom_far hm (h.1 rfl).1 (ha.1 rfl).1 (ha.1 rfl).2.1
theorem NxtIs.hit {l : Cl} {a : Int} {v : Six} (hm : mayC l = true) (hx : isT (fstI a) = true) (h : NxtIs l (fstI a) v true) (ho : toOk v.y v.m v.d v.h v.i v.s = true) (hd : dayB l.ds (fW (toN v.y v.m v.d v.h v.i v.s)) = true) :
    nextN l a = toN v.y v.m v.d v.h v.i v.s ∧ nextOk l a = true := by
  obtain ⟨h1, h2, h3⟩ := Nxt.hit hm hx (h.1 rfl).2 (h.1 rfl).1 ho hd
  have hg := fst_gt hx
  refine next_is (by omega) h2 fun s hs hl => ?_
  rw [← Bool.not_eq_true]
  intro hM
  have hb := match_bd hM
  have := h3 s (fst_le hx hs hb.1) hl
  rw [hM] at this; cases this
theorem NxtIs.none_ {l : Cl} {a : Int} {v : Six} (hx : isT (fstI a) = true) (h : NxtIs l (fstI a) v false) : nextN l a = 0 ∧ nextOk l a = false := by
  refine next_none fun s hs => ?_
  rw [← Bool.not_eq_true]
  intro hM
  have hb := match_bd hM
  have := h.2 rfl s (fst_le hx hs hb.1)
  rw [hM] at this; cases this
theorem hit_no1 {l : Cl} {v : Six} (h : toOk v.y v.m v.d v.h v.i v.s = false) : hitB l v = false := by unfold hitB; rw [h]; rfl
theorem hit_no2 {l : Cl} {v : Six} (h : dayB l.ds (fW (toN v.y v.m v.d v.h v.i v.s)) = false) : hitB l v = false := by unfold hitB; rw [h, Bool.and_false]
def loopFar (g : Nat) (b : Value) (w : World) : Nat := match b with
  | .bool true => farIn g w + 1
  | _ => 0
theorem loopFar_lt {g : Nat} {w w' : World} {t t' : TypeId} {v v' : Six} {ok : Bool} (h : Blk w g t v.cells) (h' : Blk w' g t' v'.cells) (hl : ok = true → v'.far < v.far) : loopFar g (.bool ok) w' < loopFar g (.bool true) w := by
  cases ok with
  | false => exact Nat.succ_pos _
  | true =>
    show farIn g w' + 1 < farIn g w + 1
    rw [farIn_eq h, farIn_eq h']
    have := hl rfl
    omega
end Go.Proofs.YtncolcjejgmhjaaGreatDoor
