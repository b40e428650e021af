/- The walk of the document's own PrintSpan. -/
import Derived.Test.YteoflefahoamnaaDoorSpU
import Derived.Deep.DeepCutAuto
import Derived.Deep.CutBlock
import Derived.Deep.LoopGhost
import Derived.Outline
import Derived.Deep.RegionHeld3
namespace Go.Proofs.YteoflefahoamnaaDoor
open Go.RowKit

def restR (n : Nat) : Nat → Nat
  | 0 => n
  | 1 => n % 86400
  | 2 => n % 3600
  | 3 => n % 60
  | _ => 0
def wordsR (n : Nat) : Nat → List (List UInt8)
  | 0 => []
  | 1 => partW (n / 86400) [100]
  | 2 => partW (n / 86400) [100] ++ partW (n % 86400 / 3600) [104]
  | 3 => partW (n / 86400) [100] ++ partW (n % 86400 / 3600) [104] ++ partW (n % 3600 / 60) [109, 105, 110]
  | _ => wordsL n
def accR (n j : Nat) : List UInt8 := (wordsR n j).flatMap fun w => 32 :: w
theorem acc_step (ws : List (List UInt8)) (k : Nat) (u : List UInt8) : (ws ++ partW k u).flatMap (fun w => 32 :: w) = ws.flatMap (fun w => 32 :: w) ++ (if k = 0 then [] else 32 :: (decL k ++ u)) := by
  unfold partW
  by_cases h : k = 0
  · simp [h]
  · simp [h]
theorem acc1 (n : Nat) : accR n 1 = accR n 0 ++ (if n / 86400 = 0 then [] else 32 :: (decL (n / 86400) ++ [100])) := acc_step [] _ _
theorem acc2 (n : Nat) : accR n 2 = accR n 1 ++ (if n % 86400 / 3600 = 0 then [] else 32 :: (decL (n % 86400 / 3600) ++ [104])) := acc_step _ _ _
theorem acc3 (n : Nat) : accR n 3 = accR n 2 ++ (if n % 3600 / 60 = 0 then [] else 32 :: (decL (n % 3600 / 60) ++ [109, 105, 110])) := acc_step _ _ _
theorem acc4 (n : Nat) : accR n 4 = accR n 3 ++ (if n % 60 = 0 then [] else 32 :: (decL (n % 60) ++ [115])) := acc_step _ _ _
theorem intInfo : (Tryd.prog.info? 3).map (fun i => (i.zero, i.size, i.bytes)) = some (some (.int .i64 0), 1, 8) := by kernel_rfl
theorem strInfo2 : (Tryd.prog.info? 9).map (fun i => (i.zero, i.size, i.bytes)) = some (some (.string ⟨#[]⟩), 1, 16) := by kernel_rfl

theorem accR_len (n j : Nat) (h : n ≤ 6311433600) : (str (accR n j)).size ≤ 100 := by
  have d1 := decL_len 9 (n / 86400) (by omega)
  have d2 := decL_len 9 (n % 86400 / 3600) (by omega)
  have d3 := decL_len 9 (n % 3600 / 60) (by omega)
  have d4 := decL_len 9 (n % 60) (by omega)
  have a0 : (accR n 0).length = 0 := rfl
  have a1 : (accR n 1).length ≤ 12 := by
    rw [acc1, List.length_append, a0]
    split
    · simp
    · simp; omega
  have a2 : (accR n 2).length ≤ 24 := by
    rw [acc2, List.length_append]
    split
    · simp; omega
    · simp; omega
  have a3 : (accR n 3).length ≤ 38 := by
    rw [acc3, List.length_append]
    split
    · simp; omega
    · simp; omega
  have a4 : (accR n 4).length ≤ 50 := by
    rw [acc4, List.length_append]
    split
    · simp; omega
    · simp; omega
  rw [str_size]
  match j with
  | 0 => simp [accR, wordsR]
  | 1 => omega
  | 2 => omega
  | 3 => omega
  | k + 4 =>
    have : accR n (k + 4) = accR n 4 := rfl
    rw [this]; omega
theorem acc_str (a d : List UInt8) (u : List UInt8) : str a ++ ((⟨#[32]⟩ : ByteArray) ++ str d ++ (⟨u.toArray⟩ : ByteArray)) = str (a ++ 32 :: (d ++ u)) := by
  have e1 : (⟨#[32]⟩ : ByteArray) = str [32] := rfl
  have e2 : (⟨u.toArray⟩ : ByteArray) = str u := rfl
  rw [e1, e2, str_app, str_app, str_app]
  simp
theorem printL_acc (n : Nat) (h0 : n ≠ 0) (h : n ≤ 6311433600) : (str (accR n 4)).extract 1 (str (accR n 4)).size = str (printL n) := by
  refine eq_str.2 ?_
  rw [tail_list, str_list]
  unfold printL
  rw [if_neg (by unfold forever; omega), if_neg (by unfold maxSpan; omega), if_neg h0]
  rfl
theorem acc_pos (n : Nat) (h0 : n ≠ 0) (h : n ≤ 6311433600) : 1 ≤ (str (accR n 4)).size := by
  rw [str_size]
  have := wordsL_ne n h h0
  show 1 ≤ ((wordsL n).flatMap fun w => 32 :: w).length
  cases hw : wordsL n with
  | nil => exact absurd hw this
  | cons a l => simp
def RestIs (k : Nat) (v : Value) : Prop := ∃ r : Nat, Hid (r = k) ∧ v = .int .i64 r
/-- The block of the four sizes. -/
def Blk4 (B : Nat) (w : World) : Prop := w.heap[B]? = some (.cells #[.int .i64 86400, .int .i64 3600, .int .i64 60, .int .i64 1] 3 (0, 0))
theorem Blk4.new (w : World) : Blk4 w.heap.size (w.alloc (.cells #[.int .i64 86400, .int .i64 3600, .int .i64 60, .int .i64 1] 3)) := by
  unfold Blk4
  show (w.heap.push _)[w.heap.size]? = _
  simp
theorem Blk4.cells {B : Nat} {w : World} (h : Blk4 B w) : w.cell? ⟨B, 0, none⟩ = some (.int .i64 86400) ∧ w.cell? ⟨B, 1, none⟩ = some (.int .i64 3600) ∧ w.cell? ⟨B, 2, none⟩ = some (.int .i64 60) ∧ w.cell? ⟨B, 3, none⟩ = some (.int .i64 1) := by
  unfold Blk4 at h
  simp [World.cell?, h]
theorem Blk4.later {B : Nat} {w w' : World} (h : Blk4 B w) (hb : Below w.heap.size w w') : Blk4 B w' :=
  (hb.block B (Array.getElem?_eq_some_iff.1 h).1).trans h

set_option maxHeartbeats 4000000 in
set_option maxRecDepth 100000 in
theorem rprint_mid (n : Nat) (h0 : n ≠ 0) (h : n ≤ 6311433600) (w : World) :
    Calls Tryd.prog 11 #[.int .i64 n] w fun e w' => e = .returned (.string (str (printL n))) ∧ Below w.heap.size w w' := by
  have z0 : ((n : Int) == 1099511627776) = false := by simp; omega
  have z1 : ((n : Int) == 0) = false := by simp; omega
  go_enter Tryd.func11, Tryd.ntmps11
  go_wp2_with fail
  have hblk := Lib.hid (Blk4.new w)
  have hb0 := Lib.hid ((Below.refl _ w).alloc (Nat.le_refl _) (.cells #[.int .i64 86400, .int .i64 3600, .int .i64 60, .int .i64 1] 3))
  go_loopw [3, 4, 20] (fun s r i wr => ((i = .int .i64 0 ∧ s = .string (str (accR n 0)) ∧ RestIs (n) r) ∨ (i = .int .i64 1 ∧ s = .string (str (accR n 1)) ∧ RestIs (n % 86400) r) ∨
    (i = .int .i64 2 ∧ s = .string (str (accR n 2)) ∧ RestIs (n % 3600) r) ∨ (i = .int .i64 3 ∧ s = .string (str (accR n 3)) ∧ RestIs (n % 60) r) ∨ (i = .int .i64 4 ∧ s = .string (str (accR n 4)) ∧ RestIs 0 r)) ∧ Hid (Blk4 w.heap.size wr) ∧ Hid (Below w.heap.size w wr)) (fun s r i wr => 4 - (intOf i).toNat)
  case atStart => exact ⟨.inl ⟨rfl, rfl, ⟨n, rfl, rfl⟩⟩, hblk, hb0⟩
  case round =>
    obtain ⟨hst, hbk, hb⟩ := hrel
    obtain ⟨c0, c1, c2, c3⟩ := hbk.out.cells
    have hbs : w.heap.size ≤ wr.heap.size := hb.out.size
    rcases hst with ⟨rfl, rfl, ⟨r, hr, rfl⟩⟩ | ⟨rfl, rfl, ⟨r, hr, rfl⟩⟩ | ⟨rfl, rfl, ⟨r, hr, rfl⟩⟩ | ⟨rfl, rfl, ⟨r, hr, rfl⟩⟩ | ⟨rfl, rfl, ⟨r, hr, rfl⟩⟩
    · have hr1 : r = n := hr.out
      have hr2 : r ≤ 6311433600 := by omega
      have RM := Lib.hid (show (r : Int) % 86400 = ((n % 86400 : Nat) : Int) by omega)
      have hl := accR_len n 0 h
      have hd : (str (decL (n / 86400))).size ≤ 10 := decL_len 9 (n / 86400) (by omega)
      by_cases hge : 86400 ≤ r
      · have t0 : (86400 : Int) ≤ (r : Int) := by omega
        have Q1 := Lib.hid (show IntKind.i64.wrap ((r : Int) / 86400) = ((n / 86400 : Nat) : Int) by rw [IntWalk.i64_in _ (by omega)]; omega)
        have HA := Lib.hid (show str (accR n 0) ++ ((⟨#[32]⟩ : ByteArray) ++ str (decL (n / 86400)) ++ (⟨#[100]⟩ : ByteArray)) = str (accR n 1) by rw [acc1, if_neg (by omega)]; exact acc_str _ _ _)
        have HD : Hid (∀ w, Calls Tryd.prog 21 #[.int .i64 (IntKind.i64.wrap ((r : Int) / 86400))] w fun e w' => e = .returned (.string (str (decL (n / 86400)))) ∧ w = w') := fun w => by
          rw [Q1.out]
          exact Dec_any _ (n / 86400) w (Nat.le_refl _) (by omega)
        obtain ⟨D, hD⟩ : ∃ D, str (decL (n / 86400)) = D := ⟨_, rfl⟩
        obtain ⟨A, hA⟩ : ∃ A, str (accR n 0) = A := ⟨_, rfl⟩
        rw [hD] at hd HA HD
        rw [hA] at hl HA ⊢
        have f1 : ¬ (9223372036854775807 < 1 + D.size) := by omega
        have f2 : ¬ (9223372036854775807 < 1 + D.size + 1) := by omega
        have f3 : ¬ (9223372036854775807 < A.size + (1 + D.size + 1)) := by omega
        clear hr1 hD hA Q1 hge
        go_wp2_with fail
        go_region_with (go_at_call 21; refine (HD.out _).mono ?_; rintro e w' ⟨rfl, rfl⟩)
        all_goals
          have HB2 : ∀ X, Below wr.heap.size wr X → Hid (Blk4 w.heap.size X) ∧ Hid (Below w.heap.size w X) := fun X hX => ⟨hbk.out.later hX, hb.out.trans (hX.mono hbs)⟩
          go_wp2_with fail
          go_roundw
          case rel => exact ⟨.inr (.inl ⟨rfl, by rw [HA.out], ⟨n % 86400, rfl, by rw [RM.out]⟩⟩), HB2 _ (by first | exact (Below.refl _ wr).drew.alloc (Nat.le_refl _) _ | exact ((Below.refl _ wr).alloc (Nat.le_refl _) _).drew)⟩
          case measure => simp [intOf]
      · have t0 : decide ((86400 : Int) ≤ (r : Int)) = false := by simp; omega
        have HA := Lib.hid (show str (accR n 0) = str (accR n 1) by rw [acc1, if_pos (by omega), List.append_nil])
        obtain ⟨A, hA⟩ : ∃ A, str (accR n 0) = A := ⟨_, rfl⟩
        rw [hA] at hl HA ⊢
        clear hr1 hge hA
        go_wp2_with fail
        go_roundw
        case rel => exact ⟨.inr (.inl ⟨rfl, by rw [HA.out], ⟨n % 86400, rfl, by rw [RM.out]⟩⟩), hbk, hb⟩
        case measure => simp [intOf]
    · have hr1 : r = n % 86400 := hr.out
      have hr2 : r ≤ 6311433600 := by omega
      have RM := Lib.hid (show (r : Int) % 3600 = ((n % 3600 : Nat) : Int) by omega)
      have hl := accR_len n 1 h
      have hd : (str (decL (n % 86400 / 3600))).size ≤ 10 := decL_len 9 (n % 86400 / 3600) (by omega)
      by_cases hge : 3600 ≤ r
      · have t0 : (3600 : Int) ≤ (r : Int) := by omega
        have Q1 := Lib.hid (show IntKind.i64.wrap ((r : Int) / 3600) = ((n % 86400 / 3600 : Nat) : Int) by rw [IntWalk.i64_in _ (by omega)]; omega)
        have HA := Lib.hid (show str (accR n 1) ++ ((⟨#[32]⟩ : ByteArray) ++ str (decL (n % 86400 / 3600)) ++ (⟨#[104]⟩ : ByteArray)) = str (accR n 2) by rw [acc2, if_neg (by omega)]; exact acc_str _ _ _)
        have HD : Hid (∀ w, Calls Tryd.prog 21 #[.int .i64 (IntKind.i64.wrap ((r : Int) / 3600))] w fun e w' => e = .returned (.string (str (decL (n % 86400 / 3600)))) ∧ w = w') := fun w => by
          rw [Q1.out]
          exact Dec_any _ (n % 86400 / 3600) w (Nat.le_refl _) (by omega)
        obtain ⟨D, hD⟩ : ∃ D, str (decL (n % 86400 / 3600)) = D := ⟨_, rfl⟩
        obtain ⟨A, hA⟩ : ∃ A, str (accR n 1) = A := ⟨_, rfl⟩
        rw [hD] at hd HA HD
        rw [hA] at hl HA ⊢
        have f1 : ¬ (9223372036854775807 < 1 + D.size) := by omega
        have f2 : ¬ (9223372036854775807 < 1 + D.size + 1) := by omega
        have f3 : ¬ (9223372036854775807 < A.size + (1 + D.size + 1)) := by omega
        clear hr1 hD hA Q1 hge
        go_wp2_with fail
        go_region_with (go_at_call 21; refine (HD.out _).mono ?_; rintro e w' ⟨rfl, rfl⟩)
        all_goals
          have HB2 : ∀ X, Below wr.heap.size wr X → Hid (Blk4 w.heap.size X) ∧ Hid (Below w.heap.size w X) := fun X hX => ⟨hbk.out.later hX, hb.out.trans (hX.mono hbs)⟩
          go_wp2_with fail
          go_roundw
          case rel => exact ⟨.inr (.inr (.inl ⟨rfl, by rw [HA.out], ⟨n % 3600, rfl, by rw [RM.out]⟩⟩)), HB2 _ (by first | exact (Below.refl _ wr).drew.alloc (Nat.le_refl _) _ | exact ((Below.refl _ wr).alloc (Nat.le_refl _) _).drew)⟩
          case measure => simp [intOf]
      · have t0 : (r : Int) < 3600 := by omega
        have HA := Lib.hid (show str (accR n 1) = str (accR n 2) by rw [acc2, if_pos (by omega), List.append_nil])
        obtain ⟨A, hA⟩ : ∃ A, str (accR n 1) = A := ⟨_, rfl⟩
        rw [hA] at hl HA ⊢
        clear hr1 hge hA
        go_wp2_with fail
        go_roundw
        case rel => exact ⟨.inr (.inr (.inl ⟨rfl, by rw [HA.out], ⟨n % 3600, rfl, by rw [RM.out]⟩⟩)), hbk, hb⟩
        case measure => simp [intOf]
    · have hr1 : r = n % 3600 := hr.out
      have hr2 : r ≤ 6311433600 := by omega
      have RM := Lib.hid (show (r : Int) % 60 = ((n % 60 : Nat) : Int) by omega)
      have hl := accR_len n 2 h
      have hd : (str (decL (n % 3600 / 60))).size ≤ 10 := decL_len 9 (n % 3600 / 60) (by omega)
      by_cases hge : 60 ≤ r
      · have t0 : (60 : Int) ≤ (r : Int) := by omega
        have Q1 := Lib.hid (show IntKind.i64.wrap ((r : Int) / 60) = ((n % 3600 / 60 : Nat) : Int) by rw [IntWalk.i64_in _ (by omega)]; omega)
        have HA := Lib.hid (show str (accR n 2) ++ ((⟨#[32]⟩ : ByteArray) ++ str (decL (n % 3600 / 60)) ++ (⟨#[109, 105, 110]⟩ : ByteArray)) = str (accR n 3) by rw [acc3, if_neg (by omega)]; exact acc_str _ _ _)
        have HD : Hid (∀ w, Calls Tryd.prog 21 #[.int .i64 (IntKind.i64.wrap ((r : Int) / 60))] w fun e w' => e = .returned (.string (str (decL (n % 3600 / 60)))) ∧ w = w') := fun w => by
          rw [Q1.out]
          exact Dec_any _ (n % 3600 / 60) w (Nat.le_refl _) (by omega)
        obtain ⟨D, hD⟩ : ∃ D, str (decL (n % 3600 / 60)) = D := ⟨_, rfl⟩
        obtain ⟨A, hA⟩ : ∃ A, str (accR n 2) = A := ⟨_, rfl⟩
        rw [hD] at hd HA HD
        rw [hA] at hl HA ⊢
        have f1 : ¬ (9223372036854775807 < 1 + D.size) := by omega
        have f2 : ¬ (9223372036854775807 < 1 + D.size + 3) := by omega
        have f3 : ¬ (9223372036854775807 < A.size + (1 + D.size + 3)) := by omega
        clear hr1 hD hA Q1 hge
        go_wp2_with fail
        go_region_with (go_at_call 21; refine (HD.out _).mono ?_; rintro e w' ⟨rfl, rfl⟩)
        all_goals
          have HB2 : ∀ X, Below wr.heap.size wr X → Hid (Blk4 w.heap.size X) ∧ Hid (Below w.heap.size w X) := fun X hX => ⟨hbk.out.later hX, hb.out.trans (hX.mono hbs)⟩
          go_wp2_with fail
          go_roundw
          case rel => exact ⟨.inr (.inr (.inr (.inl ⟨rfl, by rw [HA.out], ⟨n % 60, rfl, by rw [RM.out]⟩⟩))), HB2 _ (by first | exact (Below.refl _ wr).drew.alloc (Nat.le_refl _) _ | exact ((Below.refl _ wr).alloc (Nat.le_refl _) _).drew)⟩
          case measure => simp [intOf]
      · have t0 : (r : Int) < 60 := by omega
        have HA := Lib.hid (show str (accR n 2) = str (accR n 3) by rw [acc3, if_pos (by omega), List.append_nil])
        obtain ⟨A, hA⟩ : ∃ A, str (accR n 2) = A := ⟨_, rfl⟩
        rw [hA] at hl HA ⊢
        clear hr1 hge hA
        go_wp2_with fail
        go_roundw
        case rel => exact ⟨.inr (.inr (.inr (.inl ⟨rfl, by rw [HA.out], ⟨n % 60, rfl, by rw [RM.out]⟩⟩))), hbk, hb⟩
        case measure => simp [intOf]
    · have hr1 : r = n % 60 := hr.out
      have hr2 : r ≤ 6311433600 := by omega
      have RM := Lib.hid (show (r : Int) % 1 = ((0 : Nat) : Int) by omega)
      have hl := accR_len n 3 h
      have hd : (str (decL (n % 60))).size ≤ 10 := decL_len 9 (n % 60) (by omega)
      by_cases hge : 1 ≤ r
      · have t0 : (1 : Int) ≤ (r : Int) := by omega
        have Q1 := Lib.hid (show IntKind.i64.wrap (r : Int) = ((n % 60 : Nat) : Int) by rw [IntWalk.i64_in _ (by omega)]; omega)
        have HA := Lib.hid (show str (accR n 3) ++ ((⟨#[32]⟩ : ByteArray) ++ str (decL (n % 60)) ++ (⟨#[115]⟩ : ByteArray)) = str (accR n 4) by rw [acc4, if_neg (by omega)]; exact acc_str _ _ _)
        have HD : Hid (∀ w, Calls Tryd.prog 21 #[.int .i64 (IntKind.i64.wrap (r : Int))] w fun e w' => e = .returned (.string (str (decL (n % 60)))) ∧ w = w') := fun w => by
          rw [Q1.out]
          exact Dec_any _ (n % 60) w (Nat.le_refl _) (by omega)
        obtain ⟨D, hD⟩ : ∃ D, str (decL (n % 60)) = D := ⟨_, rfl⟩
        obtain ⟨A, hA⟩ : ∃ A, str (accR n 3) = A := ⟨_, rfl⟩
        rw [hD] at hd HA HD
        rw [hA] at hl HA ⊢
        have f1 : ¬ (9223372036854775807 < 1 + D.size) := by omega
        have f2 : ¬ (9223372036854775807 < 1 + D.size + 1) := by omega
        have f3 : ¬ (9223372036854775807 < A.size + (1 + D.size + 1)) := by omega
        clear hr1 hD hA Q1 hge
        go_wp2_with fail
        go_region_with (go_at_call 21; refine (HD.out _).mono ?_; rintro e w' ⟨rfl, rfl⟩)
        all_goals
          have HB2 : ∀ X, Below wr.heap.size wr X → Hid (Blk4 w.heap.size X) ∧ Hid (Below w.heap.size w X) := fun X hX => ⟨hbk.out.later hX, hb.out.trans (hX.mono hbs)⟩
          go_wp2_with fail
          go_roundw
          case rel => exact ⟨.inr (.inr (.inr (.inr ⟨rfl, by rw [HA.out], ⟨0, rfl, rfl⟩⟩))), HB2 _ (by first | exact (Below.refl _ wr).drew.alloc (Nat.le_refl _) _ | exact ((Below.refl _ wr).alloc (Nat.le_refl _) _).drew)⟩
          case measure => simp [intOf]
      · have t0 : (r : Int) < 1 := by omega
        have HA := Lib.hid (show str (accR n 3) = str (accR n 4) by rw [acc4, if_pos (by omega), List.append_nil])
        obtain ⟨A, hA⟩ : ∃ A, str (accR n 3) = A := ⟨_, rfl⟩
        rw [hA] at hl HA ⊢
        clear hr1 hge hA
        go_wp2_with fail
        go_roundw
        case rel => exact ⟨.inr (.inr (.inr (.inr ⟨rfl, by rw [HA.out], ⟨0, rfl, rfl⟩⟩))), hbk, hb⟩
        case measure => simp [intOf]
    · have HP := Lib.hid (printL_acc n h0 h)
      have hl := accR_len n 4 h
      have hs1 : 1 ≤ (str (accR n 4)).size := acc_pos n h0 h
      have hs2 : (1 : Int) ≤ ((str (accR n 4)).size : Int) := by omega
      obtain ⟨A, hA⟩ : ∃ A, str (accR n 4) = A := ⟨_, rfl⟩
      rw [hA] at hl hs1 hs2 HP ⊢
      clear hA
      go_wp2_with fail
      go_ret
      exact ⟨ret_str HP.out, hb.out⟩
end Go.Proofs.YteoflefahoamnaaDoor
