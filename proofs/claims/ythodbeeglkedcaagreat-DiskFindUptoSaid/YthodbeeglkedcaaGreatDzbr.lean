/- The walk of shown. -/
import Derived.Test.YthodbeeglkedcaaGreatDzbq
import Derived.Test.YthodbeeglkedcaaGreatDzau
namespace Go.Proofs.YthodbeeglkedcaaGreat
open Go.RowKit
theorem fis_new (w : World) (t : TypeId) (l : List Fi) (hl : l.length ≤ maxLen) : FisAt (w.alloc (.cells (fis l).toArray t)) (w.alloc (.cells (fis l).toArray t)).heap.size (some ⟨w.heap.size, 0, none⟩) l.length l :=
  ⟨rfl, hl, fun _ => ⟨_, rfl, by simp, fun j x hj => by
    rw [add_cellO, (Blk.new w t (fis l).toArray).cell j]
    simpa using hj⟩⟩
theorem size0 : ∀ x ∈ files0, SizeF x := by
  intro x hx
  unfold files0 at hx
  simp only [List.mem_cons, List.not_mem_nil, or_false] at hx
  unfold SizeF
  rcases hx with rfl | rfl | rfl | rfl | rfl <;> exact ⟨by decide, by decide, by decide⟩
theorem findP_at {l : List Fi} {u : List UInt8} {w w' : World} {e : Ending} {r : Fd} {k : Int} (h : FindP l u w e w') (hr : findL nmsP l u = (r, k)) : ∃ A c, e = .returned (.tuple #[.agg #[.string (str r.n), .string (str r.p), .bool r.m, .slice A r.d.length c], .int .i64 k]) ∧ RowAt w' w'.heap.size A r.d.length r.d ∧ Below w.heap.size w w' := by
  obtain ⟨v, rfl, ⟨A, c, rfl, hw⟩, hb⟩ := h
  rw [hr] at hw ⊢
  exact ⟨A, c, rfl, hw, hb⟩
set_option maxRecDepth 100000 in
set_option maxHeartbeats 8000000 in
theorem shown12_any (w : World) :
    Calls Tryz.prog 4 #[] w fun e w' => e = .returned (.bool true) ∧ Below w.heap.size w w' := by
  have HF0 : Hid (FisAt (w.alloc (.cells #[.string ⟨#[108, 105, 98, 47, 97, 64, 46, 115, 101, 114, 118, 105, 99, 101]⟩, .string ⟨#[120]⟩, .string ⟨#[]⟩, .string ⟨#[101, 116, 99, 47, 97, 64, 49, 46, 115, 101, 114, 118, 105, 99, 101, 46, 100, 47, 98, 46, 99, 111, 110, 102]⟩, .string ⟨#[121]⟩, .string ⟨#[]⟩, .string ⟨#[108, 105, 98, 47, 97, 64, 46, 115, 101, 114, 118, 105, 99, 101, 46, 100, 47, 98, 46, 99, 111, 110, 102]⟩, .string ⟨#[]⟩, .string ⟨#[]⟩, .string ⟨#[114, 117, 110, 47, 99, 46, 116, 97, 114, 103, 101, 116, 46, 119, 97, 110, 116, 115, 47, 100, 46, 115, 101, 114, 118, 105, 99, 101]⟩, .string ⟨#[]⟩, .string ⟨#[100, 46, 115, 101, 114, 118, 105, 99, 101]⟩, .string ⟨#[101, 116, 99, 47, 101, 46, 116, 105, 109, 101, 114]⟩, .string ⟨#[]⟩, .string ⟨#[110, 117, 108, 108]⟩] 34)) (w.alloc (.cells #[.string ⟨#[108, 105, 98, 47, 97, 64, 46, 115, 101, 114, 118, 105, 99, 101]⟩, .string ⟨#[120]⟩, .string ⟨#[]⟩, .string ⟨#[101, 116, 99, 47, 97, 64, 49, 46, 115, 101, 114, 118, 105, 99, 101, 46, 100, 47, 98, 46, 99, 111, 110, 102]⟩, .string ⟨#[121]⟩, .string ⟨#[]⟩, .string ⟨#[108, 105, 98, 47, 97, 64, 46, 115, 101, 114, 118, 105, 99, 101, 46, 100, 47, 98, 46, 99, 111, 110, 102]⟩, .string ⟨#[]⟩, .string ⟨#[]⟩, .string ⟨#[114, 117, 110, 47, 99, 46, 116, 97, 114, 103, 101, 116, 46, 119, 97, 110, 116, 115, 47, 100, 46, 115, 101, 114, 118, 105, 99, 101]⟩, .string ⟨#[]⟩, .string ⟨#[100, 46, 115, 101, 114, 118, 105, 99, 101]⟩, .string ⟨#[101, 116, 99, 47, 101, 46, 116, 105, 109, 101, 114]⟩, .string ⟨#[]⟩, .string ⟨#[110, 117, 108, 108]⟩] 34)).heap.size (some ⟨w.heap.size, 0, none⟩) 5 files0) := fis_new w 34 files0 (by decide)
  have HB0 : Hid (Below w.heap.size w (w.alloc (.cells #[.string ⟨#[108, 105, 98, 47, 97, 64, 46, 115, 101, 114, 118, 105, 99, 101]⟩, .string ⟨#[120]⟩, .string ⟨#[]⟩, .string ⟨#[101, 116, 99, 47, 97, 64, 49, 46, 115, 101, 114, 118, 105, 99, 101, 46, 100, 47, 98, 46, 99, 111, 110, 102]⟩, .string ⟨#[121]⟩, .string ⟨#[]⟩, .string ⟨#[108, 105, 98, 47, 97, 64, 46, 115, 101, 114, 118, 105, 99, 101, 46, 100, 47, 98, 46, 99, 111, 110, 102]⟩, .string ⟨#[]⟩, .string ⟨#[]⟩, .string ⟨#[114, 117, 110, 47, 99, 46, 116, 97, 114, 103, 101, 116, 46, 119, 97, 110, 116, 115, 47, 100, 46, 115, 101, 114, 118, 105, 99, 101]⟩, .string ⟨#[]⟩, .string ⟨#[100, 46, 115, 101, 114, 118, 105, 99, 101]⟩, .string ⟨#[101, 116, 99, 47, 101, 46, 116, 105, 109, 101, 114]⟩, .string ⟨#[]⟩, .string ⟨#[110, 117, 108, 108]⟩] 34))) := (Below.refl _ w).alloc (Nat.le_refl _) _
  go_enter Tryz.func4, Tryz.ntmps4
  go_wp2_with fail
  generalize w.alloc (.cells #[.string ⟨#[108, 105, 98, 47, 97, 64, 46, 115, 101, 114, 118, 105, 99, 101]⟩, .string ⟨#[120]⟩, .string ⟨#[]⟩, .string ⟨#[101, 116, 99, 47, 97, 64, 49, 46, 115, 101, 114, 118, 105, 99, 101, 46, 100, 47, 98, 46, 99, 111, 110, 102]⟩, .string ⟨#[121]⟩, .string ⟨#[]⟩, .string ⟨#[108, 105, 98, 47, 97, 64, 46, 115, 101, 114, 118, 105, 99, 101, 46, 100, 47, 98, 46, 99, 111, 110, 102]⟩, .string ⟨#[]⟩, .string ⟨#[]⟩, .string ⟨#[114, 117, 110, 47, 99, 46, 116, 97, 114, 103, 101, 116, 46, 119, 97, 110, 116, 115, 47, 100, 46, 115, 101, 114, 118, 105, 99, 101]⟩, .string ⟨#[]⟩, .string ⟨#[100, 46, 115, 101, 114, 118, 105, 99, 101]⟩, .string ⟨#[101, 116, 99, 47, 101, 46, 116, 105, 109, 101, 114]⟩, .string ⟨#[]⟩, .string ⟨#[110, 117, 108, 108]⟩] 34) = w0 at *
  refine (dFind_any (some ⟨w.heap.size, 0, none⟩) 5 5 _ files0 (str sA1) (by decide) w0 HF0.out (Nat.le_refl _) size0).mono ?_
  intro e w1 h1
  rw [str_list] at h1
  obtain ⟨dA, dc, rfl, hd1, hb1⟩ := findP_at h1 shown_x
  dsimp only [List.length_cons, List.length_nil] at hd1 ⊢
  have HX1 : Hid (Blk (w1.alloc (.cells #[.string (str sA1), .string (str sLa), .bool false, .slice dA 1 dc] 26)) w1.heap.size 26 (fdA sA1 sLa false (.slice dA 1 dc))) := Blk.new w1 _ _
  have HB1 : Hid (Below w.heap.size w (w1.alloc (.cells #[.string (str sA1), .string (str sLa), .bool false, .slice dA 1 dc] 26))) := (more3 HB0.out HB0.out.size hb1).alloc (by have := HB0.out.size; have := hb1.size; omega) _
  have HF1 : Hid (FisAt (w1.alloc (.cells #[.string (str sA1), .string (str sLa), .bool false, .slice dA 1 dc] 26)) (w1.alloc (.cells #[.string (str sA1), .string (str sLa), .bool false, .slice dA 1 dc] 26)).heap.size (some ⟨w.heap.size, 0, none⟩) 5 files0) := ((HF0.out.below hb1).below ((Below.refl _ w1).alloc (Nat.le_refl _) _ |>.mono hb1.size)).wide (by have := hb1.size; simp; omega)
  have HD1 : Hid (RowAt (w1.alloc (.cells #[.string (str sA1), .string (str sLa), .bool false, .slice dA 1 dc] 26)) (w1.alloc (.cells #[.string (str sA1), .string (str sLa), .bool false, .slice dA 1 dc] 26)).heap.size dA 1 [sDr]) := (hd1.below ((Below.refl _ w1).alloc (Nat.le_refl _) _)).wide (by simp)
  clear hb1 hd1 HB0 HF0
  go_wp2_with fail
  generalize w1.alloc (.cells #[.string (str sA1), .string (str sLa), .bool false, .slice dA 1 dc] 26) = w2 at *
  refine (dFind_any (some ⟨w.heap.size, 0, none⟩) 5 5 _ files0 (str sE) (by decide) w2 HF1.out (Nat.le_refl _) size0).mono ?_
  intro e w3 h1
  rw [str_list] at h1
  obtain ⟨eA, ec, rfl, _, hb3⟩ := findP_at h1 shown_y
  dsimp only [List.length_cons, List.length_nil]
  have HX3 := Lib.hid (HX1.out.below hb3 HX1.out.lt)
  have HX4 : Hid (Blk (w3.alloc (.cells #[.string (str sE), .string (str sEe), .bool true, .slice eA 0 ec] 26)) w1.heap.size 26 (fdA sA1 sLa false (.slice dA 1 dc))) := HX3.out.alloc _
  have HY4 : Hid (Blk (w3.alloc (.cells #[.string (str sE), .string (str sEe), .bool true, .slice eA 0 ec] 26)) w3.heap.size 26 (fdA sE sEe true (.slice eA 0 ec))) := Blk.new w3 _ _
  have HB4 : Hid (Below w.heap.size w (w3.alloc (.cells #[.string (str sE), .string (str sEe), .bool true, .slice eA 0 ec] 26))) := (more3 HB1.out HB1.out.size hb3).alloc (by have := HB1.out.size; have := hb3.size; omega) _
  have HF4 : Hid (FisAt (w3.alloc (.cells #[.string (str sE), .string (str sEe), .bool true, .slice eA 0 ec] 26)) (w3.alloc (.cells #[.string (str sE), .string (str sEe), .bool true, .slice eA 0 ec] 26)).heap.size (some ⟨w.heap.size, 0, none⟩) 5 files0) := ((HF1.out.below hb3).below ((Below.refl _ w3).alloc (Nat.le_refl _) _ |>.mono hb3.size)).wide (by have := hb3.size; simp; omega)
  have HD4 : Hid (RowAt (w3.alloc (.cells #[.string (str sE), .string (str sEe), .bool true, .slice eA 0 ec] 26)) (w3.alloc (.cells #[.string (str sE), .string (str sEe), .bool true, .slice eA 0 ec] 26)).heap.size dA 1 [sDr]) := ((HD1.out.below hb3).below ((Below.refl _ w3).alloc (Nat.le_refl _) _ |>.mono hb3.size)).wide (by have := hb3.size; simp; omega)
  clear hb3 h1 HX1 HB1 HF1 HD1 HX3
  go_wp2_with fail
  generalize w3.alloc (.cells #[.string (str sE), .string (str sEe), .bool true, .slice eA 0 ec] 26) = w4 at *
  refine (dFind_any (some ⟨w.heap.size, 0, none⟩) 5 5 _ files0 (str sZ) (by decide) w4 HF4.out (Nat.le_refl _) size0).mono ?_
  intro e w5 h1
  rw [str_list] at h1
  obtain ⟨zA, zc, rfl, _, hb5⟩ := findP_at h1 shown_z
  dsimp only [noFd, List.length_nil]
  rw [show str [] = (⟨#[]⟩ : ByteArray) from rfl]
  have HX5 := Lib.hid (HX4.out.below hb5 HX4.out.lt)
  have HY5 := Lib.hid (HY4.out.below hb5 HY4.out.lt)
  have HX6 : Hid (Blk (w5.alloc (.cells #[.string ⟨#[]⟩, .string ⟨#[]⟩, .bool false, .slice zA 0 zc] 26)) w1.heap.size 26 (fdA sA1 sLa false (.slice dA 1 dc))) := HX5.out.alloc _
  have HY6 : Hid (Blk (w5.alloc (.cells #[.string ⟨#[]⟩, .string ⟨#[]⟩, .bool false, .slice zA 0 zc] 26)) w3.heap.size 26 (fdA sE sEe true (.slice eA 0 ec))) := HY5.out.alloc _
  have HB6 : Hid (Below w.heap.size w (w5.alloc (.cells #[.string ⟨#[]⟩, .string ⟨#[]⟩, .bool false, .slice zA 0 zc] 26))) := (more3 HB4.out HB4.out.size hb5).alloc (by have := HB4.out.size; have := hb5.size; omega) _
  have HF6 : Hid (FisAt (w5.alloc (.cells #[.string ⟨#[]⟩, .string ⟨#[]⟩, .bool false, .slice zA 0 zc] 26)) (w5.alloc (.cells #[.string ⟨#[]⟩, .string ⟨#[]⟩, .bool false, .slice zA 0 zc] 26)).heap.size (some ⟨w.heap.size, 0, none⟩) 5 files0) := ((HF4.out.below hb5).below ((Below.refl _ w5).alloc (Nat.le_refl _) _ |>.mono hb5.size)).wide (by have := hb5.size; simp; omega)
  have HD6 : Hid (RowAt (w5.alloc (.cells #[.string ⟨#[]⟩, .string ⟨#[]⟩, .bool false, .slice zA 0 zc] 26)) (w5.alloc (.cells #[.string ⟨#[]⟩, .string ⟨#[]⟩, .bool false, .slice zA 0 zc] 26)).heap.size dA 1 [sDr]) := ((HD4.out.below hb5).below ((Below.refl _ w5).alloc (Nat.le_refl _) _ |>.mono hb5.size)).wide (by have := hb5.size; simp; omega)
  clear hb5 h1 HX4 HY4 HB4 HF4 HD4 HX5 HY5
  go_wp2_with fail
  generalize w5.alloc (.cells #[.string ⟨#[]⟩, .string ⟨#[]⟩, .bool false, .slice zA 0 zc] 26) = w6 at *
  refine (dLinks_any (some ⟨w.heap.size, 0, none⟩) 5 5 _ files0 (str sC) (by rw [str_size]; decide) w6 HF6.out (Nat.le_refl _) size0).mono ?_
  rintro e w7 ⟨v1, v2, rfl, h1, h2, hb7⟩
  rw [str_list, shown_w] at h1
  rw [str_list, shown_r] at h2
  obtain ⟨wA, wk, rfl, hw1⟩ := h1
  obtain ⟨rA, rk, rfl, _⟩ := h2
  dsimp only [List.length_cons, List.length_nil] at hw1 ⊢
  have HX7 := Lib.hid (HX6.out.below hb7 HX6.out.lt)
  have HY7 := Lib.hid (HY6.out.below hb7 HY6.out.lt)
  have HB7 := Lib.hid (more3 HB6.out HB6.out.size hb7)
  have HF7 := Lib.hid ((HF6.out.below hb7).wide hb7.size)
  have HD7 := Lib.hid ((HD6.out.below hb7).wide hb7.size)
  have HW7 := Lib.hid hw1
  clear hb7 hw1 HX6 HY6 HB6 HF6 HD6
  go_wp2_with fail
  have HM := dMay_any (some ⟨w.heap.size, 0, none⟩) 5 5 _ files0 w7 HF7.out (Nat.le_refl _) size0
  rw [shown_may] at HM
  refine HM.mono ?_
  rintro e w8 ⟨rfl, hb8⟩
  have HX8 := Lib.hid (HX7.out.below hb8 HX7.out.lt)
  have HY8 := Lib.hid (HY7.out.below hb8 HY7.out.lt)
  have HB8 := Lib.hid (more3 HB7.out HB7.out.size hb8)
  have HD8 := Lib.hid ((HD7.out.below hb8).wide hb8.size)
  have HW8 := Lib.hid ((HW7.out.below hb8).wide hb8.size)
  clear hb8 HX7 HY7 HB7 HD7 HW7 HF7 HM
  have k0 : w8.cell? ⟨w1.heap.size, 0, none⟩ = some (.string (str sA1)) := HX8.out.cell 0
  have k1 : w8.cell? ⟨w1.heap.size, 1, none⟩ = some (.string (str sLa)) := HX8.out.cell 1
  have k3 : w8.cell? ⟨w1.heap.size, 3, none⟩ = some (.slice dA 1 dc) := HX8.out.cell 3
  have e1 : ((str sA1).toList == [97, 64, 49, 46, 115, 101, 114, 118, 105, 99, 101]) = true := by rw [Lib.toList_data]; rfl
  have e2 : ((str sLa).toList == [108, 105, 98, 47, 97, 64, 46, 115, 101, 114, 118, 105, 99, 101]) = true := by rw [Lib.toList_data]; rfl
  go_wp2_with fail
  have HR9 : Hid (RowAt (w8.alloc (.cells #[.string ⟨#[101, 116, 99, 47, 97, 64, 49, 46, 115, 101, 114, 118, 105, 99, 101, 46, 100, 47, 98, 46, 99, 111, 110, 102]⟩] 9)) (w8.alloc (.cells #[.string ⟨#[101, 116, 99, 47, 97, 64, 49, 46, 115, 101, 114, 118, 105, 99, 101, 46, 100, 47, 98, 46, 99, 111, 110, 102]⟩] 9)).heap.size (some ⟨w8.heap.size, 0, none⟩) 1 [sDr]) := rowAt_new w8 9 [sDr] (by show (1 : Nat) ≤ maxLen; decide)
  have HD9 : Hid (RowAt (w8.alloc (.cells #[.string ⟨#[101, 116, 99, 47, 97, 64, 49, 46, 115, 101, 114, 118, 105, 99, 101, 46, 100, 47, 98, 46, 99, 111, 110, 102]⟩] 9)) (w8.alloc (.cells #[.string ⟨#[101, 116, 99, 47, 97, 64, 49, 46, 115, 101, 114, 118, 105, 99, 101, 46, 100, 47, 98, 46, 99, 111, 110, 102]⟩] 9)).heap.size dA 1 [sDr]) := (HD8.out.below ((Below.refl _ w8).alloc (Nat.le_refl _) _)).wide (by simp)
  have HX9 : Hid (Blk (w8.alloc (.cells #[.string ⟨#[101, 116, 99, 47, 97, 64, 49, 46, 115, 101, 114, 118, 105, 99, 101, 46, 100, 47, 98, 46, 99, 111, 110, 102]⟩] 9)) w1.heap.size 26 (fdA sA1 sLa false (.slice dA 1 dc))) := HX8.out.alloc _
  have HY9 : Hid (Blk (w8.alloc (.cells #[.string ⟨#[101, 116, 99, 47, 97, 64, 49, 46, 115, 101, 114, 118, 105, 99, 101, 46, 100, 47, 98, 46, 99, 111, 110, 102]⟩] 9)) w3.heap.size 26 (fdA sE sEe true (.slice eA 0 ec))) := HY8.out.alloc _
  have HB9 : Hid (Below w.heap.size w (w8.alloc (.cells #[.string ⟨#[101, 116, 99, 47, 97, 64, 49, 46, 115, 101, 114, 118, 105, 99, 101, 46, 100, 47, 98, 46, 99, 111, 110, 102]⟩] 9))) := HB8.out.alloc HB8.out.size _
  have HW9 : Hid (RowAt (w8.alloc (.cells #[.string ⟨#[101, 116, 99, 47, 97, 64, 49, 46, 115, 101, 114, 118, 105, 99, 101, 46, 100, 47, 98, 46, 99, 111, 110, 102]⟩] 9)) (w8.alloc (.cells #[.string ⟨#[101, 116, 99, 47, 97, 64, 49, 46, 115, 101, 114, 118, 105, 99, 101, 46, 100, 47, 98, 46, 99, 111, 110, 102]⟩] 9)).heap.size wA 1 [sD]) := (HW8.out.below ((Below.refl _ w8).alloc (Nat.le_refl _) _)).wide (by simp)
  generalize w8.alloc (.cells #[.string ⟨#[101, 116, 99, 47, 97, 64, 49, 46, 115, 101, 114, 118, 105, 99, 101, 46, 100, 47, 98, 46, 99, 111, 110, 102]⟩] 9) = w8b at *
  refine (Same5_any dA (some ⟨w8.heap.size, 0, none⟩) 1 1 dc 1 _ [sDr] [sDr] w8b HD9.out HR9.out).mono ?_
  rintro e ww ⟨rfl, j, rfl⟩
  have HX10 := Lib.hid (HX9.out.drewN j)
  have HY10 := Lib.hid (HY9.out.drewN j)
  have HB10 := Lib.hid (below_drewN HB9.out j)
  have HW10 := Lib.hid (HW9.out.drewN j)
  rw [show (w8b.heap.size) = (w8b.drewN j).heap.size from rfl] at HW10
  generalize w8b.drewN j = w9 at *
  clear HR9 HD9 HX9 HY9 HB9 HW9 HX8 HY8 HB8 HW8 HD8 k0 k1 k3 e1 e2
  have kM : w9.cell? ⟨w3.heap.size, 2, none⟩ = some (.bool true) := HY10.out.cell 2
  rw [show decide ([sDr] = [sDr]) = true by simp]
  go_wp2_with fail
  have HR11 : Hid (RowAt (w9.alloc (.cells #[.string ⟨#[100, 46, 115, 101, 114, 118, 105, 99, 101]⟩] 9)) (w9.alloc (.cells #[.string ⟨#[100, 46, 115, 101, 114, 118, 105, 99, 101]⟩] 9)).heap.size (some ⟨w9.heap.size, 0, none⟩) 1 [sD]) := rowAt_new w9 9 [sD] (by show (1 : Nat) ≤ maxLen; decide)
  have HW11 : Hid (RowAt (w9.alloc (.cells #[.string ⟨#[100, 46, 115, 101, 114, 118, 105, 99, 101]⟩] 9)) (w9.alloc (.cells #[.string ⟨#[100, 46, 115, 101, 114, 118, 105, 99, 101]⟩] 9)).heap.size wA 1 [sD]) := (HW10.out.below ((Below.refl _ w9).alloc (Nat.le_refl _) _)).wide (by simp)
  have HB11 : Hid (Below w.heap.size w (w9.alloc (.cells #[.string ⟨#[100, 46, 115, 101, 114, 118, 105, 99, 101]⟩] 9))) := HB10.out.alloc HB10.out.size _
  generalize w9.alloc (.cells #[.string ⟨#[100, 46, 115, 101, 114, 118, 105, 99, 101]⟩] 9) = w9b at *
  refine (Same5_any wA (some ⟨w9.heap.size, 0, none⟩) 1 1 wk 1 _ [sD] [sD] w9b HW11.out HR11.out).mono ?_
  rintro e ww ⟨rfl, j2, rfl⟩
  have HB12 := Lib.hid (below_drewN HB11.out j2)
  generalize w9b.drewN j2 = w10 at *
  clear HR11 HW11 HB11 HX10 HY10 HB10 HW10 kM
  rw [show decide ([sD] = [sD]) = true by simp]
  go_wp2_with fail
  refine (dPlaces_any w10).mono ?_
  rintro e w11 ⟨pA, pc, rfl, hp, hb11⟩
  have HP := Lib.hid hp
  have HB13 := Lib.hid (more3 HB12.out HB12.out.size hb11)
  clear hp hb11 HB12
  go_wp2_with fail
  have HR14 : Hid (RowAt (w11.alloc (.cells #[.string ⟨#[101, 116, 99]⟩, .string ⟨#[114, 117, 110]⟩, .string ⟨#[108, 105, 98]⟩] 9)) (w11.alloc (.cells #[.string ⟨#[101, 116, 99]⟩, .string ⟨#[114, 117, 110]⟩, .string ⟨#[108, 105, 98]⟩] 9)).heap.size (some ⟨w11.heap.size, 0, none⟩) 3 plc) := rowAt_new w11 9 plc (by decide)
  have HP14 : Hid (RowAt (w11.alloc (.cells #[.string ⟨#[101, 116, 99]⟩, .string ⟨#[114, 117, 110]⟩, .string ⟨#[108, 105, 98]⟩] 9)) (w11.alloc (.cells #[.string ⟨#[101, 116, 99]⟩, .string ⟨#[114, 117, 110]⟩, .string ⟨#[108, 105, 98]⟩] 9)).heap.size pA 3 plc) := (HP.out.below ((Below.refl _ w11).alloc (Nat.le_refl _) _)).wide (by simp)
  have HB14 : Hid (Below w.heap.size w (w11.alloc (.cells #[.string ⟨#[101, 116, 99]⟩, .string ⟨#[114, 117, 110]⟩, .string ⟨#[108, 105, 98]⟩] 9))) := HB13.out.alloc HB13.out.size _
  generalize w11.alloc (.cells #[.string ⟨#[101, 116, 99]⟩, .string ⟨#[114, 117, 110]⟩, .string ⟨#[108, 105, 98]⟩] 9) = w12 at *
  refine (Same5_any pA (some ⟨w11.heap.size, 0, none⟩) 3 3 pc 3 _ plc plc w12 HP14.out HR14.out).mono ?_
  rintro e ww ⟨rfl, j3, rfl⟩
  rw [show decide (plc = plc) = true by simp]
  go_wp2_with fail
  go_ret
  exact ⟨rfl, below_drewN HB14.out j3⟩
end Go.Proofs.YthodbeeglkedcaaGreat
