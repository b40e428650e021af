/- The walk of the law WordsBack. -/
import Derived.Test.YtbgblbikffamkaaWdV
namespace Go.Proofs.Ytbgblbikffamkaa
open Go.RowKit

theorem takeW_words {c : UInt8} {e : Bool} {st st' : List (List UInt8) × Option (List UInt8) × UInt8} (h : takeW c e st = some st') : ∀ w ∈ st'.1, w ∈ st.1 ∨ st.2.1 = some w := by
  obtain ⟨ws, cur, q⟩ := st
  intro w hw
  unfold takeW at h
  dsimp only at h
  split at h
  · injection h with h; subst h
    cases cur with
    | none => exact .inl hw
    | some v =>
      simp only [endW, List.mem_append, List.mem_singleton] at hw
      rcases hw with hw | rfl
      · exact .inl hw
      · exact .inr rfl
  · split at h
    · cases h
    · split at h
      · injection h with h; subst h; exact .inl hw
      · split at h
        · injection h with h; subst h; exact .inl hw
        · split at h <;> (injection h with h; subst h; exact .inl hw)
theorem mach_words (l : List UInt8) (st : List (List UInt8) × Option (List UInt8) × UInt8) (h : (machW l st).2 = 0) : ∀ w ∈ (machW l st).1, w ∈ st.1 ∨ w.length ≤ topW l st := by
  refine machW_ind (fun l st => ∀ w ∈ (machW l st).1, w ∈ st.1 ∨ w.length ≤ topW l st) ?_ ?_ l.length l st (Nat.le_refl _) h
  · intro ws cur w hw
    rw [machW_nil, if_pos rfl] at hw
    rw [topW_nil]
    cases cur with
    | none => exact .inl hw
    | some v =>
      simp only [endW, List.mem_append, List.mem_singleton] at hw
      rcases hw with hw | rfl
      · exact .inl hw
      · exact .inr (Nat.le_refl _)
  · intro c t st st' h1 h2 _ ih w hw
    rw [machW_step h1 h2] at hw
    rcases ih w hw with h3 | h3
    · rcases takeW_words h2 w h3 with h4 | h4
      · exact .inl h4
      · refine .inr ?_
        have := topW_now (c :: t) st
        rw [h4] at this
        exact this
    · exact .inr (Nat.le_trans h3 (topW_step h1 h2))
theorem split_words {s : List UInt8} (h : (splitW s).2 = 0) : ∀ w ∈ (splitW s).1, w.length ≤ s.length := by
  intro w hw
  rcases mach_words s _ h w hw with h1 | h1
  · simp at h1
  · exact Nat.le_trans h1 (topS_le s)
theorem textW_le (w : List UInt8) : (textW w).length ≤ 4 * w.length + 2 := by
  unfold textW
  split
  · omega
  · unfold quoW
    have h : ∀ w : List UInt8, (w.flatMap signW).length ≤ 4 * w.length := by
      intro w
      induction w with
      | nil => simp
      | cons c w ih =>
        rw [List.flatMap_cons, List.length_append, List.length_cons]
        have : (signW c).length ≤ 4 := by
          unfold signW
          repeat' split
          all_goals simp
        omega
    have := h w
    simp only [List.length_cons, List.length_append, List.length_nil]
    omega
theorem rowW_bound (l : List (List UInt8)) (M : Nat) (h : ∀ w ∈ l, w.length ≤ M) : (rowW l).length ≤ l.length * (4 * M + 3) := by
  have hf : (l.flatMap fun w => 32 :: textW w).length ≤ l.length * (4 * M + 3) := by
    induction l with
    | nil => simp
    | cons w l ih =>
      rw [List.flatMap_cons, List.length_append, List.length_cons, List.length_cons, Nat.add_mul]
      have h1 := textW_le w
      have h2 := h w (by simp)
      have h3 := ih (fun x hx => h x (by simp [hx]))
      omega
  unfold rowW
  rw [List.length_drop]
  omega
theorem row32 {l : List (List UInt8)} (hl : l.length ≤ 32) (h : ∀ w ∈ l, w.length ≤ 1048576) : (rowW l).length ≤ 135000000 := by
  have h1 := rowW_bound l 1048576 h
  have h2 : l.length * (4 * 1048576 + 3) ≤ 32 * (4 * 1048576 + 3) := Nat.mul_le_mul_right _ hl
  omega

set_option maxHeartbeats 8000000 in
theorem WordsBack_any (s : ByteArray) (hs : s.size ≤ 1048576) (w : World) :
    Calls Try.prog 5 #[.string s] w fun e w' => e = .returned (.bool true) ∧ Below w.heap.size w w' := by
  have hm : s.size ≤ maxLen := by unfold maxLen; omega
  have ht : topS s.data.toList + 1 ≤ 140737488355328 := by have := topS_le s.data.toList; rw [size_list] at this; omega
  go_enter Try.func5, Try.ntmps5
  go_wp2_with fail
  refine (shown5_any _).mono ?_
  rintro e w1 ⟨rfl, hb1⟩
  have HB1 := Lib.hid hb1
  clear hb1
  go_wp2_with fail
  refine (Split_any _ hm ht _).mono ?_
  rintro e w2 ⟨A, n, c, rfl, hnc, hn32, hrow, hb2⟩
  have HR2 := Lib.hid hrow
  have HB2 := Lib.hid (below_more HB1.out HB1.out.size hb2)
  have HR2b : Hid (RowAt w2 w2.heap.size A n (splitW s.data.toList).1) := hrow
  clear hrow hb2
  by_cases he : (splitW s.data.toList).2 = 0
  · obtain ⟨h1, h2⟩ := split_back he
    have h3 := split_words he
    rw [size_list] at h3
    have h3' : ∀ x ∈ (splitW s.data.toList).1, x.length ≤ 1048576 := fun x hx => Nat.le_trans (h3 x hx) hs
    have h4 := row32 h2 h3'
    have HJ := Lib.hid h1
    have h5 : (joinW (splitW s.data.toList).1).length ≤ 135000000 := by
      unfold joinW
      split
      · simp
      · exact h4
    have htj : topS (str (joinW (splitW s.data.toList).1)).data.toList + 1 ≤ 140737488355328 := by
      have := topS_le (str (joinW (splitW s.data.toList).1)).data.toList
      rw [str_list] at this ⊢
      omega
    have HTJ := Lib.hid htj
    have HMJ : Hid ((str (joinW (splitW s.data.toList).1)).size ≤ maxLen) := by show _ ≤ _; rw [str_size]; unfold maxLen; omega
    have HS3 := Lib.hid h3'
    have HS4 := Lib.hid h4
    have HE := Lib.hid he
    have hn : (n : Int) ≤ 32 := by omega
    clear he h1 h2 h3 h3' h4 h5 htj
    rw [HE.out]
    go_wp2_with fail
    refine (Join_any A n c w2.heap.size _ _ HR2.out (Nat.le_refl _) (fun x hx => by have := HS3.out x hx; unfold maxLen; omega) (fun _ => by have := HS4.out; omega)).mono ?_
    rintro e w3 ⟨rfl, hb3⟩
    have HB3 := Lib.hid (below_more HB2.out HB2.out.size hb3)
    have HR3 := Lib.hid (HR2.out.below hb3)
    have hs23 := hb3.size
    clear hb3
    go_wp2_with fail
    refine (Split_any _ HMJ.out HTJ.out _).mono ?_
    rintro e w4 ⟨A', n', c', rfl, hnc', hn32', hrow', hb4⟩
    rw [str_list, HJ.out] at hrow' ⊢
    dsimp only at hrow' ⊢
    have HB4 := Lib.hid (below_more HB3.out HB3.out.size hb4)
    have HR4 : Hid (RowAt w4 w4.heap.size A n (splitW s.data.toList).1) := ((HR3.out.wide hs23).below hb4).wide hb4.size
    have HR4' := Lib.hid hrow'
    clear hb4 hrow'
    go_wp2_with fail
    refine (Same5_any A A' n n' c c' w4.heap.size _ _ _ HR4.out HR4'.out).mono ?_
    rintro e w5 ⟨rfl, j, rfl⟩
    rw [decide_eq_true (rfl : (splitW s.data.toList).1 = _)]
    have HB5 := Lib.hid (below_drewN HB4.out j)
    go_wp2_with fail
    go_ret
    exact ⟨rfl, HB5.out⟩
  · obtain ⟨h1, h2⟩ := split_err he
    have n0 : n = 0 := by have := HR2.out.1; rw [h1] at this; simpa using this.symm
    subst n0
    have e1 : (((splitW s.data.toList).2 : Int) != 0) = true := by simp; omega
    have HB := Lib.hid HB2.out
    rcases h2 with h2 | h2 | h2
    all_goals
      rw [h2]
      clear e1 h1 h2 he
      go_wp2_with fail
      go_ret
      exact ⟨rfl, HB.out⟩
end Go.Proofs.Ytbgblbikffamkaa
