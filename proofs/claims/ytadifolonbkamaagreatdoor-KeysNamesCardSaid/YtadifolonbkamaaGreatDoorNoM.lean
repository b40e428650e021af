/- What parsing gives of pieces that were put together, plainly. -/
import Derived.Test.YtadifolonbkamaaGreatDoorNoK
namespace Go.Proofs.YtadifolonbkamaaGreatDoor.Nm
open Go.RowKit

theorem cut_of_join (p i : List UInt8) (hp : ∀ c ∈ p, c ≠ 64) : Lib.cut (p ++ 64 :: i) [64] = (p, i, true) := by
  induction p with
  | nil => rw [List.nil_append, cut_cons, if_pos rfl]
  | cons c r ih =>
    rw [List.cons_append, cut_cons, if_neg (hp c (List.mem_cons_self ..)), ih fun d hd => hp d (List.mem_cons_of_mem _ hd)]
theorem cut_of_plain (p : List UInt8) (hp : ∀ c ∈ p, c ≠ 64) : Lib.cut p [64] = (p, [], false) := by
  induction p with
  | nil => exact cut_nil
  | cons c r ih =>
    rw [cut_cons, if_neg (hp c (List.mem_cons_self ..)), ih fun d hd => hp d (List.mem_cons_of_mem _ hd)]

theorem sfx_cases (k : Int) : k = 1 ∨ k = 2 ∨ k = 3 ∨ k = 4 ∨ sfx k = [] := by
  by_cases h : k = 1 ∨ k = 2 ∨ k = 3 ∨ k = 4
  · rcases h with h | h | h | h <;> simp [h]
  · have h1 : k ≠ 1 := fun e => h (.inl e)
    have h2 : k ≠ 2 := fun e => h (.inr (.inl e))
    have h3 : k ≠ 3 := fun e => h (.inr (.inr (.inl e)))
    have h4 : k ≠ 4 := fun e => h (.inr (.inr (.inr e)))
    simp [sfx, h1, h2, h3, h4]
theorem sfx_nopoint (k : Int) : ∀ c ∈ sfx k, c ≠ 46 := by
  rcases sfx_cases k with rfl | rfl | rfl | rfl | h
  · decide
  · decide
  · decide
  · decide
  · rw [h]; simp
theorem sfx_least (k : Int) (h : sfx k ≠ []) : 5 ≤ (sfx k).length := by
  rcases sfx_cases k with rfl | rfl | rfl | rfl | h'
  · decide
  · decide
  · decide
  · decide
  · exact absurd h' h
theorem kindL_of_sfx (k : Int) (h : sfx k ≠ []) : kindL (sfx k) = k ∧ k ≠ 0 := by
  rcases sfx_cases k with rfl | rfl | rfl | rfl | h'
  · decide
  · decide
  · decide
  · decide
  · exact absurd h' h

theorem pt_of_split (s : ByteArray) (h t : List UInt8) (e : s.data.toList = h ++ 46 :: t) (ht : ∀ c ∈ t, c ≠ 46) : pt s = h.length := by
  have hs : s.data.toList.length = s.size := by simp
  have hl : s.size = h.length + (t.length + 1) := by rw [← hs, e]; simp
  have hat : ∀ j (hj : j < s.size), s.data[j]! = s.data.toList[j]'(by omega) := fun j hj => by
    rw [Array.getElem_toList, getElem!_pos s.data j (by simpa using hj)]
  have h46 : s.data[h.length]! = 46 := by
    rw [hat _ (by omega)]
    simp [e]
  rcases Lib.lastIndexByte_spec s 46 with ⟨_, hn⟩ | ⟨i, hi, hp, hc, hn⟩
  · exact absurd (by rw [h46]; rfl) (hn h.length (by omega))
  · unfold pt
    rw [hp]
    rcases Nat.lt_trichotomy i h.length with hlt | heq | hgt
    · exact absurd (by rw [h46]; rfl) (hn h.length hlt (by omega))
    · rw [heq]
    · exfalso
      have e1 : s.data[i]! = 46 := UInt8.toNat_inj.1 (by show _ = 46; omega)
      rw [hat i hi] at e1
      have e2 : s.data.toList[i]'(by omega) = t[i - h.length - 1]'(by omega) := by
        simp only [e]
        rw [List.getElem_append_right (by omega), List.getElem_cons]
        rw [dif_neg (by omega)]
      rw [e2] at e1
      exact ht _ (List.getElem_mem _) e1
theorem head_of_split (s : ByteArray) (h t : List UInt8) (e : s.data.toList = h ++ 46 :: t) (ht : ∀ c ∈ t, c ≠ 46) : headP s = str h ∧ tailP s = str t := by
  have hs : s.data.toList.length = s.size := by simp
  have hp := pt_of_split s h t e ht
  constructor
  · apply ext_list
    unfold headP
    rw [hp, Lib.extract_data, e]
    simp [str]
  · apply ext_list
    unfold tailP
    rw [hp, Lib.extract_data]
    rw [List.take_of_length_le (by rw [List.length_drop, hs]; omega), e]
    simp [str]

theorem body_no_at {l : List UInt8} (h : bodyL l = true) : ∀ c ∈ l, c ≠ 64 := by
  intro c hc e
  subst e
  unfold bodyL at h
  rw [List.all_eq_true] at h
  exact absurd (h 64 hc) (by decide)

/-- Pieces that may be, put together to a text that is short enough, are a unit name with just these pieces. -/
theorem parse_join (p i : ByteArray) (a : Bool) (k : Int) (hp : p.data.toList ≠ []) (hbp : bodyL p.data.toList = true) (hbi : bodyL i.data.toList = true) (hai : a = false → i.data.toList = []) (hk : sfx k ≠ []) (hsz : (joinS p i a k).size ≤ 60) :
    goodP (joinS p i a k) = true ∧ preP (joinS p i a k) = p ∧ instP (joinS p i a k) = i ∧ atP (joinS p i a k) = a ∧ kindP (joinS p i a k) = k := by
  have hJ := joinS_list p i a k
  obtain ⟨h1, h2⟩ := head_of_split _ _ _ hJ (sfx_nopoint k)
  have hpt := pt_of_split _ _ _ hJ (sfx_nopoint k)
  obtain ⟨hkk, hk0⟩ := kindL_of_sfx k hk
  have hcut : cutAt (headP (joinS p i a k)) = (p.data.toList, i.data.toList, a) := by
    rw [h1]
    unfold cutAt
    cases a
    · rw [hai rfl]
      exact cut_of_plain _ (body_no_at hbp)
    · exact cut_of_join _ _ (body_no_at hbp)
  have hks : kindS (tailP (joinS p i a k)) = k := by rw [h2]; exact hkk
  have hg : goodP (joinS p i a k) = true := by
    unfold goodP
    rw [hcut, hks, hpt]
    simp only [Bool.and_eq_true, decide_eq_true_eq]
    exact ⟨hsz, by omega, hk0, hp, hbp, hbi⟩
  refine ⟨hg, ?_, ?_, ?_, ?_⟩
  · unfold preP; rw [if_pos hg, hcut]; exact str_data p
  · unfold instP; rw [if_pos hg, hcut]; exact str_data i
  · unfold atP; rw [if_pos hg, hcut]
  · unfold kindP; rw [if_pos hg, hks]

/-- What a unit name's pieces are like. -/
theorem parts_of (s : ByteArray) (h : goodP s = true) : (preP s).data.toList ≠ [] ∧ bodyL (preP s).data.toList = true ∧ bodyL (instP s).data.toList = true ∧ (atP s = false → (instP s).data.toList = []) ∧ sfx (kindP s) ≠ [] ∧ s.size ≤ 60 := by
  have hne := preP_ne s h
  unfold preP instP atP kindP at *
  rw [if_pos h] at hne
  rw [if_pos h, if_pos h, if_pos h, if_pos h]
  unfold goodP at h
  simp only [Bool.and_eq_true, decide_eq_true_eq] at h
  obtain ⟨h60, hpt, hk, hp, hb1, hb2⟩ := h
  refine ⟨hne, hb1, hb2, fun ha => ?_, ?_, h60⟩
  · exact cut_none _ ha
  · intro e
    have := kindL_sfx (tailP s).data.toList hk
    unfold kindS at e
    rw [e] at this
    unfold kindS at hk
    rw [← this] at hk
    exact hk (by decide)
end Go.Proofs.YtadifolonbkamaaGreatDoor.Nm
