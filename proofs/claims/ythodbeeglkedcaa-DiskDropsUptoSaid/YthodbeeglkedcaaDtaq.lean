/- What parsing gives of pieces that were put together, plainly. NamePieces: every text is no unit name, with no pieces, or -/
import Derived.Test.YthodbeeglkedcaaDtap
import Derived.Test.YthodbeeglkedcaaRows
import Derived.ProofKit
import Derived.OpenShut
import Derived.JoinedCond
namespace Go.Proofs.Ythodbeeglkedcaa.Nm
open Go.RowKit
theorem cut_of_join (p i : List UInt8) (hp : ∀ c ∈ p, c ≠ 64) : Lib.cut (p ++ 64 :: i) [64] = (p, i, true) := by
  induction p with
  | nil => rw [List.nil_append, cut_cons, if_pos rfl]
  | cons c r ih =>
    rw [List.cons_append, cut_cons, if_neg (hp c (List.mem_cons_self ..)), ih fun d hd => hp d (List.mem_cons_of_mem _ hd)]
theorem cut_of_plain (p : List UInt8) (hp : ∀ c ∈ p, c ≠ 64) : Lib.cut p [64] = (p, [], false) := by
  induction p with
  | nil => exact cut_nil
  | cons c r ih =>
    rw [cut_cons, if_neg (hp c (List.mem_cons_self ..)), ih fun d hd => hp d (List.mem_cons_of_mem _ hd)]
theorem sfx_cases (k : Int) : k = 1 ∨ k = 2 ∨ k = 3 ∨ k = 4 ∨ sfx k = [] := by
  by_cases h : k = 1 ∨ k = 2 ∨ k = 3 ∨ k = 4
  · rcases h with h | h | h | h <;> simp [h]
  · have h1 : k ≠ 1 := fun e => h (.inl e)
    have h2 : k ≠ 2 := fun e => h (.inr (.inl e))
    have h3 : k ≠ 3 := fun e => h (.inr (.inr (.inl e)))
    have h4 : k ≠ 4 := fun e => h (.inr (.inr (.inr e)))
    simp [sfx, h1, h2, h3, h4]
theorem sfx_nopoint (k : Int) : ∀ c ∈ sfx k, c ≠ 46 := by
  rcases sfx_cases k with rfl | rfl | rfl | rfl | h
  · decide
  · decide
  · decide
  · decide
  · rw [h]; simp
theorem kindL_of_sfx (k : Int) (h : sfx k ≠ []) : kindL (sfx k) = k ∧ k ≠ 0 := by
  rcases sfx_cases k with rfl | rfl | rfl | rfl | h'
  · decide
  · decide
  · decide
  · decide
  · exact absurd h' h
theorem pt_of_split (s : ByteArray) (h t : List UInt8) (e : s.data.toList = h ++ 46 :: t) (ht : ∀ c ∈ t, c ≠ 46) : pt s = h.length := by
  have hs : s.data.toList.length = s.size := by simp
  have hl : s.size = h.length + (t.length + 1) := by rw [← hs, e]; simp
  have hat : ∀ j (hj : j < s.size), s.data[j]! = s.data.toList[j]'(by omega) := fun j hj => by
    rw [Array.getElem_toList, getElem!_pos s.data j (by simpa using hj)]
  have h46 : s.data[h.length]! = 46 := by
    rw [hat _ (by omega)]
    simp [e]
  rcases Lib.lastIndexByte_spec s 46 with ⟨_, hn⟩ | ⟨i, hi, hp, hc, hn⟩
  · exact absurd (by rw [h46]; rfl) (hn h.length (by omega))
  · unfold pt
    rw [hp]
    rcases Nat.lt_trichotomy i h.length with hlt | heq | hgt
    · exact absurd (by rw [h46]; rfl) (hn h.length hlt (by omega))
    · rw [heq]
    · exfalso
      have e1 : s.data[i]! = 46 := UInt8.toNat_inj.1 (by show _ = 46; omega)
      rw [hat i hi] at e1
      have e2 : s.data.toList[i]'(by omega) = t[i - h.length - 1]'(by omega) := by
        simp only [e]
        rw [List.getElem_append_right (by omega), List.getElem_cons]
        rw [dif_neg (by omega)]
      rw [e2] at e1
      exact ht _ (List.getElem_mem _) e1
theorem head_of_split (s : ByteArray) (h t : List UInt8) (e : s.data.toList = h ++ 46 :: t) (ht : ∀ c ∈ t, c ≠ 46) : headP s = str h ∧ tailP s = str t := by
  have hs : s.data.toList.length = s.size := by simp
  have hp := pt_of_split s h t e ht
  constructor
  · apply ext_list
    unfold headP
    rw [hp, Lib.extract_data, e]
    simp [str]
  · apply ext_list
    unfold tailP
    rw [hp, Lib.extract_data]
    rw [List.take_of_length_le (by rw [List.length_drop, hs]; omega), e]
    simp [str]
theorem body_no_at {l : List UInt8} (h : bodyL l = true) : ∀ c ∈ l, c ≠ 64 := by
  intro c hc e
  subst e
  unfold bodyL at h
  rw [List.all_eq_true] at h
  exact absurd (h 64 hc) (by decide)
theorem parse_join (p i : ByteArray) (a : Bool) (k : Int) (hp : p.data.toList ≠ []) (hbp : bodyL p.data.toList = true) (hbi : bodyL i.data.toList = true) (hai : a = false → i.data.toList = []) (hk : sfx k ≠ []) (hsz : (joinS p i a k).size ≤ 60) :
    goodP (joinS p i a k) = true ∧ preP (joinS p i a k) = p ∧ instP (joinS p i a k) = i ∧ atP (joinS p i a k) = a ∧ kindP (joinS p i a k) = k := by
  have hJ := joinS_list p i a k
  obtain ⟨h1, h2⟩ := head_of_split _ _ _ hJ (sfx_nopoint k)
  have hpt := pt_of_split _ _ _ hJ (sfx_nopoint k)
  obtain ⟨hkk, hk0⟩ := kindL_of_sfx k hk
  have hcut : cutAt (headP (joinS p i a k)) = (p.data.toList, i.data.toList, a) := by
    rw [h1]
    unfold cutAt
    cases a
    · rw [hai rfl]
      exact cut_of_plain _ (body_no_at hbp)
    · exact cut_of_join _ _ (body_no_at hbp)
  have hks : kindS (tailP (joinS p i a k)) = k := by rw [h2]; exact hkk
  have hg : goodP (joinS p i a k) = true := by
    unfold goodP
    rw [hcut, hks, hpt]
    simp only [Bool.and_eq_true, decide_eq_true_eq]
    exact ⟨hsz, by omega, hk0, hp, hbp, hbi⟩
  refine ⟨hg, ?_, ?_, ?_, ?_⟩
  · unfold preP; rw [if_pos hg, hcut]; exact str_data p
  · unfold instP; rw [if_pos hg, hcut]; exact str_data i
  · unfold atP; rw [if_pos hg, hcut]
  · unfold kindP; rw [if_pos hg, hks]
theorem parts_of (s : ByteArray) (h : goodP s = true) : (preP s).data.toList ≠ [] ∧ bodyL (preP s).data.toList = true ∧ bodyL (instP s).data.toList = true ∧ (atP s = false → (instP s).data.toList = []) ∧ sfx (kindP s) ≠ [] ∧ s.size ≤ 60 := by
  have hne := preP_ne s h
  unfold preP instP atP kindP at *
  rw [if_pos h] at hne
  rw [if_pos h, if_pos h, if_pos h, if_pos h]
  unfold goodP at h
  simp only [Bool.and_eq_true, decide_eq_true_eq] at h
  obtain ⟨h60, hpt, hk, hp, hb1, hb2⟩ := h
  refine ⟨hne, hb1, hb2, fun ha => ?_, ?_, h60⟩
  · exact cut_none _ ha
  · intro e
    have := kindL_sfx (tailP s).data.toList hk
    unfold kindS at e
    rw [e] at this
    unfold kindS at hk
    rw [← this] at hk
    exact hk (by decide)
end Go.Proofs.Ythodbeeglkedcaa.Nm
namespace Go.Proofs.Ythodbeeglkedcaa.Nm
open Go.RowKit Go.ChangeShapes Go.WideShapes Go.ChangeAt
open Go.ChangeMaps (open_string shut_string)
theorem not_good (s : ByteArray) (h : goodP s = false) : preP s = ⟨#[]⟩ ∧ instP s = ⟨#[]⟩ ∧ atP s = false := by
  unfold preP instP atP
  rw [if_neg (by rw [h]; simp), if_neg (by rw [h]; simp), if_neg (by rw [h]; simp)]
  exact ⟨rfl, rfl, rfl⟩
theorem post_below {H : Type} {enc : TypeId × Value → H} {P : Program} {f : Func} {s : ChangeSpec} {apart fresh handsOn again : Bool} {W W' : World} {args : Array Value} {v : Value} {ds gs : List (DataW H)} {before pa pv : List MemPlace}
    (hW : DataW.Whole enc P f.params.toList s.vars apart W args.toList ds gs before)
    (hres : ∀ (b : Nat) (sp : Nat → Bool) (hd : Bool), DataW.TrodAll enc P W' b sp hd f.resultTypes.toList (v.resultList f.resultTypes.size) (s.fn H (ds ++ gs)).results [])
    (hargs : ∀ sp : Nat → Bool, (∀ p ∈ before, sp p.block = true) → DataW.TrodAll enc P W' 0 sp true f.params.toList args.toList (s.fn H (ds ++ gs)).args pa)
    (hvars : ∀ sp : Nat → Bool, (∀ p ∈ before, sp p.block = true) → DataW.TrodVars enc P W' sp s.vars (s.fn H (ds ++ gs)).vars pv)
    (hps : before = pa ++ pv) (hb : Below W.heap.size W W')
    (hok : ∀ (j : Nat) (t : TypeId) (r : Value), f.resultTypes[j]? = some t → (v.resultList f.resultTypes.size)[j]? = some r → Value.okWide P W' .any 0 t r) :
    s.post enc P f apart fresh handsOn again W args v W' := by
  have hlt : ∀ p ∈ before, p.block < W.heap.size := fun p hp => hW.lt p hp
  have hold : ∀ p ∈ before, (fun b => decide (b < W.heap.size)) p.block = true := fun p hp => by simpa using hlt p hp
  refine ⟨ds, gs, before, [], pa, pv, hW, hres _ _ _, hargs _ hold, hvars _ hold, World.keptBut_mono (fun p hp => ⟨hp, ?_⟩) (hb.frame (· ∈ before)), fun _ => ?_⟩
  · rw [hps, List.mem_append] at hp
    exact Or.inr hp
  · obtain ⟨_, _, _, _, _, hz, hn⟩ := hW
    refine ⟨hok, _, _, ([] ++ pa) ++ pv, ⟨[] ++ pa, pv, trodAll_append (hargs _ (fun _ _ => rfl)) (hres _ _ _), hvars _ (fun _ _ => rfl), rfl, ?_, ?_⟩, ?_⟩
    · intro b off hp
      have hin : MemPlace.cell b off ∈ before := by rw [hps]; simpa using hp
      rw [hb.frozen (hlt _ hin)]
      exact hz b off hin
    · intro ha
      have := hn ha
      rw [hps] at this
      simpa using this
    · intro p hp _
      rw [hps]
      simpa using hp
namespace namePieces
theorem own : ownKnob Try.prog.godebug = none := by kernel_rfl
end namePieces
end Go.Proofs.Ythodbeeglkedcaa.Nm
namespace Go.Proofs.Ythodbeeglkedcaa.Nm
open Go.RowKit Go.ChangeShapes Go.WideShapes Go.ChangeAt
open Go.ChangeMaps (open_string shut_string)
theorem empty_str (s : ByteArray) : s.toList.isEmpty = true ↔ s.data.toList = [] := by rw [Lib.toList_data]; simp
theorem empty_str' (s : ByteArray) : s.toList.isEmpty = false ↔ s.data.toList ≠ [] := by
  rw [← Bool.not_eq_true, empty_str]
theorem size_list (s : ByteArray) : s.size = s.data.toList.length := Lib.size_eq s
theorem nil_empty : (⟨#[]⟩ : ByteArray).toList.isEmpty = true := by rw [empty_str]
theorem inst_good (s : ByteArray) (h : (instP s).toList.isEmpty = false) : goodP s = true ∧ atP s = true := by
  rcases hg : goodP s with _ | _
  · rw [(not_good s hg).2.1] at h
    rw [nil_empty] at h
    exact absurd h (by decide)
  · refine ⟨rfl, ?_⟩
    rcases ha : atP s with _ | _
    · have := (parts_of s hg).2.2.2.1 ha
      rw [empty_str'] at h
      exact absurd this h
    · rfl
theorem turn_tmpl (s : ByteArray) (h : (instP s).toList.isEmpty = false) :
    tmplS s = joinS (preP s) ⟨#[]⟩ true (kindP s) ∧ insOk (tmplS s) (instP s) = true ∧ insS (tmplS s) (instP s) = s ∧ tmplS (tmplS s) = ⟨#[]⟩ ∧ kindP (tmplS s) = kindP s := by
  obtain ⟨hg, ha⟩ := inst_good s h
  obtain ⟨hp, hbp, hbi, _, hk, h60⟩ := parts_of s hg
  have hj := join_parts s hg
  have ht : tmplS s = joinS (preP s) ⟨#[]⟩ true (kindP s) := by unfold tmplS; rw [if_neg (by rw [h]; simp), ha]
  have hsz : (joinS (preP s) ⟨#[]⟩ true (kindP s)).size ≤ 60 := by
    have e1 : s.size = (joinS (preP s) (instP s) (atP s) (kindP s)).size := by rw [hj]
    rw [size_list (joinS _ _ _ _), joinS_list, ha] at e1
    rw [size_list, joinS_list]
    simp at e1 ⊢
    omega
  obtain ⟨g1, g2, g3, g4, g5⟩ := parse_join (preP s) ⟨#[]⟩ true (kindP s) hp hbp rfl (fun _ => rfl) hk hsz
  have hins : insJ (joinS (preP s) ⟨#[]⟩ true (kindP s)) (instP s) = s := by unfold insJ; rw [g2, g4, g5]; rw [ha] at hj; exact hj
  have hok : insOk (joinS (preP s) ⟨#[]⟩ true (kindP s)) (instP s) = true := by
    unfold insOk
    rw [hins, g2, g3, g4, g5, hg, ha, h]
    simp
  rw [ht]
  refine ⟨rfl, hok, ?_, ?_, g5⟩
  · unfold insS; rw [if_pos hok, hins]
  · unfold tmplS; rw [if_pos (by rw [g3]; exact nil_empty)]
namespace nameTurn
theorem own : ownKnob Try.prog.godebug = none := by kernel_rfl
end nameTurn
end Go.Proofs.Ythodbeeglkedcaa.Nm
