/- The walk of package name's Escape. The walks of package name's hexByte and Unescape. The walks of the document's own sma -/
import Derived.Test.YthodbeeglkedcaaGreatDzap
import Derived.Laws.BitsAllLaws
import Derived.Laws.BitsLemmas
import Derived.Test.YthodbeeglkedcaaGreatRows
import Derived.ProofKit
import Derived.OpenShut
import Derived.JoinedCond
namespace Go.Proofs.YthodbeeglkedcaaGreat.Nm
open Go.RowKit
end Go.Proofs.YthodbeeglkedcaaGreat.Nm
namespace Go.Proofs.YthodbeeglkedcaaGreat.Nm
open Go.RowKit
end Go.Proofs.YthodbeeglkedcaaGreat.Nm
namespace Go.Proofs.YthodbeeglkedcaaGreat.Nm
open Go.RowKit
set_option maxHeartbeats 2000000 in
theorem rnameByte_any (c : Nat) (hc : c ≤ 255) (w : World) :
    Calls Tryz.prog 46 #[.int .u8 c] w fun e w' => e = .returned (.bool (bodyByte c)) ∧ w = w' := by
  have H : c ≤ 44 ∨ c = 45 ∨ c = 46 ∨ c = 47 ∨ (48 ≤ c ∧ c ≤ 57) ∨ c = 58 ∨ (59 ≤ c ∧ c ≤ 64) ∨ (65 ≤ c ∧ c ≤ 90) ∨ c = 91 ∨ c = 92 ∨ (93 ≤ c ∧ c ≤ 94) ∨ c = 95 ∨ c = 96 ∨ (97 ≤ c ∧ c ≤ 122) ∨ 123 ≤ c := by omega
  rcases H with h | rfl | rfl | rfl | ⟨h1, h2⟩ | rfl | ⟨h1, h2⟩ | ⟨h1, h2⟩ | rfl | rfl | ⟨h1, h2⟩ | rfl | rfl | ⟨h1, h2⟩ | h
  all_goals
    go_enter Tryz.func46, Tryz.ntmps46
    go_wp2
  all_goals try (exfalso; omega)
  all_goals go_ret
  all_goals (refine ⟨congrArg (fun b => Ending.returned (.bool b)) ?_, rfl⟩)
  all_goals first | rfl | (simp [bodyByte, plainB]; done) | (simp [bodyByte, plainB]; omega; done) | (rw [Bool.eq_iff_iff]; simp [bodyByte, plainB]; omega)
theorem rSuffix_any (k : Int) (w : World) :
    Calls Tryz.prog 45 #[.int .i64 k] w fun e w' => e = .returned (.string (str (sfx k))) ∧ w = w' := by
  have H : k = 1 ∨ k = 2 ∨ k = 3 ∨ k = 4 ∨ ((k == 1) = false ∧ (k == 2) = false ∧ (k == 3) = false ∧ (k == 4) = false) := by simp; omega
  rcases H with rfl | rfl | rfl | rfl | ⟨h1, h2, h3, h4⟩
  all_goals
    go_enter Tryz.func45, Tryz.ntmps45
    go_wp2
  all_goals go_ret
  all_goals (refine ⟨congrArg (fun b => Ending.returned (.string b)) ?_, rfl⟩)
  all_goals first | rfl | (simp at h1 h2 h3 h4; simp [sfx, h1, h2, h3, h4]; rfl)
end Go.Proofs.YthodbeeglkedcaaGreat.Nm
namespace Go.Proofs.YthodbeeglkedcaaGreat.Nm
open Go.RowKit
theorem drop_at (s : ByteArray) (k : Nat) (h : k < s.size) : s.data.toList.drop k = s[k] :: s.data.toList.drop (k + 1) := by
  rw [List.drop_eq_getElem_cons (by simpa using h)]; rfl
theorem tail_list (s : ByteArray) (k : Nat) : (s.extract (k + 1) s.size).data.toList = s.data.toList.drop (k + 1) := by
  rw [Lib.extract_data, List.take_of_length_le]
  rw [List.length_drop, Lib.size_eq]
  exact Nat.le_refl _
end Go.Proofs.YthodbeeglkedcaaGreat.Nm
namespace Go.Proofs.YthodbeeglkedcaaGreat.Nm
open Go.RowKit
theorem app_list (a b : ByteArray) : (a ++ b).data.toList = a.data.toList ++ b.data.toList := by rw [ByteArray.data_append, Array.toList_append]
theorem ext_list {a b : ByteArray} (h : a.data.toList = b.data.toList) : a = b := by rw [← str_data a, ← str_data b, h]
theorem joinS_list (p i : ByteArray) (a : Bool) (k : Int) : (joinS p i a k).data.toList = (if a = true then p.data.toList ++ 64 :: i.data.toList else p.data.toList) ++ 46 :: sfx k := by
  unfold joinS
  rw [app_list, app_list]
  cases a
  · simp [str]
  · simp [str]
theorem cut_nil : Lib.cut [] [64] = ([], [], false) := by decide
theorem cut_cons (c : UInt8) (r : List UInt8) : Lib.cut (c :: r) [64] = if c = 64 then ([], r, true) else (c :: (Lib.cut r [64]).1, (Lib.cut r [64]).2.1, (Lib.cut r [64]).2.2) := by
  have hg := Lib.index_ge r [64]
  by_cases h : c = 64
  · subst h
    simp [Lib.cut, Lib.index]
  · have h' : ([64].isPrefixOf (c :: r)) = false := by
      show ((64 : UInt8) == c && _) = false
      rw [beq_eq_false_iff_ne.2 (fun e => h e.symm)]; rfl
    rw [if_neg h]
    unfold Lib.cut
    rw [Lib.index, h']
    rw [if_neg Bool.false_ne_true]
    by_cases hi : Lib.index r [64] = -1
    · rw [hi]; rfl
    · have hi' : (Lib.index r [64] == -1) = false := by simpa using hi
      have h0 : 0 ≤ Lib.index r [64] := by omega
      rw [hi', if_neg Bool.false_ne_true]
      rw [if_pos (by omega), if_pos h0]
      have e1 : (Lib.index r [64] + 1).toNat = (Lib.index r [64]).toNat + 1 := by omega
      rw [e1]
      rfl
theorem cut_join (l : List UInt8) : (if (Lib.cut l [64]).2.2 = true then (Lib.cut l [64]).1 ++ 64 :: (Lib.cut l [64]).2.1 else (Lib.cut l [64]).1) = l := by
  induction l with
  | nil => rfl
  | cons c r ih =>
    rw [cut_cons]
    by_cases h : c = 64
    · simp [h]
    · simp only [if_neg h]
      cases ha : (Lib.cut r [64]).2.2
      · rw [ha] at ih; simpa using ih
      · rw [ha] at ih; simpa using ih
theorem cut_none (l : List UInt8) (h : (Lib.cut l [64]).2.2 = false) : (Lib.cut l [64]).2.1 = [] := by
  induction l with
  | nil => rfl
  | cons c r ih =>
    rw [cut_cons] at h ⊢
    by_cases hc : c = 64
    · simp [hc] at h
    · simp only [if_neg hc] at h ⊢
      exact ih h
theorem pt_split (s : ByteArray) (i : Nat) (hi : i < s.size) (h : pt s = i) : s.data.toList = (headP s).data.toList ++ 46 :: (tailP s).data.toList := by
  have hs : s.data.toList.length = s.size := by simp
  rcases Lib.lastIndexByte_spec s 46 with ⟨h', _⟩ | ⟨j, hj, h', hc, _⟩
  · unfold pt at h; omega
  · have e : j = i := by unfold pt at h; omega
    subst e
    have h1 : (headP s).data.toList = s.data.toList.take j := by
      unfold headP; rw [h, Lib.extract_data]; simp
    have h2 : (tailP s).data.toList = s.data.toList.drop (j + 1) := by
      unfold tailP
      rw [h, Lib.extract_data]
      rw [List.take_of_length_le (by rw [List.length_drop]; simp)]
      simp
    rw [h1, h2]
    have h3 : s.data.toList[j]'(by omega) = 46 := by
      apply UInt8.toNat_inj.1
      rw [Array.getElem_toList, ← getElem!_pos s.data j (by simpa using hj)]
      show _ = 46
      omega
    rw [← h3, ← List.drop_eq_getElem_cons, List.take_append_drop]
theorem kindL_sfx (l : List UInt8) (h : kindL l ≠ 0) : sfx (kindL l) = l := by
  unfold kindL at *
  split at h
  · rename_i h'; rw [if_pos h']; exact h'.symm
  · rename_i h1
    rw [if_neg h1] at *
    split at h
    · rename_i h'; rw [if_pos h']; exact h'.symm
    · rename_i h2
      rw [if_neg h2] at *
      split at h
      · rename_i h'; rw [if_pos h']; exact h'.symm
      · rename_i h3
        rw [if_neg h3] at *
        split at h
        · rename_i h'; rw [if_pos h']; exact h'.symm
        · exact absurd rfl h
theorem join_parts (s : ByteArray) (h : goodP s = true) : joinS (preP s) (instP s) (atP s) (kindP s) = s := by
  apply ext_list
  rw [joinS_list]
  unfold preP instP atP kindP
  rw [if_pos h, if_pos h, if_pos h, if_pos h]
  unfold goodP at h
  simp only [Bool.and_eq_true, decide_eq_true_eq] at h
  obtain ⟨_, hpt, hk, _⟩ := h
  rcases pt_cases s with h1 | ⟨i, hi, h1⟩
  · omega
  · rw [pt_split s i hi h1]
    have e1 : sfx (kindS (tailP s)) = (tailP s).data.toList := kindL_sfx _ hk
    have e2 := cut_join (headP s).data.toList
    rw [e1]
    congr 1
theorem preP_ne (s : ByteArray) (h : goodP s = true) : (preP s).data.toList ≠ [] := by
  unfold preP
  rw [if_pos h]
  unfold goodP at h
  simp only [Bool.and_eq_true, decide_eq_true_eq] at h
  exact h.2.2.2.1
end Go.Proofs.YthodbeeglkedcaaGreat.Nm
namespace Go.Proofs.YthodbeeglkedcaaGreat.Nm
open Go.RowKit
theorem cut_of_join (p i : List UInt8) (hp : ∀ c ∈ p, c ≠ 64) : Lib.cut (p ++ 64 :: i) [64] = (p, i, true) := by
  induction p with
  | nil => rw [List.nil_append, cut_cons, if_pos rfl]
  | cons c r ih =>
    rw [List.cons_append, cut_cons, if_neg (hp c (List.mem_cons_self ..)), ih fun d hd => hp d (List.mem_cons_of_mem _ hd)]
theorem cut_of_plain (p : List UInt8) (hp : ∀ c ∈ p, c ≠ 64) : Lib.cut p [64] = (p, [], false) := by
  induction p with
  | nil => exact cut_nil
  | cons c r ih =>
    rw [cut_cons, if_neg (hp c (List.mem_cons_self ..)), ih fun d hd => hp d (List.mem_cons_of_mem _ hd)]
theorem sfx_cases (k : Int) : k = 1 ∨ k = 2 ∨ k = 3 ∨ k = 4 ∨ sfx k = [] := by
  by_cases h : k = 1 ∨ k = 2 ∨ k = 3 ∨ k = 4
  · rcases h with h | h | h | h <;> simp [h]
  · have h1 : k ≠ 1 := fun e => h (.inl e)
    have h2 : k ≠ 2 := fun e => h (.inr (.inl e))
    have h3 : k ≠ 3 := fun e => h (.inr (.inr (.inl e)))
    have h4 : k ≠ 4 := fun e => h (.inr (.inr (.inr e)))
    simp [sfx, h1, h2, h3, h4]
theorem sfx_nopoint (k : Int) : ∀ c ∈ sfx k, c ≠ 46 := by
  rcases sfx_cases k with rfl | rfl | rfl | rfl | h
  · decide
  · decide
  · decide
  · decide
  · rw [h]; simp
theorem kindL_of_sfx (k : Int) (h : sfx k ≠ []) : kindL (sfx k) = k ∧ k ≠ 0 := by
  rcases sfx_cases k with rfl | rfl | rfl | rfl | h'
  · decide
  · decide
  · decide
  · decide
  · exact absurd h' h
theorem pt_of_split (s : ByteArray) (h t : List UInt8) (e : s.data.toList = h ++ 46 :: t) (ht : ∀ c ∈ t, c ≠ 46) : pt s = h.length := by
  have hs : s.data.toList.length = s.size := by simp
  have hl : s.size = h.length + (t.length + 1) := by rw [← hs, e]; simp
  have hat : ∀ j (hj : j < s.size), s.data[j]! = s.data.toList[j]'(by omega) := fun j hj => by
    rw [Array.getElem_toList, getElem!_pos s.data j (by simpa using hj)]
  have h46 : s.data[h.length]! = 46 := by
    rw [hat _ (by omega)]
    simp [e]
  rcases Lib.lastIndexByte_spec s 46 with ⟨_, hn⟩ | ⟨i, hi, hp, hc, hn⟩
  · exact absurd (by rw [h46]; rfl) (hn h.length (by omega))
  · unfold pt
    rw [hp]
    rcases Nat.lt_trichotomy i h.length with hlt | heq | hgt
    · exact absurd (by rw [h46]; rfl) (hn h.length hlt (by omega))
    · rw [heq]
    · exfalso
      have e1 : s.data[i]! = 46 := UInt8.toNat_inj.1 (by show _ = 46; omega)
      rw [hat i hi] at e1
      have e2 : s.data.toList[i]'(by omega) = t[i - h.length - 1]'(by omega) := by
        simp only [e]
        rw [List.getElem_append_right (by omega), List.getElem_cons]
        rw [dif_neg (by omega)]
      rw [e2] at e1
      exact ht _ (List.getElem_mem _) e1
theorem head_of_split (s : ByteArray) (h t : List UInt8) (e : s.data.toList = h ++ 46 :: t) (ht : ∀ c ∈ t, c ≠ 46) : headP s = str h ∧ tailP s = str t := by
  have hs : s.data.toList.length = s.size := by simp
  have hp := pt_of_split s h t e ht
  constructor
  · apply ext_list
    unfold headP
    rw [hp, Lib.extract_data, e]
    simp [str]
  · apply ext_list
    unfold tailP
    rw [hp, Lib.extract_data]
    rw [List.take_of_length_le (by rw [List.length_drop, hs]; omega), e]
    simp [str]
theorem body_no_at {l : List UInt8} (h : bodyL l = true) : ∀ c ∈ l, c ≠ 64 := by
  intro c hc e
  subst e
  unfold bodyL at h
  rw [List.all_eq_true] at h
  exact absurd (h 64 hc) (by decide)
theorem parse_join (p i : ByteArray) (a : Bool) (k : Int) (hp : p.data.toList ≠ []) (hbp : bodyL p.data.toList = true) (hbi : bodyL i.data.toList = true) (hai : a = false → i.data.toList = []) (hk : sfx k ≠ []) (hsz : (joinS p i a k).size ≤ 60) :
    goodP (joinS p i a k) = true ∧ preP (joinS p i a k) = p ∧ instP (joinS p i a k) = i ∧ atP (joinS p i a k) = a ∧ kindP (joinS p i a k) = k := by
  have hJ := joinS_list p i a k
  obtain ⟨h1, h2⟩ := head_of_split _ _ _ hJ (sfx_nopoint k)
  have hpt := pt_of_split _ _ _ hJ (sfx_nopoint k)
  obtain ⟨hkk, hk0⟩ := kindL_of_sfx k hk
  have hcut : cutAt (headP (joinS p i a k)) = (p.data.toList, i.data.toList, a) := by
    rw [h1]
    unfold cutAt
    cases a
    · rw [hai rfl]
      exact cut_of_plain _ (body_no_at hbp)
    · exact cut_of_join _ _ (body_no_at hbp)
  have hks : kindS (tailP (joinS p i a k)) = k := by rw [h2]; exact hkk
  have hg : goodP (joinS p i a k) = true := by
    unfold goodP
    rw [hcut, hks, hpt]
    simp only [Bool.and_eq_true, decide_eq_true_eq]
    exact ⟨hsz, by omega, hk0, hp, hbp, hbi⟩
  refine ⟨hg, ?_, ?_, ?_, ?_⟩
  · unfold preP; rw [if_pos hg, hcut]; exact str_data p
  · unfold instP; rw [if_pos hg, hcut]; exact str_data i
  · unfold atP; rw [if_pos hg, hcut]
  · unfold kindP; rw [if_pos hg, hks]
theorem parts_of (s : ByteArray) (h : goodP s = true) : (preP s).data.toList ≠ [] ∧ bodyL (preP s).data.toList = true ∧ bodyL (instP s).data.toList = true ∧ (atP s = false → (instP s).data.toList = []) ∧ sfx (kindP s) ≠ [] ∧ s.size ≤ 60 := by
  have hne := preP_ne s h
  unfold preP instP atP kindP at *
  rw [if_pos h] at hne
  rw [if_pos h, if_pos h, if_pos h, if_pos h]
  unfold goodP at h
  simp only [Bool.and_eq_true, decide_eq_true_eq] at h
  obtain ⟨h60, hpt, hk, hp, hb1, hb2⟩ := h
  refine ⟨hne, hb1, hb2, fun ha => ?_, ?_, h60⟩
  · exact cut_none _ ha
  · intro e
    have := kindL_sfx (tailP s).data.toList hk
    unfold kindS at e
    rw [e] at this
    unfold kindS at hk
    rw [← this] at hk
    exact hk (by decide)
end Go.Proofs.YthodbeeglkedcaaGreat.Nm
namespace Go.Proofs.YthodbeeglkedcaaGreat.Nm
open Go.RowKit
theorem more {a w w2 : World} (h : Below a.heap.size a w) (h2 : Below w.heap.size w w2) : Below a.heap.size a w2 := h.trans (h2.mono h.size)
end Go.Proofs.YthodbeeglkedcaaGreat.Nm
namespace Go.Proofs.YthodbeeglkedcaaGreat.Nm
open Go.RowKit Go.ChangeShapes Go.WideShapes Go.ChangeAt
open Go.ChangeMaps (open_string shut_string)
theorem not_good (s : ByteArray) (h : goodP s = false) : preP s = ⟨#[]⟩ ∧ instP s = ⟨#[]⟩ ∧ atP s = false := by
  unfold preP instP atP
  rw [if_neg (by rw [h]; simp), if_neg (by rw [h]; simp), if_neg (by rw [h]; simp)]
  exact ⟨rfl, rfl, rfl⟩
theorem post_below {H : Type} {enc : TypeId × Value → H} {P : Program} {f : Func} {s : ChangeSpec} {apart fresh handsOn again : Bool} {W W' : World} {args : Array Value} {v : Value} {ds gs : List (DataW H)} {before pa pv : List MemPlace}
    (hW : DataW.Whole enc P f.params.toList s.vars apart W args.toList ds gs before)
    (hres : ∀ (b : Nat) (sp : Nat → Bool) (hd : Bool), DataW.TrodAll enc P W' b sp hd f.resultTypes.toList (v.resultList f.resultTypes.size) (s.fn H (ds ++ gs)).results [])
    (hargs : ∀ sp : Nat → Bool, (∀ p ∈ before, sp p.block = true) → DataW.TrodAll enc P W' 0 sp true f.params.toList args.toList (s.fn H (ds ++ gs)).args pa)
    (hvars : ∀ sp : Nat → Bool, (∀ p ∈ before, sp p.block = true) → DataW.TrodVars enc P W' sp s.vars (s.fn H (ds ++ gs)).vars pv)
    (hps : before = pa ++ pv) (hb : Below W.heap.size W W')
    (hok : ∀ (j : Nat) (t : TypeId) (r : Value), f.resultTypes[j]? = some t → (v.resultList f.resultTypes.size)[j]? = some r → Value.okWide P W' .any 0 t r) :
    s.post enc P f apart fresh handsOn again W args v W' := by
  have hlt : ∀ p ∈ before, p.block < W.heap.size := fun p hp => hW.lt p hp
  have hold : ∀ p ∈ before, (fun b => decide (b < W.heap.size)) p.block = true := fun p hp => by simpa using hlt p hp
  refine ⟨ds, gs, before, [], pa, pv, hW, hres _ _ _, hargs _ hold, hvars _ hold, World.keptBut_mono (fun p hp => ⟨hp, ?_⟩) (hb.frame (· ∈ before)), fun _ => ?_⟩
  · rw [hps, List.mem_append] at hp
    exact Or.inr hp
  · obtain ⟨_, _, _, _, _, hz, hn⟩ := hW
    refine ⟨hok, _, _, ([] ++ pa) ++ pv, ⟨[] ++ pa, pv, trodAll_append (hargs _ (fun _ _ => rfl)) (hres _ _ _), hvars _ (fun _ _ => rfl), rfl, ?_, ?_⟩, ?_⟩
    · intro b off hp
      have hin : MemPlace.cell b off ∈ before := by rw [hps]; simpa using hp
      rw [hb.frozen (hlt _ hin)]
      exact hz b off hin
    · intro ha
      have := hn ha
      rw [hps] at this
      simpa using this
    · intro p hp _
      rw [hps]
      simpa using hp
namespace namePieces
theorem own : ownKnob Tryz.prog.godebug = none := by kernel_rfl
end namePieces
end Go.Proofs.YthodbeeglkedcaaGreat.Nm
namespace Go.Proofs.YthodbeeglkedcaaGreat.Nm
open Go.RowKit Go.ChangeShapes Go.WideShapes Go.ChangeAt
open Go.ChangeMaps (open_string shut_string)
theorem empty_str (s : ByteArray) : s.toList.isEmpty = true ↔ s.data.toList = [] := by rw [Lib.toList_data]; simp
theorem empty_str' (s : ByteArray) : s.toList.isEmpty = false ↔ s.data.toList ≠ [] := by
  rw [← Bool.not_eq_true, empty_str]
theorem size_list (s : ByteArray) : s.size = s.data.toList.length := Lib.size_eq s
theorem nil_empty : (⟨#[]⟩ : ByteArray).toList.isEmpty = true := by rw [empty_str]
theorem inst_good (s : ByteArray) (h : (instP s).toList.isEmpty = false) : goodP s = true ∧ atP s = true := by
  rcases hg : goodP s with _ | _
  · rw [(not_good s hg).2.1] at h
    rw [nil_empty] at h
    exact absurd h (by decide)
  · refine ⟨rfl, ?_⟩
    rcases ha : atP s with _ | _
    · have := (parts_of s hg).2.2.2.1 ha
      rw [empty_str'] at h
      exact absurd this h
    · rfl
theorem turn_tmpl (s : ByteArray) (h : (instP s).toList.isEmpty = false) :
    tmplS s = joinS (preP s) ⟨#[]⟩ true (kindP s) ∧ insOk (tmplS s) (instP s) = true ∧ insS (tmplS s) (instP s) = s ∧ tmplS (tmplS s) = ⟨#[]⟩ ∧ kindP (tmplS s) = kindP s := by
  obtain ⟨hg, ha⟩ := inst_good s h
  obtain ⟨hp, hbp, hbi, _, hk, h60⟩ := parts_of s hg
  have hj := join_parts s hg
  have ht : tmplS s = joinS (preP s) ⟨#[]⟩ true (kindP s) := by unfold tmplS; rw [if_neg (by rw [h]; simp), ha]
  have hsz : (joinS (preP s) ⟨#[]⟩ true (kindP s)).size ≤ 60 := by
    have e1 : s.size = (joinS (preP s) (instP s) (atP s) (kindP s)).size := by rw [hj]
    rw [size_list (joinS _ _ _ _), joinS_list, ha] at e1
    rw [size_list, joinS_list]
    simp at e1 ⊢
    omega
  obtain ⟨g1, g2, g3, g4, g5⟩ := parse_join (preP s) ⟨#[]⟩ true (kindP s) hp hbp rfl (fun _ => rfl) hk hsz
  have hins : insJ (joinS (preP s) ⟨#[]⟩ true (kindP s)) (instP s) = s := by unfold insJ; rw [g2, g4, g5]; rw [ha] at hj; exact hj
  have hok : insOk (joinS (preP s) ⟨#[]⟩ true (kindP s)) (instP s) = true := by
    unfold insOk
    rw [hins, g2, g3, g4, g5, hg, ha, h]
    simp
  rw [ht]
  refine ⟨rfl, hok, ?_, ?_, g5⟩
  · unfold insS; rw [if_pos hok, hins]
  · unfold tmplS; rw [if_pos (by rw [g3]; exact nil_empty)]
namespace nameTurn
theorem own : ownKnob Tryz.prog.godebug = none := by kernel_rfl
end nameTurn
end Go.Proofs.YthodbeeglkedcaaGreat.Nm
