/- The walks of the developers' fullForm and takeWord. Sorted and compacted: the days in their order, each once. strings.Sp -/
import Derived.Test.YtncolcjejgmhjaaGreatDoorCxae
import Derived.Test.YtncolcjejgmhjaaGreatDoorCxaw
import Derived.Test.YtncolcjejgmhjaaGreatDoorCxak
import Derived.Test.YtncolcjejgmhjaaGreatDoorCxax
import Derived.Test.YtncolcjejgmhjaaGreatDoorCxbb
import Derived.Lib.SplitLaws
namespace Go.Proofs.YtncolcjejgmhjaaGreatDoor
open Go.RowKit
set_option maxHeartbeats 2000000 in
theorem fullForm_any (s : ByteArray) (w : World) :
    Calls Tryz.prog 32 #[.string s] w fun e w' => e = .returned (.string (str (shortL s.data.toList))) ∧ w = w' := by
  by_cases h0 : s = str [109, 105, 110, 117, 116, 101, 108, 121]
  · have H := Lib.hid (show shortL s.data.toList = shortL [109, 105, 110, 117, 116, 101, 108, 121] by rw [h0]; rfl)
    have e0 := is_beq h0
    clear h0
    go_enter Tryz.func32, Tryz.ntmps32
    go_wp2_with fail
    go_ret
    exact ⟨ret_str (by rw [H.out]; rfl), rfl⟩
  by_cases h1 : s = str [104, 111, 117, 114, 108, 121]
  · have H := Lib.hid (show shortL s.data.toList = shortL [104, 111, 117, 114, 108, 121] by rw [h1]; rfl)
    have e0 := ne_beq h0
    have e1 := is_beq h1
    clear h0 h1
    go_enter Tryz.func32, Tryz.ntmps32
    go_wp2_with fail
    go_ret
    exact ⟨ret_str (by rw [H.out]; rfl), rfl⟩
  by_cases h2 : s = str [100, 97, 105, 108, 121]
  · have H := Lib.hid (show shortL s.data.toList = shortL [100, 97, 105, 108, 121] by rw [h2]; rfl)
    have e0 := ne_beq h0
    have e1 := ne_beq h1
    have e2 := is_beq h2
    clear h0 h1 h2
    go_enter Tryz.func32, Tryz.ntmps32
    go_wp2_with fail
    go_ret
    exact ⟨ret_str (by rw [H.out]; rfl), rfl⟩
  by_cases h3 : s = str [119, 101, 101, 107, 108, 121]
  · have H := Lib.hid (show shortL s.data.toList = shortL [119, 101, 101, 107, 108, 121] by rw [h3]; rfl)
    have e0 := ne_beq h0
    have e1 := ne_beq h1
    have e2 := ne_beq h2
    have e3 := is_beq h3
    clear h0 h1 h2 h3
    go_enter Tryz.func32, Tryz.ntmps32
    go_wp2_with fail
    go_ret
    exact ⟨ret_str (by rw [H.out]; rfl), rfl⟩
  by_cases h4 : s = str [109, 111, 110, 116, 104, 108, 121]
  · have H := Lib.hid (show shortL s.data.toList = shortL [109, 111, 110, 116, 104, 108, 121] by rw [h4]; rfl)
    have e0 := ne_beq h0
    have e1 := ne_beq h1
    have e2 := ne_beq h2
    have e3 := ne_beq h3
    have e4 := is_beq h4
    clear h0 h1 h2 h3 h4
    go_enter Tryz.func32, Tryz.ntmps32
    go_wp2_with fail
    go_ret
    exact ⟨ret_str (by rw [H.out]; rfl), rfl⟩
  by_cases h5 : s = str [121, 101, 97, 114, 108, 121]
  · have H := Lib.hid (show shortL s.data.toList = shortL [121, 101, 97, 114, 108, 121] by rw [h5]; rfl)
    have e0 := ne_beq h0
    have e1 := ne_beq h1
    have e2 := ne_beq h2
    have e3 := ne_beq h3
    have e4 := ne_beq h4
    have e5 := is_beq h5
    clear h0 h1 h2 h3 h4 h5
    go_enter Tryz.func32, Tryz.ntmps32
    go_wp2_with fail
    go_ret
    exact ⟨ret_str (by rw [H.out]; rfl), rfl⟩
  have H : Hid (shortL s.data.toList = s.data.toList) := by
    show _ = _
    unfold shortL
    rw [if_neg (fun e => h0 (eq_str.2 e))]
    rw [if_neg (fun e => h1 (eq_str.2 e))]
    rw [if_neg (fun e => h2 (eq_str.2 e))]
    rw [if_neg (fun e => h3 (eq_str.2 e))]
    rw [if_neg (fun e => h4 (eq_str.2 e))]
    rw [if_neg (fun e => h5 (eq_str.2 e))]
  have e0 := ne_beq h0
  have e1 := ne_beq h1
  have e2 := ne_beq h2
  have e3 := ne_beq h3
  have e4 := ne_beq h4
  have e5 := ne_beq h5
  clear h0 h1 h2 h3 h4 h5
  go_enter Tryz.func32, Tryz.ntmps32
  go_wp2_with fail
  go_ret
  exact ⟨ret_str (by rw [H.out, str_data]), rfl⟩
def WordsAt (w : World) (B : Nat) (A : Option Addr) (n : Nat) (l : List (List UInt8)) : Prop := l.length = n ∧ n ≤ maxLen ∧ Reads w B 1 A n (wcells l)
theorem WordsAt.below {w w' : World} {B n : Nat} {A : Option Addr} {l : List (List UInt8)} (h : WordsAt w B A n l) (hb : Below B w w') : WordsAt w' B A n l := ⟨h.1, h.2.1, h.2.2.below hb⟩
theorem WordsAt.wide {w : World} {B B' n : Nat} {A : Option Addr} {l : List (List UInt8)} (h : WordsAt w B A n l) (hB : B ≤ B') : WordsAt w B' A n l := ⟨h.1, h.2.1, h.2.2.wide hB⟩
theorem WordsAt.at_ {w : World} {B n : Nat} {A : Option Addr} {l : List (List UInt8)} (h : WordsAt w B A n l) {k : Nat} (hk : k < n) : ∃ ad x, A = some ad ∧ ad.block < B ∧ l[k]? = some x ∧ w.cell? (ad.add k) = some (.string (str x)) := by
  obtain ⟨h1, _, h3⟩ := h
  obtain ⟨ad, e, hb, hc⟩ := h3.2 (by omega)
  have hl : k < l.length := by omega
  refine ⟨ad, l[k], e, hb, List.getElem?_eq_getElem hl, hc k _ ?_⟩
  unfold wcells
  rw [List.getElem?_map, List.getElem?_eq_getElem hl]; rfl
def TakeP (b : UInt8) (miss : List UInt8) (l : List (List UInt8)) (B : Nat) (w : World) (e : Ending) (w' : World) : Prop :=
  ∃ (A : Option Addr) (n c : Nat), e = .returned (.tuple #[.string (str (takeD b miss l).1), .slice A n c]) ∧ n ≤ c ∧ WordsAt w' B A n (takeD b miss l).2 ∧ Below w.heap.size w w'
set_option maxHeartbeats 2000000 in
theorem takeWord_any (b : UInt8) (miss : ByteArray) (l : List (List UInt8)) (A : Option Addr) (n c B : Nat) (hc : n ≤ c) (w : World) (h : WordsAt w B A n l) (hB : B ≤ w.heap.size) :
    Calls Tryz.prog 51 #[.slice A n c, .string ⟨#[b]⟩, .string miss] w (TakeP b miss.data.toList l B w) := by
  have h1 := h.1
  cases l with
  | nil =>
    have hn : n = 0 := h1.symm
    subst hn
    go_enter Tryz.func51, Tryz.ntmps51
    go_wp2_with fail
    go_ret2
    exact ⟨A, 0, c, by rw [takeD, str_data]; rfl, hc, h, Below.refl _ _⟩
  | cons x l =>
    have hn : 0 < n := by rw [← h1]; simp
    obtain ⟨ad, x', e, hb, hx, c0⟩ := h.at_ hn
    have hx : x = x' := by simpa using hx
    subst hx e
    have e0 : ad.add 0 = ad := by unfold Addr.add; split <;> simp_all
    rw [e0] at c0
    have H := Lib.hid h
    clear h h1
    by_cases hm : b ∈ x
    · have HD : Hid (decide (0 ≤ Lib.indexByte (str x).data.toList b) = true) := by show _ = _; rw [has_byte]; exact decide_eq_true hm
      have HT : Hid (takeD b miss.data.toList (x :: l) = (x, l)) := by show _ = _; rw [takeD, if_pos hm]
      clear hm
      go_enter Tryz.func51, Tryz.ntmps51
      go_wp2_with (go_at_call 65; refine (Tryz.strings_Contains_one (str x) b _).mono ?_; rintro e w' ⟨rfl, rfl⟩; rw [HD.out])
      go_region
      all_goals go_wp2
      all_goals go_ret2
      rotate_left
      · refine ⟨some ⟨ad.block, ad.off + 1, none⟩, n - 1, c - 1, by rw [HT.out]; rfl, by omega, ?_, (Below.refl _ _).drew⟩
        rw [HT.out]
        obtain ⟨q1, q2, q3⟩ := H.out
        have q1 : l.length = n - 1 := by rw [List.length_cons] at q1; omega
        refine ⟨q1, by omega, by simp [wcells, q1], fun _ => ⟨_, rfl, hb, fun j u hj => ?_⟩⟩
        obtain ⟨ad', e, _, hcc⟩ := q3.2 hn
        cases e
        have h9 := hcc (j + 1) u (by simpa [wcells] using hj)
        have e1 : (⟨ad.block, ad.off + 1, none⟩ : Addr).add j = ad.add (j + 1) := by
          unfold Addr.add
          split <;> simp_all <;> omega
        rw [e1]; exact h9
      · have hn1 : n - 1 = 0 := by omega
        refine ⟨some ad, n - 1, 0, by rw [HT.out]; rfl, by omega, ?_, (Below.refl _ _).drew⟩
        rw [HT.out, hn1]
        have q1 := H.out.1
        have q1 : l = [] := by rw [List.length_cons] at q1; exact List.length_eq_zero_iff.1 (by omega)
        rw [q1]
        exact ⟨rfl, by omega, by simp [wcells], fun h => absurd h (by omega)⟩
    · have HD : Hid (decide (0 ≤ Lib.indexByte (str x).data.toList b) = false) := by show _ = _; rw [has_byte]; exact decide_eq_false hm
      have HT : Hid (takeD b miss.data.toList (x :: l) = (miss.data.toList, x :: l)) := by show _ = _; rw [takeD, if_neg hm]
      clear hm
      go_enter Tryz.func51, Tryz.ntmps51
      go_wp2_with (go_at_call 65; refine (Tryz.strings_Contains_one (str x) b _).mono ?_; rintro e w' ⟨rfl, rfl⟩; rw [HD.out])
      go_ret2
      refine ⟨some ad, n, c, ?_, hc, ?_, Below.refl _ _⟩
      · rw [HT.out, str_data]; rfl
      · rw [HT.out]; exact H.out
end Go.Proofs.YtncolcjejgmhjaaGreatDoor
namespace Go.Proofs.YtncolcjejgmhjaaGreatDoor
open Go.RowKit
theorem cut_facts (d : Array Int) (hs : ∀ j, j + 1 < d.size → d[j]! ≤ d[j + 1]!) (m : Nat) (hm : m ≤ d.size) :
    (Lib.compactUpTo d m).Pairwise (· < ·) ∧ (∀ x ∈ Lib.compactUpTo d m, 0 < m → x ≤ d[m - 1]!) ∧ (∀ x, x ∈ Lib.compactUpTo d m ↔ ∃ j, j < m ∧ d[j]! = x) := by
  induction m with
  | zero =>
    have e : Lib.compactUpTo d 0 = [] := rfl
    rw [e]
    exact ⟨List.Pairwise.nil, by simp, by simp⟩
  | succ m ih =>
    obtain ⟨h1, h2, h3⟩ := ih (by omega)
    rw [Lib.compactUpTo_succ]
    by_cases hk : Lib.keeps d m = true
    · rw [if_pos hk]
      have hlt : ∀ x ∈ Lib.compactUpTo d m, x < d[m]! := by
        intro x hx
        rcases Nat.eq_zero_or_pos m with h0 | h0
        · obtain ⟨j, hj, _⟩ := (h3 x).1 hx
          omega
        · have a := h2 x hx h0
          have b := hs (m - 1) (by omega)
          rw [show m - 1 + 1 = m by omega] at b
          have c : d[m]! ≠ d[m - 1]! := by
            intro e
            rw [Lib.keeps_neg h0 e] at hk
            cases hk
          omega
      refine ⟨?_, ?_, ?_⟩
      · rw [List.pairwise_append]
        refine ⟨h1, List.pairwise_singleton _ _, ?_⟩
        intro a ha b hb
        rw [List.mem_singleton] at hb
        rw [hb]; exact hlt a ha
      · intro x hx _
        rw [Nat.add_sub_cancel]
        rw [List.mem_append, List.mem_singleton] at hx
        rcases hx with hx | hx
        · have := hlt x hx; omega
        · omega
      · intro x
        rw [List.mem_append, List.mem_singleton, h3]
        constructor
        · rintro (⟨j, hj, e⟩ | e)
          · exact ⟨j, by omega, e⟩
          · exact ⟨m, by omega, e.symm⟩
        · rintro ⟨j, hj, e⟩
          by_cases hjm : j = m
          · rw [hjm] at e; exact .inr e.symm
          · exact .inl ⟨j, by omega, e⟩
    · rw [if_neg hk, List.append_nil]
      have hm0 : 0 < m := by
        rcases Nat.eq_zero_or_pos m with h0 | h0
        · exfalso; apply hk; rw [h0]; simp [Lib.keeps]
        · exact h0
      have e : d[m]! = d[m - 1]! := by
        apply Classical.byContradiction
        intro hne
        exact hk (Lib.keeps_pos hne)
      refine ⟨h1, ?_, ?_⟩
      · intro x hx _
        rw [Nat.add_sub_cancel, e]
        exact h2 x hx hm0
      · intro x
        rw [h3]
        constructor
        · rintro ⟨j, hj, e⟩; exact ⟨j, by omega, e⟩
        · rintro ⟨j, hj, e'⟩
          by_cases hjm : j = m
          · rw [hjm, e] at e'; exact ⟨m - 1, by omega, e'⟩
          · exact ⟨j, by omega, e'⟩
theorem rises_of {ds : List Int} {x : Int} (hp : ds.Pairwise (· < ·)) (h : ∀ d ∈ ds, x < d ∧ d ≤ 7) : risesB x ds = true := by
  induction ds generalizing x with
  | nil => rfl
  | cons d r ih =>
    rw [List.pairwise_cons] at hp
    rw [risesB]
    have h1 := h d (by simp)
    rw [Bool.and_eq_true]
    refine ⟨decide_eq_true h1, ih hp.2 fun e he => ⟨hp.1 e he, (h e (by simp [he])).2⟩⟩
def tidy (xs : List Int) : List Int := Lib.compact (xs.mergeSort fun x y => decide (x ≤ y))
theorem tidy_facts (xs : List Int) : (tidy xs).Pairwise (· < ·) ∧ ∀ x, x ∈ tidy xs ↔ x ∈ xs := by
  have hsort : (xs.mergeSort fun x y => decide (x ≤ y)).Pairwise (fun a b => decide (a ≤ b) = true) :=
    List.pairwise_mergeSort (fun a b c h1 h2 => by simp at *; omega) (fun a b => by simp; omega) xs
  have hmem : ∀ x, x ∈ (xs.mergeSort fun x y => decide (x ≤ y)) ↔ x ∈ xs := fun x => List.mem_mergeSort
  unfold tidy
  generalize (xs.mergeSort fun x y => decide (x ≤ y)) = l at *
  have hd : ∀ j, (h : j < l.length) → l.toArray[j]! = l[j] := fun j h => by simp [h]
  obtain ⟨h1, _, h3⟩ := cut_facts l.toArray (fun j hj => by
    have hj : j + 1 < l.length := by simpa using hj
    rw [hd j (by omega), hd (j + 1) hj]
    have := List.pairwise_iff_getElem.1 hsort j (j + 1) (by omega) hj (by omega)
    simpa using this) l.length (by simp)
  refine ⟨h1, fun x => ?_⟩
  unfold Lib.compact
  rw [h3, ← hmem, List.mem_iff_getElem]
  constructor
  · rintro ⟨j, hj, e⟩
    rw [hd j hj] at e
    exact ⟨j, hj, e⟩
  · rintro ⟨j, hj, e⟩
    exact ⟨j, hj, by rw [hd j hj]; exact e⟩
end Go.Proofs.YtncolcjejgmhjaaGreatDoor
namespace Go.Proofs.YtncolcjejgmhjaaGreatDoor
open Go.RowKit
theorem sgo_noneB {b : UInt8} (l w : List UInt8) (h : ∀ c ∈ l, c ≠ b) : sgo b w l = [w ++ l] := by
  induction l generalizing w with
  | nil => simp [sgo]
  | cons c l ih =>
    rw [sgo, if_neg (h c (by simp)), ih _ (fun x hx => h x (by simp [hx]))]
    simp
theorem sgo_someB {b : UInt8} (a r w : List UInt8) (h : ∀ c ∈ a, c ≠ b) : sgo b w (a ++ b :: r) = (w ++ a) :: sgo b [] r := by
  induction a generalizing w with
  | nil => simp [sgo]
  | cons c a ih =>
    rw [List.cons_append, sgo, if_neg (h c (by simp)), ih _ (fun x hx => h x (by simp [hx]))]
    simp
def piecesB (b : UInt8) (s : ByteArray) : List ByteArray := (sgo b [] s.data.toList).map str
theorem pieces_noneB {b : UInt8} {s : ByteArray} (h : Lib.indexByte s.data.toList b = -1) : piecesB b s = [s] := by
  have h1 := Lib.indexByte_none h
  unfold piecesB
  rw [sgo_noneB _ _ (fun c hc e => by
    obtain ⟨k, hk, rfl⟩ := List.getElem_of_mem hc
    exact h1 k (by rw [List.getElem?_eq_getElem hk, e]))]
  simp [str_data]
theorem pieces_someB {b : UInt8} {s : ByteArray} {i : Nat} (h : Lib.indexByte s.data.toList b = i) : i < s.size ∧ piecesB b s = s.extract 0 i :: piecesB b (s.extract (i + 1) s.size) := by
  obtain ⟨h1, h2⟩ := Lib.indexByte_some h
  obtain ⟨hi, h3⟩ := List.getElem?_eq_some_iff.1 h1
  have hi' : i < s.size := by simpa using hi
  refine ⟨hi', ?_⟩
  unfold piecesB
  have e : s.data.toList = s.data.toList.take i ++ b :: s.data.toList.drop (i + 1) := by
    conv => lhs; rw [← List.take_append_drop i s.data.toList, List.drop_eq_getElem_cons hi, h3]
  rw [tail_list]
  conv => lhs; rw [e]
  rw [sgo_someB _ _ _ (fun c hc e => by
    obtain ⟨k, hk, rfl⟩ := List.getElem_of_mem hc
    have hk' : k < i := by rw [List.length_take] at hk; omega
    refine h2 k hk' ?_
    rw [List.getElem_take] at e
    rw [List.getElem?_eq_getElem (by omega), e])]
  rw [List.map_cons, List.nil_append]
  congr 1
  refine (eq_str.2 ?_).symm
  rw [Lib.extract_data]
  simp
theorem indexB_one (s : ByteArray) (b : UInt8) : Lib.indexB s ⟨#[b]⟩ = Lib.indexByte s.data.toList b := Lib.index_one s.data.toList b
theorem split_oneB (b : UInt8) : ∀ (k : Nat) (s : ByteArray), Lib.countB s ⟨#[b]⟩ = k → Lib.splitB ⟨#[b]⟩ 0 k s = piecesB b s
  | 0, s, hk => by
    rcases Lib.indexB_cases s ⟨#[b]⟩ with hix | ⟨i, hix, hroom⟩
    · rw [Lib.splitB_miss _ _ _ _ hix, pieces_noneB (by rw [← indexB_one]; exact hix)]
    · have := Lib.countB_hit s ⟨#[b]⟩ i (Nat.le_refl 1) hix
      omega
  | k + 1, s, hk => by
    rcases Lib.indexB_cases s ⟨#[b]⟩ with hix | ⟨i, hix, hroom⟩
    · rw [Lib.countB_miss s _ hix] at hk; omega
    · rw [Lib.splitB_hit _ _ k s i hix, (pieces_someB (by rw [← indexB_one]; exact hix)).2]
      have hc := Lib.countB_hit s ⟨#[b]⟩ i (Nat.le_refl 1) hix
      have e1 : (⟨#[b]⟩ : ByteArray).size = 1 := rfl
      rw [e1] at hc ⊢
      rw [split_oneB b k _ (by omega), Nat.add_zero]
theorem split_count (s : ByteArray) (b : UInt8) : Lib.countB s ⟨#[b]⟩ + 1 = (splitL b s.data.toList).length := by
  have h := Lib.splitB_all ⟨#[b]⟩ (Nat.le_refl 1) 0 _ s rfl
  rw [split_oneB b _ s rfl] at h
  unfold piecesB at h
  rw [List.length_map] at h
  exact h.symm
theorem splitAt_any (b : UInt8) (s : ByteArray) (hs : s.size ≤ 4194304) (m : Int) (w : World) (hm : w.cell? ⟨3, 0, none⟩ = some (.int .i64 m)) :
    Calls Tryz.prog 49 #[.string s, .string ⟨#[b]⟩] w fun e w' => e = .returned (.slice (some ⟨w.heap.size, 0, none⟩) (splitL b s.data.toList).length (splitL b s.data.toList).length) ∧ w' = w.alloc (.cells (wcells (splitL b s.data.toList)).toArray 9) := by
  refine (Tryz.strings_Split s ⟨#[b]⟩ m w (by omega) hm (Nat.le_refl 1)).mono ?_
  rintro e w' ⟨rfl, rfl⟩
  rw [split_count, split_oneB b _ s rfl]
  refine ⟨rfl, ?_⟩
  unfold piecesB wcells splitL
  rw [List.map_map]
  rfl
theorem words_new (l : List (List UInt8)) (w : World) (hl : l.length ≤ maxLen) : WordsAt (w.alloc (.cells (wcells l).toArray 9)) (w.heap.size + 1) (some ⟨w.heap.size, 0, none⟩) l.length l := by
  refine ⟨rfl, hl, by simp [wcells], fun _ => ⟨_, rfl, Nat.lt_succ_self _, fun j u hj => ?_⟩⟩
  have e : (⟨w.heap.size, 0, none⟩ : Addr).add j = ⟨w.heap.size, j, none⟩ := by unfold Addr.add; split <;> simp_all
  rw [e, (Blk.new w 9 (wcells l).toArray).cell j]
  simpa using hj
end Go.Proofs.YtncolcjejgmhjaaGreatDoor
