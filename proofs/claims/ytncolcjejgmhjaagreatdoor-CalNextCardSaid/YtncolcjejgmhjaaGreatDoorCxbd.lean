/- The walk of the developers' parseFields. -/
import Derived.Test.YtncolcjejgmhjaaGreatDoorCxbc
import Derived.Test.YtncolcjejgmhjaaGreatDoorCxbb
import Derived.Test.YtncolcjejgmhjaaGreatDoorCxau
namespace Go.Proofs.YtncolcjejgmhjaaGreatDoor
open Go.RowKit
theorem partsL_D (l : List UInt8) : partsL l = mapO partD (splitL 44 l) := by
  unfold partsL
  rw [show partL = partD from funext fun l => (partD_eq l).symm]
theorem own_of_blk {W : World} {base g n : Nat} {t : TypeId} {cs : Array Value} (h : Blk W g t cs) (hg : base ≤ g) (hn : cs.size = n) (hm : n ≤ maxLen) : W.ownsRow base t 1 (.slice (some ⟨g, 0, none⟩) n n) n cs.toList :=
  ⟨by simp [hn], .inr ⟨g, n, cs, rfl, hg, h, Nat.le_refl _, hm, by omega, by rw [List.take_of_length_le (by simp [hn])]⟩⟩
def arr6 (sl : Nat → Sl) : Array Value := #[(sl 0).val, (sl 1).val, (sl 2).val, (sl 3).val, (sl 4).val, (sl 5).val]
def nilS : Nat → Sl := fun _ => ⟨none, 0, 0⟩
def putS (sl : Nat → Sl) (k : Nat) (s : Sl) : Nat → Sl := fun j => if j = k then s else sl j
theorem arr6_put (sl : Nat → Sl) (k : Nat) (hk : k < 6) (s : Sl) : (arr6 sl).setIfInBounds k s.val = arr6 (putS sl k s) := by
  rcases six_f hk with rfl | rfl | rfl | rfl | rfl | rfl <;> rfl
theorem arr6_at (sl : Nat → Sl) (k : Nat) (hk : k < 6) : (arr6 sl)[k]? = some (sl k).val := by
  rcases six_f hk with rfl | rfl | rfl | rfl | rfl | rfl <;> rfl
theorem arr6_all (sl : Nat → Sl) : (arr6 sl).all (·.oneCell') = true := by simp [arr6, Sl.val, Value.oneCell']
theorem arr6_no {sl : Nat → Sl} {i : Nat} {q : IntKind} {m : Int} (h : (arr6 sl)[i]? = some (.int q m)) : False := by
  match i with
  | 0 | 1 | 2 | 3 | 4 | 5 => cases h
  | (i + 6) => simp [arr6] at h
theorem pts_int {ps : List Pt} {j : Nat} {u : Value} (h : (pts ps)[j]? = some u) : ∃ m, u = .int .i64 m := by
  have hm := List.mem_of_getElem? h
  unfold pts at hm
  obtain ⟨p, _, hp⟩ := List.mem_flatMap.1 hm
  simp only [ptCells, List.mem_cons, List.not_mem_nil, or_false] at hp
  rcases hp with rfl | rfl | rfl <;> exact ⟨_, rfl⟩
theorem pts_blk {w : World} {F : Nat} {t : TypeId} {sl : Nat → Sl} (hF : Blk w F t (arr6 sl)) {a : Addr} {q : IntKind} {m : Int} (h : w.cell? a = some (.int q m)) : a.block ≠ F := by
  rintro rfl
  obtain ⟨b, o, sp⟩ := a
  have hsp : sp = none := World.cell?_spot h
  subst hsp
  have := hF.cell o
  rw [h] at this
  exact arr6_no this.symm
theorem pts_keep {w w' : World} {B n F : Nat} {t : TypeId} {A : Option Addr} {ps : List Pt} {sl : Nat → Sl} (h : PtsAt w B A n ps) (hF : Blk w F t (arr6 sl)) (hk : ∀ i, i ≠ F → w'.heap[i]? = w.heap[i]?) : PtsAt w' B A n ps := by
  obtain ⟨h1, h2, h3, h4⟩ := h
  refine ⟨h1, h2, h3, fun hn => ?_⟩
  obtain ⟨ad, e, hB, hc⟩ := h4 hn
  refine ⟨ad, e, hB, fun j u hu => ?_⟩
  obtain ⟨m, rfl⟩ := pts_int hu
  have h5 := hc j _ hu
  exact (World.cell?_of_block (hk _ (pts_blk hF h5))).trans h5
theorem heap_set_other (w : World) (F k : Nat) (u : Value) (i : Nat) (h : i ≠ F) : (w.setCell ⟨F, k, none⟩ u).heap[i]? = w.heap[i]? := Below.heap_setCell w ⟨F, k, none⟩ u i h
theorem heap_row_other (w : World) (F : Nat) (cs : Array Value) (i : Nat) (h : i ≠ F) : (w.setRow F cs).heap[i]? = w.heap[i]? := by
  unfold World.setRow
  simp only [Array.getElem?_modify]
  rw [if_neg (Ne.symm h)]
theorem size_row (w : World) (F : Nat) (cs : Array Value) : (w.setRow F cs).heap.size = w.heap.size := by simp [World.setRow]
theorem size_cell (w : World) (a : Addr) (u : Value) : (w.setCell a u).heap.size = w.heap.size := by simp [World.setCell]
theorem own_keep {w w' : World} {B n F : Nat} {e t : TypeId} {v : Value} {xs : List Value} {cs : Array Value} (h : w.ownsRow B e 1 v n xs) (hF : Blk w F t cs) (hne : e ≠ t) (hk : ∀ i, i ≠ F → w'.heap[i]? = w.heap[i]?) : w'.ownsRow B e 1 v n xs := by
  refine ⟨h.1, ?_⟩
  rcases h.2 with h2 | ⟨g, cap, cur, rfl, h1, h2, h3⟩
  · exact .inl h2
  · refine .inr ⟨g, cap, cur, rfl, h1, ?_, h3⟩
    rw [← h2]
    refine hk g ?_
    rintro rfl
    unfold Blk at hF
    rw [hF] at h2
    injection h2 with h2
    injection h2 with _ h2
    exact hne h2.symm
theorem own_later {w w' : World} {B n : Nat} {e : TypeId} {v : Value} {xs : List Value} (h : w.ownsRow B e 1 v n xs) (hb : Below w.heap.size w w') : w'.ownsRow B e 1 v n xs := by
  refine ⟨h.1, ?_⟩
  rcases h.2 with h2 | ⟨g, cap, cur, rfl, h1, h2, h3⟩
  · exact .inl h2
  · exact .inr ⟨g, cap, cur, rfl, h1, (hb.block g (Array.getElem?_eq_some_iff.1 h2).1).trans h2, h3⟩
theorem own_ne {w : World} {B n F : Nat} {e t : TypeId} {v : Value} {xs : List Value} {cs : Array Value} (h : w.ownsRow B e 1 v n xs) (hF : Blk w F t cs) (hne : e ≠ t) : some F ≠ v.ownBlock := by
  intro e2
  rcases h.2 with ⟨rfl, _⟩ | ⟨g, cap, cur, rfl, _, h2, _⟩
  · cases e2
  · have : F = g := by simpa [Value.ownBlock] using e2
    subst this
    unfold Blk at hF
    rw [hF] at h2
    injection h2 with h2
    injection h2 with _ h2
    exact hne h2.symm
theorem blk_grown {w w' : World} {B n F : Nat} {e t : TypeId} {v : Value} {xs : List Value} {cs : Array Value} (hF : Blk w F t cs) (h : w.ownsRow B e 1 v n xs) (hne : e ≠ t) (hg : w.grownBy w' v.ownBlock) : Blk w' F t cs :=
  (hg.block F hF.lt (own_ne h hF hne)).trans hF
theorem own_cells {w : World} {B g n cap : Nat} {l : List (List UInt8)} (h : w.ownsRow B 9 1 (.slice (some ⟨g, 0, none⟩) n cap) n (wcells l)) {k : Nat} {x : List UInt8} (hx : l[k]? = some x) : w.cell? ⟨g, k, none⟩ = some (.string (str x)) := by
  have h1 := h.cells (g := g) rfl k (.string (str x)) (by unfold wcells; rw [List.getElem?_map, hx]; rfl)
  have e : (⟨g, 0, none⟩ : Addr).add k = ⟨g, k, none⟩ := by unfold Addr.add; split <;> simp_all
  rwa [e] at h1
def FieldsP (d t : List UInt8) (w : World) (e : Ending) (w' : World) : Prop :=
  ∃ sl : Nat → Sl, e = .returned (.tuple #[.agg (arr6 sl), .bool (fieldsD d t).isSome]) ∧
    (∀ fs, fieldsD d t = some fs → ∀ f, f < 6 → PtsAt w' w'.heap.size (sl f).A (sl f).n (fs.getD f [])) ∧ Below w.heap.size w w'
theorem fieldsP_no {d t : List UInt8} {w w' : World} {sl : Nat → Sl} (h : fieldsD d t = none) (hb : Below w.heap.size w w') : FieldsP d t w (.returned (.tuple #[.agg (arr6 sl), .bool false])) w' :=
  ⟨sl, by rw [h]; rfl, (fun fs hf => by rw [h] at hf; cases hf), hb⟩
theorem fieldsP_yes {d t : List UInt8} {w wr : World} {sl : Nat → Sl} (h : ∃ fs, fieldsD d t = some fs ∧ ∀ f, f < 6 → PtsAt wr wr.heap.size (sl f).A (sl f).n (fs.getD f [])) (hR : Blk wr w.heap.size 46 (arr6 nilS)) (hb : Below w.heap.size w wr) :
    FieldsP d t w (.returned (.tuple #[.agg (arr6 sl), .bool true])) (wr.setRow w.heap.size (arr6 sl)) := by
  obtain ⟨fs, h1, h2⟩ := h
  refine ⟨sl, by rw [h1]; rfl, fun fs' hf f hf6 => ?_, below_setRow hb (Nat.le_refl _) _⟩
  rw [h1] at hf
  injection hf with hf
  subst hf
  rw [size_row]
  exact pts_keep (h2 f hf6) hR (heap_row_other wr _ _)
theorem sgo_piece (b : UInt8) (l w : List UInt8) : ∀ p ∈ sgo b w l, p.length ≤ w.length + l.length := by
  induction l generalizing w with
  | nil => intro p hp; rw [sgo, List.mem_singleton] at hp; rw [hp]; simp
  | cons c l ih =>
    intro p hp
    rw [sgo] at hp
    split at hp
    · rcases List.mem_cons.1 hp with hp | hp
      · rw [hp]; simp
      · have := ih [] p hp; simp at this ⊢; omega
    · have := ih _ p hp; simp at this ⊢; omega
theorem pieceB_size {b : UInt8} {l x : List UInt8} (h : x ∈ splitL b l) : x.length ≤ l.length := by
  have := sgo_piece b l [] x h
  simpa using this
set_option maxRecDepth 100000 in
set_option maxHeartbeats 16000000 in
theorem parseFields_any (d t : ByteArray) (hd : d.size ≤ 4000) (ht : t.size ≤ 4000) (w : World) (htab : TabM w) :
    Calls Tryz.prog 52 #[.string d, .string t] w (FieldsP d.data.toList t.data.toList w) := by
  obtain ⟨i0, hi, hz0, hz1, hz2⟩ := info_parts strInfo
  obtain ⟨m, hml⟩ := htab.ml
  have HMX : Hid (∀ W, Below w.heap.size w W → W.cell? ⟨3, 0, none⟩ = some (.int .i64 m)) := fun W hb => (hb.cell (p := ⟨3, 0, none⟩) (World.block_lt_of_cell? w _ hml)).trans hml
  have HT := Lib.hid htab
  clear htab hml
  have hnd : (splitL 45 d.data.toList).length ≤ 4001 := by
    have := sgo_le 45 d.data.toList []
    rw [size_list] at this
    unfold splitL; omega
  have hnt : (splitL 58 t.data.toList).length ≤ 4001 := by
    have := sgo_le 58 t.data.toList []
    rw [size_list] at this
    unfold splitL; omega
  have HPD : Hid (∀ x ∈ splitL 45 d.data.toList, x.length ≤ 4000) := fun x hx => by
    have := pieceB_size hx
    rw [size_list] at this
    omega
  have HPT : Hid (∀ x ∈ splitL 58 t.data.toList, x.length ≤ 4000) := fun x hx => by
    have := pieceB_size hx
    rw [size_list] at this
    omega
  have ZN : (w.alloc (.cells #[.slice none 0 0, .slice none 0 0, .slice none 0 0, .slice none 0 0, .slice none 0 0, .slice none 0 0] 46)).heap.size = w.heap.size + 1 := by simp
  have HB0 : Hid (Below w.heap.size w (w.alloc (.cells #[.slice none 0 0, .slice none 0 0, .slice none 0 0, .slice none 0 0, .slice none 0 0, .slice none 0 0] 46))) := (Below.refl _ _).alloc (Nat.le_refl _) _
  have HF0 : Hid (Blk (w.alloc (.cells #[.slice none 0 0, .slice none 0 0, .slice none 0 0, .slice none 0 0, .slice none 0 0, .slice none 0 0] 46)) w.heap.size 46 (arr6 nilS)) := Blk.new w _ _
  have HDV : Hid (fieldsD d.data.toList t.data.toList = if (splitL 45 d.data.toList).length = 3 ∧ (clockD t.data.toList).length = 3 then mapO partsL (splitL 45 d.data.toList ++ clockD t.data.toList) else none) := rfl
  have HCK : Hid (clockD t.data.toList = if (splitL 58 t.data.toList).length = 2 then splitL 58 t.data.toList ++ [[48, 48]] else splitL 58 t.data.toList) := rfl
  go_enter Tryz.func52, Tryz.ntmps52
  go_wp2_with fail
  generalize w.alloc (.cells #[.slice none 0 0, .slice none 0 0, .slice none 0 0, .slice none 0 0, .slice none 0 0, .slice none 0 0] 46) = w0 at *
  refine (splitAt_any 45 d (by omega) m _ (HMX.out _ HB0.out)).mono ?_
  rintro e w1 ⟨rfl, hw1⟩
  have HB1 : Hid (Below w.heap.size w w1) := by rw [hw1]; exact HB0.out.alloc (by omega) _
  have HF1 : Hid (Blk w1 w.heap.size 46 (arr6 nilS)) := by rw [hw1]; exact HF0.out.alloc _
  have HD1 : Hid (Blk w1 (w.heap.size + 1) 9 (wcells (splitL 45 d.data.toList)).toArray) := by rw [hw1, ← ZN]; exact Blk.new w0 _ _
  have Z1 : w1.heap.size = w.heap.size + 2 := by rw [hw1]; simp; omega
  rw [ZN]
  clear hw1
  go_wp2_with fail
  refine (splitAt_any 58 t (by omega) m _ (HMX.out _ HB1.out)).mono ?_
  rintro e w2 ⟨rfl, hw2⟩
  have HB2 : Hid (Below w.heap.size w w2) := by rw [hw2]; exact HB1.out.alloc (by omega) _
  have HF2 : Hid (Blk w2 w.heap.size 46 (arr6 nilS)) := by rw [hw2]; exact HF1.out.alloc _
  have HD2 : Hid (Blk w2 (w.heap.size + 1) 9 (wcells (splitL 45 d.data.toList)).toArray) := by rw [hw2]; exact HD1.out.alloc _
  have HT2 : Hid (Blk w2 (w.heap.size + 2) 9 (wcells (splitL 58 t.data.toList)).toArray) := by rw [hw2, ← Z1]; exact Blk.new w1 _ _
  have Z2 : w2.heap.size = w.heap.size + 3 := by rw [hw2]; simp; omega
  rw [Z1]
  clear hw2 HB0 HF0 HB1 HF1 HD1 Z1 ZN
  generalize hdw : splitL 45 d.data.toList = dw at *
  generalize htw : splitL 58 t.data.toList = tw at *
  by_cases h2 : tw.length = 2
  · have b1 : ((tw.length : Int) == 2) = true := by rw [h2]; rfl
    have HOT : Hid (∀ o, (w2.alloc o).ownsRow w.heap.size 9 1 (.slice (some ⟨w.heap.size + 2, 0, none⟩) 2 2) 2 (wcells tw)) := fun o => by simpa using own_of_blk (HT2.out.alloc o) (show w.heap.size ≤ w.heap.size + 2 by omega) (by simp [wcells, h2]) (by decide)
    have HCK2 : Hid (clockD t.data.toList = tw ++ [[48, 48]]) := by show _ = _; rw [HCK.out, if_pos h2]
    clear HCK
    go_wp2_with (at_builtin; refine wpList_append_own _ rfl _ _ 85 rfl w.heap.size 9 i0 (.string ⟨#[]⟩) 1 16 Tryz.underlying85 hi hz0 hz1 hz2 rfl (by decide) (.slice (some ⟨w.heap.size + 2, 0, none⟩) 2 2) 2 (wcells tw) (by rfl) (HOT.out _) ⟨w.heap.size + 3, 0, none⟩ 1 1 [.string ⟨#[48, 48]⟩] (by rfl) rfl ?c1 ?c2 ?c3 ?c4 ?c5 ?_)
    case c1 =>
      intro j u hj
      have hb : Blk (w2.alloc (.cells #[.string ⟨#[48, 48]⟩] 9)) (w.heap.size + 3) 9 #[.string ⟨#[48, 48]⟩] := by
        have := Blk.new w2 9 #[.string ⟨#[48, 48]⟩]
        rw [Z2] at this; exact this
      match j, hj with
      | 0, hj => simp at hj; subst hj; exact hb.cell 0
    case c2 => intro u hu; simp at hu; subst hu; rfl
    case c3 => decide
    case c4 => decide
    case c5 => simp; omega
    intro v3 w3 hown3 hgrow3 _
    have HBw : Hid (Below w.heap.size w w3) := (HB2.out.alloc HB2.out.size _).grown hgrow3 (by simp; omega) (fun k hk => ((HOT.out (.cells #[.string ⟨#[48, 48]⟩] 9)).lt k hk).1)
    have HFw : Hid (Blk w3 w.heap.size 46 (arr6 nilS)) := blk_grown (HF2.out.alloc _) (HOT.out _) (by decide) hgrow3
    have HDw : Hid (Blk w3 (w.heap.size + 1) 9 (wcells dw).toArray) := (hgrow3.block (w.heap.size + 1) (by simp; omega) (by simp [Value.ownBlock])).trans (HD2.out.alloc _)
    have HO3 : w3.ownsRow w.heap.size 9 1 v3 3 (wcells (tw ++ [[48, 48]])) := by rw [wcells_app]; exact hown3
    obtain ⟨g3, c3, cu3, rfl, _⟩ := HO3.2.resolve_left (fun h => by omega)
    have HOw := Lib.hid HO3
    have HLC : Hid ((tw ++ [[48, 48]]).length = 3) := by show _ = _; rw [List.length_append, h2]; rfl
    have HPC : Hid (∀ x ∈ tw ++ [[48, 48]], x.length ≤ 4000) := fun x hx => by
      rcases List.mem_append.1 hx with hx | hx
      · exact HPT.out x hx
      · rw [List.mem_singleton] at hx; rw [hx]; decide
    have hlt3 : w.heap.size < w3.heap.size := HFw.out.lt
    clear hown3 hgrow3 HO3 HOT HB2 HF2 HD2 HT2 Z2
    have ZW := Lib.hid (show (w3.alloc (.cells #[.slice none 0 0, .slice none 0 0, .slice none 0 0, .slice none 0 0, .slice none 0 0, .slice none 0 0] 46)).heap.size = w3.heap.size + 1 by simp)
    have HBn : Hid (Below w.heap.size w (w3.alloc (.cells #[.slice none 0 0, .slice none 0 0, .slice none 0 0, .slice none 0 0, .slice none 0 0, .slice none 0 0] 46))) := HBw.out.alloc HBw.out.size _
    have HRn : Hid (Blk (w3.alloc (.cells #[.slice none 0 0, .slice none 0 0, .slice none 0 0, .slice none 0 0, .slice none 0 0, .slice none 0 0] 46)) w.heap.size 46 (arr6 nilS)) := HFw.out.alloc _
    have HAn : Hid (Blk (w3.alloc (.cells #[.slice none 0 0, .slice none 0 0, .slice none 0 0, .slice none 0 0, .slice none 0 0, .slice none 0 0] 46)) w3.heap.size 46 (arr6 nilS)) := Blk.new w3 _ _
    by_cases h3 : dw.length = 3
    · have b2 : (!((dw.length : Int) == 3)) = false := by rw [h3]; rfl
      have b2n : ((dw.length : Int) != 3) = false := by rw [h3]; rfl
      have h4 : (3 : Nat) = 3 := rfl
      have HDV2 : Hid (fieldsD d.data.toList t.data.toList = mapO partsL (dw ++ (tw ++ [[48, 48]]))) := by
        show _ = _
        rw [HDV.out, HCK2.out, if_pos ⟨h3, HLC.out.trans h4⟩]
      have b3 : (!((3 : Nat) : Int) == 3) = false := by first | rfl | (rw [h4]; rfl)
      have b4 : (((3 : Nat) : Int) != 3) = false := by first | rfl | (rw [h4]; rfl)
      have hcl3 : ((tw ++ [[48, 48]])).length = 3 := HLC.out.trans h4
      have HOD : Hid ((w3.alloc (.cells #[.slice none 0 0, .slice none 0 0, .slice none 0 0, .slice none 0 0, .slice none 0 0, .slice none 0 0] 46)).ownsRow w.heap.size 9 1 (.slice (some ⟨w.heap.size + 1, 0, none⟩) 3 3) 3 (wcells dw)) := by
        have := own_of_blk (HDw.out.alloc (.cells #[.slice none 0 0, .slice none 0 0, .slice none 0 0, .slice none 0 0, .slice none 0 0, .slice none 0 0] 46)) (show w.heap.size ≤ w.heap.size + 1 by omega) (show (wcells dw).toArray.size = 3 by simp [wcells, h3]) (by decide)
        simpa [Hid] using this
      have HNW : Hid (∀ (j : Nat) (u : Value), (wcells ((tw ++ [[48, 48]])))[j]? = some u → (w3.alloc (.cells #[.slice none 0 0, .slice none 0 0, .slice none 0 0, .slice none 0 0, .slice none 0 0, .slice none 0 0] 46)).cell? ((⟨g3, 0, none⟩ : Addr).add j) = some u) := fun j u hu => (HOw.out.alloc (.cells #[.slice none 0 0, .slice none 0 0, .slice none 0 0, .slice none 0 0, .slice none 0 0, .slice none 0 0] 46)).cells (g := g3) rfl j u hu
      rw [h3]
      go_wp2_with (at_builtin; refine wpList_append_own _ rfl _ _ 85 rfl w.heap.size 9 i0 (.string ⟨#[]⟩) 1 16 Tryz.underlying85 hi hz0 hz1 hz2 rfl (by decide) (.slice (some ⟨w.heap.size + 1, 0, none⟩) 3 3) 3 (wcells dw) (by rfl) HOD.out ⟨g3, 0, none⟩ 3 c3 (wcells ((tw ++ [[48, 48]]))) (by rfl) ?e0 HNW.out ?e2 ?e3 ?e4 ?e5 ?_)
      case e0 => rw [wcells_length]; exact hcl3
      case e2 =>
        intro u hu
        unfold wcells at hu
        obtain ⟨x, _, rfl⟩ := List.mem_map.1 hu
        rfl
      first | (case e3 => decide) | skip
      first | (case e4 => decide) | skip
      case e5 => first | exact HBn.out.size | omega | (simp; omega)
      intro v6 w6 hown6 hgrow6 _
      have HB6 : Hid (Below w.heap.size w w6) := HBn.out.grown hgrow6 HBn.out.size (fun k hk => (HOD.out.lt k hk).1)
      have HR6 : Hid (Blk w6 w.heap.size 46 (arr6 nilS)) := blk_grown HRn.out HOD.out (by decide) hgrow6
      have HA6 : Hid (Blk w6 w3.heap.size 46 (arr6 nilS)) := blk_grown HAn.out HOD.out (by decide) hgrow6
      skip
      have HO6p : w6.ownsRow w.heap.size 9 1 v6 6 (wcells (dw ++ (tw ++ [[48, 48]]))) := by rw [wcells_app]; exact hown6
      have hL6 : (dw ++ (tw ++ [[48, 48]])).length = 6 := by rw [List.length_append, hcl3, h3]
      have HSM : Hid (∀ x ∈ dw ++ (tw ++ [[48, 48]]), x.length ≤ 4000) := fun x hx => by
        rcases List.mem_append.1 hx with hx | hx
        · exact HPD.out x hx
        · exact HPC.out x hx
      obtain ⟨g6, c6, cu6, rfl, _⟩ := HO6p.2.resolve_left (fun h => by omega)
      have HO6 := Lib.hid HO6p
      have hFs : w.heap.size ≤ w3.heap.size := by omega
      clear hown6 hgrow6 HO6p HOD HNW HRn HAn HBn
      generalize dw ++ (tw ++ [[48, 48]]) = L at *
      go_wp2_with fail
      go_loopw [36] (fun i wr => ∃ (k : Nat) (sl : Nat → Sl), k ≤ 6 ∧ i = .int .i64 k ∧ Hid (∃ fs, mapO partsL (L.take k) = some fs ∧ ∀ f, f < k → PtsAt wr wr.heap.size (sl f).A (sl f).n (fs.getD f [])) ∧ Hid (Blk wr w3.heap.size 46 (arr6 sl)) ∧ Hid (Blk wr w.heap.size 46 (arr6 nilS)) ∧ Hid (wr.ownsRow w.heap.size 9 1 (.slice (some ⟨g6, 0, none⟩) 6 c6) 6 (wcells L)) ∧ Hid (Below w.heap.size w wr)) (fun i wr => 6 - (intOf i).toNat)
      case atStart => exact ⟨0, nilS, Nat.zero_le _, rfl, ⟨[], rfl, fun f hf => by omega⟩, HA6, HR6, HO6, HB6⟩
      case round =>
        obtain ⟨k, sl, hk, rfl, hfs, hA, hR, hO, hb⟩ := hrel
        by_cases hlt : k < 6
        · have b0 : (0 : Int) ≤ (k : Int) := by omega
          have b1 : (k : Int) < 6 := by omega
          obtain ⟨x, hx⟩ : ∃ x, L[k]? = some x := ⟨L[k]'(by omega), List.getElem?_eq_getElem _⟩
          have hc := own_cells hO.out hx
          have hxm := List.mem_of_getElem? hx
          have HPF : Hid (Calls Tryz.prog 66 #[.string (str x)] wr (FieldP x wr)) := parseField_any (str x) (HSM.out x hxm) wr (HT.out.below hb.out)
          have HX := Lib.hid hx
          have HXM := Lib.hid hxm
          clear hx hxm
          go_wp2_with fail
          refine HPF.out.mono ?_
          rintro e w7 ⟨A, n, c, rfl, hps, hb7⟩
          have hA7 := Lib.hid (hA.out.below hb7 hA.out.lt)
          have hR7 := Lib.hid (hR.out.below hb7 hR.out.lt)
          have hO7 := Lib.hid (own_later hO.out hb7)
          have HB7 := Lib.hid (more3 hb.out hb.out.size hb7)
          have HPS := Lib.hid hps
          have HS7 := Lib.hid hb7
          clear hps hb7 hc HPF
          cases hpp : mapO partD (splitL 44 x) with
          | none =>
            have HNO : Hid (fieldsD d.data.toList t.data.toList = none) := by
              show _ = _
              rw [HDV2.out]
              exact mapO_none HXM.out (by rw [partsL_D]; exact hpp)
            rw [show (none : Option (List Pt)).isSome = false from rfl]
            clear hpp
            go_wp2_with (first | (refine wpList_load_row rfl 46 (.tmp 8) (by rfl) w3.heap.size (by rfl) 46 (arr6 sl) (0, 0) (.array 6 23) hA7.out Tryz.underlying46 rfl (by kernel_rfl) ?_) | (refine wpList_store_row rfl 46 (.tmp 4) (.tmp 48) (by rfl) w.heap.size (arr6 sl) (by rfl) (by rfl) 46 (arr6 nilS) hR7.out (by kernel_rfl) rfl (arr6_all _) ?_))
            exact bodyPost_ret (results_cell_tmp (p := 4) (q := 5) rfl _ _ w.heap.size 46 (arr6 sl) (.array 6 23) _ rfl rfl (Blk.row hR7.out _) Tryz.underlying46 rfl (by kernel_rfl)) rfl (fieldsP_no HNO.out (below_setRow HB7.out (Nat.le_refl _) _))
          | some ps =>
            rw [show (some ps : Option (List Pt)).isSome = true from rfl]
            have a0 : w7.cell? ⟨w3.heap.size, k, none⟩ = some (sl k).val := by rw [hA7.out.cell k, arr6_at _ _ hlt]
            have f0 : w7.frozen? ⟨w3.heap.size, k, none⟩ = false := hA7.out.frozen k
            have HP8 : Hid (Blk (w7.setCell ⟨w3.heap.size, k, none⟩ (.slice A n c)) w3.heap.size 46 (arr6 (putS sl k ⟨A, n, c⟩))) := by
              have := hA7.out.setCell k (Sl.val ⟨A, n, c⟩)
              rw [arr6_put _ _ hlt] at this
              exact this
            have hFR : w.heap.size ≠ w3.heap.size := by omega
            have HR8 : Hid (Blk (w7.setCell ⟨w3.heap.size, k, none⟩ (.slice A n c)) w.heap.size 46 (arr6 nilS)) := hR7.out.setOther (a := ⟨w3.heap.size, k, none⟩) hFR _
            have HO8 : Hid ((w7.setCell ⟨w3.heap.size, k, none⟩ (.slice A n c)).ownsRow w.heap.size 9 1 (.slice (some ⟨g6, 0, none⟩) 6 c6) 6 (wcells L)) := own_keep hO7.out hA7.out (by decide) (heap_set_other w7 _ _ _)
            have HB8 : Hid (Below w.heap.size w (w7.setCell ⟨w3.heap.size, k, none⟩ (.slice A n c))) := HB7.out.setCell (p := ⟨w3.heap.size, k, none⟩) hFs _
            have HF8 : Hid (∃ fs, mapO partsL (L.take (k + 1)) = some fs ∧ ∀ f, f < k + 1 → PtsAt (w7.setCell ⟨w3.heap.size, k, none⟩ (.slice A n c)) (w7.setCell ⟨w3.heap.size, k, none⟩ (.slice A n c)).heap.size (putS sl k ⟨A, n, c⟩ f).A (putS sl k ⟨A, n, c⟩ f).n (fs.getD f [])) := by
              obtain ⟨fs, h1, h2⟩ := hfs.out
              have hl := mapO_len h1
              rw [List.length_take, hL6] at hl
              refine ⟨fs ++ [ps], ?_, fun f hf => ?_⟩
              · rw [List.take_add_one, HX.out]
                exact mapO_snoc_yes h1 (by rw [partsL_D]; exact hpp)
              · rw [size_cell]
                by_cases hfk : f = k
                · subst hfk
                  have e : (fs ++ [ps]).getD f [] = ps := by rw [List.getD_eq_getElem?_getD, List.getElem?_append_right (by omega)]; simp [show f - fs.length = 0 by omega]
                  rw [e]
                  unfold putS
                  rw [if_pos rfl]
                  exact pts_keep (HPS.out ps hpp) hA7.out (heap_set_other w7 _ _ _)
                · have e : (fs ++ [ps]).getD f [] = fs.getD f [] := by rw [List.getD_eq_getElem?_getD, List.getD_eq_getElem?_getD, List.getElem?_append_left (by omega)]
                  rw [e]
                  unfold putS
                  rw [if_neg hfk]
                  exact pts_keep (((h2 f (by omega)).below HS7.out).wide HS7.out.size) hA7.out (heap_set_other w7 _ _ _)
            clear hpp
            go_wp2_with fail
            go_roundw
            case rel => exact ⟨k + 1, putS sl k ⟨A, n, c⟩, by omega, by go_num, HF8, HP8, HR8, HO8, HB8⟩
            case measure => simp [intOf]; omega
        · obtain rfl : k = 6 := by omega
          have HE : Hid (∃ fs, fieldsD d.data.toList t.data.toList = some fs ∧ ∀ f, f < 6 → PtsAt wr wr.heap.size (sl f).A (sl f).n (fs.getD f [])) := by
            obtain ⟨fs, h1, h2⟩ := hfs.out
            rw [List.take_of_length_le (by omega)] at h1
            exact ⟨fs, by rw [HDV2.out]; exact h1, h2⟩
          clear hlt
          go_wp2_with (first | (refine wpList_load_row rfl 46 (.tmp 8) (by rfl) w3.heap.size (by rfl) 46 (arr6 sl) (0, 0) (.array 6 23) hA.out Tryz.underlying46 rfl (by kernel_rfl) ?_) | (refine wpList_store_row rfl 46 (.tmp 4) (.tmp 53) (by rfl) w.heap.size (arr6 sl) (by rfl) (by rfl) 46 (arr6 nilS) hR.out (by kernel_rfl) rfl (arr6_all _) ?_))
          exact bodyPost_ret (results_cell_tmp (p := 4) (q := 5) rfl _ _ w.heap.size 46 (arr6 sl) (.array 6 23) _ rfl rfl (Blk.row hR.out _) Tryz.underlying46 rfl (by kernel_rfl)) rfl (fieldsP_yes HE.out hR.out hb.out)
    · have HNO : Hid (fieldsD d.data.toList t.data.toList = none) := by
        show _ = _
        rw [HDV.out, if_neg (fun h => h3 h.1)]
      have b2 : (!((dw.length : Int) == 3)) = true := by simpa using (by omega : ¬ ((dw.length : Int) = 3))
      have b2n : ((dw.length : Int) != 3) = true := by simpa using (by omega : ¬ ((dw.length : Int) = 3))
      go_wp2_with (first | (refine wpList_load_row rfl 46 (.tmp 8) (by rfl) w3.heap.size (by rfl) 46 (arr6 nilS) (0, 0) (.array 6 23) HAn.out Tryz.underlying46 rfl (by kernel_rfl) ?_) | (refine wpList_store_row rfl 46 (.tmp 4) (.tmp 31) (by rfl) w.heap.size (arr6 nilS) (by rfl) (by rfl) 46 (arr6 nilS) HRn.out (by kernel_rfl) rfl (arr6_all _) ?_))
      exact bodyPost_ret (results_cell_tmp (p := 4) (q := 5) rfl _ _ w.heap.size 46 (arr6 nilS) (.array 6 23) _ rfl rfl (Blk.row HRn.out _) Tryz.underlying46 rfl (by kernel_rfl)) rfl (fieldsP_no HNO.out (below_setRow HBn.out (Nat.le_refl _) _))
  · have b1 : ((tw.length : Int) == 2) = false := by simpa using (by omega : ¬ ((tw.length : Int) = 2))
    have HCK2 : Hid (clockD t.data.toList = tw) := by show _ = _; rw [HCK.out, if_neg h2]
    have HLC : Hid (tw.length = tw.length) := rfl
    have HBw := Lib.hid HB2.out
    have HFw := Lib.hid HF2.out
    have HDw := Lib.hid HD2.out
    have HOw : Hid (w2.ownsRow w.heap.size 9 1 (.slice (some ⟨w.heap.size + 2, 0, none⟩) tw.length tw.length) tw.length (wcells tw)) := by
      have := own_of_blk HT2.out (show w.heap.size ≤ w.heap.size + 2 by omega) (show (wcells tw).toArray.size = tw.length by simp [wcells]) (by unfold maxLen; omega)
      simpa [Hid] using this
    have HPC : Hid (∀ x ∈ tw, x.length ≤ 4000) := HPT.out
    clear HCK HB2 HF2 HD2 HT2
    have ZW := Lib.hid (show (w2.alloc (.cells #[.slice none 0 0, .slice none 0 0, .slice none 0 0, .slice none 0 0, .slice none 0 0, .slice none 0 0] 46)).heap.size = w2.heap.size + 1 by simp)
    have HBn : Hid (Below w.heap.size w (w2.alloc (.cells #[.slice none 0 0, .slice none 0 0, .slice none 0 0, .slice none 0 0, .slice none 0 0, .slice none 0 0] 46))) := HBw.out.alloc HBw.out.size _
    have HRn : Hid (Blk (w2.alloc (.cells #[.slice none 0 0, .slice none 0 0, .slice none 0 0, .slice none 0 0, .slice none 0 0, .slice none 0 0] 46)) w.heap.size 46 (arr6 nilS)) := HFw.out.alloc _
    have HAn : Hid (Blk (w2.alloc (.cells #[.slice none 0 0, .slice none 0 0, .slice none 0 0, .slice none 0 0, .slice none 0 0, .slice none 0 0] 46)) w2.heap.size 46 (arr6 nilS)) := Blk.new w2 _ _
    by_cases h3 : dw.length = 3
    · have b2 : (!((dw.length : Int) == 3)) = false := by rw [h3]; rfl
      have b2n : ((dw.length : Int) != 3) = false := by rw [h3]; rfl
      by_cases h4 : tw.length = 3
      · have HDV2 : Hid (fieldsD d.data.toList t.data.toList = mapO partsL (dw ++ tw)) := by
          show _ = _
          rw [HDV.out, HCK2.out, if_pos ⟨h3, HLC.out.trans h4⟩]
        have b3 : (!((tw.length : Nat) : Int) == 3) = false := by first | rfl | (rw [h4]; rfl)
        have b4 : (((tw.length : Nat) : Int) != 3) = false := by first | rfl | (rw [h4]; rfl)
        have hcl3 : (tw).length = 3 := HLC.out.trans h4
        have HOD : Hid ((w2.alloc (.cells #[.slice none 0 0, .slice none 0 0, .slice none 0 0, .slice none 0 0, .slice none 0 0, .slice none 0 0] 46)).ownsRow w.heap.size 9 1 (.slice (some ⟨w.heap.size + 1, 0, none⟩) 3 3) 3 (wcells dw)) := by
          have := own_of_blk (HDw.out.alloc (.cells #[.slice none 0 0, .slice none 0 0, .slice none 0 0, .slice none 0 0, .slice none 0 0, .slice none 0 0] 46)) (show w.heap.size ≤ w.heap.size + 1 by omega) (show (wcells dw).toArray.size = 3 by simp [wcells, h3]) (by decide)
          simpa [Hid] using this
        have HNW : Hid (∀ (j : Nat) (u : Value), (wcells (tw))[j]? = some u → (w2.alloc (.cells #[.slice none 0 0, .slice none 0 0, .slice none 0 0, .slice none 0 0, .slice none 0 0, .slice none 0 0] 46)).cell? ((⟨w.heap.size + 2, 0, none⟩ : Addr).add j) = some u) := fun j u hu => (HOw.out.alloc (.cells #[.slice none 0 0, .slice none 0 0, .slice none 0 0, .slice none 0 0, .slice none 0 0, .slice none 0 0] 46)).cells (g := w.heap.size + 2) rfl j u hu
        rw [h3, h4]
        go_wp2_with (at_builtin; refine wpList_append_own _ rfl _ _ 85 rfl w.heap.size 9 i0 (.string ⟨#[]⟩) 1 16 Tryz.underlying85 hi hz0 hz1 hz2 rfl (by decide) (.slice (some ⟨w.heap.size + 1, 0, none⟩) 3 3) 3 (wcells dw) (by rfl) HOD.out ⟨w.heap.size + 2, 0, none⟩ 3 3 (wcells (tw)) (by rfl) ?d0 HNW.out ?d2 ?d3 ?d4 ?d5 ?_)
        case d0 => rw [wcells_length]; exact hcl3
        case d2 =>
          intro u hu
          unfold wcells at hu
          obtain ⟨x, _, rfl⟩ := List.mem_map.1 hu
          rfl
        first | (case d3 => decide) | skip
        first | (case d4 => decide) | skip
        case d5 => first | exact HBn.out.size | omega | (simp; omega)
        intro v6 w6 hown6 hgrow6 _
        have HB6 : Hid (Below w.heap.size w w6) := HBn.out.grown hgrow6 HBn.out.size (fun k hk => (HOD.out.lt k hk).1)
        have HR6 : Hid (Blk w6 w.heap.size 46 (arr6 nilS)) := blk_grown HRn.out HOD.out (by decide) hgrow6
        have HA6 : Hid (Blk w6 w2.heap.size 46 (arr6 nilS)) := blk_grown HAn.out HOD.out (by decide) hgrow6
        rw [Z2] at HA6
        have HO6p : w6.ownsRow w.heap.size 9 1 v6 6 (wcells (dw ++ tw)) := by rw [wcells_app]; exact hown6
        have hL6 : (dw ++ tw).length = 6 := by rw [List.length_append, hcl3, h3]
        have HSM : Hid (∀ x ∈ dw ++ tw, x.length ≤ 4000) := fun x hx => by
          rcases List.mem_append.1 hx with hx | hx
          · exact HPD.out x hx
          · exact HPC.out x hx
        obtain ⟨g6, c6, cu6, rfl, _⟩ := HO6p.2.resolve_left (fun h => by omega)
        have HO6 := Lib.hid HO6p
        have hFs : w.heap.size ≤ (w.heap.size + 3) := by omega
        clear hown6 hgrow6 HO6p HOD HNW HRn HAn HBn
        generalize dw ++ tw = L at *
        go_wp2_with fail
        go_loopw [36] (fun i wr => ∃ (k : Nat) (sl : Nat → Sl), k ≤ 6 ∧ i = .int .i64 k ∧ Hid (∃ fs, mapO partsL (L.take k) = some fs ∧ ∀ f, f < k → PtsAt wr wr.heap.size (sl f).A (sl f).n (fs.getD f [])) ∧ Hid (Blk wr (w.heap.size + 3) 46 (arr6 sl)) ∧ Hid (Blk wr w.heap.size 46 (arr6 nilS)) ∧ Hid (wr.ownsRow w.heap.size 9 1 (.slice (some ⟨g6, 0, none⟩) 6 c6) 6 (wcells L)) ∧ Hid (Below w.heap.size w wr)) (fun i wr => 6 - (intOf i).toNat)
        case atStart => exact ⟨0, nilS, Nat.zero_le _, rfl, ⟨[], rfl, fun f hf => by omega⟩, HA6, HR6, HO6, HB6⟩
        case round =>
          obtain ⟨k, sl, hk, rfl, hfs, hA, hR, hO, hb⟩ := hrel
          by_cases hlt : k < 6
          · have b0 : (0 : Int) ≤ (k : Int) := by omega
            have b1 : (k : Int) < 6 := by omega
            obtain ⟨x, hx⟩ : ∃ x, L[k]? = some x := ⟨L[k]'(by omega), List.getElem?_eq_getElem _⟩
            have hc := own_cells hO.out hx
            have hxm := List.mem_of_getElem? hx
            have HPF : Hid (Calls Tryz.prog 66 #[.string (str x)] wr (FieldP x wr)) := parseField_any (str x) (HSM.out x hxm) wr (HT.out.below hb.out)
            have HX := Lib.hid hx
            have HXM := Lib.hid hxm
            clear hx hxm
            go_wp2_with fail
            refine HPF.out.mono ?_
            rintro e w7 ⟨A, n, c, rfl, hps, hb7⟩
            have hA7 := Lib.hid (hA.out.below hb7 hA.out.lt)
            have hR7 := Lib.hid (hR.out.below hb7 hR.out.lt)
            have hO7 := Lib.hid (own_later hO.out hb7)
            have HB7 := Lib.hid (more3 hb.out hb.out.size hb7)
            have HPS := Lib.hid hps
            have HS7 := Lib.hid hb7
            clear hps hb7 hc HPF
            cases hpp : mapO partD (splitL 44 x) with
            | none =>
              have HNO : Hid (fieldsD d.data.toList t.data.toList = none) := by
                show _ = _
                rw [HDV2.out]
                exact mapO_none HXM.out (by rw [partsL_D]; exact hpp)
              rw [show (none : Option (List Pt)).isSome = false from rfl]
              clear hpp
              go_wp2_with (first | (refine wpList_load_row rfl 46 (.tmp 8) (by rfl) (w.heap.size + 3) (by rfl) 46 (arr6 sl) (0, 0) (.array 6 23) hA7.out Tryz.underlying46 rfl (by kernel_rfl) ?_) | (refine wpList_store_row rfl 46 (.tmp 4) (.tmp 48) (by rfl) w.heap.size (arr6 sl) (by rfl) (by rfl) 46 (arr6 nilS) hR7.out (by kernel_rfl) rfl (arr6_all _) ?_))
              exact bodyPost_ret (results_cell_tmp (p := 4) (q := 5) rfl _ _ w.heap.size 46 (arr6 sl) (.array 6 23) _ rfl rfl (Blk.row hR7.out _) Tryz.underlying46 rfl (by kernel_rfl)) rfl (fieldsP_no HNO.out (below_setRow HB7.out (Nat.le_refl _) _))
            | some ps =>
              rw [show (some ps : Option (List Pt)).isSome = true from rfl]
              have a0 : w7.cell? ⟨(w.heap.size + 3), k, none⟩ = some (sl k).val := by rw [hA7.out.cell k, arr6_at _ _ hlt]
              have f0 : w7.frozen? ⟨(w.heap.size + 3), k, none⟩ = false := hA7.out.frozen k
              have HP8 : Hid (Blk (w7.setCell ⟨(w.heap.size + 3), k, none⟩ (.slice A n c)) (w.heap.size + 3) 46 (arr6 (putS sl k ⟨A, n, c⟩))) := by
                have := hA7.out.setCell k (Sl.val ⟨A, n, c⟩)
                rw [arr6_put _ _ hlt] at this
                exact this
              have hFR : w.heap.size ≠ (w.heap.size + 3) := by omega
              have HR8 : Hid (Blk (w7.setCell ⟨(w.heap.size + 3), k, none⟩ (.slice A n c)) w.heap.size 46 (arr6 nilS)) := hR7.out.setOther (a := ⟨(w.heap.size + 3), k, none⟩) hFR _
              have HO8 : Hid ((w7.setCell ⟨(w.heap.size + 3), k, none⟩ (.slice A n c)).ownsRow w.heap.size 9 1 (.slice (some ⟨g6, 0, none⟩) 6 c6) 6 (wcells L)) := own_keep hO7.out hA7.out (by decide) (heap_set_other w7 _ _ _)
              have HB8 : Hid (Below w.heap.size w (w7.setCell ⟨(w.heap.size + 3), k, none⟩ (.slice A n c))) := HB7.out.setCell (p := ⟨(w.heap.size + 3), k, none⟩) hFs _
              have HF8 : Hid (∃ fs, mapO partsL (L.take (k + 1)) = some fs ∧ ∀ f, f < k + 1 → PtsAt (w7.setCell ⟨(w.heap.size + 3), k, none⟩ (.slice A n c)) (w7.setCell ⟨(w.heap.size + 3), k, none⟩ (.slice A n c)).heap.size (putS sl k ⟨A, n, c⟩ f).A (putS sl k ⟨A, n, c⟩ f).n (fs.getD f [])) := by
                obtain ⟨fs, h1, h2⟩ := hfs.out
                have hl := mapO_len h1
                rw [List.length_take, hL6] at hl
                refine ⟨fs ++ [ps], ?_, fun f hf => ?_⟩
                · rw [List.take_add_one, HX.out]
                  exact mapO_snoc_yes h1 (by rw [partsL_D]; exact hpp)
                · rw [size_cell]
                  by_cases hfk : f = k
                  · subst hfk
                    have e : (fs ++ [ps]).getD f [] = ps := by rw [List.getD_eq_getElem?_getD, List.getElem?_append_right (by omega)]; simp [show f - fs.length = 0 by omega]
                    rw [e]
                    unfold putS
                    rw [if_pos rfl]
                    exact pts_keep (HPS.out ps hpp) hA7.out (heap_set_other w7 _ _ _)
                  · have e : (fs ++ [ps]).getD f [] = fs.getD f [] := by rw [List.getD_eq_getElem?_getD, List.getD_eq_getElem?_getD, List.getElem?_append_left (by omega)]
                    rw [e]
                    unfold putS
                    rw [if_neg hfk]
                    exact pts_keep (((h2 f (by omega)).below HS7.out).wide HS7.out.size) hA7.out (heap_set_other w7 _ _ _)
              clear hpp
              go_wp2_with fail
              go_roundw
              case rel => exact ⟨k + 1, putS sl k ⟨A, n, c⟩, by omega, by go_num, HF8, HP8, HR8, HO8, HB8⟩
              case measure => simp [intOf]; omega
          · obtain rfl : k = 6 := by omega
            have HE : Hid (∃ fs, fieldsD d.data.toList t.data.toList = some fs ∧ ∀ f, f < 6 → PtsAt wr wr.heap.size (sl f).A (sl f).n (fs.getD f [])) := by
              obtain ⟨fs, h1, h2⟩ := hfs.out
              rw [List.take_of_length_le (by omega)] at h1
              exact ⟨fs, by rw [HDV2.out]; exact h1, h2⟩
            clear hlt
            go_wp2_with (first | (refine wpList_load_row rfl 46 (.tmp 8) (by rfl) (w.heap.size + 3) (by rfl) 46 (arr6 sl) (0, 0) (.array 6 23) hA.out Tryz.underlying46 rfl (by kernel_rfl) ?_) | (refine wpList_store_row rfl 46 (.tmp 4) (.tmp 53) (by rfl) w.heap.size (arr6 sl) (by rfl) (by rfl) 46 (arr6 nilS) hR.out (by kernel_rfl) rfl (arr6_all _) ?_))
            exact bodyPost_ret (results_cell_tmp (p := 4) (q := 5) rfl _ _ w.heap.size 46 (arr6 sl) (.array 6 23) _ rfl rfl (Blk.row hR.out _) Tryz.underlying46 rfl (by kernel_rfl)) rfl (fieldsP_yes HE.out hR.out hb.out)
      · have HNO : Hid (fieldsD d.data.toList t.data.toList = none) := by
          show _ = _
          rw [HDV.out, HCK2.out, if_neg (fun h => h4 (by have := h.2; rw [HLC.out] at this; exact this))]
        have b3 : (!(((tw.length : Nat) : Int) == 3)) = true := by simpa using (by omega : ¬ (((tw.length : Nat) : Int) = 3))
        have b4 : (((tw.length : Nat) : Int) != 3) = true := by simpa using (by omega : ¬ (((tw.length : Nat) : Int) = 3))
        go_wp2_with (first | (refine wpList_load_row rfl 46 (.tmp 8) (by rfl) w2.heap.size (by rfl) 46 (arr6 nilS) (0, 0) (.array 6 23) HAn.out Tryz.underlying46 rfl (by kernel_rfl) ?_) | (refine wpList_store_row rfl 46 (.tmp 4) (.tmp 31) (by rfl) w.heap.size (arr6 nilS) (by rfl) (by rfl) 46 (arr6 nilS) HRn.out (by kernel_rfl) rfl (arr6_all _) ?_))
        exact bodyPost_ret (results_cell_tmp (p := 4) (q := 5) rfl _ _ w.heap.size 46 (arr6 nilS) (.array 6 23) _ rfl rfl (Blk.row HRn.out _) Tryz.underlying46 rfl (by kernel_rfl)) rfl (fieldsP_no HNO.out (below_setRow HBn.out (Nat.le_refl _) _))
    · have HNO : Hid (fieldsD d.data.toList t.data.toList = none) := by
        show _ = _
        rw [HDV.out, if_neg (fun h => h3 h.1)]
      have b2 : (!((dw.length : Int) == 3)) = true := by simpa using (by omega : ¬ ((dw.length : Int) = 3))
      have b2n : ((dw.length : Int) != 3) = true := by simpa using (by omega : ¬ ((dw.length : Int) = 3))
      go_wp2_with (first | (refine wpList_load_row rfl 46 (.tmp 8) (by rfl) w2.heap.size (by rfl) 46 (arr6 nilS) (0, 0) (.array 6 23) HAn.out Tryz.underlying46 rfl (by kernel_rfl) ?_) | (refine wpList_store_row rfl 46 (.tmp 4) (.tmp 31) (by rfl) w.heap.size (arr6 nilS) (by rfl) (by rfl) 46 (arr6 nilS) HRn.out (by kernel_rfl) rfl (arr6_all _) ?_))
      exact bodyPost_ret (results_cell_tmp (p := 4) (q := 5) rfl _ _ w.heap.size 46 (arr6 nilS) (.array 6 23) _ rfl rfl (Blk.row HRn.out _) Tryz.underlying46 rfl (by kernel_rfl)) rfl (fieldsP_no HNO.out (below_setRow HBn.out (Nat.le_refl _) _))
end Go.Proofs.YtncolcjejgmhjaaGreatDoor
