/- The walk of the developers' component and Print. -/
import Derived.Test.YteoflefahoamnaaDoorSpM
namespace Go.Proofs.YteoflefahoamnaaDoor
open Go.RowKit

theorem decDigits_decL (n : Nat) : Lib.decDigits n = decL n := by
  induction n using Nat.strongRecOn with
  | _ n ih =>
    rw [Lib.decDigits, decL]
    by_cases h : n < 10
    · rw [dif_pos h, dif_pos h]
    · rw [dif_neg h, dif_neg h, ih (n / 10) (by omega)]
theorem itoa_nat (n : Nat) : Lib.itoa (n : Int) = decL n := by
  unfold Lib.itoa
  rw [if_neg (by omega), Int.toNat_natCast, decDigits_decL]
theorem byteCells_len (l : List UInt8) : (Lib.byteCells l).length = l.length := by simp [Lib.byteCells]

/-- The table of powers that strconv reads. -/
def P10 (w : World) : Prop := Lib.TabIs Tryd.prog w "internal/strconv.uint64pow10" .u64 Lib.pow10Tab
theorem p10_glob : Tryd.prog.globalNamed "internal/strconv.uint64pow10" = some 3 := by kernel_rfl
theorem P10.below {w w' : World} (h : P10 w) (hb : Below w.heap.size w w') : P10 w' := by
  unfold P10 Lib.TabIs World.var? at h ⊢
  rw [p10_glob] at h ⊢
  simp only [Option.bind_some] at h ⊢
  have hlt : 3 < w.heap.size := by
    rcases Nat.lt_or_ge 3 w.heap.size with h' | h'
    · exact h'
    · rw [Array.getElem?_eq_none h'] at h; cases h
  rw [hb.block _ hlt]
  exact h
theorem grow_below (w : World) (k : Nat) (os : Array Obj) : Below w.heap.size w (Sort.grow (w.drewN k) os) :=
  ⟨rfl, rfl, rfl, by simp [Sort.grow], fun i hi => by simp only [Sort.grow]; rw [Array.getElem?_append_left (by exact hi)]; rfl⟩
theorem builderAt_later {T e : TypeId} {B b : Nat} {p : Value} {bs : List Value} {w w' : World} (h : Lib.BuilderAtF T e B b p bs w) (hb : Below w.heap.size w w') : Lib.BuilderAtF T e B b p bs w' := by
  have hlt := h.lt
  obtain ⟨hB, v, hbk, hown, hne⟩ := h
  exact ⟨hB, v, (hb.block b hlt).trans hbk, hown.kept (row := none) ⟨hb.os, hb.tape, hb.output, hb.size, fun k hk _ => hb.block k hk⟩ (by cases hv : v.ownBlock <;> simp), hne⟩
theorem builder_later {T e : TypeId} {B b : Nat} {bs : List Value} {w w' : World} (h : Lib.IsBuilderF T e B b bs w) (hb : Below w.heap.size w w') : Lib.IsBuilderF T e B b bs w' :=
  h.elim (fun x => .inl (builderAt_later x hb)) (fun x => .inr (builderAt_later x hb))

/-- One part more behind the others. -/
def addL (l : List UInt8) (n : Nat) (u : List UInt8) : List UInt8 := if n = 0 then l else (if l = [] then [] else l ++ [32]) ++ (decL n ++ u)
theorem cells_one (l : List UInt8) (c : UInt8) : Lib.byteCells l ++ [Value.int .u8 c.toNat] = Lib.byteCells (l ++ [c]) := by simp [Lib.byteCells]
theorem cells_str (l m : List UInt8) : Lib.byteCells l ++ Lib.strCells (str m) = Lib.byteCells (l ++ m) := by simp [Lib.byteCells, Lib.strCells, str]

theorem cells_blank (l : List UInt8) : Lib.byteCells l ++ [Value.int .u8 32] = Lib.byteCells (l ++ [32]) := by simp [Lib.byteCells]

set_option maxHeartbeats 2000000 in
set_option maxRecDepth 100000 in
theorem component_any (B b : Nat) (l : List UInt8) (n : Nat) (u : List UInt8) (w : World) (h : Lib.IsBuilderF 41 5 B b (Lib.byteCells l) w) (hl : l.length ≤ 1000) (hn : n ≤ 9999999999) (hu : u.length ≤ 100) (hB : B ≤ w.heap.size) (ht : ∀ w', Below B w w' → P10 w') :
    Calls Tryd.prog 19 #[.pointer (some ⟨b, 0, none⟩), .int .i64 n, .string (str u)] w fun e w' => e = .returned (.tuple #[]) ∧ (Lib.IsBuilderF 41 5 B b (Lib.byteCells (addL l n u)) w' ∧ Below B w w') := by
  by_cases h0 : n = 0
  · have e0 : ((n : Int) == 0) = true := by simp [h0]
    have HA := Lib.hid (show addL l n u = l by unfold addL; rw [if_pos h0])
    have Ht := Lib.hid ht
    clear h0 ht
    go_enter Tryd.func19, Tryd.ntmps19
    go_wp2
    refine bodyPost_ret (results_none rfl _ _ _) rfl ?_
    exact ⟨rfl, by rw [HA.out]; exact h, Below.refl _ _⟩
  · have e0 : ((n : Int) == 0) = false := by simp [h0]
    have hd : (decL n).length ≤ 10 := decL_len 9 n (by omega)
    have hds : (str (decL n)).size ≤ 10 := hd
    have hus : (str u).size ≤ 100 := hu
    have Hn := Lib.hid (itoa_nat n)
    by_cases hl0 : l = []
    · subst hl0
      have HA := Lib.hid (show addL [] n u = decL n ++ u by unfold addL; rw [if_neg h0, if_pos rfl]; rfl)
      have Ht := Lib.hid ht
      have HL : Hid ((Lib.byteCells ([] : List UInt8)).length = 0) := rfl
      clear h0 ht
      go_enter Tryd.func19, Tryd.ntmps19
      go_wp2_with fail
      refine (Tryd.Builder_Len_f _ _ _ _ h).mono ?_
      rintro e w0 ⟨rfl, rfl⟩
      rw [HL.out]
      go_wp2_with fail
      refine (Tryd.strconv_Itoa n (by omega) (by omega) _ (Ht.out _ (Below.refl _ _))).mono ?_
      rintro e w1 ⟨rfl, k, os, rfl⟩
      rw [Hn.out]
      have hg := grow_below w0 k os
      have h1 := builder_later h hg
      have hs1 := hg.size
      have HB1 := Lib.hid (hg.mono hB)
      clear h hg
      generalize Sort.grow (w0.drewN k) os = w1 at *
      go_wp2_with fail
      refine (writeString_any B b _ (str (decL n)) _ h1 (by rw [byteCells_len]; simp; omega) (by omega)).mono ?_
      rintro e w2 ⟨rfl, h2, hb2⟩
      rw [cells_str] at h2
      have hs2 := hb2.size
      have HB2 := Lib.hid (HB1.out.trans hb2)
      clear h1 hb2
      go_wp2_with fail
      refine (writeString_any B b _ (str u) _ h2 (by rw [byteCells_len]; simp; omega) (by omega)).mono ?_
      rintro e w3 ⟨rfl, h3, hb3⟩
      rw [cells_str] at h3
      have HB3 := Lib.hid (HB2.out.trans hb3)
      clear h2 hb3
      go_wp2_with fail
      go_end0
      exact ⟨rfl, by rw [HA.out]; exact h3, HB3.out⟩
    · have HA := Lib.hid (show addL l n u = ((l ++ [32]) ++ decL n) ++ u by unfold addL; rw [if_neg h0, if_neg hl0, List.append_assoc, List.append_assoc, List.append_assoc])
      have hpos : 0 < l.length := List.length_pos_iff.2 hl0
      have Ht := Lib.hid ht
      clear h0 hl0 ht
      go_enter Tryd.func19, Tryd.ntmps19
      go_wp2_with fail
      refine (Tryd.Builder_Len_f _ _ _ _ h).mono ?_
      rintro e w0 ⟨rfl, rfl⟩
      rw [byteCells_len]
      go_wp2_with fail
      refine (writeByte_any B b _ 32 _ h (by rw [byteCells_len]; omega) (by omega)).mono ?_
      rintro e wb ⟨rfl, hb, hbb⟩
      rw [cells_blank] at hb
      have hsb := hbb.size
      have HBb := Lib.hid hbb
      clear h hbb
      go_wp2_with fail
      refine (Tryd.strconv_Itoa n (by omega) (by omega) _ (Ht.out _ HBb.out)).mono ?_
      rintro e w1 ⟨rfl, k, os, rfl⟩
      rw [Hn.out]
      have hg := grow_below wb k os
      have h1 := builder_later hb hg
      have hs1 := hg.size
      have HB1 := Lib.hid (HBb.out.trans (hg.mono (by omega)))
      clear hb hg
      generalize Sort.grow (wb.drewN k) os = w1 at *
      go_wp2_with fail
      refine (writeString_any B b _ (str (decL n)) _ h1 (by rw [byteCells_len]; simp; omega) (by omega)).mono ?_
      rintro e w2 ⟨rfl, h2, hb2⟩
      rw [cells_str] at h2
      have hs2 := hb2.size
      have HB2 := Lib.hid (HB1.out.trans hb2)
      clear h1 hb2
      go_wp2_with fail
      refine (writeString_any B b _ (str u) _ h2 (by rw [byteCells_len]; simp; omega) (by omega)).mono ?_
      rintro e w3 ⟨rfl, h3, hb3⟩
      rw [cells_str] at h3
      have HB3 := Lib.hid (HB2.out.trans hb3)
      clear h2 hb3
      go_wp2_with fail
      go_end0
      exact ⟨rfl, by rw [HA.out]; exact h3, HB3.out⟩
end Go.Proofs.YteoflefahoamnaaDoor
