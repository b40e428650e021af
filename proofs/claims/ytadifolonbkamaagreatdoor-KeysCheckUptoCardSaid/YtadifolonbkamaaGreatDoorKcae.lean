/- Rows of keys: what a []api.Key is in memory. The walks of the developers' isBool, isDigit, isOfVariable, consistsOf, isN -/
import Derived.Test.YtadifolonbkamaaGreatDoorKcad
import Derived.Test.YtadifolonbkamaaGreatDoorKcac
import Derived.Test.YtadifolonbkamaaGreatDoorKcab
namespace Go.Proofs.YtadifolonbkamaaGreatDoor
open Go.RowKit
structure Kr where
  s : List UInt8
  n : List UInt8
  f : Int
  l : Bool
  k : Int
  A : Option Addr
  m : Nat
  c : Nat
def krCells (x : Kr) : List Value := [.string (str x.s), .string (str x.n), .int .i64 x.f, .bool x.l, .int .i64 x.k, .slice x.A x.m x.c]
def krs (l : List Kr) : List Value := l.flatMap krCells
def RowS (w : World) (B : Nat) (A : Option Addr) (n : Nat) (l : List (List UInt8)) : Prop :=
  RowAt w B A n l ∧ ∀ ad, A = some ad → ad.block < B ∧ ∃ cs fz, w.heap[ad.block]? = some (.cells cs 9 fz)
theorem RowS.none_ {w : World} {B : Nat} : RowS w B none 0 [] := ⟨RowAt.none_, fun ad h => by cases h⟩
theorem RowS.below {w w' : World} {B n : Nat} {A : Option Addr} {l : List (List UInt8)} (h : RowS w B A n l) (hb : Below B w w') : RowS w' B A n l :=
  ⟨h.1.below hb, fun ad e => by
    obtain ⟨h1, cs, fz, h2⟩ := h.2 ad e
    exact ⟨h1, cs, fz, (hb.block _ h1).trans h2⟩⟩
theorem RowS.wide {w : World} {B B' n : Nat} {A : Option Addr} {l : List (List UInt8)} (h : RowS w B A n l) (hB : B ≤ B') : RowS w B' A n l :=
  ⟨h.1.wide hB, fun ad e => by
    obtain ⟨h1, h2⟩ := h.2 ad e
    exact ⟨by omega, h2⟩⟩
theorem RowS.keep {w w' : World} {B n F : Nat} {t : TypeId} {cs : Array Value} {A : Option Addr} {l : List (List UInt8)} (h : RowS w B A n l) (hF : Blk w F t cs) (ht : t ≠ 9) (hk : ∀ i, i ≠ F → w'.heap[i]? = w.heap[i]?) : RowS w' B A n l := by
  obtain ⟨h1, h2⟩ := h
  have hne : ∀ ad, A = some ad → ad.block ≠ F := by
    rintro ad e rfl
    obtain ⟨_, cs', fz, h3⟩ := h2 ad e
    unfold Blk at hF
    rw [hF] at h3
    injection h3 with h3
    injection h3 with _ h3
    exact ht h3
  refine ⟨⟨h1.1, h1.2.1, fun hn => ?_⟩, fun ad e => ?_⟩
  · obtain ⟨ad, e, hB, hc⟩ := h1.2.2 hn
    exact ⟨ad, e, hB, fun j x hj => (World.cell?_of_block (hk _ (by rw [block_addR]; exact hne ad e))).trans (hc j x hj)⟩
  · obtain ⟨h3, cs', fz, h4⟩ := h2 ad e
    exact ⟨h3, cs', fz, (hk _ (hne ad e)).trans h4⟩
def Kr.is (w : World) (B : Nat) (r : Kr) (x : Ky) : Prop := r.s = x.s ∧ r.n = x.n ∧ r.f = x.f ∧ r.l = x.l ∧ r.k = x.k ∧ RowS w B r.A r.m x.w
theorem Kr.is.below {w w' : World} {B : Nat} {r : Kr} {x : Ky} (h : r.is w B x) (hb : Below B w w') : r.is w' B x :=
  ⟨h.1, h.2.1, h.2.2.1, h.2.2.2.1, h.2.2.2.2.1, h.2.2.2.2.2.below hb⟩
theorem Kr.is.wide {w : World} {B B' : Nat} {r : Kr} {x : Ky} (h : r.is w B x) (hB : B ≤ B') : r.is w B' x :=
  ⟨h.1, h.2.1, h.2.2.1, h.2.2.2.1, h.2.2.2.2.1, h.2.2.2.2.2.wide hB⟩
theorem Kr.is.keep {w w' : World} {B F : Nat} {t : TypeId} {cs : Array Value} {r : Kr} {x : Ky} (h : r.is w B x) (hF : Blk w F t cs) (ht : t ≠ 9) (hk : ∀ i, i ≠ F → w'.heap[i]? = w.heap[i]?) : r.is w' B x :=
  ⟨h.1, h.2.1, h.2.2.1, h.2.2.2.1, h.2.2.2.2.1, h.2.2.2.2.2.keep hF ht hk⟩
def KrsAre (w : World) (B : Nat) (rs : List Kr) (l : List Ky) : Prop := rs.length = l.length ∧ ∀ (j : Nat) (r : Kr) (x : Ky), rs[j]? = some r → l[j]? = some x → r.is w B x
theorem KrsAre.below {w w' : World} {B : Nat} {rs : List Kr} {l : List Ky} (h : KrsAre w B rs l) (hb : Below B w w') : KrsAre w' B rs l := ⟨h.1, fun j r x hr hx => (h.2 j r x hr hx).below hb⟩
theorem KrsAre.wide {w : World} {B B' : Nat} {rs : List Kr} {l : List Ky} (h : KrsAre w B rs l) (hB : B ≤ B') : KrsAre w B' rs l := ⟨h.1, fun j r x hr hx => (h.2 j r x hr hx).wide hB⟩
theorem KrsAre.nil {w : World} {B : Nat} : KrsAre w B [] [] := ⟨rfl, fun j r x hr _ => by simp at hr⟩
theorem KrsAre.cons {w : World} {B : Nat} {r : Kr} {x : Ky} {rs : List Kr} {l : List Ky} (h : r.is w B x) (hs : KrsAre w B rs l) : KrsAre w B (r :: rs) (x :: l) := by
  refine ⟨by simp [hs.1], fun j r' x' hr hx => ?_⟩
  cases j with
  | zero =>
    simp only [List.getElem?_cons_zero, Option.some.injEq] at hr hx
    subst hr hx
    exact h
  | succ j => exact hs.2 j r' x' (by simpa using hr) (by simpa using hx)
theorem KrsAre.append {w : World} {B : Nat} {rs rs' : List Kr} {l l' : List Ky} (h : KrsAre w B rs l) (h' : KrsAre w B rs' l') : KrsAre w B (rs ++ rs') (l ++ l') := by
  refine ⟨by simp [h.1, h'.1], fun j r x hr hx => ?_⟩
  have e := h.1
  by_cases hj : j < rs.length
  · rw [List.getElem?_append_left hj] at hr
    rw [List.getElem?_append_left (by omega)] at hx
    exact h.2 j r x hr hx
  · rw [List.getElem?_append_right (by omega)] at hr hx
    exact h'.2 (j - rs.length) r x hr (by rw [e]; exact hx)
theorem krs_length (l : List Kr) : (krs l).length = l.length * 6 := by
  induction l with
  | nil => rfl
  | cons x l ih => have e : krs (x :: l) = krCells x ++ krs l := by simp [krs]
                   rw [e, List.length_append, ih, List.length_cons]; show 6 + _ = _; omega
theorem krs_append (a b : List Kr) : krs (a ++ b) = krs a ++ krs b := by simp [krs]
theorem krs_one (x : Kr) : krs [x] = krCells x := by simp [krs]
theorem krs_get (l : List Kr) (j : Nat) (x : Kr) (h : l[j]? = some x) (i : Nat) (hi : i < 6) : (krs l)[j * 6 + i]? = (krCells x)[i]? := by
  induction l generalizing j with
  | nil => simp at h
  | cons y l ih =>
    have e : krs (y :: l) = krCells y ++ krs l := by simp [krs]
    rw [e]
    cases j with
    | zero =>
      simp only [List.getElem?_cons_zero, Option.some.injEq] at h
      subst h
      rw [Nat.zero_mul, Nat.zero_add, List.getElem?_append_left (by show i < 6; exact hi)]
    | succ j =>
      rw [List.getElem?_cons_succ] at h
      rw [List.getElem?_append_right (by show 6 ≤ _; omega)]
      show (krs l)[(j + 1) * 6 + i - 6]? = _
      rw [show (j + 1) * 6 + i - 6 = j * 6 + i by omega]
      exact ih j h
theorem krs_one_cell (l : List Kr) : ∀ x ∈ krs l, x.oneCell' = true := by
  intro x hx
  obtain ⟨r, _, hr⟩ := List.mem_flatMap.1 hx
  simp [krCells] at hr
  rcases hr with rfl | rfl | rfl | rfl | rfl | rfl <;> rfl
def KrCell (w : World) (a : Addr) (x : Kr) : Prop :=
  w.cell? a = some (.string (str x.s)) ∧ w.cell? ⟨a.block, a.off + 1, none⟩ = some (.string (str x.n)) ∧ w.cell? ⟨a.block, a.off + 2, none⟩ = some (.int .i64 x.f) ∧ w.cell? ⟨a.block, a.off + 3, none⟩ = some (.bool x.l) ∧ w.cell? ⟨a.block, a.off + 4, none⟩ = some (.int .i64 x.k) ∧ w.cell? ⟨a.block, a.off + 5, none⟩ = some (.slice x.A x.m x.c)
theorem add_stepK (ad : Addr) (i j : Nat) (w : World) (v : Value) (h : w.cell? (ad.add (i + j)) = some v) : w.cell? ((ad.add i).add j) = some v := by
  have : (ad.add i).add j = ad.add (i + j) := by
    unfold Addr.add
    by_cases hi : i = 0 <;> by_cases hj : j = 0 <;> simp [hi, hj, Nat.add_assoc]
  rw [this]; exact h
def KrsIn (w : World) (B : Nat) (A : Option Addr) (rs : List Kr) : Prop := 0 < rs.length → ∃ ad, A = some ad ∧ ad.block < B ∧ ∀ j u, (krs rs)[j]? = some u → w.cell? (ad.add j) = some u
theorem KrsIn.below {w w' : World} {B : Nat} {A : Option Addr} {rs : List Kr} (h : KrsIn w B A rs) (hb : Below B w w') : KrsIn w' B A rs := fun hn => by
  obtain ⟨ad, e, hB, hc⟩ := h hn
  exact ⟨ad, e, hB, fun j u hj => (hb.cell (by rw [block_addR]; exact hB)).trans (hc j u hj)⟩
theorem KrsIn.at_ {w : World} {B : Nat} {A : Option Addr} {rs : List Kr} (h : KrsIn w B A rs) {k : Nat} {r : Kr} (hk : rs[k]? = some r) : ∃ ad, A = some ad ∧ ad.block < B ∧ KrCell w (ad.add (k * 6)) r := by
  have hl : k < rs.length := by
    rcases Nat.lt_or_ge k rs.length with h' | h'
    · exact h'
    · rw [List.getElem?_eq_none h'] at hk; cases hk
  obtain ⟨ad, e, hB, hc⟩ := h (by omega)
  refine ⟨ad, e, hB, ?_, ?_, ?_, ?_, ?_, ?_⟩
  · exact hc (k * 6 + 0) _ (krs_get rs k r hk 0 (by omega))
  · exact add_stepK ad (k * 6) 1 w _ (hc (k * 6 + 1) _ (krs_get rs k r hk 1 (by omega)))
  · exact add_stepK ad (k * 6) 2 w _ (hc (k * 6 + 2) _ (krs_get rs k r hk 2 (by omega)))
  · exact add_stepK ad (k * 6) 3 w _ (hc (k * 6 + 3) _ (krs_get rs k r hk 3 (by omega)))
  · exact add_stepK ad (k * 6) 4 w _ (hc (k * 6 + 4) _ (krs_get rs k r hk 4 (by omega)))
  · exact add_stepK ad (k * 6) 5 w _ (hc (k * 6 + 5) _ (krs_get rs k r hk 5 (by omega)))
def KysAt (w : World) (B : Nat) (A : Option Addr) (n : Nat) (l : List Ky) : Prop :=
  l.length = n ∧ n ≤ maxLen ∧ ∃ rs, KrsAre w B rs l ∧ KrsIn w B A rs
theorem KysAt.none_ {w : World} {B : Nat} {A : Option Addr} : KysAt w B A 0 [] := ⟨rfl, Nat.zero_le _, [], KrsAre.nil, fun h => by simp at h⟩
theorem KysAt.below {w w' : World} {B n : Nat} {A : Option Addr} {l : List Ky} (h : KysAt w B A n l) (hb : Below B w w') : KysAt w' B A n l := by
  obtain ⟨h1, h2, rs, h3, h4⟩ := h
  exact ⟨h1, h2, rs, h3.below hb, h4.below hb⟩
theorem KysAt.wide {w : World} {B B' n : Nat} {A : Option Addr} {l : List Ky} (h : KysAt w B A n l) (hB : B ≤ B') : KysAt w B' A n l := by
  obtain ⟨h1, h2, rs, h3, h4⟩ := h
  exact ⟨h1, h2, rs, h3.wide hB, fun hn => by obtain ⟨ad, e, q, hc⟩ := h4 hn; exact ⟨ad, e, by omega, hc⟩⟩
theorem KysAt.drewN {w : World} {B n : Nat} {A : Option Addr} {l : List Ky} (h : KysAt w B A n l) (j : Nat) : KysAt (w.drewN j) B A n l := h.below (below_drewN (Below.refl _ _) j)
theorem KysAt.at_ {w : World} {B n : Nat} {A : Option Addr} {l : List Ky} (h : KysAt w B A n l) {k : Nat} (hk : k < n) :
    ∃ ad r x, A = some ad ∧ ad.block < B ∧ l[k]? = some x ∧ r.is w B x ∧ KrCell w (ad.add (k * 6)) r := by
  obtain ⟨h1, h2, rs, h3, h4⟩ := h
  have e1 := h3.1
  have kl : k < l.length := by omega
  have kr : k < rs.length := by omega
  have hx : l[k]? = some l[k] := List.getElem?_eq_getElem kl
  have hr : rs[k]? = some rs[k] := List.getElem?_eq_getElem kr
  obtain ⟨ad, e, hB, hc⟩ := h4.at_ hr
  exact ⟨ad, _, _, e, hB, hx, h3.2 k _ _ hr hx, hc⟩
theorem KrsIn.of_own {w : World} {base n : Nat} {v : Value} {rs : List Kr} {t : TypeId} (h : w.ownsRow base t 6 v n (krs rs)) : ∃ A c, v = .slice A n c ∧ KrsIn w w.heap.size A rs := by
  obtain ⟨h1, h2⟩ := h
  have hl : rs.length = n := by rw [krs_length] at h1; omega
  rcases h2 with ⟨hv, h0⟩ | ⟨g, cap, cur, hv, hg, hb, hr1, hr2, hr3, hr4⟩
  · subst h0
    exact ⟨none, 0, hv, fun hn => by omega⟩
  · refine ⟨some ⟨g, 0, none⟩, cap, hv, fun _ => ⟨⟨g, 0, none⟩, rfl, (Array.getElem?_eq_some_iff.1 hb).1, fun j u hj => ?_⟩⟩
    have hjl : j < n * 6 := by
      rw [← h1]
      rcases Nat.lt_or_ge j (krs rs).length with h' | h'
      · exact h'
      · rw [List.getElem?_eq_none h'] at hj; cases hj
    rw [← hr4, List.getElem?_take_of_lt hjl] at hj
    have : (⟨g, 0, none⟩ : Addr).add j = ⟨g, j, none⟩ := by unfold Addr.add; split <;> simp_all
    rw [this]
    have hc : w.cell? ⟨g, j, none⟩ = cur[j]? := cell_of_row w g j cur _ (0, 0) hb
    rw [hc, ← Array.getElem?_toList]; exact hj
theorem KysAt.of_own {w : World} {base n : Nat} {v : Value} {rs : List Kr} {l : List Ky} {t : TypeId} (h : w.ownsRow base t 6 v n (krs rs)) (hn : n ≤ maxLen) (ha : KrsAre w w.heap.size rs l) : ∃ A c, v = .slice A n c ∧ KysAt w w.heap.size A n l := by
  obtain ⟨A, c, hv, hi⟩ := KrsIn.of_own h
  have hl : rs.length = n := by have := h.1; rw [krs_length] at this; omega
  exact ⟨A, c, hv, by rw [← ha.1]; exact hl, hn, rs, ha, hi⟩
theorem KysAt.of_blk {w : World} {g n : Nat} {rs : List Kr} {l : List Ky} {t : TypeId} (h : Blk w g t (krs rs).toArray) (hl : l.length = n) (hn : n ≤ maxLen) (ha : KrsAre w w.heap.size rs l) : KysAt w w.heap.size (some ⟨g, 0, none⟩) n l := by
  refine ⟨hl, hn, rs, ha, fun _ => ⟨⟨g, 0, none⟩, rfl, h.lt, fun j u hj => ?_⟩⟩
  have : (⟨g, 0, none⟩ : Addr).add j = ⟨g, j, none⟩ := by unfold Addr.add; split <;> simp_all
  rw [this, h.cell j]
  simpa using hj
end Go.Proofs.YtadifolonbkamaaGreatDoor
namespace Go.Proofs.YtadifolonbkamaaGreatDoor
open Go.RowKit
theorem eq_litV (s : ByteArray) (l : List UInt8) : (s.toList == l) = decide (s.data.toList = l) := by
  rw [Lib.toList_data, Bool.eq_iff_iff, decide_eq_true_eq, beq_iff_eq]
def boolWs : List (List UInt8) := [[121, 101, 115], [116, 114, 117, 101], [49], [110, 111], [102, 97, 108, 115, 101], [48]]
def boolS (s : ByteArray) : Bool := boolWs.any fun x => decide (s.data.toList = x)
set_option maxHeartbeats 4000000 in
theorem isBool_any (s : ByteArray) (w : World) : Calls Tryz.prog 48 #[.string s] w fun e w' => e = .returned (.bool (boolS s)) ∧ Below w.heap.size w w' := by
  have q0 : (s.toList == ([121, 101, 115] : List UInt8)) = decide (s.data.toList = [121, 101, 115]) := eq_litV s _
  have q1 : (s.toList == ([116, 114, 117, 101] : List UInt8)) = decide (s.data.toList = [116, 114, 117, 101]) := eq_litV s _
  have q2 : (s.toList == ([49] : List UInt8)) = decide (s.data.toList = [49]) := eq_litV s _
  have q3 : (s.toList == ([110, 111] : List UInt8)) = decide (s.data.toList = [110, 111]) := eq_litV s _
  have q4 : (s.toList == ([102, 97, 108, 115, 101] : List UInt8)) = decide (s.data.toList = [102, 97, 108, 115, 101]) := eq_litV s _
  have q5 : (s.toList == ([48] : List UInt8)) = decide (s.data.toList = [48]) := eq_litV s _
  have hb : boolS s = (decide (s.data.toList = [121, 101, 115]) || (decide (s.data.toList = [116, 114, 117, 101]) || (decide (s.data.toList = [49]) || (decide (s.data.toList = [110, 111]) || (decide (s.data.toList = [102, 97, 108, 115, 101]) || decide (s.data.toList = [48])))))) := by
    simp [boolS, boolWs]
  rw [hb]
  clear hb
  generalize decide (s.data.toList = [121, 101, 115]) = b0 at *
  generalize decide (s.data.toList = [116, 114, 117, 101]) = b1 at *
  generalize decide (s.data.toList = [49]) = b2 at *
  generalize decide (s.data.toList = [110, 111]) = b3 at *
  generalize decide (s.data.toList = [102, 97, 108, 115, 101]) = b4 at *
  generalize decide (s.data.toList = [48]) = b5 at *
  rcases b0 with _ | _
  · rcases b1 with _ | _
    · rcases b2 with _ | _
      · rcases b3 with _ | _
        · rcases b4 with _ | _
          · rcases b5 with _ | _
            all_goals
              go_enter Tryz.func48, Tryz.ntmps48
              go_wp2_with fail
              go_ret
              exact ⟨rfl, Below.refl _ _⟩
          · go_enter Tryz.func48, Tryz.ntmps48
            go_wp2_with fail
            go_ret
            exact ⟨rfl, Below.refl _ _⟩
        · go_enter Tryz.func48, Tryz.ntmps48
          go_wp2_with fail
          go_ret
          exact ⟨rfl, Below.refl _ _⟩
      · go_enter Tryz.func48, Tryz.ntmps48
        go_wp2_with fail
        go_ret
        exact ⟨rfl, Below.refl _ _⟩
    · go_enter Tryz.func48, Tryz.ntmps48
      go_wp2_with fail
      go_ret
      exact ⟨rfl, Below.refl _ _⟩
  · go_enter Tryz.func48, Tryz.ntmps48
    go_wp2_with fail
    go_ret
    exact ⟨rfl, Below.refl _ _⟩
def digV (c : UInt8) : Bool := decide (48 ≤ c.toNat) && decide (c.toNat ≤ 57)
def varV (c : UInt8) : Bool := (decide (97 ≤ c.toNat) && decide (c.toNat ≤ 122)) || (decide (65 ≤ c.toNat) && decide (c.toNat ≤ 90)) || digV c || decide (c.toNat = 95)
theorem isDigitV_any (c : UInt8) (w : World) : Calls Tryz.prog 73 #[.int .u8 c.toNat] w fun e w' => e = .returned (.bool (digV c)) ∧ w = w' := by
  unfold digV
  by_cases h1 : c.toNat < 48
  · have h1' : (c.toNat : Int) < 48 := by omega
    have d1 : decide ((48 : Int) ≤ (c.toNat : Int)) = false := by simp; omega
    have HD := Lib.hid (show (decide (48 ≤ c.toNat) && decide (c.toNat ≤ 57)) = false by simp; omega)
    go_enter Tryz.func73, Tryz.ntmps73
    go_wp2_with fail
    go_ret
    exact ⟨ret_bool HD.out.symm, rfl⟩
  · have h1' : (48 : Int) ≤ (c.toNat : Int) := by omega
    by_cases h2 : c.toNat ≤ 57
    · have h2' : (c.toNat : Int) ≤ 57 := by omega
      have HD := Lib.hid (show (decide (48 ≤ c.toNat) && decide (c.toNat ≤ 57)) = true by simp; omega)
      clear h1 h2
      go_enter Tryz.func73, Tryz.ntmps73
      go_wp2_with fail
      go_ret
      exact ⟨ret_bool HD.out.symm, rfl⟩
    · have h2' : (57 : Int) < (c.toNat : Int) := by omega
      have d1 : decide ((c.toNat : Int) ≤ 57) = false := by simp; omega
      have HD := Lib.hid (show (decide (48 ≤ c.toNat) && decide (c.toNat ≤ 57)) = false by simp; omega)
      clear h1 h2
      go_enter Tryz.func73, Tryz.ntmps73
      go_wp2_with fail
      go_ret
      exact ⟨ret_bool HD.out.symm, rfl⟩
set_option maxRecDepth 100000 in
theorem isVar1_0 (c : UInt8) (ha : 0 ≤ c.toNat) (hb : c.toNat ≤ 47) (w : World) : Calls Tryz.prog 139 #[.int .u8 c.toNat] w fun e w' => e = .returned (.bool (varV c)) ∧ w = w' := by
  have hr : varV c = false := by unfold varV digV; simp; omega
  have hd : digV c = false := by unfold digV; simp; omega
  have HD := Lib.hid fun w => isDigitV_any c w
  rw [hd] at HD
  rw [hr]
  clear hd hr
  have d1 : decide ((97 : Int) ≤ (c.toNat : Int)) = false := by simp; omega
  have d2 : decide ((c.toNat : Int) ≤ 122) = true := by simp; omega
  have d3 : decide ((65 : Int) ≤ (c.toNat : Int)) = false := by simp; omega
  have d4 : decide ((c.toNat : Int) ≤ 90) = true := by simp; omega
  have d5 : ((c.toNat : Int) == 95) = false := by simp; omega
  clear ha hb
  generalize c.toNat = n at *
  go_enter Tryz.func139, Tryz.ntmps139
  go_wp2_with (go_at_call 73; refine (HD.out _).mono ?_; rintro e w1 ⟨rfl, rfl⟩)
  go_ret
  exact ⟨rfl, rfl⟩
set_option maxRecDepth 100000 in
theorem isVar1_1 (c : UInt8) (ha : 48 ≤ c.toNat) (hb : c.toNat ≤ 57) (w : World) : Calls Tryz.prog 139 #[.int .u8 c.toNat] w fun e w' => e = .returned (.bool (varV c)) ∧ w = w' := by
  have hr : varV c = true := by unfold varV digV; simp; omega
  have hd : digV c = true := by unfold digV; simp; omega
  have HD := Lib.hid fun w => isDigitV_any c w
  rw [hd] at HD
  rw [hr]
  clear hd hr
  have d1 : decide ((97 : Int) ≤ (c.toNat : Int)) = false := by simp; omega
  have d2 : decide ((c.toNat : Int) ≤ 122) = true := by simp; omega
  have d3 : decide ((65 : Int) ≤ (c.toNat : Int)) = false := by simp; omega
  have d4 : decide ((c.toNat : Int) ≤ 90) = true := by simp; omega
  have d5 : ((c.toNat : Int) == 95) = false := by simp; omega
  clear ha hb
  generalize c.toNat = n at *
  go_enter Tryz.func139, Tryz.ntmps139
  go_wp2_with (go_at_call 73; refine (HD.out _).mono ?_; rintro e w1 ⟨rfl, rfl⟩)
  go_ret
  exact ⟨rfl, rfl⟩
set_option maxRecDepth 100000 in
theorem isVar1_2 (c : UInt8) (ha : 58 ≤ c.toNat) (hb : c.toNat ≤ 64) (w : World) : Calls Tryz.prog 139 #[.int .u8 c.toNat] w fun e w' => e = .returned (.bool (varV c)) ∧ w = w' := by
  have hr : varV c = false := by unfold varV digV; simp; omega
  have hd : digV c = false := by unfold digV; simp; omega
  have HD := Lib.hid fun w => isDigitV_any c w
  rw [hd] at HD
  rw [hr]
  clear hd hr
  have d1 : decide ((97 : Int) ≤ (c.toNat : Int)) = false := by simp; omega
  have d2 : decide ((c.toNat : Int) ≤ 122) = true := by simp; omega
  have d3 : decide ((65 : Int) ≤ (c.toNat : Int)) = false := by simp; omega
  have d4 : decide ((c.toNat : Int) ≤ 90) = true := by simp; omega
  have d5 : ((c.toNat : Int) == 95) = false := by simp; omega
  clear ha hb
  generalize c.toNat = n at *
  go_enter Tryz.func139, Tryz.ntmps139
  go_wp2_with (go_at_call 73; refine (HD.out _).mono ?_; rintro e w1 ⟨rfl, rfl⟩)
  go_ret
  exact ⟨rfl, rfl⟩
set_option maxRecDepth 100000 in
theorem isVar1_3 (c : UInt8) (ha : 65 ≤ c.toNat) (hb : c.toNat ≤ 90) (w : World) : Calls Tryz.prog 139 #[.int .u8 c.toNat] w fun e w' => e = .returned (.bool (varV c)) ∧ w = w' := by
  have hr : varV c = true := by unfold varV digV; simp; omega
  have hd : digV c = false := by unfold digV; simp; omega
  have HD := Lib.hid fun w => isDigitV_any c w
  rw [hd] at HD
  rw [hr]
  clear hd hr
  have d1 : decide ((97 : Int) ≤ (c.toNat : Int)) = false := by simp; omega
  have d2 : decide ((c.toNat : Int) ≤ 122) = true := by simp; omega
  have d3 : decide ((65 : Int) ≤ (c.toNat : Int)) = true := by simp; omega
  have d4 : decide ((c.toNat : Int) ≤ 90) = true := by simp; omega
  have d5 : ((c.toNat : Int) == 95) = false := by simp; omega
  clear ha hb
  generalize c.toNat = n at *
  go_enter Tryz.func139, Tryz.ntmps139
  go_wp2_with (go_at_call 73; refine (HD.out _).mono ?_; rintro e w1 ⟨rfl, rfl⟩)
  go_ret
  exact ⟨rfl, rfl⟩
set_option maxRecDepth 100000 in
theorem isVar1_4 (c : UInt8) (ha : 91 ≤ c.toNat) (hb : c.toNat ≤ 94) (w : World) : Calls Tryz.prog 139 #[.int .u8 c.toNat] w fun e w' => e = .returned (.bool (varV c)) ∧ w = w' := by
  have hr : varV c = false := by unfold varV digV; simp; omega
  have hd : digV c = false := by unfold digV; simp; omega
  have HD := Lib.hid fun w => isDigitV_any c w
  rw [hd] at HD
  rw [hr]
  clear hd hr
  have d1 : decide ((97 : Int) ≤ (c.toNat : Int)) = false := by simp; omega
  have d2 : decide ((c.toNat : Int) ≤ 122) = true := by simp; omega
  have d3 : decide ((65 : Int) ≤ (c.toNat : Int)) = true := by simp; omega
  have d4 : decide ((c.toNat : Int) ≤ 90) = false := by simp; omega
  have d5 : ((c.toNat : Int) == 95) = false := by simp; omega
  clear ha hb
  generalize c.toNat = n at *
  go_enter Tryz.func139, Tryz.ntmps139
  go_wp2_with (go_at_call 73; refine (HD.out _).mono ?_; rintro e w1 ⟨rfl, rfl⟩)
  go_ret
  exact ⟨rfl, rfl⟩
set_option maxRecDepth 100000 in
theorem isVar1_5 (c : UInt8) (ha : 95 ≤ c.toNat) (hb : c.toNat ≤ 95) (w : World) : Calls Tryz.prog 139 #[.int .u8 c.toNat] w fun e w' => e = .returned (.bool (varV c)) ∧ w = w' := by
  have hr : varV c = true := by unfold varV digV; simp; omega
  have hd : digV c = false := by unfold digV; simp; omega
  have HD := Lib.hid fun w => isDigitV_any c w
  rw [hd] at HD
  rw [hr]
  clear hd hr
  have d1 : decide ((97 : Int) ≤ (c.toNat : Int)) = false := by simp; omega
  have d2 : decide ((c.toNat : Int) ≤ 122) = true := by simp; omega
  have d3 : decide ((65 : Int) ≤ (c.toNat : Int)) = true := by simp; omega
  have d4 : decide ((c.toNat : Int) ≤ 90) = false := by simp; omega
  have d5 : ((c.toNat : Int) == 95) = true := by simp; omega
  clear ha hb
  generalize c.toNat = n at *
  go_enter Tryz.func139, Tryz.ntmps139
  go_wp2_with (go_at_call 73; refine (HD.out _).mono ?_; rintro e w1 ⟨rfl, rfl⟩)
  go_ret
  exact ⟨rfl, rfl⟩
set_option maxRecDepth 100000 in
theorem isVar1_6 (c : UInt8) (ha : 96 ≤ c.toNat) (hb : c.toNat ≤ 96) (w : World) : Calls Tryz.prog 139 #[.int .u8 c.toNat] w fun e w' => e = .returned (.bool (varV c)) ∧ w = w' := by
  have hr : varV c = false := by unfold varV digV; simp; omega
  have hd : digV c = false := by unfold digV; simp; omega
  have HD := Lib.hid fun w => isDigitV_any c w
  rw [hd] at HD
  rw [hr]
  clear hd hr
  have d1 : decide ((97 : Int) ≤ (c.toNat : Int)) = false := by simp; omega
  have d2 : decide ((c.toNat : Int) ≤ 122) = true := by simp; omega
  have d3 : decide ((65 : Int) ≤ (c.toNat : Int)) = true := by simp; omega
  have d4 : decide ((c.toNat : Int) ≤ 90) = false := by simp; omega
  have d5 : ((c.toNat : Int) == 95) = false := by simp; omega
  clear ha hb
  generalize c.toNat = n at *
  go_enter Tryz.func139, Tryz.ntmps139
  go_wp2_with (go_at_call 73; refine (HD.out _).mono ?_; rintro e w1 ⟨rfl, rfl⟩)
  go_ret
  exact ⟨rfl, rfl⟩
set_option maxRecDepth 100000 in
theorem isVar1_7 (c : UInt8) (ha : 97 ≤ c.toNat) (hb : c.toNat ≤ 122) (w : World) : Calls Tryz.prog 139 #[.int .u8 c.toNat] w fun e w' => e = .returned (.bool (varV c)) ∧ w = w' := by
  have hr : varV c = true := by unfold varV digV; simp; omega
  have hd : digV c = false := by unfold digV; simp; omega
  have HD := Lib.hid fun w => isDigitV_any c w
  rw [hd] at HD
  rw [hr]
  clear hd hr
  have d1 : decide ((97 : Int) ≤ (c.toNat : Int)) = true := by simp; omega
  have d2 : decide ((c.toNat : Int) ≤ 122) = true := by simp; omega
  have d3 : decide ((65 : Int) ≤ (c.toNat : Int)) = true := by simp; omega
  have d4 : decide ((c.toNat : Int) ≤ 90) = false := by simp; omega
  have d5 : ((c.toNat : Int) == 95) = false := by simp; omega
  clear ha hb
  generalize c.toNat = n at *
  go_enter Tryz.func139, Tryz.ntmps139
  go_wp2_with (go_at_call 73; refine (HD.out _).mono ?_; rintro e w1 ⟨rfl, rfl⟩)
  go_ret
  exact ⟨rfl, rfl⟩
set_option maxRecDepth 100000 in
theorem isVar1_8 (c : UInt8) (ha : 123 ≤ c.toNat) (hb : c.toNat ≤ 255) (w : World) : Calls Tryz.prog 139 #[.int .u8 c.toNat] w fun e w' => e = .returned (.bool (varV c)) ∧ w = w' := by
  have hr : varV c = false := by unfold varV digV; simp; omega
  have hd : digV c = false := by unfold digV; simp; omega
  have HD := Lib.hid fun w => isDigitV_any c w
  rw [hd] at HD
  rw [hr]
  clear hd hr
  have d1 : decide ((97 : Int) ≤ (c.toNat : Int)) = true := by simp; omega
  have d2 : decide ((c.toNat : Int) ≤ 122) = false := by simp; omega
  have d3 : decide ((65 : Int) ≤ (c.toNat : Int)) = true := by simp; omega
  have d4 : decide ((c.toNat : Int) ≤ 90) = false := by simp; omega
  have d5 : ((c.toNat : Int) == 95) = false := by simp; omega
  clear ha hb
  generalize c.toNat = n at *
  go_enter Tryz.func139, Tryz.ntmps139
  go_wp2_with (go_at_call 73; refine (HD.out _).mono ?_; rintro e w1 ⟨rfl, rfl⟩)
  go_ret
  exact ⟨rfl, rfl⟩
theorem isVar1_any (c : UInt8) (w : World) : Calls Tryz.prog 139 #[.int .u8 c.toNat] w fun e w' => e = .returned (.bool (varV c)) ∧ w = w' := by
  have hr := c.toNat_lt
  by_cases h0 : c.toNat ≤ 47
  · exact isVar1_0 c (by omega) h0 w
  by_cases h1 : c.toNat ≤ 57
  · exact isVar1_1 c (by omega) h1 w
  by_cases h2 : c.toNat ≤ 64
  · exact isVar1_2 c (by omega) h2 w
  by_cases h3 : c.toNat ≤ 90
  · exact isVar1_3 c (by omega) h3 w
  by_cases h4 : c.toNat ≤ 94
  · exact isVar1_4 c (by omega) h4 w
  by_cases h5 : c.toNat ≤ 95
  · exact isVar1_5 c (by omega) h5 w
  by_cases h6 : c.toNat ≤ 96
  · exact isVar1_6 c (by omega) h6 w
  by_cases h7 : c.toNat ≤ 122
  · exact isVar1_7 c (by omega) h7 w
  exact isVar1_8 c (by omega) (by omega) w
end Go.Proofs.YtadifolonbkamaaGreatDoor
