/- The walks of the developers' tables of keys: unitKeys, serviceKeys, socketKeys, timerKeys, installKeys; within, keysOf.  -/
import Derived.Test.YtadifolonbkamaaGreatDoorKvae
import Derived.Test.YtadifolonbkamaaGreatDoorKvac
import Derived.Test.YtadifolonbkamaaGreatDoorKvad
namespace Go.Proofs.YtadifolonbkamaaGreatDoor
open Go.RowKit
def Ky.raw (x : Ky) : Kr := ⟨x.s, x.n, x.f, x.l, x.k, none, 0, 0⟩
theorem raw_is {w : World} {B : Nat} {x : Ky} (h : x.w = []) : x.raw.is w B x := ⟨rfl, rfl, rfl, rfl, rfl, by rw [h]; exact RowS.none_⟩
theorem raws_are {w : World} {B : Nat} {l : List Ky} (h : ∀ x ∈ l, x.w = []) : KrsAre w B (l.map Ky.raw) l := by
  induction l with
  | nil => exact KrsAre.nil
  | cons x l ih => exact KrsAre.cons (raw_is (h x (by simp))) (ih fun y hy => h y (by simp [hy]))
def TabP (l : List Ky) (w : World) (e : Ending) (w' : World) : Prop :=
  ∃ (g : Nat) (rs : List Kr), e = .returned (.slice (some ⟨g, 0, none⟩) l.length l.length) ∧ w.heap.size ≤ g ∧ Blk w' g 28 (krs rs).toArray ∧ KrsAre w' g rs l ∧ Below w.heap.size w w'
theorem TabP.plain {l : List Ky} {w : World} {cs : Array Value} (h : ∀ x ∈ l, x.w = []) (n : Nat) (hn : n = l.length) (hcs : cs = (krs (l.map Ky.raw)).toArray) : TabP l w (.returned (.slice (some ⟨w.heap.size, 0, none⟩) n n)) (w.alloc (.cells cs 28)) := by
  subst hcs
  exact ⟨w.heap.size, l.map Ky.raw, by rw [hn], Nat.le_refl _, Blk.new w _ _, raws_are h, (Below.refl _ w).alloc (Nat.le_refl _) _⟩
set_option maxRecDepth 100000 in
theorem timerKeys_any (w : World) : Calls Tryz.prog 45 #[] w (TabP tTime w) := by
  go_enter Tryz.func45, Tryz.ntmps45
  go_wp2
  go_ret
  exact TabP.plain (l := tTime) (by decide) 6 rfl (by kernel_rfl)
set_option maxRecDepth 100000 in
set_option maxHeartbeats 1000000 in
theorem unitKeys_any (w : World) : Calls Tryz.prog 42 #[] w (TabP tUnit w) := by
  go_enter Tryz.func42, Tryz.ntmps42
  go_wp2
  go_ret
  exact TabP.plain (l := tUnit) (by decide) 13 rfl (by kernel_rfl)
set_option maxRecDepth 100000 in
theorem socketKeys_any (w : World) : Calls Tryz.prog 44 #[] w (TabP tSock w) := by
  go_enter Tryz.func44, Tryz.ntmps44
  go_wp2
  go_ret
  exact TabP.plain (l := tSock) (by decide) 4 rfl (by kernel_rfl)
set_option maxRecDepth 100000 in
theorem installKeys_any (w : World) : Calls Tryz.prog 46 #[] w (TabP tInst w) := by
  go_enter Tryz.func46, Tryz.ntmps46
  go_wp2
  go_ret
  exact TabP.plain (l := tInst) (by decide) 5 rfl (by kernel_rfl)
theorem rowS_blk {w : World} {g n : Nat} {l : List (List UInt8)} {B : Nat} (h : Blk w g 9 (wcells l).toArray) (hl : l.length = n) (hn : n ≤ maxLen) (hB : g < B) : RowS w B (some ⟨g, 0, none⟩) n l := by
  refine ⟨?_, fun ad e => by cases e; exact ⟨hB, _, _, h⟩⟩
  refine ⟨hl, hn, fun _ => ⟨⟨g, 0, none⟩, rfl, hB, fun j x hj => ?_⟩⟩
  have : (⟨g, 0, none⟩ : Addr).add j = ⟨g, j, none⟩ := by unfold Addr.add; split <;> simp_all
  rw [this, h.cell j]
  unfold wcells
  simp [hj]
def wType : List (List UInt8) := [[115, 105, 109, 112, 108, 101], [111, 110, 101, 115, 104, 111, 116], [110, 111, 116, 105, 102, 121]]
def wRest : List (List UInt8) := [[110, 111], [111, 110, 45, 115, 117, 99, 99, 101, 115, 115], [111, 110, 45, 102, 97, 105, 108, 117, 114, 101], [111, 110, 45, 97, 98, 110, 111, 114, 109, 97, 108], [97, 108, 119, 97, 121, 115]]
def servRs (g : Nat) : List Kr := [⟨[], [84, 121, 112, 101], 10, false, 0, some ⟨g, 0, none⟩, 3, 3⟩,
  ⟨[], [69, 120, 101, 99, 83, 116, 97, 114, 116, 80, 114, 101], 7, true, 0, none, 0, 0⟩,
  ⟨[], [69, 120, 101, 99, 83, 116, 97, 114, 116], 7, true, 0, none, 0, 0⟩,
  ⟨[], [69, 120, 101, 99, 83, 116, 97, 114, 116, 80, 111, 115, 116], 7, true, 0, none, 0, 0⟩,
  ⟨[], [69, 120, 101, 99, 83, 116, 111, 112], 7, true, 0, none, 0, 0⟩,
  ⟨[], [69, 120, 101, 99, 82, 101, 108, 111, 97, 100], 7, true, 0, none, 0, 0⟩,
  ⟨[], [82, 101, 109, 97, 105, 110, 65, 102, 116, 101, 114, 69, 120, 105, 116], 2, false, 0, none, 0, 0⟩,
  ⟨[], [82, 101, 115, 116, 97, 114, 116], 10, false, 0, some ⟨g + 1, 0, none⟩, 5, 5⟩,
  ⟨[], [82, 101, 115, 116, 97, 114, 116, 83, 101, 99], 4, false, 0, none, 0, 0⟩,
  ⟨[], [84, 105, 109, 101, 111, 117, 116, 83, 116, 97, 114, 116, 83, 101, 99], 4, false, 0, none, 0, 0⟩,
  ⟨[], [84, 105, 109, 101, 111, 117, 116, 83, 116, 111, 112, 83, 101, 99], 4, false, 0, none, 0, 0⟩,
  ⟨[], [83, 117, 99, 99, 101, 115, 115, 69, 120, 105, 116, 83, 116, 97, 116, 117, 115], 11, true, 0, none, 0, 0⟩,
  ⟨[], [69, 110, 118, 105, 114, 111, 110, 109, 101, 110, 116], 8, true, 0, none, 0, 0⟩,
  ⟨[], [83, 111, 99, 107, 101, 116, 115], 6, true, 0, none, 0, 0⟩]
set_option maxRecDepth 100000 in
theorem serv_are (w : World) (g : Nat) (h1 : Blk w g 9 (wcells wType).toArray) (h2 : Blk w (g + 1) 9 (wcells wRest).toArray) (B : Nat) (hB : g + 2 ≤ B) : KrsAre w B (servRs g) tServ := by
  have r1 : RowS w B (some ⟨g, 0, none⟩) 3 wType := rowS_blk h1 rfl (by decide) (by omega)
  have r2 : RowS w B (some ⟨g + 1, 0, none⟩) 5 wRest := rowS_blk h2 rfl (by decide) (by omega)
  have r0 : RowS w B none 0 [] := RowS.none_
  refine KrsAre.cons ⟨rfl, rfl, rfl, rfl, rfl, r1⟩ ?_
  refine KrsAre.cons ⟨rfl, rfl, rfl, rfl, rfl, r0⟩ ?_
  refine KrsAre.cons ⟨rfl, rfl, rfl, rfl, rfl, r0⟩ ?_
  refine KrsAre.cons ⟨rfl, rfl, rfl, rfl, rfl, r0⟩ ?_
  refine KrsAre.cons ⟨rfl, rfl, rfl, rfl, rfl, r0⟩ ?_
  refine KrsAre.cons ⟨rfl, rfl, rfl, rfl, rfl, r0⟩ ?_
  refine KrsAre.cons ⟨rfl, rfl, rfl, rfl, rfl, r0⟩ ?_
  refine KrsAre.cons ⟨rfl, rfl, rfl, rfl, rfl, r2⟩ ?_
  refine KrsAre.cons ⟨rfl, rfl, rfl, rfl, rfl, r0⟩ ?_
  refine KrsAre.cons ⟨rfl, rfl, rfl, rfl, rfl, r0⟩ ?_
  refine KrsAre.cons ⟨rfl, rfl, rfl, rfl, rfl, r0⟩ ?_
  refine KrsAre.cons ⟨rfl, rfl, rfl, rfl, rfl, r0⟩ ?_
  refine KrsAre.cons ⟨rfl, rfl, rfl, rfl, rfl, r0⟩ ?_
  refine KrsAre.cons ⟨rfl, rfl, rfl, rfl, rfl, r0⟩ ?_
  exact KrsAre.nil
theorem TabP.serv {w : World} {c1 c2 c3 : Array Value} (h1 : c1 = (wcells wType).toArray) (h2 : c2 = (wcells wRest).toArray) (h3 : c3 = (krs (servRs w.heap.size)).toArray) :
    TabP tServ w (.returned (.slice (some ⟨w.heap.size + 1 + 1, 0, none⟩) 14 14)) (((w.alloc (.cells c1 9)).alloc (.cells c2 9)).alloc (.cells c3 28)) := by
  subst h1 h2 h3
  have b1 : Blk ((w.alloc (.cells (wcells wType).toArray 9)).alloc (.cells (wcells wRest).toArray 9)) w.heap.size 9 (wcells wType).toArray := (Blk.new w _ _).alloc _
  have b2 : Blk ((w.alloc (.cells (wcells wType).toArray 9)).alloc (.cells (wcells wRest).toArray 9)) (w.heap.size + 1) 9 (wcells wRest).toArray := by
    have := Blk.new (w.alloc (.cells (wcells wType).toArray 9)) 9 (wcells wRest).toArray
    rwa [World.size_alloc] at this
  refine ⟨w.heap.size + 1 + 1, servRs w.heap.size, rfl, by omega, ?_, serv_are _ _ (b1.alloc _) (b2.alloc _) _ (by omega), ?_⟩
  · have := Blk.new ((w.alloc (.cells (wcells wType).toArray 9)).alloc (.cells (wcells wRest).toArray 9)) 28 (krs (servRs w.heap.size)).toArray
    rw [World.size_alloc, World.size_alloc] at this
    exact this
  · exact (((Below.refl _ w).alloc (Nat.le_refl _) _).alloc (by simp) _).alloc (by simp; omega) _
set_option maxRecDepth 100000 in
set_option maxHeartbeats 1000000 in
theorem serviceKeys_any (w : World) : Calls Tryz.prog 43 #[] w (TabP tServ w) := by
  go_enter Tryz.func43, Tryz.ntmps43
  go_wp2
  go_ret
  exact TabP.serv (by kernel_rfl) (by kernel_rfl) (by kernel_rfl)
def Kr.into (s : List UInt8) (k : Int) (r : Kr) : Kr := { r with s := s, k := k }
theorem krs_set0 (a b : List Kr) (r : Kr) (s : List UInt8) : (krs (a ++ r :: b)).toArray.setIfInBounds (a.length * 6) (.string (str s)) = (krs (a ++ { r with s := s } :: b)).toArray := by
  apply Array.toList_inj.1
  rw [Array.toList_setIfInBounds, krs_append, krs_append, List.toList_toArray, List.toList_toArray]
  rw [List.set_append, if_neg (by rw [krs_length]; omega), krs_length, Nat.sub_self]
  rfl
theorem krs_set4 (a b : List Kr) (r : Kr) (k : Int) : (krs (a ++ r :: b)).toArray.setIfInBounds (a.length * 6 + 4) (.int .i64 k) = (krs (a ++ { r with k := k } :: b)).toArray := by
  apply Array.toList_inj.1
  rw [Array.toList_setIfInBounds, krs_append, krs_append, List.toList_toArray, List.toList_toArray]
  rw [List.set_append, if_neg (by rw [krs_length]; omega), krs_length, show a.length * 6 + 4 - a.length * 6 = 4 by omega]
  rfl
end Go.Proofs.YtadifolonbkamaaGreatDoor
namespace Go.Proofs.YtadifolonbkamaaGreatDoor
open Go.RowKit
theorem eq_litV (s : ByteArray) (l : List UInt8) : (s.toList == l) = decide (s.data.toList = l) := by
  rw [Lib.toList_data, Bool.eq_iff_iff, decide_eq_true_eq, beq_iff_eq]
def boolWs : List (List UInt8) := [[121, 101, 115], [116, 114, 117, 101], [49], [110, 111], [102, 97, 108, 115, 101], [48]]
def boolS (s : ByteArray) : Bool := boolWs.any fun x => decide (s.data.toList = x)
set_option maxHeartbeats 4000000 in
theorem isBool_any (s : ByteArray) (w : World) : Calls Tryz.prog 48 #[.string s] w fun e w' => e = .returned (.bool (boolS s)) ∧ Below w.heap.size w w' := by
  have q0 : (s.toList == ([121, 101, 115] : List UInt8)) = decide (s.data.toList = [121, 101, 115]) := eq_litV s _
  have q1 : (s.toList == ([116, 114, 117, 101] : List UInt8)) = decide (s.data.toList = [116, 114, 117, 101]) := eq_litV s _
  have q2 : (s.toList == ([49] : List UInt8)) = decide (s.data.toList = [49]) := eq_litV s _
  have q3 : (s.toList == ([110, 111] : List UInt8)) = decide (s.data.toList = [110, 111]) := eq_litV s _
  have q4 : (s.toList == ([102, 97, 108, 115, 101] : List UInt8)) = decide (s.data.toList = [102, 97, 108, 115, 101]) := eq_litV s _
  have q5 : (s.toList == ([48] : List UInt8)) = decide (s.data.toList = [48]) := eq_litV s _
  have hb : boolS s = (decide (s.data.toList = [121, 101, 115]) || (decide (s.data.toList = [116, 114, 117, 101]) || (decide (s.data.toList = [49]) || (decide (s.data.toList = [110, 111]) || (decide (s.data.toList = [102, 97, 108, 115, 101]) || decide (s.data.toList = [48])))))) := by
    simp [boolS, boolWs]
  rw [hb]
  clear hb
  generalize decide (s.data.toList = [121, 101, 115]) = b0 at *
  generalize decide (s.data.toList = [116, 114, 117, 101]) = b1 at *
  generalize decide (s.data.toList = [49]) = b2 at *
  generalize decide (s.data.toList = [110, 111]) = b3 at *
  generalize decide (s.data.toList = [102, 97, 108, 115, 101]) = b4 at *
  generalize decide (s.data.toList = [48]) = b5 at *
  rcases b0 with _ | _
  · rcases b1 with _ | _
    · rcases b2 with _ | _
      · rcases b3 with _ | _
        · rcases b4 with _ | _
          · rcases b5 with _ | _
            all_goals
              go_enter Tryz.func48, Tryz.ntmps48
              go_wp2_with fail
              go_ret
              exact ⟨rfl, Below.refl _ _⟩
          · go_enter Tryz.func48, Tryz.ntmps48
            go_wp2_with fail
            go_ret
            exact ⟨rfl, Below.refl _ _⟩
        · go_enter Tryz.func48, Tryz.ntmps48
          go_wp2_with fail
          go_ret
          exact ⟨rfl, Below.refl _ _⟩
      · go_enter Tryz.func48, Tryz.ntmps48
        go_wp2_with fail
        go_ret
        exact ⟨rfl, Below.refl _ _⟩
    · go_enter Tryz.func48, Tryz.ntmps48
      go_wp2_with fail
      go_ret
      exact ⟨rfl, Below.refl _ _⟩
  · go_enter Tryz.func48, Tryz.ntmps48
    go_wp2_with fail
    go_ret
    exact ⟨rfl, Below.refl _ _⟩
def digV (c : UInt8) : Bool := decide (48 ≤ c.toNat) && decide (c.toNat ≤ 57)
def varV (c : UInt8) : Bool := (decide (97 ≤ c.toNat) && decide (c.toNat ≤ 122)) || (decide (65 ≤ c.toNat) && decide (c.toNat ≤ 90)) || digV c || decide (c.toNat = 95)
theorem isDigitV_any (c : UInt8) (w : World) : Calls Tryz.prog 73 #[.int .u8 c.toNat] w fun e w' => e = .returned (.bool (digV c)) ∧ w = w' := by
  unfold digV
  by_cases h1 : c.toNat < 48
  · have h1' : (c.toNat : Int) < 48 := by omega
    have d1 : decide ((48 : Int) ≤ (c.toNat : Int)) = false := by simp; omega
    have HD := Lib.hid (show (decide (48 ≤ c.toNat) && decide (c.toNat ≤ 57)) = false by simp; omega)
    go_enter Tryz.func73, Tryz.ntmps73
    go_wp2_with fail
    go_ret
    exact ⟨ret_bool HD.out.symm, rfl⟩
  · have h1' : (48 : Int) ≤ (c.toNat : Int) := by omega
    by_cases h2 : c.toNat ≤ 57
    · have h2' : (c.toNat : Int) ≤ 57 := by omega
      have HD := Lib.hid (show (decide (48 ≤ c.toNat) && decide (c.toNat ≤ 57)) = true by simp; omega)
      clear h1 h2
      go_enter Tryz.func73, Tryz.ntmps73
      go_wp2_with fail
      go_ret
      exact ⟨ret_bool HD.out.symm, rfl⟩
    · have h2' : (57 : Int) < (c.toNat : Int) := by omega
      have d1 : decide ((c.toNat : Int) ≤ 57) = false := by simp; omega
      have HD := Lib.hid (show (decide (48 ≤ c.toNat) && decide (c.toNat ≤ 57)) = false by simp; omega)
      clear h1 h2
      go_enter Tryz.func73, Tryz.ntmps73
      go_wp2_with fail
      go_ret
      exact ⟨ret_bool HD.out.symm, rfl⟩
set_option maxRecDepth 100000 in
theorem isVar1_0 (c : UInt8) (ha : 0 ≤ c.toNat) (hb : c.toNat ≤ 47) (w : World) : Calls Tryz.prog 139 #[.int .u8 c.toNat] w fun e w' => e = .returned (.bool (varV c)) ∧ w = w' := by
  have hr : varV c = false := by unfold varV digV; simp; omega
  have hd : digV c = false := by unfold digV; simp; omega
  have HD := Lib.hid fun w => isDigitV_any c w
  rw [hd] at HD
  rw [hr]
  clear hd hr
  have d1 : decide ((97 : Int) ≤ (c.toNat : Int)) = false := by simp; omega
  have d2 : decide ((c.toNat : Int) ≤ 122) = true := by simp; omega
  have d3 : decide ((65 : Int) ≤ (c.toNat : Int)) = false := by simp; omega
  have d4 : decide ((c.toNat : Int) ≤ 90) = true := by simp; omega
  have d5 : ((c.toNat : Int) == 95) = false := by simp; omega
  clear ha hb
  generalize c.toNat = n at *
  go_enter Tryz.func139, Tryz.ntmps139
  go_wp2_with (go_at_call 73; refine (HD.out _).mono ?_; rintro e w1 ⟨rfl, rfl⟩)
  go_ret
  exact ⟨rfl, rfl⟩
set_option maxRecDepth 100000 in
theorem isVar1_1 (c : UInt8) (ha : 48 ≤ c.toNat) (hb : c.toNat ≤ 57) (w : World) : Calls Tryz.prog 139 #[.int .u8 c.toNat] w fun e w' => e = .returned (.bool (varV c)) ∧ w = w' := by
  have hr : varV c = true := by unfold varV digV; simp; omega
  have hd : digV c = true := by unfold digV; simp; omega
  have HD := Lib.hid fun w => isDigitV_any c w
  rw [hd] at HD
  rw [hr]
  clear hd hr
  have d1 : decide ((97 : Int) ≤ (c.toNat : Int)) = false := by simp; omega
  have d2 : decide ((c.toNat : Int) ≤ 122) = true := by simp; omega
  have d3 : decide ((65 : Int) ≤ (c.toNat : Int)) = false := by simp; omega
  have d4 : decide ((c.toNat : Int) ≤ 90) = true := by simp; omega
  have d5 : ((c.toNat : Int) == 95) = false := by simp; omega
  clear ha hb
  generalize c.toNat = n at *
  go_enter Tryz.func139, Tryz.ntmps139
  go_wp2_with (go_at_call 73; refine (HD.out _).mono ?_; rintro e w1 ⟨rfl, rfl⟩)
  go_ret
  exact ⟨rfl, rfl⟩
set_option maxRecDepth 100000 in
theorem isVar1_2 (c : UInt8) (ha : 58 ≤ c.toNat) (hb : c.toNat ≤ 64) (w : World) : Calls Tryz.prog 139 #[.int .u8 c.toNat] w fun e w' => e = .returned (.bool (varV c)) ∧ w = w' := by
  have hr : varV c = false := by unfold varV digV; simp; omega
  have hd : digV c = false := by unfold digV; simp; omega
  have HD := Lib.hid fun w => isDigitV_any c w
  rw [hd] at HD
  rw [hr]
  clear hd hr
  have d1 : decide ((97 : Int) ≤ (c.toNat : Int)) = false := by simp; omega
  have d2 : decide ((c.toNat : Int) ≤ 122) = true := by simp; omega
  have d3 : decide ((65 : Int) ≤ (c.toNat : Int)) = false := by simp; omega
  have d4 : decide ((c.toNat : Int) ≤ 90) = true := by simp; omega
  have d5 : ((c.toNat : Int) == 95) = false := by simp; omega
  clear ha hb
  generalize c.toNat = n at *
  go_enter Tryz.func139, Tryz.ntmps139
  go_wp2_with (go_at_call 73; refine (HD.out _).mono ?_; rintro e w1 ⟨rfl, rfl⟩)
  go_ret
  exact ⟨rfl, rfl⟩
set_option maxRecDepth 100000 in
theorem isVar1_3 (c : UInt8) (ha : 65 ≤ c.toNat) (hb : c.toNat ≤ 90) (w : World) : Calls Tryz.prog 139 #[.int .u8 c.toNat] w fun e w' => e = .returned (.bool (varV c)) ∧ w = w' := by
  have hr : varV c = true := by unfold varV digV; simp; omega
  have hd : digV c = false := by unfold digV; simp; omega
  have HD := Lib.hid fun w => isDigitV_any c w
  rw [hd] at HD
  rw [hr]
  clear hd hr
  have d1 : decide ((97 : Int) ≤ (c.toNat : Int)) = false := by simp; omega
  have d2 : decide ((c.toNat : Int) ≤ 122) = true := by simp; omega
  have d3 : decide ((65 : Int) ≤ (c.toNat : Int)) = true := by simp; omega
  have d4 : decide ((c.toNat : Int) ≤ 90) = true := by simp; omega
  have d5 : ((c.toNat : Int) == 95) = false := by simp; omega
  clear ha hb
  generalize c.toNat = n at *
  go_enter Tryz.func139, Tryz.ntmps139
  go_wp2_with (go_at_call 73; refine (HD.out _).mono ?_; rintro e w1 ⟨rfl, rfl⟩)
  go_ret
  exact ⟨rfl, rfl⟩
set_option maxRecDepth 100000 in
theorem isVar1_4 (c : UInt8) (ha : 91 ≤ c.toNat) (hb : c.toNat ≤ 94) (w : World) : Calls Tryz.prog 139 #[.int .u8 c.toNat] w fun e w' => e = .returned (.bool (varV c)) ∧ w = w' := by
  have hr : varV c = false := by unfold varV digV; simp; omega
  have hd : digV c = false := by unfold digV; simp; omega
  have HD := Lib.hid fun w => isDigitV_any c w
  rw [hd] at HD
  rw [hr]
  clear hd hr
  have d1 : decide ((97 : Int) ≤ (c.toNat : Int)) = false := by simp; omega
  have d2 : decide ((c.toNat : Int) ≤ 122) = true := by simp; omega
  have d3 : decide ((65 : Int) ≤ (c.toNat : Int)) = true := by simp; omega
  have d4 : decide ((c.toNat : Int) ≤ 90) = false := by simp; omega
  have d5 : ((c.toNat : Int) == 95) = false := by simp; omega
  clear ha hb
  generalize c.toNat = n at *
  go_enter Tryz.func139, Tryz.ntmps139
  go_wp2_with (go_at_call 73; refine (HD.out _).mono ?_; rintro e w1 ⟨rfl, rfl⟩)
  go_ret
  exact ⟨rfl, rfl⟩
set_option maxRecDepth 100000 in
theorem isVar1_5 (c : UInt8) (ha : 95 ≤ c.toNat) (hb : c.toNat ≤ 95) (w : World) : Calls Tryz.prog 139 #[.int .u8 c.toNat] w fun e w' => e = .returned (.bool (varV c)) ∧ w = w' := by
  have hr : varV c = true := by unfold varV digV; simp; omega
  have hd : digV c = false := by unfold digV; simp; omega
  have HD := Lib.hid fun w => isDigitV_any c w
  rw [hd] at HD
  rw [hr]
  clear hd hr
  have d1 : decide ((97 : Int) ≤ (c.toNat : Int)) = false := by simp; omega
  have d2 : decide ((c.toNat : Int) ≤ 122) = true := by simp; omega
  have d3 : decide ((65 : Int) ≤ (c.toNat : Int)) = true := by simp; omega
  have d4 : decide ((c.toNat : Int) ≤ 90) = false := by simp; omega
  have d5 : ((c.toNat : Int) == 95) = true := by simp; omega
  clear ha hb
  generalize c.toNat = n at *
  go_enter Tryz.func139, Tryz.ntmps139
  go_wp2_with (go_at_call 73; refine (HD.out _).mono ?_; rintro e w1 ⟨rfl, rfl⟩)
  go_ret
  exact ⟨rfl, rfl⟩
set_option maxRecDepth 100000 in
theorem isVar1_6 (c : UInt8) (ha : 96 ≤ c.toNat) (hb : c.toNat ≤ 96) (w : World) : Calls Tryz.prog 139 #[.int .u8 c.toNat] w fun e w' => e = .returned (.bool (varV c)) ∧ w = w' := by
  have hr : varV c = false := by unfold varV digV; simp; omega
  have hd : digV c = false := by unfold digV; simp; omega
  have HD := Lib.hid fun w => isDigitV_any c w
  rw [hd] at HD
  rw [hr]
  clear hd hr
  have d1 : decide ((97 : Int) ≤ (c.toNat : Int)) = false := by simp; omega
  have d2 : decide ((c.toNat : Int) ≤ 122) = true := by simp; omega
  have d3 : decide ((65 : Int) ≤ (c.toNat : Int)) = true := by simp; omega
  have d4 : decide ((c.toNat : Int) ≤ 90) = false := by simp; omega
  have d5 : ((c.toNat : Int) == 95) = false := by simp; omega
  clear ha hb
  generalize c.toNat = n at *
  go_enter Tryz.func139, Tryz.ntmps139
  go_wp2_with (go_at_call 73; refine (HD.out _).mono ?_; rintro e w1 ⟨rfl, rfl⟩)
  go_ret
  exact ⟨rfl, rfl⟩
set_option maxRecDepth 100000 in
theorem isVar1_7 (c : UInt8) (ha : 97 ≤ c.toNat) (hb : c.toNat ≤ 122) (w : World) : Calls Tryz.prog 139 #[.int .u8 c.toNat] w fun e w' => e = .returned (.bool (varV c)) ∧ w = w' := by
  have hr : varV c = true := by unfold varV digV; simp; omega
  have hd : digV c = false := by unfold digV; simp; omega
  have HD := Lib.hid fun w => isDigitV_any c w
  rw [hd] at HD
  rw [hr]
  clear hd hr
  have d1 : decide ((97 : Int) ≤ (c.toNat : Int)) = true := by simp; omega
  have d2 : decide ((c.toNat : Int) ≤ 122) = true := by simp; omega
  have d3 : decide ((65 : Int) ≤ (c.toNat : Int)) = true := by simp; omega
  have d4 : decide ((c.toNat : Int) ≤ 90) = false := by simp; omega
  have d5 : ((c.toNat : Int) == 95) = false := by simp; omega
  clear ha hb
  generalize c.toNat = n at *
  go_enter Tryz.func139, Tryz.ntmps139
  go_wp2_with (go_at_call 73; refine (HD.out _).mono ?_; rintro e w1 ⟨rfl, rfl⟩)
  go_ret
  exact ⟨rfl, rfl⟩
set_option maxRecDepth 100000 in
theorem isVar1_8 (c : UInt8) (ha : 123 ≤ c.toNat) (hb : c.toNat ≤ 255) (w : World) : Calls Tryz.prog 139 #[.int .u8 c.toNat] w fun e w' => e = .returned (.bool (varV c)) ∧ w = w' := by
  have hr : varV c = false := by unfold varV digV; simp; omega
  have hd : digV c = false := by unfold digV; simp; omega
  have HD := Lib.hid fun w => isDigitV_any c w
  rw [hd] at HD
  rw [hr]
  clear hd hr
  have d1 : decide ((97 : Int) ≤ (c.toNat : Int)) = true := by simp; omega
  have d2 : decide ((c.toNat : Int) ≤ 122) = false := by simp; omega
  have d3 : decide ((65 : Int) ≤ (c.toNat : Int)) = true := by simp; omega
  have d4 : decide ((c.toNat : Int) ≤ 90) = false := by simp; omega
  have d5 : ((c.toNat : Int) == 95) = false := by simp; omega
  clear ha hb
  generalize c.toNat = n at *
  go_enter Tryz.func139, Tryz.ntmps139
  go_wp2_with (go_at_call 73; refine (HD.out _).mono ?_; rintro e w1 ⟨rfl, rfl⟩)
  go_ret
  exact ⟨rfl, rfl⟩
theorem isVar1_any (c : UInt8) (w : World) : Calls Tryz.prog 139 #[.int .u8 c.toNat] w fun e w' => e = .returned (.bool (varV c)) ∧ w = w' := by
  have hr := c.toNat_lt
  by_cases h0 : c.toNat ≤ 47
  · exact isVar1_0 c (by omega) h0 w
  by_cases h1 : c.toNat ≤ 57
  · exact isVar1_1 c (by omega) h1 w
  by_cases h2 : c.toNat ≤ 64
  · exact isVar1_2 c (by omega) h2 w
  by_cases h3 : c.toNat ≤ 90
  · exact isVar1_3 c (by omega) h3 w
  by_cases h4 : c.toNat ≤ 94
  · exact isVar1_4 c (by omega) h4 w
  by_cases h5 : c.toNat ≤ 95
  · exact isVar1_5 c (by omega) h5 w
  by_cases h6 : c.toNat ≤ 96
  · exact isVar1_6 c (by omega) h6 w
  by_cases h7 : c.toNat ≤ 122
  · exact isVar1_7 c (by omega) h7 w
  exact isVar1_8 c (by omega) (by omega) w
end Go.Proofs.YtadifolonbkamaaGreatDoor
namespace Go.Proofs.YtadifolonbkamaaGreatDoor
open Go.RowKit
theorem all_succV {p : UInt8 → Bool} (s : ByteArray) (k : Nat) (h : k < s.size) (hb : (s.data.toList.take k).all p = true) (hc : p s[k] = true) : (s.data.toList.take (k + 1)).all p = true := by
  rw [take_at s k h, List.all_append, hb]; simp [hc]
theorem all_falseV {p : UInt8 → Bool} (s : ByteArray) (k : Nat) (h : k < s.size) (hc : p s[k] = false) : s.data.toList.all p = false := by
  rw [Bool.eq_false_iff]
  intro e
  rw [List.all_eq_true] at e
  have := e s[k] (by rw [← List.take_append_drop k s.data.toList, drop_at s k h]; simp)
  rw [hc] at this; cases this
theorem all_endV {p : UInt8 → Bool} (s : ByteArray) (k : Nat) (h : s.size ≤ k) (hb : (s.data.toList.take k).all p = true) : s.data.toList.all p = true := by
  rwa [List.take_of_length_le (by rw [size_list]; exact h)] at hb
def consS (p : UInt8 → Bool) (s : ByteArray) : Bool := s.data.toList.all p && !s.toList.isEmpty
theorem consS_no {p : UInt8 → Bool} {s : ByteArray} (h : s.data.toList.all p = false) : consS p s = false := by unfold consS; rw [h]; rfl
theorem consS_end {p : UInt8 → Bool} {s : ByteArray} (h : s.data.toList.all p = true) : consS p s = !s.toList.isEmpty := by unfold consS; rw [h]; rfl
set_option maxHeartbeats 2000000 in
theorem cons_dig (s : ByteArray) (hs : s.size ≤ maxLen) (w : World) :
    Calls Tryz.prog 72 #[.string s, .func (.func 73) #[] #[]] w fun e w' => e = .returned (.bool (consS digV s)) ∧ w = w' := by
  unfold maxLen at hs
  have HK0 : Hid ((s.data.toList.take 0).all digV = true) := rfl
  go_enter Tryz.func72, Tryz.ntmps72
  go_wp2_with fail
  go_loopw [8] (fun i wr => ∃ k : Nat, k ≤ s.size ∧ i = .int .i64 k ∧ w = wr ∧ Hid ((s.data.toList.take k).all digV = true)) (fun i wr => s.size - (intOf i).toNat)
  case atStart => exact ⟨0, Nat.zero_le _, rfl, rfl, HK0⟩
  case round =>
    obtain ⟨k, hk, rfl, rfl, HK⟩ := hrel
    by_cases hlt : k < s.size
    · have b0 : (0 : Int) ≤ (k : Int) := by omega
      have b1 : (k : Int) < (s.size : Int) := by omega
      have HCC := Lib.hid fun w => isDigitV_any s[k] w
      rcases hc : digV s[k] with _ | _
      · have HC : Hid (consS digV s = false) := consS_no (all_falseV s k hlt hc)
        rw [hc] at HCC
        clear hc
        go_wp2_with (go_at_call 73; refine (HCC.out _).mono ?_; rintro e w' ⟨rfl, rfl⟩)
        go_ret
        exact ⟨ret_bool HC.out.symm, by first | rfl | trivial⟩
      · have HC : Hid ((s.data.toList.take (k + 1)).all digV = true) := all_succV s k hlt HK.out hc
        rw [hc] at HCC
        clear hc
        go_wp2_with (go_at_call 73; refine (HCC.out _).mono ?_; rintro e w' ⟨rfl, rfl⟩)
        go_roundw
        case rel => exact ⟨k + 1, by omega, by go_num, by first | rfl | trivial, HC⟩
        case measure => simp [intOf]; omega
    · have HC : Hid (consS digV s = !s.toList.isEmpty) := consS_end (all_endV s k (by omega) HK.out)
      rcases he : s.toList.isEmpty with _ | _
      all_goals
        rw [he] at HC
        go_wp2_with fail
        go_ret
        exact ⟨ret_bool HC.out.symm, by first | rfl | trivial⟩
set_option maxHeartbeats 2000000 in
theorem cons_var (s : ByteArray) (hs : s.size ≤ maxLen) (w : World) :
    Calls Tryz.prog 72 #[.string s, .func (.func 139) #[] #[]] w fun e w' => e = .returned (.bool (consS varV s)) ∧ w = w' := by
  unfold maxLen at hs
  have HK0 : Hid ((s.data.toList.take 0).all varV = true) := rfl
  go_enter Tryz.func72, Tryz.ntmps72
  go_wp2_with fail
  go_loopw [8] (fun i wr => ∃ k : Nat, k ≤ s.size ∧ i = .int .i64 k ∧ w = wr ∧ Hid ((s.data.toList.take k).all varV = true)) (fun i wr => s.size - (intOf i).toNat)
  case atStart => exact ⟨0, Nat.zero_le _, rfl, rfl, HK0⟩
  case round =>
    obtain ⟨k, hk, rfl, rfl, HK⟩ := hrel
    by_cases hlt : k < s.size
    · have b0 : (0 : Int) ≤ (k : Int) := by omega
      have b1 : (k : Int) < (s.size : Int) := by omega
      have HCC := Lib.hid fun w => isVar1_any s[k] w
      rcases hc : varV s[k] with _ | _
      · have HC : Hid (consS varV s = false) := consS_no (all_falseV s k hlt hc)
        rw [hc] at HCC
        clear hc
        go_wp2_with (go_at_call 139; refine (HCC.out _).mono ?_; rintro e w' ⟨rfl, rfl⟩)
        go_ret
        exact ⟨ret_bool HC.out.symm, by first | rfl | trivial⟩
      · have HC : Hid ((s.data.toList.take (k + 1)).all varV = true) := all_succV s k hlt HK.out hc
        rw [hc] at HCC
        clear hc
        go_wp2_with (go_at_call 139; refine (HCC.out _).mono ?_; rintro e w' ⟨rfl, rfl⟩)
        go_roundw
        case rel => exact ⟨k + 1, by omega, by go_num, by first | rfl | trivial, HC⟩
        case measure => simp [intOf]; omega
    · have HC : Hid (consS varV s = !s.toList.isEmpty) := consS_end (all_endV s k (by omega) HK.out)
      rcases he : s.toList.isEmpty with _ | _
      all_goals
        rw [he] at HC
        go_wp2_with fail
        go_ret
        exact ⟨ret_bool HC.out.symm, by first | rfl | trivial⟩
theorem decFrom_dig (l : List UInt8) (acc : Nat) (h : l.all digV = true) : ∃ n, Lib.decFrom acc l = some n := by
  induction l generalizing acc with
  | nil => exact ⟨acc, rfl⟩
  | cons c l ih =>
    rw [List.all_cons, Bool.and_eq_true] at h
    have hc : 48 ≤ c.toNat ∧ c.toNat ≤ 57 := by have := h.1; unfold digV at this; simpa using this
    have hd : Lib.digitVal c = some (c.toNat - 48) := by unfold Lib.digitVal; rw [if_pos hc]
    rw [Lib.decFrom, hd]
    exact ih _ h.2
def numN (s : ByteArray) : Nat := (Lib.decFrom 0 s.data.toList).getD 0
theorem atoi_dig {s : ByteArray} (h : consS digV s = true) : Lib.atoi s.data.toList = some ((numN s : Nat) : Int) := by
  unfold consS at h
  rw [Bool.and_eq_true] at h
  obtain ⟨h1, h2⟩ := h
  have hne : s.data.toList ≠ [] := by
    intro e
    rw [isEmpty_iff, e] at h2
    simp at h2
  unfold numN
  generalize s.data.toList = l at *
  obtain ⟨n, hn⟩ := decFrom_dig l 0 h1
  cases l with
  | nil => exact absurd rfl hne
  | cons c l =>
    have hc : 48 ≤ c.toNat ∧ c.toNat ≤ 57 := by rw [List.all_cons, Bool.and_eq_true] at h1; have := h1.1; unfold digV at this; simpa using this
    have c1 : (c == 45) = false := by rw [beq_eq_false_iff_ne]; rintro rfl; simp at hc
    have c2 : (c == 43) = false := by rw [beq_eq_false_iff_ne]; rintro rfl; simp at hc
    unfold Lib.atoi Lib.decNat
    simp only [c1, c2, Bool.false_eq_true, if_false, List.isEmpty_cons, hn, Option.map_some, Option.getD_some]
def numS (s : ByteArray) : Bool := decide (s.size ≤ 5) && (consS digV s && decide (numN s ≤ 65535))
theorem bytesWorld_below (w : World) (e : TypeId) (s : ByteArray) : Below w.heap.size w (Lib.bytesWorld w e s) := by
  refine ⟨rfl, rfl, rfl, by simp [Lib.bytesWorld, World.freeze], fun i hi => ?_⟩
  unfold Lib.bytesWorld World.freeze
  show (Array.modify (w.drew.alloc _).heap w.heap.size _)[i]? = _
  rw [Array.getElem?_modify, if_neg (by omega)]
  exact Below.heap_alloc w.drew _ i hi
set_option maxHeartbeats 2000000 in
theorem isNumber_any (s : ByteArray) (hs : s.size ≤ maxLen) (w : World) :
    Calls Tryz.prog 49 #[.string s] w fun e w' => e = .returned (.bool (numS s)) ∧ Below w.heap.size w w' := by
  have HC := Lib.hid fun w => cons_dig s hs w
  unfold numS
  by_cases h5 : s.size ≤ 5
  · have i5 : (s.size : Int) ≤ 5 := by omega
    rw [decide_eq_true h5, Bool.true_and]
    rcases hc : consS digV s with _ | _
    · rw [hc] at HC
      rw [Bool.false_and]
      clear hc
      go_enter Tryz.func49, Tryz.ntmps49
      go_wp2_with (go_at_call 72; refine (HC.out _).mono ?_; rintro e w1 ⟨rfl, rfl⟩)
      go_ret
      exact ⟨rfl, Below.refl _ _⟩
    · rw [hc] at HC
      rw [Bool.true_and]
      have HA := Lib.hid fun w => Tryz.strconv_Atoi s _ (by omega) (atoi_dig hc) w
      clear hc
      by_cases hn : numN s ≤ 65535
      · have i6 : (numN s : Int) ≤ 65535 := by omega
        rw [decide_eq_true hn]
        go_enter Tryz.func49, Tryz.ntmps49
        go_wp2_with (first
          | (go_at_call 72; refine (HC.out _).mono ?_; rintro e w1 ⟨rfl, rfl⟩)
          | (go_at_call 74; refine (HA.out _).mono ?_; rintro e w1 ⟨rfl, t, rfl⟩))
        go_ret
        exact ⟨rfl, bytesWorld_below _ _ _⟩
      · have i6 : (65535 : Int) < (numN s : Int) := by omega
        have i7 : decide ((numN s : Int) ≤ 65535) = false := by simp; omega
        rw [decide_eq_false hn]
        go_enter Tryz.func49, Tryz.ntmps49
        go_wp2_with (first
          | (go_at_call 72; refine (HC.out _).mono ?_; rintro e w1 ⟨rfl, rfl⟩)
          | (go_at_call 74; refine (HA.out _).mono ?_; rintro e w1 ⟨rfl, t, rfl⟩))
        go_ret
        exact ⟨rfl, bytesWorld_below _ _ _⟩
  · have i5 : (5 : Int) < (s.size : Int) := by omega
    rw [decide_eq_false h5, Bool.false_and]
    go_enter Tryz.func49, Tryz.ntmps49
    go_wp2_with fail
    go_ret
    exact ⟨rfl, Below.refl _ _⟩
def headDig (s : ByteArray) : Bool := match s.data.toList with | [] => false | c :: _ => digV c
def isVarS (s : ByteArray) : Bool := decide (s.size ≤ 60) && (consS varV s && !headDig s)
theorem headDig_at {s : ByteArray} (h : 0 < s.size) : headDig s = digV s[0] := by
  unfold headDig
  have := drop_at s 0 h
  rw [List.drop_zero] at this
  rw [this]
set_option maxHeartbeats 2000000 in
theorem isVariable_any (s : ByteArray) (hs : s.size ≤ maxLen) (w : World) :
    Calls Tryz.prog 113 #[.string s] w fun e w' => e = .returned (.bool (isVarS s)) ∧ Below w.heap.size w w' := by
  have HC := Lib.hid fun w => cons_var s hs w
  unfold isVarS
  by_cases h5 : s.size ≤ 60
  · have i5 : (s.size : Int) ≤ 60 := by omega
    rw [decide_eq_true h5, Bool.true_and]
    rcases hc : consS varV s with _ | _
    · rw [hc] at HC
      rw [Bool.false_and]
      clear hc
      go_enter Tryz.func113, Tryz.ntmps113
      go_wp2_with (go_at_call 72; refine (HC.out _).mono ?_; rintro e w1 ⟨rfl, rfl⟩)
      go_ret
      exact ⟨rfl, Below.refl _ _⟩
    · rw [hc] at HC
      rw [Bool.true_and]
      have h0 : 0 < s.size := by
        unfold consS at hc
        rw [Bool.and_eq_true] at hc
        rcases Nat.eq_zero_or_pos s.size with h | h
        · exfalso
          have h2 := hc.2
          have : s.data.toList = [] := List.eq_nil_of_length_eq_zero (by rw [size_list]; exact h)
          rw [isEmpty_iff, this] at h2
          simp at h2
        · exact h
      have i0 : (0 : Int) < (s.size : Int) := by omega
      rw [headDig_at h0]
      have HD := Lib.hid fun w => isDigitV_any s[0] w
      clear hc
      go_enter Tryz.func113, Tryz.ntmps113
      go_wp2_with (first
        | (go_at_call 72; refine (HC.out _).mono ?_; rintro e w1 ⟨rfl, rfl⟩)
        | (go_at_call 73; refine (HD.out _).mono ?_; rintro e w1 ⟨rfl, rfl⟩))
      go_ret
      exact ⟨rfl, Below.refl _ _⟩
  · have i5 : (60 : Int) < (s.size : Int) := by omega
    have d5 : decide ((s.size : Int) ≤ 60) = false := by simp; omega
    rw [decide_eq_false h5, Bool.false_and]
    go_enter Tryz.func113, Tryz.ntmps113
    go_wp2_with fail
    go_ret
    exact ⟨rfl, Below.refl _ _⟩
end Go.Proofs.YtadifolonbkamaaGreatDoor
