/- The walks of the document's places, ends, dropName. The walks of the document's at, places, first, add. The walk of the  -/
import Derived.Test.YthodbeeglkedcaaDtaf
import Derived.Test.YthodbeeglkedcaaDtae
import Derived.BigQuiet
namespace Go.Proofs.Ythodbeeglkedcaa
open Go.RowKit
def endOk (s v : ByteArray) : Bool := (endsL v.data.toList s.data.toList).isSome
def endS (s v : ByteArray) : ByteArray := str ((endsL v.data.toList s.data.toList).getD [])
theorem end_short {s v : ByteArray} (h : s.size ≤ v.size) : endOk s v = false ∧ endS s v = ⟨#[]⟩ := by
  have : endsL v.data.toList s.data.toList = none := by
    unfold endsL
    rw [if_neg]
    rw [size_list, size_list]; omega
  unfold endOk endS
  rw [this]; exact ⟨rfl, rfl⟩
theorem end_drop {s v : ByteArray} : (s.extract (s.size - v.size) s.size).data.toList = s.data.toList.drop (s.data.toList.length - v.data.toList.length) := by
  rw [tail_list, size_list, size_list]
theorem end_no {s v : ByteArray} (h : ((s.extract (s.size - v.size) s.size).toList == v.toList) = false) : endOk s v = false ∧ endS s v = ⟨#[]⟩ := by
  have : endsL v.data.toList s.data.toList = none := by
    unfold endsL
    rw [if_neg]
    rintro ⟨_, h2⟩
    rw [Lib.toList_data, Lib.toList_data, end_drop, h2] at h
    simp at h
  unfold endOk endS
  rw [this]; exact ⟨rfl, rfl⟩
theorem end_yes {s v : ByteArray} (hl : v.size < s.size) (h : ((s.extract (s.size - v.size) s.size).toList == v.toList) = true) : endOk s v = true ∧ endS s v = s.extract 0 (s.size - v.size) := by
  have : endsL v.data.toList s.data.toList = some (s.extract 0 (s.size - v.size)).data.toList := by
    unfold endsL
    rw [if_pos ⟨by rw [size_list, size_list]; exact hl, by
      rw [Lib.toList_data, Lib.toList_data, end_drop] at h
      exact eq_of_beq h⟩]
    rw [Lib.extract_data, size_list, size_list]
    simp
  unfold endOk endS
  rw [this]
  exact ⟨rfl, str_data _⟩
set_option maxHeartbeats 2000000 in
theorem ends_any (s v : ByteArray) (hs : s.size ≤ maxLen) (hv : v.size ≤ maxLen) (w : World) :
    Calls Try.prog 38 #[.string s, .string v] w fun e w' => e = .returned (.tuple #[.string (endS s v), .bool (endOk s v)]) ∧ w = w' := by
  unfold maxLen at hs hv
  by_cases h : s.size ≤ v.size
  · have h' : (s.size : Int) ≤ (v.size : Int) := by omega
    obtain ⟨e1, e2⟩ := end_short h
    rw [e1, e2]
    clear e1 e2
    go_enter Try.func38, Try.ntmps38
    go_wp2_with fail
    go_ret2
    exact ⟨rfl, rfl⟩
  · have h' : (v.size : Int) < (s.size : Int) := by omega
    have h2 : (0 : Int) ≤ (s.size : Int) - (v.size : Int) := by omega
    have h3 : (s.size : Int) - (v.size : Int) ≤ (s.size : Int) := by omega
    rcases hb : ((s.extract (s.size - v.size) s.size).toList == v.toList) with _ | _
    · obtain ⟨e1, e2⟩ := end_no hb
      rw [e1, e2]
      clear e1 e2
      go_enter Try.func38, Try.ntmps38
      go_wp2_with fail
      go_ret2
      exact ⟨rfl, rfl⟩
    · obtain ⟨e1, e2⟩ := end_yes (by omega) hb
      rw [e1, e2]
      clear e1 e2
      go_enter Try.func38, Try.ntmps38
      go_wp2_with fail
      go_ret2
      exact ⟨rfl, rfl⟩
def dropS (s : ByteArray) : Bool := dropN s.data.toList
theorem drop_is (c : UInt8) : dropB c = (letterX c || isDig c || decide (c.toNat = 45) || decide (c.toNat = 95)) := by
  unfold dropB letterX isDig
  rw [Bool.eq_iff_iff]
  simp
  omega
theorem dropS_long {s : ByteArray} (h : s.size < 1 ∨ 20 < s.size) : dropS s = false := by
  unfold dropS dropN
  rw [size_list]
  simp; omega
theorem dropS_bad {s : ByteArray} {k : Nat} (h : k < s.size) (hc : dropB s[k] = false) : dropS s = false := by
  unfold dropS dropN
  rw [Bool.and_eq_false_iff]
  right
  rw [List.all_eq_false]
  exact ⟨s[k], by
    have : s.data.toList[k]? = some s[k] := by rw [List.getElem?_eq_getElem (by simpa using h)]; rfl
    exact List.mem_of_getElem? this, by rw [hc]; simp⟩
theorem dropS_ok {s : ByteArray} (h1 : 1 ≤ s.size) (h2 : s.size ≤ 20) (h : s.data.toList.all dropB = true) : dropS s = true := by
  unfold dropS dropN
  rw [size_list, h]
  simp; omega
set_option maxHeartbeats 4000000 in
theorem dropName_any (s : ByteArray) (hs : s.size ≤ maxLen) (w : World) :
    Calls Try.prog 39 #[.string s] w fun e w' => e = .returned (.bool (dropS s)) ∧ w = w' := by
  unfold maxLen at hs
  by_cases h1 : s.size < 1
  · have HN := Lib.hid (dropS_long (s := s) (.inl h1))
    have h1' : (s.size : Int) < 1 := by omega
    clear h1
    go_enter Try.func39, Try.ntmps39
    go_wp2_with fail
    go_ret
    exact ⟨ret_bool (by rw [HN.out]), rfl⟩
  by_cases h2 : 20 < s.size
  · have HN := Lib.hid (dropS_long (s := s) (.inr h2))
    have h1' : (1 : Int) ≤ (s.size : Int) := by omega
    have h2' : (20 : Int) < (s.size : Int) := by omega
    have u1 : (0 : Nat) ≤ 1 := Nat.zero_le _
    clear h1 h2
    go_enter Try.func39, Try.ntmps39
    go_wp2_with fail
    go_ret
    exact ⟨ret_bool (by rw [HN.out]), rfl⟩
  have h1' : (1 : Int) ≤ (s.size : Int) := by omega
  have h2' : (s.size : Int) ≤ 20 := by omega
  have u1 : (0 : Nat) ≤ 1 := Nat.zero_le _
  have u2 : (0 : Nat) ≤ 2 := Nat.zero_le _
  clear h1 h2
  go_enter Try.func39, Try.ntmps39
  go_wp2_with fail
  go_loopw [3] (fun i wr => ∃ k : Nat, k ≤ s.size ∧ i = .int .i64 k ∧ w = wr ∧ Hid ((s.data.toList.take k).all dropB = true)) (fun i wr => s.size - (intOf i).toNat)
  case atStart => exact ⟨0, Nat.zero_le _, rfl, rfl, rfl⟩
  case round =>
    obtain ⟨k, hk, rfl, rfl, hb⟩ := hrel
    by_cases hlt : k < s.size
    · have hr := s[k].toNat_lt
      have c0 : (0 : Int) ≤ (k : Int) := by omega
      have c1 : (k : Int) < (s.size : Int) := by omega
      have HI := Lib.hid (drop_is s[k])
      have HB : Hid (dropB s[k] = true → (s.data.toList.take (k + 1)).all dropB = true) := fun h => by
        rw [take_at s k hlt, List.all_append, hb.out]
        simp [h]
      have HN : Hid (dropB s[k] = false → dropS s = false) := fun h => dropS_bad hlt h
      rcases hp : letterX s[k] with _ | _
      · rcases hq : isDig s[k] with _ | _
        · by_cases h45 : s[k].toNat = 45
          · have h45' : ((s[k].toNat : Int) != 45) = false := by simp [h45]
            have HB1 := Lib.hid (HB.out (by rw [HI.out, hp, hq]; simp [h45]))
            clear HI HB HN h45
            go_wp2_with (first | (go_at_call 61; refine (Letter_any _ _).mono ?_; rintro e w' ⟨rfl, rfl⟩) | (go_at_call 62; refine (Digit_any _ _).mono ?_; rintro e w' ⟨rfl, rfl⟩))
            go_roundw
            case rel => exact ⟨k + 1, by omega, by go_num, by first | rfl | trivial, HB1⟩
            case measure => simp [intOf]; omega
          · have h45' : ((s[k].toNat : Int) != 45) = true := by simp; omega
            by_cases h95 : s[k].toNat = 95
            · have h95' : ((s[k].toNat : Int) != 95) = false := by simp [h95]
              have HB1 := Lib.hid (HB.out (by rw [HI.out, hp, hq]; simp [h95]))
              clear HI HB HN h45 h95
              go_wp2_with (first | (go_at_call 61; refine (Letter_any _ _).mono ?_; rintro e w' ⟨rfl, rfl⟩) | (go_at_call 62; refine (Digit_any _ _).mono ?_; rintro e w' ⟨rfl, rfl⟩))
              go_roundw
              case rel => exact ⟨k + 1, by omega, by go_num, by first | rfl | trivial, HB1⟩
              case measure => simp [intOf]; omega
            · have h95' : ((s[k].toNat : Int) != 95) = true := by simp; omega
              have HN1 := Lib.hid (HN.out (by rw [HI.out, hp, hq]; simp [h45, h95]))
              clear HI HB HN h45 h95
              go_wp2_with (first | (go_at_call 61; refine (Letter_any _ _).mono ?_; rintro e w' ⟨rfl, rfl⟩) | (go_at_call 62; refine (Digit_any _ _).mono ?_; rintro e w' ⟨rfl, rfl⟩))
              go_ret
              exact ⟨ret_bool HN1.out.symm, by first | rfl | trivial⟩
        · have HB1 := Lib.hid (HB.out (by rw [HI.out, hp, hq]; rfl))
          clear HI HB HN
          go_wp2_with (first | (go_at_call 61; refine (Letter_any _ _).mono ?_; rintro e w' ⟨rfl, rfl⟩) | (go_at_call 62; refine (Digit_any _ _).mono ?_; rintro e w' ⟨rfl, rfl⟩))
          go_roundw
          case rel => exact ⟨k + 1, by omega, by go_num, by first | rfl | trivial, HB1⟩
          case measure => simp [intOf]; omega
      · have HB1 := Lib.hid (HB.out (by rw [HI.out, hp]; rfl))
        clear HI HB HN
        go_wp2_with (first | (go_at_call 61; refine (Letter_any _ _).mono ?_; rintro e w' ⟨rfl, rfl⟩) | (go_at_call 62; refine (Digit_any _ _).mono ?_; rintro e w' ⟨rfl, rfl⟩))
        go_roundw
        case rel => exact ⟨k + 1, by omega, by go_num, by first | rfl | trivial, HB1⟩
        case measure => simp [intOf]; omega
    · obtain rfl : k = s.size := by omega
      have HF : Hid (dropS s = true) := by
        have := hb.out
        rw [List.take_of_length_le (by rw [size_list]; exact Nat.le_refl _)] at this
        exact dropS_ok (by omega) (by omega) this
      clear hlt
      go_wp2_with fail
      go_ret
      exact ⟨ret_bool HF.out.symm, by first | rfl | trivial⟩
end Go.Proofs.Ythodbeeglkedcaa
namespace Go.Proofs.Ythodbeeglkedcaa
open Go.RowKit
theorem Blk.row {w : World} {g : Nat} {t : TypeId} {cs : Array Value} (h : Blk w g t cs) (cs' : Array Value) : Blk (w.setRow g cs') g t cs' := setRow_heap w g cs cs' t (0, 0) h
theorem heap_row_other (w : World) (F : Nat) (cs : Array Value) (i : Nat) (h : i ≠ F) : (w.setRow F cs).heap[i]? = w.heap[i]? := by
  unfold World.setRow
  simp only [Array.getElem?_modify]
  rw [if_neg (Ne.symm h)]
theorem size_row (w : World) (F : Nat) (cs : Array Value) : (w.setRow F cs).heap.size = w.heap.size := by simp [World.setRow]
theorem below_setRow {B : Nat} {a w : World} (h : Below B a w) {g : Nat} (hg : B ≤ g) (cs : Array Value) : Below B a (w.setRow g cs) :=
  ⟨h.os, h.tape, h.output, by rw [size_row]; exact h.size, fun i hi => by rw [heap_row_other w g cs i (by omega)]; exact h.block i hi⟩
theorem Blk.setRowOther {w : World} {g j : Nat} {t : TypeId} {cs : Array Value} (h : Blk w g t cs) (hne : g ≠ j) (xs : Array Value) : Blk (w.setRow j xs) g t cs := (heap_row_other w j xs g hne).trans h
theorem results_cell_tmp {P : Program} {fn : Func} {p q : Tmp} {ty : TypeId} (h : fn.results = #[.cell p ty, .tmp q]) (tmps : Array Value) (w : World) (g : Nat) (t : TypeId) (cs : Array Value) (d : TypeDesc) (v : Value)
    (hp : tmps.getD p undef = .pointer (some ⟨g, 0, none⟩)) (hv : tmps.getD q undef = v) (hg : w.heap[g]? = some (.cells cs t (0, 0)))
    (hu : P.underlying ty = some d) (hd : (match d with | .struct _ | .array _ _ => true | _ => false) = true) (hi : (P.info? ty).map (·.size) = some cs.size) :
    (results fn tmps).run P w = .ok (.tuple #[.agg cs, v]) w := by
  have hp' : tmps[p]?.getD undef = .pointer (some ⟨g, 0, none⟩) := by simpa using hp
  have hv' : tmps[q]?.getD undef = v := by simpa using hv
  simp [results, h, hp', hv', asAddr, run_loadVar_row w g t ty cs (0, 0) d hg hu hd hi]
def fiA (x : Fi) : Array Value := #[.string (str x.p), .string (str x.t), .string (str x.l)]
theorem fiA_all (x : Fi) : (fiA x).all (·.oneCell') = true := by simp [fiA, Value.oneCell']
def noFi : Fi := ⟨[], [], []⟩
def atV (o : Option Fi) : Value := .tuple #[.agg (fiA (o.getD noFi)), .bool o.isSome]
theorem at_take {l : List Fi} {v : List UInt8} {k : Nat} {x : Fi} (h : atL (l.take k) v = none) (hx : l[k]? = some x) : (x.p = v → atL l v = some x) ∧ (¬ x.p = v → atL (l.take (k + 1)) v = none) := by
  have hk : k < l.length := by
    rcases Nat.lt_or_ge k l.length with h' | h'
    · exact h'
    · rw [List.getElem?_eq_none h'] at hx; cases hx
  have he : l[k] = x := by rw [List.getElem?_eq_getElem hk] at hx; exact Option.some.inj hx
  unfold atL at *
  constructor
  · intro e
    conv => lhs; rw [← List.take_append_drop k l]
    rw [List.find?_append, h, List.drop_eq_getElem_cons hk, he, List.find?_cons]
    simp [e]
  · intro e
    rw [List.take_succ_eq_append_getElem hk, he, List.find?_append, h]
    simp [e]
theorem rowAt_new (w : World) (t : TypeId) (l : List (List UInt8)) (hl : l.length ≤ maxLen) : RowAt (w.alloc (.cells (wcells l).toArray t)) (w.alloc (.cells (wcells l).toArray t)).heap.size (some ⟨w.heap.size, 0, none⟩) l.length l :=
  ⟨rfl, hl, fun _ => ⟨_, rfl, by simp, fun j x hj => by
    rw [add_cellO, (Blk.new w t (wcells l).toArray).cell j]
    simp [wcells, hj]⟩⟩
theorem places_any (w : World) :
    Calls Try.prog 37 #[] w fun e w' => ∃ A c, e = .returned (.slice A 3 c) ∧ RowAt w' w'.heap.size A 3 plc ∧ Below w.heap.size w w' := by
  go_enter Try.func37, Try.ntmps37
  go_wp2_with fail
  go_ret
  exact ⟨_, _, rfl, rowAt_new w _ plc (by decide), (Below.refl _ w).alloc (Nat.le_refl _) _⟩
end Go.Proofs.Ythodbeeglkedcaa
namespace Go.Proofs.Ythodbeeglkedcaa
open Go.RowKit
theorem own_list (a : List UInt8) (u : ByteArray) : (str a ++ (⟨#[47]⟩ : ByteArray) ++ u).data.toList = a ++ 47 :: u.data.toList := by
  rw [app_list, app_list, str_list, List.append_assoc]
  rfl
def firstTo (l : List Fi) (u : List UInt8) (k : Nat) : Option Fi := (plc.take k).findSome? (fun a => atL l (a ++ 47 :: u))
theorem first_take {l : List Fi} {u : List UInt8} {k : Nat} {a : List UInt8} (h : firstTo l u k = none) (ha : plc[k]? = some a) : firstTo l u (k + 1) = atL l (a ++ 47 :: u) ∧ (∀ x, atL l (a ++ 47 :: u) = some x → firstL l u = some x) := by
  have hk : k < plc.length := by
    rcases Nat.lt_or_ge k plc.length with h' | h'
    · exact h'
    · rw [List.getElem?_eq_none h'] at ha; cases ha
  have he : plc[k] = a := by rw [List.getElem?_eq_getElem hk] at ha; exact Option.some.inj ha
  unfold firstTo firstL at *
  constructor
  · rw [List.take_succ_eq_append_getElem hk, he, List.findSome?_append, h]
    simp
  · intro x hx
    conv => lhs; rw [← List.take_append_drop k plc]
    rw [List.findSome?_append, h, List.drop_eq_getElem_cons hk, he]
    simp [hx]
theorem plc_len {a : List UInt8} {k : Nat} (h : plc[k]? = some a) : a.length = 3 := by
  have := List.mem_of_getElem? h
  simp [plc] at this
  rcases this with rfl | rfl | rfl <;> rfl
theorem atV_none : atV none = .tuple #[.agg #[.string ⟨#[]⟩, .string ⟨#[]⟩, .string ⟨#[]⟩], .bool false] := rfl
theorem atV_some (x : Fi) : atV (some x) = .tuple #[.agg #[.string (str x.p), .string (str x.t), .string (str x.l)], .bool true] := rfl
end Go.Proofs.Ythodbeeglkedcaa
