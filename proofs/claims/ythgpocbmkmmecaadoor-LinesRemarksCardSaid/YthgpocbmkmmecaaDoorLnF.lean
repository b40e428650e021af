/- The walks of the developers' beginSection, addKey, add: what a logical line says. -/
import Derived.Test.YthgpocbmkmmecaaDoorLnT
import Derived.Test.YthgpocbmkmmecaaDoorLnW
import Derived.Deep.RegionLaw
import Derived.Deep.AppendLies
import Derived.Deep.RegionHeld3
namespace Go.Proofs.YthgpocbmkmmecaaDoor
open Go.RowKit

theorem cutX_is (c : UInt8) (l : List UInt8) : (cutX c l).1 = beforeL c l ∧ (cutX c l).2.1 = afterL c l ∧ (cutX c l).2.2 = l.contains c := by
  induction l with
  | nil => exact ⟨rfl, rfl, rfl⟩
  | cons x l ih =>
    rw [cutX]
    by_cases h : x = c
    · subst h
      rw [if_pos rfl]
      refine ⟨?_, ?_, ?_⟩
      · simp [beforeL]
      · simp [afterL]
      · simp
    · have hx : (x == c) = false := by rw [beq_eq_false_iff_ne]; exact h
      have hx2 : (c == x) = false := by rw [beq_eq_false_iff_ne]; exact fun e => h e.symm
      rw [if_neg h]
      obtain ⟨i1, i2, i3⟩ := ih
      refine ⟨?_, ?_, ?_⟩
      · show x :: (cutX c l).1 = _
        rw [i1]
        unfold beforeL
        rw [List.takeWhile_cons, hx]
        rfl
      · show (cutX c l).2.1 = _
        rw [i2]
        unfold afterL
        rw [List.dropWhile_cons, hx]
        rfl
      · show (cutX c l).2.2 = _
        rw [i3, List.contains_cons, hx2, Bool.false_or]
theorem cut_is (c : UInt8) (s : ByteArray) : (cutA c s).data.toList = beforeL c s.data.toList ∧ (cutB c s).data.toList = afterL c s.data.toList ∧ cutF c s = s.data.toList.contains c := cutX_is c s.data.toList
theorem cut_sizes (c : UInt8) (s : ByteArray) : (cutA c s).size ≤ s.size ∧ (cutB c s).size ≤ s.size := by
  obtain ⟨e1, e2, _⟩ := cut_is c s
  constructor
  · rw [← size_list, e1, ← size_list s]
    exact (List.takeWhile_prefix _).length_le
  · rw [← size_list, e2, ← size_list s]
    unfold afterL
    rw [List.length_drop]
    have := (List.dropWhile_suffix (fun x => !(x == c)) (l := s.data.toList)).length_le
    omega
theorem trimS_size (s : ByteArray) : (trimS s).size ≤ s.size := by
  have := trim_le s.data.toList
  rw [size_list] at this
  exact this

/-- One line's cells, all lines' cells. -/
def lnCells (x : Ln) : List Value := [.string (str x.s), .string (str x.k), .string (str x.v), .int .i64 x.n]
def lns (l : List Ln) : List Value := l.flatMap lnCells
theorem lns_length (l : List Ln) : (lns l).length = l.length * 4 := by
  induction l with
  | nil => rfl
  | cons x l ih =>
    have e : lns (x :: l) = lnCells x ++ lns l := by simp [lns]
    rw [e, List.length_append, ih, List.length_cons]
    simp only [lnCells, List.length_cons, List.length_nil]
    omega
theorem lns_snoc (l : List Ln) (x : Ln) : lns (l ++ [x]) = lns l ++ lnCells x := by simp [lns]
theorem lineInfo : (Tryd.prog.info? 34).map (fun i => (i.zero, i.size, i.bytes)) = some (some (.agg #[.string ⟨#[]⟩, .string ⟨#[]⟩, .string ⟨#[]⟩, .int .i64 0]), 4, 56) := by kernel_rfl

/-- Only block F has turned of what lies below a place. -/
structure TurnF (base F : Nat) (w w' : World) : Prop where
  os : w'.os = w.os
  tape : w'.tape = w.tape
  output : w'.output = w.output
  size : w.heap.size ≤ w'.heap.size
  block : ∀ k, k < base → k ≠ F → w'.heap[k]? = w.heap[k]?
section
variable {base F : Nat} {w w' w'' : World}
theorem TurnF.refl (base F : Nat) (w : World) : TurnF base F w w := ⟨rfl, rfl, rfl, Nat.le_refl _, fun _ _ _ => rfl⟩
theorem TurnF.trans (h : TurnF base F w w') (k : TurnF base F w' w'') : TurnF base F w w'' :=
  ⟨k.os.trans h.os, k.tape.trans h.tape, k.output.trans h.output, Nat.le_trans h.size k.size, fun i a b => (k.block i a b).trans (h.block i a b)⟩
theorem TurnF.below {B : Nat} (h : TurnF base F w w') (k : Below B w' w'') (hB : base ≤ B) : TurnF base F w w'' :=
  h.trans ⟨k.os, k.tape, k.output, k.size, fun i a _ => k.block i (by omega)⟩
theorem TurnF.set_ (h : TurnF base F w w') (i : Nat) (u : Value) : TurnF base F w (w'.setCell ⟨F, i, none⟩ u) :=
  h.trans ⟨rfl, rfl, rfl, by simp [World.setCell], fun k _ hne => Below.heap_setCell w' ⟨F, i, none⟩ u k hne⟩
theorem TurnF.grown {row : Option Nat} (h : TurnF base F w w') (k : w'.grownBy w'' row) (hb : base ≤ w'.heap.size) (hr : ∀ g, row = some g → base ≤ g) : TurnF base F w w'' :=
  h.trans ⟨k.os, k.tape, k.output, k.size, fun i a _ => k.block i (by omega) (fun e => by have := hr i e.symm; omega)⟩
end
/-- The reader of a file: its section, its lines. -/
def FileAt (w : World) (base F : Nat) (sec : List UInt8) (ls : List Ln) : Prop :=
  ∃ (A : Option Addr) (n c : Nat), Blk w F 40 #[.string (str sec), .slice A n c] ∧ w.ownsRow base 34 4 (.slice A n c) ls.length (lns ls)
theorem FileAt.below {w w' : World} {base F : Nat} {sec : List UInt8} {ls : List Ln} (h : FileAt w base F sec ls) (hb : Below w.heap.size w w') : FileAt w' base F sec ls := by
  obtain ⟨A, n, c, h1, h2⟩ := h
  exact ⟨A, n, c, h1.below hb h1.lt, own_below h2 hb⟩
theorem FileAt.drewN {w : World} {base F : Nat} {sec : List UInt8} {ls : List Ln} (h : FileAt w base F sec ls) (n : Nat) : FileAt (w.drewN n) base F sec ls := h

def sectOk (s : ByteArray) : Bool := lastIs 93 (s.extract 1 s.size) && secS (cutEnd 93 (s.extract 1 s.size))
theorem lastIs_iff {c : UInt8} {s : ByteArray} : lastIs c s = true ↔ s.data.toList.getLast? = some c := by unfold lastIs; exact decide_eq_true_iff
theorem headIs_iff {c : UInt8} {s : ByteArray} : headIs c s = true ↔ s.data.toList.head? = some c := by unfold headIs; exact decide_eq_true_iff
theorem say_sect (sec r : List UInt8) : sayL sec (91 :: r) = if r.getLast? = some 93 ∧ secL r.dropLast = true then .sect r.dropLast else .bad 10 := by
  unfold sayL
  rw [if_neg (by simp), if_pos (by rfl)]
  cases r with
  | nil => rfl
  | cons d r =>
    have e1 : ((91 : UInt8) :: d :: r).getLast? = (d :: r).getLast? := List.getLast?_cons_cons
    simp only [e1, List.tail_cons]
theorem head_cons {c : UInt8} {s : ByteArray} (h : headIs c s = true) : s.data.toList = c :: (s.extract 1 s.size).data.toList := by
  rw [tail_list, List.drop_one]
  have := headIs_iff.1 h
  cases hs : s.data.toList with
  | nil => rw [hs] at this; cases this
  | cons x r => rw [hs] at this; simp at this; rw [this]; rfl
theorem sect_say {s : ByteArray} (h : headIs 91 s = true) (sec : List UInt8) :
    sayL sec s.data.toList = if sectOk s = true then .sect (cutEnd 93 (s.extract 1 s.size)).data.toList else .bad 10 := by
  rw [head_cons h, say_sect]
  unfold sectOk
  rcases hl : lastIs 93 (s.extract 1 s.size) with _ | _
  · rw [if_neg (fun hh => by rw [lastIs_iff.2 hh.1] at hl; cases hl), if_neg (by simp)]
  · have e2 : (cutEnd 93 (s.extract 1 s.size)).data.toList = (s.extract 1 s.size).data.toList.dropLast := by
      unfold cutEnd
      rw [hl, if_pos rfl]
      rfl
    have e3 : secS (cutEnd 93 (s.extract 1 s.size)) = secL (s.extract 1 s.size).data.toList.dropLast := by unfold secS; rw [e2]
    rw [e3, e2, Bool.true_and]
    by_cases hsc : secL (s.extract 1 s.size).data.toList.dropLast = true
    · rw [if_pos ⟨lastIs_iff.1 hl, hsc⟩, if_pos hsc]
    · rw [if_neg (fun h => hsc h.2), if_neg hsc]
/-- What adding a line gives. -/
def AddP (base F : Nat) (sec : List UInt8) (ls : List Ln) (i : Nat) (st : StepL) (w : World) (e : Ending) (w' : World) : Prop :=
  TurnF base F w w' ∧ match st with
    | .bad c => e = .returned (.int .i64 c) ∧ 0 < c
    | .skip => e = .returned (.int .i64 0) ∧ FileAt w' base F sec ls
    | .sect s => e = .returned (.int .i64 0) ∧ FileAt w' base F s ls
    | .line k v => e = .returned (.int .i64 0) ∧ FileAt w' base F sec (ls ++ [⟨sec, k, v, i⟩])
set_option maxHeartbeats 2000000 in
theorem beginSection_any (base F : Nat) (sec : List UInt8) (ls : List Ln) (i : Nat) (s : ByteArray) (hs : s.size ≤ 4194304) (h0 : 0 < s.size) (h1 : headIs 91 s = true) (w : World) (hf : FileAt w base F sec ls) (hF : F < base) :
    Calls Tryd.prog 35 #[.pointer (some ⟨F, 0, none⟩), .string s] w (AddP base F sec ls i (sayL sec s.data.toList) w) := by
  rw [sect_say h1]
  obtain ⟨A, n, c, hb, ho⟩ := hf
  have f0 := hb.frozen 0
  have d0 : w.cell? ⟨F, 0, none⟩ = some (.string (str sec)) := hb.cell 0
  have HB := Lib.hid hb
  have HO := Lib.hid ho
  have hx : (s.extract 1 s.size).size ≤ maxLen := by rw [ByteArray.size_extract]; unfold maxLen; omega
  have hy : (cutEnd 93 (s.extract 1 s.size)).size ≤ maxLen := by have := cutEnd_size 93 (s.extract 1 s.size); omega
  have b1 : (1 : Int) ≤ (s.size : Int) := by omega
  clear hb ho h1
  rcases hl : lastIs 93 (s.extract 1 s.size) with _ | _
  · have e : sectOk s = false := by unfold sectOk; rw [hl]; rfl
    rw [e, if_neg (by simp)]
    clear e
    go_enter Tryd.func35, Tryd.ntmps35
    go_wp2_with (go_at_call 56; refine (cutEnd_any 93 _ hx _).mono ?_; rintro e w' ⟨rfl, rfl⟩)
    go_ret
    exact ⟨TurnF.refl _ _ _, rfl, by omega⟩
  · rcases hk : secS (cutEnd 93 (s.extract 1 s.size)) with _ | _
    · have e : sectOk s = false := by unfold sectOk; rw [hl, hk]; rfl
      rw [e, if_neg (by simp)]
      clear e
      go_enter Tryd.func35, Tryd.ntmps35
      go_wp2_with (first
        | (go_at_call 56; refine (cutEnd_any 93 _ hx _).mono ?_; rintro e w' ⟨rfl, rfl⟩)
        | (go_at_call 59; refine (isSection_any _ hy _).mono ?_; rintro e w' ⟨rfl, rfl⟩))
      go_ret
      exact ⟨TurnF.refl _ _ _, rfl, by omega⟩
    · have e : sectOk s = true := by unfold sectOk; rw [hl, hk]; rfl
      rw [e, if_pos rfl]
      clear e
      go_enter Tryd.func35, Tryd.ntmps35
      go_wp2_with (first
        | (go_at_call 56; refine (cutEnd_any 93 _ hx _).mono ?_; rintro e w' ⟨rfl, rfl⟩)
        | (go_at_call 59; refine (isSection_any _ hy _).mono ?_; rintro e w' ⟨rfl, rfl⟩))
      go_ret
      refine ⟨(TurnF.refl base F w).set_ 0 _, rfl, A, n, c, ?_, own_set HO.out hF⟩
      rw [str_data]
      exact HB.out.setCell 0 (.string (cutEnd 93 (s.extract 1 s.size)))
end Go.Proofs.YthgpocbmkmmecaaDoor
