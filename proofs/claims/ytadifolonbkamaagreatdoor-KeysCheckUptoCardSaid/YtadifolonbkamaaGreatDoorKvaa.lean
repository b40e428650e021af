/- Spans on plain lists of bytes: words, their sum, the written form, and that what is written is read as it was. It speaks -/
import Derived.Test.YtadifolonbkamaaGreatDoorProg
import Derived.WalkKit
import Derived.BigGuardPart
import Derived.BigQuiet
import Derived.Handy
import Derived.Below
import Derived.Deep.QuietTactic
import Derived.Deep.Draws
import Derived.Lib.Hide
import Derived.Lib.Strings
import Derived.RangeFuncNested
import Derived.RangeFuncCalls
import Derived.RangeFuncLeaves
namespace Go.Proofs.YtadifolonbkamaaGreatDoor
def isDig (c : UInt8) : Bool := decide (48 ≤ c.toNat) && decide (c.toNat ≤ 57)
def maxSpan : Nat := 6311433600
def forever : Nat := 1099511627776
def infL : List UInt8 := [105, 110, 102, 105, 110, 105, 116, 121]
def bgo (by_ : List UInt8) : List UInt8 → List UInt8 → List (List UInt8)
  | w, [] => if w = [] then [] else [w]
  | w, c :: r => if by_.contains c = true then (if w = [] then bgo by_ [] r else w :: bgo by_ [] r) else bgo by_ (w ++ [c]) r
def blanksL (by_ l : List UInt8) : List (List UInt8) := bgo by_ [] l
def unitL (s : List UInt8) : Nat :=
  if s = [] ∨ s = [115] ∨ s = [115, 101, 99] then 1
  else if s = [109] ∨ s = [109, 105, 110] then 60
  else if s = [104] ∨ s = [104, 114] then 3600
  else if s = [100] ∨ s = [100, 97, 121] then 86400
  else if s = [119] ∨ s = [119, 101, 101, 107] then 604800
  else 0
def valL (l : List UInt8) : Nat := l.foldl (fun n c => 10 * n + (c.toNat - 48)) 0
def wordV (w : List UInt8) : Option Nat :=
  if w.takeWhile isDig = [] ∨ 10 < (w.takeWhile isDig).length ∨ unitL (w.dropWhile isDig) = 0 then none
  else some (valL (w.takeWhile isDig) * unitL (w.dropWhile isDig))
def sumV : Nat → List (List UInt8) → Option Nat
  | acc, [] => some acc
  | acc, w :: r => match wordV w with
    | none => none
    | some v => if acc + v ≤ maxSpan then sumV (acc + v) r else none
def spanL (s : List UInt8) : Option Nat :=
  if s = infL then some forever else if blanksL [32] s = [] then none else sumV 0 (blanksL [32] s)
def tot (ws : List (List UInt8)) : Nat := (ws.map fun w => (wordV w).getD 0).sum
def good (ws : List (List UInt8)) : Prop := ∀ w ∈ ws, (wordV w).isSome = true
theorem sumV_some (ws : List (List UInt8)) (acc n : Nat) (ha : acc ≤ maxSpan) : sumV acc ws = some n ↔ good ws ∧ n = acc + tot ws ∧ n ≤ maxSpan := by
  induction ws generalizing acc with
  | nil => simp [sumV, good, tot]; omega
  | cons w ws ih =>
    rw [sumV]
    have hg : good (w :: ws) ↔ (wordV w).isSome = true ∧ good ws := by simp [good]
    have ht : tot (w :: ws) = (wordV w).getD 0 + tot ws := by simp [tot]
    rw [hg, ht]
    cases hw : wordV w with
    | none => simp
    | some v =>
      simp only [Option.isSome_some, true_and, Option.getD_some]
      by_cases h : acc + v ≤ maxSpan
      · rw [if_pos h, ih _ h]; constructor
        · rintro ⟨a, b, c⟩; exact ⟨a, by omega, c⟩
        · rintro ⟨a, b, c⟩; exact ⟨a, by omega, c⟩
      · rw [if_neg h]; constructor
        · intro e; exact absurd e (by simp)
        · rintro ⟨_, b, c⟩; omega
def decL (n : Nat) : List UInt8 := if h : n < 10 then [UInt8.ofNat (48 + n)] else decL (n / 10) ++ [UInt8.ofNat (48 + n % 10)]
termination_by n
theorem dig_toNat (k : Nat) (h : k < 10) : (UInt8.ofNat (48 + k)).toNat = 48 + k := by
  rw [UInt8.toNat_ofNat']; omega
theorem dig_isDig (k : Nat) (h : k < 10) : isDig (UInt8.ofNat (48 + k)) = true := by
  unfold isDig; rw [dig_toNat k h]; simp; omega
theorem decL_dig (n : Nat) : ∀ c ∈ decL n, isDig c = true := by
  induction n using Nat.strongRecOn with
  | _ n ih =>
    rw [decL]
    split
    · next h => intro c hc; rw [List.mem_singleton.1 hc]; exact dig_isDig n h
    · next h =>
      intro c hc
      rcases List.mem_append.1 hc with hc | hc
      · exact ih (n / 10) (by omega) c hc
      · rw [List.mem_singleton.1 hc]; exact dig_isDig _ (by omega)
theorem take_all (l r : List UInt8) (h : ∀ c ∈ l, isDig c = true) (hr : ∀ c, r.head? = some c → isDig c = false) : (l ++ r).takeWhile isDig = l ∧ (l ++ r).dropWhile isDig = r := by
  induction l with
  | nil =>
    cases r with
    | nil => simp
    | cons c r => have := hr c rfl; simp [this]
  | cons x l ih =>
    have h0 := h x (by simp)
    have := ih fun c hc => h c (by simp [hc])
    simp [h0, this]
end Go.Proofs.YtadifolonbkamaaGreatDoor
namespace Go.Proofs.YtadifolonbkamaaGreatDoor
open Go.RowKit
def str (l : List UInt8) : ByteArray := ⟨l.toArray⟩
theorem str_data (s : ByteArray) : str s.data.toList = s := Lib.mk_data s
theorem str_size (l : List UInt8) : (str l).size = l.length := rfl
theorem str_list (l : List UInt8) : (str l).data.toList = l := rfl
theorem eq_str {s : ByteArray} {l : List UInt8} : s = str l ↔ s.data.toList = l :=
  ⟨fun h => by rw [h]; rfl, fun h => by rw [← h, str_data]⟩
theorem beq_str (s t : ByteArray) : (s.toList == t.toList) = decide (s = t) := by
  rw [Bool.eq_iff_iff]
  simp only [beq_iff_eq, decide_eq_true_eq, Lib.toList_data]
  exact ⟨fun h => by rw [← str_data s, h, str_data], fun h => by rw [h]⟩
theorem app_list (a b : ByteArray) : (a ++ b).data.toList = a.data.toList ++ b.data.toList := by rw [ByteArray.data_append, Array.toList_append]
theorem ext_list {a b : ByteArray} (h : a.data.toList = b.data.toList) : a = b := by rw [← str_data a, ← str_data b, h]
theorem str_app (a b : List UInt8) : str a ++ str b = str (a ++ b) := by
  apply ext_list
  rw [app_list]
  rfl
theorem ret_bool {a b : Bool} (h : a = b) : Ending.returned (.bool a) = .returned (.bool b) := by rw [h]
theorem ret_int {k : IntKind} {a b : Int} (h : a = b) : Ending.returned (.int k a) = .returned (.int k b) := by rw [h]
theorem ret_str {a b : ByteArray} (h : a = b) : Ending.returned (.string a) = .returned (.string b) := by rw [h]
theorem ret_ib {a b : Int} {x y : Bool} (h : a = b) (g : x = y) : Ending.returned (.tuple #[.int .i64 a, .bool x]) = .returned (.tuple #[.int .i64 b, .bool y]) := by rw [h, g]
theorem below_drewN {B : Nat} {a w : World} (h : Below B a w) (n : Nat) : Below B a (w.drewN n) := ⟨h.os, h.tape, h.output, h.size, h.block⟩
theorem below_more {B : Nat} {a w w' : World} (h : Below B a w) (hB : B ≤ w.heap.size) (h2 : Below w.heap.size w w') : Below B a w' := h.trans (h2.mono hB)
theorem more {a w w' : World} (h : Below a.heap.size a w) (h2 : Below w.heap.size w w') : Below a.heap.size a w' := below_more h h.size h2
theorem drop_at (s : ByteArray) (k : Nat) (h : k < s.size) : s.data.toList.drop k = s[k] :: s.data.toList.drop (k + 1) := by
  rw [List.drop_eq_getElem_cons (by simpa using h)]; rfl
theorem take_at (s : ByteArray) (k : Nat) (h : k < s.size) : s.data.toList.take (k + 1) = s.data.toList.take k ++ [s[k]] := by
  rw [List.take_succ_eq_append_getElem (by simpa using h)]; rfl
theorem one_slice (s : ByteArray) (k : Nat) (h : k < s.size) : s.extract k (k + 1) = str [s[k]] := by
  refine eq_str.2 ?_
  rw [Lib.extract_data, show k + 1 - k = 1 by omega, drop_at s k h]
  rfl
theorem tail_list (s : ByteArray) (k : Nat) : (s.extract k s.size).data.toList = s.data.toList.drop k := by
  rw [Lib.extract_data]
  exact List.take_of_length_le (by rw [List.length_drop]; simp)
theorem size_list (s : ByteArray) : s.data.toList.length = s.size := by simp
theorem isEmpty_iff (s : ByteArray) : s.toList.isEmpty = decide (s.data.toList = []) := by
  rw [Lib.toList_data]
  cases s.data.toList <;> simp
end Go.Proofs.YtadifolonbkamaaGreatDoor
namespace Go.Proofs.YtadifolonbkamaaGreatDoor
open Go.RowKit
variable {F : Fence} {n : Nat} {P : Program}
def Kept (C D : Nat) (W W' : World) : Prop := ∀ i, C ≤ i → i < D → W'.heap[i]? = W.heap[i]?
theorem Kept.refl (C D : Nat) (W : World) : Kept C D W W := fun _ _ _ => rfl
theorem Kept.trans {C D : Nat} {X Y Z : World} (h : Kept C D X Y) (k : Kept C D Y Z) : Kept C D X Z := fun i a b => (k i a b).trans (h i a b)
theorem Kept.mono {C D D' : Nat} {X Y : World} (h : Kept C D X Y) (hD : D' ≤ D) : Kept C D' X Y := fun i a b => h i a (by omega)
theorem Kept.put {C D : Nat} (W : World) {l : Nat} (o : Obj) (h : D ≤ l) : Kept C D W (W.putObj l o) := fun i _ b => World.putObj_heap_other (by omega)
theorem Kept.setCell {C D : Nat} (W : World) {a : Addr} (u : Value) (h : a.block < C) : Kept C D W (W.setCell a u) := fun i c _ => Below.heap_setCell W a u i (by omega)
theorem below_put {C : Nat} (W : World) (l : Nat) (o : Obj) (h : C ≤ l) : Below C W (W.putObj l o) :=
  ⟨rfl, rfl, rfl, by simp, fun k hk => World.putObj_heap_other (by omega)⟩
def SeqC {α : Type} (F : Fence) (n : Nat) (P : Program) (g : Nat) (lb : Array Value) (enc : α → Value) (C D : Nat) (xs0 : List α) (w : World) : Prop :=
  ∀ (l : Nat) (J Jx : List α → World → Prop) (W : World), Below w.heap.size w W →
    (∀ s X Y, J s X → X.grownBy Y (some C) → J s Y) → (∀ s X Y, Jx s X → X.grownBy Y (some C) → Jx s Y) →
    (∀ pre x post W1, xs0 = pre ++ x :: post → J pre W1 → YieldAt F (n - 1) P l #[enc x] W1 fun e W' =>
      (e = .returned (.bool true) ∧ J (pre ++ [x]) W' ∧ Kept C D W1 W') ∨ (e = .returned (.bool false) ∧ Jx (pre ++ [x]) W')) →
    J [] W →
    CallsIn F n P g (#[.func (.yield l) #[] #[]] ++ lb) W fun e W' => (∃ v, e = .returned v) ∧ (J xs0 W' ∨ ∃ pre, pre <+: xs0 ∧ Jx pre W')
def bodyC {α : Type} (C : Nat) (I : List α → World → Prop) (Ix : Code → List α → World → Prop) (xs : List α) (W : World) : Exit → Act → World → Prop
  | .normal, _, W' => Kept C W.heap.size W W' ∧ I xs W'
  | .ret, _, W' => Kept C W.heap.size W W' ∧ Ix .ret xs W'
  | .exit id, _, W' => Kept C W.heap.size W W' ∧ Ix (.exit id) xs W'
  | .goto t, _, W' => Kept C W.heap.size W W' ∧ Ix (.goto t) xs W'
  | .panic _, _, _ => False
  | .outgrown, _, _ => False
theorem range_box {α : Type} {g : Operand} {p : Tmp} {assign body : Code} {Q : Exit → Act → World → Prop} {a : Act} {w : World}
    (hro : F.round = none) (h1 : 1 ≤ n) {gf : Nat} {lb : Array Value} (hg : a.eval g = .func (.func gf) #[] lb) (hFg : F.fn gf) (eg : ∀ args w, (callFunc gf args).run P w = .ok (.enter gf args) w)
    {enc : α → Value} {C D : Nat} {xs0 : List α} (hC : C < D) (hD : D ≤ w.heap.size) (hseq : SeqC F (n - 1) P gf lb enc C D xs0 w)
    (I : List α → World → Prop) (Ix : Code → List α → World → Prop) (hI : ∀ s X Y, I s X → Below C X Y → I s Y) (hIx : ∀ c s X Y, Ix c s X → Below C X Y → Ix c s Y) (h0 : I [] w) (a₁ : α → Act)
    (hassign : ∀ (l : Nat) (x : α) (W : World) (K : Act → World → Prop), K (a₁ x) W →
      assign.wpIn (F.inRound l) (n - 1 - 1) P (Exit.then K (fun _ _ _ => False)) { tmps := a.tmps.setIfInBounds p (enc x), defers := [] } W)
    (hbody : ∀ (l : Nat) (pre : List α) (x : α) (post : List α) (W : World), xs0 = pre ++ x :: post → I pre W → D ≤ W.heap.size → body.wpIn (F.inRound l) (n - 1 - 1) P (bodyC C I Ix (pre ++ [x]) W) (a₁ x) W)
    (hdone : ∀ (M : Nat) (W : World), D ≤ M → I xs0 W → W.heap[M]? = some (.deferred (some [])) → Q .normal { a with defers := { target := .collected M, args := #[] } :: a.defers } W)
    (hstop : ∀ (M : Nat) (c : Code) (pre : List α) (W : World), D ≤ M → pre <+: xs0 → Ix c pre W → W.heap[M]? = some (.deferred (some [])) → c.wpIn F n P Q { a with defers := { target := .collected M, args := #[] } :: a.defers } W) :
    (Code.rangeFunc g #[p] assign body).wpIn F n P Q a w := by
  refine wpIn_rangeFunc fun fn hfn => ?_
  rw [hro]
  let M := w.heap.size
  let rec_ : LoopState → Option Code → Loop := fun st pe => { state := st, pending := pe, fn, tmps := a.tmps, params := #[p], assign, body, defers := M }
  let W1 := (w.alloc (.deferred (some []))).alloc (.loop (rec_ .ready none))
  have q0 : W1.heap.size = M + 1 + 1 := by simp [W1, M]
  have qM : W1.heap[M]? = some (.deferred (some [])) := (Below.heap_alloc _ _ _ (by simp [M])).trans (World.alloc_heap_new w _)
  have qL : W1.heap[M + 1]? = some (.loop (rec_ .ready none)) := by
    have := World.alloc_heap_new (w.alloc (.deferred (some []))) (.loop (rec_ .ready none))
    rwa [World.size_alloc] at this
  have qb : Below w.heap.size w W1 := ((Below.refl _ w).alloc (Nat.le_refl _) _).alloc (by simp) _
  refine ⟨M + 1, [{ target := .collected M, args := #[] }], W1, { target := .fn (.func gf) lb, args := #[.func (.yield (M + 1)) #[] #[]] }, W1, gf,
    #[.func (.yield (M + 1)) #[] #[]] ++ lb, W1, run_enterLoop_outer _ _ _ _ _, ?_, ?_, ?_, fun _ => h1, ?_⟩
  · simp only [resolve, hg]; simp [go_sem]
  · intro f' hf'; simp [Target.leads] at hf'; subst hf'; exact hFg
  · simp [invoke, go_sem, eg]
  have far : ∀ (X Y : World) (i : Nat) (o : Obj), X.heap[i]? = some o → X.grownBy Y (some C) → C < i → Y.heap[i]? = some o := fun X Y i o hx hy hi =>
    (hy.block i (Array.getElem?_eq_some_iff.1 hx).1 (fun e => by injection e with e; omega)).trans hx
  have blw : ∀ (X Y : World), X.grownBy Y (some C) → C ≤ X.heap.size → Below C X Y := fun X Y hy hx =>
    Below.mk hy.os hy.tape hy.output hy.size (fun k hk => hy.block k (by omega) (fun e => by injection e with e; omega))
  have stand : ∀ (X : World) (o : Obj), X.heap[M + 1]? = some o → C ≤ X.heap.size := fun X o h => by
    have := (Array.getElem?_eq_some_iff.1 h).1; omega
  refine (hseq (M + 1)
    (fun pre W => I pre W ∧ W.heap[M + 1]? = some (.loop (rec_ .ready none)) ∧ W.heap[M]? = some (.deferred (some [])))
    (fun pre W => ∃ c, Ix c pre W ∧ W.heap[M + 1]? = some (.loop (rec_ .done (some c))) ∧ W.heap[M]? = some (.deferred (some [])))
    W1 qb
    (by rintro s X Y ⟨a1, a2, a3⟩ hy; exact ⟨hI s X Y a1 (blw X Y hy (stand X _ a2)), far X Y _ _ a2 hy (by omega), far X Y _ _ a3 hy (by omega)⟩)
    (by rintro s X Y ⟨c, a1, a2, a3⟩ hy; exact ⟨c, hIx c s X Y a1 (blw X Y hy (stand X _ a2)), far X Y _ _ a2 hy (by omega), far X Y _ _ a3 hy (by omega)⟩)
    ?_ ⟨hI _ _ _ h0 (qb.mono (by omega)), qL, qM⟩).mono ?_
  · rintro pre x post W hxs ⟨hi, hl, hk⟩
    have hlt : M + 1 < W.heap.size := (Array.getElem?_eq_some_iff.1 hl).1
    let W2 := W.putObj (M + 1) (.loop { rec_ .ready none with state := .busy })
    have hl2 : W2.heap[M + 1]? = some (.loop { rec_ .ready none with state := .busy }) := World.putObj_heap_same hlt
    have hk2 : W2.heap[M]? = some (.deferred (some [])) := (World.putObj_heap_other (by omega)).trans hk
    have hz2 : W2.heap.size = W.heap.size := by simp [W2]
    have hy := run_yield (P := P) (args := #[enc x]) hl rfl
    refine ⟨fn, a.tmps.setIfInBounds p (enc x), assign, body, hy.trans (by simp [rec_]), roundIn_of_wpIn hfn ?_⟩
    refine hassign _ x W _ ?_
    refine ⟨W2, run_beginRound hl rfl, ?_⟩
    refine wpIn_mono (hbody _ pre x post W2 hxs (hI _ _ _ hi (below_put W (M + 1) _ (by omega))) (by omega)) ?_
    have fin : ∀ (jump : Option Code) (W3 : World), Kept C W2.heap.size W2 W3 →
        (Instr.endRound (M + 1) jump).run P W3 = .ok (.bool jump.isNone) (W3.putObj (M + 1) (.loop (rec_ (if jump.isNone then .ready else .done) jump))) ∧
        (W3.putObj (M + 1) (.loop (rec_ (if jump.isNone then .ready else .done) jump))).heap[M + 1]? = some (.loop (rec_ (if jump.isNone then .ready else .done) jump)) ∧
        (W3.putObj (M + 1) (.loop (rec_ (if jump.isNone then .ready else .done) jump))).heap[M]? = some (.deferred (some [])) ∧
        Below C W3 (W3.putObj (M + 1) (.loop (rec_ (if jump.isNone then .ready else .done) jump))) ∧
        Kept C D W (W3.putObj (M + 1) (.loop (rec_ (if jump.isNone then .ready else .done) jump))) := fun jump W3 hk3 => by
      have a1 := (hk3 (M + 1) (by omega) (by omega)).trans hl2
      have a2 := (hk3 M (by omega) (by omega)).trans hk2
      exact ⟨run_endRound (P := P) jump a1, World.putObj_heap_same (Array.getElem?_eq_some_iff.1 a1).1, (World.putObj_heap_other (by omega)).trans a2, below_put _ _ _ (by omega),
        ((Kept.put W _ (by omega)).trans (hk3.mono (by omega))).trans (Kept.put W3 _ (by omega))⟩
    rintro e a3 W3 hp
    cases e with
    | normal =>
      obtain ⟨hk3, hi3⟩ := hp
      obtain ⟨b1, b2, b3, b4, b5⟩ := fin none W3 hk3
      exact ⟨_, _, b1, .inl ⟨rfl, ⟨hI _ _ _ hi3 b4, b2, b3⟩, b5⟩⟩
    | ret =>
      obtain ⟨hk3, hi3⟩ := hp
      obtain ⟨b1, b2, b3, b4, _⟩ := fin (some .ret) W3 hk3
      exact ⟨_, _, b1, .inr ⟨rfl, .ret, hIx _ _ _ _ hi3 b4, b2, b3⟩⟩
    | exit id =>
      obtain ⟨hk3, hi3⟩ := hp
      obtain ⟨b1, b2, b3, b4, _⟩ := fin (some (.exit id)) W3 hk3
      exact ⟨_, _, b1, .inr ⟨rfl, .exit id, hIx _ _ _ _ hi3 b4, b2, b3⟩⟩
    | goto t =>
      obtain ⟨hk3, hi3⟩ := hp
      obtain ⟨b1, b2, b3, b4, _⟩ := fin (some (.goto t)) W3 hk3
      exact ⟨_, _, b1, .inr ⟨rfl, .goto t, hIx _ _ _ _ hi3 b4, b2, b3⟩⟩
    | panic ch => exact hp.elim
    | outgrown => exact hp.elim
  · rintro e W2 ⟨⟨v, rfl⟩, (⟨hi, hl, hk⟩ | ⟨pre, hpre, c, hi, hl, hk⟩)⟩
    · exact ⟨none, _, run_endLoop (P := P) hl (by simp [rec_]), hdone M _ hD (hI _ _ _ hi (below_put _ _ _ (by omega))) ((World.putObj_heap_other (by omega)).trans hk)⟩
    · exact ⟨some c, _, run_endLoop (P := P) hl (by simp [rec_]), hstop M c pre _ hD hpre (hIx _ _ _ _ hi (below_put _ _ _ (by omega))) ((World.putObj_heap_other (by omega)).trans hk)⟩
end Go.Proofs.YtadifolonbkamaaGreatDoor
namespace Go.Proofs.YtadifolonbkamaaGreatDoor
open Go.RowKit
variable {F : Fence} {n : Nat} {P : Program}
def Stand (C D l : Nat) (W W' : World) : Prop := Kept C D W W' ∧ Kept (l - 1) (l + 1) W W'
def Turn (C : Nat) (X Y : World) : Prop := ∃ k, (k = C ∨ C ≤ k ∧ ∃ y, X.heap[k]? = some (.loop y)) ∧ X.grownBy Y (some k)
theorem turn_put {C : Nat} {X : World} {l : Nat} {y : Loop} (hl : C ≤ l) (h : X.heap[l]? = some (.loop y)) (o : Obj) : Turn C X (X.putObj l o) :=
  ⟨l, .inr ⟨hl, y, h⟩, ⟨rfl, rfl, rfl, by simp, fun k _ hne => World.putObj_heap_other (fun e => hne (by rw [e]))⟩⟩
def bodyD {α : Type} (C D l : Nat) (I : List α → World → Prop) (Ix : Code → List α → World → Prop) (xs : List α) (W : World) : Exit → Act → World → Prop
  | .normal, _, W' => Stand C D l W W' ∧ I xs W'
  | .ret, _, W' => Stand C D l W W' ∧ Ix .ret xs W'
  | .exit id, _, W' => Stand C D l W W' ∧ Ix (.exit id) xs W'
  | .goto t, _, W' => Stand C D l W W' ∧ Ix (.goto t) xs W'
  | .panic _, _, _ => False
  | .outgrown, _, _ => False
theorem range_boxD {α : Type} {g : Operand} {p : Tmp} {assign body : Code} {Q : Exit → Act → World → Prop} {a : Act} {w : World}
    (hro : F.round = none) (h1 : 1 ≤ n) {gf : Nat} {lb : Array Value} (hg : a.eval g = .func (.func gf) #[] lb) (hFg : F.fn gf) (eg : ∀ args w, (callFunc gf args).run P w = .ok (.enter gf args) w)
    {enc : α → Value} {C D : Nat} {xs0 : List α} (hC : C < D) (hD : D ≤ w.heap.size) (hseq : SeqC F (n - 1) P gf lb enc C D xs0 w)
    (I : List α → World → Prop) (Ix : Code → List α → World → Prop) (hI0 : ∀ s X Y, I s X → Below X.heap.size X Y → I s Y) (hI : ∀ s X Y, Turn C X Y → I s X → I s Y) (hIx : ∀ c s X Y, Turn C X Y → Ix c s X → Ix c s Y) (h0 : I [] w) (a₁ : α → Act)
    (hassign : ∀ (l : Nat) (x : α) (W : World) (K : Act → World → Prop), K (a₁ x) W →
      assign.wpIn (F.inRound l) (n - 1 - 1) P (Exit.then K (fun _ _ _ => False)) { tmps := a.tmps.setIfInBounds p (enc x), defers := [] } W)
    (hbody : ∀ (l : Nat) (pre : List α) (x : α) (post : List α) (W : World), xs0 = pre ++ x :: post → I pre W → D ≤ W.heap.size → D + 1 ≤ l → (∃ y, W.heap[l]? = some (.loop y)) → W.heap[l - 1]? = some (.deferred (some [])) → body.wpIn (F.inRound l) (n - 1 - 1) P (bodyD C D l I Ix (pre ++ [x]) W) (a₁ x) W)
    (hdone : ∀ (M : Nat) (W : World), D ≤ M → I xs0 W → W.heap[M]? = some (.deferred (some [])) → Q .normal { a with defers := { target := .collected M, args := #[] } :: a.defers } W)
    (hstop : ∀ (M : Nat) (c : Code) (pre : List α) (W : World), D ≤ M → pre <+: xs0 → Ix c pre W → W.heap[M]? = some (.deferred (some [])) → c.wpIn F n P Q { a with defers := { target := .collected M, args := #[] } :: a.defers } W) :
    (Code.rangeFunc g #[p] assign body).wpIn F n P Q a w := by
  refine wpIn_rangeFunc fun fn hfn => ?_
  rw [hro]
  let M := w.heap.size
  let rec_ : LoopState → Option Code → Loop := fun st pe => { state := st, pending := pe, fn, tmps := a.tmps, params := #[p], assign, body, defers := M }
  let W1 := (w.alloc (.deferred (some []))).alloc (.loop (rec_ .ready none))
  have q0 : W1.heap.size = M + 1 + 1 := by simp [W1, M]
  have qM : W1.heap[M]? = some (.deferred (some [])) := (Below.heap_alloc _ _ _ (by simp [M])).trans (World.alloc_heap_new w _)
  have qL : W1.heap[M + 1]? = some (.loop (rec_ .ready none)) := by
    have := World.alloc_heap_new (w.alloc (.deferred (some []))) (.loop (rec_ .ready none))
    rwa [World.size_alloc] at this
  have qb : Below w.heap.size w W1 := ((Below.refl _ w).alloc (Nat.le_refl _) _).alloc (by simp) _
  refine ⟨M + 1, [{ target := .collected M, args := #[] }], W1, { target := .fn (.func gf) lb, args := #[.func (.yield (M + 1)) #[] #[]] }, W1, gf,
    #[.func (.yield (M + 1)) #[] #[]] ++ lb, W1, run_enterLoop_outer _ _ _ _ _, ?_, ?_, ?_, fun _ => h1, ?_⟩
  · simp only [resolve, hg]; simp [go_sem]
  · intro f' hf'; simp [Target.leads] at hf'; subst hf'; exact hFg
  · simp [invoke, go_sem, eg]
  have far : ∀ (X Y : World) (i : Nat) (o : Obj), X.heap[i]? = some o → X.grownBy Y (some C) → C < i → Y.heap[i]? = some o := fun X Y i o hx hy hi =>
    (hy.block i (Array.getElem?_eq_some_iff.1 hx).1 (fun e => by injection e with e; omega)).trans hx
  refine (hseq (M + 1)
    (fun pre W => I pre W ∧ W.heap[M + 1]? = some (.loop (rec_ .ready none)) ∧ W.heap[M]? = some (.deferred (some [])))
    (fun pre W => ∃ c, Ix c pre W ∧ W.heap[M + 1]? = some (.loop (rec_ .done (some c))) ∧ W.heap[M]? = some (.deferred (some [])))
    W1 qb
    (by rintro s X Y ⟨a1, a2, a3⟩ hy; exact ⟨hI s X Y ⟨C, .inl rfl, hy⟩ a1, far X Y _ _ a2 hy (by omega), far X Y _ _ a3 hy (by omega)⟩)
    (by rintro s X Y ⟨c, a1, a2, a3⟩ hy; exact ⟨c, hIx c s X Y ⟨C, .inl rfl, hy⟩ a1, far X Y _ _ a2 hy (by omega), far X Y _ _ a3 hy (by omega)⟩)
    ?_ ⟨hI0 _ _ _ h0 qb, qL, qM⟩).mono ?_
  · rintro pre x post W hxs ⟨hi, hl, hk⟩
    have hlt : M + 1 < W.heap.size := (Array.getElem?_eq_some_iff.1 hl).1
    let W2 := W.putObj (M + 1) (.loop { rec_ .ready none with state := .busy })
    have hl2 : W2.heap[M + 1]? = some (.loop { rec_ .ready none with state := .busy }) := World.putObj_heap_same hlt
    have hk2 : W2.heap[M]? = some (.deferred (some [])) := (World.putObj_heap_other (by omega)).trans hk
    have hz2 : W2.heap.size = W.heap.size := by simp [W2]
    have hy := run_yield (P := P) (args := #[enc x]) hl rfl
    refine ⟨fn, a.tmps.setIfInBounds p (enc x), assign, body, hy.trans (by simp [rec_]), roundIn_of_wpIn hfn ?_⟩
    refine hassign _ x W _ ?_
    refine ⟨W2, run_beginRound hl rfl, ?_⟩
    refine wpIn_mono (hbody _ pre x post W2 hxs (hI _ _ _ (turn_put (by omega) hl _) hi) (by omega) (by omega) ⟨_, hl2⟩ (by rw [Nat.add_sub_cancel]; exact hk2)) ?_
    have fin : ∀ (jump : Option Code) (W3 : World), Stand C D (M + 1) W2 W3 →
        (Instr.endRound (M + 1) jump).run P W3 = .ok (.bool jump.isNone) (W3.putObj (M + 1) (.loop (rec_ (if jump.isNone then .ready else .done) jump))) ∧
        (W3.putObj (M + 1) (.loop (rec_ (if jump.isNone then .ready else .done) jump))).heap[M + 1]? = some (.loop (rec_ (if jump.isNone then .ready else .done) jump)) ∧
        (W3.putObj (M + 1) (.loop (rec_ (if jump.isNone then .ready else .done) jump))).heap[M]? = some (.deferred (some [])) ∧
        Turn C W3 (W3.putObj (M + 1) (.loop (rec_ (if jump.isNone then .ready else .done) jump))) ∧
        Kept C D W (W3.putObj (M + 1) (.loop (rec_ (if jump.isNone then .ready else .done) jump))) := fun jump W3 hk3 => by
      have a1 := (hk3.2 (M + 1) (by omega) (by omega)).trans hl2
      have a2 := (hk3.2 M (by omega) (by omega)).trans hk2
      exact ⟨run_endRound (P := P) jump a1, World.putObj_heap_same (Array.getElem?_eq_some_iff.1 a1).1, (World.putObj_heap_other (by omega)).trans a2, turn_put (by omega) a1 _,
        ((Kept.put W _ (by omega)).trans hk3.1).trans (Kept.put W3 _ (by omega))⟩
    rintro e a3 W3 hp
    cases e with
    | normal =>
      obtain ⟨hk3, hi3⟩ := hp
      obtain ⟨b1, b2, b3, b4, b5⟩ := fin none W3 hk3
      exact ⟨_, _, b1, .inl ⟨rfl, ⟨hI _ _ _ b4 hi3, b2, b3⟩, b5⟩⟩
    | ret =>
      obtain ⟨hk3, hi3⟩ := hp
      obtain ⟨b1, b2, b3, b4, _⟩ := fin (some .ret) W3 hk3
      exact ⟨_, _, b1, .inr ⟨rfl, .ret, hIx _ _ _ _ b4 hi3, b2, b3⟩⟩
    | exit id =>
      obtain ⟨hk3, hi3⟩ := hp
      obtain ⟨b1, b2, b3, b4, _⟩ := fin (some (.exit id)) W3 hk3
      exact ⟨_, _, b1, .inr ⟨rfl, .exit id, hIx _ _ _ _ b4 hi3, b2, b3⟩⟩
    | goto t =>
      obtain ⟨hk3, hi3⟩ := hp
      obtain ⟨b1, b2, b3, b4, _⟩ := fin (some (.goto t)) W3 hk3
      exact ⟨_, _, b1, .inr ⟨rfl, .goto t, hIx _ _ _ _ b4 hi3, b2, b3⟩⟩
    | panic ch => exact hp.elim
    | outgrown => exact hp.elim
  · rintro e W2 ⟨⟨v, rfl⟩, (⟨hi, hl, hk⟩ | ⟨pre, hpre, c, hi, hl, hk⟩)⟩
    · exact ⟨none, _, run_endLoop (P := P) hl (by simp [rec_]), hdone M _ hD (hI _ _ _ (turn_put (by omega) hl _) hi) ((World.putObj_heap_other (by omega)).trans hk)⟩
    · exact ⟨some c, _, run_endLoop (P := P) hl (by simp [rec_]), hstop M c pre _ hD hpre (hIx _ _ _ _ (turn_put (by omega) hl _) hi) ((World.putObj_heap_other (by omega)).trans hk)⟩
end Go.Proofs.YtadifolonbkamaaGreatDoor
