/- The map of the keys that are replaced; the walk of the developers' effect. -/
import Derived.Test.YtfjfhbmbngogpaaBlM
import Derived.Test.YtfjfhbmbngogpaaKsE
import Derived.Test.YtfjfhbmbngogpaaKsH
import Derived.DeepKeys4
import Derived.Maps.Own
import Derived.Maps.OwnOps
import Derived.Maps.OwnSet
import Derived.Maps.OwnIn
import Derived.Maps.Views
namespace Go.Proofs.Ytfjfhbmbngogpaa
open Go.RowKit Go.WideMaps Go.Maps

abbrev KP := List UInt8 × List UInt8
def keyB (x : Ln) : KP := (x.s, x.k)
def clsB (p : KP) : Option Bool := (findT p.1 p.2).map (·.l)
def empB (x : Ln) : Bool := decide (x.v = [])
def blendT (l : List Ln) : List Ln := blendR keyB clsB empB l
def stayT (x : Ln) : Bool := staysB keyB clsB empB x
def repT (x : Ln) : Bool := repB keyB clsB empB x
def repdT (r : List Ln) (p : KP) : Bool := repdB keyB clsB empB r p

/-! ### the keys of the map -/
def placeV (p : KP) : Value := .agg #[.string (str p.1), .string (str p.2)]
def placeK (p : KP) : Lit := .string (keyBytes [.string p.1, .string p.2])
theorem place_lits (p : KP) (h1 : p.1.length ≤ maxLen) (h2 : p.2.length ≤ maxLen) (d : Nat) :
    Try.prog.keyLits (d + 2) 47 [.string (str p.1), .string (str p.2)] = some [.string p.1, .string p.2] := by
  have hs : ∀ (q : List UInt8) (m : Nat), q.length ≤ maxLen → Try.prog.keyLits (m + 1) 9 [.string (str q)] = some [.string q] := by
    intro q m hq
    simp [Program.keyLits, Try.underlying9, str_size, hq, str_list]
  have hc : Try.prog.cellsOf 47 = 2 := by kernel_rfl
  have hc9 : Try.prog.cellsOf 9 = 1 := by kernel_rfl
  unfold Program.keyLits
  rw [Try.underlying47]
  simp [hc, hc9, hs _ _ h1, hs _ _ h2]
theorem place_key (p : KP) (h1 : p.1.length ≤ maxLen) (h2 : p.2.length ≤ maxLen) : keyOf Try.prog 47 (placeV p) = some (placeK p) := by
  have hk : Try.prog.keyType 47 = true := by kernel_rfl
  have hc : Try.prog.cellsOf 47 = 2 := by kernel_rfl
  obtain ⟨d, hd⟩ : ∃ d, Try.prog.types.size + 1 = d + 2 := ⟨Try.prog.types.size - 1, by
    have : 1 ≤ Try.prog.types.size := by decide +kernel
    omega⟩
  unfold keyOf placeV
  simp only [Try.underlying47, hk, Value.formed, hc, Bool.true_and]
  rw [if_pos (by rfl)]
  show Option.map _ (Try.prog.keyLits (Try.prog.types.size + 1) 47 [.string (str p.1), .string (str p.2)]) = _
  rw [hd, place_lits p h1 h2 d]
  rfl
theorem placeLaw : Keyed Try.prog 47 := Keyed.of_law (deep_law_laid (show laidOutB Try.prog = true by kernel_rfl) (m := 2) (by omega) (by decide +kernel) (by kernel_rfl) (by kernel_rfl))
theorem place_inj (p q : KP) (hp : p.1.length ≤ maxLen ∧ p.2.length ≤ maxLen) (hq : q.1.length ≤ maxLen ∧ q.2.length ≤ maxLen) (h : placeK p = placeK q) : p = q := by
  have e := placeLaw.inj (place_key p hp.1 hp.2) (by rw [h]; exact place_key q hq.1 hq.2)
  unfold placeV at e
  simp only [Value.agg.injEq, Array.mk.injEq, List.cons.injEq, Value.string.injEq, and_true] at e
  obtain ⟨e1, e2⟩ := e
  have f : ∀ a b : List UInt8, str a = str b → a = b := fun a b h => by rw [← str_list a, ← str_list b, h]
  exact Prod.ext (f _ _ e1) (f _ _ e2)
def smallK (p : KP) : Prop := p.1.length ≤ maxLen ∧ p.2.length ≤ maxLen
theorem plainElem_bool_inv {P : Program} {e : TypeId} (he : P.underlying e = some .bool) {v : Value} {z : DataW Unit × List MemPlace} (h : plainElem P e v = some z) : ∃ b : Bool, v = .bool b ∧ z = (.lit (.bool b), []) := by
  unfold plainElem at h
  rw [he] at h
  cases v <;> simp at h
  exact ⟨_, rfl, h.symm⟩
theorem zeroBool (w : World) : (zeroValue 4).run Try.prog w = .ok (.bool false) w := by kernel_rfl

/-- Block b is the map of the keys that f says, of at most n entries. -/
def MapAt (w : World) (b n : Nat) (f : KP → Bool) : Prop :=
  ∃ D : DataW Unit, w.ownsMap Try.prog 47 (plainElem Try.prog 4) b n D ∧ ∀ p, smallK p → D.atKey (placeK p) (.lit (.bool false)) = .lit (.bool (f p))
theorem MapAt.lt {w : World} {b n : Nat} {f : KP → Bool} (h : MapAt w b n f) : b < w.heap.size := by
  obtain ⟨D, h, _⟩ := h
  exact h.lt
theorem MapAt.kept {w w' : World} {b n : Nat} {f : KP → Bool} {row : Option Nat} (h : MapAt w b n f) (hg : w.grownBy w' row) (hne : some b ≠ row) : MapAt w' b n f := by
  obtain ⟨D, h, k⟩ := h
  exact ⟨D, h.kept hg hne, k⟩
theorem MapAt.below {w w' : World} {b n : Nat} {f : KP → Bool} (h : MapAt w b n f) (hb : Below w.heap.size w w') : MapAt w' b n f := h.kept (only_of_below hb none) (by simp)
theorem MapAt.setCell {w : World} {b n : Nat} {f : KP → Bool} (h : MapAt w b n f) {a : Addr} (ha : b ≠ a.block) (u : Value) : MapAt (w.setCell a u) b n f := by
  obtain ⟨D, h, k⟩ := h
  exact ⟨D, h.setCell ha u, k⟩
theorem MapAt.same {w : World} {b n : Nat} {f g : KP → Bool} (h : MapAt w b n f) (e : ∀ p, f p = g p) : MapAt w b n g := by
  obtain ⟨D, h, k⟩ := h
  exact ⟨D, h, fun p hp => by rw [k p hp, e p]⟩
theorem MapAt.mono {w : World} {b n n' : Nat} {f : KP → Bool} (h : MapAt w b n f) (hn : n ≤ n') : MapAt w b n' f := by
  obtain ⟨D, h, k⟩ := h
  exact ⟨D, h.mono hn, k⟩
theorem mapAt_made (w : World) : MapAt (w.alloc (.map #[] 0)) w.heap.size 0 (fun _ => false) := ⟨.map [], World.ownsMap_made _ _ _ _, fun _ _ => rfl⟩

section
variable {F : Fence} {nF : Nat}
theorem wpListIn_look {w : World} {ops : Array Oper} {rest : List Oper} {o : Oper} {a : Act} {Q : Exit → Act → World → Prop}
    (hg : o.guard = none) (m x : Operand) (hop : o.op = Op.lookup 39 m x false) (b n : Nat) (f : KP → Bool)
    (hm : a.eval m = .map (some b)) (h : MapAt w b n f) (p : KP) (hp : smallK p) (hx : a.eval x = .agg #[.string (str p.1), .string (str p.2)])
    (hK : wpListIn F nF Try.prog ops Q rest (a.put o.dst (.bool (f p))) w) :
    wpListIn F nF Try.prog ops Q (o :: rest) a w := by
  refine wpListIn_plain hg fun K' hK' => ?_
  obtain ⟨D, hD, hat⟩ := h
  obtain ⟨v, ps, hrun, hv⟩ := hD.lookup placeLaw Try.underlying39 (zeroBool _) (plainElem_bool Try.underlying4 false) (place_key p hp.1 hp.2)
  obtain ⟨c, rfl, hc⟩ := plainElem_bool_inv Try.underlying4 hv
  simp only [Prod.mk.injEq] at hc
  have hc' := hc.1
  rw [hat p hp] at hc'
  have hcf : c = f p := by
    injection hc' with h1
    injection h1 with h1
    exact h1.symm
  subst hcf
  unfold placeV at hrun
  unfold Oper.wpIn
  refine ⟨by simp [Oper.about, hop], ?_⟩
  rw [Oper.semAt_plain F _ _ (by rw [hop]; intro c hc'; cases hc')]
  simp [execOp, hop, hm, hx, hrun, Result.andThen]
  exact hK' _ _ hK
theorem wpListIn_mark {w : World} {ops : Array Oper} {rest : List Oper} {o : Oper} {a : Act} {Q : Exit → Act → World → Prop}
    (hg : o.guard = none) (m x v : Operand) (hop : o.op = Op.mapUpdate 39 m x v) (b n : Nat) (f : KP → Bool)
    (hm : a.eval m = .map (some b)) (h : MapAt w b n f) (hn : n < maxLen) (p : KP) (hp : smallK p) (hx : a.eval x = .agg #[.string (str p.1), .string (str p.2)]) (hv : a.eval v = .bool true)
    (hK : ∀ w', MapAt w' b (n + 1) (fun q => decide (p = q) || f q) → w.grownBy w' (some b) → wpListIn F nF Try.prog ops Q rest (a.put o.dst undef) w') :
    wpListIn F nF Try.prog ops Q (o :: rest) a w := by
  obtain ⟨D, hD, hat⟩ := h
  refine wpListIn_mapUpdate_own w hg m x v 39 hop 47 4 placeLaw Try.underlying39 (plainElem Try.prog 4) b n D hm hD hn (placeV p) (.bool true) (placeK p) hx hv (place_key p hp.1 hp.2) (.lit (.bool true)) [] (plainElem_bool Try.underlying4 true) ?_
  intro w' h1 h2
  refine hK w' ⟨_, h1, fun q hq => ?_⟩ h2
  by_cases e : p = q
  · subst e
    rw [atKey_put_same hD.isMap (placeLaw.key (place_key p hp.1 hp.2))]
    simp
  · rw [atKey_put_other (fun h => e (place_inj q p hq hp h).symm), hat q hq]
    simp [e]
end

/-! ### effect -/
theorem emp_str (v : List UInt8) : (str v).toList.isEmpty = decide (v = []) := by
  rw [Lib.toList_data, str_list]
  cases v <;> simp
set_option maxHeartbeats 4000000 in
theorem effect_any (x : Ln) (w : World) :
    Calls Try.prog 16 #[.agg #[.string (str x.s), .string (str x.k), .string (str x.v), .int .i64 x.n]] w fun e w' => e = .returned (.tuple #[.bool (stayT x), .bool (repT x)]) ∧ Below w.heap.size w w' := by
  have HB0 : Hid (Below w.heap.size w (w.alloc (.cells #[.string (str x.s), .string (str x.k), .string (str x.v), .int .i64 x.n] 30))) := (Below.refl _ w).alloc (Nat.le_refl _) _
  have HL0 : Hid (Blk (w.alloc (.cells #[.string (str x.s), .string (str x.k), .string (str x.v), .int .i64 x.n] 30)) w.heap.size 30 #[.string (str x.s), .string (str x.k), .string (str x.v), .int .i64 x.n]) := Blk.new w _ _
  have hem := emp_str x.v
  have HS : Hid (stayT x = !(decide (clsB (x.s, x.k) = some true) && decide (x.v = []))) := rfl
  have HR : Hid (repT x = (decide (clsB (x.s, x.k) = some false) || (decide (clsB (x.s, x.k) = some true) && decide (x.v = [])))) := rfl
  go_enter Try.func16, Try.ntmps16
  go_wp2_with fail
  generalize w.alloc (.cells #[.string (str x.s), .string (str x.k), .string (str x.v), .int .i64 x.n] 30) = w1 at *
  refine (Find_any _ _ _).mono ?_
  rintro e2 w2 ⟨r, rfl, hr, hb⟩
  rw [str_list, str_list]
  have HB2 := Lib.hid (more3 HB0.out HB0.out.size hb)
  have HL2 := Lib.hid (HL0.out.below hb HL0.out.lt)
  rw [str_list, str_list] at hr
  clear hb
  unfold krA
  rcases ho : findT x.s x.k with _ | y
  · have hS : Hid (stayT x = true) := by show _ = _; rw [HS.out]; unfold clsB; rw [ho]; rfl
    have hR : Hid (repT x = false) := by show _ = _; rw [HR.out]; unfold clsB; rw [ho]; rfl
    rw [show (none : Option Ky).isSome = false from rfl]
    clear HS HR ho hr hem
    go_wp2_with fail
    go_ret2
    exact ⟨by rw [hS.out, hR.out]; rfl, HB2.out.alloc HB2.out.size _⟩
  · have hl : r.l = y.l := by rw [ho] at hr; exact hr.2.2.2.1
    have hS : Hid (stayT x = !(y.l && decide (x.v = []))) := by show _ = _; rw [HS.out]; unfold clsB; rw [ho]; cases hy : y.l <;> simp [hy]
    have hR : Hid (repT x = (!y.l || decide (x.v = []))) := by show _ = _; rw [HR.out]; unfold clsB; rw [ho]; cases hy : y.l <;> simp [hy]
    have l1 : w2.cell? ⟨w.heap.size, 2, none⟩ = some (.string (str x.v)) := HL2.out.cell 2
    have l2 : w.heap.size < w2.heap.size := HL2.out.lt
    rw [show (some y : Option Ky).isSome = true from rfl, hl]
    clear HS HR ho hr hl
    obtain ⟨z, hz⟩ : ∃ z, y.l = z := ⟨_, rfl⟩
    obtain ⟨m, hm⟩ : ∃ m, decide (x.v = []) = m := ⟨_, rfl⟩
    rw [hz, hm] at hS hR
    rw [hm] at hem
    rw [hz]
    clear hz hm
    cases z with
    | false =>
      go_wp2_with fail
      go_ret2
      exact ⟨by rw [hS.out, hR.out]; rfl, HB2.out.alloc HB2.out.size _⟩
    | true =>
      cases m with
      | false =>
        go_wp2_with fail
        go_ret2
        exact ⟨by rw [hS.out, hR.out]; rfl, HB2.out.alloc HB2.out.size _⟩
      | true =>
        go_wp2_with fail
        go_ret2
        exact ⟨by rw [hS.out, hR.out]; rfl, HB2.out.alloc HB2.out.size _⟩
end Go.Proofs.Ytfjfhbmbngogpaa
