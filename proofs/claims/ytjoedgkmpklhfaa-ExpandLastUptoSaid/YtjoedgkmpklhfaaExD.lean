/- A map of variables that the call makes: its datum on lists, its look-up; the walks of the developers' valuesOf, wholeWord, braced. -/
import Derived.Test.YtjoedgkmpklhfaaExC
import Derived.Maps.Own
import Derived.Maps.OwnOps
import Derived.Maps.OwnSet
import Derived.Maps.Views
import Derived.Maps.StringElems
namespace Go.Proofs.Ytjoedgkmpklhfaa
open Go.RowKit Go.WideMaps Go.Maps

abbrev PairX := List UInt8 × List UInt8
/-- The map's datum. -/
def envD (env : List PairX) : DataW Unit := env.foldl (fun D p => D.put (.string p.1) (.lit (.string p.2))) (.map [])
theorem envD_snoc (env : List PairX) (p : PairX) : envD (env ++ [p]) = (envD env).put (.string p.1) (.lit (.string p.2)) := by
  unfold envD
  rw [List.foldl_append]; rfl
theorem envD_isMap (env : List PairX) : IsMap (envD env) := by
  unfold envD
  suffices h : ∀ D : DataW Unit, IsMap D → IsMap (env.foldl (fun D p => D.put (.string p.1) (.lit (.string p.2))) D) from h _ isMap_empty
  induction env with
  | nil => intro D h; exact h
  | cons p env ih => intro D h; exact ih _ (h.put _ _)
theorem envD_at (env : List PairX) (n : List UInt8) : (envD env).atKey (.string n) (.lit (.string [])) = .lit (.string (valX env n)) := by
  suffices h : ∀ r : List PairX, (envD r.reverse).atKey (.string n) (.lit (.string [])) = .lit (.string (valX r.reverse n)) by
    have := h env.reverse
    rwa [List.reverse_reverse] at this
  intro r
  induction r with
  | nil => rfl
  | cons p r ih =>
    rw [List.reverse_cons, envD_snoc, valX_snoc]
    by_cases hp : p.1 = n
    · subst hp
      rw [atKey_put_same (envD_isMap _) (by trivial), if_pos rfl]
    · rw [atKey_put_other (by intro e; injection e with e; exact hp e.symm), ih, if_neg hp]

theorem keyLaw : Keyed Try.prog 9 := string_keyed Try.underlying9
theorem zeroStr (w : World) : (zeroValue 9).run Try.prog w = .ok (.string ⟨#[]⟩) w := by kernel_rfl
theorem lookup_str {P : Program} {k t e : TypeId} {w : World} {b n : Nat} {D : DataW Unit} (h : w.ownsMap P k (plainElem P e) b n D) (K : Keyed P k) (ht : P.underlying t = some (.map k e)) (he : P.underlying e = some .string) (hz : (zeroValue e).run P w = .ok (.string ⟨#[]⟩) w)
    {key : Value} {kl : Lit} (hkey : keyOf P k key = some kl) : ∃ s : ByteArray, (Instr.lookup t (.map (some b)) key false).run P w = .ok (.string s) w ∧ D.atKey kl (.lit (.string [])) = .lit (.string s.data.toList) ∧ s.size ≤ maxLen := by
  obtain ⟨v, ps, hrun, hv⟩ := h.lookup K ht hz (plainElem_string he (s := ⟨#[]⟩) (Nat.zero_le _)) hkey
  obtain ⟨s, rfl, hc, hw⟩ := plainElem_string_inv he hv
  simp only [Prod.mk.injEq] at hc
  exact ⟨s, hrun, hc.1, hw⟩

/-- Block b is the map of the variables env. -/
def EnvAt (w : World) (b : Nat) (env : List PairX) : Prop := ∃ n, w.ownsMap Try.prog 9 (plainElem Try.prog 9) b n (envD env)
theorem EnvAt.lt {w : World} {b : Nat} {env : List PairX} (h : EnvAt w b env) : b < w.heap.size := by
  obtain ⟨n, h⟩ := h
  exact h.lt
theorem EnvAt.below {B : Nat} {w w' : World} {b : Nat} {env : List PairX} (h : EnvAt w b env) (hb : Below B w w') (hB : b < B) : EnvAt w' b env := by
  obtain ⟨n, es, clock, h1, h2⟩ := h
  exact ⟨n, es, clock, (hb.block b hB).trans h1, h2⟩
theorem EnvAt.look {w : World} {b : Nat} {env : List PairX} (h : EnvAt w b env) (s : ByteArray) (hs : s.size ≤ maxLen) :
    (Instr.lookup 57 (.map (some b)) (.string s) false).run Try.prog w = .ok (.string (str (valX env s.data.toList))) w := by
  obtain ⟨n, h⟩ := h
  obtain ⟨v, hrun, hat, _⟩ := lookup_str h keyLaw Try.underlying57 Try.underlying9 (zeroStr _) (keyOf_string_mk Try.underlying9 hs)
  rw [envD_at] at hat
  have : v = str (valX env s.data.toList) := by
    refine eq_str.2 ?_
    injection hat with hat
    injection hat with hat
    exact hat.symm
  rw [hrun, this]
/-- The look-up at the operation. -/
theorem wpList_look (w : World) {ops : Array Oper} {rest : List Oper} {o : Oper} {a : Act} {Q : Exit → Act → World → Prop}
    (hg : o.guard = none) (m x : Operand) (hop : o.op = Op.lookup 57 m x false) (b : Nat) (env : List PairX)
    (hm : a.eval m = .map (some b)) (h : EnvAt w b env) (s : ByteArray) (hx : a.eval x = .string s) (hs : s.size ≤ maxLen)
    (hK : wpList Try.prog ops Q rest (a.put o.dst (.string (str (valX env s.data.toList)))) w) :
    wpList Try.prog ops Q (o :: rest) a w := by
  refine wpList_plain hg fun K' hK' => ?_
  have hrun := h.look s hs
  unfold Oper.wp
  simp [execOp, hop, hm, hx, hrun, Result.andThen]
  exact hK' _ _ hK

/-- A row of pairs. -/
def PairsAt (w : World) (B : Nat) (A : Option Addr) (n : Nat) (l : List PairX) : Prop :=
  l.length = n ∧ n ≤ maxLen ∧ (∀ p ∈ l, p.1.length ≤ maxLen ∧ p.2.length ≤ maxLen) ∧
  (0 < n → ∃ ad, A = some ad ∧ ad.block < B ∧ ∀ j p, l[j]? = some p → w.cell? (ad.add (j * 2)) = some (.string (str p.1)) ∧ w.cell? ⟨(ad.add (j * 2)).block, (ad.add (j * 2)).off + 1, none⟩ = some (.string (str p.2)))
theorem PairsAt.below {w w' : World} {B n : Nat} {A : Option Addr} {l : List PairX} (h : PairsAt w B A n l) (hb : Below B w w') : PairsAt w' B A n l :=
  ⟨h.1, h.2.1, h.2.2.1, fun hn => by
    obtain ⟨ad, e, hB, hc⟩ := h.2.2.2 hn
    refine ⟨ad, e, hB, fun j p hj => ?_⟩
    obtain ⟨h1, h2⟩ := hc j p hj
    exact ⟨(hb.cell (by rw [block_addW]; exact hB)).trans h1, (hb.cell (by show (ad.add (j * 2)).block < B; rw [block_addW]; exact hB)).trans h2⟩⟩
theorem PairsAt.wide {w : World} {B B' n : Nat} {A : Option Addr} {l : List PairX} (h : PairsAt w B A n l) (hB : B ≤ B') : PairsAt w B' A n l :=
  ⟨h.1, h.2.1, h.2.2.1, fun hn => by
    obtain ⟨ad, e, h2, hc⟩ := h.2.2.2 hn
    exact ⟨ad, e, by omega, hc⟩⟩
theorem PairsAt.at_ {w : World} {B n : Nat} {A : Option Addr} {l : List PairX} (h : PairsAt w B A n l) {k : Nat} (hk : k < n) :
    ∃ ad p, A = some ad ∧ ad.block < B ∧ l[k]? = some p ∧ p.1.length ≤ maxLen ∧ p.2.length ≤ maxLen ∧ w.cell? (ad.add (k * 2)) = some (.string (str p.1)) ∧ w.cell? ⟨(ad.add (k * 2)).block, (ad.add (k * 2)).off + 1, none⟩ = some (.string (str p.2)) := by
  obtain ⟨h1, _, h3, h4⟩ := h
  obtain ⟨ad, e, hb, hc⟩ := h4 (by omega)
  have hl : k < l.length := by omega
  obtain ⟨c1, c2⟩ := hc k l[k] (List.getElem?_eq_getElem hl)
  obtain ⟨m1, m2⟩ := h3 l[k] (List.getElem_mem hl)
  exact ⟨ad, l[k], e, hb, List.getElem?_eq_getElem hl, m1, m2, c1, c2⟩
theorem take_snoc {l : List PairX} {k : Nat} {p : PairX} (h : l[k]? = some p) : l.take (k + 1) = l.take k ++ [p] := by rw [List.take_add_one, h]; rfl

set_option maxHeartbeats 4000000 in
set_option maxRecDepth 100000 in
theorem valuesOf_any (A : Option Addr) (n c B : Nat) (env : List PairX) (w : World) (h : PairsAt w B A n env) (hB : B ≤ w.heap.size) :
    Calls Try.prog 24 #[.slice A n c] w fun e w' => ∃ M, e = .returned (.map (some M)) ∧ w.heap.size ≤ M ∧ EnvAt w' M env ∧ Below w.heap.size w w' := by
  have hmm := @run_makeMap Try.prog
  have hm := h.2.1
  have HP := Lib.hid h
  clear h
  unfold maxLen at hm
  go_enter Try.func24, Try.ntmps24
  go_wp2
  go_loopw [9] (fun i wr => ∃ k : Nat, k ≤ n ∧ i = .int .i64 k ∧ Hid (wr.ownsMap Try.prog 9 (plainElem Try.prog 9) w.heap.size k (envD (env.take k))) ∧ Hid (Below w.heap.size w wr))
    (fun i _ => n - (intOf i).toNat)
  case atStart => exact ⟨0, Nat.zero_le _, rfl, World.ownsMap_made _ _ _ _, (Below.refl _ _).alloc (Nat.le_refl _) _⟩
  case round =>
    obtain ⟨k, hk, rfl, hown, hnx⟩ := hrel
    have hsz := hnx.out.size
    by_cases hlt : k < n
    · have b0 : (0 : Int) ≤ (k : Int) := by omega
      have b1 : (k : Int) < (n : Int) := by omega
      obtain ⟨ad, p, rfl, hbl, hp, m1, m2, c1, c2⟩ := ((HP.out.below (hnx.out.mono hB)).at_ hlt)
      have hkey : keyOf Try.prog 9 (.string (str p.1)) = some (.string p.1) := keyOf_string_mk Try.underlying9 m1
      have HT := Lib.hid (take_snoc hp)
      clear hp
      go_wp2_with (at_mapUpdate; refine wpList_mapUpdate_own _ rfl _ _ _ 57 rfl 9 9 keyLaw Try.underlying57 _ w.heap.size k _ rfl (hown.out.alloc _) (by unfold maxLen; omega) _ _ _ rfl rfl hkey _ [] (plainElem_string Try.underlying9 m2) ?_)
      intro w1 hown1 hgrow1
      have HO : Hid (w1.ownsMap Try.prog 9 (plainElem Try.prog 9) w.heap.size (k + 1) (envD (env.take (k + 1)))) := by rw [HT.out, envD_snoc]; exact hown1
      have HB : Hid (Below w.heap.size w w1) := (hnx.out.alloc hnx.out.size _).grown hgrow1 (by have := hnx.out.size; simp; omega) (fun j hj => by cases hj; exact Nat.le_refl _)
      clear hown1 hgrow1
      go_wp2
      go_roundw
      case rel => exact ⟨k + 1, by omega, by go_num, HO, HB⟩
      case measure => simp [intOf]; omega
    · obtain rfl : k = n := by omega
      have HE : Hid (EnvAt wr w.heap.size env) := ⟨k, by have := hown.out; rwa [List.take_of_length_le (by rw [HP.out.1]; exact Nat.le_refl _)] at this⟩
      go_wp2
      go_ret
      exact ⟨_, rfl, Nat.le_refl _, HE.out, hnx.out⟩

/-! ### a word that is a variable -/
def wholeS (s : ByteArray) : ByteArray := str (wholeX s.data.toList)
def wholeOk (s : ByteArray) : Bool := !(wholeX s.data.toList).isEmpty
theorem whole_other {s : ByteArray} (h : Lib.hasPrefix s.data.toList [36] = false) : wholeS s = ⟨#[]⟩ ∧ wholeOk s = false := by
  have : wholeX s.data.toList = [] := wholeX_other (fun n e => by rw [e] at h; simp [Lib.hasPrefix] at h)
  unfold wholeS wholeOk
  rw [this]
  exact ⟨rfl, rfl⟩
theorem whole_tail {s : ByteArray} (h : Lib.hasPrefix s.data.toList [36] = true) : ∃ t : ByteArray, Lib.trimPrefix s.data.toList [36] = t.data.toList ∧ s.data.toList = 36 :: t.data.toList := by
  cases hs : s.data.toList with
  | nil => rw [hs] at h; simp [Lib.hasPrefix] at h
  | cons c t =>
    rw [hs] at h
    have hc : c = 36 := by simp [Lib.hasPrefix] at h; exact h.symm
    subst hc
    exact ⟨str t, by unfold Lib.trimPrefix; rw [if_pos h]; rfl, rfl⟩
theorem whole_yes {s t : ByteArray} (h : s.data.toList = 36 :: t.data.toList) (hv : varS t = true) : wholeS s = t ∧ wholeOk s = true := by
  unfold wholeS wholeOk
  rw [h, wholeX_var hv]
  refine ⟨str_data t, ?_⟩
  cases ht : t.data.toList with
  | nil => unfold varS at hv; rw [ht] at hv; cases hv
  | cons a r => rfl
theorem whole_no {s t : ByteArray} (h : s.data.toList = 36 :: t.data.toList) (hv : varS t = false) : wholeS s = ⟨#[]⟩ ∧ wholeOk s = false := by
  unfold wholeS wholeOk
  rw [h, wholeX_not hv]
  exact ⟨rfl, rfl⟩

set_option maxHeartbeats 2000000 in
theorem wholeWord_any (s : ByteArray) (w : World) :
    Calls Try.prog 25 #[.string s] w fun e w' => e = .returned (.tuple #[.string (wholeS s), .bool (wholeOk s)]) ∧ ∃ n, w' = w.drewN n := by
  rcases hp : Lib.hasPrefix s.data.toList [36] with _ | _
  · have HN := Lib.hid (whole_other hp)
    have HP : Hid (Lib.hasPrefix s.data.toList (⟨#[36]⟩ : ByteArray).data.toList = false) := hp
    clear hp
    go_enter Try.func25, Try.ntmps25
    go_wp2_with fail
    refine (Try.strings_CutPrefix _ _ _).mono ?_
    rintro e w1 ⟨rfl, rfl⟩
    rw [HP.out]
    go_wp2_with fail
    go_ret2
    exact ⟨ret_sb HN.out, 0, rfl⟩
  · obtain ⟨t, e1, e2⟩ := whole_tail hp
    have HP : Hid (Lib.hasPrefix s.data.toList (⟨#[36]⟩ : ByteArray).data.toList = true) := hp
    have HT : Hid ((⟨(Lib.trimPrefix s.data.toList (⟨#[36]⟩ : ByteArray).data.toList).toArray⟩ : ByteArray) = t) := (congrArg str e1).trans (str_data t)
    clear hp e1
    rcases hv : varS t with _ | _
    · have HN := Lib.hid (whole_no e2 hv)
      clear e2
      go_enter Try.func25, Try.ntmps25
      go_wp2_with fail
      refine (Try.strings_CutPrefix _ _ _).mono ?_
      rintro e w1 ⟨rfl, rfl⟩
      rw [HP.out, HT.out]
      go_wp2_with fail
      refine (isVariable_any _ _).mono ?_
      rintro e w1 ⟨rfl, rfl⟩
      go_wp2_with fail
      go_ret2
      exact ⟨ret_sb HN.out, 0, rfl⟩
    · have HN := Lib.hid (whole_yes e2 hv)
      clear e2
      go_enter Try.func25, Try.ntmps25
      go_wp2_with fail
      refine (Try.strings_CutPrefix _ _ _).mono ?_
      rintro e w1 ⟨rfl, rfl⟩
      rw [HP.out, HT.out]
      go_wp2_with fail
      refine (isVariable_any _ _).mono ?_
      rintro e w1 ⟨rfl, rfl⟩
      go_wp2_with fail
      go_ret2
      exact ⟨ret_sb HN.out, 0, rfl⟩

/-! ### a variable between braces -/
def brS (s : ByteArray) : ByteArray := str (brX s.data.toList)
def brOk (s : ByteArray) : Bool := !(brX s.data.toList).isEmpty
theorem br_other {s : ByteArray} (h : Lib.hasPrefix s.data.toList [123] = false) : brS s = ⟨#[]⟩ ∧ brOk s = false := by
  have : brX s.data.toList = [] := brX_other (fun n e => by rw [e] at h; simp [Lib.hasPrefix] at h)
  unfold brS brOk
  rw [this]
  exact ⟨rfl, rfl⟩
theorem br_tail {s : ByteArray} (h : Lib.hasPrefix s.data.toList [123] = true) : ∃ t, s.data.toList = 123 :: t ∧ 1 ≤ s.size := by
  cases hs : s.data.toList with
  | nil => rw [hs] at h; simp [Lib.hasPrefix] at h
  | cons c t =>
    rw [hs] at h
    have hc : c = 123 := by simp [Lib.hasPrefix] at h; exact h.symm
    subst hc
    exact ⟨t, rfl, by rw [← size_list, hs]; simp⟩
theorem br_cut {s X : ByteArray} {t : List UInt8} (h : s.data.toList = 123 :: t) (m : Nat) (hm : m = min s.size 62) (hX : s.extract 1 m = X) :
    (cutF 125 X = true → varS (cutA 125 X) = true → brS s = cutA 125 X ∧ brOk s = true) ∧ ((cutF 125 X = true → varS (cutA 125 X) = false) → brS s = ⟨#[]⟩ ∧ brOk s = false) := by
  have hl : t.length + 1 = s.size := by rw [← size_list, h]; rfl
  have e : X.data.toList = t.take 61 := by
    rw [← hX, Lib.extract_data, h]
    show t.take (m - 1) = _
    by_cases h62 : s.size ≤ 62
    · rw [show m - 1 = t.length by omega, List.take_of_length_le (Nat.le_refl _), List.take_of_length_le (by omega)]
    · rw [show m - 1 = 61 by omega]
  unfold brS brOk
  rw [h, brX_short, ← e]
  constructor
  · intro h1 h2
    have hc : (cutX 125 X.data.toList).2.2 = true ∧ varX (cutX 125 X.data.toList).1 = true := ⟨h1, h2⟩
    rw [if_pos hc]
    refine ⟨rfl, ?_⟩
    cases ht : (cutX 125 X.data.toList).1 with
    | nil => rw [ht] at hc; exact absurd hc.2 (by simp [varX_nil])
    | cons a r => rfl
  · intro h1
    have hc : ¬ ((cutX 125 X.data.toList).2.2 = true ∧ varX (cutX 125 X.data.toList).1 = true) := fun hh => by
      have h3 : varX (cutX 125 X.data.toList).1 = false := h1 hh.1
      rw [hh.2] at h3; cases h3
    rw [if_neg hc]
    exact ⟨rfl, rfl⟩

set_option maxHeartbeats 2000000 in
theorem braced_any (s : ByteArray) (w : World) :
    Calls Try.prog 44 #[.string s] w fun e w' => e = .returned (.tuple #[.string (brS s), .bool (brOk s)]) ∧ ∃ n, w' = w.drewN n := by
  rcases hp : Lib.hasPrefix s.data.toList [123] with _ | _
  · have HN := Lib.hid (br_other hp)
    have HP : Hid (Lib.hasPrefix s.data.toList (⟨#[123]⟩ : ByteArray).data.toList = false) := hp
    clear hp
    go_enter Try.func44, Try.ntmps44
    go_wp2_with fail
    refine (Try.strings_HasPrefix _ _ _).mono ?_
    rintro e w1 ⟨rfl, rfl⟩
    rw [HP.out]
    go_wp2_with fail
    go_ret2
    exact ⟨ret_sb HN.out, 0, rfl⟩
  · obtain ⟨t, e2, hs1⟩ := br_tail hp
    have HP : Hid (Lib.hasPrefix s.data.toList (⟨#[123]⟩ : ByteArray).data.toList = true) := hp
    clear hp
    by_cases h62 : s.size < 62
    · obtain ⟨X, hX⟩ : ∃ X, s.extract 1 (min (s.size : Int) 62).toNat = X := ⟨_, rfl⟩
      have hXs : X.size ≤ 61 := by rw [← hX, ByteArray.size_extract]; omega
      obtain ⟨y1, y2⟩ := br_cut e2 _ (by omega) hX
      have Y1 := Lib.hid y1
      have Y2 := Lib.hid y2
      have HX := Lib.hid hX
      have b0 : (1 : Int) ≤ (s.size : Int) := by omega
      have b1 : (s.size : Int) < 62 := by omega
      clear y1 y2 hX e2 h62
      go_enter Try.func44, Try.ntmps44
      go_wp2_with fail
      refine (Try.strings_HasPrefix _ _ _).mono ?_
      rintro e w1 ⟨rfl, rfl⟩
      rw [HP.out]
      go_wp2_with fail
      rw [HX.out]
      refine (cut_c _ _ (by unfold maxLen; omega) _).mono ?_
      rintro e w2 ⟨rfl, n, rfl⟩
      rcases hc : cutF 125 X with _ | _
      · have HN := Lib.hid (Y2.out (fun h => by rw [hc] at h; cases h))
        go_wp2_with fail
        go_ret2
        exact ⟨ret_sb HN.out, n, rfl⟩
      · rcases hv : varS (cutA 125 X) with _ | _
        · have HN := Lib.hid (Y2.out (fun _ => hv))
          go_wp2_with fail
          refine (isVariable_any _ _).mono ?_
          rintro e w1 ⟨rfl, rfl⟩
          go_wp2_with fail
          go_ret2
          exact ⟨ret_sb HN.out, n, rfl⟩
        · have HN := Lib.hid (Y1.out hc hv)
          go_wp2_with fail
          refine (isVariable_any _ _).mono ?_
          rintro e w1 ⟨rfl, rfl⟩
          go_wp2_with fail
          go_ret2
          exact ⟨ret_sb HN.out, n, rfl⟩
    · obtain ⟨X, hX⟩ : ∃ X, s.extract 1 (min (s.size : Int) 62).toNat = X := ⟨_, rfl⟩
      have hXs : X.size ≤ 61 := by rw [← hX, ByteArray.size_extract]; omega
      obtain ⟨y1, y2⟩ := br_cut e2 _ (by omega) hX
      have Y1 := Lib.hid y1
      have Y2 := Lib.hid y2
      have HX := Lib.hid hX
      have b0 : (62 : Int) ≤ (s.size : Int) := by omega
      clear y1 y2 hX e2 h62
      go_enter Try.func44, Try.ntmps44
      go_wp2_with fail
      refine (Try.strings_HasPrefix _ _ _).mono ?_
      rintro e w1 ⟨rfl, rfl⟩
      rw [HP.out]
      go_wp2_with fail
      rw [HX.out]
      refine (cut_c _ _ (by unfold maxLen; omega) _).mono ?_
      rintro e w2 ⟨rfl, n, rfl⟩
      rcases hc : cutF 125 X with _ | _
      · have HN := Lib.hid (Y2.out (fun h => by rw [hc] at h; cases h))
        go_wp2_with fail
        go_ret2
        exact ⟨ret_sb HN.out, n, rfl⟩
      · rcases hv : varS (cutA 125 X) with _ | _
        · have HN := Lib.hid (Y2.out (fun _ => hv))
          go_wp2_with fail
          refine (isVariable_any _ _).mono ?_
          rintro e w1 ⟨rfl, rfl⟩
          go_wp2_with fail
          go_ret2
          exact ⟨ret_sb HN.out, n, rfl⟩
        · have HN := Lib.hid (Y1.out hc hv)
          go_wp2_with fail
          refine (isVariable_any _ _).mono ?_
          rintro e w1 ⟨rfl, rfl⟩
          go_wp2_with fail
          go_ret2
          exact ⟨ret_sb HN.out, n, rfl⟩
end Go.Proofs.Ytjoedgkmpklhfaa
