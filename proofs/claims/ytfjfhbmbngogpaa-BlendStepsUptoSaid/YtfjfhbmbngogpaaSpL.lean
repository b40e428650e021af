/- Spans on plain lists of bytes: words, their sum, the written form, and that what is written is read as it was. It speaks of no code. -/
namespace Go.Proofs.Ytfjfhbmbngogpaa

def isDig (c : UInt8) : Bool := decide (48 ≤ c.toNat) && decide (c.toNat ≤ 57)
def maxSpan : Nat := 6311433600
def forever : Nat := 1099511627776
def infL : List UInt8 := [105, 110, 102, 105, 110, 105, 116, 121]

def bgo (by_ : List UInt8) : List UInt8 → List UInt8 → List (List UInt8)
  | w, [] => if w = [] then [] else [w]
  | w, c :: r => if by_.contains c = true then (if w = [] then bgo by_ [] r else w :: bgo by_ [] r) else bgo by_ (w ++ [c]) r
def blanksL (by_ l : List UInt8) : List (List UInt8) := bgo by_ [] l

theorem bgo_sep {by_ : List UInt8} {c : UInt8} (hc : by_.contains c = true) (a b w : List UInt8) :
    bgo by_ w (a ++ c :: b) = bgo by_ w a ++ bgo by_ [] b := by
  induction a generalizing w with
  | nil =>
    have e : bgo by_ w (c :: b) = if w = [] then bgo by_ [] b else w :: bgo by_ [] b := by rw [bgo.eq_2, if_pos hc]
    rw [List.nil_append, e, bgo.eq_1]
    by_cases h : w = []
    · rw [if_pos h, if_pos h, List.nil_append]
    · rw [if_neg h, if_neg h]; rfl
  | cons x a ih =>
    rw [List.cons_append, bgo, bgo]
    by_cases hx : by_.contains x = true
    · rw [if_pos hx, if_pos hx]
      by_cases h : w = []
      · rw [if_pos h, if_pos h, ih]
      · rw [if_neg h, if_neg h, ih]; rfl
    · rw [if_neg hx, if_neg hx, ih]
theorem bgo_gap {by_ : List UInt8} {c : UInt8} (hc : by_.contains c = true) (b : List UInt8) : bgo by_ [] (c :: b) = bgo by_ [] b := by
  rw [bgo, if_pos hc, if_pos rfl]
theorem bgo_plain {by_ : List UInt8} (l r w : List UInt8) (h : ∀ c ∈ l, by_.contains c = false) : bgo by_ w (l ++ r) = bgo by_ (w ++ l) r := by
  induction l generalizing w with
  | nil => simp
  | cons x l ih =>
    rw [List.cons_append, bgo, if_neg (by rw [h x (by simp)]; simp), ih _ (fun c hc => h c (by simp [hc]))]
    simp
theorem bgo_rows {by_ : List UInt8} {c : UInt8} (hc : by_.contains c = true) (ws : List (List UInt8)) (h : ∀ w ∈ ws, w ≠ [] ∧ ∀ x ∈ w, by_.contains x = false) (v : List UInt8) :
    bgo by_ v (ws.flatMap fun w => c :: w) = (if v = [] then [] else [v]) ++ ws := by
  induction ws generalizing v with
  | nil => simp [bgo]
  | cons w ws ih =>
    obtain ⟨h0, h1⟩ := h w (by simp)
    rw [List.flatMap_cons, List.cons_append, bgo, if_pos hc, bgo_plain _ _ _ h1, List.nil_append, ih (fun u hu => h u (by simp [hu])), if_neg h0]
    by_cases hv : v = []
    · simp [hv]
    · simp [hv]

def unitL (s : List UInt8) : Nat :=
  if s = [] ∨ s = [115] ∨ s = [115, 101, 99] then 1
  else if s = [109] ∨ s = [109, 105, 110] then 60
  else if s = [104] ∨ s = [104, 114] then 3600
  else if s = [100] ∨ s = [100, 97, 121] then 86400
  else if s = [119] ∨ s = [119, 101, 101, 107] then 604800
  else 0
def valL (l : List UInt8) : Nat := l.foldl (fun n c => 10 * n + (c.toNat - 48)) 0
/-- What a word is worth. -/
def wordV (w : List UInt8) : Option Nat :=
  if w.takeWhile isDig = [] ∨ 10 < (w.takeWhile isDig).length ∨ unitL (w.dropWhile isDig) = 0 then none
  else some (valL (w.takeWhile isDig) * unitL (w.dropWhile isDig))
def sumV : Nat → List (List UInt8) → Option Nat
  | acc, [] => some acc
  | acc, w :: r => match wordV w with
    | none => none
    | some v => if acc + v ≤ maxSpan then sumV (acc + v) r else none
def spanL (s : List UInt8) : Option Nat :=
  if s = infL then some forever else if blanksL [32] s = [] then none else sumV 0 (blanksL [32] s)
def tot (ws : List (List UInt8)) : Nat := (ws.map fun w => (wordV w).getD 0).sum
def good (ws : List (List UInt8)) : Prop := ∀ w ∈ ws, (wordV w).isSome = true
theorem tot_app (a b : List (List UInt8)) : tot (a ++ b) = tot a + tot b := by simp [tot]
theorem good_app {a b : List (List UInt8)} : good (a ++ b) ↔ good a ∧ good b := by
  unfold good
  constructor
  · intro h; exact ⟨fun w hw => h w (by simp [hw]), fun w hw => h w (by simp [hw])⟩
  · rintro ⟨h, g⟩ w hw
    rcases List.mem_append.1 hw with hw | hw
    · exact h w hw
    · exact g w hw
theorem sumV_some (ws : List (List UInt8)) (acc n : Nat) (ha : acc ≤ maxSpan) : sumV acc ws = some n ↔ good ws ∧ n = acc + tot ws ∧ n ≤ maxSpan := by
  induction ws generalizing acc with
  | nil => simp [sumV, good, tot]; omega
  | cons w ws ih =>
    rw [sumV]
    have hg : good (w :: ws) ↔ (wordV w).isSome = true ∧ good ws := by simp [good]
    have ht : tot (w :: ws) = (wordV w).getD 0 + tot ws := by simp [tot]
    rw [hg, ht]
    cases hw : wordV w with
    | none => simp
    | some v =>
      simp only [Option.isSome_some, true_and, Option.getD_some]
      by_cases h : acc + v ≤ maxSpan
      · rw [if_pos h, ih _ h]; constructor
        · rintro ⟨a, b, c⟩; exact ⟨a, by omega, c⟩
        · rintro ⟨a, b, c⟩; exact ⟨a, by omega, c⟩
      · rw [if_neg h]; constructor
        · intro e; exact absurd e (by simp)
        · rintro ⟨_, b, c⟩; omega
theorem sumV_none (ws : List (List UInt8)) (acc : Nat) (ha : acc ≤ maxSpan) (h : maxSpan < acc + tot ws) : sumV acc ws = none := by
  cases e : sumV acc ws with
  | none => rfl
  | some n => have := (sumV_some ws acc n ha).1 e; omega

theorem not_inf_of_blank {s : List UInt8} (h : (32 : UInt8) ∈ s) : s ≠ infL := by
  rintro rfl
  simp [infL] at h
/-- What a text below Forever is read as: its words are good, and it is their sum. -/
theorem span_below {s : List UInt8} {n : Nat} (h : spanL s = some n) (hn : n ≤ maxSpan) : blanksL [32] s ≠ [] ∧ good (blanksL [32] s) ∧ n = tot (blanksL [32] s) := by
  unfold spanL at h
  by_cases h1 : s = infL
  · rw [if_pos h1] at h
    have : forever = n := by simpa using h
    unfold forever at this; unfold maxSpan at hn; omega
  · rw [if_neg h1] at h
    by_cases h2 : blanksL [32] s = []
    · rw [if_pos h2] at h; exact absurd h (by simp)
    · rw [if_neg h2] at h
      have := (sumV_some _ 0 n (Nat.zero_le _)).1 h
      exact ⟨h2, this.1, by omega⟩
theorem span_words {s : List UInt8} {ws : List (List UInt8)} (hb : (32 : UInt8) ∈ s) (hw : blanksL [32] s = ws) (h0 : ws ≠ []) (hg : good ws) :
    spanL s = if tot ws ≤ maxSpan then some (tot ws) else none := by
  unfold spanL
  rw [if_neg (not_inf_of_blank hb), hw, if_neg h0]
  by_cases h : tot ws ≤ maxSpan
  · rw [if_pos h]; exact (sumV_some _ 0 _ (Nat.zero_le _)).2 ⟨hg, by omega, h⟩
  · rw [if_neg h]; exact sumV_none _ 0 (Nat.zero_le _) (by omega)
theorem has32 : ([32] : List UInt8).contains 32 = true := by decide
/-- Two texts together, two blanks between. -/
theorem span_two {a b : List UInt8} {x y : Nat} (ha : spanL a = some x) (hb : spanL b = some y) (hx : x ≤ maxSpan) (hy : y ≤ maxSpan) :
    spanL (a ++ [32, 32] ++ b) = if x + y ≤ maxSpan then some (x + y) else none := by
  obtain ⟨a0, a1, a2⟩ := span_below ha hx
  obtain ⟨b0, b1, b2⟩ := span_below hb hy
  have hw : blanksL [32] (a ++ [32, 32] ++ b) = blanksL [32] a ++ blanksL [32] b := by
    unfold blanksL
    rw [List.append_assoc, List.cons_append, bgo_sep has32, List.cons_append, bgo_gap has32, List.nil_append]
  rw [span_words (by simp) hw (by simp [a0]) (good_app.2 ⟨a1, b1⟩), tot_app, ← a2, ← b2]
theorem span_turned {a b : List UInt8} {x y : Nat} (ha : spanL a = some x) (hb : spanL b = some y) (hx : x ≤ maxSpan) (hy : y ≤ maxSpan) :
    spanL ([32] ++ b ++ [32] ++ a) = if x + y ≤ maxSpan then some (x + y) else none := by
  obtain ⟨a0, a1, a2⟩ := span_below ha hx
  obtain ⟨b0, b1, b2⟩ := span_below hb hy
  have hw : blanksL [32] ([32] ++ b ++ [32] ++ a) = blanksL [32] b ++ blanksL [32] a := by
    unfold blanksL
    rw [show ([32] ++ b ++ [32] ++ a : List UInt8) = 32 :: (b ++ 32 :: a) by simp, bgo_gap has32, bgo_sep has32]
  rw [span_words (by simp) hw (by simp [b0]) (good_app.2 ⟨b1, a1⟩), tot_app, ← a2, ← b2, Nat.add_comm]

/-- A number in digits. -/
def decL (n : Nat) : List UInt8 := if h : n < 10 then [UInt8.ofNat (48 + n)] else decL (n / 10) ++ [UInt8.ofNat (48 + n % 10)]
termination_by n
theorem dig_toNat (k : Nat) (h : k < 10) : (UInt8.ofNat (48 + k)).toNat = 48 + k := by
  rw [UInt8.toNat_ofNat']; omega
theorem dig_isDig (k : Nat) (h : k < 10) : isDig (UInt8.ofNat (48 + k)) = true := by
  unfold isDig; rw [dig_toNat k h]; simp; omega
theorem decL_ne (n : Nat) : decL n ≠ [] := by
  rw [decL]; split <;> simp
theorem decL_dig (n : Nat) : ∀ c ∈ decL n, isDig c = true := by
  induction n using Nat.strongRecOn with
  | _ n ih =>
    rw [decL]
    split
    · next h => intro c hc; rw [List.mem_singleton.1 hc]; exact dig_isDig n h
    · next h =>
      intro c hc
      rcases List.mem_append.1 hc with hc | hc
      · exact ih (n / 10) (by omega) c hc
      · rw [List.mem_singleton.1 hc]; exact dig_isDig _ (by omega)
theorem decL_val (n : Nat) : valL (decL n) = n := by
  induction n using Nat.strongRecOn with
  | _ n ih =>
    rw [decL]
    split
    · next h => simp only [valL, List.foldl_cons, List.foldl_nil]; rw [dig_toNat n h]; omega
    · next h =>
      have := ih (n / 10) (by omega)
      unfold valL at *
      rw [List.foldl_append, this, List.foldl_cons, List.foldl_nil, dig_toNat _ (by omega)]; omega
theorem decL_len (k n : Nat) (h : n < 10 ^ (k + 1)) : (decL n).length ≤ k + 1 := by
  induction k generalizing n with
  | zero => rw [decL, dif_pos (by omega)]; simp
  | succ k ih =>
    rw [decL]
    split
    · simp
    · next h2 =>
      have : n / 10 < 10 ^ (k + 1) := by rw [Nat.pow_succ] at h; omega
      have := ih _ this
      simp; omega
theorem take_all (l r : List UInt8) (h : ∀ c ∈ l, isDig c = true) (hr : ∀ c, r.head? = some c → isDig c = false) : (l ++ r).takeWhile isDig = l ∧ (l ++ r).dropWhile isDig = r := by
  induction l with
  | nil =>
    cases r with
    | nil => simp
    | cons c r => have := hr c rfl; simp [this]
  | cons x l ih =>
    have h0 := h x (by simp)
    have := ih fun c hc => h c (by simp [hc])
    simp [h0, this]
theorem wordV_dec (n : Nat) (u : List UInt8) (m : Nat) (hn : n < 10 ^ 10) (hu : ∀ c, u.head? = some c → isDig c = false) (hm : unitL u = m) (h0 : m ≠ 0) : wordV (decL n ++ u) = some (n * m) := by
  obtain ⟨e1, e2⟩ := take_all _ u (decL_dig n) hu
  unfold wordV
  rw [e1, e2, if_neg, decL_val, hm]
  have := decL_len 9 n hn
  have := decL_ne n
  rw [hm]
  rintro (h | h | h)
  · exact this h
  · omega
  · exact h0 h
theorem dig_plain {c : UInt8} (h : isDig c = true) : ([32] : List UInt8).contains c = false := by
  simp only [isDig, Bool.and_eq_true, decide_eq_true_eq] at h
  have : c ≠ 32 := by rintro rfl; revert h; decide
  simp [this]

/-- The written form: a number, its unit; what is 0 is left out. -/
def partW (k : Nat) (u : List UInt8) : List (List UInt8) := if k = 0 then [] else [decL k ++ u]
def wordsL (n : Nat) : List (List UInt8) :=
  partW (n / 86400) [100] ++ partW (n % 86400 / 3600) [104] ++ partW (n % 3600 / 60) [109, 105, 110] ++ partW (n % 60) [115]
def printL (n : Nat) : List UInt8 :=
  if n = forever then infL else if maxSpan < n then [] else if n = 0 then [48] else ((wordsL n).flatMap fun w => 32 :: w).drop 1
theorem partW_ok (k : Nat) (u : List UInt8) (hu : ∀ c ∈ u, ([32] : List UInt8).contains c = false) : ∀ w ∈ partW k u, w ≠ [] ∧ ∀ x ∈ w, ([32] : List UInt8).contains x = false := by
  intro w hw
  unfold partW at hw
  split at hw
  · exact absurd hw (by simp)
  · rw [List.mem_singleton.1 hw]
    refine ⟨by simp [decL_ne], fun x hx => ?_⟩
    rcases List.mem_append.1 hx with hx | hx
    · exact dig_plain (decL_dig _ x hx)
    · exact hu x hx
theorem wordsL_ok (n : Nat) : ∀ w ∈ wordsL n, w ≠ [] ∧ ∀ x ∈ w, ([32] : List UInt8).contains x = false := by
  intro w hw
  unfold wordsL at hw
  simp only [List.mem_append] at hw
  rcases hw with ((hw | hw) | hw) | hw
  · exact partW_ok _ _ (by decide) w hw
  · exact partW_ok _ _ (by decide) w hw
  · exact partW_ok _ _ (by decide) w hw
  · exact partW_ok _ _ (by decide) w hw
theorem partW_good (k : Nat) (u : List UInt8) (m : Nat) (hk : k < 10 ^ 10) (hu : ∀ c, u.head? = some c → isDig c = false) (hm : unitL u = m) (h0 : m ≠ 0) : good (partW k u) ∧ tot (partW k u) = k * m := by
  unfold partW
  split
  · next h => subst h; simp [good, tot]
  · have := wordV_dec k u m hk hu hm h0
    simp [good, tot, this]
theorem wordsL_good (n : Nat) (h : n ≤ maxSpan) : good (wordsL n) ∧ tot (wordsL n) = n := by
  unfold maxSpan at h
  obtain ⟨a0, a1⟩ := partW_good (n / 86400) [100] 86400 (by omega) (by simp [isDig]) (by decide) (by decide)
  obtain ⟨b0, b1⟩ := partW_good (n % 86400 / 3600) [104] 3600 (by omega) (by simp [isDig]) (by decide) (by decide)
  obtain ⟨c0, c1⟩ := partW_good (n % 3600 / 60) [109, 105, 110] 60 (by omega) (by simp [isDig]) (by decide) (by decide)
  obtain ⟨d0, d1⟩ := partW_good (n % 60) [115] 1 (by omega) (by simp [isDig]) (by decide) (by decide)
  unfold wordsL
  refine ⟨good_app.2 ⟨good_app.2 ⟨good_app.2 ⟨a0, b0⟩, c0⟩, d0⟩, ?_⟩
  rw [tot_app, tot_app, tot_app, a1, b1, c1, d1]
  omega
theorem wordsL_ne (n : Nat) (h : n ≤ maxSpan) (h0 : n ≠ 0) : wordsL n ≠ [] := by
  intro e
  have := (wordsL_good n h).2
  rw [e] at this
  simp [tot] at this
  omega
theorem blanks_drop (ws : List (List UInt8)) (h : ∀ w ∈ ws, w ≠ [] ∧ ∀ x ∈ w, ([32] : List UInt8).contains x = false) : blanksL [32] ((ws.flatMap fun w => 32 :: w).drop 1) = ws := by
  have := bgo_rows has32 ws h []
  rw [if_pos rfl, List.nil_append] at this
  cases ws with
  | nil => rfl
  | cons w ws =>
    rw [List.flatMap_cons, List.cons_append, bgo_gap has32] at this
    rw [List.flatMap_cons, List.cons_append, List.drop_succ_cons, List.drop_zero]
    exact this
theorem print_not_inf (n : Nat) (h : n ≤ maxSpan) : ((wordsL n).flatMap fun w => 32 :: w).drop 1 ≠ infL := by
  intro e
  have := blanks_drop _ (wordsL_ok n)
  rw [e] at this
  have hb : blanksL [32] infL = [infL] := by decide
  rw [hb] at this
  have hg := (wordsL_good n h).1
  rw [← this] at hg
  have := hg infL (by simp)
  revert this
  decide
/-- What is written is read as it was. -/
theorem span_print (n : Nat) (h : n ≤ maxSpan ∨ n = forever) : spanL (printL n) = some n := by
  unfold printL
  by_cases h1 : n = forever
  · rw [if_pos h1, h1]; unfold spanL; rw [if_pos rfl]
  · have h2 : n ≤ maxSpan := h.resolve_right h1
    rw [if_neg h1, if_neg (by omega)]
    by_cases h0 : n = 0
    · rw [if_pos h0, h0]; decide
    · rw [if_neg h0]
      unfold spanL
      rw [if_neg (print_not_inf n h2), blanks_drop _ (wordsL_ok n), if_neg (wordsL_ne n h2 h0)]
      have := wordsL_good n h2
      exact (sumV_some _ 0 n (Nat.zero_le _)).2 ⟨this.1, by omega, h2⟩
theorem print_ne (n : Nat) (h : n ≤ maxSpan ∨ n = forever) : printL n ≠ [] := by
  intro e
  have := span_print n h
  rw [e] at this
  revert this
  simp [spanL, infL, blanksL, bgo]
theorem print_none (n : Nat) (h : maxSpan < n) (h1 : n ≠ forever) : printL n = [] := by
  unfold printL; rw [if_neg h1, if_pos h]
theorem print_inj (n m : Nat) (h : n ≤ maxSpan ∨ n = forever) : printL m = printL n ↔ m = n := by
  constructor
  · intro e
    by_cases hm : m ≤ maxSpan ∨ m = forever
    · have a := span_print n h
      have b := span_print m hm
      rw [e, a] at b
      exact (Option.some.inj b).symm
    · have hm1 : ¬ m ≤ maxSpan := fun x => hm (Or.inl x)
      have hm2 : ¬ m = forever := fun x => hm (Or.inr x)
      rw [print_none m (by omega) hm2] at e
      exact absurd e.symm (print_ne n h)
  · rintro rfl; rfl
end Go.Proofs.Ytfjfhbmbngogpaa
