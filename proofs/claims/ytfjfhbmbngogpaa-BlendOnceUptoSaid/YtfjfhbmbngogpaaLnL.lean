/- Lines of unit files on plain lists of bytes: how a text is parted in logical lines, what one of them says, how lines are written, and the laws between. It speaks of no code. -/
import Derived.Test.YtfjfhbmbngogpaaLnP
import Derived.Test.YtfjfhbmbngogpaaSpL
namespace Go.Proofs.Ytfjfhbmbngogpaa

def blkL (c : UInt8) : Bool := c == 32 || c == 9
def ltrim (l : List UInt8) : List UInt8 := l.dropWhile blkL
def rtrim (l : List UInt8) : List UInt8 := (l.reverse.dropWhile blkL).reverse
def trimL (l : List UInt8) : List UInt8 := rtrim (ltrim l)
def remL (l : List UInt8) : Bool := match ltrim l with | [] => false | c :: _ => c == 35 || c == 59
def cleanC (c : UInt8) : Bool := !((decide (c.toNat < 32) && !(c == 9)) || c == 127)
def cleanL (l : List UInt8) : Bool := l.all cleanC
def letC (c : UInt8) : Bool := (decide (97 ≤ c.toNat) && decide (c.toNat ≤ 122)) || (decide (65 ≤ c.toNat) && decide (c.toNat ≤ 90))
def keyC (c : UInt8) : Bool := letC c || isDig c
def ofL (most : Nat) (p : UInt8 → Bool) (l : List UInt8) : Bool := decide (1 ≤ l.length) && decide (l.length ≤ most) && l.all p
def secL (l : List UInt8) : Bool := ofL 20 letC l
def keyL (l : List UInt8) : Bool := ofL 40 keyC l
def lastB (l : List UInt8) : Bool := decide (l.getLast? = some 92)
def skipR (r : List UInt8) : Bool := decide (trimL r = []) || remL r

/-- From the physical lines to the logical ones, with their numbers. The second one: a logical line that goes on. -/
def machL : Nat → Option (List UInt8 × Nat) → List (List UInt8) → List (List UInt8 × Nat)
  | _, none, [] => []
  | _, some o, [] => [o]
  | i, none, r :: rs =>
    if skipR r = true then machL (i + 1) none rs
    else if lastB r = true then machL (i + 1) (some (r.dropLast ++ [32], i)) rs
    else (r, i) :: machL (i + 1) none rs
  | i, some (a, n), r :: rs =>
    if remL r = true then machL (i + 1) (some (a, n)) rs
    else if lastB r = true then machL (i + 1) (some (a ++ (r.dropLast ++ [32]), n)) rs
    else (a ++ r, n) :: machL (i + 1) none rs

def beforeL (c : UInt8) (l : List UInt8) : List UInt8 := l.takeWhile fun x => !(x == c)
def afterL (c : UInt8) (l : List UInt8) : List UInt8 := (l.dropWhile fun x => !(x == c)).drop 1
inductive StepL where
  | bad (e : Nat) | skip | sect (s : List UInt8) | line (k v : List UInt8)
/-- What a line says that is clean, and no longer than it may be, and has no blanks at its ends. -/
def sayL (sec t : List UInt8) : StepL :=
  if t = [] then .skip
  else if t.head? = some 91 then (if t.getLast? = some 93 ∧ secL t.tail.dropLast = true then .sect t.tail.dropLast else .bad 10)
  else if t.contains 61 = false ∨ keyL (trimL (beforeL 61 t)) = false then .bad 9
  else if sec = [] then .bad 10
  else .line (trimL (beforeL 61 t)) (trimL (afterL 61 t))
def lineL (sec w : List UInt8) : StepL :=
  if cleanL w = false then .bad 1 else if 400 < w.length then .bad 2 else sayL sec (trimL w)

structure Ln where
  s : List UInt8
  k : List UInt8
  v : List UInt8
  n : Int
deriving DecidableEq
def foldL : List UInt8 → List Ln → List (List UInt8 × Nat) → List Ln × Nat × Nat
  | _, acc, [] => (acc, 0, 0)
  | sec, acc, (w, i) :: r => match lineL sec w with
    | .bad e => ([], e, i)
    | .skip => foldL sec acc r
    | .sect s => foldL s acc r
    | .line k v => foldL sec (acc ++ [⟨sec, k, v, i⟩]) r
def parseT (t : List UInt8) : List Ln × Nat × Nat := if 20000 < t.length then ([], 2, 0) else foldL [] [] (machL 1 none (splitL 10 t))

/-- The rows that are written. -/
def headP (sec s : List UInt8) : List (List UInt8) := if s = sec then [] else (if sec = [] then [] else [[]]) ++ [91 :: (s ++ [93])]
def rowsP : List UInt8 → List Ln → List (List UInt8)
  | _, [] => []
  | sec, x :: r => headP sec x.s ++ (x.k ++ 61 :: x.v) :: rowsP x.s r
def textR (rs : List (List UInt8)) : List UInt8 := rs.flatMap fun r => r ++ [10]
def writeT (l : List Ln) : List UInt8 := textR (rowsP [] l)
def okLn (x : Ln) : Bool := secL x.s && keyL x.k && cleanL x.v && decide (trimL x.v = x.v) && !lastB x.v && decide (x.k.length + 1 + x.v.length ≤ 400)
def mayT (l : List Ln) : Bool := l.all okLn && decide ((writeT l).length ≤ 20000)
def printT (l : List Ln) : List UInt8 := if mayT l = true then writeT l else []
/-- A line without its number. -/
def bare (x : Ln) : Ln := { x with n := 0 }

theorem textR_app (a b : List (List UInt8)) : textR (a ++ b) = textR a ++ textR b := by simp [textR]
theorem textR_cons (a : List UInt8) (b : List (List UInt8)) : textR (a :: b) = a ++ 10 :: textR b := by simp [textR]
theorem split_rows (rs : List (List UInt8)) (h : ∀ r ∈ rs, (10 : UInt8) ∉ r) (m : List UInt8) : splitL 10 (textR rs ++ m) = rs ++ splitL 10 m := by
  induction rs with
  | nil => rfl
  | cons r rs ih =>
    rw [textR_cons, List.append_assoc, List.cons_append, split_cons (h r (by simp)), ih (fun x hx => h x (by simp [hx]))]
    rfl

theorem dropWhile_id {p : UInt8 → Bool} {l : List UInt8} (h : ∀ c, l.head? = some c → p c = false) : l.dropWhile p = l := by
  cases l with
  | nil => rfl
  | cons c l => rw [List.dropWhile_cons, h c rfl]; rfl
theorem ltrim_id {l : List UInt8} (h : ∀ c, l.head? = some c → blkL c = false) : ltrim l = l := dropWhile_id h
theorem rtrim_id {l : List UInt8} (h : ∀ c, l.getLast? = some c → blkL c = false) : rtrim l = l := by
  unfold rtrim
  rw [dropWhile_id (fun c hc => h c (by rw [← List.head?_reverse]; exact hc)), List.reverse_reverse]
theorem trim_id {l : List UInt8} (h : ∀ c, l.head? = some c → blkL c = false) (g : ∀ c, l.getLast? = some c → blkL c = false) : trimL l = l := by
  unfold trimL
  rw [ltrim_id h, rtrim_id g]
theorem dropWhile_head {p : UInt8 → Bool} {l : List UInt8} : ∀ c, (l.dropWhile p).head? = some c → p c = false := by
  induction l with
  | nil => intro c h; cases h
  | cons x l ih =>
    intro c h
    rw [List.dropWhile_cons] at h
    by_cases hx : p x = true
    · rw [if_pos hx] at h; exact ih c h
    · rw [if_neg hx] at h
      simp at h
      subst h
      simpa using hx
theorem rtrim_last (l : List UInt8) : ∀ c, (rtrim l).getLast? = some c → blkL c = false := by
  intro c h
  unfold rtrim at h
  rw [List.getLast?_reverse] at h
  exact dropWhile_head c h
theorem rtrim_pre (l : List UInt8) : ∃ t, l = rtrim l ++ t := by
  obtain ⟨t, h⟩ := List.dropWhile_suffix blkL (l := l.reverse)
  refine ⟨t.reverse, ?_⟩
  unfold rtrim
  rw [← List.reverse_append, h, List.reverse_reverse]
theorem ltrim_suf (l : List UInt8) : ∃ t, l = t ++ ltrim l := by
  obtain ⟨t, h⟩ := List.dropWhile_suffix blkL (l := l)
  exact ⟨t, h.symm⟩
theorem rtrim_head (l : List UInt8) (h : ∀ c, l.head? = some c → blkL c = false) : ∀ c, (rtrim l).head? = some c → blkL c = false := by
  intro c hc
  obtain ⟨t, e⟩ := rtrim_pre l
  refine h c ?_
  rw [e]
  cases hr : rtrim l with
  | nil => rw [hr] at hc; cases hc
  | cons x r => rw [hr] at hc; exact hc
theorem trim_head (l : List UInt8) : ∀ c, (trimL l).head? = some c → blkL c = false := rtrim_head _ (fun c hc => dropWhile_head c hc)
theorem trim_last (l : List UInt8) : ∀ c, (trimL l).getLast? = some c → blkL c = false := rtrim_last _
theorem trim_trim (l : List UInt8) : trimL (trimL l) = trimL l := trim_id (trim_head l) (trim_last l)
/-- A text is its middle between blanks. -/
theorem trim_parts (l : List UInt8) : ∃ a b, l = a ++ (trimL l ++ b) := by
  obtain ⟨a, h⟩ := ltrim_suf l
  obtain ⟨b, g⟩ := rtrim_pre (ltrim l)
  exact ⟨a, b, by unfold trimL; rw [← g, ← h]⟩
theorem trim_le (l : List UInt8) : (trimL l).length ≤ l.length := by
  obtain ⟨a, b, h⟩ := trim_parts l
  have := congrArg List.length h
  simp only [List.length_append] at this
  omega
theorem trim_mem {l : List UInt8} {c : UInt8} (h : c ∈ trimL l) : c ∈ l := by
  obtain ⟨a, b, e⟩ := trim_parts l
  rw [e]; simp [h]
theorem trim_clean {l : List UInt8} (h : cleanL l = true) : cleanL (trimL l) = true := by
  unfold cleanL at *
  rw [List.all_eq_true] at *
  exact fun c hc => h c (trim_mem hc)

theorem key_facts : ∀ c : UInt8, keyC c = true → blkL c = false ∧ cleanC c = true ∧ c ≠ 10 ∧ c ≠ 35 ∧ c ≠ 59 ∧ c ≠ 61 ∧ c ≠ 91 ∧ c ≠ 92 := by
  intro c h
  have : ∀ k : Fin 256, keyC (UInt8.ofNat k.val) = true → blkL (UInt8.ofNat k.val) = false ∧ cleanC (UInt8.ofNat k.val) = true ∧ UInt8.ofNat k.val ≠ 10 ∧ UInt8.ofNat k.val ≠ 35 ∧ UInt8.ofNat k.val ≠ 59 ∧ UInt8.ofNat k.val ≠ 61 ∧ UInt8.ofNat k.val ≠ 91 ∧ UInt8.ofNat k.val ≠ 92 := by decide +kernel
  have h1 := this ⟨c.toNat, c.toNat_lt⟩
  simp only [UInt8.ofNat_toNat] at h1
  exact h1 h
theorem let_key {c : UInt8} (h : letC c = true) : keyC c = true := by unfold keyC; rw [h]; rfl
theorem ofL_iff {m : Nat} {p : UInt8 → Bool} {l : List UInt8} : ofL m p l = true ↔ 1 ≤ l.length ∧ l.length ≤ m ∧ ∀ c ∈ l, p c = true := by
  unfold ofL
  simp [and_assoc]
theorem clean_nl {l : List UInt8} (h : cleanL l = true) : (10 : UInt8) ∉ l := by
  intro hm
  unfold cleanL at h
  rw [List.all_eq_true] at h
  have := h 10 hm
  revert this
  decide
theorem clean_app (a b : List UInt8) : cleanL (a ++ b) = (cleanL a && cleanL b) := by unfold cleanL; rw [List.all_append]
theorem ne_nil_of_len {l : List UInt8} (h : 1 ≤ l.length) : l ≠ [] := by rintro rfl; simp at h

/-- What holds of a row that stands for a section. -/
theorem sect_row {s : List UInt8} (h : secL s = true) (sec : List UInt8) :
    skipR (91 :: (s ++ [93])) = false ∧ lastB (91 :: (s ++ [93])) = false ∧ (10 : UInt8) ∉ (91 :: (s ++ [93])) ∧ lineL sec (91 :: (s ++ [93])) = .sect s := by
  obtain ⟨h1, h2, h3⟩ := ofL_iff.1 h
  have hk : ∀ c ∈ s, keyC c = true := fun c hc => let_key (h3 c hc)
  have hc : cleanL (91 :: (s ++ [93])) = true := by
    unfold cleanL
    rw [List.all_eq_true]
    intro c hc
    simp at hc
    rcases hc with rfl | hc | rfl
    · decide
    · exact (key_facts c (hk c hc)).2.1
    · decide
  have hl : (91 :: (s ++ [93])).getLast? = some 93 := by rw [← List.cons_append, List.getLast?_append]; rfl
  have ht : trimL (91 :: (s ++ [93])) = 91 :: (s ++ [93]) := trim_id (by intro c hc; simp at hc; subst hc; decide) (by intro c hc; rw [hl] at hc; injection hc with hc; subst hc; decide)
  have hlt : ltrim (91 :: (s ++ [93])) = 91 :: (s ++ [93]) := ltrim_id (by intro c hc; simp at hc; subst hc; decide)
  refine ⟨?_, ?_, clean_nl hc, ?_⟩
  · unfold skipR remL
    rw [ht, hlt]
    rfl
  · unfold lastB
    rw [hl]
    rfl
  · unfold lineL
    rw [hc, if_neg (by simp), if_neg (by simp; omega), ht]
    unfold sayL
    rw [if_neg (by simp), if_pos (by rfl), hl]
    have e : (91 :: (s ++ [93])).tail.dropLast = s := by simp
    rw [e, if_pos ⟨rfl, h⟩]
theorem before_app {c : UInt8} {a : List UInt8} (h : c ∉ a) (b : List UInt8) : beforeL c (a ++ c :: b) = a ∧ afterL c (a ++ c :: b) = b := by
  unfold beforeL afterL
  induction a with
  | nil => simp
  | cons x a ih =>
    have hx : (x == c) = false := by
      rw [beq_eq_false_iff_ne]
      intro e; exact h (by simp [e])
    obtain ⟨i1, i2⟩ := ih (fun hm => h (by simp [hm]))
    constructor
    · simp [hx, i1]
    · simp [hx, i2]
theorem before_parts {c : UInt8} {l : List UInt8} (h : l.contains c = true) : l = beforeL c l ++ c :: afterL c l := by
  unfold beforeL afterL
  induction l with
  | nil => cases h
  | cons x l ih =>
    by_cases hx : x = c
    · subst hx; simp
    · have hx' : (x == c) = false := by rw [beq_eq_false_iff_ne]; exact hx
      have hl : l.contains c = true := by
        have h' := h
        rw [List.contains_cons] at h'
        have hcx : (c == x) = false := by rw [beq_eq_false_iff_ne]; exact fun e => hx e.symm
        rwa [hcx, Bool.false_or] at h'
      have := ih hl
      simp only [List.takeWhile_cons, List.dropWhile_cons, hx', Bool.not_false, if_true, List.cons_append]
      rw [← this]
theorem key_row {x : Ln} (h : okLn x = true) (sec : List UInt8) (hs : sec ≠ []) :
    skipR (x.k ++ 61 :: x.v) = false ∧ lastB (x.k ++ 61 :: x.v) = false ∧ (10 : UInt8) ∉ (x.k ++ 61 :: x.v) ∧ lineL sec (x.k ++ 61 :: x.v) = .line x.k x.v := by
  unfold okLn at h
  simp only [Bool.and_eq_true, decide_eq_true_eq, Bool.not_eq_true'] at h
  obtain ⟨⟨⟨⟨⟨h1, h2⟩, h3⟩, h4⟩, h5⟩, h6⟩ := h
  obtain ⟨g1, g2, g3⟩ := ofL_iff.1 h2
  have hc : cleanL (x.k ++ 61 :: x.v) = true := by
    rw [clean_app]
    have a1 : cleanL x.k = true := by unfold cleanL; rw [List.all_eq_true]; exact fun c hc => (key_facts c (g3 c hc)).2.1
    have a2 : cleanL (61 :: x.v) = true := by unfold cleanL at *; rw [List.all_cons, h3]; rfl
    rw [a1, a2]; rfl
  have hne : (61 : UInt8) ∉ x.k := fun hm => (key_facts 61 (g3 61 hm)).2.2.2.2.2.1 rfl
  obtain ⟨c0, r0, e0⟩ : ∃ c r, x.k = c :: r := by
    cases hk : x.k with
    | nil => rw [hk] at g1; simp at g1
    | cons c r => exact ⟨c, r, rfl⟩
  have f0 := key_facts c0 (g3 c0 (by rw [e0]; simp))
  have hh : (x.k ++ 61 :: x.v).head? = some c0 := by rw [e0]; rfl
  have hl : ∀ c, (x.k ++ 61 :: x.v).getLast? = some c → blkL c = false ∧ c ≠ 92 := by
    intro c hc
    rw [List.getLast?_append, List.getLast?_cons] at hc
    simp only [Option.some_or, Option.some.injEq] at hc
    cases hv : x.v.getLast? with
    | none => rw [hv] at hc; simp at hc; subst hc; decide
    | some d =>
      rw [hv] at hc
      simp at hc
      subst hc
      refine ⟨trim_last x.v d (by rw [h4]; exact hv), ?_⟩
      intro e
      unfold lastB at h5
      rw [hv, e] at h5
      simp at h5
  have ht : trimL (x.k ++ 61 :: x.v) = x.k ++ 61 :: x.v := trim_id (by intro c hc; rw [hh] at hc; injection hc with hc; subst hc; exact f0.1) (fun c hc => (hl c hc).1)
  have hlt : ltrim (x.k ++ 61 :: x.v) = x.k ++ 61 :: x.v := ltrim_id (by intro c hc; rw [hh] at hc; injection hc with hc; subst hc; exact f0.1)
  refine ⟨?_, ?_, clean_nl hc, ?_⟩
  · unfold skipR remL
    rw [ht, hlt, e0]
    have q1 : (c0 == 35) = false := by rw [beq_eq_false_iff_ne]; exact f0.2.2.2.1
    have q2 : (c0 == 59) = false := by rw [beq_eq_false_iff_ne]; exact f0.2.2.2.2.1
    simp [q1, q2]
  · unfold lastB
    rw [decide_eq_false_iff_not]
    intro e
    exact (hl 92 e).2 rfl
  · unfold lineL
    rw [hc, if_neg (by simp), if_neg (by simp only [List.length_append, List.length_cons]; omega), ht]
    unfold sayL
    obtain ⟨b1, b2⟩ := before_app hne x.v
    have hkt : trimL x.k = x.k := trim_id (by intro c hc; rw [e0] at hc; simp at hc; subst hc; exact f0.1) (by intro c hc; exact (key_facts c (g3 c (List.mem_of_getLast? hc))).1)
    rw [if_neg (by simp), hh, if_neg (by simp; exact f0.2.2.2.2.2.2.1), b1, b2, hkt, h2, h4, if_neg (by simp), if_neg hs]

/-- Lines of which none goes on, numbered, those that are skipped left out. -/
def numL : Nat → List (List UInt8) → List (List UInt8 × Nat)
  | _, [] => []
  | i, r :: rs => if skipR r = true then numL (i + 1) rs else (r, i) :: numL (i + 1) rs
theorem mach_num (rs more : List (List UInt8)) (h : ∀ r ∈ rs, skipR r = false → lastB r = false) (i : Nat) : machL i none (rs ++ more) = numL i rs ++ machL (i + rs.length) none more := by
  induction rs generalizing i with
  | nil => rfl
  | cons r rs ih =>
    have ih' := ih (fun x hx => h x (by simp [hx])) (i + 1)
    rw [List.cons_append, machL, numL]
    have e : i + (r :: rs).length = i + 1 + rs.length := by rw [List.length_cons]; omega
    cases hs : skipR r with
    | true => rw [if_pos rfl, if_pos rfl, ih', e]
    | false =>
      have hb := h r (by simp) hs
      rw [if_neg (by simp), hb, if_neg (by simp), ih', e, if_neg (by simp)]
      rfl
theorem num_app (i : Nat) (a b : List (List UInt8)) : numL i (a ++ b) = numL i a ++ numL (i + a.length) b := by
  induction a generalizing i with
  | nil => rfl
  | cons r a ih =>
    rw [List.cons_append, numL, numL, ih]
    have e : i + (r :: a).length = i + 1 + a.length := by rw [List.length_cons]; omega
    rw [e]
    split <;> rfl
theorem num_texts (i : Nat) (rs : List (List UInt8)) : (numL i rs).map Prod.fst = rs.filter fun r => !skipR r := by
  induction rs generalizing i with
  | nil => rfl
  | cons r rs ih =>
    rw [numL, List.filter_cons]
    cases hs : skipR r <;> simp [ih]
theorem num_ge (i : Nat) (rs : List (List UInt8)) : ∀ p ∈ numL i rs, i ≤ p.2 := by
  induction rs generalizing i with
  | nil => intro p hp; cases hp
  | cons r rs ih =>
    intro p hp
    rw [numL] at hp
    split at hp
    · have := ih (i + 1) p hp; omega
    · rcases List.mem_cons.1 hp with rfl | hp
      · exact Nat.le_refl _
      · have := ih (i + 1) p hp; omega
theorem num_rise (i : Nat) (rs : List (List UInt8)) : ((numL i rs).map Prod.snd).Pairwise (· < ·) := by
  induction rs generalizing i with
  | nil => exact List.Pairwise.nil
  | cons r rs ih =>
    rw [numL]
    split
    · exact ih (i + 1)
    · rw [List.map_cons, List.pairwise_cons]
      refine ⟨?_, ih (i + 1)⟩
      intro a ha
      obtain ⟨p, hp, rfl⟩ := List.mem_map.1 ha
      have := num_ge (i + 1) rs p hp
      show i < p.2
      omega

/-- The section behind some lines. -/
def secOf : List UInt8 → List Ln → List UInt8
  | sec, [] => sec
  | _, x :: r => secOf x.s r
theorem rows_app (sec : List UInt8) (a b : List Ln) : rowsP sec (a ++ b) = rowsP sec a ++ rowsP (secOf sec a) b := by
  induction a generalizing sec with
  | nil => rfl
  | cons x a ih => rw [List.cons_append, rowsP, rowsP, ih, secOf]; simp
theorem okLn_sec {x : Ln} (h : okLn x = true) : secL x.s = true ∧ x.s ≠ [] := by
  unfold okLn at h
  simp only [Bool.and_eq_true] at h
  refine ⟨h.1.1.1.1.1, ?_⟩
  exact ne_nil_of_len (ofL_iff.1 h.1.1.1.1.1).1
theorem skip_nil : skipR [] = true := by decide
/-- The rows of lines that may be have no byte 10, and go not on. -/
theorem rows_good (l : List Ln) (h : ∀ x ∈ l, okLn x = true) (sec : List UInt8) : ∀ r ∈ rowsP sec l, (10 : UInt8) ∉ r ∧ lastB r = false := by
  induction l generalizing sec with
  | nil => intro r hr; cases hr
  | cons x l ih =>
    intro r hr
    have hx := h x (by simp)
    obtain ⟨q1, q2, q3, q4⟩ := key_row hx x.s (okLn_sec hx).2
    obtain ⟨p1, p2, p3, p4⟩ := sect_row (okLn_sec hx).1 []
    rw [rowsP, List.mem_append] at hr
    rcases hr with hr | hr
    · unfold headP at hr
      split at hr
      · cases hr
      · rw [List.mem_append] at hr
        rcases hr with hr | hr
        · split at hr
          · cases hr
          · simp at hr; subst hr; exact ⟨by simp, by decide⟩
        · simp only [List.mem_singleton] at hr; subst hr; exact ⟨p3, p2⟩
    · rcases List.mem_cons.1 hr with rfl | hr
      · exact ⟨q3, q2⟩
      · exact ih (fun y hy => h y (by simp [hy])) _ r hr
/-- What comes of the rows of lines that may be, however they are numbered. -/
theorem fold_rows (l : List Ln) (h : ∀ x ∈ l, okLn x = true) (sec : List UInt8) (acc : List Ln) (ws rest : List (List UInt8 × Nat)) (hw : ws.map Prod.fst = (rowsP sec l).filter fun r => !skipR r) :
    ∃ l', foldL sec acc (ws ++ rest) = foldL (secOf sec l) (acc ++ l') rest ∧ l'.map bare = l.map bare ∧ (l'.map Ln.n).Sublist (ws.map fun p => (p.2 : Int)) := by
  induction l generalizing sec acc ws with
  | nil =>
    have : ws = [] := by simpa [rowsP] using hw
    subst this
    exact ⟨[], by simp [secOf], rfl, by simp⟩
  | cons x l ih =>
    have hx := h x (by simp)
    have hsec := okLn_sec hx
    obtain ⟨q1, q2, q3, q4⟩ := key_row hx x.s hsec.2
    obtain ⟨p1, p2, p3, p4⟩ := sect_row hsec.1 sec
    have ih' := fun acc ws hw => ih (fun y hy => h y (by simp [hy])) x.s acc ws hw
    have hkey : ∀ (acc : List Ln) (ws : List (List UInt8 × Nat)), ws.map Prod.fst = ((x.k ++ 61 :: x.v) :: rowsP x.s l).filter (fun r => !skipR r) →
        ∃ l', foldL x.s acc (ws ++ rest) = foldL (secOf sec (x :: l)) (acc ++ l') rest ∧ l'.map bare = (x :: l).map bare ∧ (l'.map Ln.n).Sublist (ws.map fun p => (p.2 : Int)) := by
      intro acc ws hw
      rw [List.filter_cons, q1] at hw
      match ws, hw with
      | (w, i) :: ws, hw =>
        simp only [Bool.not_false, if_true, List.map_cons, List.cons.injEq] at hw
        obtain ⟨rfl, hw⟩ := hw
        obtain ⟨l', e1, e2, e3⟩ := ih' (acc ++ [⟨x.s, x.k, x.v, i⟩]) ws hw
        refine ⟨⟨x.s, x.k, x.v, i⟩ :: l', ?_, ?_, ?_⟩
        · rw [List.cons_append, foldL, q4]
          dsimp only
          rw [e1, secOf, List.append_assoc]
          rfl
        · rw [List.map_cons, List.map_cons, e2]; rfl
        · rw [List.map_cons, List.map_cons]
          exact List.Sublist.cons_cons _ e3
    rw [rowsP, List.filter_append] at hw
    by_cases hs : x.s = sec
    · rw [headP, if_pos hs, List.filter_nil, List.nil_append] at hw
      rw [← hs]
      rw [← hs] at hkey
      exact hkey acc ws hw
    · rw [headP, if_neg hs] at hw
      have hf : ((if sec = [] then [] else [([] : List UInt8)]) ++ [91 :: (x.s ++ [93])]).filter (fun r => !skipR r) = [91 :: (x.s ++ [93])] := by
        rw [List.filter_append]
        have : (if sec = [] then [] else [([] : List UInt8)]).filter (fun r => !skipR r) = [] := by
          split
          · rfl
          · rfl
        rw [this, List.filter_cons, p1]; rfl
      rw [hf] at hw
      match ws, hw with
      | (w, i) :: ws, hw =>
        simp only [List.map_cons, List.cons_append, List.nil_append, List.cons.injEq] at hw
        obtain ⟨rfl, hw⟩ := hw
        obtain ⟨l', e1, e2, e3⟩ := hkey acc ws hw
        refine ⟨l', ?_, e2, ?_⟩
        · rw [List.cons_append, foldL, p4]
          dsimp only
          rw [e1]
        · rw [List.map_cons]
          exact e3.cons _

theorem may_all {l : List Ln} (h : mayT l = true) : (∀ x ∈ l, okLn x = true) ∧ (writeT l).length ≤ 20000 := by
  unfold mayT at h
  simpa using h
theorem mach_end (rs : List (List UInt8)) (h : ∀ r ∈ rs, skipR r = false → lastB r = false) (i : Nat) : machL i none (rs ++ splitL 10 []) = numL i rs := by
  rw [mach_num rs _ h]
  have : splitL 10 [] = [[]] := rfl
  rw [this]
  simp [machL, skip_nil]
/-- What is written is read as it was, whatever rows that are skipped stand between. -/
theorem parse_rows (l : List Ln) (h : ∀ x ∈ l, okLn x = true) (rs : List (List UInt8)) (hr : rs.filter (fun r => !skipR r) = (rowsP [] l).filter fun r => !skipR r) (hg : ∀ r ∈ rs, (10 : UInt8) ∉ r ∧ (skipR r = false → lastB r = false)) (hlen : (textR rs).length ≤ 20000) :
    ∃ l', parseT (textR rs) = (l', 0, 0) ∧ l'.map bare = l.map bare ∧ (l'.map Ln.n).Pairwise (· < ·) := by
  unfold parseT
  rw [if_neg (by omega)]
  have e := split_rows rs (fun r hx => (hg r hx).1) []
  rw [List.append_nil] at e
  rw [e, mach_end rs (fun r hx => (hg r hx).2)]
  obtain ⟨l', e1, e2, e3⟩ := fold_rows l h [] [] (numL 1 rs) [] (by rw [num_texts, hr])
  refine ⟨l', ?_, e2, ?_⟩
  · rw [List.append_nil] at e1
    rw [e1]
    rfl
  · refine List.Pairwise.sublist e3 ?_
    have := num_rise 1 rs
    rw [List.pairwise_map] at this ⊢
    exact this.imp (fun hab => by omega)
theorem parse_write (l : List Ln) (h : mayT l = true) : ∃ l', parseT (writeT l) = (l', 0, 0) ∧ l'.map bare = l.map bare ∧ (l'.map Ln.n).Pairwise (· < ·) := by
  obtain ⟨h1, h2⟩ := may_all h
  exact parse_rows l h1 (rowsP [] l) rfl (fun r hr => ⟨(rows_good l h1 [] r hr).1, fun _ => (rows_good l h1 [] r hr).2⟩) h2

/-- A line that is wrong behind lines that may be. -/
theorem parse_wrong (l : List Ln) (h : ∀ x ∈ l, okLn x = true) (b more : List UInt8) (e : Nat) (hb : skipR b = false ∧ lastB b = false ∧ (10 : UInt8) ∉ b ∧ ∀ sec, lineL sec b = .bad e) (hlen : (writeT l ++ (b ++ 10 :: more)).length ≤ 20000) :
    parseT (writeT l ++ (b ++ 10 :: more)) = ([], e, 1 + (rowsP [] l).length) := by
  unfold parseT
  rw [if_neg (by omega)]
  unfold writeT
  rw [split_rows _ (fun r hr => (rows_good l h [] r hr).1), split_cons hb.2.2.1]
  rw [mach_num _ _ (fun r hr _ => (rows_good l h [] r hr).2), machL, hb.1, if_neg (by simp), hb.2.1, if_neg (by simp)]
  obtain ⟨l', e1, _, _⟩ := fold_rows l h [] [] (numL 1 (rowsP [] l)) ((b, 1 + (rowsP [] l).length) :: machL (1 + (rowsP [] l).length + 1) none (splitL 10 more)) (by rw [num_texts])
  rw [e1, foldL, hb.2.2.2]

theorem write_app (a b : List Ln) : writeT (a ++ b) = writeT a ++ textR (rowsP (secOf [] a) b) := by
  unfold writeT
  rw [rows_app, textR_app]
theorem may_take {l : List Ln} (h : mayT l = true) (k : Nat) : mayT (l.take k) = true ∧ (writeT (l.take k)) <+: writeT l := by
  obtain ⟨h1, h2⟩ := may_all h
  have e := write_app (l.take k) (l.drop k)
  rw [List.take_append_drop] at e
  have hp : (writeT (l.take k)) <+: writeT l := ⟨_, e.symm⟩
  refine ⟨?_, hp⟩
  unfold mayT
  simp only [Bool.and_eq_true, List.all_eq_true, decide_eq_true_eq]
  exact ⟨fun x hx => h1 x (List.mem_of_mem_take hx), Nat.le_trans hp.length_le h2⟩

/-- How many bytes lines take, with a byte behind each. -/
def costW (ws : List (List UInt8 × Nat)) : Nat := (ws.map fun p => p.1.length + 1).sum
def costR (rs : List (List UInt8)) : Nat := (rs.map fun r => r.length + 1).sum
theorem sgo_cost (b : UInt8) (l w : List UInt8) : costR (sgo b w l) = w.length + l.length + 1 := by
  induction l generalizing w with
  | nil => simp [sgo, costR]
  | cons c l ih =>
    rw [sgo]
    split
    · have := ih []
      simp only [costR, List.map_cons, List.sum_cons, List.length_cons, List.length_nil] at this ⊢
      omega
    · rw [ih]; simp; omega
theorem mach_cost (rs : List (List UInt8)) (i : Nat) (o : Option (List UInt8 × Nat)) : costW (machL i o rs) ≤ (match o with | none => 0 | some p => p.1.length + 1) + costR rs := by
  induction rs generalizing i o with
  | nil => cases o <;> simp [machL, costW, costR]
  | cons r rs ih =>
    have e : costR (r :: rs) = r.length + 1 + costR rs := by simp [costR]
    have hd : lastB r = true → (r.dropLast ++ [32]).length = r.length := by
      intro hb
      cases r with
      | nil => cases hb
      | cons c r => simp
    rcases o with _ | ⟨a, n⟩
    · rw [machL, e]
      split
      · have := ih (i + 1) none; simp only at this ⊢; omega
      · split
        · rename_i hb
          have := ih (i + 1) (some (r.dropLast ++ [32], i))
          simp only [hd hb] at this ⊢; omega
        · have := ih (i + 1) none
          simp only [costW, List.map_cons, List.sum_cons] at this ⊢
          omega
    · rw [machL, e]
      split
      · have := ih (i + 1) (some (a, n)); simp only at this ⊢; omega
      · split
        · rename_i hb
          have := ih (i + 1) (some (a ++ (r.dropLast ++ [32]), n))
          have h2 := hd hb
          simp only [List.length_append] at this h2 ⊢
          omega
        · have := ih (i + 1) none
          simp only [costW, List.map_cons, List.sum_cons, List.length_append] at this ⊢
          omega
theorem secOf_app (sec : List UInt8) (a : List Ln) (x : Ln) : secOf sec (a ++ [x]) = x.s := by
  induction a generalizing sec with
  | nil => rfl
  | cons y a ih => rw [List.cons_append, secOf]; exact ih y.s
theorem head_len (sec s : List UInt8) : (textR (headP sec s)).length ≤ if s = sec then 0 else s.length + 4 := by
  unfold headP
  split
  · simp [textR]
  · rw [textR_app]
    split <;> simp [textR]
/-- What stands behind a line that says a key. -/
theorem line_facts {sec w k v : List UInt8} (h : lineL sec w = .line k v) : keyL k = true ∧ cleanL v = true ∧ trimL v = v ∧ k.length + 1 + v.length ≤ w.length ∧ w.length ≤ 400 ∧ sec ≠ [] := by
  unfold lineL at h
  by_cases h1 : cleanL w = false
  · rw [if_pos h1] at h; cases h
  rw [if_neg h1] at h
  by_cases h2 : 400 < w.length
  · rw [if_pos h2] at h; cases h
  rw [if_neg h2] at h
  unfold sayL at h
  by_cases h3 : trimL w = []
  · rw [if_pos h3] at h; cases h
  rw [if_neg h3] at h
  by_cases h4 : (trimL w).head? = some 91
  · rw [if_pos h4] at h; split at h <;> cases h
  rw [if_neg h4] at h
  by_cases h5 : (trimL w).contains 61 = false ∨ keyL (trimL (beforeL 61 (trimL w))) = false
  · rw [if_pos h5] at h; cases h
  rw [if_neg h5] at h
  by_cases h6 : sec = []
  · rw [if_pos h6] at h; cases h
  rw [if_neg h6] at h
  injection h with e1 e2
  subst e1 e2
  rw [not_or] at h5
  obtain ⟨g1, g2⟩ := h5
  have hp := before_parts (c := 61) (l := trimL w) (by simpa using g1)
  have hlen := congrArg List.length hp
  simp only [List.length_append, List.length_cons] at hlen
  have a1 := trim_le (beforeL 61 (trimL w))
  have a2 := trim_le (afterL 61 (trimL w))
  have a3 := trim_le w
  have hc : cleanL (trimL w) = true := trim_clean (by simpa using h1)
  rw [hp, clean_app] at hc
  simp only [Bool.and_eq_true] at hc
  have hc2 : cleanL (afterL 61 (trimL w)) = true := by
    have := hc.2
    unfold cleanL at this ⊢
    rw [List.all_cons, Bool.and_eq_true] at this
    exact this.2
  exact ⟨by simpa using g2, trim_clean hc2, trim_trim _, by omega, by omega, h6⟩
theorem sect_facts {sec w s : List UInt8} (h : lineL sec w = .sect s) : secL s = true ∧ s.length + 2 ≤ w.length := by
  unfold lineL at h
  by_cases h1 : cleanL w = false
  · rw [if_pos h1] at h; cases h
  rw [if_neg h1] at h
  by_cases h2 : 400 < w.length
  · rw [if_pos h2] at h; cases h
  rw [if_neg h2] at h
  unfold sayL at h
  by_cases h3 : trimL w = []
  · rw [if_pos h3] at h; cases h
  rw [if_neg h3] at h
  by_cases h4 : (trimL w).head? = some 91
  · rw [if_pos h4] at h
    by_cases h5 : (trimL w).getLast? = some 93 ∧ secL (trimL w).tail.dropLast = true
    · rw [if_pos h5] at h
      injection h with e
      subst e
      refine ⟨h5.2, ?_⟩
      have h6 := (ofL_iff.1 h5.2).1
      simp only [List.length_dropLast, List.length_tail] at h6 ⊢
      have := trim_le w
      omega
    · rw [if_neg h5] at h; cases h
  · rw [if_neg h4] at h
    split at h
    · cases h
    · split at h <;> cases h
/-- Lines that were read may be, but for the length of what is written, and that is bounded. -/
theorem fold_back (ws : List (List UInt8 × Nat)) (sec : List UInt8) (acc l : List Ln) (c : Nat) (h : foldL sec acc ws = (l, 0, 0)) (hv : ∀ x ∈ l, lastB x.v = false) (ha : ∀ x ∈ acc, lastB x.v = false → okLn x = true) (hs : sec = [] ∨ secL sec = true)
    (hc : (writeT acc).length + (if sec = secOf [] acc then 0 else sec.length + 4) ≤ 2 * c) : (∀ x ∈ l, okLn x = true) ∧ (writeT l).length ≤ 2 * (c + costW ws) := by
  induction ws generalizing sec acc c with
  | nil =>
    rw [foldL] at h
    injection h with h _
    subst h
    refine ⟨fun x hx => ha x hx (hv x hx), ?_⟩
    simp only [costW, List.map_nil, List.sum_nil]
    omega
  | cons p ws ih =>
    obtain ⟨w, i⟩ := p
    have e : costW ((w, i) :: ws) = w.length + 1 + costW ws := by simp [costW]
    rw [e]
    rw [foldL] at h
    have hgo : ∀ c' : Nat, 2 * (c' + costW ws) ≤ 2 * (c + (w.length + 1 + costW ws)) ↔ c' ≤ c + (w.length + 1) := fun c' => by omega
    cases hl : lineL sec w with
    | bad e =>
      rw [hl] at h
      dsimp only at h
      injection h with _ h
      injection h with h _
      exfalso
      subst h
      unfold lineL at hl
      split at hl
      · cases hl
      · split at hl
        · cases hl
        · unfold sayL at hl
          split at hl
          · cases hl
          · split at hl
            · split at hl <;> cases hl
            · split at hl
              · cases hl
              · split at hl <;> cases hl
    | skip =>
      rw [hl] at h
      obtain ⟨r1, r2⟩ := ih sec acc c h ha hs hc
      exact ⟨r1, by omega⟩
    | sect s =>
      rw [hl] at h
      obtain ⟨f1, f2⟩ := sect_facts hl
      obtain ⟨r1, r2⟩ := ih s acc (c + (w.length + 1)) h ha (.inr f1) (by
        have : (writeT acc).length ≤ 2 * c := by omega
        split <;> omega)
      exact ⟨r1, by omega⟩
    | line k v =>
      rw [hl] at h
      obtain ⟨f1, f2, f3, f4, f5, f6⟩ := line_facts hl
      have hsec : secL sec = true := hs.resolve_left f6
      obtain ⟨r1, r2⟩ := ih sec (acc ++ [⟨sec, k, v, i⟩]) (c + (w.length + 1)) h (by
        intro x hx hb
        rcases List.mem_append.1 hx with hx | hx
        · exact ha x hx hb
        · simp only [List.mem_singleton] at hx
          subst hx
          unfold okLn
          simp only [Bool.and_eq_true, decide_eq_true_eq, Bool.not_eq_true']
          exact ⟨⟨⟨⟨⟨hsec, f1⟩, f2⟩, f3⟩, hb⟩, by omega⟩) (.inr hsec) (by
        rw [secOf_app, if_pos rfl, write_app]
        have h3 := head_len (secOf [] acc) sec
        have e2 : textR (rowsP (secOf [] acc) [⟨sec, k, v, (i : Int)⟩]) = textR (headP (secOf [] acc) sec) ++ (k ++ 61 :: v ++ [10]) := by
          rw [rowsP, rowsP, textR_app]
          simp [textR]
        rw [e2]
        simp only [List.length_append, List.length_cons, List.length_nil]
        split at hc <;> rename_i h9
        · rw [if_pos h9] at h3; omega
        · rw [if_neg h9] at h3; omega)
      exact ⟨r1, by omega⟩
theorem parse_back {t : List UInt8} {l : List Ln} (h : parseT t = (l, 0, 0)) (ht : t.length ≤ 9000) (hv : ∀ x ∈ l, lastB x.v = false) : mayT l = true := by
  unfold parseT at h
  rw [if_neg (by omega)] at h
  obtain ⟨h1, h2⟩ := fold_back _ [] [] l 0 h hv (by simp) (.inl rfl) (by simp [writeT, rowsP, textR, secOf])
  have h3 := mach_cost (splitL 10 t) 1 none
  have h4 := sgo_cost 10 t []
  unfold splitL at h3
  rw [h4] at h3
  simp only [List.length_nil] at h3
  unfold mayT
  simp only [Bool.and_eq_true, List.all_eq_true, decide_eq_true_eq]
  unfold splitL at h2
  exact ⟨h1, by omega⟩
theorem parse_bad {t : List UInt8} {l : List Ln} {e n : Nat} (h : parseT t = (l, e, n)) (he : (e, n) ≠ (0, 0)) : l = [] ∧ e ≠ 0 := by
  unfold parseT at h
  split at h
  · cases h; exact ⟨rfl, by omega⟩
  · have : ∀ (ws : List (List UInt8 × Nat)) (sec : List UInt8) (acc : List Ln), foldL sec acc ws = (l, e, n) → l = [] ∧ e ≠ 0 := by
      intro ws
      induction ws with
      | nil =>
        intro sec acc h
        rw [foldL] at h
        cases h
        exact absurd rfl he
      | cons p ws ih =>
        intro sec acc h
        obtain ⟨w, i⟩ := p
        rw [foldL] at h
        cases hl : lineL sec w with
        | bad e' =>
          rw [hl] at h
          dsimp only at h
          cases h
          refine ⟨rfl, ?_⟩
          rintro rfl
          unfold lineL at hl
          split at hl
          · cases hl
          · split at hl
            · cases hl
            · unfold sayL at hl
              split at hl
              · cases hl
              · split at hl
                · split at hl <;> cases hl
                · split at hl
                  · cases hl
                  · split at hl <;> cases hl
        | skip => rw [hl] at h; exact ih _ _ h
        | sect s => rw [hl] at h; exact ih _ _ h
        | line k v => rw [hl] at h; exact ih _ _ h
    exact this _ _ _ h
end Go.Proofs.Ytfjfhbmbngogpaa
