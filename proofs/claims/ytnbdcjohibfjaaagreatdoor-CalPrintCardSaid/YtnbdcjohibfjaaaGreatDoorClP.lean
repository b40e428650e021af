/- Calendar expressions on plain lists of bytes: how one is written, how a text is read, and that what is written is read as it was. It speaks of no code. -/
import Derived.Test.YtnbdcjohibfjaaaGreatDoorSpL
import Derived.Test.YtnbdcjohibfjaaaGreatDoorClL
namespace Go.Proofs.YtnbdcjohibfjaaaGreatDoor

def sgo (by_ : UInt8) : List UInt8 → List UInt8 → List (List UInt8)
  | w, [] => [w]
  | w, c :: r => if c = by_ then w :: sgo by_ [] r else sgo by_ (w ++ [c]) r
/-- A text in pieces, at each of one byte. -/
def splitL (by_ : UInt8) (l : List UInt8) : List (List UInt8) := sgo by_ [] l
theorem sgo_plain (by_ : UInt8) (l w : List UInt8) (h : by_ ∉ l) (r : List UInt8) : sgo by_ w (l ++ r) = sgo by_ (w ++ l) r := by
  induction l generalizing w with
  | nil => simp
  | cons c l ih =>
    rw [List.cons_append, sgo, if_neg (by rintro rfl; exact h (by simp)), ih _ (fun hc => h (by simp [hc]))]
    simp
theorem split_one {by_ : UInt8} {l : List UInt8} (h : by_ ∉ l) : splitL by_ l = [l] := by
  have := sgo_plain by_ l [] h []
  rw [List.append_nil] at this
  unfold splitL
  rw [this]; rfl
theorem split_cons {by_ : UInt8} {l : List UInt8} (h : by_ ∉ l) (r : List UInt8) : splitL by_ (l ++ by_ :: r) = l :: splitL by_ r := by
  unfold splitL
  rw [sgo_plain by_ l [] h, List.nil_append, sgo, if_pos rfl]
theorem sgo_mem (by_ : UInt8) (l w : List UInt8) {c : UInt8} (hc : c ≠ by_) (h : c ∈ w ++ l) : ∃ v ∈ sgo by_ w l, c ∈ v := by
  induction l generalizing w with
  | nil => exact ⟨w, by simp [sgo], by simpa using h⟩
  | cons x l ih =>
    rw [sgo]
    by_cases hx : x = by_
    · rw [if_pos hx]
      rcases List.mem_append.1 h with h | h
      · exact ⟨w, by simp, h⟩
      · rcases List.mem_cons.1 h with h | h
        · exact absurd (h.trans hx) hc
        · obtain ⟨v, hv, hcv⟩ := ih [] (by simpa using h)
          exact ⟨v, by simp [hv], hcv⟩
    · rw [if_neg hx]
      exact ih (w ++ [x]) (by simpa using h)
theorem split_mem {by_ : UInt8} {l : List UInt8} {c : UInt8} (hc : c ≠ by_) (h : c ∈ l) : ∃ v ∈ splitL by_ l, c ∈ v := sgo_mem by_ l [] hc (by simpa using h)
/-- Pieces with a byte between. -/
def joinL (c : UInt8) : List (List UInt8) → List UInt8
  | [] => []
  | w :: r => w ++ r.flatMap fun v => c :: v
theorem split_join {c : UInt8} (ws : List (List UInt8)) (h : ∀ w ∈ ws, c ∉ w) (h0 : ws ≠ []) : splitL c (joinL c ws) = ws := by
  match ws, h0 with
  | w :: r, _ =>
    induction r generalizing w with
    | nil => simp only [joinL, List.flatMap_nil, List.append_nil]; exact split_one (h w (by simp))
    | cons v r ih =>
      have e : joinL c (w :: v :: r) = w ++ c :: joinL c (v :: r) := by simp [joinL]
      rw [e, split_cons (h w (by simp)), ih v (by simp) (fun x hx => h x (List.mem_cons_of_mem _ hx))]
theorem join_not {c x : UInt8} {ws : List (List UInt8)} (hc : x ≠ c) (h : ∀ w ∈ ws, x ∉ w) : x ∉ joinL c ws := by
  match ws with
  | [] => simp [joinL]
  | w :: r =>
    intro hx
    unfold joinL at hx
    rcases List.mem_append.1 hx with hx | hx
    · exact h w (by simp) hx
    · rw [List.mem_flatMap] at hx
      obtain ⟨v, hv, hx⟩ := hx
      rcases List.mem_cons.1 hx with hx | hx
      · exact hc hx
      · exact h v (by simp [hv]) hx
theorem join_length {c : UInt8} {ws : List (List UInt8)} {k : Nat} (h : ∀ w ∈ ws, w.length ≤ k) : (joinL c ws).length ≤ ws.length * (k + 1) := by
  match ws with
  | [] => simp [joinL]
  | w :: r =>
    have hf : (r.flatMap fun v => c :: v).length ≤ r.length * (k + 1) := by
      have h' : ∀ v ∈ r, v.length ≤ k := fun v hv => h v (by simp [hv])
      clear h
      induction r with
      | nil => simp
      | cons v r ih =>
        have := ih fun x hx => h' x (by simp [hx])
        have := h' v (by simp)
        simp only [List.flatMap_cons, List.length_append, List.length_cons, Nat.succ_mul]
        omega
    have := h w (by simp)
    simp only [joinL, List.length_append, List.length_cons, Nat.succ_mul]
    omega

/-- A number of 1 to 4 digits. -/
def numL (s : List UInt8) : Option Nat := if 1 ≤ s.length ∧ s.length ≤ 4 ∧ s.all isDig = true then some (valL s) else none
def padL (d n : Nat) : List UInt8 := List.replicate (d - (decL n).length) 48 ++ decL n
theorem padL_dig (d n : Nat) : ∀ c ∈ padL d n, isDig c = true := by
  intro c hc
  rcases List.mem_append.1 hc with hc | hc
  · rw [(List.mem_replicate.1 hc).2]; decide
  · exact decL_dig n c hc
theorem padL_val (d n : Nat) : valL (padL d n) = n := by
  have key : ∀ k l, valL (List.replicate k 48 ++ l) = valL l := by
    intro k l
    induction k with
    | zero => simp
    | succ k ih => rw [List.replicate_succ, List.cons_append]; unfold valL at ih ⊢; rw [List.foldl_cons]; exact ih
  unfold padL
  rw [key, decL_val]
theorem padL_len {d n : Nat} (hd : d ≤ 4) (hn : n ≤ 9999) : 1 ≤ (padL d n).length ∧ (padL d n).length ≤ 4 := by
  have h1 := decL_len 3 n (by omega)
  have h2 := List.length_pos_iff.2 (decL_ne n)
  unfold padL
  rw [List.length_append, List.length_replicate]
  omega
theorem padL_len2 {d n : Nat} (hd : d ≤ 2) (hn : n ≤ 99) : (padL d n).length ≤ 2 := by
  have h1 := decL_len 1 n (by omega)
  unfold padL
  rw [List.length_append, List.length_replicate]
  omega
theorem num_pad {d n : Nat} (hd : d ≤ 4) (hn : n ≤ 9999) : numL (padL d n) = some n := by
  have := padL_len hd hn
  unfold numL
  rw [if_pos ⟨this.1, this.2, List.all_eq_true.2 (padL_dig d n)⟩, padL_val]
theorem num_dec {n : Nat} (hn : n ≤ 9999) : numL (decL n) = some n := by
  have h1 := decL_len 3 n (by omega)
  have h2 := List.length_pos_iff.2 (decL_ne n)
  unfold numL
  rw [if_pos ⟨by omega, by omega, List.all_eq_true.2 (decL_dig n)⟩, decL_val]
theorem num_le {s : List UInt8} {n : Nat} (h : numL s = some n) : n ≤ 9999 := by
  unfold numL at h
  split at h
  · next h1 =>
    have : valL s = n := by simpa using h
    have key : ∀ l : List UInt8, (∀ c ∈ l, isDig c = true) → ∀ acc, l.foldl (fun n c => 10 * n + (c.toNat - 48)) acc + 1 ≤ (acc + 1) * 10 ^ l.length := by
      intro l
      induction l with
      | nil => intro _ acc; simp
      | cons c l ih =>
        intro hl acc
        have h2 : 48 ≤ c.toNat ∧ c.toNat ≤ 57 := by simpa [isDig, Bool.and_eq_true] using hl c (by simp)
        have h3 := ih (fun x hx => hl x (by simp [hx])) (10 * acc + (c.toNat - 48))
        rw [List.foldl_cons, List.length_cons, Nat.pow_succ]
        have h4 : (10 * acc + (c.toNat - 48) + 1) * 10 ^ l.length ≤ (10 * (acc + 1)) * 10 ^ l.length := Nat.mul_le_mul_right _ (by omega)
        have h5 : (10 * (acc + 1)) * 10 ^ l.length = (acc + 1) * (10 ^ l.length * 10) := by rw [Nat.mul_comm 10, Nat.mul_assoc, Nat.mul_comm 10]
        omega
    have h6 := key s (List.all_eq_true.1 h1.2.2) 0
    have h7 : 10 ^ s.length ≤ 10 ^ 4 := Nat.pow_le_pow_right (by omega) h1.2.1
    unfold valL at this
    omega
  · cases h
/-- What is ahead of the first two points, and behind them. -/
def cutDots : List UInt8 → Option (List UInt8 × List UInt8)
  | [] => none
  | c :: r => if c = 46 ∧ r.head? = some 46 then some ([], r.tail) else (cutDots r).map fun x => (c :: x.1, x.2)
theorem cut_none {l : List UInt8} (h : (46 : UInt8) ∉ l) : cutDots l = none := by
  induction l with
  | nil => rfl
  | cons c l ih =>
    rw [cutDots, if_neg (by rintro ⟨rfl, _⟩; exact h (by simp)), ih (fun hc => h (by simp [hc]))]
    rfl
theorem cut_some {l : List UInt8} (h : (46 : UInt8) ∉ l) (r : List UInt8) : cutDots (l ++ 46 :: 46 :: r) = some (l, r) := by
  induction l with
  | nil => rw [List.nil_append, cutDots, if_pos ⟨rfl, rfl⟩]; rfl
  | cons c l ih =>
    rw [List.cons_append, cutDots, if_neg (by rintro ⟨rfl, _⟩; exact h (by simp)), ih (fun hc => h (by simp [hc]))]
    rfl
def bodyP (w : List UInt8) (k : Int) : Option Pt :=
  if w = [42] then some ⟨-1, -1, k⟩ else match cutDots w with
    | some (x, y) => match numL x, numL y with
      | some i, some j => some ⟨i, j, k⟩
      | _, _ => none
    | none => match numL w with
      | some i => some ⟨i, -1, k⟩
      | none => none
/-- A text's part. -/
def partL (s : List UInt8) : Option Pt := match splitL 47 s with
  | [w] => bodyP w 0
  | [w, v] => match numL v with
    | some k => if 1 ≤ k then bodyP w k else none
    | none => none
  | _ => none
def dg (f : Nat) : Nat := if f = 0 then 4 else 2
/-- A part's text. -/
def ptBody (f : Nat) (p : Pt) : List UInt8 := (if 0 ≤ p.a then padL (dg f) p.a.toNat else [42]) ++ (if 0 ≤ p.b then 46 :: 46 :: padL (dg f) p.b.toNat else [])
def ptL (f : Nat) (p : Pt) : List UInt8 := ptBody f p ++ (if 0 < p.s then 47 :: decL p.s.toNat else [])
theorem dig_ne {c x : UInt8} (h : isDig c = true) (hx : x.toNat < 48) : x ≠ c := by
  rintro rfl
  simp [isDig] at h
  omega
theorem pad_not {d n : Nat} {x : UInt8} (hx : x.toNat < 48) : x ∉ padL d n := fun h => dig_ne (padL_dig d n x h) hx rfl
theorem dec_not {n : Nat} {x : UInt8} (hx : x.toNat < 48) : x ∉ decL n := fun h => dig_ne (decL_dig n x h) hx rfl
theorem body_not {f : Nat} {p : Pt} {x : UInt8} (hx : x.toNat < 48) (h1 : x ≠ 42) (h2 : x ≠ 46) : x ∉ ptBody f p := by
  intro h
  unfold ptBody at h
  rcases List.mem_append.1 h with h | h
  · split at h
    · exact pad_not hx h
    · exact h1 (List.mem_singleton.1 h)
  · split at h
    · rcases List.mem_cons.1 h with h | h
      · exact h2 h
      · rcases List.mem_cons.1 h with h | h
        · exact h2 h
        · exact pad_not hx h
    · cases h
theorem ptL_not {f : Nat} {p : Pt} {x : UInt8} (hx : x.toNat < 48) (h1 : x ≠ 42) (h2 : x ≠ 46) (h3 : x ≠ 47) : x ∉ ptL f p := by
  intro h
  unfold ptL at h
  rcases List.mem_append.1 h with h | h
  · exact body_not hx h1 h2 h
  · split at h
    · rcases List.mem_cons.1 h with h | h
      · exact h3 h
      · exact dec_not hx h
    · cases h
/-- The two bytes above the digits that separate: a blank's, a colon's. -/
theorem ptL_not58 {f : Nat} {p : Pt} : (58 : UInt8) ∉ ptL f p := by
  have hd : ∀ c : UInt8, isDig c = true → (58 : UInt8) ≠ c := by
    rintro c h rfl
    revert h; decide
  intro h
  unfold ptL ptBody at h
  simp only [List.mem_append] at h
  rcases h with (h | h) | h
  · split at h
    · exact hd _ (padL_dig _ _ _ h) rfl
    · have := List.mem_singleton.1 h; revert this; decide
  · split at h
    · simp only [List.mem_cons] at h
      rcases h with h | h | h
      · revert h; decide
      · revert h; decide
      · exact hd _ (padL_dig _ _ _ h) rfl
    · cases h
  · split at h
    · rcases List.mem_cons.1 h with h | h
      · revert h; decide
      · exact hd _ (decL_dig _ _ h) rfl
    · cases h
theorem dg_le (f : Nat) : dg f ≤ 4 := by unfold dg; split <;> omega
theorem bodyP_ok {f : Nat} {p : Pt} (h : mayP f p = true) : bodyP (ptBody f p) p.s = some p := by
  obtain ⟨s0, s1, h⟩ := (mayP_iff f p).1 h
  have hb := lo_bd f
  unfold ptBody
  rcases h with ⟨ha, hb'⟩ | ⟨a0, a1, hb'⟩
  · rw [if_neg (by omega), if_neg (by omega), List.append_nil]
    unfold bodyP
    rw [if_pos rfl, ← ha]
    obtain ⟨a, b, s⟩ := p
    simp only at ha hb'
    subst ha; subst hb'
    rfl
  · rw [if_pos (by omega)]
    have ea := num_pad (n := p.a.toNat) (dg_le f) (by omega)
    have hne : ∀ r, padL (dg f) p.a.toNat ++ r ≠ [42] := by
      intro r e
      have h1 := (padL_len (d := dg f) (n := p.a.toNat) (dg_le f) (by omega)).1
      cases hp : padL (dg f) p.a.toNat with
      | nil => rw [hp] at h1; simp at h1
      | cons c l =>
        rw [hp, List.cons_append] at e
        have hc : c = 42 := (List.cons.inj e).1
        have := padL_dig (dg f) p.a.toNat c (by rw [hp]; simp)
        rw [hc] at this
        revert this; decide
    rcases hb' with hb' | ⟨b0, b1⟩
    · rw [if_neg (by omega), List.append_nil]
      unfold bodyP
      rw [if_neg (by have := hne []; rwa [List.append_nil] at this), cut_none (pad_not (by decide))]
      simp only [ea]
      obtain ⟨a, b, s⟩ := p
      simp only at a0 hb' ⊢
      subst hb'
      rw [show ((a.toNat : Nat) : Int) = a by omega]
    · rw [if_pos (by omega)]
      have eb := num_pad (n := p.b.toNat) (dg_le f) (by omega)
      unfold bodyP
      rw [if_neg (hne _), cut_some (pad_not (by decide))]
      simp only [ea, eb]
      obtain ⟨a, b, s⟩ := p
      simp only at a0 b0 ⊢
      rw [show ((a.toNat : Nat) : Int) = a by omega, show ((b.toNat : Nat) : Int) = b by omega]
theorem partL_ok {f : Nat} {p : Pt} (h : mayP f p = true) : partL (ptL f p) = some p := by
  have h1 := (mayP_iff f p).1 h
  have hb := bodyP_ok h
  have h47 : (47 : UInt8) ∉ ptBody f p := body_not (by decide) (by decide) (by decide)
  unfold partL ptL
  by_cases hs : 0 < p.s
  · rw [if_pos hs, split_cons h47, split_one (dec_not (by decide))]
    simp only [num_dec (n := p.s.toNat) (by omega)]
    rw [if_pos (by omega), show ((p.s.toNat : Nat) : Int) = p.s by omega]
    exact hb
  · rw [if_neg hs, List.append_nil, split_one h47]
    simp only
    have : p.s = 0 := by omega
    rw [← this]
    exact hb
/-- Some texts' parts, all of them. -/
def mapO {α β : Type} (g : α → Option β) : List α → Option (List β)
  | [] => some []
  | x :: r => match g x with
    | some y => (mapO g r).map (y :: ·)
    | none => none
theorem mapO_map {α β γ : Type} {g : β → Option γ} {h : α → β} {k : α → γ} {l : List α} (e : ∀ x ∈ l, g (h x) = some (k x)) : mapO g (l.map h) = some (l.map k) := by
  induction l with
  | nil => rfl
  | cons x l ih =>
    simp only [List.map_cons, mapO, e x (by simp), ih (fun y hy => e y (by simp [hy]))]
    rfl
theorem mapO_none {α β : Type} {g : α → Option β} {l : List α} {x : α} (hx : x ∈ l) (h : g x = none) : mapO g l = none := by
  induction l with
  | nil => cases hx
  | cons y l ih =>
    rw [mapO]
    rcases List.mem_cons.1 hx with rfl | hx
    · rw [h]
    · rw [ih hx]
      cases g y <;> rfl
def partsL (s : List UInt8) : Option (List Pt) := mapO partL (splitL 44 s)
def fieldL (f : Nat) (l : List Pt) : List UInt8 := joinL 44 (l.map (ptL f))
theorem parts_ok {f : Nat} {l : List Pt} (h : mayF f l = true) : partsL (fieldL f l) = some l := by
  obtain ⟨⟨h0, _⟩, hp⟩ := (mayF_iff f l).1 h
  unfold partsL fieldL
  rw [split_join _ (by
    intro w hw
    obtain ⟨p, _, rfl⟩ := List.mem_map.1 hw
    exact ptL_not (by decide) (by decide) (by decide) (by decide)) (by
    intro e
    have := congrArg List.length e
    simp at this
    rw [this] at h0
    simp at h0)]
  have := mapO_map (g := partL) (h := ptL f) (k := id) (l := l) fun p hp' => partL_ok (hp p hp')
  rw [this, List.map_id]

/-- The weekdays' names. -/
def dayL (d : Int) : List UInt8 :=
  if d = 1 then [77, 111, 110] else if d = 2 then [84, 117, 101] else if d = 3 then [87, 101, 100] else if d = 4 then [84, 104, 117] else if d = 5 then [70, 114, 105] else if d = 6 then [83, 97, 116] else [83, 117, 110]
def week : List Int := [1, 2, 3, 4, 5, 6, 7]
/-- All items that there are, and which days each names. -/
def items : List (List UInt8 × Int × Int) :=
  week.map (fun d => (dayL d, d, d)) ++ week.flatMap fun d => (week.filter fun e => decide (d ≤ e)).map fun e => (dayL d ++ 46 :: 46 :: dayL e, d, e)
def itemL (w : List UInt8) : Option (Int × Int) := (items.find? fun x => x.1 == w).map (·.2)
def daysL (s : List UInt8) : Option (List Int) := match mapO itemL (splitL 44 s) with
  | some its => some (week.filter fun d => its.any fun x => decide (x.1 ≤ d ∧ d ≤ x.2))
  | none => none
theorem item_day {d : Int} (h0 : 1 ≤ d) (h1 : d ≤ 7) : itemL (dayL d) = some (d, d) := by
  have h : d = 1 ∨ d = 2 ∨ d = 3 ∨ d = 4 ∨ d = 5 ∨ d = 6 ∨ d = 7 := by omega
  rcases h with rfl | rfl | rfl | rfl | rfl | rfl | rfl <;> decide
theorem dayL_not (d : Int) {x : UInt8} (h : x.toNat < 70) : x ∉ dayL d := by
  intro hx
  have key : ∀ c ∈ dayL d, 70 ≤ c.toNat := by
    unfold dayL
    repeat' split
    all_goals decide
  have := key x hx
  omega
theorem dayL_length (d : Int) : (dayL d).length = 3 := by
  unfold dayL
  repeat' split
  all_goals rfl
theorem item_other {w : List UInt8} {c : UInt8} (hc : c = 45 ∨ c = 58) (h : c ∈ w) : itemL w = none := by
  unfold itemL
  rw [Option.map_eq_none_iff, List.find?_eq_none]
  intro x hx e
  have e' : x.1 = w := by simpa using e
  have key : ∀ x ∈ items, (45 : UInt8) ∉ x.1 ∧ (58 : UInt8) ∉ x.1 := by decide
  have := key x hx
  rw [e'] at this
  rcases hc with rfl | rfl
  · exact this.1 h
  · exact this.2 h
theorem days_other {s : List UInt8} {c : UInt8} (hc : c = 45 ∨ c = 58) (h : c ∈ s) : daysL s = none := by
  obtain ⟨w, hw, hcw⟩ := split_mem (by_ := 44) (by rcases hc with rfl | rfl <;> decide) h
  unfold daysL
  rw [mapO_none hw (item_other hc hcw)]
/-- The days x + 1 .. x + k. -/
def upto : Int → Nat → List Int
  | _, 0 => []
  | x, k + 1 => (x + 1) :: upto (x + 1) k
theorem upto_gt {x d : Int} {k : Nat} (h : d ∈ upto x k) : x < d := by
  induction k generalizing x with
  | zero => cases h
  | succ k ih =>
    rcases List.mem_cons.1 h with rfl | h
    · omega
    · have := ih h; omega
theorem rises_bd {x : Int} {ds : List Int} (h : risesB x ds = true) : ∀ d ∈ ds, x < d ∧ d ≤ 7 := by
  induction ds generalizing x with
  | nil => intro d hd; cases hd
  | cons e ds ih =>
    simp only [risesB, Bool.and_eq_true, decide_eq_true_eq] at h
    intro d hd
    rcases List.mem_cons.1 hd with rfl | hd
    · exact h.1
    · have := ih h.2 d hd; omega
theorem upto_rises {x : Int} {k : Nat} {ds : List Int} (hk : x + k = 7) (h : risesB x ds = true) : (upto x k).filter (fun d => decide (d ∈ ds)) = ds := by
  induction k generalizing x ds with
  | zero =>
    cases ds with
    | nil => rfl
    | cons d ds => have := (rises_bd h d (by simp)); omega
  | succ k ih =>
    cases ds with
    | nil => rw [List.filter_eq_nil_iff.2 (by simp)]
    | cons d ds =>
      have hb := rises_bd h
      simp only [risesB, Bool.and_eq_true, decide_eq_true_eq] at h
      by_cases e : d = x + 1
      · subst e
        have e1 : (upto (x + 1) k).filter (fun d => decide (d ∈ (x + 1) :: ds)) = (upto (x + 1) k).filter (fun d => decide (d ∈ ds)) := by
          apply List.filter_congr
          intro y hy
          have := upto_gt hy
          have : y ≠ x + 1 := by omega
          simp [this]
        rw [upto, List.filter_cons_of_pos (by simp), e1, ih (by omega) h.2]
      · have hx : (x + 1) ∉ d :: ds := by
          intro hm
          rcases List.mem_cons.1 hm with hm | hm
          · exact e hm.symm
          · have := rises_bd h.2 _ hm; have := h.1; omega
        rw [upto, List.filter_cons_of_neg (by simpa using hx)]
        refine ih (by omega) ?_
        simp only [risesB, Bool.and_eq_true, decide_eq_true_eq]
        exact ⟨⟨by omega, h.1.2⟩, h.2⟩
theorem days_ok {ds : List Int} (h : risesB 0 ds = true) (h0 : ds ≠ []) : daysL (joinL 44 (ds.map dayL)) = some ds := by
  have hb := rises_bd h
  unfold daysL
  rw [split_join _ (by
    intro w hw
    obtain ⟨d, _, rfl⟩ := List.mem_map.1 hw
    exact dayL_not d (by decide)) (by simpa using h0)]
  rw [mapO_map (k := fun d => (d, d)) (fun d hd => item_day (by have := hb d hd; omega) (hb d hd).2)]
  simp only
  have e : week = upto 0 7 := by decide
  have e2 : (fun d : Int => (ds.map fun d => (d, d)).any fun x => decide (x.1 ≤ d ∧ d ≤ x.2)) = fun d => decide (d ∈ ds) := by
    funext d
    rw [Bool.eq_iff_iff]
    simp only [List.any_map, List.any_eq_true, Function.comp, decide_eq_true_eq]
    constructor
    · rintro ⟨x, hx, h1, h2⟩
      rw [show d = x by omega]; exact hx
    · intro hd; exact ⟨d, hd, by omega, by omega⟩
  rw [e2, e, upto_rises (by decide) h]

/-- The words of the table. -/
def shortL (s : List UInt8) : List UInt8 :=
  if s = [109, 105, 110, 117, 116, 101, 108, 121] then [42, 45, 42, 45, 42, 32, 42, 58, 42, 58, 48, 48]
  else if s = [104, 111, 117, 114, 108, 121] then [42, 45, 42, 45, 42, 32, 42, 58, 48, 48, 58, 48, 48]
  else if s = [100, 97, 105, 108, 121] then [42, 45, 42, 45, 42, 32, 48, 48, 58, 48, 48, 58, 48, 48]
  else if s = [119, 101, 101, 107, 108, 121] then [77, 111, 110, 32, 42, 45, 42, 45, 42, 32, 48, 48, 58, 48, 48, 58, 48, 48]
  else if s = [109, 111, 110, 116, 104, 108, 121] then [42, 45, 42, 45, 48, 49, 32, 48, 48, 58, 48, 48, 58, 48, 48]
  else if s = [121, 101, 97, 114, 108, 121] then [42, 45, 48, 49, 45, 48, 49, 32, 48, 48, 58, 48, 48, 58, 48, 48]
  else s
theorem short_not {s : List UInt8} (h : (45 : UInt8) ∈ s) : shortL s = s := by
  unfold shortL
  rw [if_neg (by rintro rfl; revert h; decide), if_neg (by rintro rfl; revert h; decide), if_neg (by rintro rfl; revert h; decide), if_neg (by rintro rfl; revert h; decide), if_neg (by rintro rfl; revert h; decide), if_neg (by rintro rfl; revert h; decide)]
/-- What has been read: how far, the weekdays, the texts of the six fields. -/
structure Rd where
  st : Nat
  ds : List Int
  fs : List (List UInt8)
def rd0 : Rd := ⟨0, [], [[42], [42], [42], [48, 48], [48, 48], [48, 48]]⟩
def stepR (x : Rd) (w : List UInt8) : Option Rd :=
  if (daysL w).isSome = true ∧ x.st < 1 then some { x with st := 1, ds := (daysL w).getD [] }
  else if (splitL 45 w).length = 3 ∧ x.st < 2 then some { x with st := 2, fs := splitL 45 w ++ x.fs.drop 3 }
  else if ((splitL 58 w).length = 2 ∨ (splitL 58 w).length = 3) ∧ x.st < 3 then some { x with st := 3, fs := x.fs.take 3 ++ (splitL 58 w ++ x.fs.drop (3 + (splitL 58 w).length)) }
  else none
def foldR : Rd → List (List UInt8) → Option Rd
  | x, [] => some x
  | x, w :: r => match stepR x w with
    | some y => foldR y r
    | none => none
/-- A calendar of weekdays and six fields' texts. -/
def calOf (ds : List Int) (fs : List (List UInt8)) : Cl :=
  ⟨ds, (partsL (fs.getD 0 [])).getD [], (partsL (fs.getD 1 [])).getD [], (partsL (fs.getD 2 [])).getD [], (partsL (fs.getD 3 [])).getD [], (partsL (fs.getD 4 [])).getD [], (partsL (fs.getD 5 [])).getD []⟩
/-- A text's calendar. -/
def parseC (s : List UInt8) : Option Cl :=
  if 400 < s.length then none else if 3 < (splitL 32 (shortL s)).length then none else match foldR rd0 (splitL 32 (shortL s)) with
    | some x => if mayC (calOf x.ds x.fs) = true then some (calOf x.ds x.fs) else none
    | none => none
theorem parse_may {s : List UInt8} {c : Cl} (h : parseC s = some c) : mayC c = true := by
  unfold parseC at h
  split at h
  · cases h
  · split at h
    · cases h
    · split at h
      · split at h
        · next hm => injection h with h; rw [← h]; exact hm
        · cases h
      · cases h
def dateL (c : Cl) : List UInt8 := fieldL 0 c.yr ++ 45 :: (fieldL 1 c.mo ++ 45 :: fieldL 2 c.dy)
def timeL (c : Cl) : List UInt8 := fieldL 3 c.hr ++ 58 :: (fieldL 4 c.mi ++ 58 :: fieldL 5 c.se)
def bodyL (c : Cl) : List UInt8 := dateL c ++ 32 :: timeL c
/-- A calendar's text. -/
def printC (c : Cl) : List UInt8 :=
  if mayC c = true then (if c.ds = [] then bodyL c else joinL 44 (c.ds.map dayL) ++ 32 :: bodyL c) else []
theorem field_not {f : Nat} {l : List Pt} {x : UInt8} (hx : x.toNat < 48) (h1 : x ≠ 42) (h2 : x ≠ 46) (h3 : x ≠ 47) (h4 : x ≠ 44) : x ∉ fieldL f l :=
  join_not h4 fun w hw => by obtain ⟨p, _, rfl⟩ := List.mem_map.1 hw; exact ptL_not hx h1 h2 h3
theorem field_not58 {f : Nat} {l : List Pt} : (58 : UInt8) ∉ fieldL f l :=
  join_not (by decide) fun w hw => by obtain ⟨p, _, rfl⟩ := List.mem_map.1 hw; exact ptL_not58
theorem f45 {f : Nat} {l : List Pt} : (45 : UInt8) ∉ fieldL f l := field_not (by decide) (by decide) (by decide) (by decide) (by decide)
theorem f32 {f : Nat} {l : List Pt} : (32 : UInt8) ∉ fieldL f l := field_not (by decide) (by decide) (by decide) (by decide) (by decide)
theorem date_split (c : Cl) : splitL 45 (dateL c) = [fieldL 0 c.yr, fieldL 1 c.mo, fieldL 2 c.dy] := by
  unfold dateL
  rw [split_cons f45, split_cons f45, split_one f45]
theorem time_split (c : Cl) : splitL 58 (timeL c) = [fieldL 3 c.hr, fieldL 4 c.mi, fieldL 5 c.se] := by
  unfold timeL
  rw [split_cons field_not58, split_cons field_not58, split_one field_not58]
theorem date32 (c : Cl) : (32 : UInt8) ∉ dateL c := by
  unfold dateL
  simp only [List.mem_append, List.mem_cons, not_or]
  exact ⟨f32, by decide, f32, by decide, f32⟩
theorem time32 (c : Cl) : (32 : UInt8) ∉ timeL c := by
  unfold timeL
  simp only [List.mem_append, List.mem_cons, not_or]
  exact ⟨f32, by decide, f32, by decide, f32⟩
theorem time45 (c : Cl) : (45 : UInt8) ∉ timeL c := by
  unfold timeL
  simp only [List.mem_append, List.mem_cons, not_or]
  exact ⟨f45, by decide, f45, by decide, f45⟩
theorem days32 (ds : List Int) : (32 : UInt8) ∉ joinL 44 (ds.map dayL) :=
  join_not (by decide) fun w hw => by obtain ⟨d, _, rfl⟩ := List.mem_map.1 hw; exact dayL_not d (by decide)
theorem step_date (c : Cl) (x : Rd) (hx : x.st < 2) : stepR x (dateL c) = some { x with st := 2, fs := [fieldL 0 c.yr, fieldL 1 c.mo, fieldL 2 c.dy] ++ x.fs.drop 3 } := by
  unfold stepR
  rw [days_other (c := 45) (.inl rfl) (by simp [dateL]), if_neg (by simp), if_pos ⟨by rw [date_split]; rfl, hx⟩, date_split]
theorem step_time (c : Cl) (x : Rd) (hx : x.st < 3) : stepR x (timeL c) = some { x with st := 3, fs := x.fs.take 3 ++ ([fieldL 3 c.hr, fieldL 4 c.mi, fieldL 5 c.se] ++ x.fs.drop 6) } := by
  unfold stepR
  rw [days_other (c := 58) (.inr rfl) (by simp [timeL]), if_neg (by simp), if_neg (by rw [split_one (time45 c)]; simp), if_pos ⟨.inr (by rw [time_split]; rfl), hx⟩, time_split]
  rfl
theorem step_days {ds : List Int} (h : risesB 0 ds = true) (h0 : ds ≠ []) (x : Rd) (hx : x.st < 1) : stepR x (joinL 44 (ds.map dayL)) = some { x with st := 1, ds := ds } := by
  unfold stepR
  rw [days_ok h h0, if_pos ⟨rfl, hx⟩]; rfl
theorem pt_length (f : Nat) (p : Pt) (h : mayP f p = true) : (ptL f p).length ≤ if f = 0 then 15 else 11 := by
  obtain ⟨s0, s1, h⟩ := (mayP_iff f p).1 h
  have hs := decL_len 3 p.s.toNat (by omega)
  have hb := lo_bd f
  have ea : (if 0 ≤ p.a then padL (dg f) p.a.toNat else [42]).length ≤ (if f = 0 then 4 else 2) := by
    by_cases hf : f = 0
    · rw [if_pos hf]
      split
      · exact (padL_len (dg_le f) (by omega)).2
      · simp
    · rw [if_neg hf]
      have h59 : hi f ≤ 59 := by
        match f, hf with
        | 1, _ => decide
        | 2, _ => decide
        | 3, _ => decide
        | n + 4, _ => exact Int.le_refl _
      have hd : dg f = 2 := if_neg hf
      split
      · rw [hd]; exact padL_len2 (by omega) (by omega)
      · simp
  have eb : (if 0 ≤ p.b then 46 :: 46 :: padL (dg f) p.b.toNat else []).length ≤ (if f = 0 then 6 else 4) := by
    by_cases hf : f = 0
    · rw [if_pos hf]
      split
      · have := (padL_len (d := dg f) (n := p.b.toNat) (dg_le f) (by omega)).2
        simp only [List.length_cons]; omega
      · simp
    · rw [if_neg hf]
      have h59 : hi f ≤ 59 := by
        match f, hf with
        | 1, _ => decide
        | 2, _ => decide
        | 3, _ => decide
        | n + 4, _ => exact Int.le_refl _
      have hd : dg f = 2 := if_neg hf
      split
      · rw [hd]
        have := padL_len2 (d := 2) (n := p.b.toNat) (by omega) (by omega)
        simp only [List.length_cons]; omega
      · simp
  unfold ptL ptBody
  rw [List.length_append, List.length_append]
  by_cases hf : f = 0
  · rw [if_pos hf] at ea eb ⊢
    by_cases hs0 : 0 < p.s
    · rw [if_pos hs0, List.length_cons]; omega
    · rw [if_neg hs0, List.length_nil]; omega
  · rw [if_neg hf] at ea eb ⊢
    by_cases hs0 : 0 < p.s
    · rw [if_pos hs0, List.length_cons]; omega
    · rw [if_neg hs0, List.length_nil]; omega
theorem field_length {f : Nat} {l : List Pt} (h : mayF f l = true) : (fieldL f l).length ≤ if f = 0 then 64 else 48 := by
  obtain ⟨⟨_, h4⟩, hp⟩ := (mayF_iff f l).1 h
  have := join_length (c := 44) (ws := l.map (ptL f)) (k := if f = 0 then 15 else 11) (by
    intro w hw
    obtain ⟨p, hp', rfl⟩ := List.mem_map.1 hw
    exact pt_length f p (hp p hp'))
  rw [List.length_map] at this
  unfold fieldL
  by_cases hf : f = 0
  · rw [if_pos hf] at this ⊢; omega
  · rw [if_neg hf] at this ⊢; omega
theorem rises_length {x : Int} {ds : List Int} (h : risesB x ds = true) (hx : x ≤ 7) : (ds.length : Int) ≤ 7 - x := by
  induction ds generalizing x with
  | nil => simp; omega
  | cons d ds ih =>
    simp only [risesB, Bool.and_eq_true, decide_eq_true_eq] at h
    have := ih h.2 h.1.2
    simp only [List.length_cons]
    omega
theorem printC_length (c : Cl) : (printC c).length ≤ 400 := by
  unfold printC
  split
  · next h =>
    obtain ⟨m0, m1, m2, m3, m4, m5, m6⟩ := (mayC_iff c).1 h
    have l1 := field_length m1
    have l2 := field_length m2
    have l3 := field_length m3
    have l4 := field_length m4
    have l5 := field_length m5
    have l6 := field_length m6
    simp at l1 l2 l3 l4 l5 l6
    have ld : (joinL 44 (c.ds.map dayL)).length ≤ 28 := by
      have := join_length (c := 44) (ws := c.ds.map dayL) (k := 3) (by
        intro w hw
        obtain ⟨d, _, rfl⟩ := List.mem_map.1 hw
        rw [dayL_length]; exact Nat.le_refl _)
      have h7 := rises_length m0 (by omega)
      rw [List.length_map] at this
      omega
    have lb : (bodyL c).length ≤ 310 := by
      unfold bodyL dateL timeL
      simp only [List.length_append, List.length_cons]
      omega
    split
    · omega
    · simp only [List.length_append, List.length_cons]; omega
  · simp
theorem read_fold (c : Cl) (x : Rd) (hx : x.st < 2) (hf : x.fs.length = 6) : foldR x (splitL 32 (bodyL c)) = some ⟨3, x.ds, [fieldL 0 c.yr, fieldL 1 c.mo, fieldL 2 c.dy, fieldL 3 c.hr, fieldL 4 c.mi, fieldL 5 c.se]⟩ := by
  unfold bodyL
  rw [split_cons (date32 c), split_one (time32 c)]
  simp only [foldR, step_date c x hx]
  rw [step_time c _ (by show 2 < 3; omega)]
  match hfs : x.fs, hf with
  | [a, b, d, e, f, g], _ => simp
theorem calOf_ok {c : Cl} (h : mayC c = true) : calOf c.ds [fieldL 0 c.yr, fieldL 1 c.mo, fieldL 2 c.dy, fieldL 3 c.hr, fieldL 4 c.mi, fieldL 5 c.se] = c := by
  obtain ⟨m0, m1, m2, m3, m4, m5, m6⟩ := (mayC_iff c).1 h
  unfold calOf
  simp only [List.getD_cons_zero, List.getD_cons_succ]
  rw [parts_ok m1, parts_ok m2, parts_ok m3, parts_ok m4, parts_ok m5, parts_ok m6]
  rfl
/-- What is written is read as it was. -/
theorem parse_print {c : Cl} (h : mayC c = true) : parseC (printC c) = some c := by
  obtain ⟨m0, _⟩ := (mayC_iff c).1 h
  have hl := printC_length c
  have h45 : (45 : UInt8) ∈ bodyL c := by simp [bodyL, dateL]
  unfold parseC
  rw [if_neg (by omega)]
  unfold printC
  rw [if_pos h]
  by_cases h0 : c.ds = []
  · rw [if_pos h0, short_not h45]
    have hlen : (splitL 32 (bodyL c)).length = 2 := by unfold bodyL; rw [split_cons (date32 c), split_one (time32 c)]; rfl
    rw [if_neg (by omega), read_fold c rd0 (by decide) rfl]
    simp only
    have e : calOf rd0.ds [fieldL 0 c.yr, fieldL 1 c.mo, fieldL 2 c.dy, fieldL 3 c.hr, fieldL 4 c.mi, fieldL 5 c.se] = c := by
      rw [show rd0.ds = c.ds from h0.symm]; exact calOf_ok h
    rw [e, if_pos h]
  · rw [if_neg h0, short_not (by simp [h45])]
    have hsp : splitL 32 (joinL 44 (c.ds.map dayL) ++ 32 :: bodyL c) = joinL 44 (c.ds.map dayL) :: splitL 32 (bodyL c) := split_cons (days32 _) _
    have hlen : (splitL 32 (bodyL c)).length = 2 := by unfold bodyL; rw [split_cons (date32 c), split_one (time32 c)]; rfl
    rw [hsp, List.length_cons, if_neg (by omega)]
    simp only [foldR, step_days m0 h0 rd0 (by decide)]
    rw [read_fold c _ (by show 1 < 2; omega) rfl]
    simp only
    rw [calOf_ok h, if_pos h]
theorem parse_nil : parseC [] = none := by decide
theorem printC_none {c : Cl} (h : mayC c = false) : printC c = [] := by unfold printC; rw [h]; rfl
theorem printC_ne {c : Cl} (h : mayC c = true) : printC c ≠ [] := by
  unfold printC
  rw [if_pos h]
  split <;> simp [bodyL, dateL]
end Go.Proofs.YtnbdcjohibfjaaaGreatDoor
