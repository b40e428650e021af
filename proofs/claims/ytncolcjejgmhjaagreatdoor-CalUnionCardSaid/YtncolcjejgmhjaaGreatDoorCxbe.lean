/- The walk of the developers' parseDays. -/
import Derived.Test.YtncolcjejgmhjaaGreatDoorCxbb
import Derived.Test.YtncolcjejgmhjaaGreatDoorCxak
import Derived.Test.YtncolcjejgmhjaaGreatDoorCxbc
namespace Go.Proofs.YtncolcjejgmhjaaGreatDoor
open Go.RowKit
attribute [local go_sem] Oper.semAt_some
def KeepI (C D : Nat) (W Y : World) : Prop := W.heap.size ≤ Y.heap.size ∧ ∀ i, C ≤ i → i < W.heap.size → (i < D ∨ ¬ ∃ cs fz, W.heap[i]? = some (.cells cs 3 fz)) → Y.heap[i]? = W.heap[i]?
theorem KeepI.trans {C D : Nat} {W X Y : World} (h : KeepI C D W X) (k : KeepI C D X Y) : KeepI C D W Y :=
  ⟨Nat.le_trans h.1 k.1, fun i hC hi ho => (k.2 i hC (Nat.lt_of_lt_of_le hi h.1) (by rw [h.2 i hC hi ho]; exact ho)).trans (h.2 i hC hi ho)⟩
theorem KeepI.below {C D : Nat} {W Y : World} (hb : Below W.heap.size W Y) : KeepI C D W Y := ⟨hb.size, fun i _ hi _ => hb.block i hi⟩
theorem KeepI.alloc (C D : Nat) (W : World) (o : Obj) : KeepI C D W (W.alloc o) := KeepI.below ((Below.refl _ _).alloc (Nat.le_refl _) _)
theorem KeepI.set {C D : Nat} {W : World} {a : Addr} (u : Value) (h : a.block < C) : KeepI C D W (W.setCell a u) := ⟨by simp [World.setCell], fun i hC _ _ => Below.heap_setCell W a u i (by omega)⟩
theorem KeepI.grown {C D n : Nat} {W Y : World} {v : Value} {xs : List Value} (hown : W.ownsRow D 3 1 v n xs) (hg : W.grownBy Y v.ownBlock) : KeepI C D W Y := by
  refine ⟨hg.size, fun i _ hi ho => hg.block i hi ?_⟩
  intro e
  rcases hown.2 with ⟨rfl, _⟩ | ⟨g, cap, cur, rfl, hD, hb, _⟩
  · cases e
  · have e2 : i = g := by simpa [Value.ownBlock] using e
    subst e2
    rcases ho with ho | ho
    · omega
    · exact ho ⟨_, _, hb⟩
theorem KeepI.stand {C D l : Nat} {W Y : World} (h : KeepI C D W Y) (hCD : C ≤ D) (_hD : D ≤ W.heap.size) (hl : D + 1 ≤ l) (hlo : ∃ y, W.heap[l]? = some (.loop y)) (hde : W.heap[l - 1]? = some (.deferred (some []))) : Stand C D l W Y := by
  obtain ⟨y, hy⟩ := hlo
  have hlt : l < W.heap.size := (Array.getElem?_eq_some_iff.1 hy).1
  refine ⟨fun i h1 h2 => h.2 i h1 (by omega) (.inl h2), fun i h1 h2 => h.2 i (by omega) (by omega) (.inr ?_)⟩
  rintro ⟨cs, fz, hc⟩
  have : i = l ∨ i = l - 1 := by omega
  rcases this with rfl | rfl
  · rw [hy] at hc; cases hc
  · rw [hde] at hc; cases hc
theorem drew_below {W w1 : World} (h : ∃ n, w1 = W.drewN n) : Below W.heap.size W w1 := by
  obtain ⟨n, rfl⟩ := h
  exact below_drewN (Below.refl _ _) n
theorem intInfo2 : (Tryz.prog.info? 3).map (fun i => (i.zero, i.size, i.bytes)) = some (some (.int .i64 0), 1, 8) := by kernel_rfl
theorem ints_snoc (xs : List Int) (x : Int) : ints (xs ++ [x]) = ints xs ++ [.int .i64 x] := by simp [ints]
theorem upto_snoc (x : Int) (k : Nat) : upto x (k + 1) = upto x k ++ [x + k + 1] := by
  induction k generalizing x with
  | zero => simp [upto]
  | succ k ih =>
    rw [upto, ih, upto, List.cons_append]
    congr 3
    omega
theorem upto_len (x : Int) (k : Nat) : (upto x k).length = k := by
  induction k generalizing x with
  | zero => rfl
  | succ k ih => rw [upto, List.length_cons, ih]
theorem range_upto_all : ∀ a ∈ week, ∀ b ∈ week, a ≤ b → rangeD (a, b) = upto (a - 1) (b - a + 1).toNat := by decide
theorem range_upto {a b : Int} (h0 : 1 ≤ a) (h1 : a ≤ b) (h2 : b ≤ 7) : rangeD (a, b) = upto (a - 1) (b - a + 1).toNat := range_upto_all a (week_mem h0 (by omega)) b (week_mem (by omega) h2) h1
def itA (l : List UInt8) : Int := dayN (dotA l)
def itB (l : List UInt8) : Int := if dotOk l = true then dayN (dotB l) else dayN (dotA l)
theorem itemD_ab (l : List UInt8) : itemD l = pairD (itA l) (itB l) := by
  unfold itemD itA itB dotOk dotA dotB
  cases cutDots l with
  | none => rfl
  | some z => rfl
theorem dayN_le (l : List UInt8) : 0 ≤ dayN l ∧ dayN l ≤ 7 := by
  rcases dayN_spec l with h | ⟨h0, h1, _⟩ <;> omega
def flatD (its : List (Int × Int)) : List Int := its.flatMap rangeD
def DI (w : World) (pre : List ByteArray) (W : World) : Prop :=
  ∃ (v : Value) (its : List (Int × Int)) (xs : List Int), mapO itemD (bytesOf pre) = some its ∧ xs = flatD its ∧ xs.length ≤ 7 * pre.length ∧ (pre ≠ [] → xs ≠ []) ∧ Blk W w.heap.size 22 #[.slice none 0 0] ∧ Blk W (w.heap.size + 1) 4 #[.bool false] ∧ Blk W (w.heap.size + 1 + 1) 22 #[v] ∧
    W.ownsRow (w.heap.size + 1 + 1 + 1 + 3) 3 1 v xs.length (ints xs) ∧ Below w.heap.size w W ∧ w.heap.size + 1 + 1 + 1 + 3 ≤ W.heap.size
def DX (w : World) (c : Code) (pre : List ByteArray) (W : World) : Prop :=
  c = .ret ∧ mapO itemD (bytesOf pre) = none ∧ Blk W w.heap.size 22 #[.slice none 0 0] ∧ Blk W (w.heap.size + 1) 4 #[.bool false] ∧ Below w.heap.size w W ∧ w.heap.size + 1 + 1 + 1 + 3 ≤ W.heap.size
theorem DI.turn {w X Y : World} {pre : List ByteArray} (ht : Turn (w.heap.size + 1 + 1 + 1) X Y) (h : DI w pre X) : DI w pre Y := by
  obtain ⟨v, its, xs, h0, hx, hl, hne, h1, h2, h3, h4, h5, h6⟩ := h
  have hs : X.heap.size ≤ Y.heap.size := by obtain ⟨k, _, hy⟩ := ht; exact hy.size
  exact ⟨v, its, xs, h0, hx, hl, hne, turn_blk ht h1 (by omega), turn_blk ht h2 (by omega), turn_blk ht h3 (by omega), turn_own ht h4 (by omega), turn_below ht h5 (by omega) (by omega), by omega⟩
theorem DX.turn {w X Y : World} {c : Code} {pre : List ByteArray} (ht : Turn (w.heap.size + 1 + 1 + 1) X Y) (h : DX w c pre X) : DX w c pre Y := by
  obtain ⟨hc, h0, h1, h2, h5, h6⟩ := h
  have hs : X.heap.size ≤ Y.heap.size := by obtain ⟨k, _, hy⟩ := ht; exact hy.size
  exact ⟨hc, h0, turn_blk ht h1 (by omega), turn_blk ht h2 (by omega), turn_below ht h5 (by omega) (by omega), by omega⟩
theorem DI.below {w X Y : World} {pre : List ByteArray} (h : DI w pre X) (hb : Below X.heap.size X Y) : DI w pre Y := by
  obtain ⟨v, its, xs, h0, hx, hl, hne, h1, h2, h3, h4, h5, h6⟩ := h
  have hs := hb.size
  exact ⟨v, its, xs, h0, hx, hl, hne, h1.below hb h1.lt, h2.below hb h2.lt, h3.below hb h3.lt, own_below h4 hb, more3 h5 h5.size hb, by omega⟩
theorem flat_snoc (its : List (Int × Int)) (p : Int × Int) : flatD (its ++ [p]) = flatD its ++ rangeD p := by simp [flatD]
theorem week_range {p : Int × Int} {d : Int} (h : d ∈ rangeD p) : 0 < d ∧ d ≤ 7 := by
  unfold rangeD at h
  rw [List.mem_filter] at h
  have h := h.1
  simp only [week, List.mem_cons, List.not_mem_nil, or_false] at h
  omega
theorem days_fin {l : List UInt8} {its : List (Int × Int)} {xs : List Int} (hm : mapO itemD (splitL 44 l) = some its) (hx : xs = flatD its) : daysL l = some (tidy xs) := by
  obtain ⟨h1, h2⟩ := tidy_facts xs
  have hmem : ∀ d, d ∈ tidy xs ↔ ∃ p ∈ its, d ∈ rangeD p := by
    intro d
    rw [h2, hx, flatD, List.mem_flatMap]
  have hr : risesB 0 (tidy xs) = true := rises_of h1 fun d hd => by
    obtain ⟨p, _, hp⟩ := (hmem d).1 hd
    exact week_range hp
  unfold daysL
  rw [show itemL = itemD from funext fun l => (itemD_eq l).symm, hm]
  exact congrArg some (days_of hr hmem)
theorem pieces_ne (s : ByteArray) : piecesS s ≠ [] := by
  unfold piecesS
  intro e
  have := List.map_eq_nil_iff.1 e
  unfold splitL at this
  have h : ∀ (b : UInt8) (l w : List UInt8), sgo b w l ≠ [] := by
    intro b l
    induction l with
    | nil => intro w; simp [sgo]
    | cons c l ih =>
      intro w
      rw [sgo]
      split
      · simp
      · exact ih _
  exact h _ _ _ this
theorem holds_of_block {W W' : World} {g : Nat} {d : Array Int} (h : Go.Sort.Holds (Value.int .i64) W g 0 d) (hb : W'.heap[g]? = W.heap[g]?) : Go.Sort.Holds (Value.int .i64) W' g 0 d := by
  intro j hj
  obtain ⟨h1, h2⟩ := h j hj
  exact ⟨(World.cell?_of_block hb).trans h1, by rw [← h2]; simp only [World.frozen?, hb]⟩
theorem ints_fin {W : World} {g : Nat} {ds zs : List Int} (h : Go.Sort.Holds (Value.int .i64) W g 0 (ds ++ zs).toArray) (hg : g < W.heap.size) (hl : ds.length ≤ maxLen) : IntsAt W W.heap.size (some ⟨g, 0, none⟩) ds.length ds := by
  refine ⟨rfl, hl, by simp [ints], fun _ => ⟨_, rfl, hg, fun j u hj => ?_⟩⟩
  have hjl : j < ds.length := by
    rcases Nat.lt_or_ge j ds.length with h' | h'
    · exact h'
    · rw [List.getElem?_eq_none (by simpa [ints] using h')] at hj; cases hj
  have e : (⟨g, 0, none⟩ : Addr).add j = ⟨g, 0 + j, none⟩ := by unfold Addr.add; split <;> simp_all
  rw [e, (h j (by simp; omega)).1]
  have e2 : (ds ++ zs).toArray[j]! = ds[j] := by simp [hjl, List.getElem?_append_left]
  rw [e2]
  unfold ints at hj
  rw [List.getElem?_map, List.getElem?_eq_getElem hjl] at hj
  exact hj
def DoneAt (w : World) (g M : Nat) (u : Value) (d : List Int) (W : World) : Prop :=
  Blk W w.heap.size 22 #[.slice none 0 0] ∧ Blk W (w.heap.size + 1) 4 #[.bool false] ∧ Blk W (w.heap.size + 1 + 1) 22 #[u] ∧ Go.Sort.Holds (Value.int .i64) W g 0 d.toArray ∧ Below w.heap.size w W ∧ W.heap[M]? = some (.deferred (some [])) ∧ g < W.heap.size ∧ (w.heap.size + 1 + 1 + 1 + 3) ≤ W.heap.size
theorem heap_putRow_other (w : World) (g off : Nat) (d : Array Int) (i : Nat) (h : i ≠ g) : (Go.Sort.putRow (Value.int .i64) w g off d).heap[i]? = w.heap[i]? := by
  unfold Go.Sort.putRow Go.Sort.mapBlock
  simp only [Array.getElem?_modify]
  rw [if_neg (Ne.symm h)]
theorem DoneAt.put {w W W2 : World} {g M n : Nat} {u : Value} {d d' : List Int} {os : Array Obj} (h : DoneAt w g M u d W) (hg : (w.heap.size + 1 + 1 + 1 + 3) ≤ g) (hgM : M ≠ g) (hd : d'.length = d.length)
    (hW : W2 = Go.Sort.grow (Go.Sort.putRow (Value.int .i64) (Go.Sort.ahead W n) g 0 d'.toArray) os) : DoneAt w g M u d' W2 := by
  obtain ⟨h0, h1, h2, h3, h4, h5, h6, h7⟩ := h
  have hk : ∀ i, i ≠ g → i < W.heap.size → W2.heap[i]? = W.heap[i]? := by
    intro i hi hl
    rw [hW, Go.Sort.heap_grow_old _ _ (by simpa using hl), heap_putRow_other _ _ _ _ _ hi]
    rfl
  have hs : W.heap.size ≤ W2.heap.size := by rw [hW]; simp
  have hM : M < W.heap.size := (Array.getElem?_eq_some_iff.1 h5).1
  refine ⟨(hk _ (by omega) h0.lt).trans h0, (hk _ (by omega) h1.lt).trans h1, (hk _ (by omega) h2.lt).trans h2, ?_, ?_, (hk _ hgM hM).trans h5, by omega, by omega⟩
  · rw [hW]
    refine Go.Sort.holds_grow _ _ _ _ _ _ (by simpa using h6) ?_
    exact Go.Sort.holds_putRow _ _ _ _ d.toArray d'.toArray h3 (by simpa using hd)
  · refine h4.trans ⟨by rw [hW]; rfl, by rw [hW]; rfl, by rw [hW]; rfl, hs, fun i hi => hk i (by omega) (by omega)⟩
theorem frozen_of_row (w : World) (g j : Nat) (cur : Array Value) (e : TypeId) (h : w.heap[g]? = some (.cells cur e (0, 0))) : w.frozen? ⟨g, j, none⟩ = false := Blk.frozen (t := e) (cs := cur) h j
theorem compact_len (l : List Int) : (Lib.compact l ++ List.replicate (l.length - (Lib.compact l).length) 0).length = l.length := by
  have := Lib.compact_length_le l
  rw [List.length_append, List.length_replicate]; omega
theorem compact_any (g cap n : Nat) (l : List Int) (w : World) (hn : l.length = n) (hH : Go.Sort.Holds (Value.int .i64) w g 0 l.toArray) (hsz : n ≤ 9223372036854775807) (hcap : n ≤ cap) :
    Calls Tryz.prog 64 #[.slice (some ⟨g, 0, none⟩) n cap] w fun e w' => e = .returned (.slice (some ⟨g, 0, none⟩) (Lib.compact l).length cap) ∧ ∃ q, w' = Go.Sort.putRow (Value.int .i64) (Go.Sort.ahead w q) g 0 (Lib.compact l ++ List.replicate (l.length - (Lib.compact l).length) 0).toArray := by
  subst hn
  exact Tryz.slices_Compact_int g 0 cap l w hH hsz hcap
def DaysP (l : List UInt8) (w : World) (e : Ending) (w' : World) : Prop :=
  ∃ (A : Option Addr) (n c : Nat), e = .returned (.tuple #[.slice A n c, .bool (daysL l).isSome]) ∧ n ≤ c ∧ IntsAt w' w'.heap.size A n ((daysL l).getD []) ∧ Below w.heap.size w w'
set_option maxRecDepth 100000 in
set_option maxHeartbeats 8000000 in
theorem parseDays_any (s : ByteArray) (hs : s.size ≤ 4000) (w : World) (ht : TabM w) :
    Calls Tryz.prog 50 #[.string s] w (DaysP s.data.toList w) := by
  have HT := Lib.hid ht
  clear ht
  refine (callsIn_wide (n := 9)).1 ?_
  refine callsIn_of_wp_marks Tryz.func50 rfl trivial ?_ rfl
  simp only [Tryz.ntmps50, List.size_toArray, List.length_cons, List.length_nil, Nat.reduceAdd, Nat.reduceSub, Array.replicate_succ, Array.replicate_zero, List.push_toArray, List.append_toArray, List.nil_append, List.cons_append]
  gi_wp2_with (refine ⟨trivial, ?_⟩; gi_at_call 60; refine (callsIn_wide.2 (commaSeq_any _ _)).mono ?_; rintro e w' ⟨rfl, rfl⟩)
  obtain ⟨hB0, hR0, hR1, hP0, hS0, hZ0⟩ := boxes6 w 22 4 22 (.slice none 0 0) (.bool false) (.slice none 0 0) s _ rfl
  have hI0 : DI w [] ((((((w.alloc (.cells #[.slice none 0 0] 22)).alloc (.cells #[.bool false] 4)).alloc (.cells #[.slice none 0 0] 22)).alloc (.cells #[.string s] 9)).alloc (.cells #[.string ⟨#[44]⟩] 9)).alloc (.cells #[.int .i64 0] 3)) := ⟨.slice none 0 0, [], [], rfl, rfl, Nat.zero_le _, fun h => absurd rfl h, hR0, hR1, hP0, World.ownsRow_nil _ _ _ _, hB0, by omega⟩
  generalize (((((w.alloc (.cells #[.slice none 0 0] 22)).alloc (.cells #[.bool false] 4)).alloc (.cells #[.slice none 0 0] 22)).alloc (.cells #[.string s] 9)).alloc (.cells #[.string ⟨#[44]⟩] 9)).alloc (.cells #[.int .i64 0] 3) = W0 at *
  refine range_boxD (C := w.heap.size + 1 + 1 + 1) (D := w.heap.size + 1 + 1 + 1 + 3) rfl (by omega) rfl trivial (enters_of Tryz.func84 (by kernel_rfl) rfl) (by omega) (by omega)
    (split_seq _ (by omega) _ s (by unfold maxLen; omega) W0 (by omega) hS0) (DI w) (DX w) (fun _ _ _ h hb => h.below hb) (fun _ _ _ ht h => h.turn ht) (fun _ _ _ _ ht h => h.turn ht) hI0
    (fun x => { tmps := #[.string s, undef, .pointer (some ⟨w.heap.size, 0, none⟩), .pointer (some ⟨w.heap.size + 1, 0, none⟩), .pointer (some ⟨w.heap.size + 1 + 1, 0, none⟩), .string x, undef, undef, undef, undef, undef, undef, .string s, .func (.func 84) #[] #[.pointer (some ⟨w.heap.size + 1 + 1 + 1 + 1, 0, none⟩), .pointer (some ⟨w.heap.size + 1 + 1 + 1, 0, none⟩), .pointer (some ⟨w.heap.size + 1 + 1 + 1 + 2, 0, none⟩)], .string x, undef, undef, undef, undef, undef, undef, undef, undef, undef, undef, undef, undef, undef, undef, undef, undef, undef, undef, undef, undef, undef, undef, undef, undef, undef, undef, undef, undef, undef, undef, undef, undef, undef, undef], defers := [] }) ?assign ?body ?done ?stop
  case assign =>
    intro l x W K hK
    gi_wp2
    exact hK
  case body =>
    rintro l pre x post W hxs hI hD hl hlo hde
    have hx : x.size ≤ 4194304 := by
      have := piece_size (s := s) (x := x) (by rw [hxs]; simp)
      omega
    have hx4 : x.size ≤ 4000 := by
      have := piece_size (s := s) (x := x) (by rw [hxs]; simp)
      omega
    obtain ⟨v, its, xs, hm, hxf, hxl, hne, h0, h1, h2, hown, hb, hsz⟩ := hI
    have hlen : xs.length ≤ 28007 := by
      have e2 := pieces_len s
      have e3 := congrArg List.length hxs
      rw [List.length_append] at e3
      omega
    obtain ⟨i0, hi, hz0, hz1, hz2⟩ := info_parts intInfo2
    have htw := HT.out.below hb
    obtain ⟨m, hml⟩ := htw.ml
    have HCUT : Hid (∀ n', CallsIn (Fence.inRound Fence.wide l) n' Tryz.prog 61 #[.string x, .string ⟨#[46, 46]⟩] W fun e w' => e = .returned (.tuple #[.string (str (dotA x.data.toList)), .string (str (dotB x.data.toList)), .bool (dotOk x.data.toList)]) ∧ ∃ n, w' = W.drewN n) := fun n' => CallsIn.inRound l (callsIn_wide.2 (cutDots_any x hx m W hml))
    have HTT : Hid (∀ Y, Below W.heap.size W Y → Tabs Y) := fun Y hY => htw.t.below hY
    have HXL := Lib.hid hxl
    have HXF := Lib.hid hxf
    have HNE := Lib.hid hne
    have HM := Lib.hid hm
    have H0 := Lib.hid h0
    have H1 := Lib.hid h1
    have H2 := Lib.hid h2
    have HB := Lib.hid hb
    have HO := Lib.hid hown
    have HLO := Lib.hid hlo
    have HDE := Lib.hid hde
    clear hxs hm h0 h1 h2 hb hown hlo hde hxf hxl hne htw hml
    have hab := itemD_ab x.data.toList
    have HFA : Hid (dayN (str (dotA x.data.toList)).data.toList = itA x.data.toList) := rfl
    have hf0 := dayN_le (dotA x.data.toList)
    have ht0 : 0 ≤ itB x.data.toList ∧ itB x.data.toList ≤ 7 := by unfold itB; split <;> exact dayN_le _
    have hf0 : 0 ≤ itA x.data.toList ∧ itA x.data.toList ≤ 7 := hf0
    by_cases hok : dotOk x.data.toList = true
    · have HOK := Lib.hid hok
      have HFB : Hid (dayN (str (dotB x.data.toList)).data.toList = itB x.data.toList) := by show _ = _; unfold itB; rw [if_pos hok]; rfl
      clear hok
      by_cases hz : itA x.data.toList = 0
      · have hq : itemD x.data.toList = none := by rw [hab, pairD, if_pos (.inl hz)]
        have HX : Hid (mapO itemD (bytesOf (pre ++ [x])) = none) := by
          show _ = _
          unfold bytesOf
          rw [List.map_append, List.map_cons, List.map_nil]
          exact mapO_snoc_no hq
        clear hq hab
        generalize itA x.data.toList = fa at *
        generalize itB x.data.toList = tb at *
        gi_wp2_with (refine ⟨trivial, ?_⟩; first | (gi_at_call 61; refine (HCUT.out _).mono ?_; rintro e w1 ⟨rfl, hdr⟩; rw [HOK.out]; have hb1 := drew_below hdr; clear hdr; have hs1 := hb1.size; have HTT1 := Lib.hid (HTT.out _ hb1); have K1a := Lib.hid (KeepI.below (C := w.heap.size + 1 + 1 + 1) (D := w.heap.size + 1 + 1 + 1 + 3) hb1); have H0a := Lib.hid (H0.out.below hb1 H0.out.lt); have H1a := Lib.hid (H1.out.below hb1 H1.out.lt); have H2a := Lib.hid (H2.out.below hb1 H2.out.lt); have HOa := Lib.hid (own_below HO.out hb1); have HBa := Lib.hid (more3 HB.out HB.out.size hb1); have c0 : w1.cell? ⟨w.heap.size, 0, none⟩ = some (.slice none 0 0) := H0a.out.cell 0; have f0 : w1.frozen? ⟨w.heap.size, 0, none⟩ = false := H0a.out.frozen 0; have c1 : w1.cell? ⟨w.heap.size + 1, 0, none⟩ = some (.bool false) := H1a.out.cell 0; have f1 : w1.frozen? ⟨w.heap.size + 1, 0, none⟩ = false := H1a.out.frozen 0; clear hb1) | (gi_at_call 62; refine (CallsIn.inRound l (callsIn_wide.2 (dayOf_any _ _ HTT1.out))).mono ?_; rintro e w2 ⟨rfl, rfl⟩; first | rw [HFA.out] | rw [HFB.out]))
        have H0b := Lib.hid (H0a.out.setCell 0 (.slice none 0 0))
        refine ⟨?_, rfl, HX.out, H0b.out.setOther (a := ⟨w.heap.size + 1, 0, none⟩) (by simp) _, (H1a.out.setOther (a := ⟨w.heap.size, 0, none⟩) (by simp) _).setCell 0 (.bool false), ?_, ?_⟩
        · exact KeepI.stand ((K1a.out.trans (KeepI.set _ (by show w.heap.size < _; omega))).trans (KeepI.set _ (by show w.heap.size + 1 < _; omega))) (by omega) hD hl HLO.out HDE.out
        · exact (HBa.out.setCell (p := ⟨w.heap.size, 0, none⟩) (Nat.le_refl _) _).setCell (p := ⟨w.heap.size + 1, 0, none⟩) (Nat.le_add_right _ _) _
        · simp [World.setCell]; omega
      · by_cases hlt : itB x.data.toList < itA x.data.toList
        · 
          have hq : itemD x.data.toList = none := by rw [hab, pairD, if_pos (.inr hlt)]
          have HX : Hid (mapO itemD (bytesOf (pre ++ [x])) = none) := by
            show _ = _
            unfold bytesOf
            rw [List.map_append, List.map_cons, List.map_nil]
            exact mapO_snoc_no hq
          clear hq hab
          generalize itA x.data.toList = fa at *
          generalize itB x.data.toList = tb at *
          gi_wp2_with (refine ⟨trivial, ?_⟩; first | (gi_at_call 61; refine (HCUT.out _).mono ?_; rintro e w1 ⟨rfl, hdr⟩; rw [HOK.out]; have hb1 := drew_below hdr; clear hdr; have hs1 := hb1.size; have HTT1 := Lib.hid (HTT.out _ hb1); have K1a := Lib.hid (KeepI.below (C := w.heap.size + 1 + 1 + 1) (D := w.heap.size + 1 + 1 + 1 + 3) hb1); have H0a := Lib.hid (H0.out.below hb1 H0.out.lt); have H1a := Lib.hid (H1.out.below hb1 H1.out.lt); have H2a := Lib.hid (H2.out.below hb1 H2.out.lt); have HOa := Lib.hid (own_below HO.out hb1); have HBa := Lib.hid (more3 HB.out HB.out.size hb1); have c0 : w1.cell? ⟨w.heap.size, 0, none⟩ = some (.slice none 0 0) := H0a.out.cell 0; have f0 : w1.frozen? ⟨w.heap.size, 0, none⟩ = false := H0a.out.frozen 0; have c1 : w1.cell? ⟨w.heap.size + 1, 0, none⟩ = some (.bool false) := H1a.out.cell 0; have f1 : w1.frozen? ⟨w.heap.size + 1, 0, none⟩ = false := H1a.out.frozen 0; clear hb1) | (gi_at_call 62; refine (CallsIn.inRound l (callsIn_wide.2 (dayOf_any _ _ HTT1.out))).mono ?_; rintro e w2 ⟨rfl, rfl⟩; first | rw [HFA.out] | rw [HFB.out]))
          have H0b := Lib.hid (H0a.out.setCell 0 (.slice none 0 0))
          refine ⟨?_, rfl, HX.out, H0b.out.setOther (a := ⟨w.heap.size + 1, 0, none⟩) (by simp) _, (H1a.out.setOther (a := ⟨w.heap.size, 0, none⟩) (by simp) _).setCell 0 (.bool false), ?_, ?_⟩
          · exact KeepI.stand ((K1a.out.trans (KeepI.set _ (by show w.heap.size < _; omega))).trans (KeepI.set _ (by show w.heap.size + 1 < _; omega))) (by omega) hD hl HLO.out HDE.out
          · exact (HBa.out.setCell (p := ⟨w.heap.size, 0, none⟩) (Nat.le_refl _) _).setCell (p := ⟨w.heap.size + 1, 0, none⟩) (Nat.le_add_right _ _) _
          · simp [World.setCell]; omega
        · have hq : itemD x.data.toList = some (itA x.data.toList, itB x.data.toList) := by rw [hab, pairD, if_neg (by omega)]
          have HX : Hid (mapO itemD (bytesOf (pre ++ [x])) = some (its ++ [(itA x.data.toList, itB x.data.toList)])) := by
            show _ = _
            unfold bytesOf
            rw [List.map_append, List.map_cons, List.map_nil]
            exact mapO_snoc_yes HM.out hq
          clear hq hab
          generalize itA x.data.toList = fa at *
          generalize itB x.data.toList = tb at *
          have hle : fa ≤ tb := by omega
          have hfa : 1 ≤ fa := by omega
          have e1 : (fa == 0) = false := by simpa using hz
          have e2 : decide (tb < fa) = false := decide_eq_false (by omega)
          gi_wp2_with (refine ⟨trivial, ?_⟩; first | (gi_at_call 61; refine (HCUT.out _).mono ?_; rintro e w1 ⟨rfl, hdr⟩; rw [HOK.out]; have hb1 := drew_below hdr; clear hdr; have hs1 := hb1.size; have HTT1 := Lib.hid (HTT.out _ hb1); have K1a := Lib.hid (KeepI.below (C := w.heap.size + 1 + 1 + 1) (D := w.heap.size + 1 + 1 + 1 + 3) hb1); have H0a := Lib.hid (H0.out.below hb1 H0.out.lt); have H1a := Lib.hid (H1.out.below hb1 H1.out.lt); have H2a := Lib.hid (H2.out.below hb1 H2.out.lt); have HOa := Lib.hid (own_below HO.out hb1); have HBa := Lib.hid (more3 HB.out HB.out.size hb1); have c0 : w1.cell? ⟨w.heap.size, 0, none⟩ = some (.slice none 0 0) := H0a.out.cell 0; have f0 : w1.frozen? ⟨w.heap.size, 0, none⟩ = false := H0a.out.frozen 0; have c1 : w1.cell? ⟨w.heap.size + 1, 0, none⟩ = some (.bool false) := H1a.out.cell 0; have f1 : w1.frozen? ⟨w.heap.size + 1, 0, none⟩ = false := H1a.out.frozen 0; clear hb1) | (gi_at_call 62; refine (CallsIn.inRound l (callsIn_wide.2 (dayOf_any _ _ HTT1.out))).mono ?_; rintro e w2 ⟨rfl, rfl⟩; first | rw [HFA.out] | rw [HFB.out]))
          gi_loopw [11] (fun i wr => ∃ (v : Value) (k : Nat), (k : Int) ≤ tb + 1 - fa ∧ i = .int .i64 (fa + k) ∧ Hid (Blk wr (w.heap.size) 22 #[.slice none 0 0]) ∧ Hid (Blk wr (w.heap.size + 1) 4 #[.bool false]) ∧ Hid (Blk wr (w.heap.size + 1 + 1) 22 #[v]) ∧ Hid (wr.ownsRow (w.heap.size + 1 + 1 + 1 + 3) 3 1 v (xs.length + k) (ints (xs ++ upto (fa - 1) k))) ∧ Hid (Below (w.heap.size) w wr) ∧ w.heap.size + 1 + 1 + 1 + 3 ≤ wr.heap.size ∧ Hid (KeepI (w.heap.size + 1 + 1 + 1) (w.heap.size + 1 + 1 + 1 + 3) W wr)) (fun i wr => (tb + 1 - intOf i).toNat)
          case atStart => exact ⟨v, 0, by omega, by simp, H0a, H1a, H2a, by simpa [upto] using HOa, HBa, by omega, K1a⟩
          case round =>
            obtain ⟨v, k, hk, rfl, R0, R1, R2, RO, RB, hsz, RK⟩ := hrel
            have d2 : wr.cell? ⟨w.heap.size + 1 + 1, 0, none⟩ = some v := R2.out.cell 0
            by_cases hkt : (k : Int) = tb + 1 - fa
            · have q1 : tb < fa + (k : Int) := by omega
              have q2 : decide (fa + (k : Int) ≤ tb) = false := decide_eq_false (by omega)
              gi_wp2
              have HR : rangeD (fa, tb) = upto (fa - 1) k := by rw [range_upto hfa hle ht0.2, show (tb - fa + 1).toNat = k by omega]
              refine ⟨KeepI.stand RK.out (by omega) hD hl HLO.out HDE.out, v, its ++ [(fa, tb)], xs ++ upto (fa - 1) k, HX.out, ?_, ?_, ?_, R0.out, R1.out, R2.out, ?_, RB.out, hsz⟩
              · rw [flat_snoc, ← HXF.out, HR]
              · rw [List.length_append, upto_len, List.length_append, List.length_singleton]; have := HXL.out; omega
              · intro _ e
                have := congrArg List.length e
                rw [List.length_append, upto_len] at this
                simp at this
                omega
              · rw [List.length_append, upto_len]; exact RO.out
            · have q1 : fa + (k : Int) ≤ tb := by omega
              have q2 : decide (fa + (k : Int) ≤ tb) = true := decide_eq_true (by omega)
              gi_wp2_with (first
                | (gi_at_builtin
                   refine wpListIn_append_own _ rfl _ _ 22 rfl (w.heap.size + 1 + 1 + 1 + 3) 3 i0 (.int .i64 0) 1 8 Tryz.underlying22 hi hz0 hz1 hz2 rfl (by decide) v (xs.length + k) (ints (xs ++ upto (fa - 1) k)) (by rfl) (RO.out.alloc _) ⟨wr.heap.size, 0, none⟩ 1 1 [.int .i64 (fa + k)] (by rfl) rfl ?k1 ?k2 ?k3 ?k4 ?k5 ?_))
              case k1 =>
                intro j u hj
                match j, hj with
                | 0, hj => simp at hj; subst hj; simp [Addr.add]
              case k2 => intro u hu; simp at hu; subst hu; rfl
              case k3 => unfold maxLen; omega
              case k4 => omega
              case k5 => simp; omega
              intro v' w2 hown' hgrow _
              obtain ⟨ao, n', cap, rfl⟩ : ∃ ao n' cap, v' = .slice ao n' cap := by
                rcases hown'.2 with ⟨hv, _⟩ | ⟨g, cap, cur, hv, _⟩
                · exact ⟨_, _, _, hv⟩
                · exact ⟨_, _, _, hv⟩
              have hne2 : ∀ k', k' < w.heap.size + 1 + 1 + 1 + 3 → some k' ≠ v.ownBlock := fun k' hk e => by have := (RO.out.lt k' e.symm).1; omega
              have hs9 : wr.heap.size + 1 ≤ (wr.alloc (.cells #[.int .i64 (fa + k)] 3)).heap.size := by simp
              have hs2 : (wr.alloc (.cells #[.int .i64 (fa + k)] 3)).heap.size ≤ w2.heap.size := hgrow.size
              have G0 : Hid (Blk w2 (w.heap.size) 22 #[.slice none 0 0]) := (hgrow.block _ (by simp; omega) (hne2 _ (by omega))).trans (R0.out.alloc (.cells #[.int .i64 (fa + k)] 3))
              have G1 : Hid (Blk w2 (w.heap.size + 1) 4 #[.bool false]) := (hgrow.block _ (by simp; omega) (hne2 _ (by omega))).trans (R1.out.alloc (.cells #[.int .i64 (fa + k)] 3))
              have G2 : Hid (Blk w2 (w.heap.size + 1 + 1) 22 #[v]) := (hgrow.block _ (by simp; omega) (hne2 _ (by omega))).trans (R2.out.alloc (.cells #[.int .i64 (fa + k)] 3))
              have GB : Hid (Below (w.heap.size) w w2) := (RB.out.alloc (by omega) (.cells #[.int .i64 (fa + k)] 3)).grown hgrow (by simp; omega) (fun k hk => by have := (RO.out.lt k hk).1; omega)
              have GK : Hid (KeepI (w.heap.size + 1 + 1 + 1) (w.heap.size + 1 + 1 + 1 + 3) W w2) := (RK.out.trans (KeepI.alloc _ _ wr (.cells #[.int .i64 (fa + k)] 3))).trans (KeepI.grown (RO.out.alloc _) hgrow)
              have GO := Lib.hid hown'
              clear hown' hgrow hne2
              have e2b : w2.cell? ⟨w.heap.size + 1 + 1, 0, none⟩ = some v := G2.out.cell 0
              have f2b : w2.frozen? ⟨w.heap.size + 1 + 1, 0, none⟩ = false := G2.out.frozen 0
              have G0c := Lib.hid (G0.out.setOther (a := ⟨w.heap.size + 1 + 1, 0, none⟩) (by simp; omega) (.slice ao n' cap))
              have G1c := Lib.hid (G1.out.setOther (a := ⟨w.heap.size + 1 + 1, 0, none⟩) (by simp) (.slice ao n' cap))
              have G2c := Lib.hid (G2.out.setCell 0 (.slice ao n' cap))
              gi_wp2
              go_roundw
              case rel =>
                refine ⟨.slice ao n' cap, k + 1, by omega, by (congr 1; omega), G0c, G1c, G2c, ?_, ?_, ?_, ?_⟩
                · show World.ownsRow _ _ _ _ _ _ _
                  rw [upto_snoc, ← List.append_assoc, ints_snoc, show fa - 1 + (k : Int) + 1 = fa + k by omega]
                  exact own_set GO.out (by show w.heap.size + 1 + 1 < _; omega)
                · exact GB.out.setCell (p := ⟨w.heap.size + 1 + 1, 0, none⟩) (by show w.heap.size ≤ w.heap.size + 1 + 1; omega) _
                · simp [World.setCell]; omega
                · exact GK.out.trans (KeepI.set _ (by show w.heap.size + 1 + 1 < _; omega))
              case measure => simp [intOf]; omega
    · have hok : dotOk x.data.toList = false := by simpa using hok
      have HOK := Lib.hid hok
      have hbb : itB x.data.toList = itA x.data.toList := by unfold itB itA; rw [hok]; rfl
      have HFB := HFA
      clear hok
      by_cases hz : itA x.data.toList = 0
      · have hq : itemD x.data.toList = none := by rw [hab, pairD, if_pos (.inl hz)]
        have HX : Hid (mapO itemD (bytesOf (pre ++ [x])) = none) := by
          show _ = _
          unfold bytesOf
          rw [List.map_append, List.map_cons, List.map_nil]
          exact mapO_snoc_no hq
        clear hq hab
        generalize itA x.data.toList = fa at *
        generalize itB x.data.toList = tb at *
        gi_wp2_with (refine ⟨trivial, ?_⟩; first | (gi_at_call 61; refine (HCUT.out _).mono ?_; rintro e w1 ⟨rfl, hdr⟩; rw [HOK.out]; have hb1 := drew_below hdr; clear hdr; have hs1 := hb1.size; have HTT1 := Lib.hid (HTT.out _ hb1); have K1a := Lib.hid (KeepI.below (C := w.heap.size + 1 + 1 + 1) (D := w.heap.size + 1 + 1 + 1 + 3) hb1); have H0a := Lib.hid (H0.out.below hb1 H0.out.lt); have H1a := Lib.hid (H1.out.below hb1 H1.out.lt); have H2a := Lib.hid (H2.out.below hb1 H2.out.lt); have HOa := Lib.hid (own_below HO.out hb1); have HBa := Lib.hid (more3 HB.out HB.out.size hb1); have c0 : w1.cell? ⟨w.heap.size, 0, none⟩ = some (.slice none 0 0) := H0a.out.cell 0; have f0 : w1.frozen? ⟨w.heap.size, 0, none⟩ = false := H0a.out.frozen 0; have c1 : w1.cell? ⟨w.heap.size + 1, 0, none⟩ = some (.bool false) := H1a.out.cell 0; have f1 : w1.frozen? ⟨w.heap.size + 1, 0, none⟩ = false := H1a.out.frozen 0; clear hb1) | (gi_at_call 62; refine (CallsIn.inRound l (callsIn_wide.2 (dayOf_any _ _ HTT1.out))).mono ?_; rintro e w2 ⟨rfl, rfl⟩; first | rw [HFA.out] | rw [HFB.out]))
        have H0b := Lib.hid (H0a.out.setCell 0 (.slice none 0 0))
        refine ⟨?_, rfl, HX.out, H0b.out.setOther (a := ⟨w.heap.size + 1, 0, none⟩) (by simp) _, (H1a.out.setOther (a := ⟨w.heap.size, 0, none⟩) (by simp) _).setCell 0 (.bool false), ?_, ?_⟩
        · exact KeepI.stand ((K1a.out.trans (KeepI.set _ (by show w.heap.size < _; omega))).trans (KeepI.set _ (by show w.heap.size + 1 < _; omega))) (by omega) hD hl HLO.out HDE.out
        · exact (HBa.out.setCell (p := ⟨w.heap.size, 0, none⟩) (Nat.le_refl _) _).setCell (p := ⟨w.heap.size + 1, 0, none⟩) (Nat.le_add_right _ _) _
        · simp [World.setCell]; omega
      · by_cases hlt : itB x.data.toList < itA x.data.toList
        · exact absurd hlt (by omega)
        · have hq : itemD x.data.toList = some (itA x.data.toList, itB x.data.toList) := by rw [hab, pairD, if_neg (by omega)]
          have HX : Hid (mapO itemD (bytesOf (pre ++ [x])) = some (its ++ [(itA x.data.toList, itB x.data.toList)])) := by
            show _ = _
            unfold bytesOf
            rw [List.map_append, List.map_cons, List.map_nil]
            exact mapO_snoc_yes HM.out hq
          clear hq hab
          generalize itA x.data.toList = fa at *
          generalize itB x.data.toList = tb at *
          have hle : fa ≤ tb := by omega
          have hfa : 1 ≤ fa := by omega
          have e1 : (fa == 0) = false := by simpa using hz
          have e2 : decide (tb < fa) = false := decide_eq_false (by omega)
          gi_wp2_with (refine ⟨trivial, ?_⟩; first | (gi_at_call 61; refine (HCUT.out _).mono ?_; rintro e w1 ⟨rfl, hdr⟩; rw [HOK.out]; have hb1 := drew_below hdr; clear hdr; have hs1 := hb1.size; have HTT1 := Lib.hid (HTT.out _ hb1); have K1a := Lib.hid (KeepI.below (C := w.heap.size + 1 + 1 + 1) (D := w.heap.size + 1 + 1 + 1 + 3) hb1); have H0a := Lib.hid (H0.out.below hb1 H0.out.lt); have H1a := Lib.hid (H1.out.below hb1 H1.out.lt); have H2a := Lib.hid (H2.out.below hb1 H2.out.lt); have HOa := Lib.hid (own_below HO.out hb1); have HBa := Lib.hid (more3 HB.out HB.out.size hb1); have c0 : w1.cell? ⟨w.heap.size, 0, none⟩ = some (.slice none 0 0) := H0a.out.cell 0; have f0 : w1.frozen? ⟨w.heap.size, 0, none⟩ = false := H0a.out.frozen 0; have c1 : w1.cell? ⟨w.heap.size + 1, 0, none⟩ = some (.bool false) := H1a.out.cell 0; have f1 : w1.frozen? ⟨w.heap.size + 1, 0, none⟩ = false := H1a.out.frozen 0; clear hb1) | (gi_at_call 62; refine (CallsIn.inRound l (callsIn_wide.2 (dayOf_any _ _ HTT1.out))).mono ?_; rintro e w2 ⟨rfl, rfl⟩; first | rw [HFA.out] | rw [HFB.out]))
          gi_loopw [11] (fun i wr => ∃ (v : Value) (k : Nat), (k : Int) ≤ tb + 1 - fa ∧ i = .int .i64 (fa + k) ∧ Hid (Blk wr (w.heap.size) 22 #[.slice none 0 0]) ∧ Hid (Blk wr (w.heap.size + 1) 4 #[.bool false]) ∧ Hid (Blk wr (w.heap.size + 1 + 1) 22 #[v]) ∧ Hid (wr.ownsRow (w.heap.size + 1 + 1 + 1 + 3) 3 1 v (xs.length + k) (ints (xs ++ upto (fa - 1) k))) ∧ Hid (Below (w.heap.size) w wr) ∧ w.heap.size + 1 + 1 + 1 + 3 ≤ wr.heap.size ∧ Hid (KeepI (w.heap.size + 1 + 1 + 1) (w.heap.size + 1 + 1 + 1 + 3) W wr)) (fun i wr => (tb + 1 - intOf i).toNat)
          case atStart => exact ⟨v, 0, by omega, by simp, H0a, H1a, H2a, by simpa [upto] using HOa, HBa, by omega, K1a⟩
          case round =>
            obtain ⟨v, k, hk, rfl, R0, R1, R2, RO, RB, hsz, RK⟩ := hrel
            have d2 : wr.cell? ⟨w.heap.size + 1 + 1, 0, none⟩ = some v := R2.out.cell 0
            by_cases hkt : (k : Int) = tb + 1 - fa
            · have q1 : tb < fa + (k : Int) := by omega
              have q2 : decide (fa + (k : Int) ≤ tb) = false := decide_eq_false (by omega)
              gi_wp2
              have HR : rangeD (fa, tb) = upto (fa - 1) k := by rw [range_upto hfa hle ht0.2, show (tb - fa + 1).toNat = k by omega]
              refine ⟨KeepI.stand RK.out (by omega) hD hl HLO.out HDE.out, v, its ++ [(fa, tb)], xs ++ upto (fa - 1) k, HX.out, ?_, ?_, ?_, R0.out, R1.out, R2.out, ?_, RB.out, hsz⟩
              · rw [flat_snoc, ← HXF.out, HR]
              · rw [List.length_append, upto_len, List.length_append, List.length_singleton]; have := HXL.out; omega
              · intro _ e
                have := congrArg List.length e
                rw [List.length_append, upto_len] at this
                simp at this
                omega
              · rw [List.length_append, upto_len]; exact RO.out
            · have q1 : fa + (k : Int) ≤ tb := by omega
              have q2 : decide (fa + (k : Int) ≤ tb) = true := decide_eq_true (by omega)
              gi_wp2_with (first
                | (gi_at_builtin
                   refine wpListIn_append_own _ rfl _ _ 22 rfl (w.heap.size + 1 + 1 + 1 + 3) 3 i0 (.int .i64 0) 1 8 Tryz.underlying22 hi hz0 hz1 hz2 rfl (by decide) v (xs.length + k) (ints (xs ++ upto (fa - 1) k)) (by rfl) (RO.out.alloc _) ⟨wr.heap.size, 0, none⟩ 1 1 [.int .i64 (fa + k)] (by rfl) rfl ?k1 ?k2 ?k3 ?k4 ?k5 ?_))
              case k1 =>
                intro j u hj
                match j, hj with
                | 0, hj => simp at hj; subst hj; simp [Addr.add]
              case k2 => intro u hu; simp at hu; subst hu; rfl
              case k3 => unfold maxLen; omega
              case k4 => omega
              case k5 => simp; omega
              intro v' w2 hown' hgrow _
              obtain ⟨ao, n', cap, rfl⟩ : ∃ ao n' cap, v' = .slice ao n' cap := by
                rcases hown'.2 with ⟨hv, _⟩ | ⟨g, cap, cur, hv, _⟩
                · exact ⟨_, _, _, hv⟩
                · exact ⟨_, _, _, hv⟩
              have hne2 : ∀ k', k' < w.heap.size + 1 + 1 + 1 + 3 → some k' ≠ v.ownBlock := fun k' hk e => by have := (RO.out.lt k' e.symm).1; omega
              have hs9 : wr.heap.size + 1 ≤ (wr.alloc (.cells #[.int .i64 (fa + k)] 3)).heap.size := by simp
              have hs2 : (wr.alloc (.cells #[.int .i64 (fa + k)] 3)).heap.size ≤ w2.heap.size := hgrow.size
              have G0 : Hid (Blk w2 (w.heap.size) 22 #[.slice none 0 0]) := (hgrow.block _ (by simp; omega) (hne2 _ (by omega))).trans (R0.out.alloc (.cells #[.int .i64 (fa + k)] 3))
              have G1 : Hid (Blk w2 (w.heap.size + 1) 4 #[.bool false]) := (hgrow.block _ (by simp; omega) (hne2 _ (by omega))).trans (R1.out.alloc (.cells #[.int .i64 (fa + k)] 3))
              have G2 : Hid (Blk w2 (w.heap.size + 1 + 1) 22 #[v]) := (hgrow.block _ (by simp; omega) (hne2 _ (by omega))).trans (R2.out.alloc (.cells #[.int .i64 (fa + k)] 3))
              have GB : Hid (Below (w.heap.size) w w2) := (RB.out.alloc (by omega) (.cells #[.int .i64 (fa + k)] 3)).grown hgrow (by simp; omega) (fun k hk => by have := (RO.out.lt k hk).1; omega)
              have GK : Hid (KeepI (w.heap.size + 1 + 1 + 1) (w.heap.size + 1 + 1 + 1 + 3) W w2) := (RK.out.trans (KeepI.alloc _ _ wr (.cells #[.int .i64 (fa + k)] 3))).trans (KeepI.grown (RO.out.alloc _) hgrow)
              have GO := Lib.hid hown'
              clear hown' hgrow hne2
              have e2b : w2.cell? ⟨w.heap.size + 1 + 1, 0, none⟩ = some v := G2.out.cell 0
              have f2b : w2.frozen? ⟨w.heap.size + 1 + 1, 0, none⟩ = false := G2.out.frozen 0
              have G0c := Lib.hid (G0.out.setOther (a := ⟨w.heap.size + 1 + 1, 0, none⟩) (by simp; omega) (.slice ao n' cap))
              have G1c := Lib.hid (G1.out.setOther (a := ⟨w.heap.size + 1 + 1, 0, none⟩) (by simp) (.slice ao n' cap))
              have G2c := Lib.hid (G2.out.setCell 0 (.slice ao n' cap))
              gi_wp2
              go_roundw
              case rel =>
                refine ⟨.slice ao n' cap, k + 1, by omega, by (congr 1; omega), G0c, G1c, G2c, ?_, ?_, ?_, ?_⟩
                · show World.ownsRow _ _ _ _ _ _ _
                  rw [upto_snoc, ← List.append_assoc, ints_snoc, show fa - 1 + (k : Int) + 1 = fa + k by omega]
                  exact own_set GO.out (by show w.heap.size + 1 + 1 < _; omega)
                · exact GB.out.setCell (p := ⟨w.heap.size + 1 + 1, 0, none⟩) (by show w.heap.size ≤ w.heap.size + 1 + 1; omega) _
                · simp [World.setCell]; omega
                · exact GK.out.trans (KeepI.set _ (by show w.heap.size + 1 + 1 < _; omega))
              case measure => simp [intOf]; omega
  case done =>
    rintro M W hM ⟨v, its, xs, hm, hxf, hxl, hne, h0, h1, h2, hown, hb, hsz⟩ hK
    rw [bytes_pieces] at hm
    have hdays := days_fin hm hxf
    have hlen : xs.length ≤ 28007 := by
      have e2 := pieces_len s
      omega
    have hxs : xs ≠ [] := hne (pieces_ne s)
    obtain ⟨g, cap, cur, rfl, hg, hbk, hr1, hr2, hr3, hr4⟩ : ∃ g cap cur, v = .slice (some ⟨g, 0, none⟩) xs.length cap ∧ w.heap.size + 1 + 1 + 1 + 3 ≤ g ∧ W.heap[g]? = some (.cells cur 3 (0, 0)) ∧ xs.length ≤ cap ∧ cap ≤ maxLen ∧ cur.size = cap * 1 ∧ cur.toList.take (xs.length * 1) = ints xs := by
      rcases hown.2 with ⟨hv, h0'⟩ | ⟨g, cap, cur, hv, hg, hbk, hr1, hr2, hr3, hr4⟩
      · exact absurd (List.length_eq_zero_iff.1 h0') hxs
      · exact ⟨g, cap, cur, hv, hg, hbk, hr1, hr2, hr3, hr4⟩
    have hH : Go.Sort.Holds (Value.int .i64) W g 0 xs.toArray := by
      intro j hj
      have hj : j < xs.length := by simpa using hj
      refine ⟨?_, ?_⟩
      · have hc : W.cell? ⟨g, 0 + j, none⟩ = cur[0 + j]? := cell_of_row W g (0 + j) cur _ (0, 0) hbk
        rw [hc, ← Array.getElem?_toList]
        have e : cur.toList[0 + j]? = (cur.toList.take (xs.length * 1))[j]? := by rw [List.getElem?_take_of_lt (by omega), Nat.zero_add]
        rw [e, hr4]
        unfold ints
        rw [List.getElem?_map, List.getElem?_eq_getElem hj]
        simp [hj]
      · exact frozen_of_row W g (0 + j) cur _ hbk
    have hgl : g < W.heap.size := (Array.getElem?_eq_some_iff.1 hbk).1
    have hgM : M ≠ g := by
      intro e
      rw [e, hbk] at hK
      cases hK
    have HDN : Hid (DoneAt w g M (.slice (some ⟨g, 0, none⟩) xs.length cap) xs W) := ⟨h0, h1, h2, hH, hb, hK, hgl, hsz⟩
    have c2 : W.cell? ⟨w.heap.size + 1 + 1, 0, none⟩ = some (.slice (some ⟨g, 0, none⟩) xs.length cap) := h2.cell 0
    have HSORT : Hid (∀ n', CallsIn Fence.wide n' Tryz.prog 63 #[.slice (some ⟨g, 0, none⟩) xs.length cap] W fun e w' => e = .returned (.tuple #[]) ∧ ∃ n os, w' = Go.Sort.grow (Go.Sort.putRow (Value.int .i64) (Go.Sort.ahead W n) g 0 (xs.mergeSort fun x y => decide (x ≤ y)).toArray) os) := fun n' => callsIn_wide.2 (Tryz.slices_Sort_int g 0 cap xs W hH hgl (by omega))
    have HDY := Lib.hid hdays
    clear hdays hm hxf hne h0 h1 h2 hb hK hH hbk hr3 hr4 hown hxl
    gi_wp2_with (refine ⟨trivial, ?_⟩; first
      | (gi_at_call 63; refine (HSORT.out _).mono ?_; rintro e w1 ⟨rfl, n1, os1, hw1⟩; have HD1 := Lib.hid (HDN.out.put hg hgM (List.length_mergeSort xs) hw1); have d2 : w1.cell? ⟨w.heap.size + 1 + 1, 0, none⟩ = some (.slice (some ⟨g, 0, none⟩) xs.length cap) := HD1.out.2.2.1.cell 0; clear hw1)
      | (gi_at_call 64; refine (callsIn_wide.2 (compact_any g cap xs.length (xs.mergeSort fun x y => decide (x ≤ y)) _ (List.length_mergeSort xs) HD1.out.2.2.2.1 (by omega) hr1)).mono ?_; rintro e w2 ⟨rfl, n2, hw2⟩; have HD2 := Lib.hid (HD1.out.put (os := #[]) hg hgM (compact_len _) (hw2.trans (Go.Sort.grow_empty _).symm)); have g0 : w2.cell? ⟨w.heap.size, 0, none⟩ = some (.slice none 0 0) := HD2.out.1.cell 0; have gf0 : w2.frozen? ⟨w.heap.size, 0, none⟩ = false := HD2.out.1.frozen 0; have g1 : w2.cell? ⟨w.heap.size + 1, 0, none⟩ = some (.bool false) := HD2.out.2.1.cell 0; have gf1 : w2.frozen? ⟨w.heap.size + 1, 0, none⟩ = false := HD2.out.2.1.frozen 0; clear hw2))
    have hdy : daysL s.data.toList = some (Lib.compact (xs.mergeSort fun x y => decide (x ≤ y))) := HDY.out
    have hcl : (Lib.compact (xs.mergeSort fun x y => decide (x ≤ y))).length ≤ xs.length := by
      have := Lib.compact_length_le (xs.mergeSort fun x y => decide (x ≤ y))
      rw [List.length_mergeSort] at this; exact this
    obtain ⟨b0, b1, _, bH, bB, bK, bg, bS⟩ := HD2.out
    clear HD2 HD1 HDN HSORT HDY
    generalize Lib.compact (xs.mergeSort fun x y => decide (x ≤ y)) = ds at *
    have E0 : Hid (Blk ((w2.setCell ⟨w.heap.size, 0, none⟩ (.slice (some ⟨g, 0, none⟩) ds.length cap)).setCell ⟨w.heap.size + 1, 0, none⟩ (.bool true)) w.heap.size 22 #[.slice (some ⟨g, 0, none⟩) ds.length cap]) := (b0.setCell 0 (.slice (some ⟨g, 0, none⟩) ds.length cap)).setOther (a := ⟨w.heap.size + 1, 0, none⟩) (by simp) (.bool true)
    have E1 : Hid (Blk ((w2.setCell ⟨w.heap.size, 0, none⟩ (.slice (some ⟨g, 0, none⟩) ds.length cap)).setCell ⟨w.heap.size + 1, 0, none⟩ (.bool true)) (w.heap.size + 1) 4 #[.bool true]) := (b1.setOther (a := ⟨w.heap.size, 0, none⟩) (by simp) (.slice (some ⟨g, 0, none⟩) ds.length cap)).setCell 0 (.bool true)
    have EO : ∀ i, i ≠ w.heap.size → i ≠ w.heap.size + 1 → ((w2.setCell ⟨w.heap.size, 0, none⟩ (.slice (some ⟨g, 0, none⟩) ds.length cap)).setCell ⟨w.heap.size + 1, 0, none⟩ (.bool true)).heap[i]? = w2.heap[i]? := fun i h1 h2 => (Below.heap_setCell _ ⟨w.heap.size + 1, 0, none⟩ _ i (by show i ≠ w.heap.size + 1; omega)).trans (Below.heap_setCell w2 ⟨w.heap.size, 0, none⟩ _ i (by show i ≠ w.heap.size; omega))
    have EB : Below w.heap.size w ((w2.setCell ⟨w.heap.size, 0, none⟩ (.slice (some ⟨g, 0, none⟩) ds.length cap)).setCell ⟨w.heap.size + 1, 0, none⟩ (.bool true)) := (bB.setCell (p := ⟨w.heap.size, 0, none⟩) (Nat.le_refl _) _).setCell (p := ⟨w.heap.size + 1, 0, none⟩) (by show w.heap.size ≤ w.heap.size + 1; omega) _
    have ES : w2.heap.size ≤ ((w2.setCell ⟨w.heap.size, 0, none⟩ (.slice (some ⟨g, 0, none⟩) ds.length cap)).setCell ⟨w.heap.size + 1, 0, none⟩ (.bool true)).heap.size := by simp [World.setCell]
    generalize (w2.setCell ⟨w.heap.size, 0, none⟩ (.slice (some ⟨g, 0, none⟩) ds.length cap)).setCell ⟨w.heap.size + 1, 0, none⟩ (.bool true) = Wz at *
    have bH2 := holds_of_block bH (EO g (by omega) (by omega))
    refine ⟨by simp, .inl ⟨_, _, rfl, run_takeDeferred (w := Wz) ((EO M (by omega) (by omega)).trans bK), ?_⟩⟩
    have e0 : (Wz.putObj M (.deferred none)).cell? ⟨w.heap.size, 0, none⟩ = some (.slice (some ⟨g, 0, none⟩) ds.length cap) := (World.cell?_of_block ((below_put Wz M (.deferred none) (Nat.le_refl M)).block _ (by show w.heap.size < M; omega))).trans (E0.out.cell 0)
    have e1 : (Wz.putObj M (.deferred none)).cell? ⟨w.heap.size + 1, 0, none⟩ = some (.bool true) := (World.cell?_of_block ((below_put Wz M (.deferred none) (Nat.le_refl M)).block _ (by show w.heap.size + 1 < M; omega))).trans (E1.out.cell 0)
    have bH3 := holds_of_block bH2 (W' := Wz.putObj M (.deferred none)) (World.putObj_heap_other (Ne.symm hgM))
    have hI := ints_fin bH3 (by simp; omega) (by unfold maxLen; omega)
    refine ⟨.tuple #[.slice (some ⟨g, 0, none⟩) ds.length cap, .bool true], ?_, ⟨some ⟨g, 0, none⟩, ds.length, cap, ?_, by omega, ?_, EB.trans (below_put _ _ _ (by omega))⟩⟩
    · simp [results, Tryz.f50, go_sem, e0, e1]
    · rw [hdy]; rfl
    · rw [hdy]; exact hI
  case stop =>
    rintro M c pre W hM hpre ⟨rfl, hm, h0, h1, hb, hsz⟩ hK
    gi_wp2
    refine ⟨by simp, .inl ⟨_, _, rfl, run_takeDeferred hK, ?_⟩⟩
    have e0 : (W.putObj M (.deferred none)).cell? ⟨w.heap.size, 0, none⟩ = some (.slice none 0 0) := (World.cell?_of_block ((below_put W M (.deferred none) (Nat.le_refl M)).block _ (by show w.heap.size < M; omega))).trans (h0.cell 0)
    have e1 : (W.putObj M (.deferred none)).cell? ⟨w.heap.size + 1, 0, none⟩ = some (.bool false) := (World.cell?_of_block ((below_put W M (.deferred none) (Nat.le_refl M)).block _ (by show w.heap.size + 1 < M; omega))).trans (h1.cell 0)
    have hnone : daysL s.data.toList = none := by
      have : mapO itemD (splitL 44 s.data.toList) = none := by
        rw [← bytes_pieces]
        obtain ⟨post, hp⟩ := hpre
        rw [← hp]
        unfold bytesOf
        rw [List.map_append, mapO_app]
        unfold bytesOf at hm
        rw [hm]
        rfl
      unfold daysL
      rw [show itemL = itemD from funext fun l => (itemD_eq l).symm, this]
    refine ⟨.tuple #[.slice none 0 0, .bool false], ?_, ⟨none, 0, 0, ?_, Nat.le_refl _, ?_, hb.trans (below_put _ _ _ (by omega))⟩⟩
    · simp [results, Tryz.f50, go_sem, e0, e1]
    · rw [hnone]; rfl
    · rw [hnone]; exact ⟨rfl, Nat.zero_le _, Reads.none_⟩
end Go.Proofs.YtncolcjejgmhjaaGreatDoor
