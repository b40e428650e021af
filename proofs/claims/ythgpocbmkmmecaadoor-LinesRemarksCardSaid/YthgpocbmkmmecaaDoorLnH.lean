/- The walk of the developers' Parse. -/
import Derived.Test.YthgpocbmkmmecaaDoorLnG
import Derived.Test.YthgpocbmkmmecaaDoorLnI
namespace Go.Proofs.YthgpocbmkmmecaaDoor
open Go.RowKit
attribute [local go_sem] Oper.semAt_some

theorem block_addW (a : Addr) (n : Nat) : (a.add n).block = a.block := by unfold Addr.add; split <;> rfl
/-- A row of lines. -/
def LnsAt (w : World) (B : Nat) (A : Option Addr) (n : Nat) (l : List Ln) : Prop :=
  l.length = n ∧ n ≤ maxLen ∧ (0 < n → ∃ ad, A = some ad ∧ ad.block < B ∧ ∀ j u, (lns l)[j]? = some u → w.cell? (ad.add j) = some u)
theorem LnsAt.none_ {w : World} {B : Nat} {A : Option Addr} : LnsAt w B A 0 [] := ⟨rfl, Nat.zero_le _, fun h => by omega⟩
theorem LnsAt.below {w w' : World} {B n : Nat} {A : Option Addr} {l : List Ln} (h : LnsAt w B A n l) (hb : Below B w w') : LnsAt w' B A n l :=
  ⟨h.1, h.2.1, fun hn => by
    obtain ⟨ad, e, hB, hc⟩ := h.2.2 hn
    exact ⟨ad, e, hB, fun j x hj => (hb.cell (by rw [block_addW]; exact hB)).trans (hc j x hj)⟩⟩
theorem LnsAt.wide {w : World} {B B' n : Nat} {A : Option Addr} {l : List Ln} (h : LnsAt w B A n l) (hB : B ≤ B') : LnsAt w B' A n l :=
  ⟨h.1, h.2.1, fun hn => by
    obtain ⟨ad, e, h2, hc⟩ := h.2.2 hn
    exact ⟨ad, e, by omega, hc⟩⟩
theorem LnsAt.drewN {w : World} {B n : Nat} {A : Option Addr} {l : List Ln} (h : LnsAt w B A n l) (j : Nat) : LnsAt (w.drewN j) B A n l := h
theorem lnsAt_of_own {w : World} {base n nv cv : Nat} {A : Option Addr} {l : List Ln} (h : w.ownsRow base 34 4 (.slice A nv cv) n (lns l)) (hl : l.length = n) (hn : n ≤ maxLen) : nv = n ∧ LnsAt w w.heap.size A n l := by
  rcases h.2 with ⟨h1, h2⟩ | ⟨g, cap, cur, h1, h2, h3, h4, h5, h6, h7⟩
  · injection h1 with h1 h11 h12
    subst h2
    exact ⟨h11, hl, Nat.zero_le _, fun h => by omega⟩
  · injection h1 with h1 h11 h12
    subst h1 h11 h12
    exact ⟨rfl, hl, hn, fun _ => ⟨_, rfl, (Array.getElem?_eq_some_iff.1 h3).1, fun j x hj => h.cells (g := g) rfl j x hj⟩⟩
/-- What Parse gives. -/
def ParseP (s : ByteArray) (w : World) (e : Ending) (w' : World) : Prop :=
  ∃ (A : Option Addr) (n c : Nat), e = .returned (.tuple #[.slice A n c, .agg #[.int .i64 (parseT s.data.toList).2.1, .int .i64 (parseT s.data.toList).2.2]]) ∧ LnsAt w' w'.heap.size A n (parseT s.data.toList).1 ∧ Below w.heap.size w w'
theorem logical_any (s : ByteArray) (w : World) :
    Calls Tryd.prog 20 #[.string s] w fun e w' => e = .returned (.func (.func 29) #[] #[.pointer (some ⟨w.heap.size, 0, none⟩)]) ∧ w' = w.alloc (.cells #[.string s] 9) := by
  go_enter Tryd.func20, Tryd.ntmps20
  go_wp2
  go_ret
  exact ⟨rfl, rfl⟩
abbrev PS := List UInt8 × Nat
def HI (w : World) (pre : List PS) (W : World) : Prop :=
  ∃ (sec : List UInt8) (ls : List Ln), (∀ rest, foldL [] [] (pre ++ rest) = foldL sec ls rest) ∧ ls.length ≤ pre.length ∧ Blk W w.heap.size 23 #[.slice none 0 0] ∧ Blk W (w.heap.size + 1) 26 #[.int .i64 0, .int .i64 0] ∧
    FileAt W (w.heap.size + 7) (w.heap.size + 1 + 1) sec ls ∧ Below w.heap.size w W
def HX (w : World) (c : Code) (pre : List PS) (W : World) : Prop :=
  c = .ret ∧ ∃ e i : Nat, (∀ rest, foldL [] [] (pre ++ rest) = ([], e, i)) ∧ Blk W w.heap.size 23 #[.slice none 0 0] ∧ Blk W (w.heap.size + 1) 26 #[.int .i64 e, .int .i64 i] ∧ Below w.heap.size w W
theorem HI.turn {w X Y : World} {k : Nat} {pre : List PS} (h : HI w pre X) (hy : X.grownBy Y (some k)) (h1 : w.heap.size + 4 ≤ k) (h2 : k < w.heap.size + 7) : HI w pre Y := by
  obtain ⟨sec, ls, a1, a2, a3, a4, ⟨A, n, c, a5, a6⟩, a7⟩ := h
  have f : ∀ i, i < w.heap.size + 4 → some i ≠ some k := fun i hi e => by injection e with e; omega
  refine ⟨sec, ls, a1, a2, a3.grown hy (f _ (by omega)), a4.grown hy (f _ (by omega)), ⟨A, n, c, a5.grown hy (f _ (by omega)), own_grown a6 hy h2⟩, ?_⟩
  exact ⟨hy.os.trans a7.os, hy.tape.trans a7.tape, hy.output.trans a7.output, Nat.le_trans a7.size hy.size, fun i hi => (hy.block i (by have := a7.size; omega) (f i (by omega))).trans (a7.block i hi)⟩
theorem HX.turn {w X Y : World} {k : Nat} {c : Code} {pre : List PS} (h : HX w c pre X) (hy : X.grownBy Y (some k)) (h1 : w.heap.size + 4 ≤ k) : HX w c pre Y := by
  obtain ⟨hc, e, i, a1, a3, a4, a7⟩ := h
  have f : ∀ i, i < w.heap.size + 4 → some i ≠ some k := fun i hi e => by injection e with e; omega
  refine ⟨hc, e, i, a1, a3.grown hy (f _ (by omega)), a4.grown hy (f _ (by omega)), ?_⟩
  exact ⟨hy.os.trans a7.os, hy.tape.trans a7.tape, hy.output.trans a7.output, Nat.le_trans a7.size hy.size, fun i hi => (hy.block i (by have := a7.size; omega) (f i (by omega))).trans (a7.block i hi)⟩
theorem boxes4 (w : World) (s : ByteArray) (W0 : World)
    (hW : W0 = (((w.alloc (.cells #[.slice none 0 0] 23)).alloc (.cells #[.int .i64 0, .int .i64 0] 26)).alloc (.cells #[.string ⟨#[]⟩, .slice none 0 0] 40)).alloc (.cells #[.string s] 9)) :
    Below w.heap.size w W0 ∧ Blk W0 w.heap.size 23 #[.slice none 0 0] ∧ Blk W0 (w.heap.size + 1) 26 #[.int .i64 0, .int .i64 0] ∧ Blk W0 (w.heap.size + 1 + 1) 40 #[.string ⟨#[]⟩, .slice none 0 0] ∧ Blk W0 (w.heap.size + 1 + 1 + 1) 9 #[.string s] ∧ W0.heap.size = w.heap.size + 1 + 1 + 1 + 1 := by
  subst hW
  have a0 := Blk.new w 23 #[.slice none 0 0]
  have z0 := World.size_alloc w (.cells #[.slice none 0 0] 23)
  have b0 : Below w.heap.size w _ := (Below.refl _ w).alloc (Nat.le_refl _) (.cells #[.slice none 0 0] 23)
  generalize w.alloc (.cells #[.slice none 0 0] 23) = w0 at *
  have a1 := Blk.new w0 26 #[.int .i64 0, .int .i64 0]
  have z1 := World.size_alloc w0 (.cells #[.int .i64 0, .int .i64 0] 26)
  have b1 := b0.alloc (by omega) (.cells #[.int .i64 0, .int .i64 0] 26)
  replace a0 := a0.alloc (.cells #[.int .i64 0, .int .i64 0] 26)
  generalize w0.alloc (.cells #[.int .i64 0, .int .i64 0] 26) = w1 at *
  have a2 := Blk.new w1 40 #[.string ⟨#[]⟩, .slice none 0 0]
  have z2 := World.size_alloc w1 (.cells #[.string ⟨#[]⟩, .slice none 0 0] 40)
  have b2 := b1.alloc (by omega) (.cells #[.string ⟨#[]⟩, .slice none 0 0] 40)
  replace a0 := a0.alloc (.cells #[.string ⟨#[]⟩, .slice none 0 0] 40)
  replace a1 := a1.alloc (.cells #[.string ⟨#[]⟩, .slice none 0 0] 40)
  generalize w1.alloc (.cells #[.string ⟨#[]⟩, .slice none 0 0] 40) = w2 at *
  have a3 := Blk.new w2 9 #[.string s]
  have z3 := World.size_alloc w2 (.cells #[.string s] 9)
  have b3 := b2.alloc (by omega) (.cells #[.string s] 9)
  replace a0 := a0.alloc (.cells #[.string s] 9)
  replace a1 := a1.alloc (.cells #[.string s] 9)
  replace a2 := a2.alloc (.cells #[.string s] 9)
  rw [z0] at a1 z1
  rw [z1] at a2 z2
  rw [z2] at a3 z3
  exact ⟨b3, a0, a1, a2, a3, z3⟩
theorem mach_sizes {s : ByteArray} (hs : s.size ≤ 20000) : (machL 1 none (rowsOf s.data.toList)).length ≤ 20001 ∧ ∀ x ∈ machL 1 none (rowsOf s.data.toList), x.1.length ≤ 20001 := by
  have h1 := mach_cost (splitL 10 s.data.toList) 1 none
  have h2 := sgo_cost 10 s.data.toList []
  rw [mach_rowsOf] at h1
  have h3 : costR (splitL 10 s.data.toList) = s.size + 1 := by unfold splitL; rw [h2, size_list]; simp
  rw [h3] at h1
  simp only at h1
  have key : ∀ ws : List PS, ws.length ≤ costW ws ∧ ∀ x ∈ ws, x.1.length ≤ costW ws := by
    intro ws
    induction ws with
    | nil => exact ⟨Nat.zero_le _, fun x hx => by cases hx⟩
    | cons p ws ih =>
      have e : costW (p :: ws) = p.1.length + 1 + costW ws := by simp [costW]
      rw [e]
      refine ⟨by rw [List.length_cons]; omega, fun x hx => ?_⟩
      rcases List.mem_cons.1 hx with rfl | hx
      · omega
      · have := ih.2 x hx; omega
  obtain ⟨k1, k2⟩ := key (machL 1 none (rowsOf s.data.toList))
  exact ⟨by omega, fun x hx => by have := k2 x hx; omega⟩
theorem parse_eq {s : ByteArray} (hs : s.size ≤ 20000) : parseT s.data.toList = foldL [] [] (machL 1 none (rowsOf s.data.toList)) := by
  unfold parseT
  rw [if_neg (by rw [size_list]; omega), mach_rowsOf]
theorem results_slice_agg {P : Program} {fn : Func} {p q : Tmp} {ty1 ty2 : TypeId} (h : fn.results = #[.cell p ty1, .cell q ty2]) (tmps : Array Value) (w : World) (g1 g2 : Nat) (t : TypeId) (cs : Array Value) (el : TypeId) (d : TypeDesc) (v : Value)
    (hp : tmps.getD p undef = .pointer (some ⟨g1, 0, none⟩)) (hq : tmps.getD q undef = .pointer (some ⟨g2, 0, none⟩)) (hu1 : P.underlying ty1 = some (.slice el)) (hv : w.cell? ⟨g1, 0, none⟩ = some v)
    (hg : w.heap[g2]? = some (.cells cs t (0, 0))) (hu : P.underlying ty2 = some d) (hd : (match d with | .struct _ | .array _ _ => true | _ => false) = true) (hi : (P.info? ty2).map (·.size) = some cs.size) :
    (results fn tmps).run P w = .ok (.tuple #[v, .agg cs]) w := by
  have hp' : tmps[p]?.getD undef = .pointer (some ⟨g1, 0, none⟩) := by simpa using hp
  have hq' : tmps[q]?.getD undef = .pointer (some ⟨g2, 0, none⟩) := by simpa using hq
  have h1 : (loadVar ty1 ⟨g1, 0, none⟩).run P w = .ok v w := by
    simp [loadVar, isAgg, run_underlying hu1, go_sem, hv]
  simp [results, h, hp', hq', asAddr, h1, run_loadVar_row w g2 t ty2 cs (0, 0) d hg hu hd hi]
set_option maxRecDepth 100000 in
set_option maxHeartbeats 8000000 in
theorem Parse_long (s : ByteArray) (hs : 20000 < s.size) (w : World) :
    Calls Tryd.prog 11 #[.string s] w (ParseP s w) := by
  have hp : parseT s.data.toList = ([], 2, 0) := by
    unfold parseT
    rw [if_pos (by rw [size_list]; exact hs)]
  unfold ParseP
  rw [hp]
  clear hp
  have i1 : (20000 : Int) < (s.size : Int) := by omega
  go_enter Tryd.func11, Tryd.ntmps11
  go_wp2_with fail
  refine bodyPost_ret (v := .tuple #[.slice none 0 0, .agg #[.int .i64 2, .int .i64 0]]) (by simp [results, Tryd.f11, go_sem]) rfl ?_
  exact ⟨none, 0, 0, rfl, LnsAt.none_, ((Below.refl _ w).alloc (Nat.le_refl _) _).alloc (by simp) _⟩
theorem TurnF.kept {base F M : Nat} {W w1 : World} (h : TurnF base F W w1) (hF : F < M) (hb : M + 3 ≤ base) : Kept M (M + 3) W w1 := fun i h1 h2 => h.block i (by omega) (by omega)
theorem TurnF.low {base F B : Nat} {w W w1 : World} (h : TurnF base F W w1) (hb : Below B w W) (hF : B ≤ F) (hB : B ≤ base) : Below B w w1 :=
  ⟨h.os.trans hb.os, h.tape.trans hb.tape, h.output.trans hb.output, Nat.le_trans hb.size h.size, fun i hi => (h.block i (by omega) (by omega)).trans (hb.block i hi)⟩
theorem Kept.set {C D : Nat} {W : World} {a : Addr} {u : Value} (h : a.block < C) : Kept C D W (W.setCell a u) := fun i hC _ => Below.heap_setCell W a u i (by omega)
set_option maxRecDepth 100000 in
set_option maxHeartbeats 8000000 in
theorem Parse_short (s : ByteArray) (hs : s.size ≤ 20000) (w : World) :
    Calls Tryd.prog 11 #[.string s] w (ParseP s w) := by
  have i1 : (s.size : Int) ≤ 20000 := by omega
  refine (callsIn_wide (n := 9)).1 ?_
  refine callsIn_of_wp_marks Tryd.func11 rfl trivial ?_ rfl
  simp only [Tryd.ntmps11, List.size_toArray, List.length_cons, List.length_nil, Nat.reduceAdd, Nat.reduceSub, Array.replicate_succ, Array.replicate_zero, List.push_toArray, List.append_toArray, List.nil_append, List.cons_append]
  have i0 : decide ((20000 : Int) < (s.size : Int)) = false := by simp; omega
  gi_wp2_with (refine ⟨trivial, ?_⟩; gi_at_call 20; refine (callsIn_wide.2 (logical_any _ _)).mono ?_; rintro e w' ⟨rfl, rfl⟩)
  obtain ⟨hB0, hR0, hR1, hF0, hT0, hZ0⟩ := boxes4 w s _ rfl
  have hI0 : HI w [] ((((w.alloc (.cells #[.slice none 0 0] 23)).alloc (.cells #[.int .i64 0, .int .i64 0] 26)).alloc (.cells #[.string ⟨#[]⟩, .slice none 0 0] 40)).alloc (.cells #[.string s] 9)) :=
    ⟨[], [], fun _ => rfl, Nat.le_refl _, hR0, hR1, ⟨none, 0, 0, hF0, World.ownsRow_nil _ _ _ _⟩, hB0⟩
  generalize (((w.alloc (.cells #[.slice none 0 0] 23)).alloc (.cells #[.int .i64 0, .int .i64 0] 26)).alloc (.cells #[.string ⟨#[]⟩, .slice none 0 0] 40)).alloc (.cells #[.string s] 9) = W0 at *
  obtain ⟨hml, hms⟩ := mach_sizes hs
  have HPE := Lib.hid (parse_eq hs)
  clear hB0 hR0 hR1 hF0
  refine range_two rfl (by omega) rfl trivial (enters_of Tryd.func29 (by kernel_rfl) rfl)
    (lines_seq _ (by omega) s hs W0 (w.heap.size + 1 + 1 + 1) hT0) (HI w) (HX w) (fun _ _ _ k h1 h2 hy h => h.turn hy (by omega) (by omega)) (fun _ _ _ _ k h1 h2 hy h => h.turn hy (by omega)) hI0
    (fun x => { tmps := #[.string s, undef, .pointer (some ⟨w.heap.size, 0, none⟩), .pointer (some ⟨w.heap.size + 1, 0, none⟩), .pointer (some ⟨w.heap.size + 1 + 1, 0, none⟩), .int .i64 x.2, .string (str x.1), undef, .string s, .int .i64 s.size, .bool false, undef, .string s, .func (.func 29) #[] #[.pointer (some ⟨w.heap.size + 1 + 1 + 1, 0, none⟩)], .int .i64 x.2, .string (str x.1), undef, undef, undef, undef, undef, undef, undef, undef, undef, undef, undef], defers := [] }) ?assign ?body ?done ?stop
  case assign =>
    intro l x W K hK
    gi_wp2
    exact hK
  case body =>
    rintro l pre x post W hxs hI hD
    have hx : x.1.length ≤ 20001 := hms x (by rw [hxs]; simp)
    have hpl : pre.length ≤ 20001 := by rw [hxs, List.length_append] at hml; omega
    obtain ⟨sec, ls, hfold, hll, h0, h1, hf, hb⟩ := hI
    have hwz : w.heap.size + 7 ≤ W.heap.size := by omega
    have hadd : Calls Tryd.prog 21 #[.pointer (some ⟨w.heap.size + 1 + 1, 0, none⟩), .int .i64 x.2, .string (str x.1)] W (AddP (w.heap.size + 7) (w.heap.size + 1 + 1) sec ls x.2 (lineL sec x.1) W) :=
      add_any (w.heap.size + 7) (w.heap.size + 1 + 1) sec ls x.2 (str x.1) (by rw [str_size]; omega) W hf (by omega) hwz (by omega)
    have HFO := Lib.hid hfold
    have H0 := Lib.hid h0
    have H1 := Lib.hid h1
    have HB := Lib.hid hb
    clear hfold h0 h1 hb hf hxs
    cases hst : lineL sec x.1 with
    | bad c =>
      rw [hst] at hadd
      have HA := hide hadd
      have HN : Hid (∀ rest, foldL [] [] ((pre ++ [x]) ++ rest) = ([], c, x.2)) := by
        show ∀ _, _
        intro rest
        rw [List.append_assoc, HFO.out, List.singleton_append, foldL, hst]
      clear hadd hst
      gi_wp2_with (refine ⟨trivial, ?_⟩; gi_at_call 21; refine (CallsIn.inRound l (callsIn_wide.2 HA.out)).mono ?_; rintro e w1 ⟨ht1, rfl, hc0⟩; have hne : ((c : Int) != 0) = true := (by rw [bne_iff_ne]; omega); have H0a := Lib.hid (H0.out.same (ht1.block _ (by omega) (by omega))); have H1a := Lib.hid (H1.out.same (ht1.block _ (by omega) (by omega))); have HTa := Lib.hid ht1; have c0 : w1.cell? ⟨w.heap.size, 0, none⟩ = some (.slice none 0 0) := H0a.out.cell 0; have f0 : w1.frozen? ⟨w.heap.size, 0, none⟩ = false := H0a.out.frozen 0; have d0 : w1.cell? ⟨w.heap.size + 1, 0, none⟩ = some (.int .i64 0) := H1a.out.cell 0; have d1 : w1.cell? ⟨w.heap.size + 1, 1, none⟩ = some (.int .i64 0) := H1a.out.cell 1; have g0 : w1.frozen? ⟨w.heap.size + 1, 0, none⟩ = false := H1a.out.frozen 0; have g1 : w1.frozen? ⟨w.heap.size + 1, 1, none⟩ = false := H1a.out.frozen 1; clear ht1)
      refine ⟨?_, rfl, c, x.2, HN.out, ?_, ?_, ?_⟩
      · exact (((HTa.out.kept (by omega) (by omega)).trans (Kept.set (by show w.heap.size < _; omega))).trans (Kept.set (by show w.heap.size + 1 < _; omega))).trans (Kept.set (by show w.heap.size + 1 < _; omega))
      · exact ((H0a.out.setCell 0 (.slice none 0 0)).setOther (a := ⟨w.heap.size + 1, 0, none⟩) (by simp) _).setOther (a := ⟨w.heap.size + 1, 1, none⟩) (by simp) _
      · exact ((H1a.out.setOther (a := ⟨w.heap.size, 0, none⟩) (by simp) _).setCell 0 (.int .i64 c)).setCell 1 (.int .i64 x.2)
      · exact (((HTa.out.low HB.out (by omega) (by omega)).setCell (p := ⟨w.heap.size, 0, none⟩) (Nat.le_refl _) _).setCell (p := ⟨w.heap.size + 1, 0, none⟩) (by show w.heap.size ≤ w.heap.size + 1; omega) _).setCell (p := ⟨w.heap.size + 1, 1, none⟩) (by show w.heap.size ≤ w.heap.size + 1; omega) _
    | skip =>
      rw [hst] at hadd
      have HA := hide hadd
      have HN : Hid (∀ rest, foldL [] [] ((pre ++ [x]) ++ rest) = foldL sec ls rest) := by
        show ∀ _, _
        intro rest
        rw [List.append_assoc, HFO.out, List.singleton_append, foldL, hst]
      clear hadd hst
      gi_wp2_with (refine ⟨trivial, ?_⟩; gi_at_call 21; refine (CallsIn.inRound l (callsIn_wide.2 HA.out)).mono ?_; rintro e w1 ⟨ht1, rfl, hf1⟩; have HF1 := Lib.hid hf1; have HTa := Lib.hid ht1; clear ht1 hf1)
      exact ⟨HTa.out.kept (by omega) (by omega), sec, ls, HN.out, by simp; omega, H0.out.same (HTa.out.block _ (by omega) (by omega)), H1.out.same (HTa.out.block _ (by omega) (by omega)), HF1.out, HTa.out.low HB.out (by omega) (by omega)⟩
    | sect s' =>
      rw [hst] at hadd
      have HA := hide hadd
      have HN : Hid (∀ rest, foldL [] [] ((pre ++ [x]) ++ rest) = foldL s' ls rest) := by
        show ∀ _, _
        intro rest
        rw [List.append_assoc, HFO.out, List.singleton_append, foldL, hst]
      clear hadd hst
      gi_wp2_with (refine ⟨trivial, ?_⟩; gi_at_call 21; refine (CallsIn.inRound l (callsIn_wide.2 HA.out)).mono ?_; rintro e w1 ⟨ht1, rfl, hf1⟩; have HF1 := Lib.hid hf1; have HTa := Lib.hid ht1; clear ht1 hf1)
      exact ⟨HTa.out.kept (by omega) (by omega), s', ls, HN.out, by simp; omega, H0.out.same (HTa.out.block _ (by omega) (by omega)), H1.out.same (HTa.out.block _ (by omega) (by omega)), HF1.out, HTa.out.low HB.out (by omega) (by omega)⟩
    | line k v =>
      rw [hst] at hadd
      have HA := hide hadd
      have HN : Hid (∀ rest, foldL [] [] ((pre ++ [x]) ++ rest) = foldL sec (ls ++ [⟨sec, k, v, x.2⟩]) rest) := by
        show ∀ _, _
        intro rest
        rw [List.append_assoc, HFO.out, List.singleton_append, foldL, hst]
      clear hadd hst
      gi_wp2_with (refine ⟨trivial, ?_⟩; gi_at_call 21; refine (CallsIn.inRound l (callsIn_wide.2 HA.out)).mono ?_; rintro e w1 ⟨ht1, rfl, hf1⟩; have HF1 := Lib.hid hf1; have HTa := Lib.hid ht1; clear ht1 hf1)
      exact ⟨HTa.out.kept (by omega) (by omega), sec, ls ++ [⟨sec, k, v, x.2⟩], HN.out, by simp; omega, H0.out.same (HTa.out.block _ (by omega) (by omega)), H1.out.same (HTa.out.block _ (by omega) (by omega)), HF1.out, HTa.out.low HB.out (by omega) (by omega)⟩
  case done =>
    rintro M W hM1 hM2 ⟨sec, ls, hfold, hll, h0, h1, ⟨A, n, c, hf, ho⟩, hb⟩ hK
    have hfold0 := hfold []
    rw [List.append_nil, foldL] at hfold0
    have HFO := Lib.hid (HPE.out.trans hfold0)
    have c0 : W.cell? ⟨w.heap.size, 0, none⟩ = some (.slice none 0 0) := h0.cell 0
    have f0 : W.frozen? ⟨w.heap.size, 0, none⟩ = false := h0.frozen 0
    have d0 : W.cell? ⟨w.heap.size + 1, 0, none⟩ = some (.int .i64 0) := h1.cell 0
    have d1 : W.cell? ⟨w.heap.size + 1, 1, none⟩ = some (.int .i64 0) := h1.cell 1
    have g0 : W.frozen? ⟨w.heap.size + 1, 0, none⟩ = false := h1.frozen 0
    have g1 : W.frozen? ⟨w.heap.size + 1, 1, none⟩ = false := h1.frozen 1
    have c1 : W.cell? ⟨w.heap.size + 1 + 1, 1, none⟩ = some (.slice A n c) := hf.cell 1
    have HO := Lib.hid ho
    have H0 := Lib.hid h0
    have H1 := Lib.hid h1
    have HB := Lib.hid hb
    have HK := Lib.hid hK
    clear hfold hfold0 h0 h1 hf ho hb hK
    gi_wp2
    have HZ0 : Hid (Blk (((W.setCell ⟨w.heap.size, 0, none⟩ (.slice A n c)).setCell ⟨w.heap.size + 1, 0, none⟩ (.int .i64 0)).setCell ⟨w.heap.size + 1, 1, none⟩ (.int .i64 0)) w.heap.size 23 #[.slice A n c]) := ((H0.out.setCell 0 (.slice A n c)).setOther (a := ⟨w.heap.size + 1, 0, none⟩) (by simp) _).setOther (a := ⟨w.heap.size + 1, 1, none⟩) (by simp) _
    have HZ1 : Hid (Blk (((W.setCell ⟨w.heap.size, 0, none⟩ (.slice A n c)).setCell ⟨w.heap.size + 1, 0, none⟩ (.int .i64 0)).setCell ⟨w.heap.size + 1, 1, none⟩ (.int .i64 0)) (w.heap.size + 1) 26 #[.int .i64 0, .int .i64 0]) := ((H1.out.setOther (a := ⟨w.heap.size, 0, none⟩) (by simp) _).setCell 0 (.int .i64 0)).setCell 1 (.int .i64 0)
    have HZO : Hid ((((W.setCell ⟨w.heap.size, 0, none⟩ (.slice A n c)).setCell ⟨w.heap.size + 1, 0, none⟩ (.int .i64 0)).setCell ⟨w.heap.size + 1, 1, none⟩ (.int .i64 0)).ownsRow (w.heap.size + 7) 34 4 (.slice A n c) ls.length (lns ls)) := own_set (own_set (own_set HO.out (by show w.heap.size < _; omega)) (by show w.heap.size + 1 < _; omega)) (by show w.heap.size + 1 < _; omega)
    have HZK : Hid ((((W.setCell ⟨w.heap.size, 0, none⟩ (.slice A n c)).setCell ⟨w.heap.size + 1, 0, none⟩ (.int .i64 0)).setCell ⟨w.heap.size + 1, 1, none⟩ (.int .i64 0)).heap[M]? = some (.deferred (some []))) := (Below.heap_setCell _ ⟨w.heap.size + 1, 1, none⟩ _ M (by show M ≠ w.heap.size + 1; omega)).trans ((Below.heap_setCell _ ⟨w.heap.size + 1, 0, none⟩ _ M (by show M ≠ w.heap.size + 1; omega)).trans ((Below.heap_setCell W ⟨w.heap.size, 0, none⟩ _ M (by show M ≠ w.heap.size; omega)).trans HK.out))
    have HZB : Hid (Below w.heap.size w (((W.setCell ⟨w.heap.size, 0, none⟩ (.slice A n c)).setCell ⟨w.heap.size + 1, 0, none⟩ (.int .i64 0)).setCell ⟨w.heap.size + 1, 1, none⟩ (.int .i64 0))) := ((HB.out.setCell (p := ⟨w.heap.size, 0, none⟩) (Nat.le_refl _) _).setCell (p := ⟨w.heap.size + 1, 0, none⟩) (by show w.heap.size ≤ w.heap.size + 1; omega) _).setCell (p := ⟨w.heap.size + 1, 1, none⟩) (by show w.heap.size ≤ w.heap.size + 1; omega) _
    generalize ((W.setCell ⟨w.heap.size, 0, none⟩ (.slice A n c)).setCell ⟨w.heap.size + 1, 0, none⟩ (.int .i64 0)).setCell ⟨w.heap.size + 1, 1, none⟩ (.int .i64 0) = Wz at *
    refine ⟨by simp, .inl ⟨_, _, rfl, run_takeDeferred (w := Wz) HZK.out, ?_⟩⟩
    have b0 : Blk (Wz.putObj M (.deferred none)) w.heap.size 23 #[.slice A n c] := HZ0.out.grown (grown_put Wz M _) (by intro e; injection e with e; omega)
    have b1 : Blk (Wz.putObj M (.deferred none)) (w.heap.size + 1) 26 #[.int .i64 0, .int .i64 0] := HZ1.out.grown (grown_put Wz M _) (by intro e; injection e with e; omega)
    have bo := own_grown HZO.out (grown_put Wz M (.deferred none)) (by omega)
    obtain ⟨rfl, hL⟩ := lnsAt_of_own bo rfl (by unfold maxLen; omega)
    refine ⟨.tuple #[.slice A ls.length c, .agg #[.int .i64 0, .int .i64 0]], results_slice_agg rfl _ _ w.heap.size (w.heap.size + 1) _ _ _ _ _ rfl rfl Tryd.underlying23 (b0.cell 0) b1 Tryd.underlying26 rfl (by kernel_rfl), A, ls.length, c, ?_, ?_, HZB.out.trans (below_put _ _ _ (by omega))⟩
    · rw [HFO.out]; rfl
    · rw [HFO.out]; exact hL
  case stop =>
    rintro M c pre W hM1 hM2 hpre ⟨rfl, e, i, hfold, h0, h1, hb⟩ hK
    have HFO : Hid (parseT s.data.toList = ([], e, i)) := by
      show _ = _
      obtain ⟨post, hp⟩ := hpre
      rw [HPE.out, ← hp, hfold]
    gi_wp2
    refine ⟨by simp, .inl ⟨_, _, rfl, run_takeDeferred (w := W) hK, ?_⟩⟩
    have b0 : Blk (W.putObj M (.deferred none)) w.heap.size 23 #[.slice none 0 0] := h0.grown (grown_put W M _) (by intro e; injection e with e; omega)
    have b1 : Blk (W.putObj M (.deferred none)) (w.heap.size + 1) 26 #[.int .i64 e, .int .i64 i] := h1.grown (grown_put W M _) (by intro e; injection e with e; omega)
    refine ⟨.tuple #[.slice none 0 0, .agg #[.int .i64 e, .int .i64 i]], results_slice_agg rfl _ _ w.heap.size (w.heap.size + 1) _ _ _ _ _ rfl rfl Tryd.underlying23 (b0.cell 0) b1 Tryd.underlying26 rfl (by kernel_rfl), none, 0, 0, ?_, ?_, hb.trans (below_put _ _ _ (by omega))⟩
    · rw [HFO.out]
    · rw [HFO.out]; exact LnsAt.none_
theorem Parse_any (s : ByteArray) (w : World) : Calls Tryd.prog 11 #[.string s] w (ParseP s w) := by
  by_cases h : s.size ≤ 20000
  · exact Parse_short s h w
  · exact Parse_long s (by omega) w
end Go.Proofs.YthgpocbmkmmecaaDoor
