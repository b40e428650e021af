/- The walk of the document's Links. The walk of the document's Drops. The walk of the document's Find. The walk of the law -/
import Derived.Test.YthodbeeglkedcaaDsav
import Derived.Laws.OwnMore
namespace Go.Proofs.Ythodbeeglkedcaa
open Go.RowKit
theorem addGo_len (s : List UInt8) (put : Bool) (l : List (List UInt8)) : (addGo s put l).length ≤ l.length + (if put = true then 0 else 1) := by
  induction l generalizing put with
  | nil => cases put <;> simp [addGo]
  | cons y l ih =>
    rw [addGo, List.length_append, List.length_append]
    by_cases h : s < y ∨ s = y
    · have := ih true
      have e : (put || decide (s < y ∨ s = y)) = true := by simp [h]
      rw [e]
      simp at this
      cases put <;> simp [h] <;> split <;> simp <;> omega
    · have := ih put
      have e : (put || decide (s < y ∨ s = y)) = put := by simp [h]
      rw [e]
      cases put <;> simp [h] at this ⊢ <;> split <;> simp <;> omega
theorem addL_len (l : List (List UInt8)) (s : List UInt8) : (addL l s).length ≤ l.length + 1 := addGo_len s false l
def qL (k : Int) (u : List UInt8) (w : Wy) : Bool := decide (w.k = k) && decide (w.u = u)
theorem links_q {k : Int} {l : List Fi} {u : List UInt8} (h : mayL nmsP l = true) : linksL nmsP k l u = takeL (qL k u) nmsP [] l := by
  unfold linksL
  rw [if_pos h]
  rfl
theorem links_no {k : Int} {l : List Fi} {u : List UInt8} (h : mayL nmsP l = false) : linksL nmsP k l u = [] := by
  unfold linksL
  rw [if_neg (by rw [h]; simp)]
theorem takeL_len (q : Wy → Bool) (l : List Fi) (a : List (List UInt8)) : (takeL q nmsP a l).length ≤ a.length + l.length := by
  induction l generalizing a with
  | nil => simp [takeL]
  | cons f l ih =>
    have e : takeL q nmsP a (f :: l) = takeL q nmsP (if q (pathW nmsP f.p) = true then addL a (pathW nmsP f.p).o else a) l := rfl
    rw [e]
    have h1 := ih (if q (pathW nmsP f.p) = true then addL a (pathW nmsP f.p).o else a)
    have h2 : (if q (pathW nmsP f.p) = true then addL a (pathW nmsP f.p).o else a).length ≤ a.length + 1 := by
      split
      · exact addL_len _ _
      · omega
    rw [List.length_cons]
    omega
theorem takeL_succ {q : Wy → Bool} {l : List Fi} {k : Nat} {x : Fi} (hx : l[k]? = some x) : takeL q nmsP [] (l.take (k + 1)) = if q (pathW nmsP x.p) = true then addL (takeL q nmsP [] (l.take k)) (pathW nmsP x.p).o else takeL q nmsP [] (l.take k) := by
  rw [(take_one hx).2]
  unfold takeL
  rw [List.foldl_append]
  rfl
def RowOut (w' : World) (v : Value) (l : List (List UInt8)) : Prop := ∃ A c, v = .slice A l.length c ∧ RowAt w' w'.heap.size A l.length l
theorem rowOut_nil (w : World) : RowOut w (.slice none 0 0) [] := ⟨none, 0, rfl, RowAt.none_⟩
def LinksP (l : List Fi) (u : List UInt8) (w : World) (e : Ending) (w' : World) : Prop := ∃ v1 v2, e = .returned (.tuple #[v1, v2]) ∧ RowOut w' v1 (linksL nmsP 3 l u) ∧ RowOut w' v2 (linksL nmsP 4 l u) ∧ Below w.heap.size w w'
theorem addP_row {l : List (List UInt8)} {s : List UInt8} {w : World} {e : Ending} {w' : World} (h : AddPost l s w e w') (hl : l.length ≤ 1000000) : ∃ A c, e = .returned (.slice A (addL l s).length c) ∧ RowAt w' w'.heap.size A (addL l s).length (addL l s) ∧ Below w.heap.size w w' := by
  obtain ⟨v, rfl, ho, hb⟩ := h
  obtain ⟨A, c, rfl, hr⟩ := own_row ho (by unfold maxLen; have := addL_len l s; omega)
  exact ⟨A, c, rfl, hr, hb⟩
theorem path_short (x : Fi) (h : SizeF x) (W : World) : Calls Try.prog 19 #[.string (str x.p)] W fun e w' => e = .returned (.agg (wyA (pathW nmsP x.p))) ∧ Below W.heap.size W w' := by
  have := Path_any (str x.p) (by rw [str_size]; exact h.1) W
  unfold PathP at this
  rw [str_list] at this
  exact this
set_option maxHeartbeats 8000000 in
theorem Links_any (A : Option Addr) (n c B : Nat) (l : List Fi) (u : ByteArray) (w : World) (h : FisAt w B A n l) (hB : B ≤ w.heap.size) (hs : ∀ x ∈ l, SizeF x) :
    Calls Try.prog 11 #[.slice A n c, .string u] w (LinksP l u.data.toList w) := by
  have hl := h.1
  have HL := Lib.hid h
  have HS := Lib.hid hs
  have HM := Lib.hid (May_any A n c B l w h hB hs)
  clear h hs
  unfold LinksP
  rcases hm : mayL nmsP l with _ | _
  · have H3 := Lib.hid (links_no (k := 3) (u := u.data.toList) hm)
    have H4 := Lib.hid (links_no (k := 4) (u := u.data.toList) hm)
    rw [hm] at HM
    clear hm
    go_enter Try.func11, Try.ntmps11
    go_wp2_with fail
    refine HM.out.mono ?_
    rintro e w1 ⟨rfl, hb1⟩
    go_wp2_with fail
    go_ret2
    exact ⟨_, _, rfl, by rw [H3.out]; exact rowOut_nil _, by rw [H4.out]; exact rowOut_nil _, hb1⟩
  have hn : n ≤ 120 := by have := (may_parts.1 hm).1; omega
  have H3 := Lib.hid (links_q (k := 3) (u := u.data.toList) hm)
  have H4 := Lib.hid (links_q (k := 4) (u := u.data.toList) hm)
  rw [hm] at HM
  clear hm
  generalize hsl : u.data.toList = sl at *
  go_enter Try.func11, Try.ntmps11
  go_wp2_with fail
  refine HM.out.mono ?_
  rintro e w1 ⟨rfl, hb1⟩
  have HB1 := Lib.hid hb1
  have hs1 := hb1.size
  clear hb1 HM
  go_wp2_with fail
  go_loopw [6, 7, 16] (fun p q i wr => ∃ (k : Nat) (A1 A2 : Option Addr) (c1 c2 n1 n2 : Nat), k ≤ n ∧ n1 ≤ k ∧ n2 ≤ k ∧ i = .int .i64 k ∧ p = .slice A1 n1 c1 ∧ q = .slice A2 n2 c2 ∧ Hid (RowAt wr wr.heap.size A1 n1 (takeL (qL 3 sl) nmsP [] (l.take k))) ∧ Hid (RowAt wr wr.heap.size A2 n2 (takeL (qL 4 sl) nmsP [] (l.take k))) ∧ Hid (Below w.heap.size w wr)) (fun p q i wr => n - (intOf i).toNat)
  case atStart => exact ⟨0, none, none, 0, 0, 0, 0, Nat.zero_le _, Nat.le_refl _, Nat.le_refl _, rfl, rfl, rfl, RowAt.none_, RowAt.none_, HB1⟩
  case round =>
    obtain ⟨k, A1, A2, c1, c2, n1, n2, hk, hn1, hn2, rfl, rfl, rfl, hR1, hR2, hb⟩ := hrel
    have hbs := hb.out.size
    by_cases hlt : k < n
    · have b0 : (0 : Int) ≤ (k : Int) := by omega
      have b1 : (k : Int) < (n : Int) := by omega
      obtain ⟨ad, x, rfl, hab, hx, q0, q1, q2⟩ := (HL.out.below (hb.out.mono hB)).at_ hlt
      have z1 : (ad.add (k * 3)).block < wr.heap.size := by rw [block_addR]; omega
      have HP := Lib.hid (fun W => path_short x (HS.out x (List.mem_of_getElem? hx)) W)
      have HT3 := Lib.hid (takeL_succ (q := qL 3 sl) hx)
      have HT4 := Lib.hid (takeL_succ (q := qL 4 sl) hx)
      obtain ⟨y, hy⟩ : ∃ y, pathW nmsP x.p = y := ⟨_, rfl⟩
      rw [hy] at HP HT3 HT4
      clear hx hy
      have hR1f : Hid (RowAt (wr.alloc (.cells #[.string (str x.p), .string (str x.t), .string (str x.l)] 38)) (wr.alloc (.cells #[.string (str x.p), .string (str x.t), .string (str x.l)] 38)).heap.size A1 n1 (takeL (qL 3 sl) nmsP [] (l.take k))) := (hR1.out.below ((Below.refl _ wr).alloc (Nat.le_refl _) _)).wide (by simp)
      have hR2f : Hid (RowAt (wr.alloc (.cells #[.string (str x.p), .string (str x.t), .string (str x.l)] 38)) (wr.alloc (.cells #[.string (str x.p), .string (str x.t), .string (str x.l)] 38)).heap.size A2 n2 (takeL (qL 4 sl) nmsP [] (l.take k))) := (hR2.out.below ((Below.refl _ wr).alloc (Nat.le_refl _) _)).wide (by simp)
      have hbf : Hid (Below w.heap.size w (wr.alloc (.cells #[.string (str x.p), .string (str x.t), .string (str x.l)] 38))) := hb.out.alloc hbs _
      go_wp2_with fail
      generalize wr.alloc (.cells #[.string (str x.p), .string (str x.t), .string (str x.l)] 38) = wf at *
      refine (HP.out _).mono ?_
      rintro e2 w2 ⟨rfl, hb2⟩
      have hR1p := Lib.hid ((hR1f.out.below hb2).wide hb2.size)
      have hR2p := Lib.hid ((hR2f.out.below hb2).wide hb2.size)
      have hbp := Lib.hid (more3 hbf.out hbf.out.size hb2)
      have hR1w : Hid (RowAt (w2.alloc (.cells #[.int .i64 y.k, .string (str y.pl), .string (str y.u), .string (str y.o)] 45)) (w2.alloc (.cells #[.int .i64 y.k, .string (str y.pl), .string (str y.u), .string (str y.o)] 45)).heap.size A1 n1 (takeL (qL 3 sl) nmsP [] (l.take k))) := (hR1p.out.below ((Below.refl _ w2).alloc (Nat.le_refl _) _)).wide (by simp)
      have hR2w : Hid (RowAt (w2.alloc (.cells #[.int .i64 y.k, .string (str y.pl), .string (str y.u), .string (str y.o)] 45)) (w2.alloc (.cells #[.int .i64 y.k, .string (str y.pl), .string (str y.u), .string (str y.o)] 45)).heap.size A2 n2 (takeL (qL 4 sl) nmsP [] (l.take k))) := (hR2p.out.below ((Below.refl _ w2).alloc (Nat.le_refl _) _)).wide (by simp)
      have hbw : Hid (Below w.heap.size w (w2.alloc (.cells #[.int .i64 y.k, .string (str y.pl), .string (str y.u), .string (str y.o)] 45))) := hbp.out.alloc hbp.out.size _
      have hW : Hid (Blk (w2.alloc (.cells #[.int .i64 y.k, .string (str y.pl), .string (str y.u), .string (str y.o)] 45)) w2.heap.size 45 (wyA y)) := Blk.new w2 _ _
      have hk0 : (w2.alloc (.cells #[.int .i64 y.k, .string (str y.pl), .string (str y.u), .string (str y.o)] 45)).cell? ⟨w2.heap.size, 0, none⟩ = some (.int .i64 y.k) := hW.out.cell 0
      have hk2 : (w2.alloc (.cells #[.int .i64 y.k, .string (str y.pl), .string (str y.u), .string (str y.o)] 45)).cell? ⟨w2.heap.size, 2, none⟩ = some (.string (str y.u)) := hW.out.cell 2
      have hk3 : (w2.alloc (.cells #[.int .i64 y.k, .string (str y.pl), .string (str y.u), .string (str y.o)] 45)).cell? ⟨w2.heap.size, 3, none⟩ = some (.string (str y.o)) := hW.out.cell 3
      have hws : (w2.alloc (.cells #[.int .i64 y.k, .string (str y.pl), .string (str y.u), .string (str y.o)] 45)).heap.size = w2.heap.size + 1 := by simp
      clear hR1 hR2 hb hR1f hR2f hbf hR1p hR2p hbp hb2 HP q0 q1 q2
      rw [show wyA y = #[.int .i64 y.k, .string (str y.pl), .string (str y.u), .string (str y.o)] from rfl]
      have heu : ((str y.u).toList == u.toList) = decide (y.u = sl) := by rw [eq_strR, hsl]
      generalize takeL (qL 3 sl) nmsP [] (l.take k) = l1 at *
      generalize takeL (qL 4 sl) nmsP [] (l.take k) = l2 at *
      have hl1 : l1.length = n1 := hR1w.out.1
      have hl2 : l2.length = n2 := hR2w.out.1
      by_cases h3 : y.k = 3
      · have t3 : (y.k == 3) = true := by simp [h3]
        have t4 : (y.k == 4) = false := by simp [h3]
        have e2 : (if qL 4 sl y = true then addL l2 y.o else l2) = l2 := by rw [if_neg]; unfold qL; rw [decide_eq_false (by omega)]; simp
        by_cases hu : y.u = sl
        · have e1 : (if qL 3 sl y = true then addL l1 y.o else l1) = addL l1 y.o := by rw [if_pos]; unfold qL; rw [decide_eq_true h3, decide_eq_true hu]; rfl
          rw [decide_eq_true hu] at heu
          clear h3 hu
          go_wp2_with fail
          generalize w2.alloc (.cells #[.int .i64 y.k, .string (str y.pl), .string (str y.u), .string (str y.o)] 45) = ww at *
          have HA := Lib.hid (add_any A1 n1 c1 _ l1 (str y.o) ww hR1w.out (Nat.le_refl _) (by omega))
          refine HA.out.mono ?_
          rintro e3 w3 h3
          obtain ⟨A3, c3, rfl, hr3, hb3⟩ := addP_row h3 (by omega)
          rw [str_list] at hr3
          rw [str_list]
          have hR2z := Lib.hid ((hR2w.out.below hb3).wide hb3.size)
          have HBz := Lib.hid (more3 hbw.out hbw.out.size hb3)
          have hk03 : w3.cell? ⟨w2.heap.size, 0, none⟩ = some (.int .i64 y.k) := (hb3.cell (p := ⟨w2.heap.size, 0, none⟩) (by show w2.heap.size < _; omega)).trans hk0
          go_wp2_with fail
          go_roundw
          case rel => exact ⟨k + 1, A3, A2, c3, c2, _, n2, by omega, by have := addL_len l1 y.o; omega, by omega, by go_num, rfl, rfl, by rw [HT3.out, e1]; exact hr3, by rw [HT4.out, e2]; exact hR2z.out, HBz.out⟩
          case measure => simp [intOf]; omega
        · have e1 : (if qL 3 sl y = true then addL l1 y.o else l1) = l1 := by rw [if_neg]; unfold qL; rw [decide_eq_false hu]; simp
          rw [decide_eq_false hu] at heu
          clear h3 hu
          go_wp2_with fail
          generalize w2.alloc (.cells #[.int .i64 y.k, .string (str y.pl), .string (str y.u), .string (str y.o)] 45) = ww at *
          go_roundw
          case rel => exact ⟨k + 1, A1, A2, c1, c2, n1, n2, by omega, by omega, by omega, by go_num, rfl, rfl, by rw [HT3.out, e1]; exact hR1w.out, by rw [HT4.out, e2]; exact hR2w.out, hbw.out⟩
          case measure => simp [intOf]; omega
      · have t3 : (y.k == 3) = false := by simp [h3]
        have e1 : (if qL 3 sl y = true then addL l1 y.o else l1) = l1 := by rw [if_neg]; unfold qL; rw [decide_eq_false h3]; simp
        by_cases h4 : y.k = 4
        · have t4 : (y.k == 4) = true := by simp [h4]
          by_cases hu : y.u = sl
          · have e2 : (if qL 4 sl y = true then addL l2 y.o else l2) = addL l2 y.o := by rw [if_pos]; unfold qL; rw [decide_eq_true h4, decide_eq_true hu]; rfl
            rw [decide_eq_true hu] at heu
            clear h3 hu h4
            go_wp2_with fail
            generalize w2.alloc (.cells #[.int .i64 y.k, .string (str y.pl), .string (str y.u), .string (str y.o)] 45) = ww at *
            have HA := Lib.hid (add_any A2 n2 c2 _ l2 (str y.o) ww hR2w.out (Nat.le_refl _) (by omega))
            refine HA.out.mono ?_
            rintro e3 w3 h3
            obtain ⟨A3, c3, rfl, hr3, hb3⟩ := addP_row h3 (by omega)
            rw [str_list] at hr3
            rw [str_list]
            have hR1z := Lib.hid ((hR1w.out.below hb3).wide hb3.size)
            have HBz := Lib.hid (more3 hbw.out hbw.out.size hb3)
            have hk03 : w3.cell? ⟨w2.heap.size, 0, none⟩ = some (.int .i64 y.k) := (hb3.cell (p := ⟨w2.heap.size, 0, none⟩) (by show w2.heap.size < _; omega)).trans hk0
            go_wp2_with fail
            go_roundw
            case rel => exact ⟨k + 1, A1, A3, c1, c3, n1, _, by omega, by omega, by have := addL_len l2 y.o; omega, by go_num, rfl, rfl, by rw [HT3.out, e1]; exact hR1z.out, by rw [HT4.out, e2]; exact hr3, HBz.out⟩
            case measure => simp [intOf]; omega
          · have e2 : (if qL 4 sl y = true then addL l2 y.o else l2) = l2 := by rw [if_neg]; unfold qL; rw [decide_eq_false hu]; simp
            rw [decide_eq_false hu] at heu
            clear h3 hu h4
            go_wp2_with fail
            generalize w2.alloc (.cells #[.int .i64 y.k, .string (str y.pl), .string (str y.u), .string (str y.o)] 45) = ww at *
            go_roundw
            case rel => exact ⟨k + 1, A1, A2, c1, c2, n1, n2, by omega, by omega, by omega, by go_num, rfl, rfl, by rw [HT3.out, e1]; exact hR1w.out, by rw [HT4.out, e2]; exact hR2w.out, hbw.out⟩
            case measure => simp [intOf]; omega
        · have t4 : (y.k == 4) = false := by simp [h4]
          have e2 : (if qL 4 sl y = true then addL l2 y.o else l2) = l2 := by rw [if_neg]; unfold qL; rw [decide_eq_false h4]; simp
          clear h3 h4
          go_wp2_with fail
          generalize w2.alloc (.cells #[.int .i64 y.k, .string (str y.pl), .string (str y.u), .string (str y.o)] 45) = ww at *
          go_roundw
          case rel => exact ⟨k + 1, A1, A2, c1, c2, n1, n2, by omega, by omega, by omega, by go_num, rfl, rfl, by rw [HT3.out, e1]; exact hR1w.out, by rw [HT4.out, e2]; exact hR2w.out, hbw.out⟩
          case measure => simp [intOf]; omega
    · obtain rfl : k = n := by omega
      have hr1 := hR1.out.1
      have hr2 := hR2.out.1
      rw [List.take_of_length_le (by omega)] at hR1 hR2 hr1 hr2
      clear hlt
      go_wp2_with fail
      go_ret2
      exact ⟨_, _, rfl, by rw [H3.out, RowOut, hr1]; exact ⟨_, _, rfl, hR1.out⟩, by rw [H4.out, RowOut, hr2]; exact ⟨_, _, rfl, hR2.out⟩, hb.out⟩
end Go.Proofs.Ythodbeeglkedcaa
namespace Go.Proofs.Ythodbeeglkedcaa
open Go.RowKit
theorem tmpl_str (u : List UInt8) : str (nmsP.tmpl u) = Nm.tmplS (str u) := str_data (Nm.tmplS (str u))
theorem map_take {α β : Type} {l : List α} {k : Nat} {x : α} (f : α → β) (hx : l[k]? = some x) : (l.take (k + 1)).map f = (l.take k).map f ++ [f x] := by
  have hk : k < l.length := by
    rcases Nat.lt_or_ge k l.length with h' | h'
    · exact h'
    · rw [List.getElem?_eq_none h'] at hx; cases hx
  have he : l[k] = x := by rw [List.getElem?_eq_getElem hk] at hx; exact Option.some.inj hx
  rw [List.take_succ_eq_append_getElem hk, he, List.map_append]
  rfl
def RowNew (B0 : Nat) (w' : World) (v : Value) (l : List (List UInt8)) : Prop := ∃ A c, v = .slice A l.length c ∧ RowAt w' w'.heap.size A l.length l ∧ ∀ ad, A = some ad → B0 ≤ ad.block
theorem own_new {w : World} {base B0 : Nat} {v : Value} {l : List (List UInt8)} (h : OwnT w base v l) (hn : l.length ≤ maxLen) (hB : B0 ≤ base) : RowNew B0 w v l := by
  obtain ⟨A, c, rfl, hr⟩ := own_row h hn
  refine ⟨A, c, rfl, hr, ?_⟩
  rintro ad rfl
  rcases h.2 with ⟨h1, _⟩ | ⟨g, cap, cur, h1, h2, _⟩
  · cases h1
  · injection h1 with h1
    injection h1 with h1
    subst h1
    exact Nat.le_trans hB h2
end Go.Proofs.Ythodbeeglkedcaa
namespace Go.Proofs.Ythodbeeglkedcaa
open Go.RowKit
def fdA (n p : List UInt8) (m : Bool) (v : Value) : Array Value := #[.string (str n), .string (str p), .bool m, v]
def fd0 : Array Value := #[.string ⟨#[]⟩, .string ⟨#[]⟩, .bool false, .slice none 0 0]
theorem fdA_all (n p : List UInt8) (m : Bool) (A : Option Addr) (k c : Nat) : (fdA n p m (.slice A k c)).all (·.oneCell') = true := by simp [fdA, Value.oneCell']
theorem fd0_all : fd0.all (·.oneCell') = true := by simp [fd0, Value.oneCell']
def FindP (l : List Fi) (u : List UInt8) (w : World) (e : Ending) (w' : World) : Prop :=
  ∃ v, e = .returned (.tuple #[.agg (fdA (findL nmsP l u).1.n (findL nmsP l u).1.p (findL nmsP l u).1.m v), .int .i64 (findL nmsP l u).2]) ∧ RowOut w' v (findL nmsP l u).1.d ∧ Below w.heap.size w w'
theorem RowAt.setOther {w : World} {B n : Nat} {A : Option Addr} {l : List (List UInt8)} (h : RowAt w B A n l) {g : Nat} (hne : ∀ ad, A = some ad → ad.block ≠ g) (i : Nat) (u : Value) : RowAt (w.setCell ⟨g, i, none⟩ u) B A n l :=
  ⟨h.1, h.2.1, fun hn => by
    obtain ⟨ad, e, hB, hc⟩ := h.2.2 hn
    refine ⟨ad, e, hB, fun j x hj => ?_⟩
    rw [← hc j x hj]
    exact World.cell?_setCell_other w _ _ u (by
      intro h1
      have h2 := congrArg Addr.block h1
      rw [block_addR] at h2
      exact hne ad e h2.symm)⟩
theorem cell_far (w : World) (g i b o : Nat) (u : Value) (hne : b ≠ g) : (w.setCell ⟨g, i, none⟩ u).cell? ⟨b, o, none⟩ = w.cell? ⟨b, o, none⟩ :=
  World.cell?_setCell_other w _ _ u (by intro h1; exact hne (congrArg Addr.block h1).symm)
theorem findP_no {l : List Fi} {u : List UInt8} {w w' : World} {k : Int} (h : findL nmsP l u = (noFd, k)) (hb : Below w.heap.size w w') : FindP l u w (.returned (.tuple #[.agg fd0, .int .i64 k])) w' :=
  ⟨.slice none 0 0, by rw [h]; rfl, by rw [h]; exact rowOut_nil _, hb⟩
theorem ins_some {t i s : List UInt8} (h : nmsP.ins t i = some s) (W : World) (ht : t.length ≤ 4194304) (hi : i.length ≤ 4194304) :
    Calls Try.prog 21 #[.string (str t), .string (str i)] W fun e w' => e = .returned (.tuple #[.string (str s), .bool true]) ∧ Below W.heap.size W w' := by
  have := Nm.rInstance_any (str t) (str i) (by rw [str_size]; unfold maxLen; omega) (by rw [str_size]; omega) W
  have h' : (if Nm.insOk (str t) (str i) = true then some (Nm.insS (str t) (str i)).data.toList else none) = some s := h
  split at h'
  · rename_i hok
    injection h' with hs
    rw [hok, ← str_data (Nm.insS (str t) (str i)), hs] at this
    exact this
  · cases h'
theorem ins_none {t i : List UInt8} (h : nmsP.ins t i = none) (W : World) (ht : t.length ≤ 4194304) (hi : i.length ≤ 4194304) :
    Calls Try.prog 21 #[.string (str t), .string (str i)] W fun e w' => e = .returned (.tuple #[.string ⟨#[]⟩, .bool false]) ∧ Below W.heap.size W w' := by
  have := Nm.rInstance_any (str t) (str i) (by rw [str_size]; unfold maxLen; omega) (by rw [str_size]; omega) W
  have h' : (if Nm.insOk (str t) (str i) = true then some (Nm.insS (str t) (str i)).data.toList else none) = none := h
  split at h'
  · cases h'
  · rename_i hok
    have hok : Nm.insOk (str t) (str i) = false := by simpa using hok
    have hS : Nm.insS (str t) (str i) = ⟨#[]⟩ := by unfold Nm.insS; rw [if_neg (by rw [hok]; simp)]
    rw [hok, hS] at this
    exact this
end Go.Proofs.Ythodbeeglkedcaa
namespace Go.Proofs.Ythodbeeglkedcaa
open Go.RowKit
def sameB (n p : List UInt8) (m : Bool) (d : List (List UInt8)) (n' p' : List UInt8) (m' : Bool) (d' : List (List UInt8)) : Bool := decide (n = n') && decide (p = p') && (m == m') && decide (d = d')
theorem eq_str2 (a b : List UInt8) : ((str a).toList == (str b).toList) = decide (a = b) := by
  rw [Lib.toList_data, Lib.toList_data, str_list, str_list, Bool.eq_iff_iff, decide_eq_true_eq, beq_iff_eq]
set_option maxHeartbeats 8000000 in
theorem same_any (n p : List UInt8) (m : Bool) (A : Option Addr) (k c : Nat) (d : List (List UInt8)) (n' p' : List UInt8) (m' : Bool) (A' : Option Addr) (k' c' : Nat) (d' : List (List UInt8)) (B : Nat) (w : World) (h : RowAt w B A k d) (h' : RowAt w B A' k' d') (hB : B ≤ w.heap.size) :
    Calls Try.prog 14 #[.agg (fdA n p m (.slice A k c)), .agg (fdA n' p' m' (.slice A' k' c'))] w fun e w' => e = .returned (.bool (sameB n p m d n' p' m' d')) ∧ Below w.heap.size w w' := by
  have e1 := eq_str2 n n'
  have e2 := eq_str2 p p'
  have HW : Hid (∀ W : World, Below w.heap.size w W → Calls Try.prog 12 #[.slice A k c, .slice A' k' c'] W fun e w' => e = .returned (.bool (decide (d = d'))) ∧ ∃ j, w' = W.drewN j) := fun W hW => Same5_any A A' k k' c c' B d d' W (h.below (hW.mono hB)) (h'.below (hW.mono hB))
  have HBb : Hid (Below w.heap.size w ((w.alloc (.cells #[.string (str n), .string (str p), .bool m, .slice A k c] 30)).alloc (.cells #[.string (str n'), .string (str p'), .bool m', .slice A' k' c'] 30))) := ((Below.refl _ w).alloc (Nat.le_refl _) _).alloc (by simp) _
  unfold fdA
  by_cases hn : n = n'
  · by_cases hp : p = p'
    · by_cases hm : m = m'
      · have HV : Hid (sameB n p m d n' p' m' d' = decide (d = d')) := by show _ = _; unfold sameB; rw [decide_eq_true hn, decide_eq_true hp, hm]; simp
        have e3 : (m == m') = true := by simp [hm]
        rw [decide_eq_true hn] at e1
        rw [decide_eq_true hp] at e2
        clear hn hp hm
        go_enter Try.func14, Try.ntmps14
        go_wp2_with fail
        refine (HW.out _ HBb.out).mono ?_
        rintro e w1 ⟨rfl, j, rfl⟩
        go_wp2_with fail
        go_ret
        exact ⟨ret_bool HV.out.symm, below_drewN HBb.out j⟩
      · have HV : Hid (sameB n p m d n' p' m' d' = false) := by show _ = _; unfold sameB; rw [show (m == m') = false by simp [hm]]; simp
        have e3 : (m == m') = false := by simp [hm]
        rw [decide_eq_true hn] at e1
        rw [decide_eq_true hp] at e2
        clear hn hp hm HW
        go_enter Try.func14, Try.ntmps14
        go_wp2_with fail
        go_ret
        exact ⟨ret_bool HV.out.symm, HBb.out⟩
    · have HV : Hid (sameB n p m d n' p' m' d' = false) := by show _ = _; unfold sameB; rw [decide_eq_false hp]; simp
      rw [decide_eq_true hn] at e1
      rw [decide_eq_false hp] at e2
      clear hn hp HW
      go_enter Try.func14, Try.ntmps14
      go_wp2_with fail
      go_ret
      exact ⟨ret_bool HV.out.symm, HBb.out⟩
  · have HV : Hid (sameB n p m d n' p' m' d' = false) := by show _ = _; unfold sameB; rw [decide_eq_false hn]; simp
    rw [decide_eq_false hn] at e1
    clear hn HW
    go_enter Try.func14, Try.ntmps14
    go_wp2_with fail
    go_ret
    exact ⟨ret_bool HV.out.symm, HBb.out⟩
end Go.Proofs.Ythodbeeglkedcaa
