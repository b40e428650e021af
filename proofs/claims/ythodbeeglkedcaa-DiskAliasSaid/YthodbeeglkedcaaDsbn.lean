/- The walk of the law DiskTemplate. -/
import Derived.Test.YthodbeeglkedcaaDsbm
namespace Go.Proofs.Ythodbeeglkedcaa
open Go.RowKit
def qT (s t : List UInt8) (w : Wy) : Bool := !decide (w.k = 1) || (!decide (w.u = s) && !decide (w.u = t))
def leftQ (q : Wy → Bool) (l : List Fi) : List Fi := l.filter (fun f => q (pathW nmsP f.p))
theorem leftQ_take {q : Wy → Bool} {l : List Fi} {k : Nat} {x : Fi} (hx : l[k]? = some x) : leftQ q (l.take (k + 1)) = if q (pathW nmsP x.p) = true then leftQ q (l.take k) ++ [x] else leftQ q (l.take k) := by
  rw [(take_one hx).2]
  unfold leftQ
  rw [List.filter_append]
  by_cases h : q (pathW nmsP x.p) = true
  · simp [h]
  · simp [h]
theorem leftQ_len (q : Wy → Bool) (l : List Fi) : (leftQ q l).length ≤ l.length := List.length_filter_le _ _
theorem leftQ_no {s t : List UInt8} {l : List Fi} : ∀ f ∈ leftQ (qT s t) l, (pathW nmsP f.p).k ≠ 1 ∨ ((pathW nmsP f.p).u ≠ s ∧ (pathW nmsP f.p).u ≠ t) := fun f hf => by
  have := (List.mem_filter.1 hf).2
  simpa [qT] using this
theorem leftQ_mem {q : Wy → Bool} {l : List Fi} {g : Fi} (h : g ∈ leftQ q l) : g ∈ l := (List.mem_filter.1 h).1
def libP (u : List UInt8) : List UInt8 := ownP libL u
theorem lib_str (tl : List UInt8) : (⟨#[108, 105, 98, 47]⟩ : ByteArray) ++ str tl = str (libP tl) := by
  have h : ((⟨#[108, 105, 98, 47]⟩ : ByteArray) ++ str tl).data.toList = libP tl := by rw [app_list, str_list]; rfl
  rw [← h]
  rfl
theorem lib_len (u : List UInt8) : (libP u).length = u.length + 4 := by
  unfold libP ownP libL
  rw [List.length_append]
  show 3 + (u.length + 1) = _
  omega
set_option maxRecDepth 100000 in
set_option maxHeartbeats 16000000 in
theorem DiskTemplate_any (A : Option Addr) (n c : Nat) (l : List Fi) (tl il : List UInt8) (tx : ByteArray) (htl : tl.length ≤ 1048576) (hil : il.length ≤ 1048576) (htx : tx.size ≤ 1048576) (w : World) (h : FisAt w w.heap.size A n l) (hn : n ≤ 1048576) (hs : ∀ x ∈ l, SizeF x) :
    Calls Try.prog 8 #[.slice A n c, .string (str tl), .string (str il), .string tx] w fun e w' => e = .returned (.bool true) ∧ Below w.heap.size w w' := by
  have HL0 := Lib.hid h
  have HS := Lib.hid hs
  have hl := h.1
  clear h hs
  go_enter Try.func8, Try.ntmps8
  go_wp2_with fail
  refine (shown12_any _).mono ?_
  rintro e w1 ⟨rfl, hb1⟩
  have HB1 := Lib.hid hb1
  have HL1 := Lib.hid ((HL0.out.below hb1).wide hb1.size)
  clear hb1 HL0
  rcases hin : nmsP.ins tl il with _ | s
  · have HI := Lib.hid (fun W => ins_none hin W (by omega) (by omega))
    clear hin
    go_wp2_with fail
    refine (HI.out _).mono ?_
    rintro e w2 ⟨rfl, hb2⟩
    have HB2 := Lib.hid (more3 HB1.out HB1.out.size hb2)
    go_wp2_with fail
    go_ret
    exact ⟨rfl, HB2.out⟩
  have HI := Lib.hid (fun W => ins_some hin W (by omega) (by omega))
  have hs60 := nmsOk.short s (nmsOk.ins _ _ _ hin).1
  have HIN := Lib.hid hin
  clear hin
  go_wp2_with fail
  refine (HI.out _).mono ?_
  rintro e w2 ⟨rfl, hb2⟩
  have HB2 := Lib.hid (more3 HB1.out HB1.out.size hb2)
  have HL2 := Lib.hid ((HL1.out.below hb2).wide hb2.size)
  clear hb2 HB1 HL1 HI
  have hb1s := HB2.out.size
  go_wp2_with fail
  go_loopw [11, 31] (fun p i wr => ∃ (k : Nat) (v : Value), k ≤ n ∧ i = .int .i64 k ∧ p = v ∧ Hid (wr.ownsRow w2.heap.size 38 3 v (leftQ (qT s tl) (l.take k)).length (fis (leftQ (qT s tl) (l.take k)))) ∧ Hid (Below w2.heap.size w2 wr)) (fun p i wr => n - (intOf i).toNat)
  case atStart => exact ⟨0, _, Nat.zero_le _, rfl, rfl, by rw [List.take_zero]; exact World.ownsRow_nil _ _ _ _, Below.refl _ _⟩
  case round =>
    obtain ⟨k, v, hk, rfl, hpv, hO, hb⟩ := hrel
    replace hpv := hpv.symm
    subst hpv
    have hbs := hb.out.size
    by_cases hlt : k < n
    · have b0 : (0 : Int) ≤ (k : Int) := by omega
      have b1 : (k : Int) < (n : Int) := by omega
      obtain ⟨ad, x, rfl, hab, hx, q0, q1, q2⟩ := (HL2.out.below hb.out).at_ hlt
      have z1 : (ad.add (k * 3)).block < wr.heap.size := by rw [block_addR]; omega
      have HP := Lib.hid (fun W => path_short x (HS.out x (List.mem_of_getElem? hx)) W)
      have HT := Lib.hid (leftQ_take (q := qT s tl) hx)
      obtain ⟨y, hy⟩ : ∃ y, pathW nmsP x.p = y := ⟨_, rfl⟩
      rw [hy] at HP HT
      have hll := leftQ_len (qT s tl) (l.take k)
      have hlt2 : (l.take k).length ≤ n := by rw [List.length_take]; omega
      have hbf : Hid (Below w2.heap.size w2 (wr.alloc (.cells #[.string (str x.p), .string (str x.t), .string (str x.l)] 38))) := hb.out.alloc hbs _
      have hOf : Hid ((wr.alloc (.cells #[.string (str x.p), .string (str x.t), .string (str x.l)] 38)).ownsRow w2.heap.size 38 3 v (leftQ (qT s tl) (l.take k)).length (fis (leftQ (qT s tl) (l.take k)))) := own_below hO.out ((Below.refl _ wr).alloc (Nat.le_refl _) _)
      have hXf : Hid (Blk (wr.alloc (.cells #[.string (str x.p), .string (str x.t), .string (str x.l)] 38)) wr.heap.size 38 #[.string (str x.p), .string (str x.t), .string (str x.l)]) := Blk.new wr _ _
      have hk0 : (wr.alloc (.cells #[.string (str x.p), .string (str x.t), .string (str x.l)] 38)).cell? ⟨wr.heap.size, 0, none⟩ = some (.string (str x.p)) := hXf.out.cell 0
      clear hx hO hb hy
      go_wp2_with fail
      generalize wr.alloc (.cells #[.string (str x.p), .string (str x.t), .string (str x.l)] 38) = wf at *
      refine (HP.out _).mono ?_
      rintro e2 w3 ⟨rfl, hb3⟩
      have hOp := Lib.hid (own_below hOf.out hb3)
      have hXp := Lib.hid (hXf.out.below hb3 hXf.out.lt)
      have hbp := Lib.hid (more3 hbf.out hbf.out.size hb3)
      have hOw : Hid ((w3.alloc (.cells #[.int .i64 y.k, .string (str y.pl), .string (str y.u), .string (str y.o)] 45)).ownsRow w2.heap.size 38 3 v (leftQ (qT s tl) (l.take k)).length (fis (leftQ (qT s tl) (l.take k)))) := own_below hOp.out ((Below.refl _ w3).alloc (Nat.le_refl _) _)
      have hXw : Hid (Blk (w3.alloc (.cells #[.int .i64 y.k, .string (str y.pl), .string (str y.u), .string (str y.o)] 45)) wr.heap.size 38 #[.string (str x.p), .string (str x.t), .string (str x.l)]) := hXp.out.alloc _
      have hbw : Hid (Below w2.heap.size w2 (w3.alloc (.cells #[.int .i64 y.k, .string (str y.pl), .string (str y.u), .string (str y.o)] 45))) := hbp.out.alloc hbp.out.size _
      have hW : Hid (Blk (w3.alloc (.cells #[.int .i64 y.k, .string (str y.pl), .string (str y.u), .string (str y.o)] 45)) w3.heap.size 45 (wyA y)) := Blk.new w3 _ _
      have hk0 : (w3.alloc (.cells #[.int .i64 y.k, .string (str y.pl), .string (str y.u), .string (str y.o)] 45)).cell? ⟨w3.heap.size, 0, none⟩ = some (.int .i64 y.k) := hW.out.cell 0
      have hk2 : (w3.alloc (.cells #[.int .i64 y.k, .string (str y.pl), .string (str y.u), .string (str y.o)] 45)).cell? ⟨w3.heap.size, 2, none⟩ = some (.string (str y.u)) := hW.out.cell 2
      clear hOf hXf hbf hOp hXp hbp hb3 HP q0 q1 q2
      rw [show wyA y = #[.int .i64 y.k, .string (str y.pl), .string (str y.u), .string (str y.o)] from rfl]
      have hes := eq_str2 y.u s
      have het := eq_str2 y.u tl
      generalize (leftQ (qT s tl) (l.take k)) = lf at *
      by_cases h1 : y.k = 1
      · have t1 : (y.k == 1) = true := by simp [h1]
        have t2 : (y.k != 1) = false := by simp [h1]
        by_cases h2 : y.u = s
        · have HT2 : Hid (leftQ (qT s tl) (l.take (k + 1)) = lf) := by show _ = _; rw [HT.out, if_neg (by simp [qT, h1, h2])]
          rw [decide_eq_true h2] at hes
          clear h1 h2 HT het
          go_wp2_with fail
          go_roundw
          case rel => exact ⟨k + 1, _, by omega, by go_num, rfl, by rw [HT2.out]; exact hOw.out, hbw.out⟩
          case measure => simp [intOf]; omega
        by_cases h3 : y.u = tl
        · have HT2 : Hid (leftQ (qT s tl) (l.take (k + 1)) = lf) := by show _ = _; rw [HT.out, if_neg (by simp [qT, h1, h3])]
          rw [decide_eq_true h3] at het
          rw [decide_eq_false h2] at hes
          clear h1 h2 h3 HT
          go_wp2_with fail
          go_roundw
          case rel => exact ⟨k + 1, _, by omega, by go_num, rfl, by rw [HT2.out]; exact hOw.out, hbw.out⟩
          case measure => simp [intOf]; omega
        have HT2 : Hid (leftQ (qT s tl) (l.take (k + 1)) = lf ++ [x]) := by show _ = _; rw [HT.out, if_pos (by simp [qT, h2, h3])]
        rw [decide_eq_false h3] at het
        rw [decide_eq_false h2] at hes
        clear h1 h2 h3 HT
        have hfz : (w3.alloc (.cells #[.int .i64 y.k, .string (str y.pl), .string (str y.u), .string (str y.o)] 45)).heap.size = w3.heap.size + 1 := by simp
        have hF := Lib.hid (fi_new (w3.alloc (.cells #[.int .i64 y.k, .string (str y.pl), .string (str y.u), .string (str y.o)] 45)) 38 (str x.p) (str x.t) (str x.l) x rfl rfl rfl)
        rw [hfz] at hF
        have hOg : Hid (((w3.alloc (.cells #[.int .i64 y.k, .string (str y.pl), .string (str y.u), .string (str y.o)] 45)).alloc (.cells #[.string (str x.p), .string (str x.t), .string (str x.l)] 38)).ownsRow w2.heap.size 38 3 v lf.length (fis lf)) := own_below hOw.out ((Below.refl _ _).alloc (Nat.le_refl _) _)
        have hbg : Hid (Below w2.heap.size w2 ((w3.alloc (.cells #[.int .i64 y.k, .string (str y.pl), .string (str y.u), .string (str y.o)] 45)).alloc (.cells #[.string (str x.p), .string (str x.t), .string (str x.l)] 38))) := hbw.out.alloc hbw.out.size _
        go_wp2_with (first | (refine wpList_append_files rfl (.tmp 53) (.tmp 55) (by rfl) w2.heap.size v lf [x] (by rfl) hOg.out _ _ _ _ (by rfl) hF.out (by intro h; cases h) (by omega) hbg.out.size ?_; intro v6 w6 ho6 hg6) | (refine wpList_load_row rfl 38 (.tmp 13) (by rfl) wr.heap.size (by rfl) 38 #[.string (str x.p), .string (str x.t), .string (str x.l)] (0, 0) _ hXw.out Try.underlying38 rfl (by kernel_rfl) ?_))
        have hb6 := Lib.hid (hbg.out.grown hg6 hbg.out.size (fun k hk => (hOg.out.lt k hk).1))
        go_roundw
        case rel => exact ⟨k + 1, _, by omega, by go_num, rfl, by rw [HT2.out]; exact ho6, hb6.out⟩
        case measure => simp [intOf]; omega
      · have t1 : (y.k == 1) = false := by simp [h1]
        have t2 : (y.k != 1) = true := by simp [h1]
        have HT2 : Hid (leftQ (qT s tl) (l.take (k + 1)) = lf ++ [x]) := by show _ = _; rw [HT.out, if_pos (by simp [qT, h1])]
        clear h1 HT hes het
        go_upto_region 12 with fail
        have hfz : (w3.alloc (.cells #[.int .i64 y.k, .string (str y.pl), .string (str y.u), .string (str y.o)] 45)).heap.size = w3.heap.size + 1 := by simp
        have hF := Lib.hid (fi_new (w3.alloc (.cells #[.int .i64 y.k, .string (str y.pl), .string (str y.u), .string (str y.o)] 45)) 38 (str x.p) (str x.t) (str x.l) x rfl rfl rfl)
        rw [hfz] at hF
        have hOg : Hid (((w3.alloc (.cells #[.int .i64 y.k, .string (str y.pl), .string (str y.u), .string (str y.o)] 45)).alloc (.cells #[.string (str x.p), .string (str x.t), .string (str x.l)] 38)).ownsRow w2.heap.size 38 3 v lf.length (fis lf)) := own_below hOw.out ((Below.refl _ _).alloc (Nat.le_refl _) _)
        have hbg : Hid (Below w2.heap.size w2 ((w3.alloc (.cells #[.int .i64 y.k, .string (str y.pl), .string (str y.u), .string (str y.o)] 45)).alloc (.cells #[.string (str x.p), .string (str x.t), .string (str x.l)] 38))) := hbw.out.alloc hbw.out.size _
        go_wp2_with (first | (refine wpList_append_files rfl (.tmp 53) (.tmp 55) (by rfl) w2.heap.size v lf [x] (by rfl) hOg.out _ _ _ _ (by rfl) hF.out (by intro h; cases h) (by omega) hbg.out.size ?_; intro v6 w6 ho6 hg6) | (refine wpList_load_row rfl 38 (.tmp 13) (by rfl) wr.heap.size (by rfl) 38 #[.string (str x.p), .string (str x.t), .string (str x.l)] (0, 0) _ hXw.out Try.underlying38 rfl (by kernel_rfl) ?_))
        have hb6 := Lib.hid (hbg.out.grown hg6 hbg.out.size (fun k hk => (hOg.out.lt k hk).1))
        go_roundw
        case rel => exact ⟨k + 1, _, by omega, by go_num, rfl, by rw [HT2.out]; exact ho6, hb6.out⟩
        case measure => simp [intOf]; omega
    · obtain rfl : k = n := by omega
      rw [List.take_of_length_le (by omega)] at hO
      have HNO := Lib.hid (leftQ_no (s := s) (t := tl) (l := l))
      have hSL : Hid (∀ x ∈ leftQ (qT s tl) l, SizeF x) := fun x hx => HS.out x (leftQ_mem hx)
      have hll := leftQ_len (qT s tl) l
      clear hlt HL2 HS
      generalize leftQ (qT s tl) l = ll at *
      obtain ⟨AL, cL, rfl, hL9, hA9⟩ := fi_out hO.out (by omega)
      have HL9 := Lib.hid hL9
      have HB9 := Lib.hid (more3 HB2.out HB2.out.size hb.out)
      have HA9 := Lib.hid hA9
      clear hO hL9 hA9 hb HB2
      go_wp2_with fail
      refine (dMay_any AL ll.length cL _ ll wr HL9.out (Nat.le_refl _) hSL.out).mono ?_
      rintro e w3 ⟨rfl, hb3⟩
      have HB3 := Lib.hid (more3 HB9.out HB9.out.size hb3)
      have HL3 := Lib.hid ((HL9.out.below hb3).wide hb3.size)
      clear hb3 HB9 HL9
      rcases hm : mayL nmsP ll with _ | _
      · go_wp2_with fail
        go_ret
        exact ⟨rfl, HB3.out⟩
      by_cases h120 : 120 ≤ ll.length
      · have h120i : (120 : Int) ≤ (ll.length : Int) := by omega
        go_wp2_with fail
        go_ret
        exact ⟨rfl, HB3.out⟩
      have h120i : ¬ (120 : Int) ≤ (ll.length : Int) := by omega
      by_cases h300 : 300 < tx.size
      · have t3 : decide ((300 : Int) < (tx.size : Int)) = true := by simp; omega
        clear h300
        go_wp2_with fail
        go_ret
        exact ⟨rfl, HB3.out⟩
      have t3 : decide ((300 : Int) < (tx.size : Int)) = false := by simp; omega
      obtain ⟨f1, f2⟩ := find_tmpl nmsOk hm (by omega) HIN.out (x := tx.data.toList) (by show tx.size ≤ 20000; omega) HNO.out
      obtain ⟨r0, hr0⟩ : ∃ r, findL nmsP ll s = (r, 6) := ⟨_, Prod.ext rfl f1⟩
      obtain ⟨D, hD⟩ : ∃ D, findL nmsP (ll ++ [(⟨libP tl, tx.data.toList, []⟩ : Fi)]) s = (⟨s, libP tl, false, D⟩, 0) := ⟨_, f2⟩
      have HR0 := Lib.hid hr0
      have HDD := Lib.hid hD
      have lstr := lib_str tl
      have htl8 : (str tl).size ≤ 1048576 := by rw [str_size]; exact htl
      clear f1 f2 hr0 hD h300 hm
      go_wp2_with fail
      have h4' := dFind_any AL ll.length cL _ ll (str s) (by rw [str_size]; omega) w3 HL3.out (Nat.le_refl _) hSL.out
      rw [str_list] at h4'
      refine h4'.mono ?_
      intro e w4 h4
      obtain ⟨aA, ac, rfl, ha, hb4⟩ := findP_of HR0.out h4
      have hbx : Below w3.heap.size w3 (w4.alloc (.cells #[.string (str r0.n), .string (str r0.p), .bool r0.m, .slice aA r0.d.length ac] 30)) := hb4.alloc hb4.size _
      have HB5 := Lib.hid (more3 HB3.out HB3.out.size hbx)
      have HL5 := Lib.hid ((HL3.out.below hbx).wide hbx.size)
      clear h4 ha hb4 hbx HB3 HL3 h4'
      go_upto_region 17 with fail
      generalize w4.alloc (.cells #[.string (str r0.n), .string (str r0.p), .bool r0.m, .slice aA r0.d.length ac] 30) = w5 at *
      generalize w4.heap.size = g4 at *
      go_wp2_with (first
        | (refine wpList_append_files rfl (.const (.slice none 0 0)) (.tmp 78) (by rfl) w5.heap.size (.slice none 0 0) [] ll (by rfl) (World.ownsRow_nil _ _ _ _) _ _ _ _ (by rfl) HL5.out HA9.out (by simp; omega) (Nat.le_refl _) ?_; intro v6 w6 ho6 hg6; have hb6 : Below w5.heap.size w5 w6 := (Below.refl _ _).grown hg6 (Nat.le_refl _) (fun k hk => by cases hk); have hp6 := own_below ho6 ((Below.refl _ w6).alloc (Nat.le_refl _) (.cells #[.string (str (libP tl)), .string tx, .string ⟨#[]⟩] 38)); have hc6 : Below w5.heap.size w5 (w6.alloc (.cells #[.string (str (libP tl)), .string tx, .string ⟨#[]⟩] 38)) := hb6.alloc hb6.size _; have hF6 := fi_new w6 38 _ _ _ ⟨libP tl, tx.data.toList, []⟩ rfl rfl rfl)
        | (refine wpList_append_files rfl (.tmp 79) (.tmp 84) (by rfl) w5.heap.size v6 ([] ++ ll) [⟨libP tl, tx.data.toList, []⟩] (by rfl) hp6 _ _ _ _ (by rfl) hF6 (by intro h; cases h) (by simp; omega) hc6.size ?_; intro v7 w7 ho7 hg7; have hb7 := hc6.grown hg7 hc6.size (fun k hk => (hp6.lt k hk).1)))
      rw [List.nil_append] at ho7
      obtain ⟨A7, c7, rfl, hl7, _⟩ := fi_out ho7 (by simp; omega)
      have HL7 := Lib.hid hl7
      have HB7 := Lib.hid (more3 HB5.out HB5.out.size hb7)
      have hS7 : Hid (∀ x ∈ ll ++ [(⟨libP tl, tx.data.toList, []⟩ : Fi)], SizeF x) := fun x hx => by
        rcases List.mem_append.1 hx with hx | hx
        · exact hSL.out x hx
        · rw [List.mem_singleton.1 hx]
          exact ⟨by show (libP tl).length ≤ _; rw [lib_len]; omega, by show tx.size ≤ _; omega, by simp⟩
      clear ho7 hl7 hb6 hp6 hc6 hF6 ho6 hg6 hg7 hb7 HB5 HL5
      generalize hl1 : ll ++ [(⟨libP tl, tx.data.toList, []⟩ : Fi)] = l1 at *
      clear hl1
      have h8' := dFind_any A7 l1.length c7 _ l1 (str s) (by rw [str_size]; omega) w7 HL7.out (Nat.le_refl _) hS7.out
      rw [str_list] at h8'
      refine h8'.mono ?_
      intro e w8 h8
      obtain ⟨xA, xc, rfl, hx, hb8⟩ := findP_of HDD.out h8
      dsimp only at hx ⊢
      have HX9 : Hid (Blk (w8.alloc (.cells #[.string (str s), .string (str (libP tl)), .bool false, .slice xA D.length xc] 30)) w8.heap.size 30 (fdA s (libP tl) false (.slice xA D.length xc))) := Blk.new w8 _ _
      have hby : Below w7.heap.size w7 (w8.alloc (.cells #[.string (str s), .string (str (libP tl)), .bool false, .slice xA D.length xc] 30)) := hb8.alloc hb8.size _
      have HB9 := Lib.hid (more3 HB7.out HB7.out.size hby)
      have k0 : (w8.alloc (.cells #[.string (str s), .string (str (libP tl)), .bool false, .slice xA D.length xc] 30)).cell? ⟨w8.heap.size, 0, none⟩ = some (.string (str s)) := HX9.out.cell 0
      have k1 : (w8.alloc (.cells #[.string (str s), .string (str (libP tl)), .bool false, .slice xA D.length xc] 30)).cell? ⟨w8.heap.size, 1, none⟩ = some (.string (str (libP tl))) := HX9.out.cell 1
      have k2 : (w8.alloc (.cells #[.string (str s), .string (str (libP tl)), .bool false, .slice xA D.length xc] 30)).cell? ⟨w8.heap.size, 2, none⟩ = some (.bool false) := HX9.out.cell 2
      clear h8 hx hb8 hby h8'
      go_wp2_with fail
      go_ret
      exact ⟨rfl, HB9.out⟩
end Go.Proofs.Ythodbeeglkedcaa
