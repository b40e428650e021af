/- The walk of the law DiskFirst. -/
import Derived.Test.YthodbeeglkedcaaDsbl
namespace Go.Proofs.Ythodbeeglkedcaa
open Go.RowKit
theorem wpList_append_files {ops : Array Oper} {rest : List Oper} {o : Oper} {a : Act} {w : World} {Q : Exit → Act → World → Prop} (hgd : o.guard = none) (s x : Operand)
    (ho : o.op = .call { callee := .builtin .append, args := #[s, x], argTypes := #[22, 22] }) (base : Nat) (v : Value) (l l' : List Fi) (hs : a.eval s = v) (hown : w.ownsRow base 38 3 v l.length (fis l))
    (A : Option Addr) (n c B : Nat) (hx : a.eval x = .slice A n c) (hL : FisAt w B A n l') (hA : A = none → c = 0) (hlen : l.length + n ≤ 2097152) (hbase : base ≤ w.heap.size)
    (h : ∀ v' w', w'.ownsRow base 38 3 v' (l ++ l').length (fis (l ++ l')) → w.grownBy w' v.ownBlock → wpList Try.prog ops Q rest (a.put o.dst v') w') : wpList Try.prog ops Q (o :: rest) a w :=
  wpList_plain hgd fun _ hK => wp_append_files s x ho base v l l' hs hown A n c B hx hL hA hlen hbase fun v' w' h1 h2 => hK _ _ (h v' w' h1 h2)
theorem fi_new (w : World) (t : TypeId) (p q r : ByteArray) (x : Fi) (h1 : p = str x.p) (h2 : q = str x.t) (h3 : r = str x.l) : FisAt (w.alloc (.cells #[.string p, .string q, .string r] t)) (w.alloc (.cells #[.string p, .string q, .string r] t)).heap.size (some ⟨w.heap.size, 0, none⟩) 1 [x] := by
  subst h1 h2 h3
  exact fis_new w t [x] (by unfold maxLen; simp)
theorem fi_out {w : World} {base : Nat} {v : Value} {l : List Fi} (h : w.ownsRow base 38 3 v l.length (fis l)) (hl : l.length ≤ 2097152) : ∃ A c, v = .slice A l.length c ∧ FisAt w w.heap.size A l.length l ∧ (A = none → c = 0) := by
  obtain ⟨A, m, c, rfl⟩ : ∃ A m c, v = .slice A m c := by
    rcases h.2 with ⟨hv, _⟩ | ⟨g, cap, cur, hv, _⟩
    · exact ⟨_, _, _, hv⟩
    · exact ⟨_, _, _, hv⟩
  obtain ⟨rfl, hL⟩ := fisAt_of_own h rfl (by unfold maxLen; omega)
  refine ⟨A, c, rfl, hL, ?_⟩
  intro e
  rcases h.2 with ⟨hv, _⟩ | ⟨g, cap, cur, hv, _⟩
  · injection hv
  · injection hv with h1; rw [e] at h1; cases h1
def etcP (u : List UInt8) : List UInt8 := ownP etcL u
def leftL (p : List UInt8) (l : List Fi) : List Fi := l.filter (fun f => !decide (f.p = p))
theorem left_take {p : List UInt8} {l : List Fi} {k : Nat} {x : Fi} (hx : l[k]? = some x) : leftL p (l.take (k + 1)) = if x.p = p then leftL p (l.take k) else leftL p (l.take k) ++ [x] := by
  rw [(take_one hx).2]
  unfold leftL
  rw [List.filter_append]
  by_cases h : x.p = p
  · simp [h]
  · simp [h]
theorem left_len (p : List UInt8) (l : List Fi) : (leftL p l).length ≤ l.length := List.length_filter_le _ _
theorem left_no {p : List UInt8} {l : List Fi} : ∀ g ∈ leftL p l, g.p ≠ p := fun g hg => by simpa using (List.mem_filter.1 hg).2
theorem left_mem {p : List UInt8} {l : List Fi} {g : Fi} (h : g ∈ leftL p l) : g ∈ l := (List.mem_filter.1 h).1
theorem etc_list (u : ByteArray) : ((⟨#[101, 116, 99, 47]⟩ : ByteArray) ++ u).data.toList = etcP u.data.toList := by rw [app_list]; rfl
theorem ne_path (p : List UInt8) (u : ByteArray) : ((str p).toList == ((⟨#[101, 116, 99, 47]⟩ : ByteArray) ++ u).toList) = decide (p = etcP u.data.toList) := by
  rw [eq_strR, etc_list]
theorem etc_len (u : ByteArray) : (etcP u.data.toList).length = u.size + 4 := by
  have h : u.data.toList.length = u.size := Array.length_toList
  unfold etcP ownP etcL
  rw [List.length_append]
  show 3 + (u.data.toList.length + 1) = _
  rw [h]
  omega
set_option maxRecDepth 100000 in
set_option maxHeartbeats 16000000 in
theorem DiskFirst_any (A : Option Addr) (n c : Nat) (l : List Fi) (u ot tx : ByteArray) (hu : u.size ≤ 1048576) (hot : ot.size ≤ 1048576) (htx : tx.size ≤ 1048576) (w : World) (h : FisAt w w.heap.size A n l) (hn : n ≤ 1048576) (hs : ∀ x ∈ l, SizeF x) :
    Calls Try.prog 5 #[.slice A n c, .string u, .string ot, .string tx] w fun e w' => e = .returned (.bool true) ∧ Below w.heap.size w w' := by
  have HL0 := Lib.hid h
  have HS := Lib.hid hs
  have hl := h.1
  clear h hs
  go_enter Try.func5, Try.ntmps5
  go_wp2_with fail
  refine (shown12_any _).mono ?_
  rintro e w1 ⟨rfl, hb1⟩
  have HB1 := Lib.hid hb1
  have HL1 := Lib.hid ((HL0.out.below hb1).wide hb1.size)
  clear hb1 HL0
  go_wp2_with fail
  have htt : (tx.extract 0 (min (tx.size : Int) 300).toNat).size ≤ 300 := by rw [ByteArray.size_extract]; omega
  generalize tx.extract 0 (min (tx.size : Int) 300).toNat = tt at *
  have hb1s := HB1.out.size
  go_loopw [9, 31] (fun p i wr => ∃ (k : Nat) (v : Value), k ≤ n ∧ i = .int .i64 k ∧ p = v ∧ Hid (wr.ownsRow w1.heap.size 38 3 v (leftL (etcP u.data.toList) (l.take k)).length (fis (leftL (etcP u.data.toList) (l.take k)))) ∧ Hid (Below w1.heap.size w1 wr)) (fun p i wr => n - (intOf i).toNat)
  case atStart => exact ⟨0, _, Nat.zero_le _, rfl, rfl, by rw [List.take_zero]; exact World.ownsRow_nil _ _ _ _, Below.refl _ _⟩
  case round =>
    obtain ⟨k, v, hk, rfl, hpv, hO, hb⟩ := hrel
    replace hpv := hpv.symm
    subst hpv
    have hbs := hb.out.size
    by_cases hlt : k < n
    · have b0 : (0 : Int) ≤ (k : Int) := by omega
      have b1 : (k : Int) < (n : Int) := by omega
      obtain ⟨ad, x, rfl, hab, hx, q0, q1, q2⟩ := (HL1.out.below hb.out).at_ hlt
      have z1 : (ad.add (k * 3)).block < wr.heap.size := by rw [block_addR]; omega
      have HT := Lib.hid (left_take (p := etcP u.data.toList) hx)
      have hll := left_len (etcP u.data.toList) (l.take k)
      have hlt2 : (l.take k).length ≤ n := by rw [List.length_take]; omega
      have hbf : Hid (Below w1.heap.size w1 (wr.alloc (.cells #[.string (str x.p), .string (str x.t), .string (str x.l)] 38))) := hb.out.alloc hbs _
      have hOf : Hid ((wr.alloc (.cells #[.string (str x.p), .string (str x.t), .string (str x.l)] 38)).ownsRow w1.heap.size 38 3 v (leftL (etcP u.data.toList) (l.take k)).length (fis (leftL (etcP u.data.toList) (l.take k)))) := own_below hO.out ((Below.refl _ wr).alloc (Nat.le_refl _) _)
      have hXf : Hid (Blk (wr.alloc (.cells #[.string (str x.p), .string (str x.t), .string (str x.l)] 38)) wr.heap.size 38 #[.string (str x.p), .string (str x.t), .string (str x.l)]) := Blk.new wr _ _
      have hk0 : (wr.alloc (.cells #[.string (str x.p), .string (str x.t), .string (str x.l)] 38)).cell? ⟨wr.heap.size, 0, none⟩ = some (.string (str x.p)) := hXf.out.cell 0
      have hep := ne_path x.p u
      clear hx hO hb
      by_cases he : x.p = etcP u.data.toList
      · have HT2 := HT.out
        rw [if_pos he] at HT2
        have HT3 := Lib.hid HT2
        rw [decide_eq_true he] at hep
        clear HT HT2 he
        go_wp2_with fail
        generalize wr.alloc (.cells #[.string (str x.p), .string (str x.t), .string (str x.l)] 38) = wf at *
        go_roundw
        case rel => exact ⟨k + 1, _, by omega, by go_num, rfl, by rw [HT3.out]; exact hOf.out, hbf.out⟩
        case measure => simp [intOf]; omega
      · have HT2 := HT.out
        rw [if_neg he] at HT2
        have HT3 := Lib.hid HT2
        rw [decide_eq_false he] at hep
        clear HT HT2 he
        have hF : Hid (FisAt ((wr.alloc (.cells #[.string (str x.p), .string (str x.t), .string (str x.l)] 38)).alloc (.cells #[.string (str x.p), .string (str x.t), .string (str x.l)] 38)) ((wr.alloc (.cells #[.string (str x.p), .string (str x.t), .string (str x.l)] 38)).alloc (.cells #[.string (str x.p), .string (str x.t), .string (str x.l)] 38)).heap.size (some ⟨(wr.alloc (.cells #[.string (str x.p), .string (str x.t), .string (str x.l)] 38)).heap.size, 0, none⟩) 1 [x]) := fis_new _ _ [x] (by unfold maxLen; simp)
        have hOg : Hid (((wr.alloc (.cells #[.string (str x.p), .string (str x.t), .string (str x.l)] 38)).alloc (.cells #[.string (str x.p), .string (str x.t), .string (str x.l)] 38)).ownsRow w1.heap.size 38 3 v (leftL (etcP u.data.toList) (l.take k)).length (fis (leftL (etcP u.data.toList) (l.take k)))) := own_below hOf.out ((Below.refl _ _).alloc (Nat.le_refl _) _)
        have hbg : Hid (Below w1.heap.size w1 ((wr.alloc (.cells #[.string (str x.p), .string (str x.t), .string (str x.l)] 38)).alloc (.cells #[.string (str x.p), .string (str x.t), .string (str x.l)] 38))) := hbf.out.alloc (by have := hbf.out.size; exact this) _
        have hfz : (wr.alloc (.cells #[.string (str x.p), .string (str x.t), .string (str x.l)] 38)).heap.size = wr.heap.size + 1 := by simp
        rw [hfz] at hF
        go_wp2_with (first | (refine wpList_append_files rfl (.tmp 40) (.tmp 42) (by rfl) w1.heap.size v _ [x] (by rfl) hOg.out _ _ _ _ (by rfl) hF.out (by intro h; cases h) (by omega) hbg.out.size ?_; intro v6 w6 ho6 hg6) | refine wpList_load_row rfl 38 (.tmp 11) (by rfl) wr.heap.size (by rfl) 38 #[.string (str x.p), .string (str x.t), .string (str x.l)] (0, 0) _ hXf.out Try.underlying38 rfl (by kernel_rfl) ?_)
        have hb6 := Lib.hid (hbg.out.grown hg6 hbg.out.size (fun k hk => (hOg.out.lt k hk).1))
        go_roundw
        case rel => exact ⟨k + 1, _, by omega, by go_num, rfl, by rw [HT3.out]; exact ho6, hb6.out⟩
        case measure => simp [intOf]; omega
    · obtain rfl : k = n := by omega
      rw [List.take_of_length_le (by omega)] at hO
      have hN := left_no (p := etcP u.data.toList) (l := l)
      have hSL : Hid (∀ x ∈ leftL (etcP u.data.toList) l, SizeF x) := fun x hx => HS.out x (left_mem hx)
      have hll := left_len (etcP u.data.toList) l
      have HN := Lib.hid hN
      clear hN hlt HL1 HS
      generalize leftL (etcP u.data.toList) l = ll at *
      obtain ⟨AL, cL, rfl, hL9, hA9⟩ := fi_out hO.out (by omega)
      have HL9 := Lib.hid hL9
      have HB9 := Lib.hid (more3 HB1.out HB1.out.size hb.out)
      have HA9 := Lib.hid hA9
      clear hO hL9 hA9 hb HB1
      generalize hul : u.data.toList = ul at *
      go_wp2_with fail
      refine (dMay_any AL ll.length cL _ ll wr HL9.out (Nat.le_refl _) hSL.out).mono ?_
      rintro e w2 ⟨rfl, hb2⟩
      have HB2 := Lib.hid (more3 HB9.out HB9.out.size hb2)
      have HL2 := Lib.hid ((HL9.out.below hb2).wide hb2.size)
      clear hb2 HB9 HL9
      rcases hm : mayL nmsP ll with _ | _
      · go_wp2_with fail
        go_ret
        exact ⟨rfl, HB2.out⟩
      by_cases h120 : 120 ≤ ll.length
      · have h120i : (120 : Int) ≤ (ll.length : Int) := by omega
        go_wp2_with fail
        go_ret
        exact ⟨rfl, HB2.out⟩
      have h120i : ¬ (120 : Int) ≤ (ll.length : Int) := by omega
      go_wp2_with fail
      refine (Nm.rMay_any u (by unfold maxLen; omega) w2).mono ?_
      rintro e w3 ⟨rfl, hb3⟩
      have HB3 := Lib.hid (more3 HB2.out HB2.out.size hb3)
      have HL3 := Lib.hid ((HL2.out.below hb3).wide hb3.size)
      clear hb3 HB2 HL2
      rcases hg : Nm.goodP u with _ | _
      · go_wp2_with fail
        go_ret
        exact ⟨rfl, HB3.out⟩
      have hgl : nmsP.good ul = true := by rw [good_eq, ← hul]; exact hg
      have ho : (⟨#[101, 116, 99, 47]⟩ : ByteArray) ++ u = str (etcP ul) := by rw [← hul, ← etc_list]; rfl
      have etc_str := ho
      have HF1 := Lib.hid (first_own nmsOk hm (by omega) hgl (t := tt.data.toList) (by show tt.size ≤ 20000; omega) HN.out)
      have HF2 := Lib.hid (first_mask nmsOk hm (by omega) hgl HN.out)
      have HF3 := Lib.hid (fun o => first_rest nmsOk (other := o) hm (by omega) hgl (t := tt.data.toList) (by show tt.size ≤ 20000; omega) HN.out)
      go_wp2_with fail
      obtain ⟨r0, k0, hr0⟩ : ∃ r k, findL nmsP ll ot.data.toList = (r, k) := ⟨_, _, rfl⟩
      have HR0 := Lib.hid hr0
      clear hr0
      refine (dFind_any AL ll.length cL _ ll ot (by omega) w3 HL3.out (Nat.le_refl _) hSL.out).mono ?_
      intro e w4 h4
      obtain ⟨aA, ac, rfl, ha, hb4⟩ := findP_of HR0.out h4
      have HX5 : Hid (Blk (w4.alloc (.cells #[.string (str r0.n), .string (str r0.p), .bool r0.m, .slice aA r0.d.length ac] 30)) w4.heap.size 30 (fdA r0.n r0.p r0.m (.slice aA r0.d.length ac))) := Blk.new w4 _ _
      have HR5 : Hid (RowAt (w4.alloc (.cells #[.string (str r0.n), .string (str r0.p), .bool r0.m, .slice aA r0.d.length ac] 30)) (w4.alloc (.cells #[.string (str r0.n), .string (str r0.p), .bool r0.m, .slice aA r0.d.length ac] 30)).heap.size aA r0.d.length r0.d) := (ha.below ((Below.refl _ w4).alloc (Nat.le_refl _) _)).wide (by simp)
      have hbx : Below w3.heap.size w3 (w4.alloc (.cells #[.string (str r0.n), .string (str r0.p), .bool r0.m, .slice aA r0.d.length ac] 30)) := hb4.alloc hb4.size _
      have HB5 := Lib.hid (more3 HB3.out HB3.out.size hbx)
      have HL5 := Lib.hid ((HL3.out.below hbx).wide hbx.size)
      clear h4 ha hb4 hbx HB3 HL3
      go_wp2_with (first
        | (refine wpList_append_files rfl (.const (.slice none 0 0)) (.tmp 64) (by rfl) (w4.alloc (.cells #[.string (str r0.n), .string (str r0.p), .bool r0.m, .slice aA r0.d.length ac] 30)).heap.size (.slice none 0 0) [] ll (by rfl) (World.ownsRow_nil _ _ _ _) _ _ _ _ (by rfl) HL5.out HA9.out (by simp; omega) (Nat.le_refl _) ?_; intro v6 w6 ho6 hg6; have hb6 : Below (w4.alloc (.cells #[.string (str r0.n), .string (str r0.p), .bool r0.m, .slice aA r0.d.length ac] 30)).heap.size (w4.alloc (.cells #[.string (str r0.n), .string (str r0.p), .bool r0.m, .slice aA r0.d.length ac] 30)) w6 := (Below.refl _ _).grown hg6 (Nat.le_refl _) (fun k hk => by cases hk); have hp6 := own_below ho6 ((Below.refl _ w6).alloc (Nat.le_refl _) (.cells #[.string (str (etcP ul)), .string tt, .string ⟨#[]⟩] 38)); have hc6 : Below (w4.alloc (.cells #[.string (str r0.n), .string (str r0.p), .bool r0.m, .slice aA r0.d.length ac] 30)).heap.size (w4.alloc (.cells #[.string (str r0.n), .string (str r0.p), .bool r0.m, .slice aA r0.d.length ac] 30)) (w6.alloc (.cells #[.string (str (etcP ul)), .string tt, .string ⟨#[]⟩] 38)) := hb6.alloc hb6.size _; have hF6 := fi_new w6 38 _ _ _ ⟨etcP ul, tt.data.toList, []⟩ rfl rfl rfl)
        | (refine wpList_append_files rfl (.tmp 65) (.tmp 70) (by rfl) (w4.alloc (.cells #[.string (str r0.n), .string (str r0.p), .bool r0.m, .slice aA r0.d.length ac] 30)).heap.size v6 ([] ++ ll) [⟨etcP ul, tt.data.toList, []⟩] (by rfl) hp6 _ _ _ _ (by rfl) hF6 (by intro h; cases h) (by simp; omega) hc6.size ?_; intro v7 w7 ho7 hg7; have hb7 := hc6.grown hg7 hc6.size (fun k hk => (hp6.lt k hk).1); have HL8 := Lib.hid ((HL5.out.below hb7).wide hb7.size))
        | (refine wpList_append_files rfl (.const (.slice none 0 0)) (.tmp 72) (by rfl) w7.heap.size (.slice none 0 0) [] ll (by rfl) (World.ownsRow_nil _ _ _ _) _ _ _ _ (by rfl) HL8.out HA9.out (by simp; omega) (Nat.le_refl _) ?_; intro v8 w8 ho8 hg8; have hb8 : Below w7.heap.size w7 w8 := (Below.refl _ _).grown hg8 (Nat.le_refl _) (fun k hk => by cases hk); have hp8 := own_below ho8 ((Below.refl _ w8).alloc (Nat.le_refl _) (.cells #[.string (str (etcP ul)), .string ⟨#[]⟩, .string ⟨#[110, 117, 108, 108]⟩] 38)); have hc8 : Below w7.heap.size w7 (w8.alloc (.cells #[.string (str (etcP ul)), .string ⟨#[]⟩, .string ⟨#[110, 117, 108, 108]⟩] 38)) := hb8.alloc hb8.size _; have hF8 := fi_new w8 38 _ _ _ ⟨etcP ul, [], nulL⟩ rfl rfl rfl)
        | (refine wpList_append_files rfl (.tmp 73) (.tmp 77) (by rfl) w7.heap.size v8 ([] ++ ll) [⟨etcP ul, [], nulL⟩] (by rfl) hp8 _ _ _ _ (by rfl) hF8 (by intro h; cases h) (by simp; omega) hc8.size ?_; intro v9 w9 ho9 hg9; have hb9 := hc8.grown hg9 hc8.size (fun k hk => (hp8.lt k hk).1)))
      rw [List.nil_append] at ho7 ho9
      obtain ⟨A7, c7, rfl, hl7, _⟩ := fi_out ho7 (by simp; omega)
      obtain ⟨A9, c9, rfl, hl9, _⟩ := fi_out ho9 (by simp; omega)
      have HX9 := Lib.hid ((HX5.out.below hb7 HX5.out.lt).below hb9 (by have := HX5.out.lt; have := hb7.size; omega))
      have HR9 := Lib.hid (((HR5.out.below hb7).wide hb7.size |>.below hb9).wide hb9.size)
      have HP9 := Lib.hid ((hl7.below hb9).wide hb9.size)
      have HQ9 := Lib.hid hl9
      have HB9 := Lib.hid (more3 (more3 HB5.out HB5.out.size hb7) (more3 HB5.out HB5.out.size hb7).size hb9)
      have hS7 : Hid (∀ x ∈ ll ++ [(⟨etcP ul, tt.data.toList, []⟩ : Fi)], SizeF x) := fun x hx => by
        rcases List.mem_append.1 hx with hx | hx
        · exact hSL.out x hx
        · rw [List.mem_singleton.1 hx]
          exact ⟨by show (etcP ul).length ≤ _; rw [← hul, etc_len]; omega, by show tt.size ≤ _; omega, by simp⟩
      have hS9 : Hid (∀ x ∈ ll ++ [(⟨etcP ul, [], nulL⟩ : Fi)], SizeF x) := fun x hx => by
        rcases List.mem_append.1 hx with hx | hx
        · exact hSL.out x hx
        · rw [List.mem_singleton.1 hx]
          exact ⟨by show (etcP ul).length ≤ _; rw [← hul, etc_len]; omega, by simp, by show nulL.length ≤ _; decide⟩
      clear ho7 ho9 hl7 hl9 HX5 HR5 HB5 HL5 HL8 hb6 hb7 hb8 hb9 hg6 hg7 hg8 hg9 ho6 ho8 hp6 hp8 hc6 hc8 hF6 hF8
      obtain ⟨D, hD⟩ : ∃ D, findL nmsP (ll ++ [(⟨etcP ul, tt.data.toList, []⟩ : Fi)]) ul = (⟨ul, etcP ul, false, D⟩, 0) := ⟨_, HF1.out.2⟩
      have HD := Lib.hid hD
      have HM : Hid (findL nmsP (ll ++ [(⟨etcP ul, [], nulL⟩ : Fi)]) ul = (⟨ul, etcP ul, true, []⟩, 0)) := HF2.out
      obtain ⟨r3, k3, hr3⟩ : ∃ r k, findL nmsP (ll ++ [(⟨etcP ul, tt.data.toList, []⟩ : Fi)]) ot.data.toList = (r, k) := ⟨_, _, rfl⟩
      have HR3 := Lib.hid hr3
      have HF := Lib.hid (HF3.out ot.data.toList)
      have HFF : Hid (k0 = 0 → r3.n = ul ∨ r3.p = etcP ul ∨ (r3 = r0 ∧ k3 = k0)) := fun h0 => by
        have := HF.out (by rw [HR0.out]; exact h0)
        change (findL nmsP (ll ++ [(⟨etcP ul, tt.data.toList, []⟩ : Fi)]) ot.data.toList).1.n = ul ∨ (findL nmsP (ll ++ [(⟨etcP ul, tt.data.toList, []⟩ : Fi)]) ot.data.toList).1.p = etcP ul ∨ findL nmsP (ll ++ [(⟨etcP ul, tt.data.toList, []⟩ : Fi)]) ot.data.toList = findL nmsP ll ot.data.toList at this
        rw [hr3, HR0.out] at this
        rcases this with h | h | h
        · exact .inl h
        · exact .inr (.inl h)
        · injection h with h1 h2
          exact .inr (.inr ⟨h1, h2⟩)
      have HG0 : Hid (k0 = 0 → r0.n.length ≤ 60) := fun h0 => by
        have := (find_found nmsOk (fs := ll) (u := ot.data.toList) (by rw [HR0.out]; exact h0)).2.1
        rw [HR0.out] at this
        exact nmsOk.short _ this
      clear hD hr3 HF HF1 HF2 HF3 HR0
      generalize hl1 : ll ++ [(⟨etcP ul, tt.data.toList, []⟩ : Fi)] = l1 at *
      generalize hl2 : ll ++ [(⟨etcP ul, [], nulL⟩ : Fi)] = l2 at *
      clear hl1 hl2
      refine (dFind_any A7 l1.length c7 _ l1 u (by omega) w9 HP9.out (Nat.le_refl _) hS7.out).mono ?_
      intro e w10 h10
      rw [hul] at h10
      obtain ⟨xA, xc, rfl, hx, hb10⟩ := findP_of HD.out h10
      dsimp only at hx ⊢
      have HV11 : Hid (Blk (w10.alloc (.cells #[.string (str ul), .string (str (etcP ul)), .bool false, .slice xA D.length xc] 30)) w10.heap.size 30 (fdA ul (etcP ul) false (.slice xA D.length xc))) := Blk.new w10 _ _
      have hby : Below w9.heap.size w9 (w10.alloc (.cells #[.string (str ul), .string (str (etcP ul)), .bool false, .slice xA D.length xc] 30)) := hb10.alloc hb10.size _
      have HX11 := Lib.hid (HX9.out.below hby HX9.out.lt)
      have HR11 := Lib.hid ((HR9.out.below hby).wide hby.size)
      have HP11 := Lib.hid ((HP9.out.below hby).wide hby.size)
      have HQ11 := Lib.hid ((HQ9.out.below hby).wide hby.size)
      have HB11 := Lib.hid (more3 HB9.out HB9.out.size hby)
      clear h10 hx hb10 hby HX9 HR9 HP9 HQ9 HB9
      go_wp2_with fail
      generalize (w10.alloc (.cells #[.string (str ul), .string (str (etcP ul)), .bool false, .slice xA D.length xc] 30)) = w11 at *
      refine (dFind_any A9 l2.length c9 _ l2 u (by omega) w11 HQ11.out (Nat.le_refl _) hS9.out).mono ?_
      intro e w12 h12
      rw [hul] at h12
      obtain ⟨yA, yc, rfl, hy, hb12⟩ := findP_of HM.out h12
      dsimp only [List.length_nil] at hy ⊢
      have HW13 : Hid (Blk (w12.alloc (.cells #[.string (str ul), .string (str (etcP ul)), .bool true, .slice yA 0 yc] 30)) w12.heap.size 30 (fdA ul (etcP ul) true (.slice yA 0 yc))) := Blk.new w12 _ _
      have hby : Below w11.heap.size w11 (w12.alloc (.cells #[.string (str ul), .string (str (etcP ul)), .bool true, .slice yA 0 yc] 30)) := hb12.alloc hb12.size _
      have HV13 := Lib.hid (HV11.out.below hby HV11.out.lt)
      have HX13 := Lib.hid (HX11.out.below hby HX11.out.lt)
      have HR13 := Lib.hid ((HR11.out.below hby).wide hby.size)
      have HP13 := Lib.hid ((HP11.out.below hby).wide hby.size)
      have HB13 := Lib.hid (more3 HB11.out HB11.out.size hby)
      clear h12 hy hb12 hby HX11 HR11 HP11 HQ11 HB11 HV11
      go_wp2_with fail
      generalize (w12.alloc (.cells #[.string (str ul), .string (str (etcP ul)), .bool true, .slice yA 0 yc] 30)) = w13 at *
      refine (dFind_any A7 l1.length c7 _ l1 ot (by omega) w13 HP13.out (Nat.le_refl _) hS7.out).mono ?_
      intro e w14 h14
      obtain ⟨zA, zc, rfl, hz, hb14⟩ := findP_of HR3.out h14
      have HZ15 : Hid (Blk (w14.alloc (.cells #[.string (str r3.n), .string (str r3.p), .bool r3.m, .slice zA r3.d.length zc] 30)) w14.heap.size 30 (fdA r3.n r3.p r3.m (.slice zA r3.d.length zc))) := Blk.new w14 _ _
      have hby : Below w13.heap.size w13 (w14.alloc (.cells #[.string (str r3.n), .string (str r3.p), .bool r3.m, .slice zA r3.d.length zc] 30)) := hb14.alloc hb14.size _
      have HK15 : Hid (RowAt (w14.alloc (.cells #[.string (str r3.n), .string (str r3.p), .bool r3.m, .slice zA r3.d.length zc] 30)) (w14.alloc (.cells #[.string (str r3.n), .string (str r3.p), .bool r3.m, .slice zA r3.d.length zc] 30)).heap.size zA r3.d.length r3.d) := (hz.below ((Below.refl _ w14).alloc (Nat.le_refl _) _)).wide (by simp)
      have HW15 := Lib.hid (HW13.out.below hby HW13.out.lt)
      have HV15 := Lib.hid (HV13.out.below hby HV13.out.lt)
      have HX15 := Lib.hid (HX13.out.below hby HX13.out.lt)
      have HR15 := Lib.hid ((HR13.out.below hby).wide hby.size)
      have HB15 := Lib.hid (more3 HB13.out HB13.out.size hby)
      clear h14 hz hb14 hby HX13 HR13 HP13 HB13 HV13 HW13
      have hx0 : (w14.alloc (.cells #[.string (str r3.n), .string (str r3.p), .bool r3.m, .slice zA r3.d.length zc] 30)).cell? ⟨w10.heap.size, 0, none⟩ = some (.string (str ul)) := HV15.out.cell 0
      have hx1 : (w14.alloc (.cells #[.string (str r3.n), .string (str r3.p), .bool r3.m, .slice zA r3.d.length zc] 30)).cell? ⟨w10.heap.size, 1, none⟩ = some (.string (str (etcP ul))) := HV15.out.cell 1
      have hx2 : (w14.alloc (.cells #[.string (str r3.n), .string (str r3.p), .bool r3.m, .slice zA r3.d.length zc] 30)).cell? ⟨w10.heap.size, 2, none⟩ = some (.bool false) := HV15.out.cell 2
      have hy0 : (w14.alloc (.cells #[.string (str r3.n), .string (str r3.p), .bool r3.m, .slice zA r3.d.length zc] 30)).cell? ⟨w12.heap.size, 0, none⟩ = some (.string (str ul)) := HW15.out.cell 0
      have hy2 : (w14.alloc (.cells #[.string (str r3.n), .string (str r3.p), .bool r3.m, .slice zA r3.d.length zc] 30)).cell? ⟨w12.heap.size, 2, none⟩ = some (.bool true) := HW15.out.cell 2
      have hy3 : (w14.alloc (.cells #[.string (str r3.n), .string (str r3.p), .bool r3.m, .slice zA r3.d.length zc] 30)).cell? ⟨w12.heap.size, 3, none⟩ = some (.slice yA 0 yc) := HW15.out.cell 3
      have hs0 : (w14.alloc (.cells #[.string (str r3.n), .string (str r3.p), .bool r3.m, .slice zA r3.d.length zc] 30)).cell? ⟨w4.heap.size, 0, none⟩ = some (.string (str r0.n)) := HX15.out.cell 0
      have hz0 : (w14.alloc (.cells #[.string (str r3.n), .string (str r3.p), .bool r3.m, .slice zA r3.d.length zc] 30)).cell? ⟨w14.heap.size, 0, none⟩ = some (.string (str r3.n)) := HZ15.out.cell 0
      have hz1 : (w14.alloc (.cells #[.string (str r3.n), .string (str r3.p), .bool r3.m, .slice zA r3.d.length zc] 30)).cell? ⟨w14.heap.size, 1, none⟩ = some (.string (str r3.p)) := HZ15.out.cell 1
      have heu : ((str ul).toList == u.toList) = true := by rw [eq_strR, hul]; simp
      have he0 : ((str r0.n).toList == u.toList) = decide (r0.n = ul) := by rw [eq_strR, hul]
      have he3 : ((str r3.n).toList == u.toList) = decide (r3.n = ul) := by rw [eq_strR, hul]
      have heT : ((str (nmsP.tmpl r0.n)).toList == u.toList) = decide (nmsP.tmpl r0.n = ul) := by rw [eq_strR, hul]
      have heP : ((str r3.p).toList == (str (etcP ul)).toList) = decide (r3.p = etcP ul) := by rw [eq_strR, str_list]
      by_cases hk0 : k0 = 0
      · have HFF2 := HFF.out hk0
        have hr60 := HG0.out hk0
        subst hk0
        clear HFF HG0
        by_cases hA : r0.n = ul
        · rw [decide_eq_true hA] at he0
          go_wp2_with fail
          go_ret
          exact ⟨rfl, HB15.out⟩
        rw [decide_eq_false hA] at he0
        by_cases hB : r3.n = ul
        · rw [decide_eq_true hB] at he3
          clear hB
          go_wp2_with fail
          go_ret
          exact ⟨rfl, HB15.out⟩
        rw [decide_eq_false hB] at he3
        have HT : Hid (∀ W, Calls Try.prog 17 #[.string (str r0.n)] W fun e w' => e = .returned (.string (str (nmsP.tmpl r0.n))) ∧ Below W.heap.size W w') := fun W => by
          have := Nm.rTemplate_any (str r0.n) (by rw [str_size]; unfold maxLen; omega) W
          rw [← tmpl_str] at this
          exact this
        go_wp2_with fail
        generalize (w14.alloc (.cells #[.string (str r3.n), .string (str r3.p), .bool r3.m, .slice zA r3.d.length zc] 30)) = w15 at *
        refine (HT.out _).mono ?_
        rintro e w16 ⟨rfl, hb16⟩
        have HB16 := Lib.hid (more3 HB15.out HB15.out.size hb16)
        have HZ16 := Lib.hid (HZ15.out.below hb16 HZ15.out.lt)
        have HX16 := Lib.hid (HX15.out.below hb16 HX15.out.lt)
        have HR16 := Lib.hid ((HR15.out.below hb16).wide hb16.size)
        have HK16 := Lib.hid ((HK15.out.below hb16).wide hb16.size)
        have hz1' : w16.cell? ⟨w14.heap.size, 1, none⟩ = some (.string (str r3.p)) := HZ16.out.cell 1
        clear hx0 hx1 hx2 hy0 hy2 hy3 hs0 hz0 hz1 hb16 HZ15 HX15 HR15 HK15 HB15 HV15 HW15 HT
        by_cases hC : nmsP.tmpl r0.n = ul
        · rw [decide_eq_true hC] at heT
          go_wp2_with fail
          go_ret
          exact ⟨rfl, HB16.out⟩
        rw [decide_eq_false hC] at heT
        by_cases hD2 : r3.p = etcP ul
        · rw [decide_eq_true hD2] at heP
          go_wp2_with fail
          go_ret
          exact ⟨rfl, HB16.out⟩
        rw [decide_eq_false hD2] at heP
        obtain ⟨e3, rfl⟩ : r3 = r0 ∧ k3 = 0 := by
          rcases HFF2 with h | h | h
          · exact absurd h hB
          · exact absurd h hD2
          · exact h
        subst e3
        have hqx0 : w16.cell? ⟨w4.heap.size, 0, none⟩ = some (.string (str r3.n)) := HX16.out.cell 0
        have hqx1 : w16.cell? ⟨w4.heap.size, 1, none⟩ = some (.string (str r3.p)) := HX16.out.cell 1
        have hqx2 : w16.cell? ⟨w4.heap.size, 2, none⟩ = some (.bool r3.m) := HX16.out.cell 2
        have hqx3 : w16.cell? ⟨w4.heap.size, 3, none⟩ = some (.slice aA r3.d.length ac) := HX16.out.cell 3
        have hqz0 : w16.cell? ⟨w14.heap.size, 0, none⟩ = some (.string (str r3.n)) := HZ16.out.cell 0
        have hqz1 : w16.cell? ⟨w14.heap.size, 1, none⟩ = some (.string (str r3.p)) := HZ16.out.cell 1
        have hqz2 : w16.cell? ⟨w14.heap.size, 2, none⟩ = some (.bool r3.m) := HZ16.out.cell 2
        have hqz3 : w16.cell? ⟨w14.heap.size, 3, none⟩ = some (.slice zA r3.d.length zc) := HZ16.out.cell 3
        go_wp2_with fail
        have HSm := same_any r3.n r3.p r3.m aA r3.d.length ac r3.d r3.n r3.p r3.m zA r3.d.length zc r3.d _ w16 HR16.out HK16.out (Nat.le_refl _)
        rw [show sameB r3.n r3.p r3.m r3.d r3.n r3.p r3.m r3.d = true by simp [sameB]] at HSm
        refine HSm.mono ?_
        rintro e w17 ⟨rfl, hb17⟩
        have HB17 := Lib.hid (more3 HB16.out HB16.out.size hb17)
        go_wp2_with fail
        go_ret
        exact ⟨rfl, HB17.out⟩
      · have hk1 : (k0 == 0) = false := by simp [hk0]
        have hk2 : (k0 != 0) = true := by simp [hk0]
        go_wp2_with fail
        go_ret
        exact ⟨rfl, HB15.out⟩
end Go.Proofs.Ythodbeeglkedcaa
