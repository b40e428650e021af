/- The walk of the document's Split. -/
import Derived.Test.YtadifolonbkamaaGreatDoorKvbb
namespace Go.Proofs.YtadifolonbkamaaGreatDoor.Wd
open Go.Proofs.YtadifolonbkamaaGreatDoor.Ca
open Go.RowKit
theorem last_facts {w : World} {base g m cap : Nat} {ws : List (List UInt8)} {wd : List UInt8} (hm : ws.length = m) (h : w.ownsRow base 9 1 (.slice (some ⟨g, 0, none⟩) (m + 1) cap) (m + 1) (wcells (ws ++ [wd]))) :
    w.cell? ⟨g, m, none⟩ = some (.string (str wd)) ∧ w.frozen? ⟨g, m, none⟩ = false ∧ base ≤ g ∧ g < w.heap.size ∧
      ∀ x, (w.setCell ⟨g, m, none⟩ (.string (str x))).ownsRow base 9 1 (.slice (some ⟨g, 0, none⟩) (m + 1) cap) (m + 1) (wcells (ws ++ [x])) := by
  rcases h.2 with ⟨h1, _⟩ | ⟨g', cap', cur, h1, h2, h3, h4, h5, h6, h7⟩
  · cases h1
  injection h1 with h1 h11 h12
  injection h1 with h1
  injection h1 with h1
  subst h1 h12
  rw [Nat.mul_one] at h7
  have hc : cur[m]? = some (.string (str wd)) := by
    have : (cur.toList.take (m + 1))[m]? = some (.string (str wd)) := by
      rw [h7, wcells_app, List.getElem?_append_right (by rw [wcells_length]; omega), wcells_length, hm, Nat.sub_self]
      rfl
    rw [List.getElem?_take, if_pos (Nat.lt_succ_self m)] at this
    simpa using this
  refine ⟨by rw [cell_of_row w g m cur _ (0, 0) h3]; exact hc, Blk.frozen (t := 9) h3 m, h2, Blk.lt (t := 9) h3, fun x => ⟨by rw [wcells_length, List.length_append, hm]; simp, .inr ⟨g, cap, cur.setIfInBounds m (.string (str x)), rfl, h2, Blk.setAt (t := 9) h3 m _, h4, h5, by simpa using h6, ?_⟩⟩⟩
  rw [Nat.mul_one, Array.toList_setIfInBounds, List.take_set]
  rw [h7, wcells_app, wcells_app]
  rw [List.set_append_right _ _ (by rw [wcells_length]; omega), wcells_length, hm, Nat.sub_self]
  rfl
def goodQ (cur : Option (List UInt8)) (q : UInt8) : Prop := (q = 0 ∨ q = 39 ∨ q = 34) ∧ (q ≠ 0 → cur.isSome = true)
theorem read_bad {c : UInt8} {t : List UInt8} (h : badW c = true) : readW c t = (0, 0, 1) := by unfold readW; rw [if_pos h]
theorem read_esc0 {c : UInt8} {t : List UInt8} (hc : c = 92) (h : (escW t).2 = 0) : readW c t = (0, 0, 13) := by subst hc; unfold readW; rw [if_neg (by decide), if_pos rfl, if_pos h]
theorem read_esc1 {c : UInt8} {t : List UInt8} (hc : c = 92) (h : (escW t).2 ≠ 0) : readW c t = ((escW t).1, (escW t).2 + 1, 0) := by subst hc; unfold readW; rw [if_neg (by decide), if_pos rfl, if_neg h]
theorem read_one {c : UInt8} {t : List UInt8} (h : badW c = false) (hc : ¬ c = 92) : readW c t = (c, 1, 0) := by unfold readW; rw [if_neg (by rw [h]; simp), if_neg hc]
theorem splitE {s : ByteArray} {k er : Nat} {st : List (List UInt8) × Option (List UInt8) × UInt8} (hk : k < s.size) (hm : splitW s.data.toList = machW (s.data.toList.drop k) st) {b : UInt8} {n : Nat} (hr : readW s[k] (s.data.toList.drop (k + 1)) = (b, n, er)) (he : er ≠ 0) : splitW s.data.toList = ([], er) := by
  have h := (mach_at (drop_at s k hk) st).1
  rw [hr] at h
  rw [hm, h he]
theorem splitN {s : ByteArray} {k n : Nat} {st : List (List UInt8) × Option (List UInt8) × UInt8} (hk : k < s.size) (hm : splitW s.data.toList = machW (s.data.toList.drop k) st) {b : UInt8} (hr : readW s[k] (s.data.toList.drop (k + 1)) = (b, n, 0)) (ht : takeW b (decide (1 < n)) st = none) : splitW s.data.toList = ([], 2) := by
  have h := (mach_at (drop_at s k hk) st).2.1
  rw [hr] at h
  rw [hm, h rfl ht]
theorem splitS {s : ByteArray} {k n : Nat} {st st' : List (List UInt8) × Option (List UInt8) × UInt8} (hk : k < s.size) (hm : splitW s.data.toList = machW (s.data.toList.drop k) st) {b : UInt8} (hr : readW s[k] (s.data.toList.drop (k + 1)) = (b, n, 0)) (hn : 1 ≤ n) (ht : takeW b (decide (1 < n)) st = some st') : splitW s.data.toList = machW (s.data.toList.drop (k + n)) st' := by
  have h := (mach_at (drop_at s k hk) st).2.2 st'
  rw [hr] at h
  rw [hm, (h rfl ht).1, List.drop_drop]
  congr 2
  show k + 1 + (n - 1) = k + n
  omega
theorem conv_oneW (c : UInt8) (W : World) : (convert 120 9 (.slice (some ⟨W.heap.size, 0, none⟩) 1 1)).run Tryz.prog (W.alloc (.cells #[.int .u8 c.toNat] 5)).drew = .ok (.string (str [c])) (W.alloc (.cells #[.int .u8 c.toNat] 5)).drew :=
  conv_rowW (W.alloc (.cells #[.int .u8 c.toNat] 5)).drew W.heap.size _ [c] ⟨rfl, .inr ⟨W.heap.size, 1, #[.int .u8 c.toNat], rfl, Nat.le_refl _, Blk.new W 5 _, Nat.le_refl _, by unfold maxLen; omega, rfl, rfl⟩⟩
set_option maxHeartbeats 40000000 in
set_option maxRecDepth 100000 in
theorem rSplit_any (s : ByteArray) (hs : s.size ≤ 1048576) (w : World) :
    Calls Tryz.prog 64 #[.string s] w (SplitP s.data.toList w) := by
  obtain ⟨i0, hi, hz0, hz1, hz2⟩ := info_parts strInfoW
  have HQ0 : Hid (goodQ none 0) := ⟨.inl rfl, fun h => absurd rfl h⟩
  have HO0 : Hid (okW ([], none, 0)) := ⟨by simp, fun h => by cases h⟩
  go_enter Tryz.func64, Tryz.ntmps64
  go_wp2_with fail
  go_loopw [4, 5, 6, 7] (fun v inn qq i wr => ∃ (k : Nat) (ws : List (List UInt8)) (cur : Option (List UInt8)) (q : UInt8), k ≤ s.size ∧ (cur.getD []).length ≤ k ∧ i = .int .i64 k ∧ inn = .bool cur.isSome ∧ qq = .int .u8 q.toNat ∧ Hid (splitW s.data.toList = machW (s.data.toList.drop k) (ws, cur, q)) ∧ Hid (goodQ cur q) ∧ Hid (okW (ws, cur, q)) ∧ Hid (wr.ownsRow w.heap.size 9 1 v (endW ws cur).length (wcells (endW ws cur))) ∧ Hid (Below w.heap.size w wr)) (fun v inn qq i wr => s.size - (intOf i).toNat)
  case atStart => exact ⟨0, [], none, 0, Nat.zero_le _, Nat.zero_le _, rfl, rfl, rfl, rfl, HQ0, HO0, World.ownsRow_nil _ _ _ _, Below.refl _ _⟩
  case round =>
    obtain ⟨k, ws, cur, q, hk, hcl, rfl, rfl, rfl, hm, hq, hok, hB, hb⟩ := hrel
    have hbs : w.heap.size ≤ wr.heap.size := hb.out.size
    by_cases hlt : k < s.size
    · have hr := s[k].toNat_lt
      have b0 : (0 : Int) ≤ (k : Int) := by omega
      have b1 : (k : Int) < (s.size : Int) := by omega
      have b2 : (k : Int) ≤ (s.size : Int) := by omega
      by_cases h1 : s[k].toNat < 32 ∧ ¬ s[k].toNat = 9
      · have HS := Lib.hid (splitE hlt hm.out (read_bad (by unfold badW; have : (s[k] == 9) = false := by { simp only [beq_eq_false_iff_ne]; exact ne_of_nat h1.2 }; rw [this]; simp [h1.1])) (by decide))
        have f32 : ((s[k].toNat : Int) == 32) = false := by simp; omega
        have f9 : ((s[k].toNat : Int) == 9) = false := by simp; omega
        have flt : decide ((s[k].toNat : Int) < 32) = true := by simp; omega
        have fn9 : ((s[k].toNat : Int) != 9) = true := by simp; omega
        clear h1
        go_wp2_with fail
        go_ret2
        exact splitP_err HS.out hb.out
      by_cases h2 : s[k].toNat = 127
      · have HS := Lib.hid (splitE hlt hm.out (read_bad (by rw [show s[k] = 127 from byte_eq.2 h2]; rfl)) (by decide))
        have f32 : ((s[k].toNat : Int) == 32) = false := by simp; omega
        have f9 : ((s[k].toNat : Int) == 9) = false := by simp; omega
        have flt : decide ((s[k].toNat : Int) < 32) = false := by simp; omega
        have f127 : ((s[k].toNat : Int) == 127) = true := by simp; omega
        clear h1 h2
        go_wp2_with fail
        go_ret2
        exact splitP_err HS.out hb.out
      have HG : badW s[k] = false := by
        unfold badW
        simp only [Bool.or_eq_false_iff, Bool.and_eq_false_iff, decide_eq_false_iff_not, Bool.not_eq_false', beq_iff_eq, beq_eq_false_iff_ne]
        refine ⟨?_, ne_of_nat h2⟩
        by_cases h : s[k].toNat < 32
        · exact .inr (byte_eq.2 (by have : s[k].toNat = 9 := by { rcases Nat.decEq s[k].toNat 9 with h3 | h3; exact absurd ⟨h, h3⟩ h1; exact h3 }; exact this))
        · exact .inl h
      have f127 : ((s[k].toNat : Int) == 127) = false := by simp; omega
      by_cases hblank : q = 0 ∧ (s[k].toNat = 32 ∨ s[k].toNat = 9)
      · obtain ⟨hq0, hc⟩ := hblank
        rcases hc with hc | hc
        · have HR := read_one (t := s.data.toList.drop (k + 1)) HG (by rw [show s[k] = 32 from byte_eq.2 hc]; decide)
          have ht : takeW s[k] (decide (1 < 1)) (ws, cur, q) = some (endW ws cur, none, 0) := by unfold takeW; dsimp only; rw [if_pos ⟨rfl, hq0, by rw [show s[k] = 32 from byte_eq.2 hc]; first | done | rfl⟩]
          have HM := Lib.hid (splitS hlt hm.out HR (Nat.le_refl _) ht)
          have HO1 := Lib.hid (takeW_ok ht hok.out)
          have HQ1 : Hid (goodQ none 0) := ⟨.inl rfl, fun h => absurd rfl h⟩
          have HQ := Lib.hid hq0
          have q0 : ((q.toNat : Int) == 0) = true := by rw [hq0]; rfl
          have f32 : ((s[k].toNat : Int) == 32) = true := by simp; omega
          have flt : decide ((s[k].toNat : Int) < 32) = false := by simp; omega
          clear h1 h2 HG HR ht hc hq0
          go_wp2_with fail
          go_roundw
          case rel => exact ⟨k + 1, endW ws cur, none, 0, by omega, by simp, by go_num, rfl, by first | rfl | (rw [HQ.out]), HM, HQ1, HO1, hB, hb⟩
          case measure => simp [intOf]; omega
        · have HR := read_one (t := s.data.toList.drop (k + 1)) HG (by rw [show s[k] = 9 from byte_eq.2 hc]; decide)
          have ht : takeW s[k] (decide (1 < 1)) (ws, cur, q) = some (endW ws cur, none, 0) := by unfold takeW; dsimp only; rw [if_pos ⟨rfl, hq0, by rw [show s[k] = 9 from byte_eq.2 hc]; first | done | rfl⟩]
          have HM := Lib.hid (splitS hlt hm.out HR (Nat.le_refl _) ht)
          have HO1 := Lib.hid (takeW_ok ht hok.out)
          have HQ1 : Hid (goodQ none 0) := ⟨.inl rfl, fun h => absurd rfl h⟩
          have HQ := Lib.hid hq0
          have q0 : ((q.toNat : Int) == 0) = true := by rw [hq0]; rfl
          have f32 : ((s[k].toNat : Int) == 32) = false := by simp; omega
          have f9 : ((s[k].toNat : Int) == 9) = true := by simp; omega
          have flt : decide ((s[k].toNat : Int) < 32) = true := by simp; omega
          have fn9 : ((s[k].toNat : Int) != 9) = false := by simp; omega
          clear h1 h2 HG HR ht hc hq0
          go_wp2_with fail
          go_roundw
          case rel => exact ⟨k + 1, endW ws cur, none, 0, by omega, by simp, by go_num, rfl, by first | rfl | (rw [HQ.out]), HM, HQ1, HO1, hB, hb⟩
          case measure => simp [intOf]; omega
      cases cur with
      | none =>
        have hq0 : q = 0 := by
          rcases Classical.em (q = 0) with h | h
          · exact h
          · have := hq.out.2 h; cases this
        have hw33 : ws.length ≤ 32 := hok.out.1
        have hB0 : Hid (wr.ownsRow w.heap.size 9 1 _ ws.length (wcells ws)) := hB.out
        obtain ⟨A0, nv0, cv0, hvv, hnv⟩ : ∃ A nv cv, _ = Value.slice A nv cv ∧ nv = ws.length := by
          rcases hB0.out.2 with ⟨h1, h2⟩ | ⟨g, cap, cu, h1, _⟩
          · exact ⟨_, _, _, h1, h2.symm⟩
          · exact ⟨_, _, _, h1, rfl⟩
        subst hvv
        subst hnv
        by_cases hn92 : s[k] = 92
        · by_cases hl32 : ws.length = 32
          · have HW : Hid (∀ W, Calls Tryz.prog 91 #[.string (s.extract k s.size)] W fun e w' => e = .returned (.int .i64 (wrongC (s.extract k s.size))) ∧ ∃ n, w' = W.drewN n) := fun W => wrongAt_any _ (by rw [ByteArray.size_extract]; unfold maxLen; omega) (by rw [ByteArray.size_extract]; omega) W
            have HS : Hid (splitW s.data.toList = ([], wrongC (s.extract k s.size))) := by
              show _ = _
              have ew : wrongC (s.extract k s.size) = if s[k] = 92 ∧ (escW (s.data.toList.drop (k + 1))).2 = 0 then 13 else 2 := by
                unfold wrongC
                rw [tail_list, drop_at s k hlt]
                rfl
              rw [ew]
              by_cases he : (escW (s.data.toList.drop (k + 1))).2 = 0
              · rw [if_pos ⟨hn92, he⟩]
                exact splitE hlt hm.out (read_esc0 hn92 he) (by decide)
              · rw [if_neg (fun h => he h.2)]
                exact splitN hlt hm.out (read_esc1 hn92 he) (by unfold takeW; dsimp only; rw [if_neg (fun h => by have := h.1; simp at this; omega), if_pos hl32])
            have f32 : ((s[k].toNat : Int) == 32) = false := by rw [hn92]; rfl
            have f9 : ((s[k].toNat : Int) == 9) = false := by rw [hn92]; rfl
            have flt : decide ((s[k].toNat : Int) < 32) = false := by rw [hn92]; rfl
            have f92 : ((s[k].toNat : Int) == 92) = true := by rw [hn92]; rfl
            have l32 : ((ws.length : Int) == 32) = true := by simp; omega
            try clear HR
            try clear ht
            try clear h1
            try clear h2
            try clear HG
            try clear hbl
            try clear hc
            try clear hn92
            try clear hc32
            try clear hc9
            try clear h39
            try clear h34
            try clear hcq
            try clear hq0
            try clear hl32
            go_wp2_with fail
            refine (HW.out _).mono ?_
            rintro e w5 ⟨rfl, n5, rfl⟩
            go_wp2_with fail
            go_ret2
            exact splitP_err HS.out (below_drewN hb.out n5)
          have l32 : ((ws.length : Int) == 32) = false := by simp; omega
          have wlen : (0 : Nat) ≤ k := Nat.zero_le _
          obtain ⟨eb, en, hesc⟩ : ∃ eb en, escW (s.data.toList.drop (k + 1)) = (eb, en) := ⟨_, _, rfl⟩
          have hel := escW_len (s.data.toList.drop (k + 1))
          rw [hesc, List.length_drop, size_list] at hel
          have HEC : Hid (∀ W, Calls Tryz.prog 92 #[.string (s.extract (k + 1) s.size)] W fun e w' => e = .returned (.tuple #[.int .u8 eb.toNat, .int .i64 en]) ∧ ∃ n, w' = W.drewN n) := fun W => by
            have h := escape_any (s.extract (k + 1) s.size) (by rw [ByteArray.size_extract]; unfold maxLen; omega) W
            rw [escS5_tail, hesc] at h
            exact h
          dsimp only at hel
          by_cases hen : en = 0
          · have HS := Lib.hid (splitE hlt hm.out (read_esc0 hn92 (by rw [hesc]; exact hen)) (by decide))
            have f32 : ((s[k].toNat : Int) == 32) = false := by rw [hn92]; rfl
            have f9 : ((s[k].toNat : Int) == 9) = false := by rw [hn92]; rfl
            have flt : decide ((s[k].toNat : Int) < 32) = false := by rw [hn92]; rfl
            have f92 : ((s[k].toNat : Int) == 92) = true := by rw [hn92]; rfl
            have e0 : ((en : Int) == 0) = true := by simp; omega
            have b3 : (k : Int) + 1 ≤ (s.size : Int) := by omega
            have b5 : (0 : Int) ≤ (k : Int) + 1 := by omega
            clear hesc hen
            try clear HR
            try clear ht
            try clear h1
            try clear h2
            try clear HG
            try clear hbl
            try clear hc
            try clear hn92
            try clear hc32
            try clear hc9
            try clear h39
            try clear h34
            try clear hcq
            try clear hq0
            try clear hl32
            go_wp2_with (at_builtin; refine wpList_append_own _ rfl _ _ 26 rfl w.heap.size 9 i0 (.string ⟨#[]⟩) 1 16 Tryz.underlying26 hi hz0 hz1 hz2 rfl (by decide) _ _ _ rfl (hB0.out.alloc _) ⟨wr.heap.size, 0, none⟩ 1 1 [.string ⟨#[]⟩] rfl rfl ?d11 ?d12 ?d13 ?d14 ?d15 ?_)
            first
              | (case d11 =>
                  intro j u hj
                  match j, hj with
                  | 0, hj =>
                    simp at hj
                    subst hj
                    simp [Addr.add])
              | skip
            case d12 => first | rfl | (intro u hu; simp at hu; subst hu; rfl)
            case d13 => unfold maxLen; omega
            case d14 => omega
            case d15 => first | omega | (simp; omega)
            intro v' w2 hown' hgrow _
            have HBW : Hid (Below w.heap.size w w2) := (hb.out.alloc hbs _).grown hgrow (by simp; omega) (fun g hg => (hB0.out.lt g hg).1)
            obtain ⟨g, cap, rfl⟩ : ∃ g cap, v' = .slice (some ⟨g, 0, none⟩) (ws.length + 1) cap := by
              rcases hown'.2 with ⟨_, h0⟩ | ⟨g, cap, cu, hv, _⟩
              · omega
              · exact ⟨g, cap, hv⟩
            have HBR : Hid (w2.ownsRow w.heap.size 9 1 (.slice (some ⟨g, 0, none⟩) (ws.length + 1) cap) (ws.length + 1) (wcells (ws ++ [[]]))) := by rw [wcells_app]; exact hown'
            clear hown' hgrow
            obtain ⟨l1, l2, l3, l4, _⟩ := last_facts rfl HBR.out
            go_wp2_with fail
            refine (HEC.out _).mono ?_
            rintro e w5 ⟨rfl, n5, rfl⟩
            go_wp2_with fail
            go_ret2
            exact splitP_err HS.out (below_drewN HBW.out n5)
          · have HR := read_esc1 (t := s.data.toList.drop (k + 1)) hn92 (by rw [hesc]; exact hen)
            rw [hesc] at HR
            have ht : takeW eb (decide (1 < en + 1)) (ws, none, q) = some (ws, some ([] ++ [eb]), q) := by
              have e1 : decide (1 < en + 1) = true := by simp; omega
              rw [e1]; unfold takeW; dsimp only; rw [if_neg (by simp), if_neg (by omega), if_pos rfl]; rfl
            have HM := Lib.hid (splitS hlt hm.out HR (Nat.le_add_left _ _) ht)
            have HO1 := Lib.hid (takeW_ok ht hok.out)
            have HQ1 : Hid (goodQ (some ([] ++ [eb])) q) := ⟨hq.out.1, fun _ => rfl⟩
            have f32 : ((s[k].toNat : Int) == 32) = false := by rw [hn92]; rfl
            have f9 : ((s[k].toNat : Int) == 9) = false := by rw [hn92]; rfl
            have flt : decide ((s[k].toNat : Int) < 32) = false := by rw [hn92]; rfl
            have f92 : ((s[k].toNat : Int) == 92) = true := by rw [hn92]; rfl
            have e0 : ((en : Int) == 0) = false := by simp; omega
            have b3 : (k : Int) + 1 ≤ (s.size : Int) := by omega
            have b5 : (0 : Int) ≤ (k : Int) + 1 := by omega
            have b6 : (k : Int) + (en : Int) + 1 ≤ (s.size : Int) := by omega
            have b7 : (1 : Int) ≤ (en : Int) := by omega
            clear hesc
            try clear HR
            try clear ht
            try clear h1
            try clear h2
            try clear HG
            try clear hbl
            try clear hc
            try clear hn92
            try clear hc32
            try clear hc9
            try clear h39
            try clear h34
            try clear hcq
            try clear hq0
            try clear hl32
            go_wp2_with (at_builtin; refine wpList_append_own _ rfl _ _ 26 rfl w.heap.size 9 i0 (.string ⟨#[]⟩) 1 16 Tryz.underlying26 hi hz0 hz1 hz2 rfl (by decide) _ _ _ rfl (hB0.out.alloc _) ⟨wr.heap.size, 0, none⟩ 1 1 [.string ⟨#[]⟩] rfl rfl ?d21 ?d22 ?d23 ?d24 ?d25 ?_)
            first
              | (case d21 =>
                  intro j u hj
                  match j, hj with
                  | 0, hj =>
                    simp at hj
                    subst hj
                    simp [Addr.add])
              | skip
            case d22 => first | rfl | (intro u hu; simp at hu; subst hu; rfl)
            case d23 => unfold maxLen; omega
            case d24 => omega
            case d25 => first | omega | (simp; omega)
            intro v' w2 hown' hgrow _
            have HBW : Hid (Below w.heap.size w w2) := (hb.out.alloc hbs _).grown hgrow (by simp; omega) (fun g hg => (hB0.out.lt g hg).1)
            obtain ⟨g, cap, rfl⟩ : ∃ g cap, v' = .slice (some ⟨g, 0, none⟩) (ws.length + 1) cap := by
              rcases hown'.2 with ⟨_, h0⟩ | ⟨g, cap, cu, hv, _⟩
              · omega
              · exact ⟨g, cap, hv⟩
            have HBR : Hid (w2.ownsRow w.heap.size 9 1 (.slice (some ⟨g, 0, none⟩) (ws.length + 1) cap) (ws.length + 1) (wcells (ws ++ [[]]))) := by rw [wcells_app]; exact hown'
            clear hown' hgrow
            obtain ⟨l1, l2, l3, l4, _⟩ := last_facts rfl HBR.out
            go_wp2_with fail
            refine (HEC.out _).mono ?_
            rintro e w5 ⟨rfl, n5, rfl⟩
            have HBR1 : Hid ((w2.drewN n5).ownsRow w.heap.size 9 1 (.slice (some ⟨g, 0, none⟩) (ws.length + 1) cap) (ws.length + 1) (wcells (ws ++ [[]]))) := HBR.out
            have HBW1 := Lib.hid (below_drewN HBW.out n5)
            clear HBR HBW l1 l2 l4
            generalize w2.drewN n5 = w6 at *
            obtain ⟨l1, l2, _, l4, _⟩ := last_facts rfl HBR1.out
            obtain ⟨a1, a2, _, a4, _⟩ := last_facts rfl (HBR1.out.alloc (.cells #[.int .u8 eb.toNat] 5))
            have hcv := conv_oneW eb w6
            have zc : ¬ (9223372036854775807 < (str []).size + (str [eb]).size) := by rw [str_size, str_size]; simp; try omega
            have hb6 : ((w6.setCell ⟨g, ws.length, none⟩ (.string (str [] ++ str [eb]))).alloc (.cells #[.int .u8 eb.toNat] 5)).ownsRow w.heap.size 9 1 (.slice (some ⟨g, 0, none⟩) (ws.length + 1) cap) (endW ws (some ([] ++ [eb]))).length (wcells (endW ws (some ([] ++ [eb])))) := by
              have := ((last_facts rfl HBR1.out).2.2.2.2 ([] ++ [eb])).alloc (.cells #[.int .u8 eb.toNat] 5)
              rw [str_app]
              simpa [endW] using this
            have HB6 := Lib.hid hb6
            have Hb6 : Hid (Below w.heap.size w ((w6.setCell ⟨g, ws.length, none⟩ (.string (str [] ++ str [eb]))).alloc (.cells #[.int .u8 eb.toNat] 5))) := (HBW1.out.setCell (p := ⟨g, ws.length, none⟩) l3 _).alloc (by simpa [World.setCell] using HBW1.out.size) _
            clear hb6
            go_wp2_with fail
            go_region
            all_goals
              go_wp2_with fail
              go_roundw
              case rel => exact ⟨k + (en + 1), ws, some ([] ++ [eb]), q, by omega, by simp; try omega, by go_num, rfl, rfl, HM, HQ1, HO1, HB6.out, below_drewN Hb6.out 1⟩
              case measure => simp [intOf]; omega
        have hc32 : ¬ s[k] = 32 := fun e => hblank ⟨hq0, .inl (by rw [e]; rfl)⟩
        have hc9 : ¬ s[k] = 9 := fun e => hblank ⟨hq0, .inr (by rw [e]; rfl)⟩
        have hbl : blankW s[k] = false := by
          unfold blankW
          rw [Bool.or_eq_false_iff, beq_eq_false_iff_ne, beq_eq_false_iff_ne]
          exact ⟨hc32, hc9⟩
        by_cases hl32 : ws.length = 32
        · have HW : Hid (∀ W, Calls Tryz.prog 91 #[.string (s.extract k s.size)] W fun e w' => e = .returned (.int .i64 (wrongC (s.extract k s.size))) ∧ ∃ n, w' = W.drewN n) := fun W => wrongAt_any _ (by rw [ByteArray.size_extract]; unfold maxLen; omega) (by rw [ByteArray.size_extract]; omega) W
          have HS : Hid (splitW s.data.toList = ([], wrongC (s.extract k s.size))) := by
            show _ = _
            have ew : wrongC (s.extract k s.size) = if s[k] = 92 ∧ (escW (s.data.toList.drop (k + 1))).2 = 0 then 13 else 2 := by
              unfold wrongC
              rw [tail_list, drop_at s k hlt]
              rfl
            rw [ew]
            rw [if_neg (fun h => hn92 h.1)]
            exact splitN hlt hm.out (read_one HG hn92) (by unfold takeW; dsimp only; rw [if_neg (fun h => by rw [hbl] at h; exact absurd h.2.2 (by simp)), if_pos hl32])
          have f32 : ((s[k].toNat : Int) == 32) = false := by
            simp only [beq_eq_false_iff_ne, ne_eq]
            intro e
            exact hc32 (byte_eq.2 (by show _ = 32; omega))
          have f9 : ((s[k].toNat : Int) == 9) = false := by
            simp only [beq_eq_false_iff_ne, ne_eq]
            intro e
            exact hc9 (byte_eq.2 (by show _ = 9; omega))
          have flt : decide ((s[k].toNat : Int) < 32) = false := by
            simp only [decide_eq_false_iff_not]
            intro e
            exact h1 ⟨by omega, fun e2 => hc9 (byte_eq.2 e2)⟩
          have f92 : ((s[k].toNat : Int) == 92) = false := by
            simp only [beq_eq_false_iff_ne, ne_eq]
            intro e
            exact hn92 (byte_eq.2 (by show _ = 92; omega))
          have l32 : ((ws.length : Int) == 32) = true := by simp; omega
          try clear HR
          try clear ht
          try clear h1
          try clear h2
          try clear HG
          try clear hbl
          try clear hc
          try clear hn92
          try clear hc32
          try clear hc9
          try clear h39
          try clear h34
          try clear hcq
          try clear hq0
          try clear hl32
          go_wp2_with fail
          refine (HW.out _).mono ?_
          rintro e w5 ⟨rfl, n5, rfl⟩
          go_wp2_with fail
          go_ret2
          exact splitP_err HS.out (below_drewN hb.out n5)
        have l32 : ((ws.length : Int) == 32) = false := by simp; omega
        have wlen : (0 : Nat) ≤ k := Nat.zero_le _
        by_cases h39 : s[k] = 39
        · have HR := read_one (t := s.data.toList.drop (k + 1)) HG hn92
          have ht : takeW s[k] (decide (1 < 1)) (ws, none, q) = some (ws, some [], s[k]) := by unfold takeW; dsimp only; rw [if_neg (fun h => by rw [hbl] at h; exact absurd h.2.2 (by simp)), if_neg (by omega), if_neg (by simp), if_neg (fun h => h.1 hq0), if_pos ⟨hq0, by first | exact .inl h39 | exact .inr h34⟩]; rfl
          have HM := Lib.hid (splitS hlt hm.out HR (Nat.le_refl _) ht)
          have HO1 := Lib.hid (takeW_ok ht hok.out)
          have q0 : ((q.toNat : Int) == 0) = true := by rw [hq0]; rfl
          have q0n : ((q.toNat : Int) != 0) = false := by rw [hq0]; rfl
          have s39 : ((s[k].toNat : Int) == 39) = true := by rw [h39]; rfl
          have f32 : ((s[k].toNat : Int) == 32) = false := by
            simp only [beq_eq_false_iff_ne, ne_eq]
            intro e
            exact hc32 (byte_eq.2 (by show _ = 32; omega))
          have f9 : ((s[k].toNat : Int) == 9) = false := by
            simp only [beq_eq_false_iff_ne, ne_eq]
            intro e
            exact hc9 (byte_eq.2 (by show _ = 9; omega))
          have flt : decide ((s[k].toNat : Int) < 32) = false := by
            simp only [decide_eq_false_iff_not]
            intro e
            exact h1 ⟨by omega, fun e2 => hc9 (byte_eq.2 e2)⟩
          have f92 : ((s[k].toNat : Int) == 92) = false := by
            simp only [beq_eq_false_iff_ne, ne_eq]
            intro e
            exact hn92 (byte_eq.2 (by show _ = 92; omega))
          have HQ1 : Hid (goodQ (some ([] : List UInt8)) s[k]) := ⟨by first | exact .inr (.inl h39) | exact .inr (.inr h34), fun _ => rfl⟩
          try clear HR
          try clear ht
          try clear h1
          try clear h2
          try clear HG
          try clear hbl
          try clear hc
          try clear hn92
          try clear hc32
          try clear hc9
          try clear h39
          try clear h34
          try clear hcq
          try clear hq0
          try clear hl32
          go_wp2_with (at_builtin; refine wpList_append_own _ rfl _ _ 26 rfl w.heap.size 9 i0 (.string ⟨#[]⟩) 1 16 Tryz.underlying26 hi hz0 hz1 hz2 rfl (by decide) _ _ _ rfl (hB0.out.alloc _) ⟨wr.heap.size, 0, none⟩ 1 1 [.string ⟨#[]⟩] rfl rfl ?d31 ?d32 ?d33 ?d34 ?d35 ?_)
          first
            | (case d31 =>
                intro j u hj
                match j, hj with
                | 0, hj =>
                  simp at hj
                  subst hj
                  simp [Addr.add])
            | skip
          case d32 => first | rfl | (intro u hu; simp at hu; subst hu; rfl)
          case d33 => unfold maxLen; omega
          case d34 => omega
          case d35 => first | omega | (simp; omega)
          intro v' w2 hown' hgrow _
          have HBW : Hid (Below w.heap.size w w2) := (hb.out.alloc hbs _).grown hgrow (by simp; omega) (fun g hg => (hB0.out.lt g hg).1)
          obtain ⟨g, cap, rfl⟩ : ∃ g cap, v' = .slice (some ⟨g, 0, none⟩) (ws.length + 1) cap := by
            rcases hown'.2 with ⟨_, h0⟩ | ⟨g, cap, cu, hv, _⟩
            · omega
            · exact ⟨g, cap, hv⟩
          have HBR : Hid (w2.ownsRow w.heap.size 9 1 (.slice (some ⟨g, 0, none⟩) (ws.length + 1) cap) (ws.length + 1) (wcells (ws ++ [[]]))) := by rw [wcells_app]; exact hown'
          clear hown' hgrow
          obtain ⟨l1, l2, l3, l4, _⟩ := last_facts rfl HBR.out
          have HB6 : Hid (w2.ownsRow w.heap.size 9 1 (.slice (some ⟨g, 0, none⟩) (ws.length + 1) cap) (endW ws (some ([] : List UInt8))).length (wcells (endW ws (some ([] : List UInt8))))) := by have := HBR.out; simpa [endW, Hid] using this
          go_wp2_with fail
          go_roundw
          case rel => exact ⟨k + 1, ws, some [], s[k], by omega, by simp; try omega, by go_num, rfl, rfl, HM, HQ1, HO1, HB6.out, HBW⟩
          case measure => simp [intOf]; omega
        by_cases h34 : s[k] = 34
        · have HR := read_one (t := s.data.toList.drop (k + 1)) HG hn92
          have ht : takeW s[k] (decide (1 < 1)) (ws, none, q) = some (ws, some [], s[k]) := by unfold takeW; dsimp only; rw [if_neg (fun h => by rw [hbl] at h; exact absurd h.2.2 (by simp)), if_neg (by omega), if_neg (by simp), if_neg (fun h => h.1 hq0), if_pos ⟨hq0, by first | exact .inl h39 | exact .inr h34⟩]; rfl
          have HM := Lib.hid (splitS hlt hm.out HR (Nat.le_refl _) ht)
          have HO1 := Lib.hid (takeW_ok ht hok.out)
          have q0 : ((q.toNat : Int) == 0) = true := by rw [hq0]; rfl
          have q0n : ((q.toNat : Int) != 0) = false := by rw [hq0]; rfl
          have s39 : ((s[k].toNat : Int) == 39) = false := by rw [h34]; rfl
          have s34 : ((s[k].toNat : Int) == 34) = true := by rw [h34]; rfl
          have f32 : ((s[k].toNat : Int) == 32) = false := by
            simp only [beq_eq_false_iff_ne, ne_eq]
            intro e
            exact hc32 (byte_eq.2 (by show _ = 32; omega))
          have f9 : ((s[k].toNat : Int) == 9) = false := by
            simp only [beq_eq_false_iff_ne, ne_eq]
            intro e
            exact hc9 (byte_eq.2 (by show _ = 9; omega))
          have flt : decide ((s[k].toNat : Int) < 32) = false := by
            simp only [decide_eq_false_iff_not]
            intro e
            exact h1 ⟨by omega, fun e2 => hc9 (byte_eq.2 e2)⟩
          have f92 : ((s[k].toNat : Int) == 92) = false := by
            simp only [beq_eq_false_iff_ne, ne_eq]
            intro e
            exact hn92 (byte_eq.2 (by show _ = 92; omega))
          have HQ1 : Hid (goodQ (some ([] : List UInt8)) s[k]) := ⟨by first | exact .inr (.inl h39) | exact .inr (.inr h34), fun _ => rfl⟩
          try clear HR
          try clear ht
          try clear h1
          try clear h2
          try clear HG
          try clear hbl
          try clear hc
          try clear hn92
          try clear hc32
          try clear hc9
          try clear h39
          try clear h34
          try clear hcq
          try clear hq0
          try clear hl32
          go_wp2_with (at_builtin; refine wpList_append_own _ rfl _ _ 26 rfl w.heap.size 9 i0 (.string ⟨#[]⟩) 1 16 Tryz.underlying26 hi hz0 hz1 hz2 rfl (by decide) _ _ _ rfl (hB0.out.alloc _) ⟨wr.heap.size, 0, none⟩ 1 1 [.string ⟨#[]⟩] rfl rfl ?d41 ?d42 ?d43 ?d44 ?d45 ?_)
          first
            | (case d41 =>
                intro j u hj
                match j, hj with
                | 0, hj =>
                  simp at hj
                  subst hj
                  simp [Addr.add])
            | skip
          case d42 => first | rfl | (intro u hu; simp at hu; subst hu; rfl)
          case d43 => unfold maxLen; omega
          case d44 => omega
          case d45 => first | omega | (simp; omega)
          intro v' w2 hown' hgrow _
          have HBW : Hid (Below w.heap.size w w2) := (hb.out.alloc hbs _).grown hgrow (by simp; omega) (fun g hg => (hB0.out.lt g hg).1)
          obtain ⟨g, cap, rfl⟩ : ∃ g cap, v' = .slice (some ⟨g, 0, none⟩) (ws.length + 1) cap := by
            rcases hown'.2 with ⟨_, h0⟩ | ⟨g, cap, cu, hv, _⟩
            · omega
            · exact ⟨g, cap, hv⟩
          have HBR : Hid (w2.ownsRow w.heap.size 9 1 (.slice (some ⟨g, 0, none⟩) (ws.length + 1) cap) (ws.length + 1) (wcells (ws ++ [[]]))) := by rw [wcells_app]; exact hown'
          clear hown' hgrow
          obtain ⟨l1, l2, l3, l4, _⟩ := last_facts rfl HBR.out
          have HB6 : Hid (w2.ownsRow w.heap.size 9 1 (.slice (some ⟨g, 0, none⟩) (ws.length + 1) cap) (endW ws (some ([] : List UInt8))).length (wcells (endW ws (some ([] : List UInt8))))) := by have := HBR.out; simpa [endW, Hid] using this
          go_wp2_with fail
          go_roundw
          case rel => exact ⟨k + 1, ws, some [], s[k], by omega, by simp; try omega, by go_num, rfl, rfl, HM, HQ1, HO1, HB6.out, HBW⟩
          case measure => simp [intOf]; omega
        have HR := read_one (t := s.data.toList.drop (k + 1)) HG hn92
        have ht : takeW s[k] (decide (1 < 1)) (ws, none, q) = some (ws, some ([] ++ [s[k]]), q) := by unfold takeW; dsimp only; rw [if_neg (fun h => by rw [hbl] at h; exact absurd h.2.2 (by simp)), if_neg (by omega), if_neg (by simp), if_neg (fun h => h.1 hq0), if_neg (by rintro ⟨_, h | h⟩; exact h39 h; exact h34 h)]; rfl
        have HM := Lib.hid (splitS hlt hm.out HR (Nat.le_refl _) ht)
        have HO1 := Lib.hid (takeW_ok ht hok.out)
        have q0 : ((q.toNat : Int) == 0) = true := by rw [hq0]; rfl
        have q0n : ((q.toNat : Int) != 0) = false := by rw [hq0]; rfl
        have s39 : ((s[k].toNat : Int) == 39) = false := by
          simp only [beq_eq_false_iff_ne, ne_eq]
          intro e
          exact h39 (byte_eq.2 (by show _ = 39; omega))
        have s34 : ((s[k].toNat : Int) == 34) = false := by
          simp only [beq_eq_false_iff_ne, ne_eq]
          intro e
          exact h34 (byte_eq.2 (by show _ = 34; omega))
        have f32 : ((s[k].toNat : Int) == 32) = false := by
          simp only [beq_eq_false_iff_ne, ne_eq]
          intro e
          exact hc32 (byte_eq.2 (by show _ = 32; omega))
        have f9 : ((s[k].toNat : Int) == 9) = false := by
          simp only [beq_eq_false_iff_ne, ne_eq]
          intro e
          exact hc9 (byte_eq.2 (by show _ = 9; omega))
        have flt : decide ((s[k].toNat : Int) < 32) = false := by
          simp only [decide_eq_false_iff_not]
          intro e
          exact h1 ⟨by omega, fun e2 => hc9 (byte_eq.2 e2)⟩
        have f92 : ((s[k].toNat : Int) == 92) = false := by
          simp only [beq_eq_false_iff_ne, ne_eq]
          intro e
          exact hn92 (byte_eq.2 (by show _ = 92; omega))
        have HQ1 : Hid (goodQ (some ([] ++ [s[k]])) q) := ⟨hq.out.1, fun _ => rfl⟩
        try clear HR
        try clear ht
        try clear h1
        try clear h2
        try clear HG
        try clear hbl
        try clear hc
        try clear hn92
        try clear hc32
        try clear hc9
        try clear h39
        try clear h34
        try clear hcq
        try clear hq0
        try clear hl32
        go_wp2_with (at_builtin; refine wpList_append_own _ rfl _ _ 26 rfl w.heap.size 9 i0 (.string ⟨#[]⟩) 1 16 Tryz.underlying26 hi hz0 hz1 hz2 rfl (by decide) _ _ _ rfl (hB0.out.alloc _) ⟨wr.heap.size, 0, none⟩ 1 1 [.string ⟨#[]⟩] rfl rfl ?d51 ?d52 ?d53 ?d54 ?d55 ?_)
        first
          | (case d51 =>
              intro j u hj
              match j, hj with
              | 0, hj =>
                simp at hj
                subst hj
                simp [Addr.add])
          | skip
        case d52 => first | rfl | (intro u hu; simp at hu; subst hu; rfl)
        case d53 => unfold maxLen; omega
        case d54 => omega
        case d55 => first | omega | (simp; omega)
        intro v' w2 hown' hgrow _
        have HBW : Hid (Below w.heap.size w w2) := (hb.out.alloc hbs _).grown hgrow (by simp; omega) (fun g hg => (hB0.out.lt g hg).1)
        obtain ⟨g, cap, rfl⟩ : ∃ g cap, v' = .slice (some ⟨g, 0, none⟩) (ws.length + 1) cap := by
          rcases hown'.2 with ⟨_, h0⟩ | ⟨g, cap, cu, hv, _⟩
          · omega
          · exact ⟨g, cap, hv⟩
        have HBR : Hid (w2.ownsRow w.heap.size 9 1 (.slice (some ⟨g, 0, none⟩) (ws.length + 1) cap) (ws.length + 1) (wcells (ws ++ [[]]))) := by rw [wcells_app]; exact hown'
        clear hown' hgrow
        obtain ⟨l1, l2, l3, l4, _⟩ := last_facts rfl HBR.out
        have HS1 := Lib.hid (one_slice s k hlt)
        have zc : ¬ (9223372036854775807 < (str []).size + (s.extract k (k + 1)).size) := by rw [HS1.out, str_size, str_size]; simp; try omega
        have b3 : (k : Int) ≤ (k : Int) + 1 := by omega
        have b4 : (k : Int) + 1 ≤ (s.size : Int) := by omega
        have hb6 : (w2.setCell ⟨g, ws.length, none⟩ (.string (str [] ++ s.extract k (k + 1)))).ownsRow w.heap.size 9 1 (.slice (some ⟨g, 0, none⟩) (ws.length + 1) cap) (endW ws (some ([] ++ [s[k]]))).length (wcells (endW ws (some ([] ++ [s[k]])))) := by
          have := (last_facts rfl HBR.out).2.2.2.2 ([] ++ [s[k]])
          rw [HS1.out, str_app]
          simpa [endW] using this
        have HB6 := Lib.hid hb6
        have Hb6 : Hid (Below w.heap.size w (w2.setCell ⟨g, ws.length, none⟩ (.string (str [] ++ s.extract k (k + 1))))) := HBW.out.setCell (p := ⟨g, ws.length, none⟩) l3 _
        clear hb6
        go_wp2_with fail
        go_region
        go_wp2_with fail
        go_roundw
        case rel => exact ⟨k + 1, ws, some ([] ++ [s[k]]), q, by omega, by simp; try omega, by go_num, rfl, rfl, HM, HQ1, HO1, HB6.out, below_drewN Hb6.out 1⟩
        case measure => simp [intOf]; omega
      | some wd =>
        have wlen : wd.length ≤ k := hcl
        have hw32 : ws.length < 32 := hok.out.2 rfl
        by_cases hn92 : s[k] = 92
        · obtain ⟨eb, en, hesc⟩ : ∃ eb en, escW (s.data.toList.drop (k + 1)) = (eb, en) := ⟨_, _, rfl⟩
          have hel := escW_len (s.data.toList.drop (k + 1))
          rw [hesc, List.length_drop, size_list] at hel
          have HEC : Hid (∀ W, Calls Tryz.prog 92 #[.string (s.extract (k + 1) s.size)] W fun e w' => e = .returned (.tuple #[.int .u8 eb.toNat, .int .i64 en]) ∧ ∃ n, w' = W.drewN n) := fun W => by
            have h := escape_any (s.extract (k + 1) s.size) (by rw [ByteArray.size_extract]; unfold maxLen; omega) W
            rw [escS5_tail, hesc] at h
            exact h
          dsimp only at hel
          by_cases hen : en = 0
          · have HS := Lib.hid (splitE hlt hm.out (read_esc0 hn92 (by rw [hesc]; exact hen)) (by decide))
            have f32 : ((s[k].toNat : Int) == 32) = false := by rw [hn92]; rfl
            have f9 : ((s[k].toNat : Int) == 9) = false := by rw [hn92]; rfl
            have flt : decide ((s[k].toNat : Int) < 32) = false := by rw [hn92]; rfl
            have f92 : ((s[k].toNat : Int) == 92) = true := by rw [hn92]; rfl
            have hr2 := hB.out.2
            simp only [endW, List.length_append, List.length_singleton] at hr2
            obtain ⟨g, cap, cu, rfl, _⟩ := hr2.resolve_left (fun h => by omega)
            clear hr2
            have HBR : Hid (wr.ownsRow w.heap.size 9 1 (.slice (some ⟨g, 0, none⟩) (ws.length + 1) cap) (ws.length + 1) (wcells (ws ++ [wd]))) := by have := hB.out; simpa [endW, Hid] using this
            have HBW := Lib.hid hb.out
            obtain ⟨l1, l2, l3, l4, _⟩ := last_facts rfl HBR.out
            have e0 : ((en : Int) == 0) = true := by simp; omega
            have b3 : (k : Int) + 1 ≤ (s.size : Int) := by omega
            have b5 : (0 : Int) ≤ (k : Int) + 1 := by omega
            clear hesc hen
            try clear HR
            try clear ht
            try clear h1
            try clear h2
            try clear HG
            try clear hbl
            try clear hc
            try clear hn92
            try clear hc32
            try clear hc9
            try clear h39
            try clear h34
            try clear hcq
            try clear hq0
            try clear hl32
            go_wp2_with fail
            refine (HEC.out _).mono ?_
            rintro e w5 ⟨rfl, n5, rfl⟩
            go_wp2_with fail
            go_ret2
            exact splitP_err HS.out (below_drewN HBW.out n5)
          · have HR := read_esc1 (t := s.data.toList.drop (k + 1)) hn92 (by rw [hesc]; exact hen)
            rw [hesc] at HR
            have ht : takeW eb (decide (1 < en + 1)) (ws, some wd, q) = some (ws, some (wd ++ [eb]), q) := by
              have e1 : decide (1 < en + 1) = true := by simp; omega
              rw [e1]; unfold takeW; dsimp only; rw [if_neg (by simp), if_neg (by omega), if_pos rfl]; rfl
            have HM := Lib.hid (splitS hlt hm.out HR (Nat.le_add_left _ _) ht)
            have HO1 := Lib.hid (takeW_ok ht hok.out)
            have HQ1 : Hid (goodQ (some (wd ++ [eb])) q) := ⟨hq.out.1, fun _ => rfl⟩
            have f32 : ((s[k].toNat : Int) == 32) = false := by rw [hn92]; rfl
            have f9 : ((s[k].toNat : Int) == 9) = false := by rw [hn92]; rfl
            have flt : decide ((s[k].toNat : Int) < 32) = false := by rw [hn92]; rfl
            have f92 : ((s[k].toNat : Int) == 92) = true := by rw [hn92]; rfl
            have hr2 := hB.out.2
            simp only [endW, List.length_append, List.length_singleton] at hr2
            obtain ⟨g, cap, cu, rfl, _⟩ := hr2.resolve_left (fun h => by omega)
            clear hr2
            have HBR : Hid (wr.ownsRow w.heap.size 9 1 (.slice (some ⟨g, 0, none⟩) (ws.length + 1) cap) (ws.length + 1) (wcells (ws ++ [wd]))) := by have := hB.out; simpa [endW, Hid] using this
            have HBW := Lib.hid hb.out
            obtain ⟨l1, l2, l3, l4, _⟩ := last_facts rfl HBR.out
            have e0 : ((en : Int) == 0) = false := by simp; omega
            have b3 : (k : Int) + 1 ≤ (s.size : Int) := by omega
            have b5 : (0 : Int) ≤ (k : Int) + 1 := by omega
            have b6 : (k : Int) + (en : Int) + 1 ≤ (s.size : Int) := by omega
            have b7 : (1 : Int) ≤ (en : Int) := by omega
            clear hesc
            try clear HR
            try clear ht
            try clear h1
            try clear h2
            try clear HG
            try clear hbl
            try clear hc
            try clear hn92
            try clear hc32
            try clear hc9
            try clear h39
            try clear h34
            try clear hcq
            try clear hq0
            try clear hl32
            go_wp2_with fail
            refine (HEC.out _).mono ?_
            rintro e w5 ⟨rfl, n5, rfl⟩
            have HBR1 : Hid ((wr.drewN n5).ownsRow w.heap.size 9 1 (.slice (some ⟨g, 0, none⟩) (ws.length + 1) cap) (ws.length + 1) (wcells (ws ++ [wd]))) := HBR.out
            have HBW1 := Lib.hid (below_drewN HBW.out n5)
            clear HBR HBW l1 l2 l4
            generalize wr.drewN n5 = w6 at *
            obtain ⟨l1, l2, _, l4, _⟩ := last_facts rfl HBR1.out
            obtain ⟨a1, a2, _, a4, _⟩ := last_facts rfl (HBR1.out.alloc (.cells #[.int .u8 eb.toNat] 5))
            have hcv := conv_oneW eb w6
            have zc : ¬ (9223372036854775807 < (str wd).size + (str [eb]).size) := by rw [str_size, str_size]; simp; try omega
            have hb6 : ((w6.setCell ⟨g, ws.length, none⟩ (.string (str wd ++ str [eb]))).alloc (.cells #[.int .u8 eb.toNat] 5)).ownsRow w.heap.size 9 1 (.slice (some ⟨g, 0, none⟩) (ws.length + 1) cap) (endW ws (some (wd ++ [eb]))).length (wcells (endW ws (some (wd ++ [eb])))) := by
              have := ((last_facts rfl HBR1.out).2.2.2.2 (wd ++ [eb])).alloc (.cells #[.int .u8 eb.toNat] 5)
              rw [str_app]
              simpa [endW] using this
            have HB6 := Lib.hid hb6
            have Hb6 : Hid (Below w.heap.size w ((w6.setCell ⟨g, ws.length, none⟩ (.string (str wd ++ str [eb]))).alloc (.cells #[.int .u8 eb.toNat] 5))) := (HBW1.out.setCell (p := ⟨g, ws.length, none⟩) l3 _).alloc (by simpa [World.setCell] using HBW1.out.size) _
            clear hb6
            go_wp2_with fail
            go_region
            all_goals
              go_wp2_with fail
              go_roundw
              case rel => exact ⟨k + (en + 1), ws, some (wd ++ [eb]), q, by omega, by simp; try omega, by go_num, rfl, rfl, HM, HQ1, HO1, HB6.out, below_drewN Hb6.out 1⟩
              case measure => simp [intOf]; omega
        by_cases hq0 : q = 0
        · have hc32 : ¬ s[k] = 32 := fun e => hblank ⟨hq0, .inl (by rw [e]; rfl)⟩
          have hc9 : ¬ s[k] = 9 := fun e => hblank ⟨hq0, .inr (by rw [e]; rfl)⟩
          have hbl : blankW s[k] = false := by
            unfold blankW
            rw [Bool.or_eq_false_iff, beq_eq_false_iff_ne, beq_eq_false_iff_ne]
            exact ⟨hc32, hc9⟩
          by_cases h39 : s[k] = 39
          · have HR := read_one (t := s.data.toList.drop (k + 1)) HG hn92
            have ht : takeW s[k] (decide (1 < 1)) (ws, some wd, q) = some (ws, some wd, s[k]) := by unfold takeW; dsimp only; rw [if_neg (fun h => by rw [hbl] at h; exact absurd h.2.2 (by simp)), if_neg (by omega), if_neg (by simp), if_neg (fun h => h.1 hq0), if_pos ⟨hq0, by first | exact .inl h39 | exact .inr h34⟩]; rfl
            have HM := Lib.hid (splitS hlt hm.out HR (Nat.le_refl _) ht)
            have HO1 := Lib.hid (takeW_ok ht hok.out)
            have q0 : ((q.toNat : Int) == 0) = true := by rw [hq0]; rfl
            have q0n : ((q.toNat : Int) != 0) = false := by rw [hq0]; rfl
            have s39 : ((s[k].toNat : Int) == 39) = true := by rw [h39]; rfl
            have f32 : ((s[k].toNat : Int) == 32) = false := by
              simp only [beq_eq_false_iff_ne, ne_eq]
              intro e
              exact hc32 (byte_eq.2 (by show _ = 32; omega))
            have f9 : ((s[k].toNat : Int) == 9) = false := by
              simp only [beq_eq_false_iff_ne, ne_eq]
              intro e
              exact hc9 (byte_eq.2 (by show _ = 9; omega))
            have flt : decide ((s[k].toNat : Int) < 32) = false := by
              simp only [decide_eq_false_iff_not]
              intro e
              exact h1 ⟨by omega, fun e2 => hc9 (byte_eq.2 e2)⟩
            have f92 : ((s[k].toNat : Int) == 92) = false := by
              simp only [beq_eq_false_iff_ne, ne_eq]
              intro e
              exact hn92 (byte_eq.2 (by show _ = 92; omega))
            have hr2 := hB.out.2
            simp only [endW, List.length_append, List.length_singleton] at hr2
            obtain ⟨g, cap, cu, rfl, _⟩ := hr2.resolve_left (fun h => by omega)
            clear hr2
            have HBR : Hid (wr.ownsRow w.heap.size 9 1 (.slice (some ⟨g, 0, none⟩) (ws.length + 1) cap) (ws.length + 1) (wcells (ws ++ [wd]))) := by have := hB.out; simpa [endW, Hid] using this
            have HBW := Lib.hid hb.out
            obtain ⟨l1, l2, l3, l4, _⟩ := last_facts rfl HBR.out
            have HQ1 : Hid (goodQ (some (wd : List UInt8)) s[k]) := ⟨by first | exact .inr (.inl h39) | exact .inr (.inr h34), fun _ => rfl⟩
            try clear HR
            try clear ht
            try clear h1
            try clear h2
            try clear HG
            try clear hbl
            try clear hc
            try clear hn92
            try clear hc32
            try clear hc9
            try clear h39
            try clear h34
            try clear hcq
            try clear hq0
            try clear hl32
            have HB6 : Hid (wr.ownsRow w.heap.size 9 1 (.slice (some ⟨g, 0, none⟩) (ws.length + 1) cap) (endW ws (some (wd : List UInt8))).length (wcells (endW ws (some (wd : List UInt8))))) := by have := HBR.out; simpa [endW, Hid] using this
            go_wp2_with fail
            go_roundw
            case rel => exact ⟨k + 1, ws, some wd, s[k], by omega, by simp; try omega, by go_num, rfl, rfl, HM, HQ1, HO1, HB6.out, HBW⟩
            case measure => simp [intOf]; omega
          by_cases h34 : s[k] = 34
          · have HR := read_one (t := s.data.toList.drop (k + 1)) HG hn92
            have ht : takeW s[k] (decide (1 < 1)) (ws, some wd, q) = some (ws, some wd, s[k]) := by unfold takeW; dsimp only; rw [if_neg (fun h => by rw [hbl] at h; exact absurd h.2.2 (by simp)), if_neg (by omega), if_neg (by simp), if_neg (fun h => h.1 hq0), if_pos ⟨hq0, by first | exact .inl h39 | exact .inr h34⟩]; rfl
            have HM := Lib.hid (splitS hlt hm.out HR (Nat.le_refl _) ht)
            have HO1 := Lib.hid (takeW_ok ht hok.out)
            have q0 : ((q.toNat : Int) == 0) = true := by rw [hq0]; rfl
            have q0n : ((q.toNat : Int) != 0) = false := by rw [hq0]; rfl
            have s39 : ((s[k].toNat : Int) == 39) = false := by rw [h34]; rfl
            have s34 : ((s[k].toNat : Int) == 34) = true := by rw [h34]; rfl
            have f32 : ((s[k].toNat : Int) == 32) = false := by
              simp only [beq_eq_false_iff_ne, ne_eq]
              intro e
              exact hc32 (byte_eq.2 (by show _ = 32; omega))
            have f9 : ((s[k].toNat : Int) == 9) = false := by
              simp only [beq_eq_false_iff_ne, ne_eq]
              intro e
              exact hc9 (byte_eq.2 (by show _ = 9; omega))
            have flt : decide ((s[k].toNat : Int) < 32) = false := by
              simp only [decide_eq_false_iff_not]
              intro e
              exact h1 ⟨by omega, fun e2 => hc9 (byte_eq.2 e2)⟩
            have f92 : ((s[k].toNat : Int) == 92) = false := by
              simp only [beq_eq_false_iff_ne, ne_eq]
              intro e
              exact hn92 (byte_eq.2 (by show _ = 92; omega))
            have hr2 := hB.out.2
            simp only [endW, List.length_append, List.length_singleton] at hr2
            obtain ⟨g, cap, cu, rfl, _⟩ := hr2.resolve_left (fun h => by omega)
            clear hr2
            have HBR : Hid (wr.ownsRow w.heap.size 9 1 (.slice (some ⟨g, 0, none⟩) (ws.length + 1) cap) (ws.length + 1) (wcells (ws ++ [wd]))) := by have := hB.out; simpa [endW, Hid] using this
            have HBW := Lib.hid hb.out
            obtain ⟨l1, l2, l3, l4, _⟩ := last_facts rfl HBR.out
            have HQ1 : Hid (goodQ (some (wd : List UInt8)) s[k]) := ⟨by first | exact .inr (.inl h39) | exact .inr (.inr h34), fun _ => rfl⟩
            try clear HR
            try clear ht
            try clear h1
            try clear h2
            try clear HG
            try clear hbl
            try clear hc
            try clear hn92
            try clear hc32
            try clear hc9
            try clear h39
            try clear h34
            try clear hcq
            try clear hq0
            try clear hl32
            have HB6 : Hid (wr.ownsRow w.heap.size 9 1 (.slice (some ⟨g, 0, none⟩) (ws.length + 1) cap) (endW ws (some (wd : List UInt8))).length (wcells (endW ws (some (wd : List UInt8))))) := by have := HBR.out; simpa [endW, Hid] using this
            go_wp2_with fail
            go_roundw
            case rel => exact ⟨k + 1, ws, some wd, s[k], by omega, by simp; try omega, by go_num, rfl, rfl, HM, HQ1, HO1, HB6.out, HBW⟩
            case measure => simp [intOf]; omega
          have HR := read_one (t := s.data.toList.drop (k + 1)) HG hn92
          have ht : takeW s[k] (decide (1 < 1)) (ws, some wd, q) = some (ws, some (wd ++ [s[k]]), q) := by unfold takeW; dsimp only; rw [if_neg (fun h => by rw [hbl] at h; exact absurd h.2.2 (by simp)), if_neg (by omega), if_neg (by simp), if_neg (fun h => h.1 hq0), if_neg (by rintro ⟨_, h | h⟩; exact h39 h; exact h34 h)]; rfl
          have HM := Lib.hid (splitS hlt hm.out HR (Nat.le_refl _) ht)
          have HO1 := Lib.hid (takeW_ok ht hok.out)
          have q0 : ((q.toNat : Int) == 0) = true := by rw [hq0]; rfl
          have q0n : ((q.toNat : Int) != 0) = false := by rw [hq0]; rfl
          have s39 : ((s[k].toNat : Int) == 39) = false := by
            simp only [beq_eq_false_iff_ne, ne_eq]
            intro e
            exact h39 (byte_eq.2 (by show _ = 39; omega))
          have s34 : ((s[k].toNat : Int) == 34) = false := by
            simp only [beq_eq_false_iff_ne, ne_eq]
            intro e
            exact h34 (byte_eq.2 (by show _ = 34; omega))
          have f32 : ((s[k].toNat : Int) == 32) = false := by
            simp only [beq_eq_false_iff_ne, ne_eq]
            intro e
            exact hc32 (byte_eq.2 (by show _ = 32; omega))
          have f9 : ((s[k].toNat : Int) == 9) = false := by
            simp only [beq_eq_false_iff_ne, ne_eq]
            intro e
            exact hc9 (byte_eq.2 (by show _ = 9; omega))
          have flt : decide ((s[k].toNat : Int) < 32) = false := by
            simp only [decide_eq_false_iff_not]
            intro e
            exact h1 ⟨by omega, fun e2 => hc9 (byte_eq.2 e2)⟩
          have f92 : ((s[k].toNat : Int) == 92) = false := by
            simp only [beq_eq_false_iff_ne, ne_eq]
            intro e
            exact hn92 (byte_eq.2 (by show _ = 92; omega))
          have hr2 := hB.out.2
          simp only [endW, List.length_append, List.length_singleton] at hr2
          obtain ⟨g, cap, cu, rfl, _⟩ := hr2.resolve_left (fun h => by omega)
          clear hr2
          have HBR : Hid (wr.ownsRow w.heap.size 9 1 (.slice (some ⟨g, 0, none⟩) (ws.length + 1) cap) (ws.length + 1) (wcells (ws ++ [wd]))) := by have := hB.out; simpa [endW, Hid] using this
          have HBW := Lib.hid hb.out
          obtain ⟨l1, l2, l3, l4, _⟩ := last_facts rfl HBR.out
          have HQ1 : Hid (goodQ (some (wd ++ [s[k]])) q) := ⟨hq.out.1, fun _ => rfl⟩
          try clear HR
          try clear ht
          try clear h1
          try clear h2
          try clear HG
          try clear hbl
          try clear hc
          try clear hn92
          try clear hc32
          try clear hc9
          try clear h39
          try clear h34
          try clear hcq
          try clear hq0
          try clear hl32
          have HS1 := Lib.hid (one_slice s k hlt)
          have zc : ¬ (9223372036854775807 < (str wd).size + (s.extract k (k + 1)).size) := by rw [HS1.out, str_size, str_size]; simp; try omega
          have b3 : (k : Int) ≤ (k : Int) + 1 := by omega
          have b4 : (k : Int) + 1 ≤ (s.size : Int) := by omega
          have hb6 : (wr.setCell ⟨g, ws.length, none⟩ (.string (str wd ++ s.extract k (k + 1)))).ownsRow w.heap.size 9 1 (.slice (some ⟨g, 0, none⟩) (ws.length + 1) cap) (endW ws (some (wd ++ [s[k]]))).length (wcells (endW ws (some (wd ++ [s[k]])))) := by
            have := (last_facts rfl HBR.out).2.2.2.2 (wd ++ [s[k]])
            rw [HS1.out, str_app]
            simpa [endW] using this
          have HB6 := Lib.hid hb6
          have Hb6 : Hid (Below w.heap.size w (wr.setCell ⟨g, ws.length, none⟩ (.string (str wd ++ s.extract k (k + 1))))) := HBW.out.setCell (p := ⟨g, ws.length, none⟩) l3 _
          clear hb6
          go_wp2_with fail
          go_region
          go_wp2_with fail
          go_roundw
          case rel => exact ⟨k + 1, ws, some (wd ++ [s[k]]), q, by omega, by simp; try omega, by go_num, rfl, rfl, HM, HQ1, HO1, HB6.out, below_drewN Hb6.out 1⟩
          case measure => simp [intOf]; omega
        by_cases hcq : s[k] = q
        · have hc32 : ¬ s[k] = 32 := fun e => by
            rw [hcq] at e
            rcases hq.out.1 with h | h | h <;> rw [h] at e <;> exact absurd e (by decide)
          have hc9 : ¬ s[k] = 9 := fun e => by
            rw [hcq] at e
            rcases hq.out.1 with h | h | h <;> rw [h] at e <;> exact absurd e (by decide)
          have HR := read_one (t := s.data.toList.drop (k + 1)) HG hn92
          have ht : takeW s[k] (decide (1 < 1)) (ws, some wd, q) = some (ws, some wd, 0) := by unfold takeW; dsimp only; rw [if_neg (fun h => hq0 h.2.1), if_neg (by omega), if_neg (by simp), if_pos ⟨hq0, hcq⟩]; rfl
          have HM := Lib.hid (splitS hlt hm.out HR (Nat.le_refl _) ht)
          have HO1 := Lib.hid (takeW_ok ht hok.out)
          have q0 : ((q.toNat : Int) == 0) = false := by
            simp only [beq_eq_false_iff_ne, ne_eq]
            intro e
            exact hq0 (byte_eq.2 (by show _ = 0; omega))
          have q0n : ((q.toNat : Int) != 0) = true := by
            simp only [bne_iff_ne, ne_eq]
            intro e
            exact hq0 (byte_eq.2 (by show _ = 0; omega))
          have cq : ((s[k].toNat : Int) == (q.toNat : Int)) = true := by rw [hcq]; simp
          have f32 : ((s[k].toNat : Int) == 32) = false := by
            simp only [beq_eq_false_iff_ne, ne_eq]
            intro e
            exact hc32 (byte_eq.2 (by show _ = 32; omega))
          have f9 : ((s[k].toNat : Int) == 9) = false := by
            simp only [beq_eq_false_iff_ne, ne_eq]
            intro e
            exact hc9 (byte_eq.2 (by show _ = 9; omega))
          have flt : decide ((s[k].toNat : Int) < 32) = false := by
            simp only [decide_eq_false_iff_not]
            intro e
            exact h1 ⟨by omega, fun e2 => hc9 (byte_eq.2 e2)⟩
          have f92 : ((s[k].toNat : Int) == 92) = false := by
            simp only [beq_eq_false_iff_ne, ne_eq]
            intro e
            exact hn92 (byte_eq.2 (by show _ = 92; omega))
          have hr2 := hB.out.2
          simp only [endW, List.length_append, List.length_singleton] at hr2
          obtain ⟨g, cap, cu, rfl, _⟩ := hr2.resolve_left (fun h => by omega)
          clear hr2
          have HBR : Hid (wr.ownsRow w.heap.size 9 1 (.slice (some ⟨g, 0, none⟩) (ws.length + 1) cap) (ws.length + 1) (wcells (ws ++ [wd]))) := by have := hB.out; simpa [endW, Hid] using this
          have HBW := Lib.hid hb.out
          obtain ⟨l1, l2, l3, l4, _⟩ := last_facts rfl HBR.out
          have HQ1 : Hid (goodQ (some (wd : List UInt8)) 0) := ⟨.inl rfl, fun _ => rfl⟩
          try clear HR
          try clear ht
          try clear h1
          try clear h2
          try clear HG
          try clear hbl
          try clear hc
          try clear hn92
          try clear hc32
          try clear hc9
          try clear h39
          try clear h34
          try clear hcq
          try clear hq0
          try clear hl32
          have HB6 : Hid (wr.ownsRow w.heap.size 9 1 (.slice (some ⟨g, 0, none⟩) (ws.length + 1) cap) (endW ws (some (wd : List UInt8))).length (wcells (endW ws (some (wd : List UInt8))))) := by have := HBR.out; simpa [endW, Hid] using this
          go_wp2_with fail
          go_roundw
          case rel => exact ⟨k + 1, ws, some wd, 0, by omega, by simp; try omega, by go_num, rfl, rfl, HM, HQ1, HO1, HB6.out, HBW⟩
          case measure => simp [intOf]; omega
        by_cases hc : s[k] = 32
        · have HR := read_one (t := s.data.toList.drop (k + 1)) HG hn92
          have ht : takeW s[k] (decide (1 < 1)) (ws, some wd, q) = some (ws, some (wd ++ [s[k]]), q) := by unfold takeW; dsimp only; rw [if_neg (fun h => hq0 h.2.1), if_neg (by omega), if_neg (by simp), if_neg (fun h => hcq h.2), if_neg (fun h => hq0 h.1)]; rfl
          have HM := Lib.hid (splitS hlt hm.out HR (Nat.le_refl _) ht)
          have HO1 := Lib.hid (takeW_ok ht hok.out)
          have q0 : ((q.toNat : Int) == 0) = false := by
            simp only [beq_eq_false_iff_ne, ne_eq]
            intro e
            exact hq0 (byte_eq.2 (by show _ = 0; omega))
          have q0n : ((q.toNat : Int) != 0) = true := by
            simp only [bne_iff_ne, ne_eq]
            intro e
            exact hq0 (byte_eq.2 (by show _ = 0; omega))
          have cq : ((s[k].toNat : Int) == (q.toNat : Int)) = false := by
            simp only [beq_eq_false_iff_ne, ne_eq]
            intro e
            exact hcq (byte_eq.2 (by omega))
          have f32 : ((s[k].toNat : Int) == 32) = true := by rw [hc]; rfl
          have flt : decide ((s[k].toNat : Int) < 32) = false := by rw [hc]; rfl
          have f92 : ((s[k].toNat : Int) == 92) = false := by rw [hc]; rfl
          have hr2 := hB.out.2
          simp only [endW, List.length_append, List.length_singleton] at hr2
          obtain ⟨g, cap, cu, rfl, _⟩ := hr2.resolve_left (fun h => by omega)
          clear hr2
          have HBR : Hid (wr.ownsRow w.heap.size 9 1 (.slice (some ⟨g, 0, none⟩) (ws.length + 1) cap) (ws.length + 1) (wcells (ws ++ [wd]))) := by have := hB.out; simpa [endW, Hid] using this
          have HBW := Lib.hid hb.out
          obtain ⟨l1, l2, l3, l4, _⟩ := last_facts rfl HBR.out
          have HQ1 : Hid (goodQ (some (wd ++ [s[k]])) q) := ⟨hq.out.1, fun _ => rfl⟩
          try clear HR
          try clear ht
          try clear h1
          try clear h2
          try clear HG
          try clear hbl
          try clear hc
          try clear hn92
          try clear hc32
          try clear hc9
          try clear h39
          try clear h34
          try clear hcq
          try clear hq0
          try clear hl32
          have HS1 := Lib.hid (one_slice s k hlt)
          have zc : ¬ (9223372036854775807 < (str wd).size + (s.extract k (k + 1)).size) := by rw [HS1.out, str_size, str_size]; simp; try omega
          have b3 : (k : Int) ≤ (k : Int) + 1 := by omega
          have b4 : (k : Int) + 1 ≤ (s.size : Int) := by omega
          have hb6 : (wr.setCell ⟨g, ws.length, none⟩ (.string (str wd ++ s.extract k (k + 1)))).ownsRow w.heap.size 9 1 (.slice (some ⟨g, 0, none⟩) (ws.length + 1) cap) (endW ws (some (wd ++ [s[k]]))).length (wcells (endW ws (some (wd ++ [s[k]])))) := by
            have := (last_facts rfl HBR.out).2.2.2.2 (wd ++ [s[k]])
            rw [HS1.out, str_app]
            simpa [endW] using this
          have HB6 := Lib.hid hb6
          have Hb6 : Hid (Below w.heap.size w (wr.setCell ⟨g, ws.length, none⟩ (.string (str wd ++ s.extract k (k + 1))))) := HBW.out.setCell (p := ⟨g, ws.length, none⟩) l3 _
          clear hb6
          go_wp2_with fail
          go_region
          go_wp2_with fail
          go_roundw
          case rel => exact ⟨k + 1, ws, some (wd ++ [s[k]]), q, by omega, by simp; try omega, by go_num, rfl, rfl, HM, HQ1, HO1, HB6.out, below_drewN Hb6.out 1⟩
          case measure => simp [intOf]; omega
        by_cases hc : s[k] = 9
        · have HR := read_one (t := s.data.toList.drop (k + 1)) HG hn92
          have ht : takeW s[k] (decide (1 < 1)) (ws, some wd, q) = some (ws, some (wd ++ [s[k]]), q) := by unfold takeW; dsimp only; rw [if_neg (fun h => hq0 h.2.1), if_neg (by omega), if_neg (by simp), if_neg (fun h => hcq h.2), if_neg (fun h => hq0 h.1)]; rfl
          have HM := Lib.hid (splitS hlt hm.out HR (Nat.le_refl _) ht)
          have HO1 := Lib.hid (takeW_ok ht hok.out)
          have q0 : ((q.toNat : Int) == 0) = false := by
            simp only [beq_eq_false_iff_ne, ne_eq]
            intro e
            exact hq0 (byte_eq.2 (by show _ = 0; omega))
          have q0n : ((q.toNat : Int) != 0) = true := by
            simp only [bne_iff_ne, ne_eq]
            intro e
            exact hq0 (byte_eq.2 (by show _ = 0; omega))
          have cq : ((s[k].toNat : Int) == (q.toNat : Int)) = false := by
            simp only [beq_eq_false_iff_ne, ne_eq]
            intro e
            exact hcq (byte_eq.2 (by omega))
          have f32 : ((s[k].toNat : Int) == 32) = false := by rw [hc]; rfl
          have f9 : ((s[k].toNat : Int) == 9) = true := by rw [hc]; rfl
          have flt : decide ((s[k].toNat : Int) < 32) = true := by rw [hc]; rfl
          have fn9 : ((s[k].toNat : Int) != 9) = false := by rw [hc]; rfl
          have f92 : ((s[k].toNat : Int) == 92) = false := by rw [hc]; rfl
          have hr2 := hB.out.2
          simp only [endW, List.length_append, List.length_singleton] at hr2
          obtain ⟨g, cap, cu, rfl, _⟩ := hr2.resolve_left (fun h => by omega)
          clear hr2
          have HBR : Hid (wr.ownsRow w.heap.size 9 1 (.slice (some ⟨g, 0, none⟩) (ws.length + 1) cap) (ws.length + 1) (wcells (ws ++ [wd]))) := by have := hB.out; simpa [endW, Hid] using this
          have HBW := Lib.hid hb.out
          obtain ⟨l1, l2, l3, l4, _⟩ := last_facts rfl HBR.out
          have HQ1 : Hid (goodQ (some (wd ++ [s[k]])) q) := ⟨hq.out.1, fun _ => rfl⟩
          try clear HR
          try clear ht
          try clear h1
          try clear h2
          try clear HG
          try clear hbl
          try clear hc
          try clear hn92
          try clear hc32
          try clear hc9
          try clear h39
          try clear h34
          try clear hcq
          try clear hq0
          try clear hl32
          have HS1 := Lib.hid (one_slice s k hlt)
          have zc : ¬ (9223372036854775807 < (str wd).size + (s.extract k (k + 1)).size) := by rw [HS1.out, str_size, str_size]; simp; try omega
          have b3 : (k : Int) ≤ (k : Int) + 1 := by omega
          have b4 : (k : Int) + 1 ≤ (s.size : Int) := by omega
          have hb6 : (wr.setCell ⟨g, ws.length, none⟩ (.string (str wd ++ s.extract k (k + 1)))).ownsRow w.heap.size 9 1 (.slice (some ⟨g, 0, none⟩) (ws.length + 1) cap) (endW ws (some (wd ++ [s[k]]))).length (wcells (endW ws (some (wd ++ [s[k]])))) := by
            have := (last_facts rfl HBR.out).2.2.2.2 (wd ++ [s[k]])
            rw [HS1.out, str_app]
            simpa [endW] using this
          have HB6 := Lib.hid hb6
          have Hb6 : Hid (Below w.heap.size w (wr.setCell ⟨g, ws.length, none⟩ (.string (str wd ++ s.extract k (k + 1))))) := HBW.out.setCell (p := ⟨g, ws.length, none⟩) l3 _
          clear hb6
          go_wp2_with fail
          go_region
          go_wp2_with fail
          go_roundw
          case rel => exact ⟨k + 1, ws, some (wd ++ [s[k]]), q, by omega, by simp; try omega, by go_num, rfl, rfl, HM, HQ1, HO1, HB6.out, below_drewN Hb6.out 1⟩
          case measure => simp [intOf]; omega
        have hc9 : ¬ s[k] = 9 := hc
        have hc32 : ¬ s[k] = 32 := by assumption
        have HR := read_one (t := s.data.toList.drop (k + 1)) HG hn92
        have ht : takeW s[k] (decide (1 < 1)) (ws, some wd, q) = some (ws, some (wd ++ [s[k]]), q) := by unfold takeW; dsimp only; rw [if_neg (fun h => hq0 h.2.1), if_neg (by omega), if_neg (by simp), if_neg (fun h => hcq h.2), if_neg (fun h => hq0 h.1)]; rfl
        have HM := Lib.hid (splitS hlt hm.out HR (Nat.le_refl _) ht)
        have HO1 := Lib.hid (takeW_ok ht hok.out)
        have q0 : ((q.toNat : Int) == 0) = false := by
          simp only [beq_eq_false_iff_ne, ne_eq]
          intro e
          exact hq0 (byte_eq.2 (by show _ = 0; omega))
        have q0n : ((q.toNat : Int) != 0) = true := by
          simp only [bne_iff_ne, ne_eq]
          intro e
          exact hq0 (byte_eq.2 (by show _ = 0; omega))
        have cq : ((s[k].toNat : Int) == (q.toNat : Int)) = false := by
          simp only [beq_eq_false_iff_ne, ne_eq]
          intro e
          exact hcq (byte_eq.2 (by omega))
        have f32 : ((s[k].toNat : Int) == 32) = false := by
          simp only [beq_eq_false_iff_ne, ne_eq]
          intro e
          exact hc32 (byte_eq.2 (by show _ = 32; omega))
        have f9 : ((s[k].toNat : Int) == 9) = false := by
          simp only [beq_eq_false_iff_ne, ne_eq]
          intro e
          exact hc9 (byte_eq.2 (by show _ = 9; omega))
        have flt : decide ((s[k].toNat : Int) < 32) = false := by
          simp only [decide_eq_false_iff_not]
          intro e
          exact h1 ⟨by omega, fun e2 => hc9 (byte_eq.2 e2)⟩
        have f92 : ((s[k].toNat : Int) == 92) = false := by
          simp only [beq_eq_false_iff_ne, ne_eq]
          intro e
          exact hn92 (byte_eq.2 (by show _ = 92; omega))
        have hr2 := hB.out.2
        simp only [endW, List.length_append, List.length_singleton] at hr2
        obtain ⟨g, cap, cu, rfl, _⟩ := hr2.resolve_left (fun h => by omega)
        clear hr2
        have HBR : Hid (wr.ownsRow w.heap.size 9 1 (.slice (some ⟨g, 0, none⟩) (ws.length + 1) cap) (ws.length + 1) (wcells (ws ++ [wd]))) := by have := hB.out; simpa [endW, Hid] using this
        have HBW := Lib.hid hb.out
        obtain ⟨l1, l2, l3, l4, _⟩ := last_facts rfl HBR.out
        have HQ1 : Hid (goodQ (some (wd ++ [s[k]])) q) := ⟨hq.out.1, fun _ => rfl⟩
        try clear HR
        try clear ht
        try clear h1
        try clear h2
        try clear HG
        try clear hbl
        try clear hc
        try clear hn92
        try clear hc32
        try clear hc9
        try clear h39
        try clear h34
        try clear hcq
        try clear hq0
        try clear hl32
        have HS1 := Lib.hid (one_slice s k hlt)
        have zc : ¬ (9223372036854775807 < (str wd).size + (s.extract k (k + 1)).size) := by rw [HS1.out, str_size, str_size]; simp; try omega
        have b3 : (k : Int) ≤ (k : Int) + 1 := by omega
        have b4 : (k : Int) + 1 ≤ (s.size : Int) := by omega
        have hb6 : (wr.setCell ⟨g, ws.length, none⟩ (.string (str wd ++ s.extract k (k + 1)))).ownsRow w.heap.size 9 1 (.slice (some ⟨g, 0, none⟩) (ws.length + 1) cap) (endW ws (some (wd ++ [s[k]]))).length (wcells (endW ws (some (wd ++ [s[k]])))) := by
          have := (last_facts rfl HBR.out).2.2.2.2 (wd ++ [s[k]])
          rw [HS1.out, str_app]
          simpa [endW] using this
        have HB6 := Lib.hid hb6
        have Hb6 : Hid (Below w.heap.size w (wr.setCell ⟨g, ws.length, none⟩ (.string (str wd ++ s.extract k (k + 1))))) := HBW.out.setCell (p := ⟨g, ws.length, none⟩) l3 _
        clear hb6
        go_wp2_with fail
        go_region
        go_wp2_with fail
        go_roundw
        case rel => exact ⟨k + 1, ws, some (wd ++ [s[k]]), q, by omega, by simp; try omega, by go_num, rfl, rfl, HM, HQ1, HO1, HB6.out, below_drewN Hb6.out 1⟩
        case measure => simp [intOf]; omega
    · obtain rfl : k = s.size := by omega
      have hnil : s.data.toList.drop s.size = [] := List.drop_eq_nil_of_le (by rw [size_list]; exact Nat.le_refl _)
      have hm2 := hm.out
      rw [hnil, machW_nil] at hm2
      by_cases hq0 : q = 0
      · rw [if_pos hq0] at hm2
        have HM := Lib.hid hm2
        have q0n : ((q.toNat : Int) != 0) = false := by rw [hq0]; rfl
        have hle : (endW ws cur).length ≤ 32 := by
          have ho := hok.out
          cases cur with
          | none => exact ho.1
          | some x => have := ho.2 rfl; simp only [endW, List.length_append, List.length_singleton] at *; omega
        have hB1 := hB.out
        have hr2 := hB1.2
        obtain ⟨A, nv, cv, hvv⟩ : ∃ A nv cv, _ = Value.slice A nv cv := by
          rcases hr2 with ⟨h1, _⟩ | ⟨g, cap, cur', h1, _⟩
          · exact ⟨_, _, _, h1⟩
          · exact ⟨_, _, _, h1⟩
        subst hvv
        obtain ⟨r1, r2, r3⟩ := rowAt_of_own hB1 (by omega)
        subst r1
        have HR := Lib.hid r3
        clear hm2 hq0 hnil hr2 hB1
        go_wp2_with fail
        go_ret2
        exact ⟨A, _, cv, by rw [HM.out]; rfl, r2, hle, by rw [HM.out]; exact HR.out, hb.out⟩
      · rw [if_neg hq0] at hm2
        have HM := Lib.hid hm2
        have q0n : ((q.toNat : Int) != 0) = true := by
          simp only [bne_iff_ne, ne_eq]
          intro e
          exact hq0 (byte_eq.2 (by show _ = 0; omega))
        clear hm2 hq0 hnil
        go_wp2_with fail
        go_ret2
        exact splitP_err HM.out hb.out
end Go.Proofs.YtadifolonbkamaaGreatDoor.Wd
