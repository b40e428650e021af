/- The walk of the law DiskAlias. -/
import Derived.Test.YthodbeeglkedcaaDsbn
namespace Go.Proofs.Ythodbeeglkedcaa
open Go.RowKit
theorem nameA_str : ∀ k, k ≤ 12 → (⟨#[117]⟩ : ByteArray) ++ (⟨#[48, 49, 50, 51, 52, 53, 54, 55, 56, 57, 97, 98, 99]⟩ : ByteArray).extract k (k + 1) ++ (⟨#[46, 115, 101, 114, 118, 105, 99, 101]⟩ : ByteArray) = str (nmA k) := by decide +kernel
theorem nameA_any (k : Nat) (hk : k ≤ 12) (w : World) :
    Calls Try.prog 18 #[.int .i64 k] w fun e w' => e = .returned (.string (str (nmA k))) ∧ w = w' := by
  have HS := Lib.hid (nameA_str k hk)
  have b0 : (0 : Int) ≤ (k : Int) := by omega
  have b1 : (k : Int) + 1 ≤ 13 := by omega
  have b2 : (k : Int) ≤ (k : Int) + 1 := by omega
  have hs1 : ((⟨#[48, 49, 50, 51, 52, 53, 54, 55, 56, 57, 97, 98, 99]⟩ : ByteArray).extract k (k + 1)).size ≤ 13 := by rw [ByteArray.size_extract]; show min (k + 1) 13 - k ≤ 13; omega
  go_enter Try.func18, Try.ntmps18
  go_wp2_with fail
  go_ret
  exact ⟨by rw [← HS.out]; rfl, rfl⟩
theorem range_link (k : Nat) : (List.range (k + 1)).map linkA = (List.range k).map linkA ++ [linkA k] := by rw [List.range_succ, List.map_append]; rfl
def runP (u : List UInt8) : List UInt8 := ownP runL u
theorem run_str (tl : List UInt8) : (⟨#[114, 117, 110, 47]⟩ : ByteArray) ++ str tl = str (runP tl) := by
  have h : ((⟨#[114, 117, 110, 47]⟩ : ByteArray) ++ str tl).data.toList = runP tl := by rw [app_list, str_list]; rfl
  rw [← h]
  rfl
theorem run_len (u : List UInt8) : (runP u).length = u.length + 4 := by
  unfold runP ownP runL
  rw [List.length_append]
  show 3 + (u.length + 1) = _
  omega
theorem own_setRow {w : World} {B g : Nat} {v : Value} {l : List Fi} (h : w.ownsRow B 38 3 v l.length (fis l)) (hne : ∀ b, v.ownBlock = some b → b ≠ g) (cs : Array Value) : (w.setRow g cs).ownsRow B 38 3 v l.length (fis l) := by
  refine ⟨h.1, ?_⟩
  rcases h.2 with h2 | ⟨g', cap, cur, rfl, hg, hb, r⟩
  · exact .inl h2
  · exact .inr ⟨g', cap, cur, rfl, hg, by rw [heap_row_other w g cs g' (hne g' rfl)]; exact hb, r⟩
theorem Blk.kept2 {w w' : World} {g : Nat} {t : TypeId} {cs : Array Value} {row : Option Nat} (h : Blk w g t cs) (hg : w.grownBy w' row) (hne : some g ≠ row) : Blk w' g t cs := (hg.block g h.lt hne).trans h
def OwnF (W : World) (B : Nat) (v : Value) (l : List Fi) : Prop := W.ownsRow B 38 3 v l.length (fis l)
set_option maxRecDepth 100000 in
set_option maxHeartbeats 16000000 in
theorem DiskAlias_any (n : Int) (ring : Bool) (tx : ByteArray) (htx : tx.size ≤ maxLen) (w : World) :
    Calls Try.prog 6 #[.int .i64 n, .bool ring, .string tx] w fun e w' => e = .returned (.bool true) ∧ Below w.heap.size w w' := by
  unfold maxLen at htx
  go_enter Try.func6, Try.ntmps6
  go_wp2_with fail
  refine (shown12_any _).mono ?_
  rintro e w1 ⟨rfl, hb1⟩
  have HB1 := Lib.hid hb1
  have hs1 := hb1.size
  clear hb1
  by_cases h0 : n < 0
  · go_wp2_with fail
    go_ret
    exact ⟨rfl, HB1.out⟩
  have h0' : (0 : Int) ≤ n := by omega
  by_cases h12 : 12 < n
  · have u0 : (0 : Nat) ≤ 1 := Nat.zero_le _
    go_wp2_with fail
    go_ret
    exact ⟨rfl, HB1.out⟩
  obtain ⟨m, rfl⟩ : ∃ m : Nat, n = (m : Int) := ⟨n.toNat, by omega⟩
  have hm : m ≤ 12 := by omega
  have h12' : (m : Int) ≤ 12 := by omega
  have u0 : (0 : Nat) ≤ 1 := Nat.zero_le _
  have u1 : (0 : Nat) ≤ 2 := Nat.zero_le _
  clear h0 h12
  go_wp2_with fail
  go_loopw [7, 8] (fun p i wr => ∃ (k : Nat) (v : Value), k ≤ m ∧ i = .int .i64 k ∧ p = v ∧ Hid (OwnF wr w1.heap.size v ((List.range k).map linkA)) ∧ Hid (Below w1.heap.size w1 wr)) (fun p i wr => m - (intOf i).toNat)
  case atStart => exact ⟨0, _, Nat.zero_le _, rfl, rfl, World.ownsRow_nil _ _ _ _, Below.refl _ _⟩
  case round =>
    obtain ⟨k, v, hk, rfl, hpv, hO, hb⟩ := hrel
    replace hpv := hpv.symm
    subst hpv
    have hbs := hb.out.size
    by_cases hlt : k < m
    · have b0 : (0 : Int) ≤ (k : Int) := by omega
      have b1 : (k : Int) < (m : Int) := by omega
      have HN1 := Lib.hid (fun W => nameA_any k (by omega) W)
      have HN2 : Hid (∀ W, Calls Try.prog 18 #[.int .i64 ((k : Int) + 1)] W fun e w' => e = .returned (.string (str (nmA (k + 1)))) ∧ W = w') := fun W => by
        have := nameA_any (k + 1) (by omega) W
        rwa [Int.natCast_add] at this
      have lstr := lib_str (nmA k)
      have hsl : (str (nmA k)).size = 10 := by rw [str_size]; rfl
      have hll : ((List.range k).map linkA).length = k := by simp
      have hF := Lib.hid (fi_new wr 38 (str (libP (nmA k))) ⟨#[]⟩ (str (nmA (k + 1))) (linkA k) rfl rfl rfl)
      have hOg : Hid (OwnF (wr.alloc (.cells #[.string (str (libP (nmA k))), .string ⟨#[]⟩, .string (str (nmA (k + 1)))] 38)) w1.heap.size v ((List.range k).map linkA)) := own_below hO.out ((Below.refl _ wr).alloc (Nat.le_refl _) _)
      have hbg : Hid (Below w1.heap.size w1 (wr.alloc (.cells #[.string (str (libP (nmA k))), .string ⟨#[]⟩, .string (str (nmA (k + 1)))] 38))) := hb.out.alloc hbs _
      have HRL := Lib.hid (range_link k)
      clear hO hb
      generalize nmA (k + 1) = nk1 at *
      generalize nmA k = nk at *
      generalize (List.range k).map linkA = lf at *
      generalize linkA k = lk at *
      go_wp2_with fail
      refine (HN1.out _).mono ?_
      rintro e2 w2 ⟨rfl, rfl⟩
      go_wp2_with fail
      refine (HN2.out _).mono ?_
      rintro e3 w3 ⟨rfl, rfl⟩
      go_wp2_with (refine wpList_append_files rfl (.tmp 25) (.tmp 33) (by rfl) w1.heap.size v lf [lk] (by rfl) hOg.out _ _ _ _ (by rfl) hF.out (by intro h; cases h) (by simp; omega) hbg.out.size ?_; intro v6 w6 ho6 hg6)
      have hb6 := Lib.hid (hbg.out.grown hg6 hbg.out.size (fun k hk => (hOg.out.lt k hk).1))
      have hO6 : Hid (OwnF w6 w1.heap.size v6 ((List.range (k + 1)).map linkA)) := by show OwnF _ _ _ _; rw [HRL.out]; exact ho6
      clear ho6 hg6
      go_roundw
      case rel => exact ⟨k + 1, _, by omega, by go_num, rfl, hO6, hb6⟩
      case measure => simp [intOf]; omega
    · obtain rfl : k = m := by omega
      have HNm := Lib.hid (fun W => nameA_any k hm W)
      have HN0 := Lib.hid (fun W => nameA_any 0 (by omega) W)
      have rstr := run_str (nmA k)
      have hsl : (str (nmA k)).size = 10 := by rw [str_size]; rfl
      have hsl0 : (str (nmA 0)).size = 10 := by rw [str_size]; rfl
      have hrl := run_len (nmA k)
      have hnl : (nmA k).length = 10 := rfl
      have hnl0 : (nmA 0).length = 10 := rfl
      have hll : ((List.range k).map linkA).length = k := by simp
      have hmn : (0 : Int) ≤ min (tx.size : Int) 100 ∧ min (tx.size : Int) 100 ≤ (tx.size : Int) := by omega
      obtain ⟨tt, htt⟩ : ∃ tt : List UInt8, (tx.extract 0 (min (tx.size : Int) 100).toNat).data.toList = tt := ⟨_, rfl⟩
      have httl : tt.length ≤ 100 := by rw [← htt, size_list, ByteArray.size_extract]; omega
      have HFI := Lib.hid (fun rg => find_rowA (N := nmsP) nmsOk nmaOk hm rg (t := tt) (by omega))
      have HSZ : Hid (∀ rg, ∀ x ∈ rowA k rg tt, SizeF x) := fun rg x hx => by
        unfold rowA at hx
        rcases List.mem_append.1 hx with hx | hx
        · obtain ⟨j, hj, rfl⟩ := List.mem_map.1 hx
          exact ⟨by show (ownP libL (nmA j)).length ≤ _; simp [ownP, libL, nmA], by simp [linkA], by show (nmA (j + 1)).length ≤ _; simp [nmA]⟩
        · rw [List.mem_singleton.1 hx]
          unfold lastA
          split
          · exact ⟨by show (ownP runL (nmA k)).length ≤ _; simp [ownP, runL, nmA], by simp, by simp [nmA]⟩
          · exact ⟨by show (ownP runL (nmA k)).length ≤ _; simp [ownP, runL, nmA], by show tt.length ≤ _; omega, by simp⟩
      have HRW : Hid (∀ rg, rowA k rg tt = (List.range k).map linkA ++ [lastA k rg tt]) := fun rg => rfl
      have HLT : Hid (lastA k true tt = ⟨runP (nmA k), [], nmA 0⟩) := rfl
      have HLF : Hid (lastA k false tt = ⟨runP (nmA k), tt, []⟩) := rfl
      have HRK : Hid (ownP runL (nmA k) = runP (nmA k)) := rfl
      have HR0 : Hid (Blk (wr.alloc (.cells #[.string (str (runP (nmA k))), .string (tx.extract 0 (min (tx.size : Int) 100).toNat), .string ⟨#[]⟩] 38)).drew wr.heap.size 38 (fiA ⟨runP (nmA k), tt, []⟩)) := by
        show Blk _ _ _ _
        rw [← htt]
        exact Blk.new wr 38 #[.string (str (runP (nmA k))), .string (tx.extract 0 (min (tx.size : Int) 100).toNat), .string ⟨#[]⟩]
      have HO0 : Hid (OwnF (wr.alloc (.cells #[.string (str (runP (nmA k))), .string (tx.extract 0 (min (tx.size : Int) 100).toNat), .string ⟨#[]⟩] 38)).drew w1.heap.size v ((List.range k).map linkA)) := own_below hO.out ((Below.refl _ wr).alloc (Nat.le_refl _) _).drew
      have HB0 : Hid (Below w1.heap.size w1 (wr.alloc (.cells #[.string (str (runP (nmA k))), .string (tx.extract 0 (min (tx.size : Int) 100).toNat), .string ⟨#[]⟩] 38)).drew) := (hb.out.alloc hbs _).drew
      have HVB : Hid (∀ b, v.ownBlock = some b → b ≠ wr.heap.size) := fun b hv => by have := (hO.out.lt b hv).2; omega
      clear htt hO hb
      generalize (List.range k).map linkA = lf at *
      generalize hNK : nmA k = nk at *
      generalize hN0 : nmA 0 = n0 at *
      clear hNK hN0
      go_upto_region 10 with fail
      go_cut [9] (fun p wx => p = .pointer (some ⟨wr.heap.size, 0, none⟩) ∧ Hid (Blk wx wr.heap.size 38 (fiA ⟨runP nk, tt, []⟩)) ∧ Hid (OwnF wx w1.heap.size v lf) ∧ Hid (Below w1.heap.size w1 wx))
      case first =>
        go_region_with (go_at_call 18; refine (HNm.out _).mono ?_; rintro e2 w2 ⟨rfl, rfl⟩)
        all_goals (go_wp2_with fail; go_meet; exact ⟨rfl, HR0, HO0, HB0⟩)
      case rest =>
        obtain ⟨rfl, HR, HO, HB⟩ := hcut
        have hgl : wr.heap.size < wc.heap.size := HR.out.lt
        have hgb : w1.heap.size ≤ wr.heap.size := hbs
        clear HR0 HO0 HB0 hmn
        generalize wr.heap.size = g at *
        cases ring
        · skip
          obtain ⟨wd, hwd⟩ : ∃ wd, wd = wc := ⟨_, rfl⟩
          subst hwd
          have hF := Lib.hid (fi_new wd 38 (str (runP nk)) (str tt) ⟨#[]⟩ ⟨runP nk, tt, []⟩ rfl rfl rfl)
          have hOg : Hid (OwnF (wd.alloc (.cells #[.string (str (runP nk)), .string (str tt), .string ⟨#[]⟩] 38)) w1.heap.size v lf) := own_below HO.out ((Below.refl _ wd).alloc (Nat.le_refl _) _)
          have hbg : Hid (Below w1.heap.size w1 (wd.alloc (.cells #[.string (str (runP nk)), .string (str tt), .string ⟨#[]⟩] 38))) := HB.out.alloc HB.out.size _
          have HRg : Hid (Blk (wd.alloc (.cells #[.string (str (runP nk)), .string (str tt), .string ⟨#[]⟩] 38)) g 38 (fiA ⟨runP nk, tt, []⟩)) := HR.out.alloc _
          go_wp2_with (first
            | (refine wpList_append_files rfl (.tmp 50) (.tmp 52) (by rfl) w1.heap.size v lf [⟨runP nk, tt, []⟩] (by rfl) hOg.out _ _ _ _ (by rfl) hF.out (by intro h; cases h) (by simp; omega) hbg.out.size ?_; intro v7 w7 ho7 hg7)
            | (refine wpList_load_row rfl 38 (.tmp 9) (by rfl) g (by rfl) 38 #[.string (str (runP nk)), .string (str tt), .string ⟨#[]⟩] (0, 0) _ HR.out Try.underlying38 rfl (by kernel_rfl) ?_))
          have HR7 := Lib.hid (HRg.out.kept2 hg7 (fun e => HVB.out g e.symm rfl))
          have hb7 := Lib.hid (hbg.out.grown hg7 hbg.out.size (fun k hk => (hOg.out.lt k hk).1))
          have ho8 : OwnF w7 w1.heap.size v7 (rowA k false tt) := by rw [HRW.out, HLF.out]; exact ho7
          obtain ⟨A7, c7, rfl, hl7, _⟩ := fi_out ho8 (by rw [HRW.out]; simp; omega)
          have HL7 := Lib.hid hl7
          have hfi := HFI.out false
          have hsz := Lib.hid (HSZ.out false)
          clear ho7 hg7 ho8 hl7 hF hOg hbg HRg HR HO HB HRW HLT HLF HVB HFI HSZ
          generalize rowA k false tt = l1 at *
          refine (HN0.out _).mono ?_
          rintro e8 w8 ⟨rfl, rfl⟩
          by_cases h8 : 8 < k
          · obtain ⟨r, hrr, hre⟩ : ∃ r, findL nmsP l1 n0 = (r, 17) ∧ r = noFd := ⟨noFd, by rw [hfi, if_pos (.inr h8)], rfl⟩
            have HRE := Lib.hid hre
            have h8i : (8 : Int) < (k : Int) := by omega
            clear hre hfi h8
            have h8' := dFind_any A7 l1.length c7 _ l1 (str n0) (by omega) w7 HL7.out (Nat.le_refl _) hsz.out
            rw [str_list] at h8'
            go_wp2_with fail
            refine h8'.mono ?_
            intro e w8 h8
            obtain ⟨xA, xc, rfl, hx, hb8⟩ := findP_of hrr h8
            have HX9 : Hid (Blk (w8.alloc (.cells #[.string (str r.n), .string (str r.p), .bool r.m, .slice xA r.d.length xc] 30)) w8.heap.size 30 (fdA r.n r.p r.m (.slice xA r.d.length xc))) := Blk.new w8 _ _
            have hby : Below w7.heap.size w7 (w8.alloc (.cells #[.string (str r.n), .string (str r.p), .bool r.m, .slice xA r.d.length xc] 30)) := hb8.alloc hb8.size _
            have HB9 := Lib.hid (more3 hb7.out hb7.out.size hby)
            have HRw9 : Hid (RowAt (w8.alloc (.cells #[.string (str r.n), .string (str r.p), .bool r.m, .slice xA r.d.length xc] 30)) (w8.alloc (.cells #[.string (str r.n), .string (str r.p), .bool r.m, .slice xA r.d.length xc] 30)).heap.size xA r.d.length r.d) := (hx.below ((Below.refl _ w8).alloc (Nat.le_refl _) _)).wide (by simp)
            have HR9 := Lib.hid (HR7.out.below hby HR7.out.lt)
            have k0 : (w8.alloc (.cells #[.string (str r.n), .string (str r.p), .bool r.m, .slice xA r.d.length xc] 30)).cell? ⟨w8.heap.size, 0, none⟩ = some (.string (str r.n)) := HX9.out.cell 0
            have k1 : (w8.alloc (.cells #[.string (str r.n), .string (str r.p), .bool r.m, .slice xA r.d.length xc] 30)).cell? ⟨w8.heap.size, 1, none⟩ = some (.string (str r.p)) := HX9.out.cell 1
            have k2 : (w8.alloc (.cells #[.string (str r.n), .string (str r.p), .bool r.m, .slice xA r.d.length xc] 30)).cell? ⟨w8.heap.size, 2, none⟩ = some (.bool r.m) := HX9.out.cell 2
            have k3 : (w8.alloc (.cells #[.string (str r.n), .string (str r.p), .bool r.m, .slice xA r.d.length xc] 30)).cell? ⟨w8.heap.size, 3, none⟩ = some (.slice xA r.d.length xc) := HX9.out.cell 3
            clear h8 hx hb8 hby h8'
            go_wp2_with fail
            have HSm := same_any r.n r.p r.m xA r.d.length xc r.d [] [] false none 0 0 [] _ _ HRw9.out RowAt.none_ (Nat.le_refl _)
            rw [show sameB r.n r.p r.m r.d [] [] false [] = true by rw [HRE.out]; decide] at HSm
            refine HSm.mono ?_
            rintro e9 w9 ⟨rfl, hb9⟩
            have HBz := Lib.hid (more3 HB1.out hs1 (more3 HB9.out HB9.out.size hb9))
            go_wp2_with fail
            go_ret
            exact ⟨rfl, HBz.out⟩
          · obtain ⟨r, D, hrr, hre⟩ : ∃ r D, findL nmsP l1 n0 = (r, 0) ∧ r = ⟨nk, runP nk, false, D⟩ := ⟨_, _, by rw [hfi, if_neg (by simp [h8])], by rw [← HRK.out]⟩
            have HRE := Lib.hid hre
            have h8i : (k : Int) ≤ 8 := by omega
            clear hre hfi h8
            have h8' := dFind_any A7 l1.length c7 _ l1 (str n0) (by omega) w7 HL7.out (Nat.le_refl _) hsz.out
            rw [str_list] at h8'
            go_wp2_with fail
            refine h8'.mono ?_
            intro e w8 h8
            obtain ⟨xA, xc, rfl, hx, hb8⟩ := findP_of hrr h8
            have HX9 : Hid (Blk (w8.alloc (.cells #[.string (str r.n), .string (str r.p), .bool r.m, .slice xA r.d.length xc] 30)) w8.heap.size 30 (fdA r.n r.p r.m (.slice xA r.d.length xc))) := Blk.new w8 _ _
            have hby : Below w7.heap.size w7 (w8.alloc (.cells #[.string (str r.n), .string (str r.p), .bool r.m, .slice xA r.d.length xc] 30)) := hb8.alloc hb8.size _
            have HB9 := Lib.hid (more3 hb7.out hb7.out.size hby)
            have HRw9 : Hid (RowAt (w8.alloc (.cells #[.string (str r.n), .string (str r.p), .bool r.m, .slice xA r.d.length xc] 30)) (w8.alloc (.cells #[.string (str r.n), .string (str r.p), .bool r.m, .slice xA r.d.length xc] 30)).heap.size xA r.d.length r.d) := (hx.below ((Below.refl _ w8).alloc (Nat.le_refl _) _)).wide (by simp)
            have HR9 := Lib.hid (HR7.out.below hby HR7.out.lt)
            have k0 : (w8.alloc (.cells #[.string (str r.n), .string (str r.p), .bool r.m, .slice xA r.d.length xc] 30)).cell? ⟨w8.heap.size, 0, none⟩ = some (.string (str r.n)) := HX9.out.cell 0
            have k1 : (w8.alloc (.cells #[.string (str r.n), .string (str r.p), .bool r.m, .slice xA r.d.length xc] 30)).cell? ⟨w8.heap.size, 1, none⟩ = some (.string (str r.p)) := HX9.out.cell 1
            have k2 : (w8.alloc (.cells #[.string (str r.n), .string (str r.p), .bool r.m, .slice xA r.d.length xc] 30)).cell? ⟨w8.heap.size, 2, none⟩ = some (.bool r.m) := HX9.out.cell 2
            have k3 : (w8.alloc (.cells #[.string (str r.n), .string (str r.p), .bool r.m, .slice xA r.d.length xc] 30)).cell? ⟨w8.heap.size, 3, none⟩ = some (.slice xA r.d.length xc) := HX9.out.cell 3
            clear h8 hx hb8 hby h8'
            obtain ⟨rn, rp, rm, rd⟩ := r
            obtain ⟨e1, e2⟩ : rn = nk ∧ rp = runP nk := by
              have := HRE.out
              injection this with q1 q2 q3 q4
              exact ⟨q1, q2⟩
            subst e1 e2
            have k5 : (w8.alloc (.cells #[.string (str rn), .string (str (runP rn)), .bool rm, .slice xA rd.length xc] 30)).cell? ⟨g, 0, none⟩ = some (.string (str (runP rn))) := HR9.out.cell 0
            have HBz := Lib.hid (more3 HB1.out hs1 HB9.out)
            clear HR7 HX9 HRw9 HR9 hb7 HL7 HRE
            go_wp2_with fail
            go_region_with (go_at_call 18; refine (HNm.out _).mono ?_; rintro e2 w2 ⟨rfl, rfl⟩)
            all_goals (go_wp2_with fail; go_ret; exact ⟨rfl, HBz.out.drew⟩)
        · skip
          go_wp2_with fail
          refine (HNm.out _).mono ?_
          rintro e2 w2 ⟨rfl, rfl⟩
          go_wp2_with fail
          refine (HN0.out _).mono ?_
          rintro e3 w3 ⟨rfl, rfl⟩
          have HR2 := Lib.hid (Blk.row HR.out (fiA ⟨runP nk, [], n0⟩))
          have HO2 : Hid (OwnF (wc.setRow g (fiA ⟨runP nk, [], n0⟩)) w1.heap.size v lf) := own_setRow HO.out HVB.out _
          have HB2 := Lib.hid (below_setRow HB.out (g := g) hgb (fiA ⟨runP nk, [], n0⟩))
          go_upto_region 13 with (refine wpList_store_row rfl 38 (.tmp 9) (.tmp 49) (by rfl) g (fiA ⟨runP nk, [], n0⟩) (by rfl) (by rfl) 38 (fiA ⟨runP nk, tt, []⟩) HR.out (by kernel_rfl) rfl (fiA_all _) ?_)
          clear HR HO HB
          have HR := HR2
          have HO := HO2
          have HB := HB2
          clear HR2 HO2 HB2
          generalize wc.setRow g (fiA ⟨runP nk, [], n0⟩) = wd at *
          have hF := Lib.hid (fi_new wd 38 (str (runP nk)) ⟨#[]⟩ (str n0) ⟨runP nk, [], n0⟩ rfl rfl rfl)
          have hOg : Hid (OwnF (wd.alloc (.cells #[.string (str (runP nk)), .string ⟨#[]⟩, .string (str n0)] 38)) w1.heap.size v lf) := own_below HO.out ((Below.refl _ wd).alloc (Nat.le_refl _) _)
          have hbg : Hid (Below w1.heap.size w1 (wd.alloc (.cells #[.string (str (runP nk)), .string ⟨#[]⟩, .string (str n0)] 38))) := HB.out.alloc HB.out.size _
          have HRg : Hid (Blk (wd.alloc (.cells #[.string (str (runP nk)), .string ⟨#[]⟩, .string (str n0)] 38)) g 38 (fiA ⟨runP nk, [], n0⟩)) := HR.out.alloc _
          go_wp2_with (first
            | (refine wpList_append_files rfl (.tmp 50) (.tmp 52) (by rfl) w1.heap.size v lf [⟨runP nk, [], n0⟩] (by rfl) hOg.out _ _ _ _ (by rfl) hF.out (by intro h; cases h) (by simp; omega) hbg.out.size ?_; intro v7 w7 ho7 hg7)
            | (refine wpList_load_row rfl 38 (.tmp 9) (by rfl) g (by rfl) 38 #[.string (str (runP nk)), .string ⟨#[]⟩, .string (str n0)] (0, 0) _ HR.out Try.underlying38 rfl (by kernel_rfl) ?_))
          have HR7 := Lib.hid (HRg.out.kept2 hg7 (fun e => HVB.out g e.symm rfl))
          have hb7 := Lib.hid (hbg.out.grown hg7 hbg.out.size (fun k hk => (hOg.out.lt k hk).1))
          have ho8 : OwnF w7 w1.heap.size v7 (rowA k true tt) := by rw [HRW.out, HLT.out]; exact ho7
          obtain ⟨A7, c7, rfl, hl7, _⟩ := fi_out ho8 (by rw [HRW.out]; simp; omega)
          have HL7 := Lib.hid hl7
          have hfi := HFI.out true
          have hsz := Lib.hid (HSZ.out true)
          clear ho7 hg7 ho8 hl7 hF hOg hbg HRg HR HO HB HRW HLT HLF HVB HFI HSZ
          generalize rowA k true tt = l1 at *
          refine (HN0.out _).mono ?_
          rintro e8 w8 ⟨rfl, rfl⟩
          obtain ⟨r, hrr, hre⟩ : ∃ r, findL nmsP l1 n0 = (r, 17) ∧ r = noFd := ⟨noFd, by rw [hfi, if_pos (.inl rfl)], rfl⟩
          have HRE := Lib.hid hre
          clear hre hfi
          have h8' := dFind_any A7 l1.length c7 _ l1 (str n0) (by omega) w7 HL7.out (Nat.le_refl _) hsz.out
          rw [str_list] at h8'
          go_wp2_with fail
          refine h8'.mono ?_
          intro e w8 h8
          obtain ⟨xA, xc, rfl, hx, hb8⟩ := findP_of hrr h8
          have HX9 : Hid (Blk (w8.alloc (.cells #[.string (str r.n), .string (str r.p), .bool r.m, .slice xA r.d.length xc] 30)) w8.heap.size 30 (fdA r.n r.p r.m (.slice xA r.d.length xc))) := Blk.new w8 _ _
          have hby : Below w7.heap.size w7 (w8.alloc (.cells #[.string (str r.n), .string (str r.p), .bool r.m, .slice xA r.d.length xc] 30)) := hb8.alloc hb8.size _
          have HB9 := Lib.hid (more3 hb7.out hb7.out.size hby)
          have HRw9 : Hid (RowAt (w8.alloc (.cells #[.string (str r.n), .string (str r.p), .bool r.m, .slice xA r.d.length xc] 30)) (w8.alloc (.cells #[.string (str r.n), .string (str r.p), .bool r.m, .slice xA r.d.length xc] 30)).heap.size xA r.d.length r.d) := (hx.below ((Below.refl _ w8).alloc (Nat.le_refl _) _)).wide (by simp)
          have HR9 := Lib.hid (HR7.out.below hby HR7.out.lt)
          have k0 : (w8.alloc (.cells #[.string (str r.n), .string (str r.p), .bool r.m, .slice xA r.d.length xc] 30)).cell? ⟨w8.heap.size, 0, none⟩ = some (.string (str r.n)) := HX9.out.cell 0
          have k1 : (w8.alloc (.cells #[.string (str r.n), .string (str r.p), .bool r.m, .slice xA r.d.length xc] 30)).cell? ⟨w8.heap.size, 1, none⟩ = some (.string (str r.p)) := HX9.out.cell 1
          have k2 : (w8.alloc (.cells #[.string (str r.n), .string (str r.p), .bool r.m, .slice xA r.d.length xc] 30)).cell? ⟨w8.heap.size, 2, none⟩ = some (.bool r.m) := HX9.out.cell 2
          have k3 : (w8.alloc (.cells #[.string (str r.n), .string (str r.p), .bool r.m, .slice xA r.d.length xc] 30)).cell? ⟨w8.heap.size, 3, none⟩ = some (.slice xA r.d.length xc) := HX9.out.cell 3
          clear h8 hx hb8 hby h8'
          go_wp2_with fail
          have HSm := same_any r.n r.p r.m xA r.d.length xc r.d [] [] false none 0 0 [] _ _ HRw9.out RowAt.none_ (Nat.le_refl _)
          rw [show sameB r.n r.p r.m r.d [] [] false [] = true by rw [HRE.out]; decide] at HSm
          refine HSm.mono ?_
          rintro e9 w9 ⟨rfl, hb9⟩
          have HBz := Lib.hid (more3 HB1.out hs1 (more3 HB9.out HB9.out.size hb9))
          go_wp2_with fail
          go_ret
          exact ⟨rfl, HBz.out⟩
end Go.Proofs.Ythodbeeglkedcaa
