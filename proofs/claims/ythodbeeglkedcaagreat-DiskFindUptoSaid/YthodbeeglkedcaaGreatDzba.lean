/- The walk of the document's Find. -/
import Derived.Test.YthodbeeglkedcaaGreatDzaz
namespace Go.Proofs.YthodbeeglkedcaaGreat
open Go.RowKit
def fdA (n p : List UInt8) (m : Bool) (v : Value) : Array Value := #[.string (str n), .string (str p), .bool m, v]
def fd0 : Array Value := #[.string ⟨#[]⟩, .string ⟨#[]⟩, .bool false, .slice none 0 0]
theorem fdA_all (n p : List UInt8) (m : Bool) (A : Option Addr) (k c : Nat) : (fdA n p m (.slice A k c)).all (·.oneCell') = true := by simp [fdA, Value.oneCell']
theorem fd0_all : fd0.all (·.oneCell') = true := by simp [fd0, Value.oneCell']
def FindP (l : List Fi) (u : List UInt8) (w : World) (e : Ending) (w' : World) : Prop :=
  ∃ v, e = .returned (.tuple #[.agg (fdA (findL nmsP l u).1.n (findL nmsP l u).1.p (findL nmsP l u).1.m v), .int .i64 (findL nmsP l u).2]) ∧ RowOut w' v (findL nmsP l u).1.d ∧ Below w.heap.size w w'
theorem RowAt.setOther {w : World} {B n : Nat} {A : Option Addr} {l : List (List UInt8)} (h : RowAt w B A n l) {g : Nat} (hne : ∀ ad, A = some ad → ad.block ≠ g) (i : Nat) (u : Value) : RowAt (w.setCell ⟨g, i, none⟩ u) B A n l :=
  ⟨h.1, h.2.1, fun hn => by
    obtain ⟨ad, e, hB, hc⟩ := h.2.2 hn
    refine ⟨ad, e, hB, fun j x hj => ?_⟩
    rw [← hc j x hj]
    exact World.cell?_setCell_other w _ _ u (by
      intro h1
      have h2 := congrArg Addr.block h1
      rw [block_addR] at h2
      exact hne ad e h2.symm)⟩
theorem cell_far (w : World) (g i b o : Nat) (u : Value) (hne : b ≠ g) : (w.setCell ⟨g, i, none⟩ u).cell? ⟨b, o, none⟩ = w.cell? ⟨b, o, none⟩ :=
  World.cell?_setCell_other w _ _ u (by intro h1; exact hne (congrArg Addr.block h1).symm)
theorem findP_no {l : List Fi} {u : List UInt8} {w w' : World} {k : Int} (h : findL nmsP l u = (noFd, k)) (hb : Below w.heap.size w w') : FindP l u w (.returned (.tuple #[.agg fd0, .int .i64 k])) w' :=
  ⟨.slice none 0 0, by rw [h]; rfl, by rw [h]; exact rowOut_nil _, hb⟩
theorem go_step (fs : List Fi) (j : Nat) (asked : List (List UInt8)) (n : List UInt8) : findGo nmsP fs (j + 1) asked n = match roundF nmsP (dropsL nmsP fs n) asked n (stepF nmsP fs n) with
    | .inl r => r
    | .inr x => findGo nmsP fs j (asked ++ [x]) x := rfl
def lenV : Value → Nat
  | .slice _ n _ => n
  | _ => 0
structure AskP (l : List Fi) (r : Fd × Int) (k : Nat) (asked : List (List UInt8)) (n : List UInt8) : Prop where
  len : asked.length = k + 1
  last : asked[k]? = some n
  size : n.length ≤ 4194304
  go : findGo nmsP l (9 - k) asked n = r
theorem ask_next {l : List Fi} {r : Fd × Int} {k : Nat} {asked : List (List UInt8)} {x : List UInt8} (hl : asked.length = k + 1) (hs : x.length ≤ 4194304) (h : r = findGo nmsP l (8 - k) (asked ++ [x]) x) : AskP l r (k + 1) (asked ++ [x]) x :=
  ⟨by rw [List.length_append, hl]; rfl, by rw [List.getElem?_append_right (by omega), hl]; simp, hs, by rw [h, show 9 - (k + 1) = 8 - k by omega]⟩
theorem find_may {l : List Fi} {u : List UInt8} (h : mayL nmsP l = false) : findL nmsP l u = (noFd, 1) := by unfold findL; rw [if_pos h]
theorem find_bad {l : List Fi} {u : List UInt8} (h : mayL nmsP l = true) (g : nmsP.good u = false) : findL nmsP l u = (noFd, 5) := by unfold findL; rw [if_neg (by simp [h]), if_pos g]
theorem find_ask {l : List Fi} {u : List UInt8} (h : mayL nmsP l = true) (g : nmsP.good u = true) : AskP l (findL nmsP l u) 0 [u] u :=
  ⟨rfl, rfl, by have := nmsOk.short u g; omega, by unfold findL; rw [if_neg (by simp [h]), if_neg (by simp [g])]⟩
theorem first_in {l : List Fi} {u : List UInt8} {f : Fi} (h : firstL l u = some f) : f ∈ l := by
  obtain ⟨_, _, h1, _⟩ := first_mem h
  exact h1
theorem inst_len (n : List UInt8) : (nmsP.inst n).length ≤ 60 := by
  show (Nm.instP (str n)).data.toList.length ≤ 60
  rw [size_list]
  exact Nm.instP_size _
theorem ins_some {t i s : List UInt8} (h : nmsP.ins t i = some s) (W : World) (ht : t.length ≤ 4194304) (hi : i.length ≤ 4194304) :
    Calls Tryz.prog 23 #[.string (str t), .string (str i)] W fun e w' => e = .returned (.tuple #[.string (str s), .bool true]) ∧ Below W.heap.size W w' := by
  have := Nm.rInstance_any (str t) (str i) (by rw [str_size]; unfold maxLen; omega) (by rw [str_size]; omega) W
  have h' : (if Nm.insOk (str t) (str i) = true then some (Nm.insS (str t) (str i)).data.toList else none) = some s := h
  split at h'
  · rename_i hok
    injection h' with hs
    rw [hok, ← str_data (Nm.insS (str t) (str i)), hs] at this
    exact this
  · cases h'
theorem ins_none {t i : List UInt8} (h : nmsP.ins t i = none) (W : World) (ht : t.length ≤ 4194304) (hi : i.length ≤ 4194304) :
    Calls Tryz.prog 23 #[.string (str t), .string (str i)] W fun e w' => e = .returned (.tuple #[.string ⟨#[]⟩, .bool false]) ∧ Below W.heap.size W w' := by
  have := Nm.rInstance_any (str t) (str i) (by rw [str_size]; unfold maxLen; omega) (by rw [str_size]; omega) W
  have h' : (if Nm.insOk (str t) (str i) = true then some (Nm.insS (str t) (str i)).data.toList else none) = none := h
  split at h'
  · cases h'
  · rename_i hok
    have hok : Nm.insOk (str t) (str i) = false := by simpa using hok
    have hS : Nm.insS (str t) (str i) = ⟨#[]⟩ := by unfold Nm.insS; rw [if_neg (by rw [hok]; simp)]
    rw [hok, hS] at this
    exact this
theorem atV_eq (o : Option Fi) : ∃ f b, atV o = .tuple #[.agg #[.string (str f.p), .string (str f.t), .string (str f.l)], .bool b] ∧ ((b = true ∧ o = some f) ∨ (b = false ∧ o = none)) := by
  cases o with
  | none => exact ⟨noFi, false, rfl, .inr ⟨rfl, rfl⟩⟩
  | some f => exact ⟨f, true, rfl, .inl ⟨rfl, rfl⟩⟩
def Stepped (l : List Fi) (nn : List UInt8) (b : Bool) (f : Fi) (b1 : Bool) : Prop := (b1 = true ∧ stepF nmsP l nn = some (f, b) ∧ f ∈ l) ∨ (b1 = false ∧ stepF nmsP l nn = none)
theorem stepped_own {l : List Fi} {nn : List UInt8} {f : Fi} (h : firstL l nn = some f) : Stepped l nn true f true := .inl ⟨rfl, by unfold stepF; rw [h], first_in h⟩
theorem stepped_no {l : List Fi} {nn : List UInt8} {f : Fi} (h : firstL l nn = none) (hi : nmsP.isI nn = false) : Stepped l nn false f false := .inr ⟨rfl, by unfold stepF; rw [h]; simp only; rw [if_neg (by rw [hi]; simp)]⟩
theorem stepped_tmpl {l : List Fi} {nn : List UInt8} {f : Fi} {b1 : Bool} (h : firstL l nn = none) (hi : nmsP.isI nn = true) (h2 : (b1 = true ∧ firstL l (nmsP.tmpl nn) = some f) ∨ (b1 = false ∧ firstL l (nmsP.tmpl nn) = none)) : Stepped l nn false f b1 := by
  rcases h2 with ⟨rfl, h2⟩ | ⟨rfl, h2⟩
  · exact .inl ⟨rfl, by unfold stepF; rw [h]; simp only; rw [if_pos hi, h2]; rfl, first_in h2⟩
  · exact .inr ⟨rfl, by unfold stepF; rw [h]; simp only; rw [if_pos hi, h2]; rfl⟩
set_option maxRecDepth 100000 in
set_option maxHeartbeats 8000000 in
theorem Find_any (A : Option Addr) (n c B : Nat) (l : List Fi) (u : ByteArray) (hu : u.size ≤ 4194304) (w : World) (h : FisAt w B A n l) (hB : B ≤ w.heap.size) (hs : ∀ x ∈ l, SizeF x) :
    Calls Tryz.prog 6 #[.slice A n c, .string u] w (FindP l u.data.toList w) := by
  obtain ⟨i0, hi, hz0, hz1, hz2⟩ := info_parts strInfo
  obtain ⟨ul, rfl⟩ : ∃ ul, u = str ul := ⟨u.data.toList, (str_data u).symm⟩
  rw [str_list]
  have hun : (str ul).size ≤ maxLen := by unfold maxLen; omega
  have hl := h.1
  have HS := Lib.hid hs
  have HR0 : Hid (Blk (w.alloc (.cells #[.string ⟨#[]⟩, .string ⟨#[]⟩, .bool false, .slice none 0 0] 26)) w.heap.size 26 fd0) := Blk.new w _ _
  have HB0 : Hid (Below w.heap.size w (w.alloc (.cells #[.string ⟨#[]⟩, .string ⟨#[]⟩, .bool false, .slice none 0 0] 26))) := (Below.refl _ w).alloc (Nat.le_refl _) _
  have HL0 : Hid (FisAt (w.alloc (.cells #[.string ⟨#[]⟩, .string ⟨#[]⟩, .bool false, .slice none 0 0] 26)) B A n l) := h.below ((Below.refl _ w).alloc (Nat.le_refl _) _ |>.mono hB)
  have hBs : B ≤ (w.alloc (.cells #[.string ⟨#[]⟩, .string ⟨#[]⟩, .bool false, .slice none 0 0] 26)).heap.size := by simp; omega
  clear h hs
  go_enter Tryz.func6, Tryz.ntmps6
  go_wp2_with fail
  generalize w.alloc (.cells #[.string ⟨#[]⟩, .string ⟨#[]⟩, .bool false, .slice none 0 0] 26) = w0 at *
  have HM := May_any A n c B l w0 HL0.out hBs HS.out
  rcases hm : mayL nmsP l with _ | _
  · rw [hm] at HM
    have HV := Lib.hid (find_may (u := ul) hm)
    clear hm
    refine HM.mono ?_
    rintro e w1 ⟨rfl, hb1⟩
    have HR1 := Lib.hid (HR0.out.below hb1 HR0.out.lt)
    have HB1 := Lib.hid (more3 HB0.out HB0.out.size hb1)
    go_wp2_with (refine wpList_store_row rfl 26 (.tmp 4) (.tmp 15) (by rfl) w.heap.size fd0 (by rfl) (by rfl) 26 fd0 HR1.out (by kernel_rfl) rfl fd0_all ?_)
    exact bodyPost_ret (results_cell_tmp (p := 4) (q := 5) rfl _ _ w.heap.size 26 fd0 _ _ rfl rfl (Blk.row HR1.out _) Tryz.underlying26 rfl (by kernel_rfl)) rfl (findP_no HV.out (below_setRow HB1.out (Nat.le_refl _) _))
  rw [hm] at HM
  have hn : n ≤ 120 := by have := (may_parts.1 hm).1; omega
  refine HM.mono ?_
  rintro e w1 ⟨rfl, hb1⟩
  have HR1 := Lib.hid (HR0.out.below hb1 HR0.out.lt)
  have HB1 := Lib.hid (more3 HB0.out HB0.out.size hb1)
  have HL1 := Lib.hid (HL0.out.below (hb1.mono hBs))
  have hBs1 : B ≤ w1.heap.size := Nat.le_trans hBs hb1.size
  have HG := Lib.hid (fun W => Nm.rMay_any (str ul) hun W)
  clear hb1 HR0 HB0 HL0 HM hBs
  rcases hg : Nm.goodP (str ul) with _ | _
  · have HV := Lib.hid (find_bad hm hg)
    rw [hg] at HG
    clear hm hg
    go_wp2_with fail
    refine (HG.out _).mono ?_
    rintro e2 w2 ⟨rfl, hb2⟩
    have HR2 := Lib.hid (HR1.out.below hb2 HR1.out.lt)
    have HB2 := Lib.hid (more3 HB1.out HB1.out.size hb2)
    go_wp2_with (refine wpList_store_row rfl 26 (.tmp 4) (.tmp 19) (by rfl) w.heap.size fd0 (by rfl) (by rfl) 26 fd0 HR2.out (by kernel_rfl) rfl fd0_all ?_)
    exact bodyPost_ret (results_cell_tmp (p := 4) (q := 5) rfl _ _ w.heap.size 26 fd0 _ _ rfl rfl (Blk.row HR2.out _) Tryz.underlying26 rfl (by kernel_rfl)) rfl (findP_no HV.out (below_setRow HB2.out (Nat.le_refl _) _))
  have HA0 := Lib.hid (find_ask hm hg)
  rw [hg] at HG
  obtain ⟨r, hr⟩ : ∃ r, findL nmsP l ul = r := ⟨_, rfl⟩
  have HRR := Lib.hid hr
  rw [hr] at HA0
  clear hm hg hr
  go_wp2_with fail
  refine (HG.out _).mono ?_
  rintro e2 w2 ⟨rfl, hb2⟩
  have HR2 := Lib.hid (HR1.out.below hb2 HR1.out.lt)
  have HB2 := Lib.hid (more3 HB1.out HB1.out.size hb2)
  have HL2 := Lib.hid (HL1.out.below (hb2.mono hBs1))
  have hBs2 : B ≤ w2.heap.size := Nat.le_trans hBs1 hb2.size
  have HO2 := Lib.hid (row_lit w2 (str ul))
  rw [str_list] at HO2
  clear hb2 HR1 HB1 HL1 HG hBs1
  have HR3 : Hid (Blk (w2.alloc (.cells #[.string (str ul)] 9)) w.heap.size 26 fd0) := HR2.out.alloc _
  have HB3 : Hid (Below w2.heap.size w2 (w2.alloc (.cells #[.string (str ul)] 9))) := (Below.refl _ w2).alloc (Nat.le_refl _) _
  have hR2l := HR2.out.lt
  go_wp2_with fail
  go_loopw [6] (fun v wr => ∃ (k : Nat) (asked : List (List UInt8)) (nn : List UInt8), k ≤ 8 ∧ lenV v = k + 1 ∧ Hid (AskP l r k asked nn) ∧ Hid (wr.ownsRow w2.heap.size 9 1 v (k + 1) (wcells asked)) ∧ Hid (Below w2.heap.size w2 wr)) (fun v wr => 10 - lenV v)
  case atStart => exact ⟨0, [ul], ul, by omega, rfl, HA0, HO2, HB3⟩
  case round =>
    obtain ⟨k, asked, nn, hk, hlv, hA, hO, hb⟩ := hrel
    obtain ⟨wa, rfl⟩ : ∃ wa : World, wa = wr := ⟨_, rfl⟩
    have hbs := hb.out.size
    obtain ⟨AA, ac, rfl, hrow⟩ := own_row hO.out (by unfold maxLen; omega)
    obtain ⟨ad, nn', rfl, hab, hnn, q0⟩ := hrow.at_ (k := k) (by omega)
    obtain rfl : nn' = nn := by
      have h1 := hA.out.last
      rw [hnn] at h1
      injection h1
    have HRow := Lib.hid hrow
    have hnl := hA.out.size
    have HLa := Lib.hid (HL2.out.below (hb.out.mono hBs2))
    have hBa : B ≤ wa.heap.size := Nat.le_trans hBs2 hbs
    have HRa := Lib.hid (HR3.out.same (show wa.heap[w.heap.size]? = (w2.alloc (.cells #[.string (str ul)] 9)).heap[w.heap.size]? from (hb.out.block _ hR2l).trans (HB3.out.block _ hR2l).symm))
    have HFst := Lib.hid (first_any A n c B l (str nn') (by rw [str_size]; omega) wa HLa.out hBa)
    rw [str_list] at HFst
    clear hnn hrow
    have c0 : (0 : Int) ≤ (k : Int) := by omega
    have c1 : (k : Int) < (k : Int) + 1 := by omega
    have c2 : IntKind.i64.wrap ((k : Int) + 1 - 1) = (k : Int) := by rw [show (k : Int) + 1 - 1 = (k : Int) by omega]; exact IntWalk.i64_in _ (by omega)
    obtain ⟨f0, b, hat, hfb⟩ := atV_eq (firstL l nn')
    rw [hat] at HFst
    have HFB := Lib.hid hfb
    clear hat hfb
    go_wp2_with fail
    refine HFst.out.mono ?_
    rintro e4 w4 ⟨rfl, hb4⟩
    have Hb4 := Lib.hid hb4
    have h4s := hb4.size
    have HF4 : Hid (Blk (w4.alloc (.cells #[.string (str f0.p), .string (str f0.t), .string (str f0.l)] 34)) w4.heap.size 34 (fiA f0)) := Blk.new w4 _ _
    have HB4 : Hid (Below wa.heap.size wa (w4.alloc (.cells #[.string (str f0.p), .string (str f0.t), .string (str f0.l)] 34))) := hb4.alloc h4s _
    have h4z : (w4.alloc (.cells #[.string (str f0.p), .string (str f0.t), .string (str f0.l)] 34)).heap.size = w4.heap.size + 1 := by simp
    have HI := Lib.hid (fun W => Nm.rIsInstance_any (str nn') (by rw [str_size]; unfold maxLen; omega) W)
    have HT : Hid (∀ W, Calls Tryz.prog 21 #[.string (str nn')] W fun e w' => e = .returned (.string (str (nmsP.tmpl nn'))) ∧ Below W.heap.size W w') := fun W => by
      have := Nm.rTemplate_any (str nn') (by rw [str_size]; unfold maxLen; omega) W
      rw [← tmpl_str] at this
      exact this
    have htl := tmpl_len nn'
    obtain ⟨bi, hbi⟩ : ∃ b, nmsP.isI nn' = b := ⟨_, rfl⟩
    rw [← isI_eq, hbi] at HI
    have HBI := Lib.hid hbi
    clear hb4 HFst hbi
    obtain ⟨tb, htb⟩ : ∃ t, (!b && bi) = t := ⟨_, rfl⟩
    have HTB := Lib.hid htb
    clear htb
    go_upto_region 9 with fail
    generalize w4.alloc (.cells #[.string (str f0.p), .string (str f0.t), .string (str f0.l)] 34) = w5 at *
    go_cut [40] (fun t wx => t = .bool tb ∧ Hid (Below w5.heap.size w5 wx))
    case first =>
      cases b with
      | true =>
        go_wp2_with fail
        go_meet
        exact ⟨by rw [← HTB.out]; rfl, Below.refl _ _⟩
      | false =>
        go_wp2_with fail
        refine (HI.out _).mono ?_
        rintro e6 w6 ⟨rfl, hb6⟩
        go_wp2_with fail
        go_meet
        exact ⟨by rw [← HTB.out]; simp, hb6⟩
    case rest =>
      obtain ⟨rfl, hb6⟩ := hcut
      have HF6 := Lib.hid (HF4.out.below hb6.out HF4.out.lt)
      have HB6 := Lib.hid (more3 HB4.out HB4.out.size hb6.out)
      have h6s := HB6.out.size
      clear HF4 HB4 hb6 HI
      go_upto_if 40 with fail
      go_cut [9] (fun t wx => ∃ (f1 : Fi) (b1 : Bool), t = .bool b1 ∧ Hid (Stepped l nn' b f1 b1) ∧ Hid (Blk wx w4.heap.size 34 (fiA f1)) ∧ Hid (Below wa.heap.size wa wx))
      case first =>
        rcases HFB.out with ⟨rfl, hfo⟩ | ⟨rfl, hfo⟩
        · have HSt := Lib.hid (stepped_own hfo)
          obtain rfl : false = tb := HTB.out
          clear hfo
          go_wp2_with fail
          go_meet
          exact ⟨f0, true, rfl, HSt, HF6, HB6⟩
        · cases bi with
          | false =>
            have HSt := Lib.hid (stepped_no (f := f0) hfo HBI.out)
            obtain rfl : false = tb := HTB.out
            clear hfo
            go_wp2_with fail
            go_meet
            exact ⟨f0, false, rfl, HSt, HF6, HB6⟩
          | true =>
            have hfo' := Lib.hid hfo
            obtain rfl : true = tb := HTB.out
            clear hfo
            go_wp2_with fail
            refine (HT.out _).mono ?_
            rintro e7 w7 ⟨rfl, hb7⟩
            have HF7 := Lib.hid (HF6.out.below hb7 HF6.out.lt)
            have HB7 := Lib.hid (more3 HB6.out HB6.out.size hb7)
            have HFs := Lib.hid (first_any A n c B l (str (nmsP.tmpl nn')) (by rw [str_size]; omega) w7 (HLa.out.below (HB7.out.mono hBa)) (Nat.le_trans hBa HB7.out.size))
            rw [str_list] at HFs
            obtain ⟨f1, b1, hat, hfb⟩ := atV_eq (firstL l (nmsP.tmpl nn'))
            rw [hat] at HFs
            have HSt := Lib.hid (stepped_tmpl hfo'.out HBI.out hfb)
            clear hb7 HF6 HB6 hat hfb
            go_wp2_with fail
            refine HFs.out.mono ?_
            rintro e8 w8 ⟨rfl, hb8⟩
            have HF8 := Lib.hid (HF7.out.below hb8 HF7.out.lt)
            have HB8 := Lib.hid (more3 HB7.out HB7.out.size hb8)
            go_wp2_with (refine wpList_store_row rfl 34 (.tmp 8) (.tmp 46) (by rfl) w4.heap.size (fiA f1) (by rfl) (by rfl) 34 (fiA f0) HF8.out (by kernel_rfl) rfl (fiA_all _) ?_)
            go_meet
            exact ⟨f1, b1, rfl, HSt, Blk.row HF8.out _, below_setRow HB8.out h4s _⟩
      case rest =>
        obtain ⟨f1, b1, rfl, HSt, HF7, HB7⟩ := hcut
        have HBd := Lib.hid (more3 hb.out hbs HB7.out)
        have HBw2 := Lib.hid (more3 HB3.out HB3.out.size (show Below _ _ _ from Below.refl _ _))
        have HRc := Lib.hid (HRa.out.below HB7.out HRa.out.lt)
        have HBc : Hid (Below w.heap.size w wc) := more3 HB2.out HB2.out.size HBd.out
        have HLc := Lib.hid (HLa.out.below (HB7.out.mono hBa))
        have hBc : B ≤ wc.heap.size := Nat.le_trans hBa HB7.out.size
        have HRowc := Lib.hid (HRow.out.below HB7.out)
        have hOc := Lib.hid (own_below hO.out HB7.out)
        have HGo : Hid (r = match roundF nmsP (dropsL nmsP l nn') asked nn' (stepF nmsP l nn') with
            | .inl r => r
            | .inr x => findGo nmsP l (8 - k) (asked ++ [x]) x) := by
          show _ = _
          rw [← hA.out.go, show 9 - k = (8 - k) + 1 by omega, go_step]
        have hal := hA.out.len
        have kF0 : wc.cell? ⟨w4.heap.size, 0, none⟩ = some (.string (str f1.p)) := HF7.out.cell 0
        have kF2 : wc.cell? ⟨w4.heap.size, 2, none⟩ = some (.string (str f1.l)) := HF7.out.cell 2
        clear HRa HLa hO HRow HF6 HB6 h6s HBI HFB HT
        rcases HSt.out with ⟨rfl, hst, hfin⟩ | ⟨rfl, hst⟩
        · rw [hst] at HGo
          have hfs := HS.out f1 hfin
          clear hst HSt hfin
          by_cases hl0 : f1.l = []
          · have HV : Hid (findL nmsP l ul = (⟨nn', f1.p, false, dropsL nmsP l nn'⟩, 0)) := by show _ = _; rw [HRR.out, HGo.out]; simp only [roundF]; rw [if_pos hl0]
            have t1 : ((str f1.l).toList == []) = true := by rw [eq_nil, decide_eq_true hl0]
            have HD := Lib.hid (fun W (hW : Below wc.heap.size wc W) => Drops_any A n c B l (str nn') (by rw [str_size]; omega) W (HLc.out.below (hW.mono hBc)) (Nat.le_trans hBc hW.size) HS.out hn)
            rw [str_list] at HD
            clear hl0 HGo
            go_wp2_with fail
            refine wp_region_held_drew (S := fun W => Below w.heap.size w W ∧ W.cell? ⟨w4.heap.size, 0, none⟩ = some (.string (str f1.p))) (by kernel_rfl) ?_ (fun hHeld => ?_)
            · exact ⟨HBc.out.drew, kF0⟩
            refine wpAnyH_take (i := 0) (v := ?v0_1) rfl (by kernel_rfl) (by kernel_rfl) (by kernel_rfl) (fun _ _ _ h => h) (Or.inl ⟨by rfl, ?hy0_1⟩) (by assumption) ?_
            case hy0_1 => (intro W hSw; (try dsimp only at hSw); go_simp; (try with_reducible rfl))
            try simp only [Act.put, List.getElem_toArray, List.getElem_cons_zero, List.setIfInBounds_toArray, List.set_cons_zero, List.set_cons_succ]
            refine wpAnyH_take (i := 1) (v := ?v1_1) rfl (by kernel_rfl) (by kernel_rfl) (by kernel_rfl) (fun _ _ _ h => h) (Or.inl ⟨by rfl, ?hy1_1⟩) (by assumption) ?_
            case hy1_1 => (intro W hSw; (try dsimp only at hSw); go_simp; (try with_reducible rfl))
            try simp only [Act.put, List.getElem_toArray, List.getElem_cons_zero, List.getElem_cons_succ, List.setIfInBounds_toArray, List.set_cons_zero, List.set_cons_succ]
            refine wpAnyH_take (i := 2) (v := ?v2_1) rfl (by kernel_rfl) (by kernel_rfl) (by kernel_rfl) (fun _ _ _ h => h) (Or.inl ⟨by rfl, ?hy2_1⟩) (by assumption) ?_
            case hy2_1 => (intro W hSw; have q9 : W.cell? ⟨w4.heap.size, 0, none⟩ = some (.string (str f1.p)) := hSw.2; (try dsimp only at hSw); go_simp; (try with_reducible rfl))
            try simp only [Act.put, List.getElem_toArray, List.getElem_cons_zero, List.getElem_cons_succ, List.setIfInBounds_toArray, List.set_cons_zero, List.set_cons_succ]
            refine wpAnyH_take (i := 3) (v := ?v3_1) rfl (by kernel_rfl) (by kernel_rfl) (by kernel_rfl) (fun _ _ _ h => h) (Or.inl ⟨by rfl, ?hy3_1⟩) (by assumption) ?_
            case hy3_1 => (intro W hSw; (try dsimp only at hSw); go_simp; (try with_reducible rfl))
            try simp only [Act.put, List.getElem_toArray, List.getElem_cons_zero, List.getElem_cons_succ, List.setIfInBounds_toArray, List.set_cons_zero, List.set_cons_succ]
            refine wpAnyH_take (i := 4) (v := ?v4_1) rfl (by kernel_rfl) (by kernel_rfl) (by kernel_rfl) (fun _ _ _ h => h) (Or.inl ⟨by rfl, ?hy4_1⟩) (by assumption) ?_
            case hy4_1 => (intro W hSw; (try dsimp only at hSw); go_simp; (try with_reducible rfl))
            try simp only [Act.put, List.getElem_toArray, List.getElem_cons_zero, List.getElem_cons_succ, List.setIfInBounds_toArray, List.set_cons_zero, List.set_cons_succ]
            refine wpAnyH_ready (rs := [5]) (by kernel_rfl) (by simp) ?_
            refine AllReadyH.cons rfl (fun K hK => ?_) AllReadyH.nil
            go_simp
            (refine (HD.out _ (Below.refl _ wc).drew).mono ?_; rintro e wq ⟨dv, rfl, ⟨dA, dc, rfl, hdr, hdn⟩, hbq⟩)
            refine hK.out _ _ ?_ (fun hHeld2 => ?_)
            · exact ⟨more3 hHeld.1 hHeld.1.size hbq, (hbq.cell (p := ⟨w4.heap.size, 0, none⟩) HF7.out.lt).trans kF0⟩
            clear hK K hHeld 
            have hHeld := hHeld2
            clear hHeld2
            try simp only [Act.put, List.getElem_toArray, List.getElem_cons_zero, List.getElem_cons_succ, List.setIfInBounds_toArray, List.set_cons_zero, List.set_cons_succ]
            refine wpAnyH_take (i := 6) (v := ?v6_1) rfl (by kernel_rfl) (by kernel_rfl) (by kernel_rfl) (fun _ _ _ h => h) (Or.inl ⟨by rfl, ?hy6_1⟩) (by assumption) ?_
            case hy6_1 => (intro W hSw; (try dsimp only at hSw); go_simp; (try with_reducible rfl))
            try simp only [Act.put, List.getElem_toArray, List.getElem_cons_zero, List.getElem_cons_succ, List.setIfInBounds_toArray, List.set_cons_zero, List.set_cons_succ]
            have HBq : Below wc.heap.size wc wq := more3 (Below.refl _ wc).drew (Nat.le_refl _) hbq
            have HRq := Lib.hid (HRc.out.below HBq HRc.out.lt)
            have z0 : wq.cell? ⟨w.heap.size, 0, none⟩ = some (.string ⟨#[]⟩) := HRq.out.cell 0
            have y0 : wq.frozen? ⟨w.heap.size, 0, none⟩ = false := HRq.out.frozen 0
            have z1 : wq.cell? ⟨w.heap.size, 1, none⟩ = some (.string ⟨#[]⟩) := HRq.out.cell 1
            have y1 : wq.frozen? ⟨w.heap.size, 1, none⟩ = false := HRq.out.frozen 1
            have z2 : wq.cell? ⟨w.heap.size, 2, none⟩ = some (.bool false) := HRq.out.cell 2
            have y2 : wq.frozen? ⟨w.heap.size, 2, none⟩ = false := HRq.out.frozen 2
            have z3 : wq.cell? ⟨w.heap.size, 3, none⟩ = some (.slice none 0 0) := HRq.out.cell 3
            have y3 : wq.frozen? ⟨w.heap.size, 3, none⟩ = false := HRq.out.frozen 3
            refine wpAnyH_ready (rs := [7]) (by kernel_rfl) (by simp) ?_
            refine AllReadyH.cons rfl (fun K hK => ?_) AllReadyH.nil
            go_simp
            have HZ : Hid (Blk ((((wq.setCell ⟨w.heap.size, 0, none⟩ (.string (str nn'))).setCell ⟨w.heap.size, 1, none⟩ (.string (str f1.p))).setCell ⟨w.heap.size, 2, none⟩ (.bool false)).setCell ⟨w.heap.size, 3, none⟩ (.slice dA (dropsL nmsP l nn').length dc)) w.heap.size 26 (fdA nn' f1.p false (.slice dA (dropsL nmsP l nn').length dc))) := (((HRq.out.setCell 0 _).setCell 1 _).setCell 2 _).setCell 3 _
            have HBz : Hid (Below w.heap.size w ((((wq.setCell ⟨w.heap.size, 0, none⟩ (.string (str nn'))).setCell ⟨w.heap.size, 1, none⟩ (.string (str f1.p))).setCell ⟨w.heap.size, 2, none⟩ (.bool false)).setCell ⟨w.heap.size, 3, none⟩ (.slice dA (dropsL nmsP l nn').length dc))) := ((((more3 HBc.out HBc.out.size HBq).setCell (p := ⟨w.heap.size, 0, none⟩) (Nat.le_refl _) _).setCell (p := ⟨w.heap.size, 1, none⟩) (Nat.le_refl _) _).setCell (p := ⟨w.heap.size, 2, none⟩) (Nat.le_refl _) _).setCell (p := ⟨w.heap.size, 3, none⟩) (Nat.le_refl _) _
            have hne : ∀ ad, dA = some ad → ad.block ≠ w.heap.size := fun ad h => by have h1 := hdn ad h; have h2 : w.heap.size < wc.drew.heap.size := HRc.out.lt; omega
            have HDr : Hid (RowOut ((((wq.setCell ⟨w.heap.size, 0, none⟩ (.string (str nn'))).setCell ⟨w.heap.size, 1, none⟩ (.string (str f1.p))).setCell ⟨w.heap.size, 2, none⟩ (.bool false)).setCell ⟨w.heap.size, 3, none⟩ (.slice dA (dropsL nmsP l nn').length dc)) (.slice dA (dropsL nmsP l nn').length dc) (dropsL nmsP l nn')) := ⟨_, _, rfl, by have h4 := (((hdr.setOther hne 0 (.string (str nn'))).setOther hne 1 (.string (str f1.p))).setOther hne 2 (.bool false)).setOther hne 3 (.slice dA (dropsL nmsP l nn').length dc); simpa [World.setCell] using h4⟩
            have hne4 : w4.heap.size ≠ w.heap.size := by omega
            have hFq : wq.cell? ⟨w4.heap.size, 0, none⟩ = some (.string (str f1.p)) := hHeld.2
            have HFz : Hid (((((wq.setCell ⟨w.heap.size, 0, none⟩ (.string (str nn'))).setCell ⟨w.heap.size, 1, none⟩ (.string (str f1.p))).setCell ⟨w.heap.size, 2, none⟩ (.bool false)).setCell ⟨w.heap.size, 3, none⟩ (.slice dA (dropsL nmsP l nn').length dc)).cell? ⟨w4.heap.size, 0, none⟩ = some (.string (str f1.p))) := by show _ = _; rw [cell_far _ _ _ _ _ _ hne4, cell_far _ _ _ _ _ _ hne4, cell_far _ _ _ _ _ _ hne4, cell_far _ _ _ _ _ _ hne4]; exact hFq
            clear hFq
            generalize (((wq.setCell ⟨w.heap.size, 0, none⟩ (.string (str nn'))).setCell ⟨w.heap.size, 1, none⟩ (.string (str f1.p))).setCell ⟨w.heap.size, 2, none⟩ (.bool false)).setCell ⟨w.heap.size, 3, none⟩ (.slice dA (dropsL nmsP l nn').length dc) = wz at *
            refine hK.out _ _ ⟨HBz.out, HFz.out⟩ (fun hHz => ?_)
            clear hK K z0 z1 z2 z3 y0 y1 y2 y3
            try simp only [Act.put, List.getElem_toArray, List.getElem_cons_zero, List.getElem_cons_succ, List.setIfInBounds_toArray, List.set_cons_zero, List.set_cons_succ]
            refine wpAnyH_take (i := 8) (v := ?v8_9) rfl (by kernel_rfl) (by kernel_rfl) (by kernel_rfl) (fun _ _ _ h => h) (Or.inl ⟨by rfl, ?hy8_9⟩) (by assumption) ?_
            case hy8_9 => (intro W hSw; (try dsimp only at hSw); go_simp; (try with_reducible rfl))
            try simp only [Act.put, List.getElem_toArray, List.getElem_cons_zero, List.getElem_cons_succ, List.setIfInBounds_toArray, List.set_cons_zero, List.set_cons_succ]
            refine wpAnyH_done (by kernel_rfl) ?_ _
            go_wp2_with fail
            exact bodyPost_ret (results_cell_tmp (p := 4) (q := 5) rfl _ _ w.heap.size 26 (fdA nn' f1.p false (.slice dA (dropsL nmsP l nn').length dc)) _ _ rfl rfl HZ.out Tryz.underlying26 rfl (by kernel_rfl)) rfl ⟨_, by rw [HV.out]; rfl, by rw [HV.out]; exact HDr.out, HBz.out⟩
          · have t1 : ((str f1.l).toList == []) = false := by rw [eq_nil, decide_eq_false hl0]
            by_cases hln : f1.l = nulL
            · have HV : Hid (findL nmsP l ul = (⟨nn', f1.p, true, []⟩, 0)) := by show _ = _; rw [HRR.out, HGo.out]; simp only [roundF]; rw [if_neg hl0, if_pos hln]
              have t2 : ((str f1.l).toList == [110, 117, 108, 108]) = true := by rw [eq_nul, decide_eq_true hln]
              clear hl0 HGo hln
              go_wp2_with (refine wpList_store_row rfl 26 (.tmp 4) (.tmp 75) (by rfl) w.heap.size (fdA nn' f1.p true (.slice none 0 0)) (by rfl) (by rfl) 26 fd0 HRc.out (by kernel_rfl) rfl (fdA_all _ _ _ _ _ _) ?_)
              exact bodyPost_ret (results_cell_tmp (p := 4) (q := 5) rfl _ _ w.heap.size 26 (fdA nn' f1.p true (.slice none 0 0)) _ _ rfl rfl (Blk.row HRc.out _) Tryz.underlying26 rfl (by kernel_rfl)) rfl ⟨.slice none 0 0, by rw [HV.out]; rfl, by rw [HV.out]; exact rowOut_nil _, below_setRow HBc.out (Nat.le_refl _) _⟩
            · have t2 : ((str f1.l).toList == [110, 117, 108, 108]) = false := by rw [eq_nul, decide_eq_false hln]
              have HGn : Hid (r = match (match (if b = true then some f1.l else nmsP.ins f1.l (nmsP.inst nn')) with
                  | none => (.inl (noFd, 17) : (Fd × Int) ⊕ List UInt8)
                  | some x => if x ∈ asked ∨ 8 < asked.length then .inl (noFd, 17) else .inr x) with
                  | .inl r => r
                  | .inr x => findGo nmsP l (8 - k) (asked ++ [x]) x) := by
                show _ = _
                rw [HGo.out]
                simp only [roundF]
                rw [if_neg hl0, if_neg hln]
                rfl
              have hil := inst_len nn'
              have hisz : (Nm.instP (str nn')) = str (nmsP.inst nn') := (str_data (Nm.instP (str nn'))).symm
              have HOf : Hid (∀ W, Calls Tryz.prog 24 #[.string (str nn')] W fun e w' => e = .returned (.agg #[.int .i64 (Nm.kindP (str nn')), .string (Nm.preP (str nn')), .string (str (nmsP.inst nn')), .bool (Nm.atP (str nn'))]) ∧ Below W.heap.size W w') := fun W => by
                have := Nm.Of_any (str nn') (by rw [str_size]; unfold maxLen; omega) W
                rw [hisz] at this
                exact this
              have hfl := hfs.2.2
              clear hl0 HGo hln hisz
              go_upto_if 79 with fail
              go_cut [9, 11] (fun ok nx wx => ∃ (xo : List UInt8) (bo : Bool), ok = .bool bo ∧ nx = .string (str xo) ∧ Hid ((bo = true ∧ (if b = true then some f1.l else nmsP.ins f1.l (nmsP.inst nn')) = some xo ∧ xo.length ≤ 4194304) ∨ (bo = false ∧ (if b = true then some f1.l else nmsP.ins f1.l (nmsP.inst nn')) = none)) ∧ Hid (Below wc.heap.size wc wx))
              case first =>
                cases b with
                | true =>
                  go_wp2_with fail
                  go_meet
                  exact ⟨f1.l, true, rfl, rfl, .inl ⟨rfl, rfl, hfl⟩, Below.refl _ _⟩
                | false =>
                  have q2 := fun W => Nm.fld2 (Nm.kindP (str nn')) (Nm.preP (str nn')) (str (nmsP.inst nn')) (Nm.atP (str nn')) W
                  obtain ⟨xo, bo, HIn⟩ : ∃ (xo : List UInt8) (bo : Bool), Hid ((∀ W, Calls Tryz.prog 23 #[.string (str f1.l), .string (str (nmsP.inst nn'))] W fun e w' => e = .returned (.tuple #[.string (str xo), .bool bo]) ∧ Below W.heap.size W w') ∧ ((bo = true ∧ nmsP.ins f1.l (nmsP.inst nn') = some xo ∧ xo.length ≤ 4194304) ∨ (bo = false ∧ nmsP.ins f1.l (nmsP.inst nn') = none))) := by
                    rcases hin : nmsP.ins f1.l (nmsP.inst nn') with _ | xo
                    · exact ⟨[], false, fun W => ins_none hin W hfl (by omega), .inr ⟨rfl, rfl⟩⟩
                    · exact ⟨xo, true, fun W => ins_some hin W hfl (by omega), .inl ⟨rfl, rfl, by have := nmsOk.short xo (nmsOk.ins _ _ _ hin).1; omega⟩⟩
                  go_wp2_with fail
                  refine wp_region_held_drew (S := fun W => Below wc.heap.size wc W) (by kernel_rfl) ?_ (fun hHeld => ?_)
                  · exact (Below.refl _ wc).drew
                  refine wpAnyH_take (i := 0) (v := ?v0_2) rfl (by kernel_rfl) (by kernel_rfl) (by kernel_rfl) (fun _ _ _ h => h) (Or.inl ⟨by rfl, ?hy0_2⟩) (by assumption) ?_
                  case hy0_2 => (intro W hSw; (try dsimp only at hSw); go_simp; (try with_reducible rfl))
                  try simp only [Act.put, List.getElem_toArray, List.getElem_cons_zero, List.setIfInBounds_toArray, List.set_cons_zero, List.set_cons_succ]
                  refine wpAnyH_take (i := 1) (v := ?v1_2) rfl (by kernel_rfl) (by kernel_rfl) (by kernel_rfl) (fun _ _ _ h => h) (Or.inl ⟨by rfl, ?hy1_2⟩) (by assumption) ?_
                  case hy1_2 => (intro W hSw; have q9 : W.cell? ⟨w4.heap.size, 2, none⟩ = some (.string (str f1.l)) := (Below.cell hSw (p := ⟨w4.heap.size, 2, none⟩) HF7.out.lt).trans kF2; (try dsimp only at hSw); go_simp; (try with_reducible rfl))
                  try simp only [Act.put, List.getElem_toArray, List.getElem_cons_zero, List.getElem_cons_succ, List.setIfInBounds_toArray, List.set_cons_zero, List.set_cons_succ]
                  refine wpAnyH_take (i := 2) (v := ?v2_2) rfl (by kernel_rfl) (by kernel_rfl) (by kernel_rfl) (fun _ _ _ h => h) (Or.inl ⟨by rfl, ?hy2_2⟩) (by assumption) ?_
                  case hy2_2 => (intro W hSw; (try dsimp only at hSw); go_simp; (try with_reducible rfl))
                  try simp only [Act.put, List.getElem_toArray, List.getElem_cons_zero, List.getElem_cons_succ, List.setIfInBounds_toArray, List.set_cons_zero, List.set_cons_succ]
                  refine wpAnyH_ready (rs := [3]) (by kernel_rfl) (by simp) ?_
                  refine AllReadyH.cons rfl (fun K hK => ?_) AllReadyH.nil
                  go_simp
                  (refine (HOf.out _).mono ?_; rintro e wq ⟨rfl, hbq⟩)
                  refine hK.out _ _ ?_ (fun hHeld2 => ?_)
                  · exact more3 hHeld hHeld.size hbq
                  clear hK K hHeld hbq
                  have hHeld := hHeld2
                  clear hHeld2
                  try simp only [Act.put, List.getElem_toArray, List.getElem_cons_zero, List.getElem_cons_succ, List.setIfInBounds_toArray, List.set_cons_zero, List.set_cons_succ]
                  refine wpAnyH_take (i := 4) (v := ?v4_2) rfl (by kernel_rfl) (by kernel_rfl) (by kernel_rfl) (fun _ _ _ h => h) (Or.inl ⟨by rfl, ?hy4_2⟩) (by assumption) ?_
                  case hy4_2 => (intro W hSw; (try dsimp only at hSw); go_simp; (try with_reducible rfl))
                  try simp only [Act.put, List.getElem_toArray, List.getElem_cons_zero, List.getElem_cons_succ, List.setIfInBounds_toArray, List.set_cons_zero, List.set_cons_succ]
                  refine wpAnyH_ready (rs := [5]) (by kernel_rfl) (by simp) ?_
                  refine AllReadyH.cons rfl (fun K hK => ?_) AllReadyH.nil
                  go_simp
                  (refine (HIn.out.1 _).mono ?_; rintro e wq2 ⟨rfl, hbq⟩)
                  refine hK.out _ _ ?_ (fun hHeld2 => ?_)
                  · exact more3 hHeld hHeld.size hbq
                  clear hK K hHeld hbq
                  have hHeld := hHeld2
                  clear hHeld2
                  try simp only [Act.put, List.getElem_toArray, List.getElem_cons_zero, List.getElem_cons_succ, List.setIfInBounds_toArray, List.set_cons_zero, List.set_cons_succ]
                  refine wpAnyH_take (i := 6) (v := ?v6_2) rfl (by kernel_rfl) (by kernel_rfl) (by kernel_rfl) (fun _ _ _ h => h) (Or.inl ⟨by rfl, ?hy6_2⟩) (by assumption) ?_
                  case hy6_2 => (intro W hSw; (try dsimp only at hSw); go_simp; (try with_reducible rfl))
                  try simp only [Act.put, List.getElem_toArray, List.getElem_cons_zero, List.getElem_cons_succ, List.setIfInBounds_toArray, List.set_cons_zero, List.set_cons_succ]
                  refine wpAnyH_take (i := 7) (v := ?v7_2) rfl (by kernel_rfl) (by kernel_rfl) (by kernel_rfl) (fun _ _ _ h => h) (Or.inl ⟨by rfl, ?hy7_2⟩) (by assumption) ?_
                  case hy7_2 => (intro W hSw; (try dsimp only at hSw); go_simp; (try with_reducible rfl))
                  try simp only [Act.put, List.getElem_toArray, List.getElem_cons_zero, List.getElem_cons_succ, List.setIfInBounds_toArray, List.set_cons_zero, List.set_cons_succ]
                  refine wpAnyH_take (i := 8) (v := ?v8_2) rfl (by kernel_rfl) (by kernel_rfl) (by kernel_rfl) (fun _ _ _ h => h) (Or.inl ⟨by rfl, ?hy8_2⟩) (by assumption) ?_
                  case hy8_2 => (intro W hSw; (try dsimp only at hSw); go_simp; (try with_reducible rfl))
                  try simp only [Act.put, List.getElem_toArray, List.getElem_cons_zero, List.getElem_cons_succ, List.setIfInBounds_toArray, List.set_cons_zero, List.set_cons_succ]
                  refine wpAnyH_take (i := 9) (v := ?v9_2) rfl (by kernel_rfl) (by kernel_rfl) (by kernel_rfl) (fun _ _ _ h => h) (Or.inl ⟨by rfl, ?hy9_2⟩) (by assumption) ?_
                  case hy9_2 => (intro W hSw; (try dsimp only at hSw); go_simp; (try with_reducible rfl))
                  try simp only [Act.put, List.getElem_toArray, List.getElem_cons_zero, List.getElem_cons_succ, List.setIfInBounds_toArray, List.set_cons_zero, List.set_cons_succ]
                  refine wpAnyH_take (i := 10) (v := ?v10_2) rfl (by kernel_rfl) (by kernel_rfl) (by kernel_rfl) (fun _ _ _ h => h) (Or.inl ⟨by rfl, ?hy10_2⟩) (by assumption) ?_
                  case hy10_2 => (intro W hSw; (try dsimp only at hSw); go_simp; (try with_reducible rfl))
                  try simp only [Act.put, List.getElem_toArray, List.getElem_cons_zero, List.getElem_cons_succ, List.setIfInBounds_toArray, List.set_cons_zero, List.set_cons_succ]
                  refine wpAnyH_done (by kernel_rfl) ?_ _
                  have HBz := Lib.hid hHeld
                  go_wp2_with fail
                  go_meet
                  exact ⟨xo, bo, rfl, rfl, HIn.out.2, HBz.out⟩
              case rest =>
                obtain ⟨xo, bo, rfl, rfl, HX, HB8⟩ := hcut
                have HRd := Lib.hid (HRc.out.below HB8.out HRc.out.lt)
                have HBd8 := Lib.hid (more3 HBc.out HBc.out.size HB8.out)
                have HRowd := Lib.hid (HRowc.out.below (HB8.out.mono HB7.out.size))
                have hOd := Lib.hid (own_below hOc.out HB8.out)
                have Hbd := Lib.hid (more3 HBd.out HBd.out.size HB8.out)
                have hbds := Hbd.out.size
                clear HOf kF0 kF2 HF7
                rcases HX.out with ⟨rfl, hz, hxl⟩ | ⟨rfl, hz⟩
                · rw [hz] at HGn
                  have HHs := Lib.hid (Has_any (some ad) (k + 1) ac _ asked (str xo) _ HRowd.out)
                  rw [str_list, any_mem] at HHs
                  clear hz
                  by_cases hxa : xo ∈ asked
                  · have HV : Hid (findL nmsP l ul = (noFd, 17)) := by show _ = _; rw [HRR.out, HGn.out]; simp only; rw [if_pos (.inl hxa)]
                    rw [decide_eq_true hxa] at HHs
                    clear hxa HGn HX
                    go_wp2_with fail
                    refine HHs.out.mono ?_
                    rintro e9 w9 ⟨rfl, rfl⟩
                    go_wp2_with (refine wpList_store_row rfl 26 (.tmp 4) (.tmp 101) (by rfl) w.heap.size fd0 (by rfl) (by rfl) 26 fd0 HRd.out (by kernel_rfl) rfl fd0_all ?_)
                    exact bodyPost_ret (results_cell_tmp (p := 4) (q := 5) rfl _ _ w.heap.size 26 fd0 _ _ rfl rfl (Blk.row HRd.out _) Tryz.underlying26 rfl (by kernel_rfl)) rfl (findP_no HV.out (below_setRow HBd8.out (Nat.le_refl _) _))
                  · rw [decide_eq_false hxa] at HHs
                    by_cases hk8 : k = 8
                    · have HV : Hid (findL nmsP l ul = (noFd, 17)) := by show _ = _; rw [HRR.out, HGn.out]; simp only; rw [if_pos (.inr (by omega))]
                      have t3 : decide ((8 : Int) < (k : Int) + 1) = true := by simp; omega
                      clear hxa HGn HX hk8
                      go_wp2_with fail
                      refine HHs.out.mono ?_
                      rintro e9 w9 ⟨rfl, rfl⟩
                      go_wp2_with (refine wpList_store_row rfl 26 (.tmp 4) (.tmp 101) (by rfl) w.heap.size fd0 (by rfl) (by rfl) 26 fd0 HRd.out (by kernel_rfl) rfl fd0_all ?_)
                      exact bodyPost_ret (results_cell_tmp (p := 4) (q := 5) rfl _ _ w.heap.size 26 fd0 _ _ rfl rfl (Blk.row HRd.out _) Tryz.underlying26 rfl (by kernel_rfl)) rfl (findP_no HV.out (below_setRow HBd8.out (Nat.le_refl _) _))
                    · have HNx : Hid (AskP l r (k + 1) (asked ++ [xo]) xo) := ask_next hal hxl (by rw [HGn.out]; simp only; rw [if_neg (by rintro (h | h); exact hxa h; omega)])
                      have t3 : decide ((8 : Int) < (k : Int) + 1) = false := by simp; omega
                      have honex := Lib.hid (one_cell (str xo))
                      rw [str_list] at honex
                      clear hxa HGn HX
                      go_wp2_with fail
                      refine HHs.out.mono ?_
                      rintro e9 w9 ⟨rfl, rfl⟩
                      go_wp2_with (at_builtin; refine wpList_append_own _ rfl _ _ 24 rfl w2.heap.size 9 i0 (.string ⟨#[]⟩) 1 16 Tryz.underlying24 hi hz0 hz1 hz2 rfl (by decide) _ _ _ rfl (hOd.out.alloc _) ⟨wc.heap.size, 0, none⟩ 1 1 [.string (str xo)] rfl rfl ?a2 ?b2 ?c2 ?d2 ?e2 ?_)
                      case a2 =>
                        intro j u hj
                        match j, hj with
                        | 0, hj =>
                          simp at hj
                          subst hj
                          simp [Addr.add]
                      case b2 => intro u hu; simp at hu; subst hu; rfl
                      case c2 => unfold maxLen; omega
                      case d2 => omega
                      case e2 => simp; omega
                      intro v' w10 own10 grow10 _
                      have HO10 : Hid (w10.ownsRow w2.heap.size 9 1 v' (k + 1 + 1) (wcells (asked ++ [xo]))) := by
                        show World.ownsRow _ _ _ _ _ _ _
                        rw [wcells_app, honex.out]
                        exact own10
                      have HB10 : Hid (Below w2.heap.size w2 w10) := (Hbd.out.alloc hbds _).grown grow10 (by simp; omega) (fun g hg => (hOd.out.lt g hg).1)
                      have hlv10 : lenV v' = k + 1 + 1 := by
                        obtain ⟨A9, c9, rfl, _⟩ := own_row HO10.out (by unfold maxLen; omega)
                        rfl
                      clear own10 grow10
                      go_wp2_with fail
                      go_roundw
                      case rel => exact ⟨k + 1, _, xo, by omega, hlv10, HNx, HO10, HB10⟩
                      case measure => simp [lenV] at hlv10 ⊢; omega
                · rw [hz] at HGn
                  have HV : Hid (findL nmsP l ul = (noFd, 17)) := by show _ = _; rw [HRR.out, HGn.out]
                  clear hz HGn HX
                  go_wp2_with (refine wpList_store_row rfl 26 (.tmp 4) (.tmp 101) (by rfl) w.heap.size fd0 (by rfl) (by rfl) 26 fd0 HRd.out (by kernel_rfl) rfl fd0_all ?_)
                  exact bodyPost_ret (results_cell_tmp (p := 4) (q := 5) rfl _ _ w.heap.size 26 fd0 _ _ rfl rfl (Blk.row HRd.out _) Tryz.underlying26 rfl (by kernel_rfl)) rfl (findP_no HV.out (below_setRow HBd8.out (Nat.le_refl _) _))
        · rw [hst] at HGo
          have HV1 : Hid (findL nmsP l ul = (noFd, if asked.length = 1 then 6 else 17)) := by show _ = _; rw [HRR.out, HGo.out]; rfl
          clear hst HGo HSt
          by_cases hk0 : k = 0
          · have HV : Hid (findL nmsP l ul = (noFd, 6)) := by show _ = _; rw [HV1.out, if_pos (by omega)]
            have t1 : ((k : Int) + 1 == 1) = true := by simp [hk0]
            clear hk0 HV1 hal
            go_wp2_with (refine wpList_store_row rfl 26 (.tmp 4) (.tmp 55) (by rfl) w.heap.size fd0 (by rfl) (by rfl) 26 fd0 HRc.out (by kernel_rfl) rfl fd0_all ?_)
            exact bodyPost_ret (results_cell_tmp (p := 4) (q := 5) rfl _ _ w.heap.size 26 fd0 _ _ rfl rfl (Blk.row HRc.out _) Tryz.underlying26 rfl (by kernel_rfl)) rfl (findP_no HV.out (below_setRow HBc.out (Nat.le_refl _) _))
          · have HV : Hid (findL nmsP l ul = (noFd, 17)) := by show _ = _; rw [HV1.out, if_neg (by omega)]
            have t1 : ((k : Int) + 1 == 1) = false := by simp; omega
            clear hk0 HV1 hal
            go_wp2_with (refine wpList_store_row rfl 26 (.tmp 4) (.tmp 58) (by rfl) w.heap.size fd0 (by rfl) (by rfl) 26 fd0 HRc.out (by kernel_rfl) rfl fd0_all ?_)
            exact bodyPost_ret (results_cell_tmp (p := 4) (q := 5) rfl _ _ w.heap.size 26 fd0 _ _ rfl rfl (Blk.row HRc.out _) Tryz.underlying26 rfl (by kernel_rfl)) rfl (findP_no HV.out (below_setRow HBc.out (Nat.le_refl _) _))
end Go.Proofs.YthodbeeglkedcaaGreat
