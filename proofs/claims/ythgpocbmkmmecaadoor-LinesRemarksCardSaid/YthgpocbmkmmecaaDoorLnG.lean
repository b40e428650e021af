/- The walks of the developers' addKey and add. -/
import Derived.Test.YthgpocbmkmmecaaDoorLnF
namespace Go.Proofs.YthgpocbmkmmecaaDoor
open Go.RowKit

theorem isEmp_str {l : List UInt8} : (str l).toList.isEmpty = decide (l = []) := by
  rw [isEmpty_iff]
  rfl
/-- What a line says that is no section's. -/
theorem say_key {s : ByteArray} (h0 : 0 < s.size) (h1 : headIs 91 s = false) (sec : List UInt8) :
    sayL sec s.data.toList = if cutF 61 s = false ∨ keyS (trimS (cutA 61 s)) = false then .bad 9 else if sec = [] then .bad 10 else .line (trimL (cutA 61 s).data.toList) (trimL (cutB 61 s).data.toList) := by
  obtain ⟨e1, e2, e3⟩ := cut_is 61 s
  have hne : s.data.toList ≠ [] := by
    intro e
    have := size_list s
    rw [e] at this
    simp at this
    omega
  have hh : ¬ s.data.toList.head? = some 91 := fun h => by rw [headIs_iff.2 h] at h1; cases h1
  unfold sayL
  rw [if_neg hne, if_neg hh, e1, e2, e3]
  have : keyS (trimS (cutA 61 s)) = keyL (trimL (beforeL 61 s.data.toList)) := by
    unfold keyS trimS
    rw [e1]
    rfl
  rw [this]
set_option maxHeartbeats 4000000 in
theorem addKey_any (base F : Nat) (sec : List UInt8) (ls : List Ln) (i : Nat) (s : ByteArray) (hs : s.size ≤ 4194304) (h0 : 0 < s.size) (h1 : headIs 91 s = false) (w : World) (hf : FileAt w base F sec ls) (hF : F < base) (hbw : base ≤ w.heap.size) (hn : ls.length ≤ 4194304) :
    Calls Tryd.prog 36 #[.pointer (some ⟨F, 0, none⟩), .int .i64 i, .string s] w (AddP base F sec ls i (sayL sec s.data.toList) w) := by
  rw [say_key h0 h1]
  have hcs := cut_sizes 61 s
  have hsm : s.size ≤ maxLen := by unfold maxLen; omega
  have hA : (cutA 61 s).size ≤ maxLen := by omega
  have hB : (cutB 61 s).size ≤ maxLen := by omega
  have hK : (trimS (cutA 61 s)).size ≤ maxLen := by have := trimS_size (cutA 61 s); omega
  clear hcs h0 h1
  rcases hc : cutF 61 s with _ | _
  · rw [if_pos (.inl rfl)]
    go_enter Tryd.func36, Tryd.ntmps36
    go_wp2_with (first
      | (go_at_call 47; refine (cut_c 61 _ hsm _).mono ?_; rintro e w1 ⟨rfl, nd, rfl⟩)
      | (go_at_call 31; refine (trim_any _ hA _).mono ?_; rintro e w2 ⟨rfl, hb2⟩))
    go_ret
    exact ⟨(TurnF.refl base F w).below (B := w.heap.size) ⟨hb2.os, hb2.tape, hb2.output, hb2.size, hb2.block⟩ hbw, rfl, by omega⟩
  rcases hk : keyS (trimS (cutA 61 s)) with _ | _
  · rw [if_pos (.inr rfl)]
    go_enter Tryd.func36, Tryd.ntmps36
    go_wp2_with (first
      | (go_at_call 47; refine (cut_c 61 _ hsm _).mono ?_; rintro e w1 ⟨rfl, nd, rfl⟩)
      | (go_at_call 31; refine (trim_any _ hA _).mono ?_; rintro e w2 ⟨rfl, hb2⟩)
      | (go_at_call 60; refine (isKey_any _ hK _).mono ?_; rintro e w3 ⟨rfl, rfl⟩))
    go_ret
    exact ⟨(TurnF.refl base F w).below (B := w.heap.size) ⟨hb2.os, hb2.tape, hb2.output, hb2.size, hb2.block⟩ hbw, rfl, by omega⟩
  rw [if_neg (by simp)]
  by_cases hsec : sec = []
  · rw [if_pos hsec]
    have he : (str sec).toList.isEmpty = true := by rw [isEmp_str, hsec]; rfl
    clear hsec
    go_enter Tryd.func36, Tryd.ntmps36
    go_wp2_with (first
      | (go_at_call 47; refine (cut_c 61 _ hsm _).mono ?_; rintro e w1 ⟨rfl, nd, rfl⟩)
      | (go_at_call 31; refine (trim_any _ hA _).mono ?_; rintro e w2 ⟨rfl, hb2⟩; obtain ⟨A, n, c, hb, ho⟩ := FileAt.below (hf.drewN nd) (by exact hb2); have d0 : w2.cell? ⟨F, 0, none⟩ = some (.string (str sec)) := hb.cell 0; clear hb ho)
      | (go_at_call 60; refine (isKey_any _ hK _).mono ?_; rintro e w3 ⟨rfl, rfl⟩))
    go_ret
    exact ⟨(TurnF.refl base F w).below (B := w.heap.size) ⟨hb2.os, hb2.tape, hb2.output, hb2.size, hb2.block⟩ hbw, rfl, by omega⟩
  rw [if_neg hsec]
  have he : (str sec).toList.isEmpty = false := by rw [isEmp_str, decide_eq_false_iff_not]; exact hsec
  clear hsec
  have HF := Lib.hid hf
  clear hf
  go_enter Tryd.func36, Tryd.ntmps36
  go_wp2_with fail
  refine (cut_c 61 _ hsm _).mono ?_
  rintro e w1 ⟨rfl, nd, rfl⟩
  go_wp2_with fail
  refine (trim_any _ hA _).mono ?_
  rintro e w2 ⟨rfl, hb2⟩
  have HF2 : Hid (FileAt w2 base F sec ls) := FileAt.below (HF.out.drewN nd) (by exact hb2)
  have HT2 : Hid (TurnF base F w w2) := (TurnF.refl base F w).below (B := w.heap.size) ⟨hb2.os, hb2.tape, hb2.output, hb2.size, hb2.block⟩ hbw
  have hz2 : base ≤ w2.heap.size := Nat.le_trans hbw HT2.out.size
  have d0 : w2.cell? ⟨F, 0, none⟩ = some (.string (str sec)) := by obtain ⟨A, n, c, hb, ho⟩ := HF2.out; exact hb.cell 0
  clear hb2
  go_wp2_with (go_at_call 60; refine (isKey_any _ hK _).mono ?_; rintro e w3 ⟨rfl, rfl⟩)
  refine (trim_any _ hB _).mono ?_
  rintro e w3 ⟨rfl, hb3⟩
  have HF3 : Hid (FileAt w3 base F sec ls) := HF2.out.below hb3
  have HT3 : Hid (TurnF base F w w3) := HT2.out.below hb3 hz2
  have hz3 : base ≤ w3.heap.size := Nat.le_trans hz2 hb3.size
  clear hb3 d0
  obtain ⟨A, n, c, hb, ho⟩ := HF3.out
  have HB3 := Lib.hid hb
  have HO3 := Lib.hid ho
  clear hb ho
  have d0 : w3.cell? ⟨F, 0, none⟩ = some (.string (str sec)) := HB3.out.cell 0
  have d1 : w3.cell? ⟨F, 1, none⟩ = some (.slice A n c) := HB3.out.cell 1
  have f1 : w3.frozen? ⟨F, 1, none⟩ = false := HB3.out.frozen 1
  have hFl : F < w3.heap.size := HB3.out.lt
  obtain ⟨i0, hi, hz0, hz1, hz2⟩ := info_parts lineInfo
  have hz63 : ls.length + 1 ≤ maxLen := by unfold maxLen; omega
  have hz47 : (ls.length + 1) * 56 ≤ 140737488355328 := by omega
  have hzb : base ≤ (w3.alloc (.cells #[.string (str sec), .string (trimS (cutA 61 s)), .string (trimS (cutB 61 s)), .int .i64 i] 34)).drew.heap.size := by simp; omega
  have hnw : ∀ (j : Nat) (x : Value), [Value.string (str sec), .string (trimS (cutA 61 s)), .string (trimS (cutB 61 s)), .int .i64 i][j]? = some x → (w3.alloc (.cells #[.string (str sec), .string (trimS (cutA 61 s)), .string (trimS (cutB 61 s)), .int .i64 i] 34)).drew.cell? ((⟨w3.heap.size, 0, none⟩ : Addr).add j) = some x := by
    intro j x hj
    have e : (⟨w3.heap.size, 0, none⟩ : Addr).add j = ⟨w3.heap.size, j, none⟩ := by unfold Addr.add; split <;> simp_all
    have HN := Blk.new w3 34 #[.string (str sec), .string (trimS (cutA 61 s)), .string (trimS (cutB 61 s)), .int .i64 i]
    rw [e]
    refine (HN.drew.cell j).trans ?_
    simpa using hj
  have hone : ∀ x ∈ [Value.string (str sec), .string (trimS (cutA 61 s)), .string (trimS (cutB 61 s)), .int .i64 i], x.oneCell' = true := by
    intro x hx; simp at hx; rcases hx with rfl | rfl | rfl | rfl <;> rfl
  have Hnw := Lib.hid hnw
  have Hone := Lib.hid hone
  have HBa : Hid (Blk (w3.alloc (.cells #[.string (str sec), .string (trimS (cutA 61 s)), .string (trimS (cutB 61 s)), .int .i64 i] 34)).drew F 40 #[.string (str sec), .slice A n c]) := HB3.out.alloc _
  have HOa : Hid ((w3.alloc (.cells #[.string (str sec), .string (trimS (cutA 61 s)), .string (trimS (cutB 61 s)), .int .i64 i] 34)).drew.ownsRow base 34 4 (.slice A n c) ls.length (lns ls)) := (HO3.out.alloc _).drew
  have HTa : Hid (TurnF base F w (w3.alloc (.cells #[.string (str sec), .string (trimS (cutA 61 s)), .string (trimS (cutB 61 s)), .int .i64 i] 34)).drew) := HT3.out.trans ⟨rfl, rfl, rfl, by simp, fun k hk _ => Below.heap_alloc w3 _ k (by omega)⟩
  clear hnw hone
  go_wp2_with fail
  go_region_law (refine step_append_lies _ (by rfl) _ _ 23 (by rfl) base 34 i0 (.agg #[.string ⟨#[]⟩, .string ⟨#[]⟩, .string ⟨#[]⟩, .int .i64 0]) 4 56 Tryd.underlying23 hi hz0 hz1 hz2 rfl (by decide) (.slice A n c) ls.length (lns ls) (by rfl) HOa.out ⟨w3.heap.size, 0, none⟩ 1 1 [.string (str sec), .string (trimS (cutA 61 s)), .string (trimS (cutB 61 s)), .int .i64 i] (by rfl) rfl Hnw.out Hone.out (by decide) hz63 hz47 hzb _ rfl ?_; intro g cap w4 hown4 hgrow hat4 hlt4; have HB4 : Hid (Blk w4 F 40 #[.string (str sec), .slice A n c]) := Blk.grown HBa.out hgrow (fun e => by have := (HOa.out.lt F e.symm).1; omega); have HT4 : Hid (TurnF base F w w4) := HTa.out.grown hgrow hzb (fun k hk => (HOa.out.lt k hk).1); have HO4 := Lib.hid hown4; have e1 : w4.cell? ⟨F, 1, none⟩ = some (.slice A n c) := HB4.out.cell 1; have g1 : w4.frozen? ⟨F, 1, none⟩ = false := HB4.out.frozen 1; clear hown4 hgrow hat4)
  all_goals
    go_wp2_with fail
    go_ret
    refine ⟨HT4.out.set_ 1 _, rfl, some ⟨g, 0, none⟩, ls.length + 1, cap, HB4.out.setCell 1 _, ?_⟩
    rw [List.length_append, lns_snoc]
    exact own_set HO4.out hF
theorem AddP.behind {base F : Nat} {sec : List UInt8} {ls : List Ln} {i : Nat} {st : StepL} {w w1 : World} {e : Ending} {w' : World} (h : AddP base F sec ls i st w1 e w') (hb : Below w.heap.size w w1) (hbw : base ≤ w.heap.size) : AddP base F sec ls i st w e w' :=
  ⟨((TurnF.refl base F w).below hb hbw).trans h.1, h.2⟩
set_option maxHeartbeats 4000000 in
theorem add_any (base F : Nat) (sec : List UInt8) (ls : List Ln) (i : Nat) (s : ByteArray) (hs : s.size ≤ 4194304) (w : World) (hf : FileAt w base F sec ls) (hF : F < base) (hbw : base ≤ w.heap.size) (hn : ls.length ≤ 4194304) :
    Calls Tryd.prog 21 #[.pointer (some ⟨F, 0, none⟩), .int .i64 i, .string s] w (AddP base F sec ls i (lineL sec s.data.toList) w) := by
  have hsm : s.size ≤ maxLen := by unfold maxLen; omega
  have hts := trimS_size s
  unfold lineL
  rw [size_list]
  rcases hc : cleanL s.data.toList with _ | _
  · rw [if_pos rfl]
    go_enter Tryd.func21, Tryd.ntmps21
    go_wp2_with (go_at_call 33; refine (isText_any _ hsm _).mono ?_; rintro e w1 ⟨rfl, rfl⟩)
    go_ret
    exact ⟨TurnF.refl _ _ _, rfl, by omega⟩
  rw [if_neg (by simp)]
  by_cases h400 : 400 < s.size
  · rw [if_pos h400]
    have i4 : (400 : Int) < (s.size : Int) := by omega
    go_enter Tryd.func21, Tryd.ntmps21
    go_wp2_with (go_at_call 33; refine (isText_any _ hsm _).mono ?_; rintro e w1 ⟨rfl, rfl⟩)
    go_ret
    exact ⟨TurnF.refl _ _ _, rfl, by omega⟩
  rw [if_neg h400]
  have i4 : (s.size : Int) ≤ 400 := by omega
  have HF := Lib.hid hf
  have HT : Hid (trimL s.data.toList = (trimS s).data.toList) := rfl
  rw [HT.out]
  clear h400 hf
  by_cases h0 : 0 < (trimS s).size
  · have he : (trimS s).toList.isEmpty = false := emp_f h0
    rcases hh : headIs 91 (trimS s) with _ | _
    · go_enter Tryd.func21, Tryd.ntmps21
      go_wp2_with (first
        | (go_at_call 33; refine (isText_any _ hsm _).mono ?_; rintro e w1 ⟨rfl, rfl⟩)
        | (go_at_call 31; refine (trim_any _ hsm _).mono ?_; rintro e w2 ⟨rfl, hb2⟩; have HB2 := Lib.hid hb2; have HF2 : Hid (FileAt w2 base F sec ls) := HF.out.below hb2; have hz2 : base ≤ w2.heap.size := Nat.le_trans hbw hb2.size; clear hb2)
        | (go_at_call 34; refine (pre_any _ _ _).mono ?_; rintro e w3 ⟨rfl, rfl⟩))
      refine (addKey_any base F sec ls i (trimS s) (by omega) h0 hh _ HF2.out hF hz2 hn).mono ?_
      intro e w3 hp
      obtain ⟨r, hr⟩ : ∃ r : Int, e = .returned (.int .i64 r) := by
        obtain ⟨_, hp⟩ := hp
        split at hp
        · exact ⟨_, hp.1⟩
        · exact ⟨_, hp.1⟩
        · exact ⟨_, hp.1⟩
        · exact ⟨_, hp.1⟩
      have HP := Lib.hid (AddP.behind hp HB2.out hbw)
      clear hp
      subst hr
      go_wp2_with fail
      go_ret
      exact HP.out
    · go_enter Tryd.func21, Tryd.ntmps21
      go_wp2_with (first
        | (go_at_call 33; refine (isText_any _ hsm _).mono ?_; rintro e w1 ⟨rfl, rfl⟩)
        | (go_at_call 31; refine (trim_any _ hsm _).mono ?_; rintro e w2 ⟨rfl, hb2⟩; have HB2 := Lib.hid hb2; have HF2 : Hid (FileAt w2 base F sec ls) := HF.out.below hb2; have hz2 : base ≤ w2.heap.size := Nat.le_trans hbw hb2.size; clear hb2)
        | (go_at_call 34; refine (pre_any _ _ _).mono ?_; rintro e w3 ⟨rfl, rfl⟩))
      refine (beginSection_any base F sec ls i (trimS s) (by omega) h0 hh _ HF2.out hF).mono ?_
      intro e w3 hp
      obtain ⟨r, hr⟩ : ∃ r : Int, e = .returned (.int .i64 r) := by
        obtain ⟨_, hp⟩ := hp
        split at hp
        · exact ⟨_, hp.1⟩
        · exact ⟨_, hp.1⟩
        · exact ⟨_, hp.1⟩
        · exact ⟨_, hp.1⟩
      have HP := Lib.hid (AddP.behind hp HB2.out hbw)
      clear hp
      subst hr
      go_wp2_with fail
      go_ret
      exact HP.out
  · have he : (trimS s).toList.isEmpty = true := emp_t (by omega)
    have hs0 : sayL sec (trimS s).data.toList = .skip := by
      rw [nil_of_size (s := trimS s) (by omega)]; rfl
    rw [hs0]
    go_enter Tryd.func21, Tryd.ntmps21
    go_wp2_with (first
      | (go_at_call 33; refine (isText_any _ hsm _).mono ?_; rintro e w1 ⟨rfl, rfl⟩)
      | (go_at_call 31; refine (trim_any _ hsm _).mono ?_; rintro e w2 ⟨rfl, hb2⟩))
    go_ret
    exact ⟨(TurnF.refl base F w).below hb2 hbw, rfl, HF.out.below hb2⟩
end Go.Proofs.YthgpocbmkmmecaaDoor
