/- The walk of the developers' fill. -/
import Derived.Test.YtjoedgkmpklhfaaExD
namespace Go.Proofs.Ytjoedgkmpklhfaa
open Go.RowKit Go.Maps

/-- How far a word is read: acc is what stands for what is ahead of r. -/
def fillAt (env : List PairX) (s r : ByteArray) (acc : List UInt8) : Prop := acc ++ fillX env r.data.toList = fillX env s.data.toList
theorem fillAt_zero (env : List PairX) (s : ByteArray) : fillAt env s s [] := rfl
theorem fillAt_len {env : List PairX} {s r : ByteArray} {acc : List UInt8} (h : fillAt env s r acc) : acc.length ≤ (fillX env s.data.toList).length := by
  unfold fillAt at h
  rw [← h, List.length_append]; omega
theorem fillAt_end {env : List PairX} {s r : ByteArray} {acc : List UInt8} (h : fillAt env s r acc) (hc : cutF 36 r = false) : fillX env s.data.toList = acc ++ (cutA 36 r).data.toList := by
  obtain ⟨h1, h2⟩ := cutC_no hc
  unfold fillAt at h
  have := fillX_plain env r.data.toList [] h1
  rw [List.append_nil, fillX_nil, List.append_nil] at this
  rw [← h, h2, this]
theorem fillAt_cut {env : List PairX} {s r : ByteArray} {acc : List UInt8} (h : fillAt env s r acc) (hc : cutF 36 r = true) : acc ++ (cutA 36 r).data.toList ++ fillX env (36 :: (cutB 36 r).data.toList) = fillX env s.data.toList := by
  obtain ⟨h1, h2, _⟩ := cutC_yes hc
  unfold fillAt at h
  rw [← h, h2, fillX_plain env _ _ h1, List.append_assoc]
theorem br_ne {s : ByteArray} (h : brOk s = true) : brX s.data.toList ≠ [] := by
  unfold brOk at h
  intro e
  rw [e] at h
  cases h
theorem br_nil {s : ByteArray} (h : brOk s = false) : brX s.data.toList = [] := by
  unfold brOk at h
  cases hx : brX s.data.toList with
  | nil => rfl
  | cons a r => rw [hx] at h; cases h
theorem br_size {s : ByteArray} (h : brOk s = true) : (brS s).size + 2 ≤ s.size ∧ (brS s).size ≤ 60 := by
  obtain ⟨h1, r, h2⟩ := brX_var (br_ne h)
  have h3 := ((varX_iff _).1 h1).2.1
  refine ⟨?_, h3⟩
  have := congrArg List.length h2
  rw [size_list] at this
  show (brX s.data.toList).length + 2 ≤ s.size
  rw [this]
  simp
theorem fillAt_var {env : List PairX} {s r : ByteArray} {acc : List UInt8} (h : fillAt env s r acc) (hc : cutF 36 r = true) (hb : brOk (cutB 36 r) = true) :
    fillAt env s ((cutB 36 r).extract ((brS (cutB 36 r)).size + 2) (cutB 36 r).size) (acc ++ (cutA 36 r).data.toList ++ (str (valX env (brS (cutB 36 r)).data.toList)).data.toList) := by
  have h0 := fillAt_cut h hc
  rw [fillX_var env (br_ne hb)] at h0
  unfold fillAt
  rw [tail_listK, ← h0]
  show acc ++ (cutA 36 r).data.toList ++ valX env (brX (cutB 36 r).data.toList) ++ _ = _
  rw [List.append_assoc _ (valX env _)]
  rfl
theorem fillAt_two {env : List PairX} {s r : ByteArray} {acc : List UInt8} (h : fillAt env s r acc) (hc : cutF 36 r = true) (hp : Lib.hasPrefix (cutB 36 r).data.toList [36] = true) :
    fillAt env s ((cutB 36 r).extract 1 (cutB 36 r).size) (acc ++ (cutA 36 r).data.toList ++ [36]) ∧ 1 ≤ (cutB 36 r).size := by
  have h0 := fillAt_cut h hc
  obtain ⟨t, _, e⟩ := whole_tail hp
  rw [e, fillX_two] at h0
  refine ⟨?_, by rw [← size_list, e]; simp⟩
  unfold fillAt
  rw [tail_listK, ← h0, e]
  simp
theorem fillAt_lone {env : List PairX} {s r : ByteArray} {acc : List UInt8} (h : fillAt env s r acc) (hc : cutF 36 r = true) (hb : brOk (cutB 36 r) = false) (hp : Lib.hasPrefix (cutB 36 r).data.toList [36] = false) :
    fillAt env s (cutB 36 r) (acc ++ (cutA 36 r).data.toList ++ [36]) := by
  have h0 := fillAt_cut h hc
  rw [fillX_lone env (fun q e => by rw [e] at hp; simp [Lib.hasPrefix] at hp) (br_nil hb)] at h0
  unfold fillAt
  rw [← h0]
  simp
theorem one_byte : (⟨#[36]⟩ : ByteArray).data.toList = [36] := rfl

set_option maxHeartbeats 8000000 in
theorem fill_any (s : ByteArray) (M : Nat) (env : List PairX) (hs : s.size ≤ maxLen) (hf : (fillX env s.data.toList).length ≤ 140737488355328) (w : World) (hE : EnvAt w M env) :
    Calls Try.prog 28 #[.string s, .map (some M)] w fun e w' => e = .returned (.string (str (fillX env s.data.toList))) ∧ Below w.heap.size w w' := by
  unfold maxLen at hs
  have hM := hE.lt
  have HE := Lib.hid hE
  have HL := Lib.hid (fun (r : ByteArray) (acc : List UInt8) (h : fillAt env s r acc) => Nat.le_trans (fillAt_len h) hf)
  have hat0 := Lib.hid (fillAt_zero env s)
  have hfresh := Lib.hid (Lib.IsBuilderF.of (Lib.fresh_isBuilder 42 5 w))
  clear hE hf
  go_enter Try.func28, Try.ntmps28
  go_wp2_with fail
  go_loopw [0] (fun v wr => ∃ (r : ByteArray) (acc : List UInt8), v = .string r ∧ r.size ≤ s.size ∧ Hid (fillAt env s r acc) ∧ Hid (Lib.IsBuilderF 42 5 w.heap.size w.heap.size (Lib.byteCells acc) wr) ∧ Hid (Below w.heap.size w wr)) (fun v wr => strLen v)
  case atStart => exact ⟨s, [], rfl, Nat.le_refl _, hat0, hfresh, (Below.refl _ _).alloc (Nat.le_refl _) _⟩
  case round =>
    obtain ⟨r, acc, rfl, hrs, hat, hB, hb⟩ := hrel
    have hbs : w.heap.size ≤ wr.heap.size := hb.out.size
    have hlen : (Lib.byteCells acc).length = acc.length := Lib.byteCells_length _
    rcases hc : cutF 36 r with _ | _
    · have HF := Lib.hid (fillAt_end hat.out hc)
      have hfl : acc.length + (cutA 36 r).size ≤ 140737488355328 := by
        have := HL.out s [] (fillAt_zero env s)
        have h2 : (fillX env s.data.toList).length ≤ 140737488355328 := by
          have h3 := HL.out (⟨#[]⟩) (fillX env s.data.toList) (by unfold fillAt; show fillX env s.data.toList ++ fillX env [] = _; rw [fillX_nil, List.append_nil])
          exact h3
        rw [HF.out, List.length_append, size_list] at h2
        exact h2
      go_wp2_with fail
      refine (cut_c _ _ (by unfold maxLen; omega) _).mono ?_
      rintro e w2 ⟨rfl, n, rfl⟩
      go_wp2_with fail
      refine (writeString_any w.heap.size w.heap.size _ (cutA 36 r) (wr.drewN n) (by exact hB.out) (by omega) (by exact hbs)).mono ?_
      rintro e w3 ⟨rfl, hB3, hb3⟩
      have HB3 : Hid (Lib.IsBuilderF 42 5 w.heap.size w.heap.size (Lib.byteCells (acc ++ (cutA 36 r).data.toList)) w3) := by rw [Lib.byteCells_append]; exact hB3
      have Hb3 := Lib.hid ((below_drewN hb.out n).trans hb3)
      clear hB3 hb3
      go_wp2_with fail
      refine (Try.Builder_String_any_k _ _ _ _ HB3.out Hb3.out.size).mono ?_
      rintro e w4 ⟨rfl, hB4, hb4, _⟩
      go_wp2_with fail
      go_ret
      exact ⟨ret_str (congrArg str HF.out.symm), Hb3.out.trans hb4⟩
    · obtain ⟨_, _, hsize⟩ := cutC_yes hc
      rcases hk : brOk (cutB 36 r) with _ | _
      · rcases hp : Lib.hasPrefix (cutB 36 r).data.toList [36] with _ | _
        · have HX := Lib.hid (fillAt_lone hat.out hc hk hp)
          have h6 := HL.out _ _ HX.out
          rw [List.length_append, List.length_append, size_list] at h6
          have h7 : acc.length + (cutA 36 r).size + 1 ≤ 140737488355328 := h6
          have HP : Hid (Lib.hasPrefix (cutB 36 r).data.toList (⟨#[36]⟩ : ByteArray).data.toList = false) := hp
          clear hp h6
          go_wp2_with fail
          refine (cut_c _ _ (by unfold maxLen; omega) _).mono ?_
          rintro e w2 ⟨rfl, n, rfl⟩
          go_wp2_with fail
          refine (writeString_any w.heap.size w.heap.size _ (cutA 36 r) (wr.drewN n) (by exact hB.out) (by omega) (by exact hbs)).mono ?_
          rintro e w3 ⟨rfl, hB3, hb3⟩
          have HB3 : Hid (Lib.IsBuilderF 42 5 w.heap.size w.heap.size (Lib.byteCells (acc ++ (cutA 36 r).data.toList)) w3) := by rw [Lib.byteCells_append]; exact hB3
          have Hb3 := Lib.hid ((below_drewN hb.out n).trans hb3)
          have hs3 : w.heap.size ≤ w3.heap.size := Hb3.out.size
          clear hB3 hb3
          go_wp2_with fail
          refine (braced_any _ _).mono ?_
          rintro e w4 ⟨rfl, n4, rfl⟩
          go_wp2_with fail
          refine (Try.strings_HasPrefix _ _ _).mono ?_
          rintro e w1 ⟨rfl, rfl⟩
          rw [HP.out]
          go_wp2_with fail
          refine (writeByte_any w.heap.size w.heap.size _ _ (w3.drewN n4) (by exact HB3.out) (by rw [Lib.byteCells_length, List.length_append, size_list]; omega) (by exact hs3)).mono ?_
          rintro e w5 ⟨rfl, hB5, hb5⟩
          have HB5 : Hid (Lib.IsBuilderF 42 5 w.heap.size w.heap.size (Lib.byteCells (acc ++ (cutA 36 r).data.toList ++ [36])) w5) := by rw [Lib.byteCells_append]; exact hB5
          have Hb5 : Hid (Below w.heap.size w w5) := (below_drewN Hb3.out _).trans hb5
          clear hB5 hb5
          go_wp2_with fail
          go_roundw
          case rel => exact ⟨_, _, rfl, by omega, HX, HB5, Hb5⟩
          case measure => simp [strLen]; omega
        · obtain ⟨hx, h1⟩ := fillAt_two hat.out hc hp
          have HX := Lib.hid hx
          have h6 := HL.out _ _ HX.out
          rw [List.length_append, List.length_append, size_list] at h6
          have h7 : acc.length + (cutA 36 r).size + 1 ≤ 140737488355328 := h6
          have HP : Hid (Lib.hasPrefix (cutB 36 r).data.toList (⟨#[36]⟩ : ByteArray).data.toList = true) := hp
          have b1 : (1 : Int) ≤ ((cutB 36 r).size : Int) := by omega
          clear hp h6 hx
          go_wp2_with fail
          refine (cut_c _ _ (by unfold maxLen; omega) _).mono ?_
          rintro e w2 ⟨rfl, n, rfl⟩
          go_wp2_with fail
          refine (writeString_any w.heap.size w.heap.size _ (cutA 36 r) (wr.drewN n) (by exact hB.out) (by omega) (by exact hbs)).mono ?_
          rintro e w3 ⟨rfl, hB3, hb3⟩
          have HB3 : Hid (Lib.IsBuilderF 42 5 w.heap.size w.heap.size (Lib.byteCells (acc ++ (cutA 36 r).data.toList)) w3) := by rw [Lib.byteCells_append]; exact hB3
          have Hb3 := Lib.hid ((below_drewN hb.out n).trans hb3)
          have hs3 : w.heap.size ≤ w3.heap.size := Hb3.out.size
          clear hB3 hb3
          go_wp2_with fail
          refine (braced_any _ _).mono ?_
          rintro e w4 ⟨rfl, n4, rfl⟩
          go_wp2_with fail
          refine (Try.strings_HasPrefix _ _ _).mono ?_
          rintro e w1 ⟨rfl, rfl⟩
          rw [HP.out]
          go_wp2_with fail
          refine (writeByte_any w.heap.size w.heap.size _ _ (w3.drewN n4) (by exact HB3.out) (by rw [Lib.byteCells_length, List.length_append, size_list]; omega) (by exact hs3)).mono ?_
          rintro e w5 ⟨rfl, hB5, hb5⟩
          have HB5 : Hid (Lib.IsBuilderF 42 5 w.heap.size w.heap.size (Lib.byteCells (acc ++ (cutA 36 r).data.toList ++ [36])) w5) := by rw [Lib.byteCells_append]; exact hB5
          have Hb5 : Hid (Below w.heap.size w w5) := (below_drewN Hb3.out _).trans hb5
          clear hB5 hb5
          go_wp2_with fail
          go_roundw
          case rel => exact ⟨_, _, rfl, by rw [ByteArray.size_extract]; omega, HX, HB5, Hb5⟩
          case measure => simp [strLen]; omega
      · have HX := Lib.hid (fillAt_var hat.out hc hk)
        obtain ⟨h1, h2⟩ := br_size hk
        have h6 := HL.out _ _ HX.out
        rw [List.length_append, List.length_append, size_list, size_list] at h6
        have b1 : (0 : Int) ≤ 1 + ((brS (cutB 36 r)).size : Int) + 1 := by omega
        have b2 : 1 + ((brS (cutB 36 r)).size : Int) + 1 ≤ ((cutB 36 r).size : Int) := by omega
        go_wp2_with fail
        refine (cut_c _ _ (by unfold maxLen; omega) _).mono ?_
        rintro e w2 ⟨rfl, n, rfl⟩
        go_wp2_with fail
        refine (writeString_any w.heap.size w.heap.size _ (cutA 36 r) (wr.drewN n) (by exact hB.out) (by omega) (by exact hbs)).mono ?_
        rintro e w3 ⟨rfl, hB3, hb3⟩
        have HB3 : Hid (Lib.IsBuilderF 42 5 w.heap.size w.heap.size (Lib.byteCells (acc ++ (cutA 36 r).data.toList)) w3) := by rw [Lib.byteCells_append]; exact hB3
        have Hb3 := Lib.hid ((below_drewN hb.out n).trans hb3)
        have hs3 : w.heap.size ≤ w3.heap.size := Hb3.out.size
        have HE3 : Hid (EnvAt w3 M env) := HE.out.below Hb3.out hM
        clear hB3 hb3
        go_wp2_with fail
        refine (braced_any _ _).mono ?_
        rintro e w4 ⟨rfl, n4, rfl⟩
        go_wp2_with (at_lookup; refine wpList_look _ rfl _ _ rfl M env rfl (by exact HE3.out) _ rfl (by unfold maxLen; omega) ?_)
        refine (writeString_any w.heap.size w.heap.size _ (str (valX env (brS (cutB 36 r)).data.toList)) (w3.drewN n4) (by exact HB3.out) (by rw [Lib.byteCells_length, List.length_append, size_list]; omega) (by exact hs3)).mono ?_
        rintro e w5 ⟨rfl, hB5, hb5⟩
        have HB5 : Hid (Lib.IsBuilderF 42 5 w.heap.size w.heap.size (Lib.byteCells (acc ++ (cutA 36 r).data.toList ++ (str (valX env (brS (cutB 36 r)).data.toList)).data.toList)) w5) := by rw [Lib.byteCells_append]; exact hB5
        have Hb5 : Hid (Below w.heap.size w w5) := (below_drewN Hb3.out _).trans hb5
        clear hB5 hb5
        go_wp2_with fail
        go_roundw
        case rel =>
          refine ⟨(cutB 36 r).extract ((brS (cutB 36 r)).size + 2) (cutB 36 r).size, _, ?_, by rw [ByteArray.size_extract]; omega, HX, HB5, Hb5⟩
          exact congrArg (fun i => Value.string ((cutB 36 r).extract i (cutB 36 r).size)) (by omega)
        case measure => simp [strLen]; omega
end Go.Proofs.Ytjoedgkmpklhfaa
