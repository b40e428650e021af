/- The walk of the document's own Vars. -/
import Derived.Test.YtjoedgkmpklhfaaExG
namespace Go.Proofs.Ytjoedgkmpklhfaa
open Go.RowKit Go.WideMaps Go.Maps

/-- How far a word is read: acc is what stands for its first k bytes. -/
def fillK (env : List PairX) (X : ByteArray) (k : Nat) (acc : List UInt8) : Prop := acc ++ fillX env (X.data.toList.drop k) = fillX env X.data.toList
def tailX (X : ByteArray) (k : Nat) : ByteArray := X.extract (k + 1) X.size
theorem tailX_list (X : ByteArray) (k : Nat) : (tailX X k).data.toList = X.data.toList.drop (k + 1) := tail_listK X (k + 1)
theorem fillK_zero (env : List PairX) (X : ByteArray) : fillK env X 0 [] := by unfold fillK; simp
theorem fillK_len {env : List PairX} {X : ByteArray} {k : Nat} {acc : List UInt8} (h : fillK env X k acc) : (str acc).size ≤ (fillX env X.data.toList).length := by
  unfold fillK at h
  rw [← h, List.length_append, str_size]; omega
theorem fillK_end {env : List PairX} {X : ByteArray} {k : Nat} {acc : List UInt8} (h : fillK env X k acc) (hk : X.size ≤ k) : fillX env X.data.toList = acc := by
  unfold fillK at h
  rw [← h, List.drop_of_length_le (by rw [size_list]; exact hk), fillX_nil, List.append_nil]
theorem fillK_other {env : List PairX} {X : ByteArray} {k : Nat} {acc : List UInt8} (h : fillK env X k acc) (hk : k < X.size) (hc : X[k] ≠ 36) : fillK env X (k + 1) (acc ++ [X[k]]) := by
  unfold fillK at *
  rw [drop_at X k hk, fillX_other env hc] at h
  rw [← h]; simp
theorem fillK_last {env : List PairX} {X : ByteArray} {k : Nat} {acc : List UInt8} (h : fillK env X k acc) (hk : k < X.size) (hc : X[k] = 36) (hl : k + 1 = X.size) : fillK env X (k + 1) (acc ++ [X[k]]) := by
  unfold fillK at *
  have e : X.data.toList.drop (k + 1) = [] := List.drop_of_length_le (by rw [size_list]; omega)
  rw [drop_at X k hk, hc, e, fillX_last] at h
  rw [e, fillX_nil, hc, ← h]; simp
theorem fillK_two {env : List PairX} {X : ByteArray} {k : Nat} {acc : List UInt8} (h : fillK env X k acc) (hk : k + 1 < X.size) (hc : X[k] = 36) (hd : X[k + 1] = 36) : fillK env X (k + 2) (acc ++ [36]) := by
  unfold fillK at *
  rw [drop_at X k (by omega), drop_at X (k + 1) hk, hc, hd, fillX_two] at h
  rw [← h]; simp
theorem fillK_lone {env : List PairX} {X : ByteArray} {k : Nat} {acc : List UInt8} (h : fillK env X k acc) (hk : k + 1 < X.size) (hc : X[k] = 36) (hd : X[k + 1] ≠ 36) (hb : brX (tailX X k).data.toList = []) : fillK env X (k + 1) (acc ++ [36]) := by
  unfold fillK at *
  rw [tailX_list] at hb
  rw [drop_at X k (by omega), hc, fillX_lone env _ hb] at h
  · rw [← h]; simp
  · intro r e
    rw [drop_at X (k + 1) hk] at e
    injection e with e1 _
    exact hd e1
theorem fillK_var {env : List PairX} {X : ByteArray} {k : Nat} {acc : List UInt8} (h : fillK env X k acc) (hk : k + 1 < X.size) (hc : X[k] = 36) (hb : brOk (tailX X k) = true) :
    fillK env X (k + (brS (tailX X k)).size + 3) (acc ++ valX env (brS (tailX X k)).data.toList) ∧ k + (brS (tailX X k)).size + 3 ≤ X.size ∧ (brS (tailX X k)).size ≤ 60 := by
  have hne := br_ne hb
  obtain ⟨h1, h2⟩ := br_size hb
  have hs : (tailX X k).size = X.size - (k + 1) := by unfold tailX; rw [ByteArray.size_extract]; omega
  refine ⟨?_, by omega, h2⟩
  unfold fillK at *
  rw [tailX_list] at hne
  rw [drop_at X k (by omega), hc, fillX_var env hne, List.drop_drop] at h
  have e1 : (brS (tailX X k)).data.toList = brX (X.data.toList.drop (k + 1)) := by
    show brX (tailX X k).data.toList = _
    rw [tailX_list]
  have e2 : (brS (tailX X k)).size = (brX (X.data.toList.drop (k + 1))).length := by
    rw [← size_list, e1]
  rw [e1, e2, ← h, show k + (brX (X.data.toList.drop (k + 1))).length + 3 = k + 1 + ((brX (X.data.toList.drop (k + 1))).length + 2) by omega]
  simp
theorem br_empty {s : ByteArray} : (brS s).toList.isEmpty = !brOk s := by
  rw [Lib.toList_data]
  show (brX s.data.toList).isEmpty = _
  unfold brOk
  simp
theorem whole_short {x : List UInt8} (h : x.length ≤ 1) : wholeX x = [] := by
  match x, h with
  | [], _ => rfl
  | [c], _ =>
    by_cases hc : c = 36
    · subst hc; exact wholeX_not varX_nil
    · exact wholeX_other (fun n e => hc (by injection e))
theorem whole_head {X : ByteArray} (h0 : 0 < X.size) (hc : X[0] ≠ 36) : wholeX X.data.toList = [] := by
  refine wholeX_other (fun n e => ?_)
  have e3 := drop_at X 0 h0
  rw [List.drop_zero, e] at e3
  injection e3 with e4 _
  exact hc e4.symm
theorem whole_at {X : ByteArray} (h0 : 0 < X.size) (hc : X[0] = 36) : X.data.toList = 36 :: (tailX X 0).data.toList := by
  have e3 := drop_at X 0 h0
  rw [List.drop_zero, hc] at e3
  rw [tailX_list]; exact e3

theorem hle2 {a b : Nat} (h : a + b ≤ 8796093022208) : b ≤ maxLen := by unfold maxLen; omega

set_option maxHeartbeats 40000000 in
set_option maxRecDepth 100000 in
theorem rVars_any (A A2 : Option Addr) (n c n2 c2 B : Nat) (l : List (List UInt8)) (env : List PairX) (w : World) (h : RowAt w B A n l) (h2 : PairsAt w B A2 n2 env) (hB : B ≤ w.heap.size) (hsz : ∀ x ∈ l, x.length ≤ 4194304)
    (hF : ∀ x ∈ l, (fillX env x).length ≤ 140737488355328) (hV : ∀ m, (valX env m).length ≤ 4194304) (hT : (varsX env l).length ≤ 8796093022208) :
    Calls Try.prog 13 #[.slice A n c, .slice A2 n2 c2] w (VarsP env l w) := by
  obtain ⟨i0, hi, hz0, hz1, hz2⟩ := info_parts strInfo
  have hm := h.2.1
  unfold maxLen at hm
  have HP : Hid (PairsAt w w.heap.size A2 n2 env) := h2.wide hB
  have HR : Hid (RowAt w w.heap.size A n l) := h.wide hB
  have HF := Lib.hid hF
  have HV := Lib.hid hV
  have HS := Lib.hid hsz
  have HT := Lib.hid (fun k => Nat.le_trans (varsX_part env l k) hT)
  clear hF hV hsz hT h h2
  go_enter Try.func13, Try.ntmps13
  go_wp2_with fail
  go_loopw [5, 13] (fun v i wr => ∃ k : Nat, k ≤ n ∧ i = .int .i64 k ∧ Hid (wr.ownsRow w.heap.size 9 1 v (varsX env (l.take k)).length (wcells (varsX env (l.take k)))) ∧ Hid (Below w.heap.size w wr)) (fun v i wr => n - (intOf i).toNat)
  case atStart => exact ⟨0, Nat.zero_le _, rfl, World.ownsRow_nil _ _ _ _, Below.refl _ _⟩
  case round =>
    obtain ⟨k, hk, rfl, hown, hb⟩ := hrel
    have hbs : w.heap.size ≤ wr.heap.size := hb.out.size
    by_cases hlt : k < n
    · have b0 : (0 : Int) ≤ (k : Int) := by omega
      have b1 : (k : Int) < (n : Int) := by omega
      obtain ⟨ad, x, rfl, hbl, hx, hc⟩ := (HR.out.below hb.out).at_ hlt
      have hxm := List.mem_of_getElem? hx
      have hxs := HS.out x hxm
      have HX := Lib.hid (varsX_take (env := env) hx)
      have HT1 := HT.out (k + 1)
      rw [HX.out, List.length_append] at HT1
      have HPr : Hid (PairsAt wr w.heap.size A2 n2 env) := HP.out.below hb.out
      obtain ⟨X, hX⟩ : ∃ X, str x = X := ⟨_, rfl⟩
      have HxX : Hid (x = X.data.toList) := by show x = _; rw [← hX]; rfl
      have hXs : X.size ≤ 4194304 := by rw [← size_list, ← HxX.out]; exact hxs
      rw [hX] at hc
      by_cases hw : wholeX X.data.toList = []
      · have HO : Hid (oneX env x = [fillX env X.data.toList]) := by show _ = _; rw [HxX.out]; exact oneX_fill hw
        have hfl := HF.out x hxm
        rw [HxX.out] at hfl
        rw [HO.out] at HT1
        have hl1 : (varsX env (List.take k l)).length + 1 ≤ 8796093022208 := HT1
        clear hx HT1 hX
        obtain ⟨wo, rfl⟩ : ∃ wo : World, wo = wr := ⟨_, rfl⟩
        have hat0 := Lib.hid (fillK_zero env X)
        by_cases h1 : 1 < X.size
        · have b2 : (1 : Int) < (X.size : Int) := by omega
          have b3 : (0 : Int) < (X.size : Int) := by omega
          have hr0 := X[0].toNat_lt
          by_cases hc0 : X[0] = 36
          · have q1 : ((X[0].toNat : Int) == 36) = true := by rw [hc0]; rfl
            have hv : varS (X.extract 1 X.size) = false := by
              rcases hvv : varS (X.extract 1 X.size) with _ | _
              · rfl
              · rw [whole_at (by omega) hc0, wholeX_var (n := (tailX X 0).data.toList) hvv] at hw
                unfold varS at hvv
                rw [show (X.extract 1 X.size).data.toList = [] from hw] at hvv
                cases hvv
            clear hw hc0
            go_wp2_with fail
            refine (VarName_any _ _).mono ?_
            rintro e w' ⟨rfl, rfl⟩
            rw [hv]
            clear hv
            go_upto_block 2 with fail
            go_cut [8] (fun s8 wx => s8 = .string (str (fillX env X.data.toList)) ∧ wo = wx)
            case first =>
              go_wp2_with fail
              go_loopw [8, 9] (fun s8 ii wi => ∃ (j : Nat) (acc : List UInt8), j ≤ X.size ∧ s8 = .string (str acc) ∧ ii = .int .i64 j ∧ Hid (fillK env X j acc) ∧ wo = wi) (fun s8 ii wi => X.size - (intOf ii).toNat)
              case atStart => exact ⟨0, [], Nat.zero_le _, rfl, rfl, hat0, rfl⟩
              case round =>
                obtain ⟨j, acc, hj, rfl, rfl, hat, rfl⟩ := hrel
                have hal := fillK_len hat.out
                by_cases hjl : j < X.size
                · have hr := X[j].toNat_lt
                  have j0 : (0 : Int) ≤ (j : Int) := by omega
                  have j1 : (j : Int) < (X.size : Int) := by omega
                  have j2 : (j : Int) ≤ (j : Int) + 1 := by omega
                  have j3 : (j : Int) + 1 ≤ (X.size : Int) := by omega
                  have H1 := Lib.hid (one_slice X j hjl)
                  have z1 : (X.extract j (j + 1)).size ≤ 1 := by rw [H1.out]; exact Nat.le_refl _
                  have z2 : (⟨#[36]⟩ : ByteArray).size ≤ 1 := Nat.le_refl _
                  by_cases hcj : X[j] = 36
                  · have p1 : ((X[j].toNat : Int) != 36) = false := by rw [hcj]; rfl
                    by_cases hlast : j + 1 = X.size
                    · have hat1 := Lib.hid (fillK_last hat.out hjl hcj hlast)
                      have p2 : ((j : Int) + 1 == (X.size : Int)) = true := by simp; omega
                      have HE : Hid (str acc ++ X.extract j (j + 1) = str (acc ++ [X[j]])) := by show _ = _; rw [H1.out, str_app]
                      clear hcj hlast
                      go_wp2_with fail
                      go_roundw
                      case rel => exact ⟨j + 1, _, by omega, by rw [← HE.out], by go_num, hat1, by first | rfl | trivial⟩
                      case measure => simp [intOf]; omega
                    · have hj2 : j + 1 < X.size := by omega
                      have p2 : ((j : Int) + 1 == (X.size : Int)) = false := by simp; omega
                      have p3 : (j : Int) + 1 < (X.size : Int) := by omega
                      have p4 : (0 : Int) ≤ (j : Int) + 1 := by omega
                      have hr2 := X[j + 1].toNat_lt
                      by_cases hd : X[j + 1] = 36
                      · have hat1 := Lib.hid (fillK_two hat.out hj2 hcj hd)
                        have p5 : ((X[j + 1].toNat : Int) == 36) = true := by rw [hd]; rfl
                        have HE : Hid (str acc ++ (⟨#[36]⟩ : ByteArray) = str (acc ++ [36])) := str_app acc [36]
                        clear hcj hd hlast
                        go_wp2_with fail
                        go_roundw
                        case rel => exact ⟨j + 2, _, by omega, by rw [← HE.out], by go_num, hat1, by first | rfl | trivial⟩
                        case measure => simp [intOf]; omega
                      · have p5 : ((X[j + 1].toNat : Int) == 36) = false := by simp; exact fun e => hd (u8_eq (d := 36) e)
                        have HTL : Hid (tailX X j = X.extract (j + 1) X.size) := rfl
                        rcases hk2 : brOk (tailX X j) with _ | _
                        · have hat1 := Lib.hid (fillK_lone hat.out hj2 hcj hd (br_nil hk2))
                          have HE : Hid (str acc ++ (⟨#[36]⟩ : ByteArray) = str (acc ++ [36])) := str_app acc [36]
                          have p6 : (brS (X.extract (j + 1) X.size)).toList.isEmpty = true := by rw [br_empty, ← HTL.out, hk2]; rfl
                          clear hcj hd hk2 hlast
                          go_wp2_with fail
                          refine (rbraced_any _ (by rw [ByteArray.size_extract]; unfold maxLen; omega) _).mono ?_
                          rintro e w' ⟨rfl, rfl⟩
                          go_wp2_with fail
                          go_roundw
                          case rel => exact ⟨j + 1, _, by omega, by rw [← HE.out], by go_num, hat1, by first | rfl | trivial⟩
                          case measure => simp [intOf]; omega
                        · obtain ⟨hat2, hsz2, h60⟩ := fillK_var hat.out hj2 hcj hk2
                          have hal2 := fillK_len hat2
                          have hat1 := Lib.hid hat2
                          have p6 : (brS (X.extract (j + 1) X.size)).toList.isEmpty = false := by rw [br_empty, ← HTL.out, hk2]; rfl
                          have HE : Hid (str acc ++ valS env (brS (X.extract (j + 1) X.size)) = str (acc ++ valX env (brS (tailX X j)).data.toList)) := by show _ = _; rw [← str_app, HTL.out]; rfl
                          have z3 : (str acc).size + (valS env (brS (X.extract (j + 1) X.size))).size ≤ 140737488355328 := by
                            rw [← HE.out, ByteArray.size_append] at hal2
                            omega
                          rw [HTL.out] at hsz2 h60
                          clear hcj hd hk2 hat2 hal2 hlast
                          go_wp2_with fail
                          refine (rbraced_any _ (by rw [ByteArray.size_extract]; unfold maxLen; omega) _).mono ?_
                          rintro e w' ⟨rfl, rfl⟩
                          go_wp2_with fail
                          refine (value_any _ _ _ _ env (brS (X.extract (j + 1) X.size)) _ (by exact HPr.out)).mono ?_
                          rintro e w' ⟨rfl, rfl⟩
                          go_wp2_with fail
                          go_roundw
                          case rel => exact ⟨_, _, by rw [HTL.out]; exact hsz2, by rw [← HE.out], by rw [HTL.out]; go_num, hat1, by first | rfl | trivial⟩
                          case measure => simp [intOf]; omega
                  · have p1 : ((X[j].toNat : Int) != 36) = true := by simp; exact fun e => hcj (u8_eq (d := 36) e)
                    have hat1 := Lib.hid (fillK_other hat.out hjl hcj)
                    have HE : Hid (str acc ++ X.extract j (j + 1) = str (acc ++ [X[j]])) := by show _ = _; rw [H1.out, str_app]
                    clear hcj
                    go_wp2_with fail
                    go_roundw
                    case rel => exact ⟨j + 1, _, by omega, by rw [← HE.out], by go_num, hat1, by first | rfl | trivial⟩
                    case measure => simp [intOf]; omega
                · have HN := Lib.hid (fillK_end hat.out (by omega))
                  go_wp2_with fail
                  go_meet
                  exact ⟨by rw [HN.out], by first | rfl | trivial⟩
            case rest =>
              obtain ⟨rfl, rfl⟩ := hcut
              go_wp2_with (at_builtin; refine wpList_append_own _ rfl _ _ 27 rfl w.heap.size 9 i0 (.string ⟨#[]⟩) 1 16 Try.underlying27 hi hz0 hz1 hz2 rfl (by decide) _ _ _ rfl (hown.out.alloc _) ⟨wo.heap.size, 0, none⟩ 1 1 [.string (str (fillX env X.data.toList))] rfl rfl ?cA1 ?cA2 ?cA3 ?cA4 ?cA5 ?_)
              case cA1 =>
                intro j u hj
                match j, hj with
                | 0, hj =>
                  simp at hj
                  subst hj
                  simp [Addr.add]
              case cA2 => first | rfl | (intro u hu; simp at hu; subst hu; rfl)
              case cA3 => unfold maxLen; omega
              case cA4 => omega
              case cA5 => first | omega | (simp; omega)
              intro v' w4 hown' hgrow _
              have HO4 : Hid (w4.ownsRow w.heap.size 9 1 v' (varsX env (l.take (k + 1))).length (wcells (varsX env (l.take (k + 1))))) := by
                rw [HX.out, HO.out, wcells_app, List.length_append]; exact hown'
              have Hb4 : Hid (Below w.heap.size w w4) := (hb.out.alloc hbs _).grown hgrow (by simp; omega) (fun j hj => (hown.out.lt j hj).1)
              clear hown' hgrow
              go_wp2_with fail
              go_roundw
              case rel => exact ⟨k + 1, by omega, by go_num, HO4, Hb4⟩
              case measure => simp [intOf]; omega
          · have q1 : ((X[0].toNat : Int) == 36) = false := by simp; exact fun e => hc0 (u8_eq (d := 36) e)
            clear hw hc0
            go_upto_block 2 with fail
            go_cut [8] (fun s8 wx => s8 = .string (str (fillX env X.data.toList)) ∧ wo = wx)
            case first =>
              go_wp2_with fail
              go_loopw [8, 9] (fun s8 ii wi => ∃ (j : Nat) (acc : List UInt8), j ≤ X.size ∧ s8 = .string (str acc) ∧ ii = .int .i64 j ∧ Hid (fillK env X j acc) ∧ wo = wi) (fun s8 ii wi => X.size - (intOf ii).toNat)
              case atStart => exact ⟨0, [], Nat.zero_le _, rfl, rfl, hat0, rfl⟩
              case round =>
                obtain ⟨j, acc, hj, rfl, rfl, hat, rfl⟩ := hrel
                have hal := fillK_len hat.out
                by_cases hjl : j < X.size
                · have hr := X[j].toNat_lt
                  have j0 : (0 : Int) ≤ (j : Int) := by omega
                  have j1 : (j : Int) < (X.size : Int) := by omega
                  have j2 : (j : Int) ≤ (j : Int) + 1 := by omega
                  have j3 : (j : Int) + 1 ≤ (X.size : Int) := by omega
                  have H1 := Lib.hid (one_slice X j hjl)
                  have z1 : (X.extract j (j + 1)).size ≤ 1 := by rw [H1.out]; exact Nat.le_refl _
                  have z2 : (⟨#[36]⟩ : ByteArray).size ≤ 1 := Nat.le_refl _
                  by_cases hcj : X[j] = 36
                  · have p1 : ((X[j].toNat : Int) != 36) = false := by rw [hcj]; rfl
                    by_cases hlast : j + 1 = X.size
                    · have hat1 := Lib.hid (fillK_last hat.out hjl hcj hlast)
                      have p2 : ((j : Int) + 1 == (X.size : Int)) = true := by simp; omega
                      have HE : Hid (str acc ++ X.extract j (j + 1) = str (acc ++ [X[j]])) := by show _ = _; rw [H1.out, str_app]
                      clear hcj hlast
                      go_wp2_with fail
                      go_roundw
                      case rel => exact ⟨j + 1, _, by omega, by rw [← HE.out], by go_num, hat1, by first | rfl | trivial⟩
                      case measure => simp [intOf]; omega
                    · have hj2 : j + 1 < X.size := by omega
                      have p2 : ((j : Int) + 1 == (X.size : Int)) = false := by simp; omega
                      have p3 : (j : Int) + 1 < (X.size : Int) := by omega
                      have p4 : (0 : Int) ≤ (j : Int) + 1 := by omega
                      have hr2 := X[j + 1].toNat_lt
                      by_cases hd : X[j + 1] = 36
                      · have hat1 := Lib.hid (fillK_two hat.out hj2 hcj hd)
                        have p5 : ((X[j + 1].toNat : Int) == 36) = true := by rw [hd]; rfl
                        have HE : Hid (str acc ++ (⟨#[36]⟩ : ByteArray) = str (acc ++ [36])) := str_app acc [36]
                        clear hcj hd hlast
                        go_wp2_with fail
                        go_roundw
                        case rel => exact ⟨j + 2, _, by omega, by rw [← HE.out], by go_num, hat1, by first | rfl | trivial⟩
                        case measure => simp [intOf]; omega
                      · have p5 : ((X[j + 1].toNat : Int) == 36) = false := by simp; exact fun e => hd (u8_eq (d := 36) e)
                        have HTL : Hid (tailX X j = X.extract (j + 1) X.size) := rfl
                        rcases hk2 : brOk (tailX X j) with _ | _
                        · have hat1 := Lib.hid (fillK_lone hat.out hj2 hcj hd (br_nil hk2))
                          have HE : Hid (str acc ++ (⟨#[36]⟩ : ByteArray) = str (acc ++ [36])) := str_app acc [36]
                          have p6 : (brS (X.extract (j + 1) X.size)).toList.isEmpty = true := by rw [br_empty, ← HTL.out, hk2]; rfl
                          clear hcj hd hk2 hlast
                          go_wp2_with fail
                          refine (rbraced_any _ (by rw [ByteArray.size_extract]; unfold maxLen; omega) _).mono ?_
                          rintro e w' ⟨rfl, rfl⟩
                          go_wp2_with fail
                          go_roundw
                          case rel => exact ⟨j + 1, _, by omega, by rw [← HE.out], by go_num, hat1, by first | rfl | trivial⟩
                          case measure => simp [intOf]; omega
                        · obtain ⟨hat2, hsz2, h60⟩ := fillK_var hat.out hj2 hcj hk2
                          have hal2 := fillK_len hat2
                          have hat1 := Lib.hid hat2
                          have p6 : (brS (X.extract (j + 1) X.size)).toList.isEmpty = false := by rw [br_empty, ← HTL.out, hk2]; rfl
                          have HE : Hid (str acc ++ valS env (brS (X.extract (j + 1) X.size)) = str (acc ++ valX env (brS (tailX X j)).data.toList)) := by show _ = _; rw [← str_app, HTL.out]; rfl
                          have z3 : (str acc).size + (valS env (brS (X.extract (j + 1) X.size))).size ≤ 140737488355328 := by
                            rw [← HE.out, ByteArray.size_append] at hal2
                            omega
                          rw [HTL.out] at hsz2 h60
                          clear hcj hd hk2 hat2 hal2 hlast
                          go_wp2_with fail
                          refine (rbraced_any _ (by rw [ByteArray.size_extract]; unfold maxLen; omega) _).mono ?_
                          rintro e w' ⟨rfl, rfl⟩
                          go_wp2_with fail
                          refine (value_any _ _ _ _ env (brS (X.extract (j + 1) X.size)) _ (by exact HPr.out)).mono ?_
                          rintro e w' ⟨rfl, rfl⟩
                          go_wp2_with fail
                          go_roundw
                          case rel => exact ⟨_, _, by rw [HTL.out]; exact hsz2, by rw [← HE.out], by rw [HTL.out]; go_num, hat1, by first | rfl | trivial⟩
                          case measure => simp [intOf]; omega
                  · have p1 : ((X[j].toNat : Int) != 36) = true := by simp; exact fun e => hcj (u8_eq (d := 36) e)
                    have hat1 := Lib.hid (fillK_other hat.out hjl hcj)
                    have HE : Hid (str acc ++ X.extract j (j + 1) = str (acc ++ [X[j]])) := by show _ = _; rw [H1.out, str_app]
                    clear hcj
                    go_wp2_with fail
                    go_roundw
                    case rel => exact ⟨j + 1, _, by omega, by rw [← HE.out], by go_num, hat1, by first | rfl | trivial⟩
                    case measure => simp [intOf]; omega
                · have HN := Lib.hid (fillK_end hat.out (by omega))
                  go_wp2_with fail
                  go_meet
                  exact ⟨by rw [HN.out], by first | rfl | trivial⟩
            case rest =>
              obtain ⟨rfl, rfl⟩ := hcut
              go_wp2_with (at_builtin; refine wpList_append_own _ rfl _ _ 27 rfl w.heap.size 9 i0 (.string ⟨#[]⟩) 1 16 Try.underlying27 hi hz0 hz1 hz2 rfl (by decide) _ _ _ rfl (hown.out.alloc _) ⟨wo.heap.size, 0, none⟩ 1 1 [.string (str (fillX env X.data.toList))] rfl rfl ?cB1 ?cB2 ?cB3 ?cB4 ?cB5 ?_)
              case cB1 =>
                intro j u hj
                match j, hj with
                | 0, hj =>
                  simp at hj
                  subst hj
                  simp [Addr.add]
              case cB2 => first | rfl | (intro u hu; simp at hu; subst hu; rfl)
              case cB3 => unfold maxLen; omega
              case cB4 => omega
              case cB5 => first | omega | (simp; omega)
              intro v' w4 hown' hgrow _
              have HO4 : Hid (w4.ownsRow w.heap.size 9 1 v' (varsX env (l.take (k + 1))).length (wcells (varsX env (l.take (k + 1))))) := by
                rw [HX.out, HO.out, wcells_app, List.length_append]; exact hown'
              have Hb4 : Hid (Below w.heap.size w w4) := (hb.out.alloc hbs _).grown hgrow (by simp; omega) (fun j hj => (hown.out.lt j hj).1)
              clear hown' hgrow
              go_wp2_with fail
              go_roundw
              case rel => exact ⟨k + 1, by omega, by go_num, HO4, Hb4⟩
              case measure => simp [intOf]; omega
        · have b2 : ¬ ((1 : Int) < (X.size : Int)) := by omega
          clear hw
          go_upto_block 2 with fail
          go_cut [8] (fun s8 wx => s8 = .string (str (fillX env X.data.toList)) ∧ wo = wx)
          case first =>
            go_wp2_with fail
            go_loopw [8, 9] (fun s8 ii wi => ∃ (j : Nat) (acc : List UInt8), j ≤ X.size ∧ s8 = .string (str acc) ∧ ii = .int .i64 j ∧ Hid (fillK env X j acc) ∧ wo = wi) (fun s8 ii wi => X.size - (intOf ii).toNat)
            case atStart => exact ⟨0, [], Nat.zero_le _, rfl, rfl, hat0, rfl⟩
            case round =>
              obtain ⟨j, acc, hj, rfl, rfl, hat, rfl⟩ := hrel
              have hal := fillK_len hat.out
              by_cases hjl : j < X.size
              · have hr := X[j].toNat_lt
                have j0 : (0 : Int) ≤ (j : Int) := by omega
                have j1 : (j : Int) < (X.size : Int) := by omega
                have j2 : (j : Int) ≤ (j : Int) + 1 := by omega
                have j3 : (j : Int) + 1 ≤ (X.size : Int) := by omega
                have H1 := Lib.hid (one_slice X j hjl)
                have z1 : (X.extract j (j + 1)).size ≤ 1 := by rw [H1.out]; exact Nat.le_refl _
                have z2 : (⟨#[36]⟩ : ByteArray).size ≤ 1 := Nat.le_refl _
                by_cases hcj : X[j] = 36
                · have p1 : ((X[j].toNat : Int) != 36) = false := by rw [hcj]; rfl
                  by_cases hlast : j + 1 = X.size
                  · have hat1 := Lib.hid (fillK_last hat.out hjl hcj hlast)
                    have p2 : ((j : Int) + 1 == (X.size : Int)) = true := by simp; omega
                    have HE : Hid (str acc ++ X.extract j (j + 1) = str (acc ++ [X[j]])) := by show _ = _; rw [H1.out, str_app]
                    clear hcj hlast
                    go_wp2_with fail
                    go_roundw
                    case rel => exact ⟨j + 1, _, by omega, by rw [← HE.out], by go_num, hat1, by first | rfl | trivial⟩
                    case measure => simp [intOf]; omega
                  · exfalso; omega
                · have p1 : ((X[j].toNat : Int) != 36) = true := by simp; exact fun e => hcj (u8_eq (d := 36) e)
                  have hat1 := Lib.hid (fillK_other hat.out hjl hcj)
                  have HE : Hid (str acc ++ X.extract j (j + 1) = str (acc ++ [X[j]])) := by show _ = _; rw [H1.out, str_app]
                  clear hcj
                  go_wp2_with fail
                  go_roundw
                  case rel => exact ⟨j + 1, _, by omega, by rw [← HE.out], by go_num, hat1, by first | rfl | trivial⟩
                  case measure => simp [intOf]; omega
              · have HN := Lib.hid (fillK_end hat.out (by omega))
                go_wp2_with fail
                go_meet
                exact ⟨by rw [HN.out], by first | rfl | trivial⟩
          case rest =>
            obtain ⟨rfl, rfl⟩ := hcut
            go_wp2_with (at_builtin; refine wpList_append_own _ rfl _ _ 27 rfl w.heap.size 9 i0 (.string ⟨#[]⟩) 1 16 Try.underlying27 hi hz0 hz1 hz2 rfl (by decide) _ _ _ rfl (hown.out.alloc _) ⟨wo.heap.size, 0, none⟩ 1 1 [.string (str (fillX env X.data.toList))] rfl rfl ?cC1 ?cC2 ?cC3 ?cC4 ?cC5 ?_)
            case cC2 => first | rfl | (intro u hu; simp at hu; subst hu; rfl)
            case cC3 => unfold maxLen; omega
            case cC4 => omega
            case cC5 => first | omega | (simp; omega)
            intro v' w4 hown' hgrow _
            have HO4 : Hid (w4.ownsRow w.heap.size 9 1 v' (varsX env (l.take (k + 1))).length (wcells (varsX env (l.take (k + 1))))) := by
              rw [HX.out, HO.out, wcells_app, List.length_append]; exact hown'
            have Hb4 : Hid (Below w.heap.size w w4) := (hb.out.alloc hbs _).grown hgrow (by simp; omega) (fun j hj => (hown.out.lt j hj).1)
            clear hown' hgrow
            go_wp2_with fail
            go_roundw
            case rel => exact ⟨k + 1, by omega, by go_num, HO4, Hb4⟩
            case measure => simp [intOf]; omega
      · have h1 : 1 < X.size := by
          rcases Nat.lt_or_ge 1 X.size with h | h
          · exact h
          · exact absurd (whole_short (by rw [size_list]; exact h)) hw
        have h0 : 0 < X.size := by omega
        have hc0 : X[0] = 36 := by
          rcases Classical.em (X[0] = 36) with h | h
          · exact h
          · exact absurd (whole_head h0 h) hw
        have ha := whole_at h0 hc0
        have hv : varS (tailX X 0) = true := by
          rcases hvv : varS (tailX X 0) with _ | _
          · rw [ha] at hw; exact absurd (wholeX_not hvv) hw
          · rfl
        have hwx : wholeX X.data.toList = (tailX X 0).data.toList := by rw [ha]; exact wholeX_var hv
        have HTX : Hid (tailX X 0 = X.extract 1 X.size) := rfl
        have HO : Hid (oneX env x = blanksL [32, 9] (valS env (X.extract 1 X.size)).data.toList) := by show _ = _; rw [HxX.out, oneX_whole hw, hwx, HTX.out]; rfl
        have hvl : (valS env (X.extract 1 X.size)).size ≤ 4194304 := HV.out (X.extract 1 X.size).data.toList
        rw [HO.out] at HT1
        have b2 : (1 : Int) < (X.size : Int) := by omega
        have b3 : (0 : Int) < (X.size : Int) := by omega
        have hr0 := X[0].toNat_lt
        have q1 : ((X[0].toNat : Int) == 36) = true := by rw [hc0]; rfl
        rw [HTX.out] at hv
        clear hx hw hX ha hwx hc0
        go_wp2_with fail
        refine (VarName_any _ _).mono ?_
        rintro e w' ⟨rfl, rfl⟩
        rw [hv]
        go_wp2_with fail
        refine (value_any _ _ _ _ env (X.extract 1 X.size) _ (by exact HPr.out)).mono ?_
        rintro e w' ⟨rfl, rfl⟩
        go_wp2_with fail
        refine (Blanks_any (valS env (X.extract 1 X.size)) (⟨#[32, 9]⟩) hvl (by decide) _).mono ?_
        rintro e w3 hp3
        obtain ⟨v3, rfl, hown3, hb3⟩ := hp3
        obtain ⟨A3, n3, c3, rfl⟩ : ∃ A3 n3 c3, v3 = .slice A3 n3 c3 := by
          rcases hown3.2 with ⟨h, _⟩ | ⟨g, cap, _, h, _⟩
          · exact ⟨_, _, _, h⟩
          · exact ⟨_, _, _, h⟩
        have HT2 := Lib.hid HT1
        obtain ⟨r1, _, r3⟩ := rowAt_of_own hown3 (hle2 HT1)
        have HO3 : Hid (w3.ownsRow w.heap.size 9 1 u5 (varsX env (l.take k)).length (wcells (varsX env (l.take k)))) := hown.out.kept ⟨hb3.os, hb3.tape, hb3.output, hb3.size, fun j hj _ => hb3.block j hj⟩ (Classical.em _)
        have HR3 := Lib.hid r3
        have Hb3 : Hid (Below w.heap.size w w3) := below_more hb.out hbs hb3
        have hs3 : w.heap.size ≤ w3.heap.size := Hb3.out.size
        subst r1
        clear hb3 hown3 r3 HT1
        go_wp2_with (at_builtin; refine wpList_append_texts (by rfl) _ _ rfl rfl w.heap.size i0 hi hz0 hz1 hz2 _ _ _ rfl HO3.out _ _ _ _ _ rfl HR3.out (by exact HT2.out) hs3 ?_)
        intro v' w4 hown' hgrow
        have HO4 : Hid (w4.ownsRow w.heap.size 9 1 v' (varsX env (l.take (k + 1))).length (wcells (varsX env (l.take (k + 1))))) := by
          rw [HX.out, HO.out, List.length_append]; exact hown'
        have Hb4 : Hid (Below w.heap.size w w4) := Hb3.out.grown hgrow hs3 (fun j hj => (HO3.out.lt j hj).1)
        clear hown' hgrow
        go_wp2_with fail
        go_roundw
        case rel => exact ⟨k + 1, by omega, by go_num, HO4, Hb4⟩
        case measure => simp [intOf]; omega
    · obtain rfl : k = n := by omega
      have hall : l.take k = l := List.take_of_length_le (by rw [HR.out.1]; exact Nat.le_refl _)
      have HOa : Hid (wr.ownsRow w.heap.size 9 1 u5 (varsX env l).length (wcells (varsX env l))) := by have := hown.out; rwa [hall] at this
      have hTl := HT.out k
      rw [hall] at hTl
      clear hall
      obtain ⟨vA, vn, vc, rfl⟩ : ∃ vA vn vc, u5 = .slice vA vn vc := by
        rcases HOa.out.2 with ⟨h, _⟩ | ⟨g, cap, _, h, _⟩
        · exact ⟨_, _, _, h⟩
        · exact ⟨_, _, _, h⟩
      go_wp2_with fail
      go_ret
      obtain ⟨r1, r2, r3⟩ := rowAt_of_own HOa.out (by unfold maxLen; omega)
      subst r1
      exact ⟨vA, _, vc, rfl, r2, r3, hb.out⟩
end Go.Proofs.Ytjoedgkmpklhfaa
