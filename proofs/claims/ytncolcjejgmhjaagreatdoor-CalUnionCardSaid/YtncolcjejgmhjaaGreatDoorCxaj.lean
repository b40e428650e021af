/- The package's own tables; the walk of the developers' leastFrom. -/
import Derived.Test.YtncolcjejgmhjaaGreatDoorCxai
import Derived.Lib.LaidTab
import Derived.Lib.ItoaNum
namespace Go.Proofs.YtncolcjejgmhjaaGreatDoor
open Go.RowKit
def rngCells : Array Value := #[.int .i64 2000, .int .i64 2199, .int .i64 1, .int .i64 12, .int .i64 1, .int .i64 31, .int .i64 0, .int .i64 23, .int .i64 0, .int .i64 59, .int .i64 0, .int .i64 59]
def daysCells : Array Value := #[.string ⟨#[77, 111, 110]⟩, .string ⟨#[84, 117, 101]⟩, .string ⟨#[87, 101, 100]⟩, .string ⟨#[84, 104, 117]⟩, .string ⟨#[70, 114, 105]⟩, .string ⟨#[83, 97, 116]⟩, .string ⟨#[83, 117, 110]⟩]
def sepCells : Array Value := #[.string ⟨#[]⟩, .string ⟨#[45]⟩, .string ⟨#[45]⟩, .string ⟨#[32]⟩, .string ⟨#[58]⟩, .string ⟨#[58]⟩]
theorem rng_glob : Tryz.prog.globalNamed "matins/cal.ranges" = some 0 := by kernel_rfl
theorem days_glob : Tryz.prog.globalNamed "matins/cal.dayNames" = some 1 := by kernel_rfl
theorem sep_glob : Tryz.prog.globalNamed "matins/cal.separators" = some 2 := by kernel_rfl
theorem p10_glob : Tryz.prog.globalNamed "internal/strconv.uint64pow10" = some 6 := by kernel_rfl
def P10 (w : World) : Prop := Lib.TabIs Tryz.prog w "internal/strconv.uint64pow10" .u64 Lib.pow10Tab
structure Tabs (w : World) : Prop where
  rng : w.var? Tryz.prog "matins/cal.ranges" = some rngCells
  days : w.var? Tryz.prog "matins/cal.dayNames" = some daysCells
  sep : w.var? Tryz.prog "matins/cal.separators" = some sepCells
  p10 : P10 w
theorem var_lt {w : World} {nm : String} {g : Nat} {cs : Array Value} (hg : Tryz.prog.globalNamed nm = some g) (h : w.var? Tryz.prog nm = some cs) : g < w.heap.size := by
  unfold World.var? at h
  rw [hg] at h
  simp only [Option.bind_some] at h
  rcases Nat.lt_or_ge g w.heap.size with h' | h'
  · exact h'
  · rw [Array.getElem?_eq_none h'] at h; cases h
theorem var_below {w w' : World} {B : Nat} {nm : String} {g : Nat} {cs : Array Value} (hg : Tryz.prog.globalNamed nm = some g) (h : w.var? Tryz.prog nm = some cs) (hb : Below B w w') (hB : g < B) : w'.var? Tryz.prog nm = some cs := by
  unfold World.var? at h ⊢
  rw [hg] at h ⊢
  simp only [Option.bind_some] at h ⊢
  rw [hb.block g hB]
  exact h
theorem Tabs.below {w w' : World} (h : Tabs w) (hb : Below w.heap.size w w') : Tabs w' :=
  ⟨var_below rng_glob h.rng hb (var_lt rng_glob h.rng), var_below days_glob h.days hb (var_lt days_glob h.days), var_below sep_glob h.sep hb (var_lt sep_glob h.sep), var_below p10_glob h.p10 hb (var_lt p10_glob h.p10)⟩
theorem Tabs.rng0 {w : World} (h : Tabs w) {f : Nat} (hf : f ≤ 5) : w.cell? ⟨0, f * 2, none⟩ = some (.int .i64 (lo f)) := by
  rcases f_cases hf with rfl | rfl | rfl | rfl | rfl | rfl <;> exact World.var?_cell rng_glob h.rng _
theorem Tabs.rng1 {w : World} (h : Tabs w) {f : Nat} (hf : f ≤ 5) : w.cell? ⟨0, f * 2 + 1, none⟩ = some (.int .i64 (hi f)) := by
  rcases f_cases hf with rfl | rfl | rfl | rfl | rfl | rfl <;> exact World.var?_cell rng_glob h.rng _
set_option maxHeartbeats 4000000 in
theorem leastFrom_any (A : Option Addr) (n c : Nat) (f : Nat) (l : List Pt) (x : Int) (hf : f ≤ 5) (hm : mayF f l = true) (x0 : 0 ≤ x) (x1 : x ≤ 100000) (w : World) (ht : Tabs w) (hl : PtsAt w w.heap.size A n l) :
    Calls Tryz.prog 33 #[.slice A n c, .int .i64 f, .int .i64 x] w fun e w' => e = .returned (.tuple #[.int .i64 (lfN f l x), .bool (lfB f l x)]) ∧ Below w.heap.size w w' := by
  have HL := Lib.hid hl
  have HM := Lib.hid ((mayF_iff f l).1 hm)
  have HT := Lib.hid ht
  have hn4 : n ≤ 4 := by have := HL.out.1; have := HM.out.1.2; omega
  clear hl hm ht
  go_enter Tryz.func33, Tryz.ntmps33
  go_wp2_with fail
  go_loopw [8, 9, 16] (fun v b i wr => ∃ (k : Nat) (z : Int) (bb : Bool), k ≤ n ∧ i = .int .i64 k ∧ v = .int .i64 z ∧ b = .bool bb ∧ Hid (lst f x (l.take k) = (z, bb)) ∧ Hid (Below w.heap.size w wr)) (fun v b i wr => n - (intOf i).toNat)
  case atStart => exact ⟨0, 0, false, Nat.zero_le _, rfl, rfl, rfl, rfl, Below.refl _ _⟩
  case round =>
    obtain ⟨k, z, bb, hk, rfl, rfl, rfl, hz, hb⟩ := hrel
    by_cases hlt : k < n
    · obtain ⟨ad, p, rfl, hbl, hlk, e0, e1, e2⟩ := (HL.out.below hb.out).at_ hlt
      have hmp := Lib.hid (HM.out.2 p (List.mem_of_getElem? hlk))
      have HLK := Lib.hid (lst_take (f := f) (n := x) hlk)
      have HP := Lib.hid (fun W => leastOfPart_any p f x hmp.out x0 x1 W)
      unfold LeastPost at HP
      have HTr := Lib.hid (HT.out.below hb.out)
      have HPL : Hid (pOk f p x = true → pN f p x = pLo f p x) := fun h => if_pos h
      have HST : Hid (lst f x (l.take (k + 1)) = lstStep f x (z, bb) p) := by rw [← hz.out]; exact HLK.out
      have HNO : Hid (pOk f p x = false → lst f x (l.take (k + 1)) = (z, bb)) := by
        intro h
        rw [HST.out]
        unfold lstStep
        rw [h]; rfl
      have HYES : Hid (pOk f p x = true → (bb = false ∨ pN f p x < z) → lst f x (l.take (k + 1)) = (pN f p x, true)) := by
        intro h h2
        rw [HST.out, HPL.out h]
        rw [HPL.out h] at h2
        unfold lstStep
        rw [h]
        rcases h2 with h2 | h2
        · rw [h2]; rfl
        · rw [if_pos (by simp [h2])]
      have HSAME : Hid (pOk f p x = true → bb = true → ¬ pN f p x < z → lst f x (l.take (k + 1)) = (z, bb)) := by
        intro h h1 h2
        rw [HST.out]
        rw [HPL.out h] at h2
        unfold lstStep
        rw [h, if_neg (by simp [h1, h2])]
      clear HST HPL HLK
      generalize pOk f p x = okk at *
      generalize pN f p x = mm at *
      obtain ⟨pa, pb, ps⟩ := p
      dsimp only at HP e0 e1 e2
      clear hlk
      have f0 : (0 : Int) ≤ (f : Int) := by omega
      have f5 : (f : Int) < 6 := by omega
      go_wp2_with fail
      have q0 := (HTr.out.below ((Below.refl _ _).alloc (Nat.le_refl _) (.cells #[.int .i64 pa, .int .i64 pb, .int .i64 ps] 58))).rng0 hf
      have q1 := (HTr.out.below ((Below.refl _ _).alloc (Nat.le_refl _) (.cells #[.int .i64 pa, .int .i64 pb, .int .i64 ps] 58))).rng1 hf
      have HB1 := Lib.hid (hb.out.alloc hb.out.size (.cells #[.int .i64 pa, .int .i64 pb, .int .i64 ps] 58))
      go_region_with ((go_at_call 53; refine (HP.out _).mono ?_; rintro e w2 ⟨rfl, hb2⟩; (first | have HB2 := Lib.hid (more3 HB1.out HB1.out.size hb2) | have HB2 := Lib.hid (more3 HB1.out.drew HB1.out.size hb2) | have HB2 := Lib.hid (more3 HB1.out.drew.drew HB1.out.size hb2) | have HB2 := Lib.hid (more3 HB1.out.drew.drew.drew HB1.out.size hb2) | have HB2 := Lib.hid (more3 (below_drewN HB1.out _) HB1.out.size hb2)); clear hb2))
      all_goals
        rcases okk with _ | _
        · have HN := Lib.hid (HNO.out rfl)
          go_wp2_with fail
          go_roundw
          case rel => exact ⟨k + 1, z, bb, by omega, by go_num, rfl, rfl, HN, HB2⟩
          case measure => simp [intOf]; omega
        · rcases bb with _ | _
          · have HN := Lib.hid (HYES.out rfl (.inl rfl))
            go_wp2_with fail
            go_roundw
            case rel => exact ⟨k + 1, mm, true, by omega, by go_num, rfl, rfl, HN, HB2⟩
            case measure => simp [intOf]; omega
          · by_cases cz : mm < z
            · have HN := Lib.hid (HYES.out rfl (.inr cz))
              go_wp2_with fail
              go_roundw
              case rel => exact ⟨k + 1, mm, true, by omega, by go_num, rfl, rfl, HN, HB2⟩
              case measure => simp [intOf]; omega
            · have HN := Lib.hid (HSAME.out rfl rfl (by omega))
              have cz' : z ≤ mm := by omega
              have u1 : (0 : Nat) ≤ 1 := Nat.zero_le _
              clear cz
              go_wp2_with fail
              go_roundw
              case rel => exact ⟨k + 1, z, true, by omega, by go_num, rfl, rfl, HN, HB2⟩
              case measure => simp [intOf]; omega
    · obtain rfl : k = n := by omega
      have HE : Hid (lst f x l = (z, bb)) := by
        have e := hz.out
        rw [List.take_of_length_le (by rw [HL.out.1]; exact Nat.le_refl _)] at e
        exact e
      have HF : Hid (lfN f l x = z ∧ lfB f l x = bb) := by
        unfold lfN lfB
        rw [HE.out]; exact ⟨rfl, rfl⟩
      clear hlt
      go_wp2_with fail
      go_ret2
      exact ⟨ret_ib' HF.out.1.symm HF.out.2.symm, hb.out⟩
end Go.Proofs.YtncolcjejgmhjaaGreatDoor
