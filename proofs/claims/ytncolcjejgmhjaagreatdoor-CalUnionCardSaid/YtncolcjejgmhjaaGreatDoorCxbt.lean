/- Small words on blocks for the walk of CalUnion. The walk of the law CalNext. -/
import Derived.Test.YtncolcjejgmhjaaGreatDoorCxbn
import Derived.Test.YtncolcjejgmhjaaGreatDoorCxbs
namespace Go.Proofs.YtncolcjejgmhjaaGreatDoor
open Go.RowKit
theorem grow_one (w : World) (cs : Array Value) (t : TypeId) : ∃ b w', w.heap.size = b ∧ w.alloc (.cells cs t) = w' ∧ Blk w' b t cs ∧ (∀ {g : Nat} {t' : TypeId} {cs' : Array Value}, Blk w g t' cs' → Blk w' g t' cs') ∧ Below w.heap.size w w' :=
  ⟨_, _, rfl, rfl, Blk.new w _ _, fun h => h.alloc _, (Below.refl _ _).alloc (Nat.le_refl _) _⟩
theorem blk_drew {w : World} {g : Nat} {t : TypeId} {cs : Array Value} (h : Blk w g t cs) : Blk w.drew g t cs := h
theorem cal_seven : (Tryz.prog.info? 25).map (·.size) = some 7 := by kernel_rfl
theorem load_yields {W : World} {g : Nat} {cs : Array Value} (o : Oper) (ev : Operand → Value) (x : Operand) (ho : o.op = .load 25 x) (hx : ev x = .pointer (some ⟨g, 0, none⟩)) (hB : Blk W g 25 cs) (hsz : cs.size = 7) : (execOp ev o).run Tryz.prog W = .ok (.value (.agg cs)) W := by
  unfold execOp
  simp only [ho, hx, Instr.loadAt, Instr.sureAddr, Sem.run_bind, Sem.run_pure, Result.andThen_ok, run_loadVar_row W g 25 25 cs (0, 0) _ hB Tryz.underlying25 rfl (by rw [hsz]; exact cal_seven)]
end Go.Proofs.YtncolcjejgmhjaaGreatDoor
namespace Go.Proofs.YtncolcjejgmhjaaGreatDoor
open Go.RowKit
set_option maxRecDepth 100000 in
set_option maxHeartbeats 4000000 in
theorem CalNext_any (c : Ch) (l : Cl) (a : Int) (w : World) (htab : TabM w) (hc : CalAt w w.heap.size c l) (ha : -9223372036854775808 ≤ a) (ha' : a ≤ 9223372036854775807) :
    Calls Tryz.prog 3 #[.agg c.cells, .int .i64 a] w fun e w' => e = .returned (.bool true) ∧ Below w.heap.size w w' := by
  have HT := Lib.hid htab
  have HC := Lib.hid hc
  have HR := Lib.hid (fun W h => rNext_any c l a W ha ha' h)
  have HN := Lib.hid (fun W h1 h2 => Next_any c l a W h1 h2)
  obtain ⟨t, ht⟩ : ∃ t, nextN l a = t := ⟨_, rfl⟩
  obtain ⟨o, ho⟩ : ∃ o, nextOk l a = o := ⟨_, rfl⟩
  rw [ht, ho] at HR HN
  clear htab hc ha ha' ht ho
  go_enter Tryz.func3, Tryz.ntmps3
  go_wp2_with fail
  refine (shown4_any _ (HT.out.below ((Below.refl _ _).alloc (Nat.le_refl _) _))).mono ?_
  rintro e w1 ⟨rfl, hq1⟩
  have HC1 : Hid (Blk w1 w.heap.size 25 c.cells) := (Blk.new w _ _).below hq1 (by simp)
  have HB1 := Lib.hid (more3 ((Below.refl w.heap.size w).alloc (Nat.le_refl _) _) (by simp) hq1)
  clear hq1
  go_wp2_with (refine wpList_load_row rfl 25 (.tmp 2) (by rfl) w.heap.size (by rfl) 25 c.cells (0, 0) _ HC1.out Tryz.underlying25 rfl (by kernel_rfl) ?_)
  refine (HN.out _ (HT.out.below HB1.out).t (HC.out.at_ HB1.out)).mono ?_
  rintro e w2 ⟨rfl, hq2⟩
  have HC2 := Lib.hid (HC1.out.below hq2 HC1.out.lt)
  have HB2 := Lib.hid (more3 HB1.out HB1.out.size hq2)
  clear hq2 HC1 HB1
  go_wp2_with (refine wpList_load_row rfl 25 (.tmp 2) (by rfl) w.heap.size (by rfl) 25 c.cells (0, 0) _ HC2.out Tryz.underlying25 rfl (by kernel_rfl) ?_)
  refine (HR.out _ (HC.out.at_ HB2.out)).mono ?_
  rintro e w3 ⟨rfl, hq3⟩
  have HB3 := Lib.hid (more3 HB2.out HB2.out.size hq3)
  clear hq3
  go_wp2_with fail
  go_ret
  exact ⟨ret_bool (by cases o <;> rfl), HB3.out⟩
end Go.Proofs.YtncolcjejgmhjaaGreatDoor
