/- The walk of what the laws of graph show: some. -/
import Derived.Test.YtcoepioahabbdaaGreatGyax
import Derived.Great.Walk
namespace Go.Proofs.YtcoepioahabbdaaGreat
open Go.RowKit
def servR (g : Nat) : Array Value := #[.string (str tSv), .int .i64 1, .string ⟨#[]⟩, .bool true, .slice (some ⟨g, 0, none⟩) 1 1, .int .i64 10, .int .i64 5, .int .i64 1, .slice none 0 0, .slice none 0 0, .slice none 0 0, .slice none 0 0, .slice none 0 0, .bool false, .int .i64 1, .int .i64 0, .int .i64 90, .int .i64 90, .slice none 0 0, .slice none 0 0, .slice none 0 0, .slice none 0 0, .int .i64 0, .string ⟨#[]⟩, .string ⟨#[]⟩, .slice none 0 0, .slice none 0 0, .slice none 0 0, .slice none 0 0, .bool false, .slice none 0 0, .slice none 0 0, .slice none 0 0, .slice none 0 0, .string ⟨#[]⟩]
def c1L : Array Value := #[.string (str tTg), .int .i64 2, .string ⟨#[]⟩, .int .i64 0, .int .i64 0, .string ⟨#[]⟩, .int .i64 0, .string ⟨#[]⟩, .bool false, .slice none 0 0, .int .i64 0, .int .i64 0, .int .i64 0, .slice none 0 0, .slice none 0 0, .slice none 0 0, .slice none 0 0, .slice none 0 0, .bool false, .int .i64 0, .int .i64 0, .int .i64 0, .int .i64 0, .slice none 0 0, .slice none 0 0, .slice none 0 0, .slice none 0 0, .int .i64 0, .string ⟨#[]⟩, .string ⟨#[]⟩, .slice none 0 0, .slice none 0 0, .slice none 0 0, .slice none 0 0, .bool false, .slice none 0 0, .slice none 0 0, .slice none 0 0, .slice none 0 0, .string ⟨#[]⟩, .slice none 0 0, .slice none 0 0]
def c2L (g : Nat) : Array Value := #[.string (str tSv), .int .i64 1, .string ⟨#[]⟩, .int .i64 0, .int .i64 0, .string (str tSv), .int .i64 1, .string ⟨#[]⟩, .bool true, .slice (some ⟨g, 0, none⟩) 1 1, .int .i64 10, .int .i64 5, .int .i64 1, .slice none 0 0, .slice none 0 0, .slice none 0 0, .slice none 0 0, .slice none 0 0, .bool false, .int .i64 1, .int .i64 0, .int .i64 90, .int .i64 90, .slice none 0 0, .slice none 0 0, .slice none 0 0, .slice none 0 0, .int .i64 0, .string ⟨#[]⟩, .string ⟨#[]⟩, .slice none 0 0, .slice none 0 0, .slice none 0 0, .slice none 0 0, .bool false, .slice none 0 0, .slice none 0 0, .slice none 0 0, .slice none 0 0, .string ⟨#[]⟩, .slice none 0 0, .slice none 0 0]
def c3L : Array Value := #[.string (str sysT), .int .i64 2, .string ⟨#[]⟩, .int .i64 0, .int .i64 0, .string ⟨#[]⟩, .int .i64 0, .string ⟨#[]⟩, .bool false, .slice none 0 0, .int .i64 0, .int .i64 0, .int .i64 0, .slice none 0 0, .slice none 0 0, .slice none 0 0, .slice none 0 0, .slice none 0 0, .bool false, .int .i64 0, .int .i64 0, .int .i64 0, .int .i64 0, .slice none 0 0, .slice none 0 0, .slice none 0 0, .slice none 0 0, .int .i64 0, .string ⟨#[]⟩, .string ⟨#[]⟩, .slice none 0 0, .slice none 0 0, .slice none 0 0, .slice none 0 0, .bool false, .slice none 0 0, .slice none 0 0, .slice none 0 0, .slice none 0 0, .string ⟨#[]⟩, .slice none 0 0, .slice none 0 0]
def allL (g : Nat) : Array Value := #[.string (str tTg), .int .i64 2, .string ⟨#[]⟩, .int .i64 0, .int .i64 0, .string ⟨#[]⟩, .int .i64 0, .string ⟨#[]⟩, .bool false, .slice none 0 0, .int .i64 0, .int .i64 0, .int .i64 0, .slice none 0 0, .slice none 0 0, .slice none 0 0, .slice none 0 0, .slice none 0 0, .bool false, .int .i64 0, .int .i64 0, .int .i64 0, .int .i64 0, .slice none 0 0, .slice none 0 0, .slice none 0 0, .slice none 0 0, .int .i64 0, .string ⟨#[]⟩, .string ⟨#[]⟩, .slice none 0 0, .slice none 0 0, .slice none 0 0, .slice none 0 0, .bool false, .slice none 0 0, .slice none 0 0, .slice none 0 0, .slice none 0 0, .string ⟨#[]⟩, .slice none 0 0, .slice none 0 0, .string (str tSv), .int .i64 1, .string ⟨#[]⟩, .int .i64 0, .int .i64 0, .string (str tSv), .int .i64 1, .string ⟨#[]⟩, .bool true, .slice (some ⟨g, 0, none⟩) 1 1, .int .i64 10, .int .i64 5, .int .i64 1, .slice none 0 0, .slice none 0 0, .slice none 0 0, .slice none 0 0, .slice none 0 0, .bool false, .int .i64 1, .int .i64 0, .int .i64 90, .int .i64 90, .slice none 0 0, .slice none 0 0, .slice none 0 0, .slice none 0 0, .int .i64 0, .string ⟨#[]⟩, .string ⟨#[]⟩, .slice none 0 0, .slice none 0 0, .slice none 0 0, .slice none 0 0, .bool false, .slice none 0 0, .slice none 0 0, .slice none 0 0, .slice none 0 0, .string ⟨#[]⟩, .slice none 0 0, .slice none 0 0, .string (str sysT), .int .i64 2, .string ⟨#[]⟩, .int .i64 0, .int .i64 0, .string ⟨#[]⟩, .int .i64 0, .string ⟨#[]⟩, .bool false, .slice none 0 0, .int .i64 0, .int .i64 0, .int .i64 0, .slice none 0 0, .slice none 0 0, .slice none 0 0, .slice none 0 0, .slice none 0 0, .bool false, .int .i64 0, .int .i64 0, .int .i64 0, .int .i64 0, .slice none 0 0, .slice none 0 0, .slice none 0 0, .slice none 0 0, .int .i64 0, .string ⟨#[]⟩, .string ⟨#[]⟩, .slice none 0 0, .slice none 0 0, .slice none 0 0, .slice none 0 0, .bool false, .slice none 0 0, .slice none 0 0, .slice none 0 0, .slice none 0 0, .string ⟨#[]⟩, .slice none 0 0, .slice none 0 0]
theorem built_1 : Tryz.prog.built 53 [(0, .string (str tTg)), (1, .int .i64 2)] = some c1L := by kernel_rfl
theorem built_2 (g : Nat) : Tryz.prog.built 53 [(0, .string (str tSv)), (1, .int .i64 1), (4, .agg (servR g))] = some (c2L g) := by kernel_rfl
theorem built_2s (g : Nat) : Tryz.prog.built 53 [(0, .string (str tSv)), (1, .int .i64 1), (4, .agg (servU.setIfInBounds 4 (.slice (some ⟨g, 0, none⟩) 1 1)))] = some (c2L g) := built_2 g
theorem built_3 : Tryz.prog.built 53 [(0, .string (str sysT)), (1, .int .i64 2)] = some c3L := by kernel_rfl
def r1L : LdR := ⟨c1L, ⟨tTg, 2, [], 0, [], [], false, [], [], []⟩, rfl, fun u hu => by
  have : c1L.toList.all (·.oneCell') = true := by simp [c1L, Value.oneCell']
  exact List.all_eq_true.1 this u hu⟩
def r2L (g : Nat) : LdR := ⟨c2L g, ⟨tSv, 1, tSv, 1, [(6, tTg)], [], true, [], [], []⟩, rfl, fun u hu => by
  have : (c2L g).toList.all (·.oneCell') = true := by simp [c2L, Value.oneCell']
  exact List.all_eq_true.1 this u hu⟩
def r3L : LdR := ⟨c3L, ⟨sysT, 2, [], 0, [], [], false, [], [], []⟩, rfl, fun u hu => by
  have : c3L.toList.all (·.oneCell') = true := by simp [c3L, Value.oneCell']
  exact List.all_eq_true.1 this u hu⟩
def smL (g : Nat) : List LdR := [r1L, r2L g, r3L]
theorem allL_eq (g : Nat) : (allL g).toList = ldLay.all (smL g) := by rfl
theorem fill_L (g : Nat) : Tryz.prog.builtSlice 53 3 [(0, .agg c1L), (1, .agg (c2L g)), (2, .agg c3L)] = some (allL g) := by kernel_rfl
theorem r2x (g : Nat) : (r2L g).x = ⟨tSv, 1, tSv, 1, [(6, tTg)], [], true, [], [], []⟩ := rfl
theorem sm_small (g : Nat) : ∀ r ∈ smL g, Small r.x := by
  intro r hr
  simp only [smL, List.mem_cons, List.not_mem_nil, or_false] at hr
  rcases hr with rfl | rfl | rfl
  · exact ⟨by decide, by decide, by decide, by decide, by decide, by decide, by decide, by decide⟩
  · rw [r2x]; exact ⟨by decide, by decide, by decide, by decide, by decide, by decide, by decide, by decide⟩
  · exact ⟨by decide, by decide, by decide, by decide, by decide, by decide, by decide, by decide⟩
theorem sm_is (w : World) (g : Nat) (hg : Blk w g 56 #[.int .i64 6, .string (str tTg)]) : ∀ r ∈ smL g, LdIs w w.heap.size r := by
  intro r hr
  simp only [smL, List.mem_cons, List.not_mem_nil, or_false] at hr
  rcases hr with rfl | rfl | rfl
  · exact ⟨rfl, rfl, rfl, rfl, rfl, rowC_none _ _ _, rowC_none _ _ _, ⟨[], rfl, rfl⟩, rowC_none _ _ _, rowC_none _ _ _⟩
  · refine ⟨rfl, rfl, rfl, rfl, rfl, ⟨some ⟨g, 0, none⟩, 1, rfl, Nat.le_refl _, (fun h => by cases h), rfl, (by show (1 : Nat) ≤ maxLen; decide), fun _ => ⟨_, rfl, hg.lt, fun j u hj => ?_⟩⟩, rowC_none _ _ _, ⟨[], rfl, rfl⟩, rowC_none _ _ _, rowC_none _ _ _⟩
    rw [add_g0, hg.cell j]
    rw [r2x] at hj
    have : (#[Value.int .i64 6, .string (str tTg)] : Array Value)[j]? = (rlLay.all [((6 : Int), tTg)])[j]? := by rw [← Array.getElem?_toList]; rfl
    rw [this]; exact hj
  · exact ⟨rfl, rfl, rfl, rfl, rfl, rowC_none _ _ _, rowC_none _ _ _, ⟨[], rfl, rfl⟩, rowC_none _ _ _, rowC_none _ _ _⟩
def SomeP (w : World) (e : Ending) (w' : World) : Prop := ∃ g A, e = .returned (.slice A 3 3) ∧ LdsAt w' w'.heap.size A 3 (smL g) ∧ Below w.heap.size w w'
set_option maxRecDepth 10000 in
set_option maxHeartbeats 8000000 in
theorem some15_any (w : World) : Calls Tryz.prog 27 #[] w (SomeP w) := by
  go_enter Tryz.func27, Tryz.ntmps27
  go_wp2_with fail
  refine (newSv_any _).mono ?_
  rintro e w1 ⟨rfl, hb1⟩
  have HB1 := Lib.hid hb1
  clear hb1
  have n4 : (w1.alloc (.cells servU 51)).cell? ⟨w1.heap.size, 4, none⟩ = some (.slice none 0 0) := (Blk.new w1 _ servU).cell 4
  have n5 : ((w1.alloc (.cells servU 51)).alloc (.cells #[.int .i64 6, .string (⟨#[98, 46, 116, 97, 114, 103, 101, 116]⟩ : ByteArray)] 56)).cell? ⟨w1.heap.size, 4, none⟩ = some (.slice none 0 0) := ((Blk.new w1 _ servU).alloc _).cell 4
  have n6 : ((w1.alloc (.cells servU 51)).alloc (.cells #[.int .i64 6, .string (⟨#[98, 46, 116, 97, 114, 103, 101, 116]⟩ : ByteArray)] 56)).frozen? ⟨w1.heap.size, 4, none⟩ = false := ((Blk.new w1 51 servU).alloc _).frozen 4
  obtain ⟨SU, hSU⟩ : ∃ SU, servU.setIfInBounds 4 (.slice (some ⟨w1.heap.size + 1, 0, none⟩) 1 1) = SU := ⟨_, rfl⟩
  have hszU : (Tryz.prog.info? 51).map (·.size) = some SU.size := by rw [← hSU, Array.size_setIfInBounds]; exact size_U
  have HB2 := Lib.hid (built_2s (w1.heap.size + 1))
  have HFL := Lib.hid (fill_L (w1.heap.size + 1))
  obtain ⟨C2, hC2⟩ : ∃ C2, c2L (w1.heap.size + 1) = C2 := ⟨_, rfl⟩
  have HC2 := Lib.hid hC2
  rw [hSU, hC2] at HB2
  rw [hC2] at HFL
  obtain ⟨AL, hAL⟩ : ∃ AL, allL (w1.heap.size + 1) = AL := ⟨_, rfl⟩
  have HAL := Lib.hid hAL
  rw [hAL] at HFL
  clear hC2 hAL
  have HBU : Hid (Blk ((w1.alloc (.cells SU 51)).alloc (.cells #[.int .i64 6, .string (⟨#[98, 46, 116, 97, 114, 103, 101, 116]⟩ : ByteArray)] 56)) w1.heap.size 51 SU) := (Blk.new w1 _ _).alloc _
  go_wp2_with (first
    | (refine wpList_store_row rfl 51 (.tmp 1) (.tmp 2) (by rfl) w1.heap.size servU (by rfl) (by rfl) 51 _ (by exact heap_alloc_new _ _) (by exact size_U) (by rfl) servU_all ?_
       rw [heap_alloc_setRow])
    | (refine wpList_buildTo rfl 53 _ rfl (some 6) rfl c1L (by simp only [List.map_toArray, List.map_cons, List.map_nil]; exact built_1) ?_)
    | (refine wpList_buildTo rfl 53 _ rfl (some 8) rfl C2 (by simp only [List.map_toArray, List.map_cons, List.map_nil]; exact HB2.out) ?_)
    | (refine wpList_buildTo rfl 53 _ rfl (some 9) rfl c3L (by simp only [List.map_toArray, List.map_cons, List.map_nil]; exact built_3) ?_
       refine Great.wpList_buildSliceTo rfl 22 53 3 _ rfl (w1.heap.size + 1 + 1) (by simp) (some 10) rfl Tryz.underlying22 AL (by simp only [List.map_toArray, List.map_cons, List.map_nil]; exact HFL.out) ?_)
    | (refine wpList_load_row rfl 51 (.tmp 1) (by rfl) w1.heap.size (by rfl) 51 SU (0, 0) _ HBU.out Tryz.underlying51 rfl hszU ?_)
    | fail)
  go_ret
  have hz : (w1.alloc (.cells (SU) 51)).heap.size = w1.heap.size + 1 := by simp
  have hk : Blk ((w1.alloc (.cells (SU) 51)).alloc (.cells #[.int .i64 6, .string (str tTg)] 56)) (w1.heap.size + 1) 56 #[.int .i64 6, .string (str tTg)] := by
    have := Blk.new (w1.alloc (.cells (SU) 51)) 56 #[.int .i64 6, .string (str tTg)]
    rwa [hz] at this
  have hz2 : ((w1.alloc (.cells (SU) 51)).alloc (.cells #[.int .i64 6, .string (str tTg)] 56)).heap.size = w1.heap.size + 1 + 1 := by simp
  have hn := Blk.new ((w1.alloc (.cells (SU) 51)).alloc (.cells #[.int .i64 6, .string (str tTg)] 56)) 53 AL
  rw [hz2] at hn
  refine ⟨w1.heap.size + 1, _, rfl, ⟨⟨rfl, by decide, fun _ => ⟨_, rfl, hn.lt, fun j u hj => ?_⟩⟩, sm_is _ _ (hk.alloc _)⟩, ?_⟩
  · rw [add_g0]
    refine Eq.trans (hn.cell j) ?_
    rw [← Array.getElem?_toList, ← HAL.out, allL_eq]
    exact hj
  · exact ((HB1.out.alloc HB1.out.size _).alloc (by have := HB1.out.size; simp; omega) _).alloc (by have := HB1.out.size; simp; omega) _
end Go.Proofs.YtcoepioahabbdaaGreat
