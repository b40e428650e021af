/- The walk of what the laws of graph show. -/
import Derived.Test.YtcoepioahabbdaaGreatGyay
import Derived.Test.YtcoepioahabbdaaGreatGybo
import Derived.Test.YtcoepioahabbdaaGreatGyad
namespace Go.Proofs.YtcoepioahabbdaaGreat
open Go.RowKit
def smN15 : List Nd := [⟨tSv, 1, 1⟩, ⟨tTg, 4, 2⟩, ⟨sysT, 4, 2⟩]
def smE15 : List Ed := [⟨tSv, tTg, 6⟩, ⟨tSv, sysT, 1⟩, ⟨tSv, sysT, 8⟩]
def smX15 : List Ld := [⟨tTg, 2, [], 0, [], [], false, [], [], []⟩, ⟨tSv, 1, tSv, 1, [(6, tTg)], [], true, [], [], []⟩, ⟨sysT, 2, [], 0, [], [], false, [], [], []⟩]
theorem smX_eq (g : Nat) : (smL g).map (·.x) = smX15 := rfl
theorem smN_eq : nodesL kT smX15 = smN15 := by decide +kernel
theorem smE_eq : ofE kT smX15 = smE15 := by decide +kernel
theorem sm_may15 : MayG kT smN15 smE15 := by
  have h := (ofE_ok (K := kT) smX15).may
  rwa [smN_eq, smE_eq] at h
theorem sm_node15 : nodeG smN15 tSv = some ⟨tSv, 1, 1⟩ := by decide +kernel
theorem sm_out15 : outG smE15 tSv 1 = [sysT] := by decide +kernel
theorem sm_in15 : inG smE15 tTg 6 = [tSv] := by decide +kernel
theorem sm_short15 : ∀ x ∈ smN15, x.n.length ≤ maxLen := by decide
theorem put_row {base : Nat} {l : List Tx} {w w' : World} {e : Ending} (h : PutPost base l w e w') (hl : l.length ≤ maxLen) : ∃ A c, e = .returned (.slice A l.length c) ∧ SlAt txLay w' w'.heap.size A l.length l ∧ Below w.heap.size w w' := by
  obtain ⟨v, rfl, ho, hb⟩ := h
  obtain ⟨A, c, rfl, _, _, _, hs⟩ := ho.slice hl
  exact ⟨A, c, rfl, hs, hb⟩
theorem sl_newB {α : Type} (Ly : Lay α) (w : World) (T : TypeId) (l : List α) (hl : l.length ≤ maxLen) : SlAt Ly (w.alloc (.cells (Ly.all l).toArray T)) (w.heap.size + 1) (some ⟨w.heap.size, 0, none⟩) l.length l :=
  ⟨rfl, hl, fun _ => ⟨_, rfl, by simp, fun j x hj => by
    rw [add_g0, (Blk.new w T (Ly.all l).toArray).cell j]
    simpa using hj⟩⟩
structure Sh5 (w W : World) (b nb : Nat) (NA EA : Option Addr) (nc ec : Nat) : Prop where
  gr : GrAt W b #[.slice NA 3 nc, .slice EA 3 ec] smN15 smE15
  k : Blk W b 29 #[.slice NA 3 nc, .slice EA 3 ec]
  kn : Blk W nb 32 #[.string (str tSv), .int .i64 1, .int .i64 1]
  below : Below w.heap.size w W
theorem Sh5.call {w W W' : World} {b nb : Nat} {NA EA : Option Addr} {nc ec : Nat} (h : Sh5 w W b nb NA EA nc ec) (hb : Below W.heap.size W W') : Sh5 w W' b nb NA EA nc ec :=
  ⟨h.gr.below (hb.mono (Nat.le_of_lt h.k.lt)), h.k.below hb h.k.lt, h.kn.below hb h.kn.lt, more3 h.below h.below.size hb⟩
set_option maxRecDepth 10000 in
set_option maxHeartbeats 8000000 in
theorem shown15_any (w : World) : Calls Tryz.prog 9 #[] w fun e w' => e = .returned (.bool true) ∧ Below w.heap.size w w' := by
  go_enter Tryz.func9, Tryz.ntmps9
  go_wp2_with fail
  refine (some15_any _).mono ?_
  rintro e w1 ⟨g0, A, rfl, hl, hb1⟩
  have HL := Lib.hid hl
  have HB1 := Lib.hid hb1
  clear hl hb1
  go_wp2_with fail
  refine (oOf_any A 3 3 _ (smL g0) w1 HL.out (Nat.le_refl _) (sm_small g0) (by decide)).mono ?_
  rintro e w2 ⟨gr, rfl, hg, hb2⟩
  rw [smX_eq, smN_eq, smE_eq] at hg
  obtain ⟨NA, nc, EA, ec, rfl, _, _, _, _, _, _⟩ := hg.form
  change GrAt _ _ #[.slice NA 3 nc, .slice EA 3 ec] _ _ at hg
  have HB2 := Lib.hid (more3 HB1.out HB1.out.size hb2)
  have HG2 := Lib.hid hg
  clear hg hb2 HL HB1
  simp only [show smN15.length = 3 from rfl, show smE15.length = 3 from rfl]
  have HB3 : Hid (Below w.heap.size w (w2.alloc (.cells #[.slice NA 3 nc, .slice EA 3 ec] 29))) := HB2.out.alloc HB2.out.size _
  have HG3 : Hid (GrAt (w2.alloc (.cells #[.slice NA 3 nc, .slice EA 3 ec] 29)) w2.heap.size #[.slice NA 3 nc, .slice EA 3 ec] smN15 smE15) := HG2.out.below ((Below.refl _ w2).alloc (Nat.le_refl _) _)
  have HK3 : Hid (Blk (w2.alloc (.cells #[.slice NA 3 nc, .slice EA 3 ec] 29)) w2.heap.size 29 #[.slice NA 3 nc, .slice EA 3 ec]) := Blk.new _ _ _
  have e0 := HK3.out.cell 0
  have e1 := HK3.out.cell 1
  have hsz : w2.heap.size < (w2.alloc (.cells #[.slice NA 3 nc, .slice EA 3 ec] 29)).heap.size := by simp
  have hn := oNode15_any _ smN15 smE15 tSv w2.heap.size (w2.alloc (.cells #[.slice NA 3 nc, .slice EA 3 ec] 29)) HG3.out (by simp)
  rw [sm_node15] at hn
  have HN := Lib.hid hn
  clear hn HG2 HB2
  go_wp2_with fail
  refine HN.out.mono ?_
  rintro e w5 ⟨rfl, hb5⟩
  have HS6 : Hid (Sh5 w (w5.alloc (.cells #[.string (str tSv), .int .i64 1, .int .i64 1] 32)) w2.heap.size w5.heap.size NA EA nc ec) := by
    have h1 := hb5.alloc hb5.size (.cells #[.string (str tSv), .int .i64 1, .int .i64 1] 32)
    exact ⟨HG3.out.below (h1.mono (Nat.le_of_lt hsz)), HK3.out.below h1 hsz, Blk.new _ _ _, more3 HB3.out HB3.out.size h1⟩
  clear hb5 HN HG3 HK3 HB3 e0 e1
  have e0 := HS6.out.k.cell 0
  have e1 := HS6.out.k.cell 1
  have n1 := HS6.out.kn.cell 1
  have HM := Lib.hid (oMay15_any _ smN15 smE15 _ _ HS6.out.gr (Nat.le_of_lt HS6.out.k.lt) sm_short15)
  rw [show nodeV (some (⟨tSv, 1, 1⟩ : Nd)) = .tuple #[.agg #[.string (str tSv), .int .i64 1, .int .i64 1], .bool true] from rfl]
  go_wp2_with fail
  refine HM.out.mono ?_
  rintro e w7 ⟨r, rfl, hr, hb7⟩
  obtain rfl : r = true := hr.2 sm_may15
  have HS7 := Lib.hid (HS6.out.call hb7)
  clear hb7 hr HM HS6 e0 e1 n1
  have e0 := HS7.out.k.cell 0
  have e1 := HS7.out.k.cell 1
  have n1 := HS7.out.kn.cell 1
  go_wp2_with fail
  refine (oOut_any _ smN15 smE15 tSv 1 _ w7 HS7.out.gr (Nat.le_of_lt HS7.out.k.lt) (by decide)).mono ?_
  intro e w8 hp
  rw [sm_out15] at hp
  obtain ⟨A1, c1, rfl, hs1, hb8⟩ := put_row hp (by decide)
  have HS8 := Lib.hid (HS7.out.call hb8)
  have HR8 := Lib.hid hs1
  clear hp hs1 hb8 HS7 e0 e1 n1
  dsimp only [List.length_cons, List.length_nil]
  have hc9 : Below w8.heap.size w8 (w8.alloc (.cells #[.string (str sysT)] 9)) := (Below.refl _ w8).alloc (Nat.le_refl _) _
  have HS9 := Lib.hid (HS8.out.call hc9)
  have HR9 := Lib.hid (HR8.out.below hc9)
  have HT9 : Hid (SlAt txLay (w8.alloc (.cells #[.string (str sysT)] 9)) (w8.heap.size + 1) (some ⟨w8.heap.size, 0, none⟩) 1 [sysT]) := sl_newB txLay w8 9 [sysT] (by decide)
  clear HS8 HR8 hc9
  go_wp2_with fail
  refine (Same5_any A1 (some ⟨w8.heap.size, 0, none⟩) 1 1 c1 1 _ _ _ _ (txs_row.1 (HR9.out.wide (Nat.le_succ _))) (txs_row.1 HT9.out)).mono ?_
  rintro e w10 ⟨he, j, hj⟩
  rw [decide_eq_true rfl] at he
  subst he hj
  have HS10 := Lib.hid (HS9.out.call (below_drewN (Below.refl _ _) j))
  clear HS9 HR9 HT9
  have e0 := HS10.out.k.cell 0
  have e1 := HS10.out.k.cell 1
  obtain ⟨wx, hwx⟩ : ∃ wx, (w8.alloc (.cells #[.string (str sysT)] 9)).drewN j = wx := ⟨_, rfl⟩
  rw [hwx] at HS10 e0 e1
  rw [hwx]
  clear hwx
  go_wp2_with fail
  refine (oIn_any _ smN15 smE15 tTg 6 _ wx HS10.out.gr (Nat.le_of_lt HS10.out.k.lt) (by decide)).mono ?_
  intro e w11 hp
  rw [sm_in15] at hp
  obtain ⟨A2, c2, rfl, hs2, hb11⟩ := put_row hp (by decide)
  have HS11 := Lib.hid (HS10.out.call hb11)
  have HR11 := Lib.hid hs2
  clear hp hs2 hb11 HS10 e0 e1
  dsimp only [List.length_cons, List.length_nil]
  have hc12 : Below w11.heap.size w11 (w11.alloc (.cells #[.string (str tSv)] 9)) := (Below.refl _ w11).alloc (Nat.le_refl _) _
  have HS12 := Lib.hid (HS11.out.call hc12)
  have HR12 := Lib.hid (HR11.out.below hc12)
  have HT12 : Hid (SlAt txLay (w11.alloc (.cells #[.string (str tSv)] 9)) (w11.heap.size + 1) (some ⟨w11.heap.size, 0, none⟩) 1 [tSv]) := sl_newB txLay w11 9 [tSv] (by decide)
  clear HS11 HR11 hc12
  go_wp2_with fail
  refine (Same5_any A2 (some ⟨w11.heap.size, 0, none⟩) 1 1 c2 1 _ _ _ _ (txs_row.1 (HR12.out.wide (Nat.le_succ _))) (txs_row.1 HT12.out)).mono ?_
  rintro e w13 ⟨he, j2, hj2⟩
  rw [decide_eq_true rfl] at he
  subst he hj2
  have HS13 := Lib.hid (HS12.out.call (below_drewN (Below.refl _ _) j2))
  clear HS12 HR12 HT12
  go_wp2_with fail
  go_ret
  exact ⟨rfl, HS13.out.below⟩
end Go.Proofs.YtcoepioahabbdaaGreat
