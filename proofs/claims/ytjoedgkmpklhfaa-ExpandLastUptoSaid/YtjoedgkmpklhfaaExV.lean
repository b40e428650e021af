/- The walk of the law ExpandVars. -/
import Derived.Test.YtjoedgkmpklhfaaExS
import Derived.Test.YtjoedgkmpklhfaaExH
namespace Go.Proofs.Ytjoedgkmpklhfaa
open Go.RowKit Go.WideMaps Go.Maps

theorem valX_bound {env : List PairX} {M : Nat} (h : ∀ p ∈ env, p.2.length ≤ M) (n : List UInt8) : (valX env n).length ≤ M := by
  rcases valX_mem env n with e | ⟨p, hp, e⟩
  · rw [e]; exact Nat.zero_le _
  · rw [e]; exact h p hp
theorem fillX_bound {env : List PairX} (h : ∀ p ∈ env, p.2.length ≤ 1048576) {x : List UInt8} (hx : x.length ≤ 1048576) : (fillX env x).length ≤ 1099511627776 := by
  have h1 := fillX_len env (M := 1048576) (by omega) (valX_bound h) x.length x (Nat.le_refl _)
  have h2 : 1048576 * x.length ≤ 1048576 * 1048576 := Nat.mul_le_mul_left _ hx
  omega
theorem oneX_bound {env : List PairX} (h : ∀ p ∈ env, p.2.length ≤ 1048576) (x : List UInt8) : (oneX env x).length ≤ 1048576 := by
  unfold oneX
  split
  · simp
  · have h1 := blanksX_count (valX env (wholeX x))
    have h2 := valX_bound h (wholeX x)
    omega
theorem varsX_bound {env : List PairX} (h : ∀ p ∈ env, p.2.length ≤ 1048576) (l : List (List UInt8)) : (varsX env l).length ≤ 1048576 * l.length := by
  induction l with
  | nil => exact Nat.zero_le _
  | cons x l ih =>
    have := oneX_bound h x
    show (oneX env x ++ varsX env l).length ≤ _
    rw [List.length_append, List.length_cons, Nat.mul_add]
    omega
theorem varsX_bound2 {env : List PairX} (h : ∀ p ∈ env, p.2.length ≤ 1048576) {l : List (List UInt8)} (hl : l.length ≤ 2097152) : (varsX env l).length ≤ 8796093022208 := by
  have h1 := varsX_bound h l
  have h2 : 1048576 * l.length ≤ 1048576 * 2097152 := Nat.mul_le_mul_left _ hl
  omega

/-- Vars where everything is small. -/
theorem Vars_small (A A2 : Option Addr) (n c n2 c2 B : Nat) (l : List (List UInt8)) (env : List PairX) (w : World) (h : RowAt w B A n l) (h2 : PairsAt w B A2 n2 env) (hB : B ≤ w.heap.size) (hs : ∀ x ∈ l, x.length ≤ 1048576) (hp : ∀ p ∈ env, p.2.length ≤ 1048576) (hl : l.length ≤ 2097152) :
    Calls Try.prog 12 #[.slice A n c, .slice A2 n2 c2] w (VarsP env l w) :=
  Vars_any A A2 n c n2 c2 B l env w h h2 hB (fun x hx => by have := hs x hx; unfold maxLen; omega) (fun x hx _ => by have := fillX_bound hp (hs x hx); omega) (fun x _ _ => by have := valX_bound hp (wholeX x); omega) (varsX_bound2 hp hl)

set_option maxHeartbeats 4000000 in
theorem ExpandVars_any (A A2 : Option Addr) (n c n2 c2 B : Nat) (l : List (List UInt8)) (env : List PairX) (w : World) (h : RowAt w B A n l) (h2 : PairsAt w B A2 n2 env) (hB : B ≤ w.heap.size) (hs : ∀ x ∈ l, x.length ≤ 1048576) (hp : ∀ p ∈ env, p.1.length ≤ 1048576 ∧ p.2.length ≤ 1048576) (hl : l.length ≤ 1048576) :
    Calls Try.prog 4 #[.slice A n c, .slice A2 n2 c2] w fun e w' => e = .returned (.bool true) ∧ Below w.heap.size w w' := by
  have HR := Lib.hid h
  have HP := Lib.hid h2
  have HS := Lib.hid hs
  have HV := Lib.hid (fun p hp' => (hp p hp').2)
  clear h h2 hs hp
  go_enter Try.func4, Try.ntmps4
  go_wp2_with fail
  refine (shown6_any _).mono ?_
  rintro e w1 ⟨rfl, hb1⟩
  have HB1 := Lib.hid hb1
  have HR1 := Lib.hid (HR.out.below (hb1.mono hB))
  have HP1 := Lib.hid (HP.out.below (hb1.mono hB))
  have hs1 := hb1.size
  clear hb1
  go_wp2_with fail
  refine (Vars_small A A2 n c n2 c2 B l env _ HR1.out HP1.out (by omega) HS.out HV.out (by omega)).mono ?_
  rintro e w2 ⟨A3, n3, c3, rfl, _, hr3, hb2⟩
  have HB2 := Lib.hid (below_more HB1.out HB1.out.size hb2)
  have HR2 := Lib.hid (HR1.out.below (hb2.mono (by omega)))
  have HP2 := Lib.hid (HP1.out.below (hb2.mono (by omega)))
  have HR3 := Lib.hid hr3
  have hs2 := hb2.size
  clear hb2 hr3
  go_wp2_with fail
  refine (rVars_any A A2 n c n2 c2 B l env _ HR2.out HP2.out (by omega) (fun x hx => by have := HS.out x hx; omega) (fun x hx => by have := fillX_bound HV.out (HS.out x hx); omega) (fun m => by have := valX_bound HV.out m; omega) (varsX_bound2 HV.out (by omega))).mono ?_
  rintro e w3 ⟨A4, n4, c4, rfl, _, hr4, hb3⟩
  have HB3 := Lib.hid (below_more HB2.out HB2.out.size hb3)
  have HR4 := Lib.hid hr4
  have HR3' := Lib.hid ((HR3.out.below hb3).wide hb3.size)
  clear hb3 hr4
  go_wp2_with fail
  refine (Same5_any A3 A4 n3 n4 c3 c4 w3.heap.size (varsX env l) (varsX env l) w3 HR3'.out HR4.out).mono ?_
  rintro e w4 ⟨rfl, j, rfl⟩
  rw [show decide (varsX env l = varsX env l) = true from decide_eq_true rfl]
  go_wp2_with fail
  go_ret
  exact ⟨rfl, below_drewN HB3.out j⟩
end Go.Proofs.Ytjoedgkmpklhfaa
