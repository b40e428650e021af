/- The kinds of two names. -/
import Derived.Test.YtcoepioahabbdaaGreatGwac
import Derived.Test.YtcoepioahabbdaaGreatGybu
import Derived.Test.YtcoepioahabbdaaGreatGybq
import Derived.Test.YtcoepioahabbdaaGreatGybp
import Derived.Test.YtcoepioahabbdaaGreatGyay
import Derived.Test.YtcoepioahabbdaaGreatGyax
import Derived.Test.YtcoepioahabbdaaGreatGyaw
import Derived.Test.YtcoepioahabbdaaGreatGyav
import Derived.Test.YtcoepioahabbdaaGreatGyas
import Derived.Test.YtcoepioahabbdaaGreatGyar
import Derived.Test.YtcoepioahabbdaaGreatGyam
import Derived.Test.YtcoepioahabbdaaGreatGyae
import Derived.Test.YtcoepioahabbdaaGreatGyaa
import Derived.Test.YtcoepioahabbdaaGreatGyab
import Derived.Test.YtcoepioahabbdaaGreatGyad
import Derived.Test.YtcoepioahabbdaaGreatGyac
import Derived.Test.YtcoepioahabbdaaGreatGyaf
import Derived.Test.YtcoepioahabbdaaGreatGyag
import Derived.Test.YtcoepioahabbdaaGreatGyal
import Derived.Test.YtcoepioahabbdaaGreatGyak
import Derived.Test.YtcoepioahabbdaaGreatGyah
import Derived.Test.YtcoepioahabbdaaGreatGyai
import Derived.Test.YtcoepioahabbdaaGreatGyao
import Derived.Test.YtcoepioahabbdaaGreatGyan
import Derived.Test.YtcoepioahabbdaaGreatGyaq
import Derived.Test.YtcoepioahabbdaaGreatGyap
import Derived.Test.YtcoepioahabbdaaGreatGyau
import Derived.Test.YtcoepioahabbdaaGreatGybo
import Derived.Test.YtcoepioahabbdaaGreatGybi
import Derived.Test.YtcoepioahabbdaaGreatGybh
import Derived.Test.YtcoepioahabbdaaGreatGybg
import Derived.Test.YtcoepioahabbdaaGreatGybc
import Derived.Test.YtcoepioahabbdaaGreatGybb
import Derived.Test.YtcoepioahabbdaaGreatGyaz
import Derived.Test.YtcoepioahabbdaaGreatGyba
import Derived.Test.YtcoepioahabbdaaGreatGyat
import Derived.Test.YtcoepioahabbdaaGreatGybf
import Derived.Test.YtcoepioahabbdaaGreatGybe
import Derived.Test.YtcoepioahabbdaaGreatGybd
import Derived.Test.YtcoepioahabbdaaGreatGybm
import Derived.Test.YtcoepioahabbdaaGreatGybl
import Derived.Test.YtcoepioahabbdaaGreatGybj
import Derived.Test.YtcoepioahabbdaaGreatGybn
import Derived.Test.YtcoepioahabbdaaGreatGybk
import Derived.Test.YtcoepioahabbdaaGreatGybt
namespace Go.Proofs.YtcoepioahabbdaaGreat
open Go.RowKit
theorem kT_sys : kT sysT = 4 := by kernel_rfl
theorem kT_shut : kT shutT = 4 := by kernel_rfl
section
variable {K : Tx → Int}
theorem says_quiet {l : List Ld} {x : Ld} {t : Tx} {r : Int} (h : Says K l x t r) (h1 : x.rels = []) (h2 : x.wants = []) (h3 : x.reqs = []) (h4 : x.socks = []) (h5 : x.wk = []) (h6 : x.dflt = false ∨ K x.n = 4) : t = [] := by
  cases h with
  | rel h => rw [h1] at h; cases h
  | wants h => rw [h2] at h; cases h
  | reqs h => rw [h3] at h; cases h
  | triggers _ => exact h5
  | wakes _ => exact h5
  | sock _ h => rw [h4] at h; cases h
  | sockA _ h => rw [h4] at h; cases h
  | sysN h k => rcases h6 with e | e
                · rw [e] at h; cases h
                · omega
  | sysA h k => rcases h6 with e | e
                · rw [e] at h; cases h
                · omega
  | shutC h k => rcases h6 with e | e
                 · rw [e] at h; cases h
                 · omega
  | shutB h k => rcases h6 with e | e
                 · rw [e] at h; cases h
                 · omega
  | target _ _ h => rw [h1, h2, h3] at h; rcases h with h | h | h | h <;> cases h
theorem edge_says {l : List Ld} {ns : List Nd} {es : List Ed} (h : GraphOk K l ns es) {x : Ld} (hf : firstL' l x.n = some x) {t : Tx} {r : Int} (ht : t ∈ outG es x.n r) : Says K l x t r ∧ isNode K l t := by
  rw [out_mem, h.edge] at ht
  obtain ⟨_, a, _, y, hy, _, hs⟩ := ht
  have hy : firstL' l x.n = some y := hy
  rw [hf] at hy
  injection hy with hy
  subst hy
  exact ⟨hs, a⟩
theorem is_node {l : List Ld} {ns : List Nd} {es : List Ed} (h : GraphOk K l ns es) (t : Tx) : nodeB ns t = true ↔ isNode K l t := by
  unfold nodeB isNode
  rw [h.nodes, node_at]
  by_cases e : t ∈ (namesL K l).take 64
  · rw [if_pos e]; exact ⟨fun _ => e, fun _ => rfl⟩
  · rw [if_neg e]; exact ⟨fun k => (by cases k), fun k => absurd k e⟩
theorem says_out {l : List Ld} {ns : List Nd} {es : List Ed} (h : GraphOk K l ns es) (hl : l.length ≤ 64) {x : Ld} (hf : firstL' l x.n = some x) (hx : x ∈ l) (hk : K x.n ≠ 0) (hs : x.s = 1) {t : Tx} {r : Int} (hS : Says K l x t r) (hne : x.n ≠ t) : decide (t ∈ outG es x.n r) = nodeB ns t := by
  rw [Bool.eq_iff_iff, decide_eq_true_eq, is_node h]
  refine ⟨fun k => (edge_says h hf k).2, fun k => ?_⟩
  rw [out_mem, h.edge]
  refine ⟨?_, k, hne, x, hf, hs, hS⟩
  unfold isNode
  rw [few_names hl, names_mem]
  exact ⟨hk, x, hx, rfl⟩
end
theorem has_of {l : List Tx} {v : ByteArray} {t : Tx} (hv : v.data.toList = t) : l.any (fun x => decide (x = v.data.toList)) = decide (t ∈ l) := by
  rw [hv, Bool.eq_iff_iff, List.any_eq_true, decide_eq_true_eq]
  exact ⟨fun ⟨x, hx, e⟩ => by rw [decide_eq_true_eq] at e; rw [← e]; exact hx, fun h => ⟨t, h, by simp⟩⟩
def cntN (l : List LdR) (t : Tx) : Nat := (l.filter (fun z => decide (z.x.n = t))).length
theorem cnt_succ {L : List LdR} {k : Nat} {y : LdR} (hy : L[k]? = some y) (t : Tx) : cntN (L.take (k + 1)) t = cntN (L.take k) t + (if y.x.n = t then 1 else 0) := by
  unfold cntN
  rw [List.take_add_one, hy]
  simp only [Option.toList_some, List.filter_append, List.length_append]
  by_cases e : y.x.n = t <;> simp [e]
theorem cnt_le (L : List LdR) (t : Tx) (k : Nat) : cntN (L.take k) t ≤ k := by
  unfold cntN
  have h1 := List.length_filter_le (fun z : LdR => decide (z.x.n = t)) (L.take k)
  have h2 := (List.length_take_le k L)
  omega
theorem cnt_one {L : List LdR} {x : LdR} (hx : x ∈ L) (h : cntN L x.x.n = 1) : firstL' (L.map (·.x)) x.x.n = some x.x := by
  unfold cntN at h
  obtain ⟨z, hz⟩ := List.length_eq_one_iff.1 h
  have hm : x ∈ L.filter (fun z => decide (z.x.n = x.x.n)) := List.mem_filter.2 ⟨hx, by simp⟩
  rw [hz] at hm
  have e := List.mem_singleton.1 hm
  subst e
  unfold firstL'
  rw [List.find?_map]
  have h2 : L.find? ((fun y : Ld => decide (y.n = x.x.n)) ∘ (fun r : LdR => r.x)) = some x := by
    rw [← List.head?_filter]
    show (L.filter (fun z => decide (z.x.n = x.x.n))).head? = some x
    rw [hz]; rfl
  rw [h2]; rfl
end Go.Proofs.YtcoepioahabbdaaGreat
