/- Small words on strings, lists and worlds beside those of the texts on names. -/
import Derived.Test.YtjoedgkmpklhfaaSpL
import Derived.Test.YtjoedgkmpklhfaaNmR
import Derived.Test.YtjoedgkmpklhfaaNmU
import Derived.Below
import Derived.Deep.QuietTactic
import Derived.Deep.Draws
namespace Go.Proofs.Ytjoedgkmpklhfaa
open Go.RowKit

theorem str_list (l : List UInt8) : (str l).data.toList = l := rfl
theorem str_app (a b : List UInt8) : str a ++ str b = str (a ++ b) := by
  apply ext_list
  rw [app_list]
  rfl
theorem ret_ib {a b : Int} {x y : Bool} (h : a = b) (g : x = y) : Ending.returned (.tuple #[.int .i64 a, .bool x]) = .returned (.tuple #[.int .i64 b, .bool y]) := by rw [h, g]
theorem take_at (s : ByteArray) (k : Nat) (h : k < s.size) : s.data.toList.take (k + 1) = s.data.toList.take k ++ [s[k]] := by
  rw [List.take_succ_eq_append_getElem (by simpa using h)]; rfl
theorem tail_listK (s : ByteArray) (k : Nat) : (s.extract k s.size).data.toList = s.data.toList.drop k := by
  rw [Lib.extract_data]
  exact List.take_of_length_le (by rw [List.length_drop]; simp)
theorem size_list (s : ByteArray) : s.data.toList.length = s.size := by simp
theorem isEmpty_iff (s : ByteArray) : s.toList.isEmpty = decide (s.data.toList = []) := by
  rw [Lib.toList_data]
  cases s.data.toList <;> simp
theorem unescL_app : ∀ (n : Nat) (a b x y : List UInt8), a.length ≤ n → unescL a = some x → unescL b = some y → unescL (a ++ b) = some (x ++ y) ∧ x.length ≤ a.length := by
  intro n
  induction n with
  | zero =>
    intro a b x y hn ha hb
    have : a = [] := List.eq_nil_of_length_eq_zero (by omega)
    subst this
    simp [unescL] at ha
    subst ha
    exact ⟨by simpa using hb, by simp⟩
  | succ n ih =>
    intro a b x y hn ha hb
    match a, hn, ha with
    | [], _, ha =>
      simp [unescL] at ha
      subst ha
      exact ⟨by simpa using hb, by simp⟩
    | c :: r, hn, ha =>
      rw [List.length_cons] at hn
      rw [List.cons_append]
      by_cases h1 : c = 45
      · rw [unescL_slash _ _ h1] at ha ⊢
        rcases hr : unescL r with _ | v
        · rw [hr] at ha; simp at ha
        · rw [hr] at ha
          obtain ⟨e1, e2⟩ := ih r b v y (by omega) hr hb
          simp at ha
          subst ha
          rw [e1]
          exact ⟨rfl, by simp; omega⟩
      · rcases h2 : plainB c.toNat with _ | _
        · by_cases h3 : c = 92
          · rw [unescL_hex _ _ h3] at ha ⊢
            rcases hx : (hexL r).2 with _ | _
            · rw [hx] at ha; simp at ha
            · rw [hx, if_pos rfl] at ha
              have hlen := (hexL_range r).2.2 hx
              have happ : hexL (r ++ b) = hexL r := by
                match r, hlen with
                | _ :: _ :: _ :: _, _ => rfl
              rw [happ, hx, if_pos rfl]
              have hd : (r ++ b).drop 3 = r.drop 3 ++ b := by rw [List.drop_append_of_le_length hlen]
              rw [hd]
              rcases hr : unescL (r.drop 3) with _ | v
              · rw [hr] at ha; simp at ha
              · rw [hr] at ha
                obtain ⟨e1, e2⟩ := ih (r.drop 3) b v y (by rw [List.length_drop]; omega) hr hb
                rw [List.length_drop] at e2
                simp at ha
                subst ha
                rw [e1]
                exact ⟨rfl, by simp; omega⟩
          · rw [unescL_other _ _ h1 h2 h3] at ha
            simp at ha
        · rw [unescL_plain _ _ h2] at ha ⊢
          rcases hr : unescL r with _ | v
          · rw [hr] at ha; simp at ha
          · rw [hr] at ha
            obtain ⟨e1, e2⟩ := ih r b v y (by omega) hr hb
            simp at ha
            subst ha
            rw [e1]
            exact ⟨rfl, by simp; omega⟩
theorem unescS_size (a : ByteArray) : (unescS a).size ≤ a.size := by
  unfold unescS
  rcases h : unescL a.data.toList with _ | x
  · exact Nat.zero_le _
  · have := (unescL_app _ a.data.toList [] x [] (Nat.le_refl _) h rfl).2
    rw [Lib.size_eq]
    rw [Lib.size_eq]
    exact this
theorem bcell {W w1 : World} (hb : Below W.heap.size W w1) : (∀ b o, b < W.heap.size → w1.cell? ⟨b, o, none⟩ = W.cell? ⟨b, o, none⟩) ∧ (∀ b o, b < W.heap.size → w1.frozen? ⟨b, o, none⟩ = W.frozen? ⟨b, o, none⟩) :=
  ⟨fun b o h => hb.cell (p := ⟨b, o, none⟩) h, fun b o h => hb.frozen (p := ⟨b, o, none⟩) h⟩

end Go.Proofs.Ytjoedgkmpklhfaa
