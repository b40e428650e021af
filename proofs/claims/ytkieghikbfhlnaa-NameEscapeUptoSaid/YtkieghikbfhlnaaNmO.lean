/- NameJoin, where what comes in holds at most 1048576 letters and values: two texts that are read are read together, and escaped together they are what each is escaped, unless the second begins with a point. -/
import Derived.Test.YtkieghikbfhlnaaRows
import Derived.Test.YtkieghikbfhlnaaNmJ
import Derived.Test.YtkieghikbfhlnaaNmL
import Derived.ProofKit
import Derived.OpenShut
import Derived.JoinedCond
namespace Go.Proofs.Ytkieghikbfhlnaa
open Go.RowKit Go.ChangeShapes Go.WideShapes Go.ChangeAt
open Go.ChangeMaps (open_string shut_string)

theorem unescL_app : ∀ (n : Nat) (a b x y : List UInt8), a.length ≤ n → unescL a = some x → unescL b = some y → unescL (a ++ b) = some (x ++ y) ∧ x.length ≤ a.length := by
  intro n
  induction n with
  | zero =>
    intro a b x y hn ha hb
    have : a = [] := List.eq_nil_of_length_eq_zero (by omega)
    subst this
    simp [unescL] at ha
    subst ha
    exact ⟨by simpa using hb, by simp⟩
  | succ n ih =>
    intro a b x y hn ha hb
    match a, hn, ha with
    | [], _, ha =>
      simp [unescL] at ha
      subst ha
      exact ⟨by simpa using hb, by simp⟩
    | c :: r, hn, ha =>
      rw [List.length_cons] at hn
      rw [List.cons_append]
      by_cases h1 : c = 45
      · rw [unescL_slash _ _ h1] at ha ⊢
        rcases hr : unescL r with _ | v
        · rw [hr] at ha; simp at ha
        · rw [hr] at ha
          obtain ⟨e1, e2⟩ := ih r b v y (by omega) hr hb
          simp at ha
          subst ha
          rw [e1]
          exact ⟨rfl, by simp; omega⟩
      · rcases h2 : plainB c.toNat with _ | _
        · by_cases h3 : c = 92
          · rw [unescL_hex _ _ h3] at ha ⊢
            rcases hx : (hexL r).2 with _ | _
            · rw [hx] at ha; simp at ha
            · rw [hx, if_pos rfl] at ha
              have hlen := (hexL_range r).2.2 hx
              have happ : hexL (r ++ b) = hexL r := by
                match r, hlen with
                | _ :: _ :: _ :: _, _ => rfl
              rw [happ, hx, if_pos rfl]
              have hd : (r ++ b).drop 3 = r.drop 3 ++ b := by rw [List.drop_append_of_le_length hlen]
              rw [hd]
              rcases hr : unescL (r.drop 3) with _ | v
              · rw [hr] at ha; simp at ha
              · rw [hr] at ha
                obtain ⟨e1, e2⟩ := ih (r.drop 3) b v y (by rw [List.length_drop]; omega) hr hb
                rw [List.length_drop] at e2
                simp at ha
                subst ha
                rw [e1]
                exact ⟨rfl, by simp; omega⟩
          · rw [unescL_other _ _ h1 h2 h3] at ha
            simp at ha
        · rw [unescL_plain _ _ h2] at ha ⊢
          rcases hr : unescL r with _ | v
          · rw [hr] at ha; simp at ha
          · rw [hr] at ha
            obtain ⟨e1, e2⟩ := ih r b v y (by omega) hr hb
            simp at ha
            subst ha
            rw [e1]
            exact ⟨rfl, by simp; omega⟩
theorem unesc_app (a b : ByteArray) (ha : unescOk a = true) (hb : unescOk b = true) : unescOk (a ++ b) = true ∧ unescS (a ++ b) = unescS a ++ unescS b := by
  unfold unescOk at *
  rcases h1 : unescL a.data.toList with _ | x
  · rw [h1] at ha; simp at ha
  · rcases h2 : unescL b.data.toList with _ | y
    · rw [h2] at hb; simp at hb
    · obtain ⟨e, _⟩ := unescL_app _ _ _ x y (Nat.le_refl _) h1 h2
      rw [← app_list] at e
      rw [e]
      refine ⟨rfl, ?_⟩
      apply ext_list
      rw [app_list]
      unfold unescS
      rw [e, h1, h2]
      rfl
theorem unescS_size (a : ByteArray) : (unescS a).size ≤ a.size := by
  unfold unescS
  rcases h : unescL a.data.toList with _ | x
  · exact Nat.zero_le _
  · have := (unescL_app _ a.data.toList [] x [] (Nat.le_refl _) h rfl).2
    rw [Lib.size_eq]
    rw [Lib.size_eq]
    exact this

theorem escB_same (c : UInt8) (h : c ≠ 46) : escB false c = escB true c := by
  unfold escB
  split
  · rfl
  · simp [h]
theorem escL_app (f : Bool) (a b : List UInt8) (ha : a ≠ []) : escL f (a ++ b) = escL f a ++ escL false b := by
  induction a generalizing f with
  | nil => exact absurd rfl ha
  | cons c r ih =>
    rw [List.cons_append]
    cases r with
    | nil => simp [escL]
    | cons d r => rw [escL, escL, ih false (by simp), List.append_assoc]
theorem escS_app (a b : ByteArray) (h : b.data.toList.head? ≠ some 46) : escS (a ++ b) = escS a ++ escS b := by
  apply ext_list
  rw [app_list]
  show escL true (a ++ b).data.toList = escL true a.data.toList ++ escL true b.data.toList
  rw [app_list]
  have hb : escL false b.data.toList = escL true b.data.toList := by
    match hl : b.data.toList with
    | [] => rfl
    | c :: r =>
      rw [hl] at h
      rw [escL, escL, escB_same c (by simpa using h)]
  by_cases ha : a.data.toList = []
  · rw [ha]; rfl
  · rw [escL_app _ _ _ ha, hb]
theorem escS_size (a : ByteArray) : (escS a).size ≤ 4 * a.size := by
  rw [Lib.size_eq, Lib.size_eq]
  exact escL_length true _

set_option maxHeartbeats 2000000 in
theorem join_ye (a b : ByteArray) (ha : a.size ≤ 1048576) (hb : b.size ≤ 1048576) (hx : unescOk a = true) (hy : unescOk b = true) (hb0 : b.toList.isEmpty = true) (w : World) :
    Calls Try.prog 8 #[.string a, .string b] w fun e w' => e = .returned (.bool true) ∧ Below w.heap.size w w' := by
  have hsz : (a ++ b).size = a.size + b.size := ByteArray.size_append
  have ha47 : a.size ≤ 140737488351232 := by omega
  have hb47 : b.size ≤ 140737488351232 := by omega
  have hc47 : (a ++ b).size ≤ 140737488351232 := by omega
  have ha45 : a.size ≤ 35184372088832 := by omega
  have hb45 : b.size ≤ 35184372088832 := by omega
  have hc45 : (a ++ b).size ≤ 35184372088832 := by omega
  have hua := unescS_size a
  have hub := unescS_size b
  have hea := escS_size a
  have heb := escS_size b
  clear hsz
  obtain ⟨u1, u2⟩ := unesc_app a b hx hy
  have U1 := Lib.hid u1
  have U2 := Lib.hid u2
  clear u1 u2
  go_enter Try.func8, Try.ntmps8
  go_wp2_with fail
  refine (shown_any _).mono ?_
  rintro e w1 ⟨rfl, hb1⟩
  go_wp2_with fail
  refine (Unescape_any _ ha47 _).mono ?_
  rintro e wA ⟨rfl, hbA⟩
  go_wp2_with fail
  refine (Unescape_any _ hb47 _).mono ?_
  rintro e wB ⟨rfl, hbB⟩
  go_wp2_with fail
  refine (Unescape_any _ hc47 _).mono ?_
  rintro e wC ⟨rfl, hbC⟩
  rw [U1.out, U2.out]
  go_wp2_with fail
  go_ret
  exact ⟨rfl, more (more (more hb1 hbA) hbB) hbC⟩

set_option maxHeartbeats 2000000 in
theorem join_yp (a b : ByteArray) (ha : a.size ≤ 1048576) (hb : b.size ≤ 1048576) (hx : unescOk a = true) (hy : unescOk b = true) (hb0 : b.toList.isEmpty = false) (hp : 0 < b.size) (hp46 : ((b[0].toNat : Int) == 46) = true) (w : World) :
    Calls Try.prog 8 #[.string a, .string b] w fun e w' => e = .returned (.bool true) ∧ Below w.heap.size w w' := by
  have hsz : (a ++ b).size = a.size + b.size := ByteArray.size_append
  have ha47 : a.size ≤ 140737488351232 := by omega
  have hb47 : b.size ≤ 140737488351232 := by omega
  have hc47 : (a ++ b).size ≤ 140737488351232 := by omega
  have ha45 : a.size ≤ 35184372088832 := by omega
  have hb45 : b.size ≤ 35184372088832 := by omega
  have hc45 : (a ++ b).size ≤ 35184372088832 := by omega
  have hua := unescS_size a
  have hub := unescS_size b
  have hea := escS_size a
  have heb := escS_size b
  clear hsz
  obtain ⟨u1, u2⟩ := unesc_app a b hx hy
  have U1 := Lib.hid u1
  have U2 := Lib.hid u2
  clear u1 u2
  have hp' : (0 : Int) < b.size := by omega
  go_enter Try.func8, Try.ntmps8
  go_wp2_with fail
  refine (shown_any _).mono ?_
  rintro e w1 ⟨rfl, hb1⟩
  go_wp2_with fail
  refine (Unescape_any _ ha47 _).mono ?_
  rintro e wA ⟨rfl, hbA⟩
  go_wp2_with fail
  refine (Unescape_any _ hb47 _).mono ?_
  rintro e wB ⟨rfl, hbB⟩
  go_wp2_with fail
  refine (Unescape_any _ hc47 _).mono ?_
  rintro e wC ⟨rfl, hbC⟩
  rw [U1.out, U2.out]
  go_wp2_with fail
  go_ret
  exact ⟨rfl, more (more (more hb1 hbA) hbB) hbC⟩

set_option maxHeartbeats 2000000 in
theorem join_yo (a b : ByteArray) (ha : a.size ≤ 1048576) (hb : b.size ≤ 1048576) (hx : unescOk a = true) (hy : unescOk b = true) (hb0 : b.toList.isEmpty = false) (hp : 0 < b.size) (hp46 : ((b[0].toNat : Int) == 46) = false) (he : escS (a ++ b) = escS a ++ escS b) (w : World) :
    Calls Try.prog 8 #[.string a, .string b] w fun e w' => e = .returned (.bool true) ∧ Below w.heap.size w w' := by
  have hsz : (a ++ b).size = a.size + b.size := ByteArray.size_append
  have ha47 : a.size ≤ 140737488351232 := by omega
  have hb47 : b.size ≤ 140737488351232 := by omega
  have hc47 : (a ++ b).size ≤ 140737488351232 := by omega
  have ha45 : a.size ≤ 35184372088832 := by omega
  have hb45 : b.size ≤ 35184372088832 := by omega
  have hc45 : (a ++ b).size ≤ 35184372088832 := by omega
  have hua := unescS_size a
  have hub := unescS_size b
  have hea := escS_size a
  have heb := escS_size b
  clear hsz
  obtain ⟨u1, u2⟩ := unesc_app a b hx hy
  have U1 := Lib.hid u1
  have U2 := Lib.hid u2
  clear u1 u2
  have hp' : (0 : Int) < b.size := by omega
  have HE := Lib.hid he
  clear he
  go_enter Try.func8, Try.ntmps8
  go_wp2_with fail
  refine (shown_any _).mono ?_
  rintro e w1 ⟨rfl, hb1⟩
  go_wp2_with fail
  refine (Unescape_any _ ha47 _).mono ?_
  rintro e wA ⟨rfl, hbA⟩
  go_wp2_with fail
  refine (Unescape_any _ hb47 _).mono ?_
  rintro e wB ⟨rfl, hbB⟩
  go_wp2_with fail
  refine (Unescape_any _ hc47 _).mono ?_
  rintro e wC ⟨rfl, hbC⟩
  rw [U1.out, U2.out]
  go_wp2_with fail
  refine (Escape_any _ hc45 _).mono ?_
  rintro e wD ⟨rfl, hbD⟩
  rw [HE.out]
  go_wp2_with fail
  refine (Escape_any _ ha45 _).mono ?_
  rintro e wE ⟨rfl, hbE⟩
  go_wp2_with fail
  refine (Escape_any _ hb45 _).mono ?_
  rintro e wF ⟨rfl, hbF⟩
  go_wp2_with fail
  go_ret
  exact ⟨rfl, more (more (more (more (more (more hb1 hbA) hbB) hbC) hbD) hbE) hbF⟩

set_option maxHeartbeats 2000000 in
theorem join_ne (a b : ByteArray) (ha : a.size ≤ 1048576) (hb : b.size ≤ 1048576) (hx : unescOk a = true) (hy : unescOk b = false) (hb0 : b.toList.isEmpty = true) (w : World) :
    Calls Try.prog 8 #[.string a, .string b] w fun e w' => e = .returned (.bool true) ∧ Below w.heap.size w w' := by
  have hsz : (a ++ b).size = a.size + b.size := ByteArray.size_append
  have ha47 : a.size ≤ 140737488351232 := by omega
  have hb47 : b.size ≤ 140737488351232 := by omega
  have hc47 : (a ++ b).size ≤ 140737488351232 := by omega
  have ha45 : a.size ≤ 35184372088832 := by omega
  have hb45 : b.size ≤ 35184372088832 := by omega
  have hc45 : (a ++ b).size ≤ 35184372088832 := by omega
  have hua := unescS_size a
  have hub := unescS_size b
  have hea := escS_size a
  have heb := escS_size b
  clear hsz
  go_enter Try.func8, Try.ntmps8
  go_wp2_with fail
  refine (shown_any _).mono ?_
  rintro e w1 ⟨rfl, hb1⟩
  go_wp2_with fail
  refine (Unescape_any _ ha47 _).mono ?_
  rintro e wA ⟨rfl, hbA⟩
  go_wp2_with fail
  refine (Unescape_any _ hb47 _).mono ?_
  rintro e wB ⟨rfl, hbB⟩
  go_wp2_with fail
  refine (Unescape_any _ hc47 _).mono ?_
  rintro e wC ⟨rfl, hbC⟩
  go_wp2_with fail
  go_ret
  exact ⟨rfl, more (more (more hb1 hbA) hbB) hbC⟩

set_option maxHeartbeats 2000000 in
theorem join_np (a b : ByteArray) (ha : a.size ≤ 1048576) (hb : b.size ≤ 1048576) (hx : unescOk a = true) (hy : unescOk b = false) (hb0 : b.toList.isEmpty = false) (hp : 0 < b.size) (hp46 : ((b[0].toNat : Int) == 46) = true) (w : World) :
    Calls Try.prog 8 #[.string a, .string b] w fun e w' => e = .returned (.bool true) ∧ Below w.heap.size w w' := by
  have hsz : (a ++ b).size = a.size + b.size := ByteArray.size_append
  have ha47 : a.size ≤ 140737488351232 := by omega
  have hb47 : b.size ≤ 140737488351232 := by omega
  have hc47 : (a ++ b).size ≤ 140737488351232 := by omega
  have ha45 : a.size ≤ 35184372088832 := by omega
  have hb45 : b.size ≤ 35184372088832 := by omega
  have hc45 : (a ++ b).size ≤ 35184372088832 := by omega
  have hua := unescS_size a
  have hub := unescS_size b
  have hea := escS_size a
  have heb := escS_size b
  clear hsz
  have hp' : (0 : Int) < b.size := by omega
  go_enter Try.func8, Try.ntmps8
  go_wp2_with fail
  refine (shown_any _).mono ?_
  rintro e w1 ⟨rfl, hb1⟩
  go_wp2_with fail
  refine (Unescape_any _ ha47 _).mono ?_
  rintro e wA ⟨rfl, hbA⟩
  go_wp2_with fail
  refine (Unescape_any _ hb47 _).mono ?_
  rintro e wB ⟨rfl, hbB⟩
  go_wp2_with fail
  refine (Unescape_any _ hc47 _).mono ?_
  rintro e wC ⟨rfl, hbC⟩
  go_wp2_with fail
  go_ret
  exact ⟨rfl, more (more (more hb1 hbA) hbB) hbC⟩

set_option maxHeartbeats 2000000 in
theorem join_no (a b : ByteArray) (ha : a.size ≤ 1048576) (hb : b.size ≤ 1048576) (hx : unescOk a = true) (hy : unescOk b = false) (hb0 : b.toList.isEmpty = false) (hp : 0 < b.size) (hp46 : ((b[0].toNat : Int) == 46) = false) (he : escS (a ++ b) = escS a ++ escS b) (w : World) :
    Calls Try.prog 8 #[.string a, .string b] w fun e w' => e = .returned (.bool true) ∧ Below w.heap.size w w' := by
  have hsz : (a ++ b).size = a.size + b.size := ByteArray.size_append
  have ha47 : a.size ≤ 140737488351232 := by omega
  have hb47 : b.size ≤ 140737488351232 := by omega
  have hc47 : (a ++ b).size ≤ 140737488351232 := by omega
  have ha45 : a.size ≤ 35184372088832 := by omega
  have hb45 : b.size ≤ 35184372088832 := by omega
  have hc45 : (a ++ b).size ≤ 35184372088832 := by omega
  have hua := unescS_size a
  have hub := unescS_size b
  have hea := escS_size a
  have heb := escS_size b
  clear hsz
  have hp' : (0 : Int) < b.size := by omega
  have HE := Lib.hid he
  clear he
  go_enter Try.func8, Try.ntmps8
  go_wp2_with fail
  refine (shown_any _).mono ?_
  rintro e w1 ⟨rfl, hb1⟩
  go_wp2_with fail
  refine (Unescape_any _ ha47 _).mono ?_
  rintro e wA ⟨rfl, hbA⟩
  go_wp2_with fail
  refine (Unescape_any _ hb47 _).mono ?_
  rintro e wB ⟨rfl, hbB⟩
  go_wp2_with fail
  refine (Unescape_any _ hc47 _).mono ?_
  rintro e wC ⟨rfl, hbC⟩
  go_wp2_with fail
  refine (Escape_any _ hc45 _).mono ?_
  rintro e wD ⟨rfl, hbD⟩
  rw [HE.out]
  go_wp2_with fail
  refine (Escape_any _ ha45 _).mono ?_
  rintro e wE ⟨rfl, hbE⟩
  go_wp2_with fail
  refine (Escape_any _ hb45 _).mono ?_
  rintro e wF ⟨rfl, hbF⟩
  go_wp2_with fail
  go_ret
  exact ⟨rfl, more (more (more (more (more (more hb1 hbA) hbB) hbC) hbD) hbE) hbF⟩

set_option maxHeartbeats 2000000 in
theorem join_xe (a b : ByteArray) (ha : a.size ≤ 1048576) (hb : b.size ≤ 1048576) (hx : unescOk a = false) (hb0 : b.toList.isEmpty = true) (w : World) :
    Calls Try.prog 8 #[.string a, .string b] w fun e w' => e = .returned (.bool true) ∧ Below w.heap.size w w' := by
  have hsz : (a ++ b).size = a.size + b.size := ByteArray.size_append
  have ha47 : a.size ≤ 140737488351232 := by omega
  have hb47 : b.size ≤ 140737488351232 := by omega
  have hc47 : (a ++ b).size ≤ 140737488351232 := by omega
  have ha45 : a.size ≤ 35184372088832 := by omega
  have hb45 : b.size ≤ 35184372088832 := by omega
  have hc45 : (a ++ b).size ≤ 35184372088832 := by omega
  have hua := unescS_size a
  have hub := unescS_size b
  have hea := escS_size a
  have heb := escS_size b
  clear hsz
  go_enter Try.func8, Try.ntmps8
  go_wp2_with fail
  refine (shown_any _).mono ?_
  rintro e w1 ⟨rfl, hb1⟩
  go_wp2_with fail
  refine (Unescape_any _ ha47 _).mono ?_
  rintro e wA ⟨rfl, hbA⟩
  go_wp2_with fail
  refine (Unescape_any _ hb47 _).mono ?_
  rintro e wB ⟨rfl, hbB⟩
  go_wp2_with fail
  refine (Unescape_any _ hc47 _).mono ?_
  rintro e wC ⟨rfl, hbC⟩
  go_wp2_with fail
  go_ret
  exact ⟨rfl, more (more (more hb1 hbA) hbB) hbC⟩

set_option maxHeartbeats 2000000 in
theorem join_xp (a b : ByteArray) (ha : a.size ≤ 1048576) (hb : b.size ≤ 1048576) (hx : unescOk a = false) (hb0 : b.toList.isEmpty = false) (hp : 0 < b.size) (hp46 : ((b[0].toNat : Int) == 46) = true) (w : World) :
    Calls Try.prog 8 #[.string a, .string b] w fun e w' => e = .returned (.bool true) ∧ Below w.heap.size w w' := by
  have hsz : (a ++ b).size = a.size + b.size := ByteArray.size_append
  have ha47 : a.size ≤ 140737488351232 := by omega
  have hb47 : b.size ≤ 140737488351232 := by omega
  have hc47 : (a ++ b).size ≤ 140737488351232 := by omega
  have ha45 : a.size ≤ 35184372088832 := by omega
  have hb45 : b.size ≤ 35184372088832 := by omega
  have hc45 : (a ++ b).size ≤ 35184372088832 := by omega
  have hua := unescS_size a
  have hub := unescS_size b
  have hea := escS_size a
  have heb := escS_size b
  clear hsz
  have hp' : (0 : Int) < b.size := by omega
  go_enter Try.func8, Try.ntmps8
  go_wp2_with fail
  refine (shown_any _).mono ?_
  rintro e w1 ⟨rfl, hb1⟩
  go_wp2_with fail
  refine (Unescape_any _ ha47 _).mono ?_
  rintro e wA ⟨rfl, hbA⟩
  go_wp2_with fail
  refine (Unescape_any _ hb47 _).mono ?_
  rintro e wB ⟨rfl, hbB⟩
  go_wp2_with fail
  refine (Unescape_any _ hc47 _).mono ?_
  rintro e wC ⟨rfl, hbC⟩
  go_wp2_with fail
  go_ret
  exact ⟨rfl, more (more (more hb1 hbA) hbB) hbC⟩

set_option maxHeartbeats 2000000 in
theorem join_xo (a b : ByteArray) (ha : a.size ≤ 1048576) (hb : b.size ≤ 1048576) (hx : unescOk a = false) (hb0 : b.toList.isEmpty = false) (hp : 0 < b.size) (hp46 : ((b[0].toNat : Int) == 46) = false) (he : escS (a ++ b) = escS a ++ escS b) (w : World) :
    Calls Try.prog 8 #[.string a, .string b] w fun e w' => e = .returned (.bool true) ∧ Below w.heap.size w w' := by
  have hsz : (a ++ b).size = a.size + b.size := ByteArray.size_append
  have ha47 : a.size ≤ 140737488351232 := by omega
  have hb47 : b.size ≤ 140737488351232 := by omega
  have hc47 : (a ++ b).size ≤ 140737488351232 := by omega
  have ha45 : a.size ≤ 35184372088832 := by omega
  have hb45 : b.size ≤ 35184372088832 := by omega
  have hc45 : (a ++ b).size ≤ 35184372088832 := by omega
  have hua := unescS_size a
  have hub := unescS_size b
  have hea := escS_size a
  have heb := escS_size b
  clear hsz
  have hp' : (0 : Int) < b.size := by omega
  have HE := Lib.hid he
  clear he
  go_enter Try.func8, Try.ntmps8
  go_wp2_with fail
  refine (shown_any _).mono ?_
  rintro e w1 ⟨rfl, hb1⟩
  go_wp2_with fail
  refine (Unescape_any _ ha47 _).mono ?_
  rintro e wA ⟨rfl, hbA⟩
  go_wp2_with fail
  refine (Unescape_any _ hb47 _).mono ?_
  rintro e wB ⟨rfl, hbB⟩
  go_wp2_with fail
  refine (Unescape_any _ hc47 _).mono ?_
  rintro e wC ⟨rfl, hbC⟩
  go_wp2_with fail
  refine (Escape_any _ hc45 _).mono ?_
  rintro e wD ⟨rfl, hbD⟩
  rw [HE.out]
  go_wp2_with fail
  refine (Escape_any _ ha45 _).mono ?_
  rintro e wE ⟨rfl, hbE⟩
  go_wp2_with fail
  refine (Escape_any _ hb45 _).mono ?_
  rintro e wF ⟨rfl, hbF⟩
  go_wp2_with fail
  go_ret
  exact ⟨rfl, more (more (more (more (more (more hb1 hbA) hbB) hbC) hbD) hbE) hbF⟩

theorem NameJoin_walk (a b : ByteArray) (ha : a.size ≤ 1048576) (hb : b.size ≤ 1048576) (w : World) :
    Calls Try.prog 8 #[.string a, .string b] w fun e w' => e = .returned (.bool true) ∧ Below w.heap.size w w' := by
  rcases hb0 : b.toList.isEmpty with _ | _
  · have hne : b.data.toList ≠ [] := by rw [Lib.toList_data] at hb0; simpa using hb0
    have hp : 0 < b.size := by
      rw [Lib.size_eq]
      exact List.length_pos_iff.2 hne
    have hhead : b.data.toList.head? = some b[0] := by
      rw [List.head?_eq_getElem?, List.getElem?_eq_getElem (by rw [← Lib.size_eq]; exact hp)]
      rfl
    rcases hp46 : ((b[0].toNat : Int) == 46) with _ | _
    · have he : escS (a ++ b) = escS a ++ escS b := escS_app a b (by
        rw [hhead]
        intro e
        injection e with e
        rw [e] at hp46
        exact absurd hp46 (by decide))
      rcases hx : unescOk a with _ | _
      · exact join_xo a b ha hb hx hb0 hp hp46 he w
      · rcases hy : unescOk b with _ | _
        · exact join_no a b ha hb hx hy hb0 hp hp46 he w
        · exact join_yo a b ha hb hx hy hb0 hp hp46 he w
    · rcases hx : unescOk a with _ | _
      · exact join_xp a b ha hb hx hb0 hp hp46 w
      · rcases hy : unescOk b with _ | _
        · exact join_np a b ha hb hx hy hb0 hp hp46 w
        · exact join_yp a b ha hb hx hy hb0 hp hp46 w
  · rcases hx : unescOk a with _ | _
    · exact join_xe a b ha hb hx hb0 w
    · rcases hy : unescOk b with _ | _
      · exact join_ne a b ha hb hx hy hb0 w
      · exact join_ye a b ha hb hx hy hb0 w

namespace nameJoinUpto
theorem own : ownKnob Try.prog.godebug = none := by kernel_rfl

theorem contract (H : Type) (enc : TypeId × Value → H) (W : World) (base : Nat) (args : Array Value) (ds gs : List (DataW H)) (before : List MemPlace)
    (hval : ∀ (j : Nat) t v, Try.f8.params[j]? = some t → args[j]? = some v → Value.okWide Try.prog W .any base t v)
    (hW : DataW.Whole enc Try.prog Try.f8.params.toList Rows.nameJoinSpec.vars false W args.toList ds gs before) (hk : Rows.uptoSmall H (ds ++ gs) = true) :
    Calls Try.prog 8 args W fun e W' => ∃ v, e = .returned v ∧ Rows.nameJoinSpec.post enc Try.prog Try.f8 false true false false W args v W' := by
  have hW' := hW
  obtain ⟨p, q, hA0, hV, rfl, hfz, hnd⟩ := hW
  have hA : DataW.TrodAll enc Try.prog W 0 (fun _ => true) true Try.f8.params.toList args.toList ds p := hA0
  rw [Try.params8] at hA hval
  obtain ⟨v0, vs0, d0, ds0, p0, q0, hargs, rfl, rfl, h0, r0⟩ := trodAll_cons hA
  obtain ⟨v1, vs1, d1, ds1, p1, q1, rfl, rfl, rfl, h1, r1⟩ := trodAll_cons r0
  obtain ⟨rfl, rfl, rfl⟩ := trodAll_nil r1
  obtain rfl : args = #[v0, v1] := by cases args; simp_all
  obtain ⟨rfl, rfl⟩ := trodVars_none hV
  obtain ⟨a0, rfl, rfl, rfl, w0⟩ := open_string Try.underlying9 (hval 0 9 v0 rfl rfl) h0
  obtain ⟨a1, rfl, rfl, rfl, w1⟩ := open_string Try.underlying9 (hval 1 9 v1 rfl rfl) h1
  clear hA0
  simp only [List.append_nil] at hW' hk
  have hbulk : Rows.uptoBulkAll [DataW.lit (H := H) (.string a0.data.toList), DataW.lit (H := H) (.string a1.data.toList)] ≤ 1048576 := of_decide_eq_true hk
  simp only [Rows.uptoBulkAll, Rows.uptoBulk] at hbulk
  have z0 : a0.data.toList.length = a0.size := by rw [Array.length_toList]; rfl
  have z1 : a1.data.toList.length = a1.size := by rw [Array.length_toList]; rfl
  refine (NameJoin_walk a0 a1 (by omega) (by omega) W).mono fun e W' ⟨he, hg⟩ => ?_
  subst he
  exact ⟨_, rfl, post_below (pa := []) (pv := []) hW' (fun _ _ _ => trodAll_cons_mk (shut_bool Try.underlying4 _) trodAll_mk0) (fun _ _ => (trodAll_cons_mk (shut_string Try.underlying9 w0) (trodAll_cons_mk (shut_string Try.underlying9 w1) trodAll_mk0))) (fun _ _ => rfl) rfl
    hg (ok_one (by kernel_rfl) rfl (okWide_bool_mk Try.underlying4 _))⟩

set_option maxRecDepth 100000 in
theorem lifted (os : Os) (started : os.Started) (H : Type) (enc : TypeId × Value → H) (F : Stop.Interp) :
    ReturnsInHanded {} Try.checked os 8 .any ((Rows.OpenSpec.upto Rows.nameJoinSpec).pre6 enc Try.prog Try.f8 Rows.nameJoinUptoRow.domain false) (((Rows.OpenSpec.upto Rows.nameJoinSpec).at F).post enc Try.prog Try.f8 false true false false) := by
  refine returnsInHanded_of_cond (C := Try.checked) (s := Rows.OpenSpec.upto Rows.nameJoinSpec) (k := Rows.uptoSmall) rfl own started (by kernel_rfl) Try.func8
    (OpenSpec.witness (enc := enc) (C := Try.checked) (s := Rows.OpenSpec.upto Rows.nameJoinSpec) (k := Rows.uptoSmall) rfl false ⟨#[], #[.string .empty, .string .empty], []⟩ 8 (by kernel_rfl) (by kernel_rfl) (by kernel_rfl)
      (x := ([.lit (.string []), .lit (.string [])], [], [])) (by kernel_rfl) rfl (by kernel_rfl)) ?_
  intro W base args ds gs before hval hW _ hk _
  exact contract H enc W base args ds gs before hval hW hk

theorem proved : Rows.NameJoinUptoSaid :=
  OpenClaim.holds_of_cond 8 Try.f8 rfl rfl rfl rfl rfl rfl rfl ⟨rfl, rfl, rfl, rfl, rfl⟩ rfl rfl rfl rfl rfl (by kernel_rfl) Try.func8 (by kernel_rfl)
    (of_decide_eq_true (by kernel_rfl)) (by unfold Func.isWrapper; first | (rw [if_pos (by decide +kernel)]; kernel_rfl) | (rw [if_neg (by decide +kernel)]; exact ⟨rfl, rfl⟩))
    (fun os started H enc _ F => lifted os started H enc F)
end nameJoinUpto
end Go.Proofs.Ytkieghikbfhlnaa
