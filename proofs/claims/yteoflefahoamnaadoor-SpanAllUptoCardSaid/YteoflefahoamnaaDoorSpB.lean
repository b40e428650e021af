/- The units: the developers' seconds, the document's unit. -/
import Derived.Test.YteoflefahoamnaaDoorSpK
namespace Go.Proofs.YteoflefahoamnaaDoor
open Go.RowKit

def unitS (s : ByteArray) : Nat := unitL s.data.toList
theorem ne_beq {s : ByteArray} {l : List UInt8} (h : s ≠ str l) : (s.toList == l) = false := by
  have := beq_str s (str l)
  rw [Lib.toList_data (str l)] at this
  rw [show l = (str l).data.toList from rfl, this]
  simpa using h
theorem is_beq {s : ByteArray} {l : List UInt8} (h : s = str l) : (s.toList == l) = true := by
  have := beq_str s (str l)
  rw [Lib.toList_data (str l)] at this
  rw [show l = (str l).data.toList from rfl, this]
  simpa using h
theorem ne_empty {s : ByteArray} (h : s ≠ str []) : s.toList.isEmpty = false := by
  rw [isEmpty_iff]
  simpa [eq_str] using h
theorem is_empty {s : ByteArray} (h : s = str []) : s.toList.isEmpty = true := by
  rw [isEmpty_iff]
  simpa [eq_str] using h
theorem str_ne {a b : List UInt8} (h : a ≠ b) {s : ByteArray} (e : s = str a) : s ≠ str b := by
  rw [e]
  intro e2
  exact h (by have := congrArg (fun x : ByteArray => x.data.toList) e2; simpa [str] using this)

set_option maxHeartbeats 1000000 in
theorem seconds_any (s : ByteArray) (w : World) :
    Calls Tryd.prog 24 #[.string s] w fun e w' => e = .returned (.int .i64 (unitS s)) ∧ w = w' := by
  by_cases h0 : s = str []
  · have H := Lib.hid (show unitS s = 1 by rw [h0]; decide)
    have e0 := is_empty h0
    clear h0
    go_enter Tryd.func24, Tryd.ntmps24
    go_wp2
    go_ret
    exact ⟨ret_int (by rw [H.out]; rfl), rfl⟩
  by_cases h1 : s = str [115]
  · have H := Lib.hid (show unitS s = 1 by rw [h1]; decide)
    have e0 := ne_empty h0
    have e1 := is_beq h1
    clear h0 h1
    go_enter Tryd.func24, Tryd.ntmps24
    go_wp2
    go_ret
    exact ⟨ret_int (by rw [H.out]; rfl), rfl⟩
  by_cases h2 : s = str [115, 101, 99]
  · have H := Lib.hid (show unitS s = 1 by rw [h2]; decide)
    have e0 := ne_empty h0
    have e1 := ne_beq h1
    have e2 := is_beq h2
    clear h0 h1 h2
    go_enter Tryd.func24, Tryd.ntmps24
    go_wp2
    go_ret
    exact ⟨ret_int (by rw [H.out]; rfl), rfl⟩
  by_cases h3 : s = str [109]
  · have H := Lib.hid (show unitS s = 60 by rw [h3]; decide)
    have e0 := ne_empty h0
    have e1 := ne_beq h1
    have e2 := ne_beq h2
    have e3 := is_beq h3
    clear h0 h1 h2 h3
    go_enter Tryd.func24, Tryd.ntmps24
    go_wp2
    go_ret
    exact ⟨ret_int (by rw [H.out]; rfl), rfl⟩
  by_cases h4 : s = str [109, 105, 110]
  · have H := Lib.hid (show unitS s = 60 by rw [h4]; decide)
    have e0 := ne_empty h0
    have e1 := ne_beq h1
    have e2 := ne_beq h2
    have e3 := ne_beq h3
    have e4 := is_beq h4
    clear h0 h1 h2 h3 h4
    go_enter Tryd.func24, Tryd.ntmps24
    go_wp2
    go_ret
    exact ⟨ret_int (by rw [H.out]; rfl), rfl⟩
  by_cases h5 : s = str [104]
  · have H := Lib.hid (show unitS s = 3600 by rw [h5]; decide)
    have e0 := ne_empty h0
    have e1 := ne_beq h1
    have e2 := ne_beq h2
    have e3 := ne_beq h3
    have e4 := ne_beq h4
    have e5 := is_beq h5
    clear h0 h1 h2 h3 h4 h5
    go_enter Tryd.func24, Tryd.ntmps24
    go_wp2
    go_ret
    exact ⟨ret_int (by rw [H.out]; rfl), rfl⟩
  by_cases h6 : s = str [104, 114]
  · have H := Lib.hid (show unitS s = 3600 by rw [h6]; decide)
    have e0 := ne_empty h0
    have e1 := ne_beq h1
    have e2 := ne_beq h2
    have e3 := ne_beq h3
    have e4 := ne_beq h4
    have e5 := ne_beq h5
    have e6 := is_beq h6
    clear h0 h1 h2 h3 h4 h5 h6
    go_enter Tryd.func24, Tryd.ntmps24
    go_wp2
    go_ret
    exact ⟨ret_int (by rw [H.out]; rfl), rfl⟩
  by_cases h7 : s = str [100]
  · have H := Lib.hid (show unitS s = 86400 by rw [h7]; decide)
    have e0 := ne_empty h0
    have e1 := ne_beq h1
    have e2 := ne_beq h2
    have e3 := ne_beq h3
    have e4 := ne_beq h4
    have e5 := ne_beq h5
    have e6 := ne_beq h6
    have e7 := is_beq h7
    clear h0 h1 h2 h3 h4 h5 h6 h7
    go_enter Tryd.func24, Tryd.ntmps24
    go_wp2
    go_ret
    exact ⟨ret_int (by rw [H.out]; rfl), rfl⟩
  by_cases h8 : s = str [100, 97, 121]
  · have H := Lib.hid (show unitS s = 86400 by rw [h8]; decide)
    have e0 := ne_empty h0
    have e1 := ne_beq h1
    have e2 := ne_beq h2
    have e3 := ne_beq h3
    have e4 := ne_beq h4
    have e5 := ne_beq h5
    have e6 := ne_beq h6
    have e7 := ne_beq h7
    have e8 := is_beq h8
    clear h0 h1 h2 h3 h4 h5 h6 h7 h8
    go_enter Tryd.func24, Tryd.ntmps24
    go_wp2
    go_ret
    exact ⟨ret_int (by rw [H.out]; rfl), rfl⟩
  by_cases h9 : s = str [119]
  · have H := Lib.hid (show unitS s = 604800 by rw [h9]; decide)
    have e0 := ne_empty h0
    have e1 := ne_beq h1
    have e2 := ne_beq h2
    have e3 := ne_beq h3
    have e4 := ne_beq h4
    have e5 := ne_beq h5
    have e6 := ne_beq h6
    have e7 := ne_beq h7
    have e8 := ne_beq h8
    have e9 := is_beq h9
    clear h0 h1 h2 h3 h4 h5 h6 h7 h8 h9
    go_enter Tryd.func24, Tryd.ntmps24
    go_wp2
    go_ret
    exact ⟨ret_int (by rw [H.out]; rfl), rfl⟩
  by_cases h10 : s = str [119, 101, 101, 107]
  · have H := Lib.hid (show unitS s = 604800 by rw [h10]; decide)
    have e0 := ne_empty h0
    have e1 := ne_beq h1
    have e2 := ne_beq h2
    have e3 := ne_beq h3
    have e4 := ne_beq h4
    have e5 := ne_beq h5
    have e6 := ne_beq h6
    have e7 := ne_beq h7
    have e8 := ne_beq h8
    have e9 := ne_beq h9
    have e10 := is_beq h10
    clear h0 h1 h2 h3 h4 h5 h6 h7 h8 h9 h10
    go_enter Tryd.func24, Tryd.ntmps24
    go_wp2
    go_ret
    exact ⟨ret_int (by rw [H.out]; rfl), rfl⟩
  have H : Hid (unitS s = 0) := by
    unfold unitS unitL
    simp only [eq_str] at h0 h1 h2 h3 h4 h5 h6 h7 h8 h9 h10
    simp [Hid, h0, h1, h2, h3, h4, h5, h6, h7, h8, h9, h10]
  have e0 := ne_empty h0
  have e1 := ne_beq h1
  have e2 := ne_beq h2
  have e3 := ne_beq h3
  have e4 := ne_beq h4
  have e5 := ne_beq h5
  have e6 := ne_beq h6
  have e7 := ne_beq h7
  have e8 := ne_beq h8
  have e9 := ne_beq h9
  have e10 := ne_beq h10
  clear h0 h1 h2 h3 h4 h5 h6 h7 h8 h9 h10
  go_enter Tryd.func24, Tryd.ntmps24
  go_wp2
  go_ret
  exact ⟨ret_int (by rw [H.out]; rfl), rfl⟩

set_option maxHeartbeats 1000000 in
theorem runit_any (s : ByteArray) (w : World) :
    Calls Tryd.prog 18 #[.string s] w fun e w' => e = .returned (.int .i64 (unitS s)) ∧ w = w' := by
  by_cases h0 : s = str []
  · have H := Lib.hid (show unitS s = 1 by rw [h0]; decide)
    have e0 := is_empty h0
    clear h0
    go_enter Tryd.func18, Tryd.ntmps18
    go_wp2
    go_ret
    exact ⟨ret_int (by rw [H.out]; rfl), rfl⟩
  by_cases h1 : s = str [115]
  · have H := Lib.hid (show unitS s = 1 by rw [h1]; decide)
    have e0 := ne_empty h0
    have e1 := is_beq h1
    clear h0 h1
    go_enter Tryd.func18, Tryd.ntmps18
    go_wp2
    go_ret
    exact ⟨ret_int (by rw [H.out]; rfl), rfl⟩
  by_cases h2 : s = str [115, 101, 99]
  · have H := Lib.hid (show unitS s = 1 by rw [h2]; decide)
    have e0 := ne_empty h0
    have e1 := ne_beq h1
    have e2 := is_beq h2
    clear h0 h1 h2
    go_enter Tryd.func18, Tryd.ntmps18
    go_wp2
    go_ret
    exact ⟨ret_int (by rw [H.out]; rfl), rfl⟩
  by_cases h3 : s = str [109]
  · have H := Lib.hid (show unitS s = 60 by rw [h3]; decide)
    have e0 := ne_empty h0
    have e1 := ne_beq h1
    have e2 := ne_beq h2
    have e3 := is_beq h3
    clear h0 h1 h2 h3
    go_enter Tryd.func18, Tryd.ntmps18
    go_wp2
    go_ret
    exact ⟨ret_int (by rw [H.out]; rfl), rfl⟩
  by_cases h4 : s = str [109, 105, 110]
  · have H := Lib.hid (show unitS s = 60 by rw [h4]; decide)
    have e0 := ne_empty h0
    have e1 := ne_beq h1
    have e2 := ne_beq h2
    have e3 := ne_beq h3
    have e4 := is_beq h4
    clear h0 h1 h2 h3 h4
    go_enter Tryd.func18, Tryd.ntmps18
    go_wp2
    go_ret
    exact ⟨ret_int (by rw [H.out]; rfl), rfl⟩
  by_cases h5 : s = str [104]
  · have H := Lib.hid (show unitS s = 3600 by rw [h5]; decide)
    have e0 := ne_empty h0
    have e1 := ne_beq h1
    have e2 := ne_beq h2
    have e3 := ne_beq h3
    have e4 := ne_beq h4
    have e5 := is_beq h5
    clear h0 h1 h2 h3 h4 h5
    go_enter Tryd.func18, Tryd.ntmps18
    go_wp2
    go_ret
    exact ⟨ret_int (by rw [H.out]; rfl), rfl⟩
  by_cases h6 : s = str [104, 114]
  · have H := Lib.hid (show unitS s = 3600 by rw [h6]; decide)
    have e0 := ne_empty h0
    have e1 := ne_beq h1
    have e2 := ne_beq h2
    have e3 := ne_beq h3
    have e4 := ne_beq h4
    have e5 := ne_beq h5
    have e6 := is_beq h6
    clear h0 h1 h2 h3 h4 h5 h6
    go_enter Tryd.func18, Tryd.ntmps18
    go_wp2
    go_ret
    exact ⟨ret_int (by rw [H.out]; rfl), rfl⟩
  by_cases h7 : s = str [100]
  · have H := Lib.hid (show unitS s = 86400 by rw [h7]; decide)
    have e0 := ne_empty h0
    have e1 := ne_beq h1
    have e2 := ne_beq h2
    have e3 := ne_beq h3
    have e4 := ne_beq h4
    have e5 := ne_beq h5
    have e6 := ne_beq h6
    have e7 := is_beq h7
    clear h0 h1 h2 h3 h4 h5 h6 h7
    go_enter Tryd.func18, Tryd.ntmps18
    go_wp2
    go_ret
    exact ⟨ret_int (by rw [H.out]; rfl), rfl⟩
  by_cases h8 : s = str [100, 97, 121]
  · have H := Lib.hid (show unitS s = 86400 by rw [h8]; decide)
    have e0 := ne_empty h0
    have e1 := ne_beq h1
    have e2 := ne_beq h2
    have e3 := ne_beq h3
    have e4 := ne_beq h4
    have e5 := ne_beq h5
    have e6 := ne_beq h6
    have e7 := ne_beq h7
    have e8 := is_beq h8
    clear h0 h1 h2 h3 h4 h5 h6 h7 h8
    go_enter Tryd.func18, Tryd.ntmps18
    go_wp2
    go_ret
    exact ⟨ret_int (by rw [H.out]; rfl), rfl⟩
  by_cases h9 : s = str [119]
  · have H := Lib.hid (show unitS s = 604800 by rw [h9]; decide)
    have e0 := ne_empty h0
    have e1 := ne_beq h1
    have e2 := ne_beq h2
    have e3 := ne_beq h3
    have e4 := ne_beq h4
    have e5 := ne_beq h5
    have e6 := ne_beq h6
    have e7 := ne_beq h7
    have e8 := ne_beq h8
    have e9 := is_beq h9
    clear h0 h1 h2 h3 h4 h5 h6 h7 h8 h9
    go_enter Tryd.func18, Tryd.ntmps18
    go_wp2
    go_ret
    exact ⟨ret_int (by rw [H.out]; rfl), rfl⟩
  by_cases h10 : s = str [119, 101, 101, 107]
  · have H := Lib.hid (show unitS s = 604800 by rw [h10]; decide)
    have e0 := ne_empty h0
    have e1 := ne_beq h1
    have e2 := ne_beq h2
    have e3 := ne_beq h3
    have e4 := ne_beq h4
    have e5 := ne_beq h5
    have e6 := ne_beq h6
    have e7 := ne_beq h7
    have e8 := ne_beq h8
    have e9 := ne_beq h9
    have e10 := is_beq h10
    clear h0 h1 h2 h3 h4 h5 h6 h7 h8 h9 h10
    go_enter Tryd.func18, Tryd.ntmps18
    go_wp2
    go_ret
    exact ⟨ret_int (by rw [H.out]; rfl), rfl⟩
  have H : Hid (unitS s = 0) := by
    unfold unitS unitL
    simp only [eq_str] at h0 h1 h2 h3 h4 h5 h6 h7 h8 h9 h10
    simp [Hid, h0, h1, h2, h3, h4, h5, h6, h7, h8, h9, h10]
  have e0 := ne_empty h0
  have e1 := ne_beq h1
  have e2 := ne_beq h2
  have e3 := ne_beq h3
  have e4 := ne_beq h4
  have e5 := ne_beq h5
  have e6 := ne_beq h6
  have e7 := ne_beq h7
  have e8 := ne_beq h8
  have e9 := ne_beq h9
  have e10 := ne_beq h10
  clear h0 h1 h2 h3 h4 h5 h6 h7 h8 h9 h10
  go_enter Tryd.func18, Tryd.ntmps18
  go_wp2
  go_ret
  exact ⟨ret_int (by rw [H.out]; rfl), rfl⟩
end Go.Proofs.YteoflefahoamnaaDoor
