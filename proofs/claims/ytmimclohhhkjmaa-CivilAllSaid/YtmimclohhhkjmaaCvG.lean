/- The document's To. -/
import Derived.Test.YtmimclohhhkjmaaCvG1
import Derived.Test.YtmimclohhhkjmaaCvG2
import Derived.Test.YtmimclohhhkjmaaCvG3
import Derived.Test.YtmimclohhhkjmaaCvG4
namespace Go.Proofs.Ytmimclohhhkjmaa
open Go.RowKit

theorem rTo_no (y m d hh mi ss wd : Int) (h : toOk y m d hh mi ss = false) (w : World) :
    Calls Try.prog 12 #[.agg #[.int .i64 y, .int .i64 m, .int .i64 d, .int .i64 hh, .int .i64 mi, .int .i64 ss, .int .i64 wd]] w fun e w' => e = .returned (.tuple #[.int .i64 0, .bool false]) ∧ Below w.heap.size w w' := by
  have h := toOk_no h
  by_cases c0 : y < 2000
  · exact rTo_no0 y m d hh mi ss wd  (decide_eq_true c0) w
  by_cases c1 : 2199 < y
  · exact rTo_no1 y m d hh mi ss wd (decide_eq_false c0) (decide_eq_true c1) w
  by_cases c2 : m < 1
  · exact rTo_no2 y m d hh mi ss wd (decide_eq_false c0) (decide_eq_false c1) (decide_eq_true c2) w
  by_cases c3 : 12 < m
  · exact rTo_no3 y m d hh mi ss wd (decide_eq_false c0) (decide_eq_false c1) (decide_eq_false c2) (decide_eq_true c3) w
  by_cases c4 : d < 1
  · exact rTo_no4 y m d hh mi ss wd (decide_eq_false c0) (decide_eq_false c1) (decide_eq_false c2) (decide_eq_false c3) (decide_eq_true c4) w
  by_cases c5 : dim y m < d
  · exact rTo_no5 y m d hh mi ss wd (decide_eq_false c0) (decide_eq_false c1) (decide_eq_false c2) (decide_eq_false c3) (decide_eq_false c4) (decide_eq_true c5) w
  by_cases c6 : hh < 0
  · exact rTo_no6 y m d hh mi ss wd (decide_eq_false c0) (decide_eq_false c1) (decide_eq_false c2) (decide_eq_false c3) (decide_eq_false c4) (decide_eq_false c5) (decide_eq_true c6) w
  by_cases c7 : 23 < hh
  · exact rTo_no7 y m d hh mi ss wd (decide_eq_false c0) (decide_eq_false c1) (decide_eq_false c2) (decide_eq_false c3) (decide_eq_false c4) (decide_eq_false c5) (decide_eq_false c6) (decide_eq_true c7) w
  by_cases c8 : mi < 0
  · exact rTo_no8 y m d hh mi ss wd (decide_eq_false c0) (decide_eq_false c1) (decide_eq_false c2) (decide_eq_false c3) (decide_eq_false c4) (decide_eq_false c5) (decide_eq_false c6) (decide_eq_false c7) (decide_eq_true c8) w
  by_cases c9 : 59 < mi
  · exact rTo_no9 y m d hh mi ss wd (decide_eq_false c0) (decide_eq_false c1) (decide_eq_false c2) (decide_eq_false c3) (decide_eq_false c4) (decide_eq_false c5) (decide_eq_false c6) (decide_eq_false c7) (decide_eq_false c8) (decide_eq_true c9) w
  by_cases c10 : ss < 0
  · exact rTo_no10 y m d hh mi ss wd (decide_eq_false c0) (decide_eq_false c1) (decide_eq_false c2) (decide_eq_false c3) (decide_eq_false c4) (decide_eq_false c5) (decide_eq_false c6) (decide_eq_false c7) (decide_eq_false c8) (decide_eq_false c9) (decide_eq_true c10) w
  by_cases c11 : 59 < ss
  · exact rTo_no11 y m d hh mi ss wd (decide_eq_false c0) (decide_eq_false c1) (decide_eq_false c2) (decide_eq_false c3) (decide_eq_false c4) (decide_eq_false c5) (decide_eq_false c6) (decide_eq_false c7) (decide_eq_false c8) (decide_eq_false c9) (decide_eq_false c10) (decide_eq_true c11) w
  exfalso
  omega

theorem rTo_any (y m d hh mi ss wd : Int) (w : World) :
    Calls Try.prog 12 #[.agg #[.int .i64 y, .int .i64 m, .int .i64 d, .int .i64 hh, .int .i64 mi, .int .i64 ss, .int .i64 wd]] w fun e w' => e = .returned (.tuple #[.int .i64 (toN y m d hh mi ss), .bool (toOk y m d hh mi ss)]) ∧ Below w.heap.size w w' := by
  rcases h : toOk y m d hh mi ss with _ | _
  · rw [to_no h]; exact rTo_no y m d hh mi ss wd h w
  · exact rTo_yes _ y m d hh mi ss wd _ (to_date h) w
end Go.Proofs.Ytmimclohhhkjmaa
