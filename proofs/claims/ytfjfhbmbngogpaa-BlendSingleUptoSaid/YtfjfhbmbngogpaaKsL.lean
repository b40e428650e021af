/- The table of the keys, on plain lists: what a section has, what a name finds, what a kind may have. It speaks of no code. -/
import Derived.Below
namespace Go.Proofs.Ytfjfhbmbngogpaa

/-- A key as plain data. -/
structure Ky where
  s : List UInt8
  n : List UInt8
  f : Int
  l : Bool
  k : Int
  w : List (List UInt8)
deriving DecidableEq
/-- The same key of a section, for kinds. -/
def Ky.into (s : List UInt8) (k : Int) (x : Ky) : Ky := ⟨s, x.n, x.f, x.l, k, x.w⟩
/-- No key. -/
def noKy : Ky := ⟨[], [], 0, false, 0, []⟩
def nUnit : List UInt8 := [85, 110, 105, 116]
def tUnit : List Ky := [⟨[], [68, 101, 115, 99, 114, 105, 112, 116, 105, 111, 110], 1, false, 0, []⟩,
  ⟨[], [68, 101, 102, 97, 117, 108, 116, 68, 101, 112, 101, 110, 100, 101, 110, 99, 105, 101, 115], 2, false, 0, []⟩,
  ⟨[], [82, 101, 113, 117, 105, 114, 101, 115], 6, true, 0, []⟩,
  ⟨[], [87, 97, 110, 116, 115], 6, true, 0, []⟩,
  ⟨[], [82, 101, 113, 117, 105, 115, 105, 116, 101], 6, true, 0, []⟩,
  ⟨[], [66, 105, 110, 100, 115, 84, 111], 6, true, 0, []⟩,
  ⟨[], [80, 97, 114, 116, 79, 102], 6, true, 0, []⟩,
  ⟨[], [67, 111, 110, 102, 108, 105, 99, 116, 115], 6, true, 0, []⟩,
  ⟨[], [66, 101, 102, 111, 114, 101], 6, true, 0, []⟩,
  ⟨[], [65, 102, 116, 101, 114], 6, true, 0, []⟩,
  ⟨[], [79, 110, 70, 97, 105, 108, 117, 114, 101], 6, true, 0, []⟩,
  ⟨[], [83, 116, 97, 114, 116, 76, 105, 109, 105, 116, 73, 110, 116, 101, 114, 118, 97, 108, 83, 101, 99], 4, false, 0, []⟩,
  ⟨[], [83, 116, 97, 114, 116, 76, 105, 109, 105, 116, 66, 117, 114, 115, 116], 3, false, 0, []⟩]
def uUnit : List Ky := tUnit.map (Ky.into nUnit 30)
def nServ : List UInt8 := [83, 101, 114, 118, 105, 99, 101]
def tServ : List Ky := [⟨[], [84, 121, 112, 101], 10, false, 0, [[115, 105, 109, 112, 108, 101], [111, 110, 101, 115, 104, 111, 116], [110, 111, 116, 105, 102, 121]]⟩,
  ⟨[], [69, 120, 101, 99, 83, 116, 97, 114, 116, 80, 114, 101], 7, true, 0, []⟩,
  ⟨[], [69, 120, 101, 99, 83, 116, 97, 114, 116], 7, true, 0, []⟩,
  ⟨[], [69, 120, 101, 99, 83, 116, 97, 114, 116, 80, 111, 115, 116], 7, true, 0, []⟩,
  ⟨[], [69, 120, 101, 99, 83, 116, 111, 112], 7, true, 0, []⟩,
  ⟨[], [69, 120, 101, 99, 82, 101, 108, 111, 97, 100], 7, true, 0, []⟩,
  ⟨[], [82, 101, 109, 97, 105, 110, 65, 102, 116, 101, 114, 69, 120, 105, 116], 2, false, 0, []⟩,
  ⟨[], [82, 101, 115, 116, 97, 114, 116], 10, false, 0, [[110, 111], [111, 110, 45, 115, 117, 99, 99, 101, 115, 115], [111, 110, 45, 102, 97, 105, 108, 117, 114, 101], [111, 110, 45, 97, 98, 110, 111, 114, 109, 97, 108], [97, 108, 119, 97, 121, 115]]⟩,
  ⟨[], [82, 101, 115, 116, 97, 114, 116, 83, 101, 99], 4, false, 0, []⟩,
  ⟨[], [84, 105, 109, 101, 111, 117, 116, 83, 116, 97, 114, 116, 83, 101, 99], 4, false, 0, []⟩,
  ⟨[], [84, 105, 109, 101, 111, 117, 116, 83, 116, 111, 112, 83, 101, 99], 4, false, 0, []⟩,
  ⟨[], [83, 117, 99, 99, 101, 115, 115, 69, 120, 105, 116, 83, 116, 97, 116, 117, 115], 11, true, 0, []⟩,
  ⟨[], [69, 110, 118, 105, 114, 111, 110, 109, 101, 110, 116], 8, true, 0, []⟩,
  ⟨[], [83, 111, 99, 107, 101, 116, 115], 6, true, 0, []⟩]
def uServ : List Ky := tServ.map (Ky.into nServ 2)
def nSock : List UInt8 := [83, 111, 99, 107, 101, 116]
def tSock : List Ky := [⟨[], [76, 105, 115, 116, 101, 110, 83, 116, 114, 101, 97, 109], 11, true, 0, []⟩,
  ⟨[], [66, 97, 99, 107, 108, 111, 103], 3, false, 0, []⟩,
  ⟨[], [70, 105, 108, 101, 68, 101, 115, 99, 114, 105, 112, 116, 111, 114, 78, 97, 109, 101], 1, false, 0, []⟩,
  ⟨[], [83, 101, 114, 118, 105, 99, 101], 5, false, 0, []⟩]
def uSock : List Ky := tSock.map (Ky.into nSock 4)
def nTime : List UInt8 := [84, 105, 109, 101, 114]
def tTime : List Ky := [⟨[], [79, 110, 66, 111, 111, 116, 83, 101, 99], 4, true, 0, []⟩,
  ⟨[], [79, 110, 65, 99, 116, 105, 118, 101, 83, 101, 99], 4, true, 0, []⟩,
  ⟨[], [79, 110, 85, 110, 105, 116, 73, 110, 97, 99, 116, 105, 118, 101, 83, 101, 99], 4, true, 0, []⟩,
  ⟨[], [79, 110, 67, 97, 108, 101, 110, 100, 97, 114], 9, true, 0, []⟩,
  ⟨[], [80, 101, 114, 115, 105, 115, 116, 101, 110, 116], 2, false, 0, []⟩,
  ⟨[], [85, 110, 105, 116], 5, false, 0, []⟩]
def uTime : List Ky := tTime.map (Ky.into nTime 8)
def nInst : List UInt8 := [73, 110, 115, 116, 97, 108, 108]
def tInst : List Ky := [⟨[], [87, 97, 110, 116, 101, 100, 66, 121], 6, true, 0, []⟩,
  ⟨[], [82, 101, 113, 117, 105, 114, 101, 100, 66, 121], 6, true, 0, []⟩,
  ⟨[], [65, 108, 105, 97, 115], 6, true, 0, []⟩,
  ⟨[], [65, 108, 115, 111], 6, true, 0, []⟩,
  ⟨[], [68, 101, 102, 97, 117, 108, 116, 73, 110, 115, 116, 97, 110, 99, 101], 1, false, 0, []⟩]
def uInst : List Ky := tInst.map (Ky.into nInst 30)
/-- The keys of a section. -/
def keysT (s : List UInt8) : List Ky :=
  if s = nUnit then uUnit else if s = nServ then uServ else if s = nSock then uSock else if s = nTime then uTime else if s = nInst then uInst else []
/-- All keys. -/
def allT : List Ky := uUnit ++ uServ ++ uSock ++ uTime ++ uInst
/-- The first key of a name. -/
def namedT (l : List Ky) (n : List UInt8) : Option Ky := l.find? fun x => decide (x.n = n)
def findT (s n : List UInt8) : Option Ky := namedT (keysT s) n
/-- The document's search: through all keys. -/
def findD (s n : List UInt8) : Option Ky := allT.find? fun x => decide (x.s = s) && decide (x.n = n)
theorem find_in (s sec n : List UInt8) (k : Int) (l : List Ky) : ((l.map (Ky.into sec k)).find? fun x => decide (x.s = s) && decide (x.n = n)) = if s = sec then namedT (l.map (Ky.into sec k)) n else none := by
  by_cases h : s = sec
  · rw [if_pos h]
    unfold namedT
    subst h
    induction l with
    | nil => rfl
    | cons x l ih =>
      rw [List.map_cons, List.find?_cons, List.find?_cons, ih]
      have : (Ky.into s k x).s = s := rfl
      simp [this]
  · rw [if_neg h]
    induction l with
    | nil => rfl
    | cons x l ih =>
      rw [List.map_cons, List.find?_cons, ih]
      have : (Ky.into sec k x).s = sec := rfl
      have h2 : ¬ sec = s := fun e => h e.symm
      simp [this, h2]
theorem findD_T (s n : List UInt8) : findD s n = findT s n := by
  have e : allT = tUnit.map (Ky.into nUnit 30) ++ tServ.map (Ky.into nServ 2) ++ tSock.map (Ky.into nSock 4) ++ tTime.map (Ky.into nTime 8) ++ tInst.map (Ky.into nInst 30) := rfl
  unfold findD
  rw [e]
  simp only [List.find?_append, find_in]
  unfold findT keysT
  by_cases h1 : s = nUnit
  · subst h1
    rw [if_pos rfl, if_pos rfl, if_neg (by decide), if_neg (by decide), if_neg (by decide), if_neg (by decide)]
    simp only [Option.or_none]
    rfl
  rw [if_neg h1, if_neg h1]
  by_cases h2 : s = nServ
  · subst h2
    rw [if_pos rfl, if_pos rfl, if_neg (by decide), if_neg (by decide), if_neg (by decide)]
    simp only [Option.or_none, Option.none_or]
    rfl
  rw [if_neg h2, if_neg h2]
  by_cases h3 : s = nSock
  · subst h3
    rw [if_pos rfl, if_pos rfl, if_neg (by decide), if_neg (by decide)]
    simp only [Option.or_none, Option.none_or]
    rfl
  rw [if_neg h3, if_neg h3]
  by_cases h4 : s = nTime
  · subst h4
    rw [if_pos rfl, if_pos rfl, if_neg (by decide)]
    simp only [Option.or_none, Option.none_or]
    rfl
  rw [if_neg h4, if_neg h4]
  by_cases h5 : s = nInst
  · subst h5
    rw [if_pos rfl, if_pos rfl]
    simp only [Option.none_or]
    rfl
  rw [if_neg h5, if_neg h5]
  rfl
/-- Is a key for units of a kind? -/
def isForK (k kind : Int) : Bool := decide (0 ≤ kind) && k.toNat.testBit (min kind.toNat 64)
def isForT (x : Ky) (kind : Int) : Bool := isForK x.k kind
theorem keysT_k (s : List UInt8) : ∀ x ∈ keysT s, x.k ∈ ([2, 4, 8, 30] : List Int) := by
  unfold keysT
  repeat' split
  all_goals decide
def oftenT (s : List UInt8) (kind : Int) : Bool := (keysT s).any fun x => isForT x kind
theorem keysT_len (s : List UInt8) : (keysT s).length ≤ 14 := by
  unfold keysT
  repeat' split
  all_goals decide
theorem allT_len : allT.length = 42 := by decide
theorem shown_find : ∃ x, findT nServ [84, 121, 112, 101] = some x ∧ x.f = 10 ∧ x.l = false ∧ x.w = [[115, 105, 109, 112, 108, 101], [111, 110, 101, 115, 104, 111, 116], [110, 111, 116, 105, 102, 121]] := by
  exact ⟨_, rfl, rfl, rfl, rfl⟩
end Go.Proofs.Ytfjfhbmbngogpaa
