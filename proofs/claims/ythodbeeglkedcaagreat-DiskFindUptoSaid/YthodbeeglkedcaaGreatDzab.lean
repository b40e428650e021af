/- Spans on plain lists of bytes: words, their sum, the written form, and that what is written is read as it was. It speaks -/
namespace Go.Proofs.YthodbeeglkedcaaGreat
def isDig (c : UInt8) : Bool := decide (48 ≤ c.toNat) && decide (c.toNat ≤ 57)
def unitL (s : List UInt8) : Nat :=
  if s = [] ∨ s = [115] ∨ s = [115, 101, 99] then 1
  else if s = [109] ∨ s = [109, 105, 110] then 60
  else if s = [104] ∨ s = [104, 114] then 3600
  else if s = [100] ∨ s = [100, 97, 121] then 86400
  else if s = [119] ∨ s = [119, 101, 101, 107] then 604800
  else 0
def valL (l : List UInt8) : Nat := l.foldl (fun n c => 10 * n + (c.toNat - 48)) 0
def wordV (w : List UInt8) : Option Nat :=
  if w.takeWhile isDig = [] ∨ 10 < (w.takeWhile isDig).length ∨ unitL (w.dropWhile isDig) = 0 then none
  else some (valL (w.takeWhile isDig) * unitL (w.dropWhile isDig))
def good (ws : List (List UInt8)) : Prop := ∀ w ∈ ws, (wordV w).isSome = true
end Go.Proofs.YthodbeeglkedcaaGreat
