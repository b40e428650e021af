/-
  No cell of these rows narrows 'for every input' (looked for: loops, veiled, ifaces, maps, wideKeys, modest, calm, conditions, laid).
  DERIVED. THE GIVEN ROWS OF THIS SEAT. 6 by the template 'for every input the law returns true; each argument reads behind the call as it read before'; 0 by the template 'total and deterministic' (their statements: YtcoepioahabbdaaGreatTotals.lean).
  GIVEN WITH THE SEED: the statements are not yours to turn. If you find one false, say at which input.
  Laid BY PROGRAM, IN A SANDBOX (cutbox-rows.mjs): the forced cells as the released guide's own fill.sh prints them over the translation cff71a392136c3f9… (all of the seat's roots in one cut). By AI agents, Wed Nov 11 2026. No macro, syntax, notation, axiom, sorry.
-/
import Derived.Test.YtcoepioahabbdaaGreatChecked
import GoSem.Claim
import GoSem.ClaimJoined
import GoSem.ClaimMapViews
import Derived.JoinedTies
import Derived.KernelRfl
namespace Go.Proofs.YtcoepioahabbdaaGreat
/- THE CELL 'sum', in the pinned program and in every row, IS THE sha256 OF THE DUMP (.gsa) THAT YtcoepioahabbdaaGreatProg.lean LOADS. Nothing in Lean hashes anything: it is a label: what it is worth is what the hold of that sum in a sandbox is worth. -/
noncomputable def Tryz.pinned : Pinned := { name := "ytcoepioahabbdaagreat", sum := "cff71a392136c3f9db63c1d1a3f1c67ea8c0cf48e5ffbe037abc6d131db947cb", checked := Tryz.checked }
namespace Rows
def none {H : Type} : Left H := { results := [], args := [] }

/-- 'matinslaw15.GraphOf': WHATEVER THE INPUT: true; the input reads as it did. -/
def graphOfSpec : ChangeSpec := { name := "graphOf", fn := fun _ => fun
  | [d] => { results := [.lit (.bool true)], args := [d] }
  | _ => none }
def graphOfRow : OpenClaim := { program := "ytcoepioahabbdaagreat", sum := "cff71a392136c3f9db63c1d1a3f1c67ea8c0cf48e5ffbe037abc6d131db947cb", func := "matins/matinslaw15.GraphOf", spec := "graphOf", inPlace := ["internal/bytealg.IndexByteString", "internal/bytealg.IndexString", "internal/bytealg.abigen_runtime_cmpstring", "slices.overlaps[matins/api.Loaded]"], unfollowed := true, recurses := true, named := ["internal/bytealg.MaxLen"], apart := false }
def GraphOfSaid : Prop := graphOfRow.holds Tryz.pinned (OpenSpec.ofChange graphOfSpec)

/-- ITS FALSE NEIGHBOUR: 'it returns false'. Refute it at one input. -/
def graphOfWrong : ChangeSpec := { name := "graphOf", fn := fun _ => fun
  | [d] => { results := [.lit (.bool false)], args := [d] }
  | _ => none }
def GraphOfWrongFalsely : Prop := graphOfRow.holds Tryz.pinned (OpenSpec.ofChange graphOfWrong)

/-- 'matinslaw15.GraphAsks': WHATEVER THE INPUT: true; the input reads as it did. -/
def graphAsksSpec : ChangeSpec := { name := "graphAsks", fn := fun _ => fun
  | [d1, d2, d3] => { results := [.lit (.bool true)], args := [d1, d2, d3] }
  | _ => none }
def graphAsksRow : OpenClaim := { program := "ytcoepioahabbdaagreat", sum := "cff71a392136c3f9db63c1d1a3f1c67ea8c0cf48e5ffbe037abc6d131db947cb", func := "matins/matinslaw15.GraphAsks", spec := "graphAsks", inPlace := ["internal/bytealg.IndexByteString", "internal/bytealg.IndexString", "internal/bytealg.abigen_runtime_cmpstring", "slices.overlaps[matins/api.Loaded]"], unfollowed := true, recurses := true, named := ["internal/bytealg.MaxLen"], apart := false }
def GraphAsksSaid : Prop := graphAsksRow.holds Tryz.pinned (OpenSpec.ofChange graphAsksSpec)

/-- ITS FALSE NEIGHBOUR: 'it returns false'. Refute it at one input. -/
def graphAsksWrong : ChangeSpec := { name := "graphAsks", fn := fun _ => fun
  | [d1, d2, d3] => { results := [.lit (.bool false)], args := [d1, d2, d3] }
  | _ => none }
def GraphAsksWrongFalsely : Prop := graphAsksRow.holds Tryz.pinned (OpenSpec.ofChange graphAsksWrong)

/-- 'matinslaw15.GraphMirror': WHATEVER THE INPUT: true; the input reads as it did. -/
def graphMirrorSpec : ChangeSpec := { name := "graphMirror", fn := fun _ => fun
  | [d1, d2] => { results := [.lit (.bool true)], args := [d1, d2] }
  | _ => none }
def graphMirrorRow : OpenClaim := { program := "ytcoepioahabbdaagreat", sum := "cff71a392136c3f9db63c1d1a3f1c67ea8c0cf48e5ffbe037abc6d131db947cb", func := "matins/matinslaw15.GraphMirror", spec := "graphMirror", inPlace := ["internal/bytealg.IndexByteString", "internal/bytealg.IndexString", "internal/bytealg.abigen_runtime_cmpstring", "slices.overlaps[matins/api.Loaded]"], unfollowed := true, recurses := true, named := ["internal/bytealg.MaxLen"], apart := false }
def GraphMirrorSaid : Prop := graphMirrorRow.holds Tryz.pinned (OpenSpec.ofChange graphMirrorSpec)

/-- ITS FALSE NEIGHBOUR: 'it returns false'. Refute it at one input. -/
def graphMirrorWrong : ChangeSpec := { name := "graphMirror", fn := fun _ => fun
  | [d1, d2] => { results := [.lit (.bool false)], args := [d1, d2] }
  | _ => none }
def GraphMirrorWrongFalsely : Prop := graphMirrorRow.holds Tryz.pinned (OpenSpec.ofChange graphMirrorWrong)

/-- 'matinslaw15.GraphOwn': WHATEVER THE INPUT: true; the input reads as it did. -/
def graphOwnSpec : ChangeSpec := { name := "graphOwn", fn := fun _ => fun
  | [d] => { results := [.lit (.bool true)], args := [d] }
  | _ => none }
def graphOwnRow : OpenClaim := { program := "ytcoepioahabbdaagreat", sum := "cff71a392136c3f9db63c1d1a3f1c67ea8c0cf48e5ffbe037abc6d131db947cb", func := "matins/matinslaw15.GraphOwn", spec := "graphOwn", inPlace := ["internal/bytealg.IndexByteString", "internal/bytealg.IndexString", "internal/bytealg.abigen_runtime_cmpstring", "slices.overlaps[matins/api.Loaded]"], unfollowed := true, recurses := true, named := ["internal/bytealg.MaxLen"], apart := false }
def GraphOwnSaid : Prop := graphOwnRow.holds Tryz.pinned (OpenSpec.ofChange graphOwnSpec)

/-- ITS FALSE NEIGHBOUR: 'it returns false'. Refute it at one input. -/
def graphOwnWrong : ChangeSpec := { name := "graphOwn", fn := fun _ => fun
  | [d] => { results := [.lit (.bool false)], args := [d] }
  | _ => none }
def GraphOwnWrongFalsely : Prop := graphOwnRow.holds Tryz.pinned (OpenSpec.ofChange graphOwnWrong)

/-- 'matinslaw15.GraphDefault': WHATEVER THE INPUT: true; the input reads as it did. -/
def graphDefaultSpec : ChangeSpec := { name := "graphDefault", fn := fun _ => fun
  | [d1, d2] => { results := [.lit (.bool true)], args := [d1, d2] }
  | _ => none }
def graphDefaultRow : OpenClaim := { program := "ytcoepioahabbdaagreat", sum := "cff71a392136c3f9db63c1d1a3f1c67ea8c0cf48e5ffbe037abc6d131db947cb", func := "matins/matinslaw15.GraphDefault", spec := "graphDefault", inPlace := ["internal/bytealg.IndexByteString", "internal/bytealg.IndexString", "internal/bytealg.abigen_runtime_cmpstring", "slices.overlaps[matins/api.Loaded]"], unfollowed := true, recurses := true, named := ["internal/bytealg.MaxLen"], apart := false }
def GraphDefaultSaid : Prop := graphDefaultRow.holds Tryz.pinned (OpenSpec.ofChange graphDefaultSpec)

/-- ITS FALSE NEIGHBOUR: 'it returns false'. Refute it at one input. -/
def graphDefaultWrong : ChangeSpec := { name := "graphDefault", fn := fun _ => fun
  | [d1, d2] => { results := [.lit (.bool false)], args := [d1, d2] }
  | _ => none }
def GraphDefaultWrongFalsely : Prop := graphDefaultRow.holds Tryz.pinned (OpenSpec.ofChange graphDefaultWrong)

/-- 'matinslaw15.GraphWakes': WHATEVER THE INPUT: true; the input reads as it did. -/
def graphWakesSpec : ChangeSpec := { name := "graphWakes", fn := fun _ => fun
  | [d1, d2] => { results := [.lit (.bool true)], args := [d1, d2] }
  | _ => none }
def graphWakesRow : OpenClaim := { program := "ytcoepioahabbdaagreat", sum := "cff71a392136c3f9db63c1d1a3f1c67ea8c0cf48e5ffbe037abc6d131db947cb", func := "matins/matinslaw15.GraphWakes", spec := "graphWakes", inPlace := ["internal/bytealg.IndexByteString", "internal/bytealg.IndexString", "internal/bytealg.abigen_runtime_cmpstring", "slices.overlaps[matins/api.Loaded]"], unfollowed := true, recurses := true, named := ["internal/bytealg.MaxLen"], apart := false }
def GraphWakesSaid : Prop := graphWakesRow.holds Tryz.pinned (OpenSpec.ofChange graphWakesSpec)

/-- ITS FALSE NEIGHBOUR: 'it returns false'. Refute it at one input. -/
def graphWakesWrong : ChangeSpec := { name := "graphWakes", fn := fun _ => fun
  | [d1, d2] => { results := [.lit (.bool false)], args := [d1, d2] }
  | _ => none }
def GraphWakesWrongFalsely : Prop := graphWakesRow.holds Tryz.pinned (OpenSpec.ofChange graphWakesWrong)

/- THE SECOND FORM. 'bulk': how many values and letters a reading holds, each counted each time it is reached (what is shared counts as often as it is met; a slice's spare places count too). A statement '..UptoSaid' is the law's where the arguments, and the package variables that the reading takes, are together of bulk at most 1048576: NARROWER than '..Said'. Prove '..Said' where nothing that the law and all that it calls make is longer than what came in: it says more and counts as full. Else prove '..UptoSaid'. A law counts once. -/
mutual
def uptoBulk {H : Type} : DataW H → Nat
  | .lit (.string bytes) => bytes.length + 1
  | .lit _ => 1
  | .nil => 1
  | .ptr d => uptoBulk d + 1
  | .slice elems spare => uptoBulkAll elems + uptoBulkAll spare + 1
  | .agg parts => uptoBulkAll parts + 1
  | .iface _ d => uptoBulk d + 1
  | .map entries => uptoBulkEntries entries + 1
  | .held _ => 1
def uptoBulkAll {H : Type} : List (DataW H) → Nat
  | [] => 0
  | d :: r => uptoBulk d + uptoBulkAll r
def uptoBulkEntries {H : Type} : List (Lit × DataW H) → Nat
  | [] => 0
  | x :: r => uptoBulkEntry x + uptoBulkEntries r
def uptoBulkEntry {H : Type} : Lit × DataW H → Nat
  | (.string bytes, d) => bytes.length + uptoBulk d + 1
  | (_, d) => uptoBulk d + 1
 end
def uptoSmall : (H : Type) → List (DataW H) → Bool := fun _ ds => decide (uptoBulkAll ds ≤ 1048576)
def OpenSpec.upto (s : _root_.Go.ChangeSpec) : _root_.Go.OpenSpec := { _root_.Go.OpenSpec.ofChange s with cond := some uptoSmall }

/-- 'matinslaw15.GraphOf', WHERE WHAT IT READS IS OF BULK AT MOST 1048576: true; the input reads as it did. -/
def graphOfUptoRow : OpenClaim := { program := "ytcoepioahabbdaagreat", sum := "cff71a392136c3f9db63c1d1a3f1c67ea8c0cf48e5ffbe037abc6d131db947cb", func := "matins/matinslaw15.GraphOf", spec := "graphOf", inPlace := ["internal/bytealg.IndexByteString", "internal/bytealg.IndexString", "internal/bytealg.abigen_runtime_cmpstring", "slices.overlaps[matins/api.Loaded]"], unfollowed := true, recurses := true, named := ["internal/bytealg.MaxLen"], apart := false, narrowed := true }
def GraphOfUptoSaid : Prop := graphOfUptoRow.holds Tryz.pinned (OpenSpec.upto graphOfSpec)

/-- 'matinslaw15.GraphAsks', WHERE WHAT IT READS IS OF BULK AT MOST 1048576: true; the input reads as it did. -/
def graphAsksUptoRow : OpenClaim := { program := "ytcoepioahabbdaagreat", sum := "cff71a392136c3f9db63c1d1a3f1c67ea8c0cf48e5ffbe037abc6d131db947cb", func := "matins/matinslaw15.GraphAsks", spec := "graphAsks", inPlace := ["internal/bytealg.IndexByteString", "internal/bytealg.IndexString", "internal/bytealg.abigen_runtime_cmpstring", "slices.overlaps[matins/api.Loaded]"], unfollowed := true, recurses := true, named := ["internal/bytealg.MaxLen"], apart := false, narrowed := true }
def GraphAsksUptoSaid : Prop := graphAsksUptoRow.holds Tryz.pinned (OpenSpec.upto graphAsksSpec)

/-- 'matinslaw15.GraphMirror', WHERE WHAT IT READS IS OF BULK AT MOST 1048576: true; the input reads as it did. -/
def graphMirrorUptoRow : OpenClaim := { program := "ytcoepioahabbdaagreat", sum := "cff71a392136c3f9db63c1d1a3f1c67ea8c0cf48e5ffbe037abc6d131db947cb", func := "matins/matinslaw15.GraphMirror", spec := "graphMirror", inPlace := ["internal/bytealg.IndexByteString", "internal/bytealg.IndexString", "internal/bytealg.abigen_runtime_cmpstring", "slices.overlaps[matins/api.Loaded]"], unfollowed := true, recurses := true, named := ["internal/bytealg.MaxLen"], apart := false, narrowed := true }
def GraphMirrorUptoSaid : Prop := graphMirrorUptoRow.holds Tryz.pinned (OpenSpec.upto graphMirrorSpec)

/-- 'matinslaw15.GraphOwn', WHERE WHAT IT READS IS OF BULK AT MOST 1048576: true; the input reads as it did. -/
def graphOwnUptoRow : OpenClaim := { program := "ytcoepioahabbdaagreat", sum := "cff71a392136c3f9db63c1d1a3f1c67ea8c0cf48e5ffbe037abc6d131db947cb", func := "matins/matinslaw15.GraphOwn", spec := "graphOwn", inPlace := ["internal/bytealg.IndexByteString", "internal/bytealg.IndexString", "internal/bytealg.abigen_runtime_cmpstring", "slices.overlaps[matins/api.Loaded]"], unfollowed := true, recurses := true, named := ["internal/bytealg.MaxLen"], apart := false, narrowed := true }
def GraphOwnUptoSaid : Prop := graphOwnUptoRow.holds Tryz.pinned (OpenSpec.upto graphOwnSpec)

/-- 'matinslaw15.GraphDefault', WHERE WHAT IT READS IS OF BULK AT MOST 1048576: true; the input reads as it did. -/
def graphDefaultUptoRow : OpenClaim := { program := "ytcoepioahabbdaagreat", sum := "cff71a392136c3f9db63c1d1a3f1c67ea8c0cf48e5ffbe037abc6d131db947cb", func := "matins/matinslaw15.GraphDefault", spec := "graphDefault", inPlace := ["internal/bytealg.IndexByteString", "internal/bytealg.IndexString", "internal/bytealg.abigen_runtime_cmpstring", "slices.overlaps[matins/api.Loaded]"], unfollowed := true, recurses := true, named := ["internal/bytealg.MaxLen"], apart := false, narrowed := true }
def GraphDefaultUptoSaid : Prop := graphDefaultUptoRow.holds Tryz.pinned (OpenSpec.upto graphDefaultSpec)

/-- 'matinslaw15.GraphWakes', WHERE WHAT IT READS IS OF BULK AT MOST 1048576: true; the input reads as it did. -/
def graphWakesUptoRow : OpenClaim := { program := "ytcoepioahabbdaagreat", sum := "cff71a392136c3f9db63c1d1a3f1c67ea8c0cf48e5ffbe037abc6d131db947cb", func := "matins/matinslaw15.GraphWakes", spec := "graphWakes", inPlace := ["internal/bytealg.IndexByteString", "internal/bytealg.IndexString", "internal/bytealg.abigen_runtime_cmpstring", "slices.overlaps[matins/api.Loaded]"], unfollowed := true, recurses := true, named := ["internal/bytealg.MaxLen"], apart := false, narrowed := true }
def GraphWakesUptoSaid : Prop := graphWakesUptoRow.holds Tryz.pinned (OpenSpec.upto graphWakesSpec)

end Rows
end Go.Proofs.YtcoepioahabbdaaGreat
