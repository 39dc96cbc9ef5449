/-
  No cell of these rows narrows 'for every input' (looked for: loops, veiled, ifaces, maps, wideKeys, modest, calm, conditions, laid).
  DERIVED. THE GIVEN ROWS OF THIS SEAT. 5 by the template 'for every input the law returns true; each argument reads behind the call as it read before'; 0 by the template 'total and deterministic' (their statements: YtgfcllgkfehhfaaTotals.lean).
  GIVEN WITH THE SEED: the statements are not yours to turn. If you find one false, say at which input.
  Laid BY PROGRAM, IN A SANDBOX (cutbox-rows.mjs): the forced cells as the released guide's own fill.sh prints them over the translation ddc5ccc811a35470… (all of the seat's roots in one cut). By AI agents, Wed Nov 11 2026. No macro, syntax, notation, axiom, sorry.
-/
import Derived.Test.YtgfcllgkfehhfaaChecked
import GoSem.Claim
import GoSem.ClaimJoined
import GoSem.ClaimMapViews
import Derived.JoinedTies
import Derived.KernelRfl
namespace Go.Proofs.Ytgfcllgkfehhfaa
/- THE CELL 'sum', in the pinned program and in every row, IS THE sha256 OF THE DUMP (.gsa) THAT YtgfcllgkfehhfaaProg.lean LOADS. Nothing in Lean hashes anything: it is a label: what it is worth is what the hold of that sum in a sandbox is worth. -/
noncomputable def Try.pinned : Pinned := { name := "ytgfcllgkfehhfaa", sum := "ddc5ccc811a3547001541b9be225b06d107b75137f0f458af944380946cd2d98", checked := Try.checked }
namespace Rows
def none {H : Type} : Left H := { results := [], args := [] }

/-- 'tabellionlaw05.EdgeOrders': WHATEVER THE INPUT: true; the input reads as it did. -/
def edgeOrdersSpec : ChangeSpec := { name := "edgeOrders", fn := fun _ => fun
  | [d1, d2] => { results := [.lit (.bool true)], args := [d1, d2] }
  | _ => none }
def edgeOrdersRow : OpenClaim := { program := "ytgfcllgkfehhfaa", sum := "ddc5ccc811a3547001541b9be225b06d107b75137f0f458af944380946cd2d98", func := "tabellion/tabellionlaw05.EdgeOrders", spec := "edgeOrders", inPlace := ["math.Float64bits", "math.Float64frombits"], recurses := true, apart := false }
def EdgeOrdersSaid : Prop := edgeOrdersRow.holds Try.pinned (OpenSpec.ofChange edgeOrdersSpec)

/-- ITS FALSE NEIGHBOUR: 'it returns false'. Refute it at one input. -/
def edgeOrdersWrong : ChangeSpec := { name := "edgeOrders", fn := fun _ => fun
  | [d1, d2] => { results := [.lit (.bool false)], args := [d1, d2] }
  | _ => none }
def EdgeOrdersWrongFalsely : Prop := edgeOrdersRow.holds Try.pinned (OpenSpec.ofChange edgeOrdersWrong)

/-- 'tabellionlaw05.EdgeRanks': WHATEVER THE INPUT: true; the input reads as it did. -/
def edgeRanksSpec : ChangeSpec := { name := "edgeRanks", fn := fun _ => fun
  | [d1, d2] => { results := [.lit (.bool true)], args := [d1, d2] }
  | _ => none }
def edgeRanksRow : OpenClaim := { program := "ytgfcllgkfehhfaa", sum := "ddc5ccc811a3547001541b9be225b06d107b75137f0f458af944380946cd2d98", func := "tabellion/tabellionlaw05.EdgeRanks", spec := "edgeRanks", inPlace := ["math.Float64bits", "math.Float64frombits"], recurses := true, apart := false }
def EdgeRanksSaid : Prop := edgeRanksRow.holds Try.pinned (OpenSpec.ofChange edgeRanksSpec)

/-- ITS FALSE NEIGHBOUR: 'it returns false'. Refute it at one input. -/
def edgeRanksWrong : ChangeSpec := { name := "edgeRanks", fn := fun _ => fun
  | [d1, d2] => { results := [.lit (.bool false)], args := [d1, d2] }
  | _ => none }
def EdgeRanksWrongFalsely : Prop := edgeRanksRow.holds Try.pinned (OpenSpec.ofChange edgeRanksWrong)

/-- 'tabellionlaw05.EdgeSteps': WHATEVER THE INPUT: true; the input reads as it did. -/
def edgeStepsSpec : ChangeSpec := { name := "edgeSteps", fn := fun _ => fun
  | [d1, d2, d3] => { results := [.lit (.bool true)], args := [d1, d2, d3] }
  | _ => none }
def edgeStepsRow : OpenClaim := { program := "ytgfcllgkfehhfaa", sum := "ddc5ccc811a3547001541b9be225b06d107b75137f0f458af944380946cd2d98", func := "tabellion/tabellionlaw05.EdgeSteps", spec := "edgeSteps", inPlace := ["math.Float64bits", "math.Float64frombits"], recurses := true, apart := false }
def EdgeStepsSaid : Prop := edgeStepsRow.holds Try.pinned (OpenSpec.ofChange edgeStepsSpec)

/-- ITS FALSE NEIGHBOUR: 'it returns false'. Refute it at one input. -/
def edgeStepsWrong : ChangeSpec := { name := "edgeSteps", fn := fun _ => fun
  | [d1, d2, d3] => { results := [.lit (.bool false)], args := [d1, d2, d3] }
  | _ => none }
def EdgeStepsWrongFalsely : Prop := edgeStepsRow.holds Try.pinned (OpenSpec.ofChange edgeStepsWrong)

/-- 'tabellionlaw05.EdgeLists': WHATEVER THE INPUT: true; the input reads as it did. -/
def edgeListsSpec : ChangeSpec := { name := "edgeLists", fn := fun _ => fun
  | [d] => { results := [.lit (.bool true)], args := [d] }
  | _ => none }
def edgeListsRow : OpenClaim := { program := "ytgfcllgkfehhfaa", sum := "ddc5ccc811a3547001541b9be225b06d107b75137f0f458af944380946cd2d98", func := "tabellion/tabellionlaw05.EdgeLists", spec := "edgeLists", inPlace := ["math.Float64bits", "math.Float64frombits"], recurses := true, apart := false }
def EdgeListsSaid : Prop := edgeListsRow.holds Try.pinned (OpenSpec.ofChange edgeListsSpec)

/-- ITS FALSE NEIGHBOUR: 'it returns false'. Refute it at one input. -/
def edgeListsWrong : ChangeSpec := { name := "edgeLists", fn := fun _ => fun
  | [d] => { results := [.lit (.bool false)], args := [d] }
  | _ => none }
def EdgeListsWrongFalsely : Prop := edgeListsRow.holds Try.pinned (OpenSpec.ofChange edgeListsWrong)

/-- 'tabellionlaw05.EdgeBytes': WHATEVER THE INPUT: true; the input reads as it did. -/
def edgeBytesSpec : ChangeSpec := { name := "edgeBytes", fn := fun _ => fun
  | [d1, d2] => { results := [.lit (.bool true)], args := [d1, d2] }
  | _ => none }
def edgeBytesRow : OpenClaim := { program := "ytgfcllgkfehhfaa", sum := "ddc5ccc811a3547001541b9be225b06d107b75137f0f458af944380946cd2d98", func := "tabellion/tabellionlaw05.EdgeBytes", spec := "edgeBytes", inPlace := ["math.Float64bits", "math.Float64frombits"], recurses := true, apart := false }
def EdgeBytesSaid : Prop := edgeBytesRow.holds Try.pinned (OpenSpec.ofChange edgeBytesSpec)

/-- ITS FALSE NEIGHBOUR: 'it returns false'. Refute it at one input. -/
def edgeBytesWrong : ChangeSpec := { name := "edgeBytes", fn := fun _ => fun
  | [d1, d2] => { results := [.lit (.bool false)], args := [d1, d2] }
  | _ => none }
def EdgeBytesWrongFalsely : Prop := edgeBytesRow.holds Try.pinned (OpenSpec.ofChange edgeBytesWrong)

/- THE SECOND FORM. 'bulk': how many values and letters a reading holds, each counted each time it is reached (what is shared counts as often as it is met; a slice's spare places count too). A statement '..UptoSaid' is the law's where the arguments, and the package variables that the reading takes, are together of bulk at most 1048576: NARROWER than '..Said'. Prove '..Said' where nothing that the law and all that it calls make is longer than what came in: it says more and counts as full. Else prove '..UptoSaid'. A law counts once. -/
mutual
def uptoBulk {H : Type} : DataW H → Nat
  | .lit (.string bytes) => bytes.length + 1
  | .lit _ => 1
  | .nil => 1
  | .ptr d => uptoBulk d + 1
  | .slice elems spare => uptoBulkAll elems + uptoBulkAll spare + 1
  | .agg parts => uptoBulkAll parts + 1
  | .iface _ d => uptoBulk d + 1
  | .map entries => uptoBulkEntries entries + 1
  | .held _ => 1
def uptoBulkAll {H : Type} : List (DataW H) → Nat
  | [] => 0
  | d :: r => uptoBulk d + uptoBulkAll r
def uptoBulkEntries {H : Type} : List (Lit × DataW H) → Nat
  | [] => 0
  | x :: r => uptoBulkEntry x + uptoBulkEntries r
def uptoBulkEntry {H : Type} : Lit × DataW H → Nat
  | (.string bytes, d) => bytes.length + uptoBulk d + 1
  | (_, d) => uptoBulk d + 1
 end
def uptoSmall : (H : Type) → List (DataW H) → Bool := fun _ ds => decide (uptoBulkAll ds ≤ 1048576)
def OpenSpec.upto (s : _root_.Go.ChangeSpec) : _root_.Go.OpenSpec := { _root_.Go.OpenSpec.ofChange s with cond := some uptoSmall }

/-- 'tabellionlaw05.EdgeOrders', WHERE WHAT IT READS IS OF BULK AT MOST 1048576: true; the input reads as it did. -/
def edgeOrdersUptoRow : OpenClaim := { program := "ytgfcllgkfehhfaa", sum := "ddc5ccc811a3547001541b9be225b06d107b75137f0f458af944380946cd2d98", func := "tabellion/tabellionlaw05.EdgeOrders", spec := "edgeOrders", inPlace := ["math.Float64bits", "math.Float64frombits"], recurses := true, apart := false, narrowed := true }
def EdgeOrdersUptoSaid : Prop := edgeOrdersUptoRow.holds Try.pinned (OpenSpec.upto edgeOrdersSpec)

/-- 'tabellionlaw05.EdgeRanks', WHERE WHAT IT READS IS OF BULK AT MOST 1048576: true; the input reads as it did. -/
def edgeRanksUptoRow : OpenClaim := { program := "ytgfcllgkfehhfaa", sum := "ddc5ccc811a3547001541b9be225b06d107b75137f0f458af944380946cd2d98", func := "tabellion/tabellionlaw05.EdgeRanks", spec := "edgeRanks", inPlace := ["math.Float64bits", "math.Float64frombits"], recurses := true, apart := false, narrowed := true }
def EdgeRanksUptoSaid : Prop := edgeRanksUptoRow.holds Try.pinned (OpenSpec.upto edgeRanksSpec)

/-- 'tabellionlaw05.EdgeSteps', WHERE WHAT IT READS IS OF BULK AT MOST 1048576: true; the input reads as it did. -/
def edgeStepsUptoRow : OpenClaim := { program := "ytgfcllgkfehhfaa", sum := "ddc5ccc811a3547001541b9be225b06d107b75137f0f458af944380946cd2d98", func := "tabellion/tabellionlaw05.EdgeSteps", spec := "edgeSteps", inPlace := ["math.Float64bits", "math.Float64frombits"], recurses := true, apart := false, narrowed := true }
def EdgeStepsUptoSaid : Prop := edgeStepsUptoRow.holds Try.pinned (OpenSpec.upto edgeStepsSpec)

/-- 'tabellionlaw05.EdgeLists', WHERE WHAT IT READS IS OF BULK AT MOST 1048576: true; the input reads as it did. -/
def edgeListsUptoRow : OpenClaim := { program := "ytgfcllgkfehhfaa", sum := "ddc5ccc811a3547001541b9be225b06d107b75137f0f458af944380946cd2d98", func := "tabellion/tabellionlaw05.EdgeLists", spec := "edgeLists", inPlace := ["math.Float64bits", "math.Float64frombits"], recurses := true, apart := false, narrowed := true }
def EdgeListsUptoSaid : Prop := edgeListsUptoRow.holds Try.pinned (OpenSpec.upto edgeListsSpec)

/-- 'tabellionlaw05.EdgeBytes', WHERE WHAT IT READS IS OF BULK AT MOST 1048576: true; the input reads as it did. -/
def edgeBytesUptoRow : OpenClaim := { program := "ytgfcllgkfehhfaa", sum := "ddc5ccc811a3547001541b9be225b06d107b75137f0f458af944380946cd2d98", func := "tabellion/tabellionlaw05.EdgeBytes", spec := "edgeBytes", inPlace := ["math.Float64bits", "math.Float64frombits"], recurses := true, apart := false, narrowed := true }
def EdgeBytesUptoSaid : Prop := edgeBytesUptoRow.holds Try.pinned (OpenSpec.upto edgeBytesSpec)

end Rows
end Go.Proofs.Ytgfcllgkfehhfaa
