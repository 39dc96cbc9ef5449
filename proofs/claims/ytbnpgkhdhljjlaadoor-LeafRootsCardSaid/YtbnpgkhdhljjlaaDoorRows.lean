/-
  NARROWER THAN 'FOR EVERY INPUT', by the rows' own cells (each row's printed sentence says how): LeafRoots: laid · LeafGrows: laid · LeafSplits: laid · LeafNarrow: laid · PathProves: laid · PathClimbs: laid · PathPasses: laid · PathLengths: laid · PathSteps: laid.
  DERIVED. THE GIVEN ROWS OF THIS SEAT. 9 by the template 'for every input the law returns true; each argument reads behind the call as it read before'; 0 by the template 'total and deterministic' (their statements: YtbnpgkhdhljjlaaDoorTotals.lean).
  GIVEN WITH THE SEED: the statements are not yours to turn. If you find one false, say at which input.
  Laid BY PROGRAM, IN A SANDBOX (cutbox-rows.mjs): the forced cells as the released guide's own fill.sh prints them over the translation b300965a63b46e75… (all of the seat's roots in one cut). By AI agents, Wed Nov 11 2026. No macro, syntax, notation, axiom, sorry.
-/
import Derived.Test.YtbnpgkhdhljjlaaDoorChecked
import GoSem.Claim
import GoSem.ClaimJoined
import GoSem.ClaimMapViews
import Derived.JoinedTies
import Derived.KernelRfl
namespace Go.Proofs.YtbnpgkhdhljjlaaDoor
/- THE CELL 'sum', in the pinned program and in every row, IS THE sha256 OF THE DUMP (.gsa) THAT YtbnpgkhdhljjlaaDoorProg.lean LOADS. Nothing in Lean hashes anything: it is a label: what it is worth is what the hold of that sum in a sandbox is worth. -/
noncomputable def Tryd.pinned : Pinned := { name := "ytbnpgkhdhljjlaadoor", sum := "b300965a63b46e7574449ee5441309c95034bc153aef24939d26ba88957d28ce", checked := Tryd.checked }
namespace Rows
def none {H : Type} : Left H := { results := [], args := [] }

/- WHAT THE LISTED PACKAGE-LEVEL VARIABLES READ AS WHEN THE CALL BEGINS. Each datum BY PROGRAM (the guide's laid-datum.mjs) off the statement by which the dump's own 'gosem.cut.vars' lays the variable. In a bare row this is a premise. The card (YtbnpgkhdhljjlaaDoorCards.lean) ties it to the program's text. -/
def laid_tabellion_sha_start {H : Type} : DataW H := .agg [.lit (.int .u32 1779033703), .lit (.int .u32 3144134277), .lit (.int .u32 1013904242), .lit (.int .u32 2773480762), .lit (.int .u32 1359893119), .lit (.int .u32 2600822924), .lit (.int .u32 528734635), .lit (.int .u32 1541459225)]
def laid_tabellion_sha_roots {H : Type} : DataW H := .agg [.lit (.int .u32 1116352408), .lit (.int .u32 1899447441), .lit (.int .u32 3049323471), .lit (.int .u32 3921009573), .lit (.int .u32 961987163), .lit (.int .u32 1508970993), .lit (.int .u32 2453635748), .lit (.int .u32 2870763221), .lit (.int .u32 3624381080), .lit (.int .u32 310598401), .lit (.int .u32 607225278), .lit (.int .u32 1426881987), .lit (.int .u32 1925078388), .lit (.int .u32 2162078206), .lit (.int .u32 2614888103), .lit (.int .u32 3248222580), .lit (.int .u32 3835390401), .lit (.int .u32 4022224774), .lit (.int .u32 264347078), .lit (.int .u32 604807628), .lit (.int .u32 770255983), .lit (.int .u32 1249150122), .lit (.int .u32 1555081692), .lit (.int .u32 1996064986), .lit (.int .u32 2554220882), .lit (.int .u32 2821834349), .lit (.int .u32 2952996808), .lit (.int .u32 3210313671), .lit (.int .u32 3336571891), .lit (.int .u32 3584528711), .lit (.int .u32 113926993), .lit (.int .u32 338241895), .lit (.int .u32 666307205), .lit (.int .u32 773529912), .lit (.int .u32 1294757372), .lit (.int .u32 1396182291), .lit (.int .u32 1695183700), .lit (.int .u32 1986661051), .lit (.int .u32 2177026350), .lit (.int .u32 2456956037), .lit (.int .u32 2730485921), .lit (.int .u32 2820302411), .lit (.int .u32 3259730800), .lit (.int .u32 3345764771), .lit (.int .u32 3516065817), .lit (.int .u32 3600352804), .lit (.int .u32 4094571909), .lit (.int .u32 275423344), .lit (.int .u32 430227734), .lit (.int .u32 506948616), .lit (.int .u32 659060556), .lit (.int .u32 883997877), .lit (.int .u32 958139571), .lit (.int .u32 1322822218), .lit (.int .u32 1537002063), .lit (.int .u32 1747873779), .lit (.int .u32 1955562222), .lit (.int .u32 2024104815), .lit (.int .u32 2227730452), .lit (.int .u32 2361852424), .lit (.int .u32 2428436474), .lit (.int .u32 2756734187), .lit (.int .u32 3204031479), .lit (.int .u32 3329325298)]
def laid_tabellion_tabellionref03_constants {H : Type} : DataW H := .agg [.lit (.int .u32 1116352408), .lit (.int .u32 1899447441), .lit (.int .u32 3049323471), .lit (.int .u32 3921009573), .lit (.int .u32 961987163), .lit (.int .u32 1508970993), .lit (.int .u32 2453635748), .lit (.int .u32 2870763221), .lit (.int .u32 3624381080), .lit (.int .u32 310598401), .lit (.int .u32 607225278), .lit (.int .u32 1426881987), .lit (.int .u32 1925078388), .lit (.int .u32 2162078206), .lit (.int .u32 2614888103), .lit (.int .u32 3248222580), .lit (.int .u32 3835390401), .lit (.int .u32 4022224774), .lit (.int .u32 264347078), .lit (.int .u32 604807628), .lit (.int .u32 770255983), .lit (.int .u32 1249150122), .lit (.int .u32 1555081692), .lit (.int .u32 1996064986), .lit (.int .u32 2554220882), .lit (.int .u32 2821834349), .lit (.int .u32 2952996808), .lit (.int .u32 3210313671), .lit (.int .u32 3336571891), .lit (.int .u32 3584528711), .lit (.int .u32 113926993), .lit (.int .u32 338241895), .lit (.int .u32 666307205), .lit (.int .u32 773529912), .lit (.int .u32 1294757372), .lit (.int .u32 1396182291), .lit (.int .u32 1695183700), .lit (.int .u32 1986661051), .lit (.int .u32 2177026350), .lit (.int .u32 2456956037), .lit (.int .u32 2730485921), .lit (.int .u32 2820302411), .lit (.int .u32 3259730800), .lit (.int .u32 3345764771), .lit (.int .u32 3516065817), .lit (.int .u32 3600352804), .lit (.int .u32 4094571909), .lit (.int .u32 275423344), .lit (.int .u32 430227734), .lit (.int .u32 506948616), .lit (.int .u32 659060556), .lit (.int .u32 883997877), .lit (.int .u32 958139571), .lit (.int .u32 1322822218), .lit (.int .u32 1537002063), .lit (.int .u32 1747873779), .lit (.int .u32 1955562222), .lit (.int .u32 2024104815), .lit (.int .u32 2227730452), .lit (.int .u32 2361852424), .lit (.int .u32 2428436474), .lit (.int .u32 2756734187), .lit (.int .u32 3204031479), .lit (.int .u32 3329325298)]
def laid_math_bits_deBruijn64tab {H : Type} : DataW H := .agg [.lit (.int .u8 0), .lit (.int .u8 1), .lit (.int .u8 56), .lit (.int .u8 2), .lit (.int .u8 57), .lit (.int .u8 49), .lit (.int .u8 28), .lit (.int .u8 3), .lit (.int .u8 61), .lit (.int .u8 58), .lit (.int .u8 42), .lit (.int .u8 50), .lit (.int .u8 38), .lit (.int .u8 29), .lit (.int .u8 17), .lit (.int .u8 4), .lit (.int .u8 62), .lit (.int .u8 47), .lit (.int .u8 59), .lit (.int .u8 36), .lit (.int .u8 45), .lit (.int .u8 43), .lit (.int .u8 51), .lit (.int .u8 22), .lit (.int .u8 53), .lit (.int .u8 39), .lit (.int .u8 33), .lit (.int .u8 30), .lit (.int .u8 24), .lit (.int .u8 18), .lit (.int .u8 12), .lit (.int .u8 5), .lit (.int .u8 63), .lit (.int .u8 55), .lit (.int .u8 48), .lit (.int .u8 27), .lit (.int .u8 60), .lit (.int .u8 41), .lit (.int .u8 37), .lit (.int .u8 16), .lit (.int .u8 46), .lit (.int .u8 35), .lit (.int .u8 44), .lit (.int .u8 21), .lit (.int .u8 52), .lit (.int .u8 32), .lit (.int .u8 23), .lit (.int .u8 11), .lit (.int .u8 54), .lit (.int .u8 26), .lit (.int .u8 40), .lit (.int .u8 15), .lit (.int .u8 34), .lit (.int .u8 20), .lit (.int .u8 31), .lit (.int .u8 10), .lit (.int .u8 25), .lit (.int .u8 14), .lit (.int .u8 19), .lit (.int .u8 9), .lit (.int .u8 13), .lit (.int .u8 8), .lit (.int .u8 7), .lit (.int .u8 6)]

/-- 'tabellionlaw14.LeafRoots': WHATEVER THE INPUT: true; the input reads as it did. -/
def leafRootsSpec : ChangeSpec := { name := "leafRoots", fn := fun _ => fun
  | [d1, d2] => { results := [.lit (.bool true)], args := [d1, d2] }
  | _ => none }
def leafRootsRow : OpenClaim := { program := "ytbnpgkhdhljjlaadoor", sum := "b300965a63b46e7574449ee5441309c95034bc153aef24939d26ba88957d28ce", func := "tabellion/tabellionlaw14.LeafRoots", spec := "leafRoots", recurses := true, named := ["tabellion/sha.start", "tabellion/sha.roots", "tabellion/tabellionref03.constants"], apart := false, laid := [("tabellion/sha.start", laid_tabellion_sha_start), ("tabellion/sha.roots", laid_tabellion_sha_roots), ("tabellion/tabellionref03.constants", laid_tabellion_tabellionref03_constants)] }
def LeafRootsSaid : Prop := leafRootsRow.holds Tryd.pinned (OpenSpec.ofChange leafRootsSpec)

/-- ITS FALSE NEIGHBOUR: 'it returns false'. Refute it at one input. -/
def leafRootsWrong : ChangeSpec := { name := "leafRoots", fn := fun _ => fun
  | [d1, d2] => { results := [.lit (.bool false)], args := [d1, d2] }
  | _ => none }
def LeafRootsWrongFalsely : Prop := leafRootsRow.holds Tryd.pinned (OpenSpec.ofChange leafRootsWrong)

/-- 'tabellionlaw14.LeafGrows': WHATEVER THE INPUT: true; the input reads as it did. -/
def leafGrowsSpec : ChangeSpec := { name := "leafGrows", fn := fun _ => fun
  | [d1, d2] => { results := [.lit (.bool true)], args := [d1, d2] }
  | _ => none }
def leafGrowsRow : OpenClaim := { program := "ytbnpgkhdhljjlaadoor", sum := "b300965a63b46e7574449ee5441309c95034bc153aef24939d26ba88957d28ce", func := "tabellion/tabellionlaw14.LeafGrows", spec := "leafGrows", unfollowed := true, recurses := true, named := ["tabellion/sha.start", "tabellion/sha.roots", "math/bits.deBruijn64tab"], apart := false, laid := [("math/bits.deBruijn64tab", laid_math_bits_deBruijn64tab), ("tabellion/sha.start", laid_tabellion_sha_start), ("tabellion/sha.roots", laid_tabellion_sha_roots)] }
def LeafGrowsSaid : Prop := leafGrowsRow.holds Tryd.pinned (OpenSpec.ofChange leafGrowsSpec)

/-- ITS FALSE NEIGHBOUR: 'it returns false'. Refute it at one input. -/
def leafGrowsWrong : ChangeSpec := { name := "leafGrows", fn := fun _ => fun
  | [d1, d2] => { results := [.lit (.bool false)], args := [d1, d2] }
  | _ => none }
def LeafGrowsWrongFalsely : Prop := leafGrowsRow.holds Tryd.pinned (OpenSpec.ofChange leafGrowsWrong)

/-- 'tabellionlaw14.LeafSplits': WHATEVER THE INPUT: true; the input reads as it did. -/
def leafSplitsSpec : ChangeSpec := { name := "leafSplits", fn := fun _ => fun
  | [d1, d2, d3] => { results := [.lit (.bool true)], args := [d1, d2, d3] }
  | _ => none }
def leafSplitsRow : OpenClaim := { program := "ytbnpgkhdhljjlaadoor", sum := "b300965a63b46e7574449ee5441309c95034bc153aef24939d26ba88957d28ce", func := "tabellion/tabellionlaw14.LeafSplits", spec := "leafSplits", recurses := true, named := ["tabellion/sha.start", "tabellion/sha.roots"], apart := false, laid := [("tabellion/sha.start", laid_tabellion_sha_start), ("tabellion/sha.roots", laid_tabellion_sha_roots)] }
def LeafSplitsSaid : Prop := leafSplitsRow.holds Tryd.pinned (OpenSpec.ofChange leafSplitsSpec)

/-- ITS FALSE NEIGHBOUR: 'it returns false'. Refute it at one input. -/
def leafSplitsWrong : ChangeSpec := { name := "leafSplits", fn := fun _ => fun
  | [d1, d2, d3] => { results := [.lit (.bool false)], args := [d1, d2, d3] }
  | _ => none }
def LeafSplitsWrongFalsely : Prop := leafSplitsRow.holds Tryd.pinned (OpenSpec.ofChange leafSplitsWrong)

/-- 'tabellionlaw14.LeafNarrow': WHATEVER THE INPUT: true; the input reads as it did. -/
def leafNarrowSpec : ChangeSpec := { name := "leafNarrow", fn := fun _ => fun
  | [d1, d2, d3] => { results := [.lit (.bool true)], args := [d1, d2, d3] }
  | _ => none }
def leafNarrowRow : OpenClaim := { program := "ytbnpgkhdhljjlaadoor", sum := "b300965a63b46e7574449ee5441309c95034bc153aef24939d26ba88957d28ce", func := "tabellion/tabellionlaw14.LeafNarrow", spec := "leafNarrow", recurses := true, named := ["tabellion/sha.start", "tabellion/sha.roots"], apart := false, laid := [("tabellion/sha.start", laid_tabellion_sha_start), ("tabellion/sha.roots", laid_tabellion_sha_roots)] }
def LeafNarrowSaid : Prop := leafNarrowRow.holds Tryd.pinned (OpenSpec.ofChange leafNarrowSpec)

/-- ITS FALSE NEIGHBOUR: 'it returns false'. Refute it at one input. -/
def leafNarrowWrong : ChangeSpec := { name := "leafNarrow", fn := fun _ => fun
  | [d1, d2, d3] => { results := [.lit (.bool false)], args := [d1, d2, d3] }
  | _ => none }
def LeafNarrowWrongFalsely : Prop := leafNarrowRow.holds Tryd.pinned (OpenSpec.ofChange leafNarrowWrong)

/-- 'tabellionlaw15.PathProves': WHATEVER THE INPUT: true; the input reads as it did. -/
def pathProvesSpec : ChangeSpec := { name := "pathProves", fn := fun _ => fun
  | [d1, d2, d3, d4] => { results := [.lit (.bool true)], args := [d1, d2, d3, d4] }
  | _ => none }
def pathProvesRow : OpenClaim := { program := "ytbnpgkhdhljjlaadoor", sum := "b300965a63b46e7574449ee5441309c95034bc153aef24939d26ba88957d28ce", func := "tabellion/tabellionlaw15.PathProves", spec := "pathProves", recurses := true, named := ["tabellion/sha.start", "tabellion/sha.roots", "tabellion/tabellionref03.constants"], apart := false, laid := [("tabellion/sha.start", laid_tabellion_sha_start), ("tabellion/sha.roots", laid_tabellion_sha_roots), ("tabellion/tabellionref03.constants", laid_tabellion_tabellionref03_constants)] }
def PathProvesSaid : Prop := pathProvesRow.holds Tryd.pinned (OpenSpec.ofChange pathProvesSpec)

/-- ITS FALSE NEIGHBOUR: 'it returns false'. Refute it at one input. -/
def pathProvesWrong : ChangeSpec := { name := "pathProves", fn := fun _ => fun
  | [d1, d2, d3, d4] => { results := [.lit (.bool false)], args := [d1, d2, d3, d4] }
  | _ => none }
def PathProvesWrongFalsely : Prop := pathProvesRow.holds Tryd.pinned (OpenSpec.ofChange pathProvesWrong)

/-- 'tabellionlaw15.PathClimbs': WHATEVER THE INPUT: true; the input reads as it did. -/
def pathClimbsSpec : ChangeSpec := { name := "pathClimbs", fn := fun _ => fun
  | [d1, d2, d3, d4, d5] => { results := [.lit (.bool true)], args := [d1, d2, d3, d4, d5] }
  | _ => none }
def pathClimbsRow : OpenClaim := { program := "ytbnpgkhdhljjlaadoor", sum := "b300965a63b46e7574449ee5441309c95034bc153aef24939d26ba88957d28ce", func := "tabellion/tabellionlaw15.PathClimbs", spec := "pathClimbs", recurses := true, named := ["tabellion/sha.start", "tabellion/sha.roots", "tabellion/tabellionref03.constants"], apart := false, laid := [("tabellion/sha.start", laid_tabellion_sha_start), ("tabellion/sha.roots", laid_tabellion_sha_roots), ("tabellion/tabellionref03.constants", laid_tabellion_tabellionref03_constants)] }
def PathClimbsSaid : Prop := pathClimbsRow.holds Tryd.pinned (OpenSpec.ofChange pathClimbsSpec)

/-- ITS FALSE NEIGHBOUR: 'it returns false'. Refute it at one input. -/
def pathClimbsWrong : ChangeSpec := { name := "pathClimbs", fn := fun _ => fun
  | [d1, d2, d3, d4, d5] => { results := [.lit (.bool false)], args := [d1, d2, d3, d4, d5] }
  | _ => none }
def PathClimbsWrongFalsely : Prop := pathClimbsRow.holds Tryd.pinned (OpenSpec.ofChange pathClimbsWrong)

/-- 'tabellionlaw15.PathPasses': WHATEVER THE INPUT: true; the input reads as it did. -/
def pathPassesSpec : ChangeSpec := { name := "pathPasses", fn := fun _ => fun
  | [d1, d2] => { results := [.lit (.bool true)], args := [d1, d2] }
  | _ => none }
def pathPassesRow : OpenClaim := { program := "ytbnpgkhdhljjlaadoor", sum := "b300965a63b46e7574449ee5441309c95034bc153aef24939d26ba88957d28ce", func := "tabellion/tabellionlaw15.PathPasses", spec := "pathPasses", recurses := true, named := ["tabellion/sha.start", "tabellion/sha.roots"], apart := false, laid := [("tabellion/sha.start", laid_tabellion_sha_start), ("tabellion/sha.roots", laid_tabellion_sha_roots)] }
def PathPassesSaid : Prop := pathPassesRow.holds Tryd.pinned (OpenSpec.ofChange pathPassesSpec)

/-- ITS FALSE NEIGHBOUR: 'it returns false'. Refute it at one input. -/
def pathPassesWrong : ChangeSpec := { name := "pathPasses", fn := fun _ => fun
  | [d1, d2] => { results := [.lit (.bool false)], args := [d1, d2] }
  | _ => none }
def PathPassesWrongFalsely : Prop := pathPassesRow.holds Tryd.pinned (OpenSpec.ofChange pathPassesWrong)

/-- 'tabellionlaw15.PathLengths': WHATEVER THE INPUT: true; the input reads as it did. -/
def pathLengthsSpec : ChangeSpec := { name := "pathLengths", fn := fun _ => fun
  | [d1, d2, d3, d4, d5] => { results := [.lit (.bool true)], args := [d1, d2, d3, d4, d5] }
  | _ => none }
def pathLengthsRow : OpenClaim := { program := "ytbnpgkhdhljjlaadoor", sum := "b300965a63b46e7574449ee5441309c95034bc153aef24939d26ba88957d28ce", func := "tabellion/tabellionlaw15.PathLengths", spec := "pathLengths", recurses := true, named := ["tabellion/sha.start", "tabellion/sha.roots"], apart := false, laid := [("tabellion/sha.start", laid_tabellion_sha_start), ("tabellion/sha.roots", laid_tabellion_sha_roots)] }
def PathLengthsSaid : Prop := pathLengthsRow.holds Tryd.pinned (OpenSpec.ofChange pathLengthsSpec)

/-- ITS FALSE NEIGHBOUR: 'it returns false'. Refute it at one input. -/
def pathLengthsWrong : ChangeSpec := { name := "pathLengths", fn := fun _ => fun
  | [d1, d2, d3, d4, d5] => { results := [.lit (.bool false)], args := [d1, d2, d3, d4, d5] }
  | _ => none }
def PathLengthsWrongFalsely : Prop := pathLengthsRow.holds Tryd.pinned (OpenSpec.ofChange pathLengthsWrong)

/-- 'tabellionlaw15.PathSteps': WHATEVER THE INPUT: true; the input reads as it did. -/
def pathStepsSpec : ChangeSpec := { name := "pathSteps", fn := fun _ => fun
  | [d1, d2, d3, d4, d5] => { results := [.lit (.bool true)], args := [d1, d2, d3, d4, d5] }
  | _ => none }
def pathStepsRow : OpenClaim := { program := "ytbnpgkhdhljjlaadoor", sum := "b300965a63b46e7574449ee5441309c95034bc153aef24939d26ba88957d28ce", func := "tabellion/tabellionlaw15.PathSteps", spec := "pathSteps", recurses := true, named := ["tabellion/sha.start", "tabellion/sha.roots"], apart := false, laid := [("tabellion/sha.start", laid_tabellion_sha_start), ("tabellion/sha.roots", laid_tabellion_sha_roots)] }
def PathStepsSaid : Prop := pathStepsRow.holds Tryd.pinned (OpenSpec.ofChange pathStepsSpec)

/-- ITS FALSE NEIGHBOUR: 'it returns false'. Refute it at one input. -/
def pathStepsWrong : ChangeSpec := { name := "pathSteps", fn := fun _ => fun
  | [d1, d2, d3, d4, d5] => { results := [.lit (.bool false)], args := [d1, d2, d3, d4, d5] }
  | _ => none }
def PathStepsWrongFalsely : Prop := pathStepsRow.holds Tryd.pinned (OpenSpec.ofChange pathStepsWrong)

/- THE SECOND FORM. 'bulk': how many values and letters a reading holds, each counted each time it is reached (what is shared counts as often as it is met; a slice's spare places count too). A statement '..UptoSaid' is the law's where the arguments, and the package variables that the reading takes, are together of bulk at most 1048576: NARROWER than '..Said'. Prove '..Said' where nothing that the law and all that it calls make is longer than what came in: it says more and counts as full. Else prove '..UptoSaid'. A law counts once. -/
mutual
def uptoBulk {H : Type} : DataW H → Nat
  | .lit (.string bytes) => bytes.length + 1
  | .lit _ => 1
  | .nil => 1
  | .ptr d => uptoBulk d + 1
  | .slice elems spare => uptoBulkAll elems + uptoBulkAll spare + 1
  | .agg parts => uptoBulkAll parts + 1
  | .iface _ d => uptoBulk d + 1
  | .map entries => uptoBulkEntries entries + 1
  | .held _ => 1
def uptoBulkAll {H : Type} : List (DataW H) → Nat
  | [] => 0
  | d :: r => uptoBulk d + uptoBulkAll r
def uptoBulkEntries {H : Type} : List (Lit × DataW H) → Nat
  | [] => 0
  | x :: r => uptoBulkEntry x + uptoBulkEntries r
def uptoBulkEntry {H : Type} : Lit × DataW H → Nat
  | (.string bytes, d) => bytes.length + uptoBulk d + 1
  | (_, d) => uptoBulk d + 1
 end
def uptoSmall : (H : Type) → List (DataW H) → Bool := fun _ ds => decide (uptoBulkAll ds ≤ 1048576)
def OpenSpec.upto (s : _root_.Go.ChangeSpec) : _root_.Go.OpenSpec := { _root_.Go.OpenSpec.ofChange s with cond := some uptoSmall }

/-- 'tabellionlaw14.LeafRoots', WHERE WHAT IT READS IS OF BULK AT MOST 1048576: true; the input reads as it did. -/
def leafRootsUptoRow : OpenClaim := { program := "ytbnpgkhdhljjlaadoor", sum := "b300965a63b46e7574449ee5441309c95034bc153aef24939d26ba88957d28ce", func := "tabellion/tabellionlaw14.LeafRoots", spec := "leafRoots", recurses := true, named := ["tabellion/sha.start", "tabellion/sha.roots", "tabellion/tabellionref03.constants"], apart := false, laid := [("tabellion/sha.start", laid_tabellion_sha_start), ("tabellion/sha.roots", laid_tabellion_sha_roots), ("tabellion/tabellionref03.constants", laid_tabellion_tabellionref03_constants)], narrowed := true }
def LeafRootsUptoSaid : Prop := leafRootsUptoRow.holds Tryd.pinned (OpenSpec.upto leafRootsSpec)

/-- 'tabellionlaw14.LeafGrows', WHERE WHAT IT READS IS OF BULK AT MOST 1048576: true; the input reads as it did. -/
def leafGrowsUptoRow : OpenClaim := { program := "ytbnpgkhdhljjlaadoor", sum := "b300965a63b46e7574449ee5441309c95034bc153aef24939d26ba88957d28ce", func := "tabellion/tabellionlaw14.LeafGrows", spec := "leafGrows", unfollowed := true, recurses := true, named := ["tabellion/sha.start", "tabellion/sha.roots", "math/bits.deBruijn64tab"], apart := false, laid := [("math/bits.deBruijn64tab", laid_math_bits_deBruijn64tab), ("tabellion/sha.start", laid_tabellion_sha_start), ("tabellion/sha.roots", laid_tabellion_sha_roots)], narrowed := true }
def LeafGrowsUptoSaid : Prop := leafGrowsUptoRow.holds Tryd.pinned (OpenSpec.upto leafGrowsSpec)

/-- 'tabellionlaw14.LeafSplits', WHERE WHAT IT READS IS OF BULK AT MOST 1048576: true; the input reads as it did. -/
def leafSplitsUptoRow : OpenClaim := { program := "ytbnpgkhdhljjlaadoor", sum := "b300965a63b46e7574449ee5441309c95034bc153aef24939d26ba88957d28ce", func := "tabellion/tabellionlaw14.LeafSplits", spec := "leafSplits", recurses := true, named := ["tabellion/sha.start", "tabellion/sha.roots"], apart := false, laid := [("tabellion/sha.start", laid_tabellion_sha_start), ("tabellion/sha.roots", laid_tabellion_sha_roots)], narrowed := true }
def LeafSplitsUptoSaid : Prop := leafSplitsUptoRow.holds Tryd.pinned (OpenSpec.upto leafSplitsSpec)

/-- 'tabellionlaw14.LeafNarrow', WHERE WHAT IT READS IS OF BULK AT MOST 1048576: true; the input reads as it did. -/
def leafNarrowUptoRow : OpenClaim := { program := "ytbnpgkhdhljjlaadoor", sum := "b300965a63b46e7574449ee5441309c95034bc153aef24939d26ba88957d28ce", func := "tabellion/tabellionlaw14.LeafNarrow", spec := "leafNarrow", recurses := true, named := ["tabellion/sha.start", "tabellion/sha.roots"], apart := false, laid := [("tabellion/sha.start", laid_tabellion_sha_start), ("tabellion/sha.roots", laid_tabellion_sha_roots)], narrowed := true }
def LeafNarrowUptoSaid : Prop := leafNarrowUptoRow.holds Tryd.pinned (OpenSpec.upto leafNarrowSpec)

/-- 'tabellionlaw15.PathProves', WHERE WHAT IT READS IS OF BULK AT MOST 1048576: true; the input reads as it did. -/
def pathProvesUptoRow : OpenClaim := { program := "ytbnpgkhdhljjlaadoor", sum := "b300965a63b46e7574449ee5441309c95034bc153aef24939d26ba88957d28ce", func := "tabellion/tabellionlaw15.PathProves", spec := "pathProves", recurses := true, named := ["tabellion/sha.start", "tabellion/sha.roots", "tabellion/tabellionref03.constants"], apart := false, laid := [("tabellion/sha.start", laid_tabellion_sha_start), ("tabellion/sha.roots", laid_tabellion_sha_roots), ("tabellion/tabellionref03.constants", laid_tabellion_tabellionref03_constants)], narrowed := true }
def PathProvesUptoSaid : Prop := pathProvesUptoRow.holds Tryd.pinned (OpenSpec.upto pathProvesSpec)

/-- 'tabellionlaw15.PathClimbs', WHERE WHAT IT READS IS OF BULK AT MOST 1048576: true; the input reads as it did. -/
def pathClimbsUptoRow : OpenClaim := { program := "ytbnpgkhdhljjlaadoor", sum := "b300965a63b46e7574449ee5441309c95034bc153aef24939d26ba88957d28ce", func := "tabellion/tabellionlaw15.PathClimbs", spec := "pathClimbs", recurses := true, named := ["tabellion/sha.start", "tabellion/sha.roots", "tabellion/tabellionref03.constants"], apart := false, laid := [("tabellion/sha.start", laid_tabellion_sha_start), ("tabellion/sha.roots", laid_tabellion_sha_roots), ("tabellion/tabellionref03.constants", laid_tabellion_tabellionref03_constants)], narrowed := true }
def PathClimbsUptoSaid : Prop := pathClimbsUptoRow.holds Tryd.pinned (OpenSpec.upto pathClimbsSpec)

/-- 'tabellionlaw15.PathPasses', WHERE WHAT IT READS IS OF BULK AT MOST 1048576: true; the input reads as it did. -/
def pathPassesUptoRow : OpenClaim := { program := "ytbnpgkhdhljjlaadoor", sum := "b300965a63b46e7574449ee5441309c95034bc153aef24939d26ba88957d28ce", func := "tabellion/tabellionlaw15.PathPasses", spec := "pathPasses", recurses := true, named := ["tabellion/sha.start", "tabellion/sha.roots"], apart := false, laid := [("tabellion/sha.start", laid_tabellion_sha_start), ("tabellion/sha.roots", laid_tabellion_sha_roots)], narrowed := true }
def PathPassesUptoSaid : Prop := pathPassesUptoRow.holds Tryd.pinned (OpenSpec.upto pathPassesSpec)

/-- 'tabellionlaw15.PathLengths', WHERE WHAT IT READS IS OF BULK AT MOST 1048576: true; the input reads as it did. -/
def pathLengthsUptoRow : OpenClaim := { program := "ytbnpgkhdhljjlaadoor", sum := "b300965a63b46e7574449ee5441309c95034bc153aef24939d26ba88957d28ce", func := "tabellion/tabellionlaw15.PathLengths", spec := "pathLengths", recurses := true, named := ["tabellion/sha.start", "tabellion/sha.roots"], apart := false, laid := [("tabellion/sha.start", laid_tabellion_sha_start), ("tabellion/sha.roots", laid_tabellion_sha_roots)], narrowed := true }
def PathLengthsUptoSaid : Prop := pathLengthsUptoRow.holds Tryd.pinned (OpenSpec.upto pathLengthsSpec)

/-- 'tabellionlaw15.PathSteps', WHERE WHAT IT READS IS OF BULK AT MOST 1048576: true; the input reads as it did. -/
def pathStepsUptoRow : OpenClaim := { program := "ytbnpgkhdhljjlaadoor", sum := "b300965a63b46e7574449ee5441309c95034bc153aef24939d26ba88957d28ce", func := "tabellion/tabellionlaw15.PathSteps", spec := "pathSteps", recurses := true, named := ["tabellion/sha.start", "tabellion/sha.roots"], apart := false, laid := [("tabellion/sha.start", laid_tabellion_sha_start), ("tabellion/sha.roots", laid_tabellion_sha_roots)], narrowed := true }
def PathStepsUptoSaid : Prop := pathStepsUptoRow.holds Tryd.pinned (OpenSpec.upto pathStepsSpec)

end Rows
end Go.Proofs.YtbnpgkhdhljjlaaDoor
