/-
  NARROWER THAN 'FOR EVERY INPUT', by the rows' own cells (each row's printed sentence says how): PathProves: laid · PathClimbs: laid · PathPasses: laid · PathLengths: laid · PathSteps: laid · GrowthProves: laid · GrowthClimbs: laid · GrowthPasses: laid · GrowthOther: laid · GrowthLengths: laid.
  DERIVED. THE GIVEN ROWS OF THIS SEAT. 10 by the template 'for every input the law returns true; each argument reads behind the call as it read before'; 0 by the template 'total and deterministic' (their statements: YtdhfabjkpffhnabDoorTotals.lean).
  GIVEN WITH THE SEED: the statements are not yours to turn. If you find one false, say at which input.
  Laid BY PROGRAM, IN A SANDBOX (cutbox-rows.mjs): the forced cells as the released guide's own fill.sh prints them over the translation af03ddd8dd975b3d… (all of the seat's roots in one cut). By AI agents, Wed Nov 11 2026. No macro, syntax, notation, axiom, sorry.
-/
import Derived.Test.YtdhfabjkpffhnabDoorChecked
import GoSem.Claim
import GoSem.ClaimJoined
import GoSem.ClaimMapViews
import Derived.JoinedTies
import Derived.KernelRfl
namespace Go.Proofs.YtdhfabjkpffhnabDoor
/- THE CELL 'sum', in the pinned program and in every row, IS THE sha256 OF THE DUMP (.gsa) THAT YtdhfabjkpffhnabDoorProg.lean LOADS. Nothing in Lean hashes anything: it is a label: what it is worth is what the hold of that sum in a sandbox is worth. -/
noncomputable def Tryd.pinned : Pinned := { name := "ytdhfabjkpffhnabdoor", sum := "af03ddd8dd975b3d3734f902549dcc22e111a2aecf4efd62a4fce0b0be950b95", checked := Tryd.checked }
namespace Rows
def none {H : Type} : Left H := { results := [], args := [] }

/- WHAT THE LISTED PACKAGE-LEVEL VARIABLES READ AS WHEN THE CALL BEGINS. Each datum BY PROGRAM (the guide's laid-datum.mjs) off the statement by which the dump's own 'gosem.cut.vars' lays the variable. In a bare row this is a premise. The card (YtdhfabjkpffhnabDoorCards.lean) ties it to the program's text. -/
def laid_tabellion_sha_start {H : Type} : DataW H := .agg [.lit (.int .u32 1779033703), .lit (.int .u32 3144134277), .lit (.int .u32 1013904242), .lit (.int .u32 2773480762), .lit (.int .u32 1359893119), .lit (.int .u32 2600822924), .lit (.int .u32 528734635), .lit (.int .u32 1541459225)]
def laid_tabellion_sha_roots {H : Type} : DataW H := .agg [.lit (.int .u32 1116352408), .lit (.int .u32 1899447441), .lit (.int .u32 3049323471), .lit (.int .u32 3921009573), .lit (.int .u32 961987163), .lit (.int .u32 1508970993), .lit (.int .u32 2453635748), .lit (.int .u32 2870763221), .lit (.int .u32 3624381080), .lit (.int .u32 310598401), .lit (.int .u32 607225278), .lit (.int .u32 1426881987), .lit (.int .u32 1925078388), .lit (.int .u32 2162078206), .lit (.int .u32 2614888103), .lit (.int .u32 3248222580), .lit (.int .u32 3835390401), .lit (.int .u32 4022224774), .lit (.int .u32 264347078), .lit (.int .u32 604807628), .lit (.int .u32 770255983), .lit (.int .u32 1249150122), .lit (.int .u32 1555081692), .lit (.int .u32 1996064986), .lit (.int .u32 2554220882), .lit (.int .u32 2821834349), .lit (.int .u32 2952996808), .lit (.int .u32 3210313671), .lit (.int .u32 3336571891), .lit (.int .u32 3584528711), .lit (.int .u32 113926993), .lit (.int .u32 338241895), .lit (.int .u32 666307205), .lit (.int .u32 773529912), .lit (.int .u32 1294757372), .lit (.int .u32 1396182291), .lit (.int .u32 1695183700), .lit (.int .u32 1986661051), .lit (.int .u32 2177026350), .lit (.int .u32 2456956037), .lit (.int .u32 2730485921), .lit (.int .u32 2820302411), .lit (.int .u32 3259730800), .lit (.int .u32 3345764771), .lit (.int .u32 3516065817), .lit (.int .u32 3600352804), .lit (.int .u32 4094571909), .lit (.int .u32 275423344), .lit (.int .u32 430227734), .lit (.int .u32 506948616), .lit (.int .u32 659060556), .lit (.int .u32 883997877), .lit (.int .u32 958139571), .lit (.int .u32 1322822218), .lit (.int .u32 1537002063), .lit (.int .u32 1747873779), .lit (.int .u32 1955562222), .lit (.int .u32 2024104815), .lit (.int .u32 2227730452), .lit (.int .u32 2361852424), .lit (.int .u32 2428436474), .lit (.int .u32 2756734187), .lit (.int .u32 3204031479), .lit (.int .u32 3329325298)]
def laid_tabellion_tabellionref03_constants {H : Type} : DataW H := .agg [.lit (.int .u32 1116352408), .lit (.int .u32 1899447441), .lit (.int .u32 3049323471), .lit (.int .u32 3921009573), .lit (.int .u32 961987163), .lit (.int .u32 1508970993), .lit (.int .u32 2453635748), .lit (.int .u32 2870763221), .lit (.int .u32 3624381080), .lit (.int .u32 310598401), .lit (.int .u32 607225278), .lit (.int .u32 1426881987), .lit (.int .u32 1925078388), .lit (.int .u32 2162078206), .lit (.int .u32 2614888103), .lit (.int .u32 3248222580), .lit (.int .u32 3835390401), .lit (.int .u32 4022224774), .lit (.int .u32 264347078), .lit (.int .u32 604807628), .lit (.int .u32 770255983), .lit (.int .u32 1249150122), .lit (.int .u32 1555081692), .lit (.int .u32 1996064986), .lit (.int .u32 2554220882), .lit (.int .u32 2821834349), .lit (.int .u32 2952996808), .lit (.int .u32 3210313671), .lit (.int .u32 3336571891), .lit (.int .u32 3584528711), .lit (.int .u32 113926993), .lit (.int .u32 338241895), .lit (.int .u32 666307205), .lit (.int .u32 773529912), .lit (.int .u32 1294757372), .lit (.int .u32 1396182291), .lit (.int .u32 1695183700), .lit (.int .u32 1986661051), .lit (.int .u32 2177026350), .lit (.int .u32 2456956037), .lit (.int .u32 2730485921), .lit (.int .u32 2820302411), .lit (.int .u32 3259730800), .lit (.int .u32 3345764771), .lit (.int .u32 3516065817), .lit (.int .u32 3600352804), .lit (.int .u32 4094571909), .lit (.int .u32 275423344), .lit (.int .u32 430227734), .lit (.int .u32 506948616), .lit (.int .u32 659060556), .lit (.int .u32 883997877), .lit (.int .u32 958139571), .lit (.int .u32 1322822218), .lit (.int .u32 1537002063), .lit (.int .u32 1747873779), .lit (.int .u32 1955562222), .lit (.int .u32 2024104815), .lit (.int .u32 2227730452), .lit (.int .u32 2361852424), .lit (.int .u32 2428436474), .lit (.int .u32 2756734187), .lit (.int .u32 3204031479), .lit (.int .u32 3329325298)]

/-- 'tabellionlaw15.PathProves': WHATEVER THE INPUT: true; the input reads as it did. -/
def pathProvesSpec : ChangeSpec := { name := "pathProves", fn := fun _ => fun
  | [d1, d2, d3, d4] => { results := [.lit (.bool true)], args := [d1, d2, d3, d4] }
  | _ => none }
def pathProvesRow : OpenClaim := { program := "ytdhfabjkpffhnabdoor", sum := "af03ddd8dd975b3d3734f902549dcc22e111a2aecf4efd62a4fce0b0be950b95", func := "tabellion/tabellionlaw15.PathProves", spec := "pathProves", recurses := true, named := ["tabellion/sha.start", "tabellion/sha.roots", "tabellion/tabellionref03.constants"], apart := false, laid := [("tabellion/sha.start", laid_tabellion_sha_start), ("tabellion/sha.roots", laid_tabellion_sha_roots), ("tabellion/tabellionref03.constants", laid_tabellion_tabellionref03_constants)] }
def PathProvesSaid : Prop := pathProvesRow.holds Tryd.pinned (OpenSpec.ofChange pathProvesSpec)

/-- ITS FALSE NEIGHBOUR: 'it returns false'. Refute it at one input. -/
def pathProvesWrong : ChangeSpec := { name := "pathProves", fn := fun _ => fun
  | [d1, d2, d3, d4] => { results := [.lit (.bool false)], args := [d1, d2, d3, d4] }
  | _ => none }
def PathProvesWrongFalsely : Prop := pathProvesRow.holds Tryd.pinned (OpenSpec.ofChange pathProvesWrong)

/-- 'tabellionlaw15.PathClimbs': WHATEVER THE INPUT: true; the input reads as it did. -/
def pathClimbsSpec : ChangeSpec := { name := "pathClimbs", fn := fun _ => fun
  | [d1, d2, d3, d4, d5] => { results := [.lit (.bool true)], args := [d1, d2, d3, d4, d5] }
  | _ => none }
def pathClimbsRow : OpenClaim := { program := "ytdhfabjkpffhnabdoor", sum := "af03ddd8dd975b3d3734f902549dcc22e111a2aecf4efd62a4fce0b0be950b95", func := "tabellion/tabellionlaw15.PathClimbs", spec := "pathClimbs", recurses := true, named := ["tabellion/sha.start", "tabellion/sha.roots", "tabellion/tabellionref03.constants"], apart := false, laid := [("tabellion/sha.start", laid_tabellion_sha_start), ("tabellion/sha.roots", laid_tabellion_sha_roots), ("tabellion/tabellionref03.constants", laid_tabellion_tabellionref03_constants)] }
def PathClimbsSaid : Prop := pathClimbsRow.holds Tryd.pinned (OpenSpec.ofChange pathClimbsSpec)

/-- ITS FALSE NEIGHBOUR: 'it returns false'. Refute it at one input. -/
def pathClimbsWrong : ChangeSpec := { name := "pathClimbs", fn := fun _ => fun
  | [d1, d2, d3, d4, d5] => { results := [.lit (.bool false)], args := [d1, d2, d3, d4, d5] }
  | _ => none }
def PathClimbsWrongFalsely : Prop := pathClimbsRow.holds Tryd.pinned (OpenSpec.ofChange pathClimbsWrong)

/-- 'tabellionlaw15.PathPasses': WHATEVER THE INPUT: true; the input reads as it did. -/
def pathPassesSpec : ChangeSpec := { name := "pathPasses", fn := fun _ => fun
  | [d1, d2] => { results := [.lit (.bool true)], args := [d1, d2] }
  | _ => none }
def pathPassesRow : OpenClaim := { program := "ytdhfabjkpffhnabdoor", sum := "af03ddd8dd975b3d3734f902549dcc22e111a2aecf4efd62a4fce0b0be950b95", func := "tabellion/tabellionlaw15.PathPasses", spec := "pathPasses", recurses := true, named := ["tabellion/sha.start", "tabellion/sha.roots"], apart := false, laid := [("tabellion/sha.start", laid_tabellion_sha_start), ("tabellion/sha.roots", laid_tabellion_sha_roots)] }
def PathPassesSaid : Prop := pathPassesRow.holds Tryd.pinned (OpenSpec.ofChange pathPassesSpec)

/-- ITS FALSE NEIGHBOUR: 'it returns false'. Refute it at one input. -/
def pathPassesWrong : ChangeSpec := { name := "pathPasses", fn := fun _ => fun
  | [d1, d2] => { results := [.lit (.bool false)], args := [d1, d2] }
  | _ => none }
def PathPassesWrongFalsely : Prop := pathPassesRow.holds Tryd.pinned (OpenSpec.ofChange pathPassesWrong)

/-- 'tabellionlaw15.PathLengths': WHATEVER THE INPUT: true; the input reads as it did. -/
def pathLengthsSpec : ChangeSpec := { name := "pathLengths", fn := fun _ => fun
  | [d1, d2, d3, d4, d5] => { results := [.lit (.bool true)], args := [d1, d2, d3, d4, d5] }
  | _ => none }
def pathLengthsRow : OpenClaim := { program := "ytdhfabjkpffhnabdoor", sum := "af03ddd8dd975b3d3734f902549dcc22e111a2aecf4efd62a4fce0b0be950b95", func := "tabellion/tabellionlaw15.PathLengths", spec := "pathLengths", recurses := true, named := ["tabellion/sha.start", "tabellion/sha.roots"], apart := false, laid := [("tabellion/sha.start", laid_tabellion_sha_start), ("tabellion/sha.roots", laid_tabellion_sha_roots)] }
def PathLengthsSaid : Prop := pathLengthsRow.holds Tryd.pinned (OpenSpec.ofChange pathLengthsSpec)

/-- ITS FALSE NEIGHBOUR: 'it returns false'. Refute it at one input. -/
def pathLengthsWrong : ChangeSpec := { name := "pathLengths", fn := fun _ => fun
  | [d1, d2, d3, d4, d5] => { results := [.lit (.bool false)], args := [d1, d2, d3, d4, d5] }
  | _ => none }
def PathLengthsWrongFalsely : Prop := pathLengthsRow.holds Tryd.pinned (OpenSpec.ofChange pathLengthsWrong)

/-- 'tabellionlaw15.PathSteps': WHATEVER THE INPUT: true; the input reads as it did. -/
def pathStepsSpec : ChangeSpec := { name := "pathSteps", fn := fun _ => fun
  | [d1, d2, d3, d4, d5] => { results := [.lit (.bool true)], args := [d1, d2, d3, d4, d5] }
  | _ => none }
def pathStepsRow : OpenClaim := { program := "ytdhfabjkpffhnabdoor", sum := "af03ddd8dd975b3d3734f902549dcc22e111a2aecf4efd62a4fce0b0be950b95", func := "tabellion/tabellionlaw15.PathSteps", spec := "pathSteps", recurses := true, named := ["tabellion/sha.start", "tabellion/sha.roots"], apart := false, laid := [("tabellion/sha.start", laid_tabellion_sha_start), ("tabellion/sha.roots", laid_tabellion_sha_roots)] }
def PathStepsSaid : Prop := pathStepsRow.holds Tryd.pinned (OpenSpec.ofChange pathStepsSpec)

/-- ITS FALSE NEIGHBOUR: 'it returns false'. Refute it at one input. -/
def pathStepsWrong : ChangeSpec := { name := "pathSteps", fn := fun _ => fun
  | [d1, d2, d3, d4, d5] => { results := [.lit (.bool false)], args := [d1, d2, d3, d4, d5] }
  | _ => none }
def PathStepsWrongFalsely : Prop := pathStepsRow.holds Tryd.pinned (OpenSpec.ofChange pathStepsWrong)

/-- 'tabellionlaw16.GrowthProves': WHATEVER THE INPUT: true; the input reads as it did. -/
def growthProvesSpec : ChangeSpec := { name := "growthProves", fn := fun _ => fun
  | [d1, d2, d3, d4] => { results := [.lit (.bool true)], args := [d1, d2, d3, d4] }
  | _ => none }
def growthProvesRow : OpenClaim := { program := "ytdhfabjkpffhnabdoor", sum := "af03ddd8dd975b3d3734f902549dcc22e111a2aecf4efd62a4fce0b0be950b95", func := "tabellion/tabellionlaw16.GrowthProves", spec := "growthProves", recurses := true, named := ["tabellion/sha.start", "tabellion/sha.roots", "tabellion/tabellionref03.constants"], apart := false, laid := [("tabellion/sha.start", laid_tabellion_sha_start), ("tabellion/sha.roots", laid_tabellion_sha_roots), ("tabellion/tabellionref03.constants", laid_tabellion_tabellionref03_constants)] }
def GrowthProvesSaid : Prop := growthProvesRow.holds Tryd.pinned (OpenSpec.ofChange growthProvesSpec)

/-- ITS FALSE NEIGHBOUR: 'it returns false'. Refute it at one input. -/
def growthProvesWrong : ChangeSpec := { name := "growthProves", fn := fun _ => fun
  | [d1, d2, d3, d4] => { results := [.lit (.bool false)], args := [d1, d2, d3, d4] }
  | _ => none }
def GrowthProvesWrongFalsely : Prop := growthProvesRow.holds Tryd.pinned (OpenSpec.ofChange growthProvesWrong)

/-- 'tabellionlaw16.GrowthClimbs': WHATEVER THE INPUT: true; the input reads as it did. -/
def growthClimbsSpec : ChangeSpec := { name := "growthClimbs", fn := fun _ => fun
  | [d1, d2, d3, d4, d5, d6] => { results := [.lit (.bool true)], args := [d1, d2, d3, d4, d5, d6] }
  | _ => none }
def growthClimbsRow : OpenClaim := { program := "ytdhfabjkpffhnabdoor", sum := "af03ddd8dd975b3d3734f902549dcc22e111a2aecf4efd62a4fce0b0be950b95", func := "tabellion/tabellionlaw16.GrowthClimbs", spec := "growthClimbs", recurses := true, named := ["tabellion/sha.start", "tabellion/sha.roots", "tabellion/tabellionref03.constants"], apart := false, laid := [("tabellion/sha.start", laid_tabellion_sha_start), ("tabellion/sha.roots", laid_tabellion_sha_roots), ("tabellion/tabellionref03.constants", laid_tabellion_tabellionref03_constants)] }
def GrowthClimbsSaid : Prop := growthClimbsRow.holds Tryd.pinned (OpenSpec.ofChange growthClimbsSpec)

/-- ITS FALSE NEIGHBOUR: 'it returns false'. Refute it at one input. -/
def growthClimbsWrong : ChangeSpec := { name := "growthClimbs", fn := fun _ => fun
  | [d1, d2, d3, d4, d5, d6] => { results := [.lit (.bool false)], args := [d1, d2, d3, d4, d5, d6] }
  | _ => none }
def GrowthClimbsWrongFalsely : Prop := growthClimbsRow.holds Tryd.pinned (OpenSpec.ofChange growthClimbsWrong)

/-- 'tabellionlaw16.GrowthPasses': WHATEVER THE INPUT: true; the input reads as it did. -/
def growthPassesSpec : ChangeSpec := { name := "growthPasses", fn := fun _ => fun
  | [d1, d2] => { results := [.lit (.bool true)], args := [d1, d2] }
  | _ => none }
def growthPassesRow : OpenClaim := { program := "ytdhfabjkpffhnabdoor", sum := "af03ddd8dd975b3d3734f902549dcc22e111a2aecf4efd62a4fce0b0be950b95", func := "tabellion/tabellionlaw16.GrowthPasses", spec := "growthPasses", recurses := true, named := ["tabellion/sha.start", "tabellion/sha.roots"], apart := false, laid := [("tabellion/sha.start", laid_tabellion_sha_start), ("tabellion/sha.roots", laid_tabellion_sha_roots)] }
def GrowthPassesSaid : Prop := growthPassesRow.holds Tryd.pinned (OpenSpec.ofChange growthPassesSpec)

/-- ITS FALSE NEIGHBOUR: 'it returns false'. Refute it at one input. -/
def growthPassesWrong : ChangeSpec := { name := "growthPasses", fn := fun _ => fun
  | [d1, d2] => { results := [.lit (.bool false)], args := [d1, d2] }
  | _ => none }
def GrowthPassesWrongFalsely : Prop := growthPassesRow.holds Tryd.pinned (OpenSpec.ofChange growthPassesWrong)

/-- 'tabellionlaw16.GrowthOther': WHATEVER THE INPUT: true; the input reads as it did. -/
def growthOtherSpec : ChangeSpec := { name := "growthOther", fn := fun _ => fun
  | [d1, d2, d3, d4] => { results := [.lit (.bool true)], args := [d1, d2, d3, d4] }
  | _ => none }
def growthOtherRow : OpenClaim := { program := "ytdhfabjkpffhnabdoor", sum := "af03ddd8dd975b3d3734f902549dcc22e111a2aecf4efd62a4fce0b0be950b95", func := "tabellion/tabellionlaw16.GrowthOther", spec := "growthOther", recurses := true, named := ["tabellion/sha.start", "tabellion/sha.roots"], apart := false, laid := [("tabellion/sha.start", laid_tabellion_sha_start), ("tabellion/sha.roots", laid_tabellion_sha_roots)] }
def GrowthOtherSaid : Prop := growthOtherRow.holds Tryd.pinned (OpenSpec.ofChange growthOtherSpec)

/-- ITS FALSE NEIGHBOUR: 'it returns false'. Refute it at one input. -/
def growthOtherWrong : ChangeSpec := { name := "growthOther", fn := fun _ => fun
  | [d1, d2, d3, d4] => { results := [.lit (.bool false)], args := [d1, d2, d3, d4] }
  | _ => none }
def GrowthOtherWrongFalsely : Prop := growthOtherRow.holds Tryd.pinned (OpenSpec.ofChange growthOtherWrong)

/-- 'tabellionlaw16.GrowthLengths': WHATEVER THE INPUT: true; the input reads as it did. -/
def growthLengthsSpec : ChangeSpec := { name := "growthLengths", fn := fun _ => fun
  | [d1, d2, d3, d4] => { results := [.lit (.bool true)], args := [d1, d2, d3, d4] }
  | _ => none }
def growthLengthsRow : OpenClaim := { program := "ytdhfabjkpffhnabdoor", sum := "af03ddd8dd975b3d3734f902549dcc22e111a2aecf4efd62a4fce0b0be950b95", func := "tabellion/tabellionlaw16.GrowthLengths", spec := "growthLengths", recurses := true, named := ["tabellion/sha.start", "tabellion/sha.roots"], apart := false, laid := [("tabellion/sha.start", laid_tabellion_sha_start), ("tabellion/sha.roots", laid_tabellion_sha_roots)] }
def GrowthLengthsSaid : Prop := growthLengthsRow.holds Tryd.pinned (OpenSpec.ofChange growthLengthsSpec)

/-- ITS FALSE NEIGHBOUR: 'it returns false'. Refute it at one input. -/
def growthLengthsWrong : ChangeSpec := { name := "growthLengths", fn := fun _ => fun
  | [d1, d2, d3, d4] => { results := [.lit (.bool false)], args := [d1, d2, d3, d4] }
  | _ => none }
def GrowthLengthsWrongFalsely : Prop := growthLengthsRow.holds Tryd.pinned (OpenSpec.ofChange growthLengthsWrong)

/- THE SECOND FORM. 'bulk': how many values and letters a reading holds, each counted each time it is reached (what is shared counts as often as it is met; a slice's spare places count too). A statement '..UptoSaid' is the law's where the arguments, and the package variables that the reading takes, are together of bulk at most 1048576: NARROWER than '..Said'. Prove '..Said' where nothing that the law and all that it calls make is longer than what came in: it says more and counts as full. Else prove '..UptoSaid'. A law counts once. -/
mutual
def uptoBulk {H : Type} : DataW H → Nat
  | .lit (.string bytes) => bytes.length + 1
  | .lit _ => 1
  | .nil => 1
  | .ptr d => uptoBulk d + 1
  | .slice elems spare => uptoBulkAll elems + uptoBulkAll spare + 1
  | .agg parts => uptoBulkAll parts + 1
  | .iface _ d => uptoBulk d + 1
  | .map entries => uptoBulkEntries entries + 1
  | .held _ => 1
def uptoBulkAll {H : Type} : List (DataW H) → Nat
  | [] => 0
  | d :: r => uptoBulk d + uptoBulkAll r
def uptoBulkEntries {H : Type} : List (Lit × DataW H) → Nat
  | [] => 0
  | x :: r => uptoBulkEntry x + uptoBulkEntries r
def uptoBulkEntry {H : Type} : Lit × DataW H → Nat
  | (.string bytes, d) => bytes.length + uptoBulk d + 1
  | (_, d) => uptoBulk d + 1
 end
def uptoSmall : (H : Type) → List (DataW H) → Bool := fun _ ds => decide (uptoBulkAll ds ≤ 1048576)
def OpenSpec.upto (s : _root_.Go.ChangeSpec) : _root_.Go.OpenSpec := { _root_.Go.OpenSpec.ofChange s with cond := some uptoSmall }

/-- 'tabellionlaw15.PathProves', WHERE WHAT IT READS IS OF BULK AT MOST 1048576: true; the input reads as it did. -/
def pathProvesUptoRow : OpenClaim := { program := "ytdhfabjkpffhnabdoor", sum := "af03ddd8dd975b3d3734f902549dcc22e111a2aecf4efd62a4fce0b0be950b95", func := "tabellion/tabellionlaw15.PathProves", spec := "pathProves", recurses := true, named := ["tabellion/sha.start", "tabellion/sha.roots", "tabellion/tabellionref03.constants"], apart := false, laid := [("tabellion/sha.start", laid_tabellion_sha_start), ("tabellion/sha.roots", laid_tabellion_sha_roots), ("tabellion/tabellionref03.constants", laid_tabellion_tabellionref03_constants)], narrowed := true }
def PathProvesUptoSaid : Prop := pathProvesUptoRow.holds Tryd.pinned (OpenSpec.upto pathProvesSpec)

/-- 'tabellionlaw15.PathClimbs', WHERE WHAT IT READS IS OF BULK AT MOST 1048576: true; the input reads as it did. -/
def pathClimbsUptoRow : OpenClaim := { program := "ytdhfabjkpffhnabdoor", sum := "af03ddd8dd975b3d3734f902549dcc22e111a2aecf4efd62a4fce0b0be950b95", func := "tabellion/tabellionlaw15.PathClimbs", spec := "pathClimbs", recurses := true, named := ["tabellion/sha.start", "tabellion/sha.roots", "tabellion/tabellionref03.constants"], apart := false, laid := [("tabellion/sha.start", laid_tabellion_sha_start), ("tabellion/sha.roots", laid_tabellion_sha_roots), ("tabellion/tabellionref03.constants", laid_tabellion_tabellionref03_constants)], narrowed := true }
def PathClimbsUptoSaid : Prop := pathClimbsUptoRow.holds Tryd.pinned (OpenSpec.upto pathClimbsSpec)

/-- 'tabellionlaw15.PathPasses', WHERE WHAT IT READS IS OF BULK AT MOST 1048576: true; the input reads as it did. -/
def pathPassesUptoRow : OpenClaim := { program := "ytdhfabjkpffhnabdoor", sum := "af03ddd8dd975b3d3734f902549dcc22e111a2aecf4efd62a4fce0b0be950b95", func := "tabellion/tabellionlaw15.PathPasses", spec := "pathPasses", recurses := true, named := ["tabellion/sha.start", "tabellion/sha.roots"], apart := false, laid := [("tabellion/sha.start", laid_tabellion_sha_start), ("tabellion/sha.roots", laid_tabellion_sha_roots)], narrowed := true }
def PathPassesUptoSaid : Prop := pathPassesUptoRow.holds Tryd.pinned (OpenSpec.upto pathPassesSpec)

/-- 'tabellionlaw15.PathLengths', WHERE WHAT IT READS IS OF BULK AT MOST 1048576: true; the input reads as it did. -/
def pathLengthsUptoRow : OpenClaim := { program := "ytdhfabjkpffhnabdoor", sum := "af03ddd8dd975b3d3734f902549dcc22e111a2aecf4efd62a4fce0b0be950b95", func := "tabellion/tabellionlaw15.PathLengths", spec := "pathLengths", recurses := true, named := ["tabellion/sha.start", "tabellion/sha.roots"], apart := false, laid := [("tabellion/sha.start", laid_tabellion_sha_start), ("tabellion/sha.roots", laid_tabellion_sha_roots)], narrowed := true }
def PathLengthsUptoSaid : Prop := pathLengthsUptoRow.holds Tryd.pinned (OpenSpec.upto pathLengthsSpec)

/-- 'tabellionlaw15.PathSteps', WHERE WHAT IT READS IS OF BULK AT MOST 1048576: true; the input reads as it did. -/
def pathStepsUptoRow : OpenClaim := { program := "ytdhfabjkpffhnabdoor", sum := "af03ddd8dd975b3d3734f902549dcc22e111a2aecf4efd62a4fce0b0be950b95", func := "tabellion/tabellionlaw15.PathSteps", spec := "pathSteps", recurses := true, named := ["tabellion/sha.start", "tabellion/sha.roots"], apart := false, laid := [("tabellion/sha.start", laid_tabellion_sha_start), ("tabellion/sha.roots", laid_tabellion_sha_roots)], narrowed := true }
def PathStepsUptoSaid : Prop := pathStepsUptoRow.holds Tryd.pinned (OpenSpec.upto pathStepsSpec)

/-- 'tabellionlaw16.GrowthProves', WHERE WHAT IT READS IS OF BULK AT MOST 1048576: true; the input reads as it did. -/
def growthProvesUptoRow : OpenClaim := { program := "ytdhfabjkpffhnabdoor", sum := "af03ddd8dd975b3d3734f902549dcc22e111a2aecf4efd62a4fce0b0be950b95", func := "tabellion/tabellionlaw16.GrowthProves", spec := "growthProves", recurses := true, named := ["tabellion/sha.start", "tabellion/sha.roots", "tabellion/tabellionref03.constants"], apart := false, laid := [("tabellion/sha.start", laid_tabellion_sha_start), ("tabellion/sha.roots", laid_tabellion_sha_roots), ("tabellion/tabellionref03.constants", laid_tabellion_tabellionref03_constants)], narrowed := true }
def GrowthProvesUptoSaid : Prop := growthProvesUptoRow.holds Tryd.pinned (OpenSpec.upto growthProvesSpec)

/-- 'tabellionlaw16.GrowthClimbs', WHERE WHAT IT READS IS OF BULK AT MOST 1048576: true; the input reads as it did. -/
def growthClimbsUptoRow : OpenClaim := { program := "ytdhfabjkpffhnabdoor", sum := "af03ddd8dd975b3d3734f902549dcc22e111a2aecf4efd62a4fce0b0be950b95", func := "tabellion/tabellionlaw16.GrowthClimbs", spec := "growthClimbs", recurses := true, named := ["tabellion/sha.start", "tabellion/sha.roots", "tabellion/tabellionref03.constants"], apart := false, laid := [("tabellion/sha.start", laid_tabellion_sha_start), ("tabellion/sha.roots", laid_tabellion_sha_roots), ("tabellion/tabellionref03.constants", laid_tabellion_tabellionref03_constants)], narrowed := true }
def GrowthClimbsUptoSaid : Prop := growthClimbsUptoRow.holds Tryd.pinned (OpenSpec.upto growthClimbsSpec)

/-- 'tabellionlaw16.GrowthPasses', WHERE WHAT IT READS IS OF BULK AT MOST 1048576: true; the input reads as it did. -/
def growthPassesUptoRow : OpenClaim := { program := "ytdhfabjkpffhnabdoor", sum := "af03ddd8dd975b3d3734f902549dcc22e111a2aecf4efd62a4fce0b0be950b95", func := "tabellion/tabellionlaw16.GrowthPasses", spec := "growthPasses", recurses := true, named := ["tabellion/sha.start", "tabellion/sha.roots"], apart := false, laid := [("tabellion/sha.start", laid_tabellion_sha_start), ("tabellion/sha.roots", laid_tabellion_sha_roots)], narrowed := true }
def GrowthPassesUptoSaid : Prop := growthPassesUptoRow.holds Tryd.pinned (OpenSpec.upto growthPassesSpec)

/-- 'tabellionlaw16.GrowthOther', WHERE WHAT IT READS IS OF BULK AT MOST 1048576: true; the input reads as it did. -/
def growthOtherUptoRow : OpenClaim := { program := "ytdhfabjkpffhnabdoor", sum := "af03ddd8dd975b3d3734f902549dcc22e111a2aecf4efd62a4fce0b0be950b95", func := "tabellion/tabellionlaw16.GrowthOther", spec := "growthOther", recurses := true, named := ["tabellion/sha.start", "tabellion/sha.roots"], apart := false, laid := [("tabellion/sha.start", laid_tabellion_sha_start), ("tabellion/sha.roots", laid_tabellion_sha_roots)], narrowed := true }
def GrowthOtherUptoSaid : Prop := growthOtherUptoRow.holds Tryd.pinned (OpenSpec.upto growthOtherSpec)

/-- 'tabellionlaw16.GrowthLengths', WHERE WHAT IT READS IS OF BULK AT MOST 1048576: true; the input reads as it did. -/
def growthLengthsUptoRow : OpenClaim := { program := "ytdhfabjkpffhnabdoor", sum := "af03ddd8dd975b3d3734f902549dcc22e111a2aecf4efd62a4fce0b0be950b95", func := "tabellion/tabellionlaw16.GrowthLengths", spec := "growthLengths", recurses := true, named := ["tabellion/sha.start", "tabellion/sha.roots"], apart := false, laid := [("tabellion/sha.start", laid_tabellion_sha_start), ("tabellion/sha.roots", laid_tabellion_sha_roots)], narrowed := true }
def GrowthLengthsUptoSaid : Prop := growthLengthsUptoRow.holds Tryd.pinned (OpenSpec.upto growthLengthsSpec)

end Rows
end Go.Proofs.YtdhfabjkpffhnabDoor
