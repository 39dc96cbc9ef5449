/-
  No cell of these rows narrows 'for every input' (looked for: loops, veiled, ifaces, maps, wideKeys, modest, calm, conditions, laid).
  DERIVED. THE GIVEN ROWS OF THIS SEAT. 5 by the template 'for every input the law returns true; each argument reads behind the call as it read before'; 0 by the template 'total and deterministic' (their statements: YtejmmjlmnfnacaaTotals.lean).
  GIVEN WITH THE SEED: the statements are not yours to turn. If you find one false, say at which input.
  Laid BY PROGRAM, IN A SANDBOX (cutbox-rows.mjs): the forced cells as the released guide's own fill.sh prints them over the translation 2b4598c379fdb27c… (all of the seat's roots in one cut). By AI agents, Wed Nov 11 2026. No macro, syntax, notation, axiom, sorry.
-/
import Derived.Test.YtejmmjlmnfnacaaChecked
import GoSem.Claim
import GoSem.ClaimJoined
import GoSem.ClaimMapViews
import Derived.JoinedTies
import Derived.KernelRfl
namespace Go.Proofs.Ytejmmjlmnfnacaa
/- THE CELL 'sum', in the pinned program and in every row, IS THE sha256 OF THE DUMP (.gsa) THAT YtejmmjlmnfnacaaProg.lean LOADS. Nothing in Lean hashes anything: it is a label: what it is worth is what the hold of that sum in a sandbox is worth. -/
noncomputable def Try.pinned : Pinned := { name := "ytejmmjlmnfnacaa", sum := "2b4598c379fdb27c2ab35d292cd9fde12a6ce063bb6d8a40cb0952546509b525", checked := Try.checked }
namespace Rows
def none {H : Type} : Left H := { results := [], args := [] }

/-- 'tabellionlaw10.CellAll': WHATEVER THE INPUT: true; the input reads as it did. -/
def cellAllSpec : ChangeSpec := { name := "cellAll", fn := fun _ => fun
  | [d1, d2, d3, d4] => { results := [.lit (.bool true)], args := [d1, d2, d3, d4] }
  | _ => none }
def cellAllRow : OpenClaim := { program := "ytejmmjlmnfnacaa", sum := "2b4598c379fdb27c2ab35d292cd9fde12a6ce063bb6d8a40cb0952546509b525", func := "tabellion/tabellionlaw10.CellAll", spec := "cellAll", unfollowed := true, recurses := true, apart := false }
def CellAllSaid : Prop := cellAllRow.holds Try.pinned (OpenSpec.ofChange cellAllSpec)

/-- ITS FALSE NEIGHBOUR: 'it returns false'. Refute it at one input. -/
def cellAllWrong : ChangeSpec := { name := "cellAll", fn := fun _ => fun
  | [d1, d2, d3, d4] => { results := [.lit (.bool false)], args := [d1, d2, d3, d4] }
  | _ => none }
def CellAllWrongFalsely : Prop := cellAllRow.holds Try.pinned (OpenSpec.ofChange cellAllWrong)

/-- 'tabellionlaw10.CellNil': WHATEVER THE INPUT: true; the input reads as it did. -/
def cellNilSpec : ChangeSpec := { name := "cellNil", fn := fun _ => fun
  | [d1, d2] => { results := [.lit (.bool true)], args := [d1, d2] }
  | _ => none }
def cellNilRow : OpenClaim := { program := "ytejmmjlmnfnacaa", sum := "2b4598c379fdb27c2ab35d292cd9fde12a6ce063bb6d8a40cb0952546509b525", func := "tabellion/tabellionlaw10.CellNil", spec := "cellNil", unfollowed := true, recurses := true, apart := false }
def CellNilSaid : Prop := cellNilRow.holds Try.pinned (OpenSpec.ofChange cellNilSpec)

/-- ITS FALSE NEIGHBOUR: 'it returns false'. Refute it at one input. -/
def cellNilWrong : ChangeSpec := { name := "cellNil", fn := fun _ => fun
  | [d1, d2] => { results := [.lit (.bool false)], args := [d1, d2] }
  | _ => none }
def CellNilWrongFalsely : Prop := cellNilRow.holds Try.pinned (OpenSpec.ofChange cellNilWrong)

/-- 'tabellionlaw11.VaultAll': WHATEVER THE INPUT: true; the input reads as it did. -/
def vaultAllSpec : ChangeSpec := { name := "vaultAll", fn := fun _ => fun
  | [d1, d2, d3, d4, d5] => { results := [.lit (.bool true)], args := [d1, d2, d3, d4, d5] }
  | _ => none }
def vaultAllRow : OpenClaim := { program := "ytejmmjlmnfnacaa", sum := "2b4598c379fdb27c2ab35d292cd9fde12a6ce063bb6d8a40cb0952546509b525", func := "tabellion/tabellionlaw11.VaultAll", spec := "vaultAll", apart := false }
def VaultAllSaid : Prop := vaultAllRow.holds Try.pinned (OpenSpec.ofChange vaultAllSpec)

/-- ITS FALSE NEIGHBOUR: 'it returns false'. Refute it at one input. -/
def vaultAllWrong : ChangeSpec := { name := "vaultAll", fn := fun _ => fun
  | [d1, d2, d3, d4, d5] => { results := [.lit (.bool false)], args := [d1, d2, d3, d4, d5] }
  | _ => none }
def VaultAllWrongFalsely : Prop := vaultAllRow.holds Try.pinned (OpenSpec.ofChange vaultAllWrong)

/-- 'tabellionlaw11.VaultLong': WHATEVER THE INPUT: true; the input reads as it did. -/
def vaultLongSpec : ChangeSpec := { name := "vaultLong", fn := fun _ => fun
  | [d1, d2] => { results := [.lit (.bool true)], args := [d1, d2] }
  | _ => none }
def vaultLongRow : OpenClaim := { program := "ytejmmjlmnfnacaa", sum := "2b4598c379fdb27c2ab35d292cd9fde12a6ce063bb6d8a40cb0952546509b525", func := "tabellion/tabellionlaw11.VaultLong", spec := "vaultLong", apart := false }
def VaultLongSaid : Prop := vaultLongRow.holds Try.pinned (OpenSpec.ofChange vaultLongSpec)

/-- ITS FALSE NEIGHBOUR: 'it returns false'. Refute it at one input. -/
def vaultLongWrong : ChangeSpec := { name := "vaultLong", fn := fun _ => fun
  | [d1, d2] => { results := [.lit (.bool false)], args := [d1, d2] }
  | _ => none }
def VaultLongWrongFalsely : Prop := vaultLongRow.holds Try.pinned (OpenSpec.ofChange vaultLongWrong)

/-- 'tabellionlaw11.VaultNil': WHATEVER THE INPUT: true; the input reads as it did. -/
def vaultNilSpec : ChangeSpec := { name := "vaultNil", fn := fun _ => fun
  | [d1, d2] => { results := [.lit (.bool true)], args := [d1, d2] }
  | _ => none }
def vaultNilRow : OpenClaim := { program := "ytejmmjlmnfnacaa", sum := "2b4598c379fdb27c2ab35d292cd9fde12a6ce063bb6d8a40cb0952546509b525", func := "tabellion/tabellionlaw11.VaultNil", spec := "vaultNil", apart := false }
def VaultNilSaid : Prop := vaultNilRow.holds Try.pinned (OpenSpec.ofChange vaultNilSpec)

/-- ITS FALSE NEIGHBOUR: 'it returns false'. Refute it at one input. -/
def vaultNilWrong : ChangeSpec := { name := "vaultNil", fn := fun _ => fun
  | [d1, d2] => { results := [.lit (.bool false)], args := [d1, d2] }
  | _ => none }
def VaultNilWrongFalsely : Prop := vaultNilRow.holds Try.pinned (OpenSpec.ofChange vaultNilWrong)

/- THE SECOND FORM. 'bulk': how many values and letters a reading holds, each counted each time it is reached (what is shared counts as often as it is met; a slice's spare places count too). A statement '..UptoSaid' is the law's where the arguments, and the package variables that the reading takes, are together of bulk at most 1048576: NARROWER than '..Said'. Prove '..Said' where nothing that the law and all that it calls make is longer than what came in: it says more and counts as full. Else prove '..UptoSaid'. A law counts once. -/
mutual
def uptoBulk {H : Type} : DataW H → Nat
  | .lit (.string bytes) => bytes.length + 1
  | .lit _ => 1
  | .nil => 1
  | .ptr d => uptoBulk d + 1
  | .slice elems spare => uptoBulkAll elems + uptoBulkAll spare + 1
  | .agg parts => uptoBulkAll parts + 1
  | .iface _ d => uptoBulk d + 1
  | .map entries => uptoBulkEntries entries + 1
  | .held _ => 1
def uptoBulkAll {H : Type} : List (DataW H) → Nat
  | [] => 0
  | d :: r => uptoBulk d + uptoBulkAll r
def uptoBulkEntries {H : Type} : List (Lit × DataW H) → Nat
  | [] => 0
  | x :: r => uptoBulkEntry x + uptoBulkEntries r
def uptoBulkEntry {H : Type} : Lit × DataW H → Nat
  | (.string bytes, d) => bytes.length + uptoBulk d + 1
  | (_, d) => uptoBulk d + 1
 end
def uptoSmall : (H : Type) → List (DataW H) → Bool := fun _ ds => decide (uptoBulkAll ds ≤ 1048576)
def OpenSpec.upto (s : _root_.Go.ChangeSpec) : _root_.Go.OpenSpec := { _root_.Go.OpenSpec.ofChange s with cond := some uptoSmall }

/-- 'tabellionlaw10.CellAll', WHERE WHAT IT READS IS OF BULK AT MOST 1048576: true; the input reads as it did. -/
def cellAllUptoRow : OpenClaim := { program := "ytejmmjlmnfnacaa", sum := "2b4598c379fdb27c2ab35d292cd9fde12a6ce063bb6d8a40cb0952546509b525", func := "tabellion/tabellionlaw10.CellAll", spec := "cellAll", unfollowed := true, recurses := true, apart := false, narrowed := true }
def CellAllUptoSaid : Prop := cellAllUptoRow.holds Try.pinned (OpenSpec.upto cellAllSpec)

/-- 'tabellionlaw10.CellNil', WHERE WHAT IT READS IS OF BULK AT MOST 1048576: true; the input reads as it did. -/
def cellNilUptoRow : OpenClaim := { program := "ytejmmjlmnfnacaa", sum := "2b4598c379fdb27c2ab35d292cd9fde12a6ce063bb6d8a40cb0952546509b525", func := "tabellion/tabellionlaw10.CellNil", spec := "cellNil", unfollowed := true, recurses := true, apart := false, narrowed := true }
def CellNilUptoSaid : Prop := cellNilUptoRow.holds Try.pinned (OpenSpec.upto cellNilSpec)

/-- 'tabellionlaw11.VaultAll', WHERE WHAT IT READS IS OF BULK AT MOST 1048576: true; the input reads as it did. -/
def vaultAllUptoRow : OpenClaim := { program := "ytejmmjlmnfnacaa", sum := "2b4598c379fdb27c2ab35d292cd9fde12a6ce063bb6d8a40cb0952546509b525", func := "tabellion/tabellionlaw11.VaultAll", spec := "vaultAll", apart := false, narrowed := true }
def VaultAllUptoSaid : Prop := vaultAllUptoRow.holds Try.pinned (OpenSpec.upto vaultAllSpec)

/-- 'tabellionlaw11.VaultLong', WHERE WHAT IT READS IS OF BULK AT MOST 1048576: true; the input reads as it did. -/
def vaultLongUptoRow : OpenClaim := { program := "ytejmmjlmnfnacaa", sum := "2b4598c379fdb27c2ab35d292cd9fde12a6ce063bb6d8a40cb0952546509b525", func := "tabellion/tabellionlaw11.VaultLong", spec := "vaultLong", apart := false, narrowed := true }
def VaultLongUptoSaid : Prop := vaultLongUptoRow.holds Try.pinned (OpenSpec.upto vaultLongSpec)

/-- 'tabellionlaw11.VaultNil', WHERE WHAT IT READS IS OF BULK AT MOST 1048576: true; the input reads as it did. -/
def vaultNilUptoRow : OpenClaim := { program := "ytejmmjlmnfnacaa", sum := "2b4598c379fdb27c2ab35d292cd9fde12a6ce063bb6d8a40cb0952546509b525", func := "tabellion/tabellionlaw11.VaultNil", spec := "vaultNil", apart := false, narrowed := true }
def VaultNilUptoSaid : Prop := vaultNilUptoRow.holds Try.pinned (OpenSpec.upto vaultNilSpec)

end Rows
end Go.Proofs.Ytejmmjlmnfnacaa
