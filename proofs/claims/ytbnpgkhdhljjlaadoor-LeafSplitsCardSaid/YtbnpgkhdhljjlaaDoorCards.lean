/-
  DERIVED. GIVEN WITH THE SEED: THE CARDS: each row of YtbnpgkhdhljjlaaDoorRows.lean that lists a variable, with what it lists TIED to the program's text (the seventh form; the later family's looks); each row that meets fmt, with fmt's text TOLD by the authors' own Lean function (tested against real Go, not proved from fmt's source: count such statements apart). THE CARD IS WHAT COUNTS. Prove the row's statement (the work); the ties are given (YtbnpgkhdhljjlaaDoorTie.lean); close each card by the builder's one call (the guide's Derived/Test/ToyasCard.lean, 'card_holds'). Laid BY PROGRAM, IN A SANDBOX (cutbox-door.mjs). By AI agents, Wed Nov 11 2026. No macro, syntax, notation, axiom, sorry.
-/
import Derived.Test.YtbnpgkhdhljjlaaDoorRows
import GoSem.ClaimSeven
namespace Go.Proofs.YtbnpgkhdhljjlaaDoor
namespace Rows

/-- THE TIED CARD OF 'tabellionlaw14.LeafRoots'. -/
def leafRootsCard : Claim7 := { stood := { row := leafRootsRow, standIns := [], harness := (true, "36f0c0700e7c5a9356098151a0dd9e1ca99d90a489a9390b4669858a9a87b1c9"), looks := false }, kinds := [], alts := [], laidByText := true, laidKinds := [.data, .data, .data], laidTests := true, laidLooks := .later }
def LeafRootsCardSaid : Prop := Claim7.holds Tryd.pinned (.plain (OpenSpec.ofChange leafRootsSpec)) leafRootsCard

/-- THE TIED CARD OF 'tabellionlaw14.LeafGrows'. -/
def leafGrowsCard : Claim7 := { stood := { row := leafGrowsRow, standIns := [], harness := (true, "36f0c0700e7c5a9356098151a0dd9e1ca99d90a489a9390b4669858a9a87b1c9"), looks := false }, kinds := [], alts := [], laidByText := true, laidKinds := [.data, .data, .data], laidTests := true, laidLooks := .later }
def LeafGrowsCardSaid : Prop := Claim7.holds Tryd.pinned (.plain (OpenSpec.ofChange leafGrowsSpec)) leafGrowsCard

/-- THE TIED CARD OF 'tabellionlaw14.LeafSplits'. -/
def leafSplitsCard : Claim7 := { stood := { row := leafSplitsRow, standIns := [], harness := (true, "36f0c0700e7c5a9356098151a0dd9e1ca99d90a489a9390b4669858a9a87b1c9"), looks := false }, kinds := [], alts := [], laidByText := true, laidKinds := [.data, .data], laidTests := true, laidLooks := .later }
def LeafSplitsCardSaid : Prop := Claim7.holds Tryd.pinned (.plain (OpenSpec.ofChange leafSplitsSpec)) leafSplitsCard

/-- THE TIED CARD OF 'tabellionlaw14.LeafNarrow'. -/
def leafNarrowCard : Claim7 := { stood := { row := leafNarrowRow, standIns := [], harness := (true, "36f0c0700e7c5a9356098151a0dd9e1ca99d90a489a9390b4669858a9a87b1c9"), looks := false }, kinds := [], alts := [], laidByText := true, laidKinds := [.data, .data], laidTests := true, laidLooks := .later }
def LeafNarrowCardSaid : Prop := Claim7.holds Tryd.pinned (.plain (OpenSpec.ofChange leafNarrowSpec)) leafNarrowCard

/-- THE TIED CARD OF 'tabellionlaw15.PathProves'. -/
def pathProvesCard : Claim7 := { stood := { row := pathProvesRow, standIns := [], harness := (true, "36f0c0700e7c5a9356098151a0dd9e1ca99d90a489a9390b4669858a9a87b1c9"), looks := false }, kinds := [], alts := [], laidByText := true, laidKinds := [.data, .data, .data], laidTests := true, laidLooks := .later }
def PathProvesCardSaid : Prop := Claim7.holds Tryd.pinned (.plain (OpenSpec.ofChange pathProvesSpec)) pathProvesCard

/-- THE TIED CARD OF 'tabellionlaw15.PathClimbs'. -/
def pathClimbsCard : Claim7 := { stood := { row := pathClimbsRow, standIns := [], harness := (true, "36f0c0700e7c5a9356098151a0dd9e1ca99d90a489a9390b4669858a9a87b1c9"), looks := false }, kinds := [], alts := [], laidByText := true, laidKinds := [.data, .data, .data], laidTests := true, laidLooks := .later }
def PathClimbsCardSaid : Prop := Claim7.holds Tryd.pinned (.plain (OpenSpec.ofChange pathClimbsSpec)) pathClimbsCard

/-- THE TIED CARD OF 'tabellionlaw15.PathPasses'. -/
def pathPassesCard : Claim7 := { stood := { row := pathPassesRow, standIns := [], harness := (true, "36f0c0700e7c5a9356098151a0dd9e1ca99d90a489a9390b4669858a9a87b1c9"), looks := false }, kinds := [], alts := [], laidByText := true, laidKinds := [.data, .data], laidTests := true, laidLooks := .later }
def PathPassesCardSaid : Prop := Claim7.holds Tryd.pinned (.plain (OpenSpec.ofChange pathPassesSpec)) pathPassesCard

/-- THE TIED CARD OF 'tabellionlaw15.PathLengths'. -/
def pathLengthsCard : Claim7 := { stood := { row := pathLengthsRow, standIns := [], harness := (true, "36f0c0700e7c5a9356098151a0dd9e1ca99d90a489a9390b4669858a9a87b1c9"), looks := false }, kinds := [], alts := [], laidByText := true, laidKinds := [.data, .data], laidTests := true, laidLooks := .later }
def PathLengthsCardSaid : Prop := Claim7.holds Tryd.pinned (.plain (OpenSpec.ofChange pathLengthsSpec)) pathLengthsCard

/-- THE TIED CARD OF 'tabellionlaw15.PathSteps'. -/
def pathStepsCard : Claim7 := { stood := { row := pathStepsRow, standIns := [], harness := (true, "36f0c0700e7c5a9356098151a0dd9e1ca99d90a489a9390b4669858a9a87b1c9"), looks := false }, kinds := [], alts := [], laidByText := true, laidKinds := [.data, .data], laidTests := true, laidLooks := .later }
def PathStepsCardSaid : Prop := Claim7.holds Tryd.pinned (.plain (OpenSpec.ofChange pathStepsSpec)) pathStepsCard

/-- THE SECOND FORM's CARD OF 'tabellionlaw14.LeafRoots'. -/
def leafRootsUptoCard : Claim7 := { stood := { row := leafRootsUptoRow, standIns := [], harness := (true, "36f0c0700e7c5a9356098151a0dd9e1ca99d90a489a9390b4669858a9a87b1c9"), looks := false }, kinds := [], alts := [], laidByText := true, laidKinds := [.data, .data, .data], laidTests := true, laidLooks := .later }
def LeafRootsUptoCardSaid : Prop := Claim7.holds Tryd.pinned (.plain (OpenSpec.upto leafRootsSpec)) leafRootsUptoCard

/-- THE SECOND FORM's CARD OF 'tabellionlaw14.LeafGrows'. -/
def leafGrowsUptoCard : Claim7 := { stood := { row := leafGrowsUptoRow, standIns := [], harness := (true, "36f0c0700e7c5a9356098151a0dd9e1ca99d90a489a9390b4669858a9a87b1c9"), looks := false }, kinds := [], alts := [], laidByText := true, laidKinds := [.data, .data, .data], laidTests := true, laidLooks := .later }
def LeafGrowsUptoCardSaid : Prop := Claim7.holds Tryd.pinned (.plain (OpenSpec.upto leafGrowsSpec)) leafGrowsUptoCard

/-- THE SECOND FORM's CARD OF 'tabellionlaw14.LeafSplits'. -/
def leafSplitsUptoCard : Claim7 := { stood := { row := leafSplitsUptoRow, standIns := [], harness := (true, "36f0c0700e7c5a9356098151a0dd9e1ca99d90a489a9390b4669858a9a87b1c9"), looks := false }, kinds := [], alts := [], laidByText := true, laidKinds := [.data, .data], laidTests := true, laidLooks := .later }
def LeafSplitsUptoCardSaid : Prop := Claim7.holds Tryd.pinned (.plain (OpenSpec.upto leafSplitsSpec)) leafSplitsUptoCard

/-- THE SECOND FORM's CARD OF 'tabellionlaw14.LeafNarrow'. -/
def leafNarrowUptoCard : Claim7 := { stood := { row := leafNarrowUptoRow, standIns := [], harness := (true, "36f0c0700e7c5a9356098151a0dd9e1ca99d90a489a9390b4669858a9a87b1c9"), looks := false }, kinds := [], alts := [], laidByText := true, laidKinds := [.data, .data], laidTests := true, laidLooks := .later }
def LeafNarrowUptoCardSaid : Prop := Claim7.holds Tryd.pinned (.plain (OpenSpec.upto leafNarrowSpec)) leafNarrowUptoCard

/-- THE SECOND FORM's CARD OF 'tabellionlaw15.PathProves'. -/
def pathProvesUptoCard : Claim7 := { stood := { row := pathProvesUptoRow, standIns := [], harness := (true, "36f0c0700e7c5a9356098151a0dd9e1ca99d90a489a9390b4669858a9a87b1c9"), looks := false }, kinds := [], alts := [], laidByText := true, laidKinds := [.data, .data, .data], laidTests := true, laidLooks := .later }
def PathProvesUptoCardSaid : Prop := Claim7.holds Tryd.pinned (.plain (OpenSpec.upto pathProvesSpec)) pathProvesUptoCard

/-- THE SECOND FORM's CARD OF 'tabellionlaw15.PathClimbs'. -/
def pathClimbsUptoCard : Claim7 := { stood := { row := pathClimbsUptoRow, standIns := [], harness := (true, "36f0c0700e7c5a9356098151a0dd9e1ca99d90a489a9390b4669858a9a87b1c9"), looks := false }, kinds := [], alts := [], laidByText := true, laidKinds := [.data, .data, .data], laidTests := true, laidLooks := .later }
def PathClimbsUptoCardSaid : Prop := Claim7.holds Tryd.pinned (.plain (OpenSpec.upto pathClimbsSpec)) pathClimbsUptoCard

/-- THE SECOND FORM's CARD OF 'tabellionlaw15.PathPasses'. -/
def pathPassesUptoCard : Claim7 := { stood := { row := pathPassesUptoRow, standIns := [], harness := (true, "36f0c0700e7c5a9356098151a0dd9e1ca99d90a489a9390b4669858a9a87b1c9"), looks := false }, kinds := [], alts := [], laidByText := true, laidKinds := [.data, .data], laidTests := true, laidLooks := .later }
def PathPassesUptoCardSaid : Prop := Claim7.holds Tryd.pinned (.plain (OpenSpec.upto pathPassesSpec)) pathPassesUptoCard

/-- THE SECOND FORM's CARD OF 'tabellionlaw15.PathLengths'. -/
def pathLengthsUptoCard : Claim7 := { stood := { row := pathLengthsUptoRow, standIns := [], harness := (true, "36f0c0700e7c5a9356098151a0dd9e1ca99d90a489a9390b4669858a9a87b1c9"), looks := false }, kinds := [], alts := [], laidByText := true, laidKinds := [.data, .data], laidTests := true, laidLooks := .later }
def PathLengthsUptoCardSaid : Prop := Claim7.holds Tryd.pinned (.plain (OpenSpec.upto pathLengthsSpec)) pathLengthsUptoCard

/-- THE SECOND FORM's CARD OF 'tabellionlaw15.PathSteps'. -/
def pathStepsUptoCard : Claim7 := { stood := { row := pathStepsUptoRow, standIns := [], harness := (true, "36f0c0700e7c5a9356098151a0dd9e1ca99d90a489a9390b4669858a9a87b1c9"), looks := false }, kinds := [], alts := [], laidByText := true, laidKinds := [.data, .data], laidTests := true, laidLooks := .later }
def PathStepsUptoCardSaid : Prop := Claim7.holds Tryd.pinned (.plain (OpenSpec.upto pathStepsSpec)) pathStepsUptoCard
end Rows
end Go.Proofs.YtbnpgkhdhljjlaaDoor
