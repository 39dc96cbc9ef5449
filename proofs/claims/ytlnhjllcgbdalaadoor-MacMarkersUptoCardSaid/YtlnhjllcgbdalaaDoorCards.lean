/-
  DERIVED. GIVEN WITH THE SEED: THE CARDS: each row of YtlnhjllcgbdalaaDoorRows.lean that lists a variable, with what it lists TIED to the program's text (the seventh form; the later family's looks); each row that meets fmt, with fmt's text TOLD by the authors' own Lean function (tested against real Go, not proved from fmt's source: count such statements apart). THE CARD IS WHAT COUNTS. Prove the row's statement (the work); the ties are given (YtlnhjllcgbdalaaDoorTie.lean); close each card by the builder's one call (the guide's Derived/Test/ToyasCard.lean, 'card_holds'). Laid BY PROGRAM, IN A SANDBOX (cutbox-door.mjs). By AI agents, Wed Nov 11 2026. No macro, syntax, notation, axiom, sorry.
-/
import Derived.Test.YtlnhjllcgbdalaaDoorRows
import GoSem.ClaimSeven
namespace Go.Proofs.YtlnhjllcgbdalaaDoor
namespace Rows

/-- THE TIED CARD OF 'tabellionlaw04.MacMarks'. -/
def macMarksCard : Claim7 := { stood := { row := macMarksRow, standIns := [], harness := (true, "458d59607b8f46cf31b1bfa0ba0b05d16c969e70de57575e69545e2e54e4d4bf"), looks := false }, kinds := [], alts := [], laidByText := true, laidKinds := [.data, .data, .data], laidTests := true, laidLooks := .later }
def MacMarksCardSaid : Prop := Claim7.holds Tryd.pinned (.plain (OpenSpec.ofChange macMarksSpec)) macMarksCard

/-- THE TIED CARD OF 'tabellionlaw04.MacMarkers'. -/
def macMarkersCard : Claim7 := { stood := { row := macMarkersRow, standIns := [], harness := (true, "458d59607b8f46cf31b1bfa0ba0b05d16c969e70de57575e69545e2e54e4d4bf"), looks := false }, kinds := [], alts := [], laidByText := true, laidKinds := [.data, .data, .data], laidTests := true, laidLooks := .later }
def MacMarkersCardSaid : Prop := Claim7.holds Tryd.pinned (.plain (OpenSpec.ofChange macMarkersSpec)) macMarkersCard

/-- THE TIED CARD OF 'tabellionlaw04.MacKeys'. -/
def macKeysCard : Claim7 := { stood := { row := macKeysRow, standIns := [], harness := (true, "458d59607b8f46cf31b1bfa0ba0b05d16c969e70de57575e69545e2e54e4d4bf"), looks := false }, kinds := [], alts := [], laidByText := true, laidKinds := [.data, .data], laidTests := true, laidLooks := .later }
def MacKeysCardSaid : Prop := Claim7.holds Tryd.pinned (.plain (OpenSpec.ofChange macKeysSpec)) macKeysCard

/-- THE TIED CARD OF 'tabellionlaw04.MacNests'. -/
def macNestsCard : Claim7 := { stood := { row := macNestsRow, standIns := [], harness := (true, "458d59607b8f46cf31b1bfa0ba0b05d16c969e70de57575e69545e2e54e4d4bf"), looks := false }, kinds := [], alts := [], laidByText := true, laidKinds := [.data, .data], laidTests := true, laidLooks := .later }
def MacNestsCardSaid : Prop := Claim7.holds Tryd.pinned (.plain (OpenSpec.ofChange macNestsSpec)) macNestsCard

/-- THE SECOND FORM's CARD OF 'tabellionlaw04.MacMarks'. -/
def macMarksUptoCard : Claim7 := { stood := { row := macMarksUptoRow, standIns := [], harness := (true, "458d59607b8f46cf31b1bfa0ba0b05d16c969e70de57575e69545e2e54e4d4bf"), looks := false }, kinds := [], alts := [], laidByText := true, laidKinds := [.data, .data, .data], laidTests := true, laidLooks := .later }
def MacMarksUptoCardSaid : Prop := Claim7.holds Tryd.pinned (.plain (OpenSpec.upto macMarksSpec)) macMarksUptoCard

/-- THE SECOND FORM's CARD OF 'tabellionlaw04.MacMarkers'. -/
def macMarkersUptoCard : Claim7 := { stood := { row := macMarkersUptoRow, standIns := [], harness := (true, "458d59607b8f46cf31b1bfa0ba0b05d16c969e70de57575e69545e2e54e4d4bf"), looks := false }, kinds := [], alts := [], laidByText := true, laidKinds := [.data, .data, .data], laidTests := true, laidLooks := .later }
def MacMarkersUptoCardSaid : Prop := Claim7.holds Tryd.pinned (.plain (OpenSpec.upto macMarkersSpec)) macMarkersUptoCard

/-- THE SECOND FORM's CARD OF 'tabellionlaw04.MacKeys'. -/
def macKeysUptoCard : Claim7 := { stood := { row := macKeysUptoRow, standIns := [], harness := (true, "458d59607b8f46cf31b1bfa0ba0b05d16c969e70de57575e69545e2e54e4d4bf"), looks := false }, kinds := [], alts := [], laidByText := true, laidKinds := [.data, .data], laidTests := true, laidLooks := .later }
def MacKeysUptoCardSaid : Prop := Claim7.holds Tryd.pinned (.plain (OpenSpec.upto macKeysSpec)) macKeysUptoCard

/-- THE SECOND FORM's CARD OF 'tabellionlaw04.MacNests'. -/
def macNestsUptoCard : Claim7 := { stood := { row := macNestsUptoRow, standIns := [], harness := (true, "458d59607b8f46cf31b1bfa0ba0b05d16c969e70de57575e69545e2e54e4d4bf"), looks := false }, kinds := [], alts := [], laidByText := true, laidKinds := [.data, .data], laidTests := true, laidLooks := .later }
def MacNestsUptoCardSaid : Prop := Claim7.holds Tryd.pinned (.plain (OpenSpec.upto macNestsSpec)) macNestsUptoCard
end Rows
end Go.Proofs.YtlnhjllcgbdalaaDoor
