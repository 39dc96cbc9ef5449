/-
  DERIVED. GIVEN WITH THE SEED: THE CARDS: each row of YtbnnjnieemjdhaaDoorRows.lean that lists a variable, with what it lists TIED to the program's text (the seventh form; the later family's looks); each row that meets fmt, with fmt's text TOLD by the authors' own Lean function (tested against real Go, not proved from fmt's source: count such statements apart). THE CARD IS WHAT COUNTS. Prove the row's statement (the work); the ties are given (YtbnnjnieemjdhaaDoorTie.lean); close each card by the builder's one call (the guide's Derived/Test/ToyasCard.lean, 'card_holds'). Laid BY PROGRAM, IN A SANDBOX (cutbox-door.mjs). By AI agents, Wed Nov 11 2026. No macro, syntax, notation, axiom, sorry.
-/
import Derived.Test.YtbnnjnieemjdhaaDoorRows
import GoSem.ClaimSeven
namespace Go.Proofs.YtbnnjnieemjdhaaDoor
namespace Rows

/-- THE TIED CARD OF 'tabellionlaw03.ShaHashes'. -/
def shaHashesCard : Claim7 := { stood := { row := shaHashesRow, standIns := [], harness := (true, "08f2d71a7420a49200beedc05d5208974a81b75132cefb1c23b50b95441f73f0"), looks := false }, kinds := [], alts := [], laidByText := true, laidKinds := [.data, .data, .data], laidTests := true, laidLooks := .later }
def ShaHashesCardSaid : Prop := Claim7.holds Tryd.pinned (.plain (OpenSpec.ofChange shaHashesSpec)) shaHashesCard

/-- THE TIED CARD OF 'tabellionlaw03.ShaStates'. -/
def shaStatesCard : Claim7 := { stood := { row := shaStatesRow, standIns := [], harness := (true, "08f2d71a7420a49200beedc05d5208974a81b75132cefb1c23b50b95441f73f0"), looks := false }, kinds := [], alts := [], laidByText := true, laidKinds := [.data, .data, .data], laidTests := true, laidLooks := .later }
def ShaStatesCardSaid : Prop := Claim7.holds Tryd.pinned (.plain (OpenSpec.ofChange shaStatesSpec)) shaStatesCard

/-- THE TIED CARD OF 'tabellionlaw03.ShaPieces'. -/
def shaPiecesCard : Claim7 := { stood := { row := shaPiecesRow, standIns := [], harness := (true, "08f2d71a7420a49200beedc05d5208974a81b75132cefb1c23b50b95441f73f0"), looks := false }, kinds := [], alts := [], laidByText := true, laidKinds := [.data, .data], laidTests := true, laidLooks := .later }
def ShaPiecesCardSaid : Prop := Claim7.holds Tryd.pinned (.plain (OpenSpec.ofChange shaPiecesSpec)) shaPiecesCard

/-- THE TIED CARD OF 'tabellionlaw03.ShaNarrows'. -/
def shaNarrowsCard : Claim7 := { stood := { row := shaNarrowsRow, standIns := [], harness := (true, "08f2d71a7420a49200beedc05d5208974a81b75132cefb1c23b50b95441f73f0"), looks := false }, kinds := [], alts := [], laidByText := true, laidKinds := [.data, .data], laidTests := true, laidLooks := .later }
def ShaNarrowsCardSaid : Prop := Claim7.holds Tryd.pinned (.plain (OpenSpec.ofChange shaNarrowsSpec)) shaNarrowsCard

/-- THE TIED CARD OF 'tabellionlaw03.ShaRooted'. -/
def shaRootedCard : Claim7 := { stood := { row := shaRootedRow, standIns := [], harness := (true, "08f2d71a7420a49200beedc05d5208974a81b75132cefb1c23b50b95441f73f0"), looks := false }, kinds := [], alts := [], laidByText := true, laidKinds := [.data, .data, .data], laidTests := true, laidLooks := .later }
def ShaRootedCardSaid : Prop := Claim7.holds Tryd.pinned (.plain (OpenSpec.ofChange shaRootedSpec)) shaRootedCard

/-- THE SECOND FORM's CARD OF 'tabellionlaw03.ShaHashes'. -/
def shaHashesUptoCard : Claim7 := { stood := { row := shaHashesUptoRow, standIns := [], harness := (true, "08f2d71a7420a49200beedc05d5208974a81b75132cefb1c23b50b95441f73f0"), looks := false }, kinds := [], alts := [], laidByText := true, laidKinds := [.data, .data, .data], laidTests := true, laidLooks := .later }
def ShaHashesUptoCardSaid : Prop := Claim7.holds Tryd.pinned (.plain (OpenSpec.upto shaHashesSpec)) shaHashesUptoCard

/-- THE SECOND FORM's CARD OF 'tabellionlaw03.ShaStates'. -/
def shaStatesUptoCard : Claim7 := { stood := { row := shaStatesUptoRow, standIns := [], harness := (true, "08f2d71a7420a49200beedc05d5208974a81b75132cefb1c23b50b95441f73f0"), looks := false }, kinds := [], alts := [], laidByText := true, laidKinds := [.data, .data, .data], laidTests := true, laidLooks := .later }
def ShaStatesUptoCardSaid : Prop := Claim7.holds Tryd.pinned (.plain (OpenSpec.upto shaStatesSpec)) shaStatesUptoCard

/-- THE SECOND FORM's CARD OF 'tabellionlaw03.ShaPieces'. -/
def shaPiecesUptoCard : Claim7 := { stood := { row := shaPiecesUptoRow, standIns := [], harness := (true, "08f2d71a7420a49200beedc05d5208974a81b75132cefb1c23b50b95441f73f0"), looks := false }, kinds := [], alts := [], laidByText := true, laidKinds := [.data, .data], laidTests := true, laidLooks := .later }
def ShaPiecesUptoCardSaid : Prop := Claim7.holds Tryd.pinned (.plain (OpenSpec.upto shaPiecesSpec)) shaPiecesUptoCard

/-- THE SECOND FORM's CARD OF 'tabellionlaw03.ShaNarrows'. -/
def shaNarrowsUptoCard : Claim7 := { stood := { row := shaNarrowsUptoRow, standIns := [], harness := (true, "08f2d71a7420a49200beedc05d5208974a81b75132cefb1c23b50b95441f73f0"), looks := false }, kinds := [], alts := [], laidByText := true, laidKinds := [.data, .data], laidTests := true, laidLooks := .later }
def ShaNarrowsUptoCardSaid : Prop := Claim7.holds Tryd.pinned (.plain (OpenSpec.upto shaNarrowsSpec)) shaNarrowsUptoCard

/-- THE SECOND FORM's CARD OF 'tabellionlaw03.ShaRooted'. -/
def shaRootedUptoCard : Claim7 := { stood := { row := shaRootedUptoRow, standIns := [], harness := (true, "08f2d71a7420a49200beedc05d5208974a81b75132cefb1c23b50b95441f73f0"), looks := false }, kinds := [], alts := [], laidByText := true, laidKinds := [.data, .data, .data], laidTests := true, laidLooks := .later }
def ShaRootedUptoCardSaid : Prop := Claim7.holds Tryd.pinned (.plain (OpenSpec.upto shaRootedSpec)) shaRootedUptoCard
end Rows
end Go.Proofs.YtbnnjnieemjdhaaDoor
