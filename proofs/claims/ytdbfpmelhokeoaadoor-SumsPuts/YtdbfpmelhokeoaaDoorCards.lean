/-
  DERIVED. GIVEN WITH THE SEED: THE CARDS: each row of YtdbfpmelhokeoaaDoorRows.lean that lists a variable, with what it lists TIED to the program's text (the seventh form; the later family's looks); each row that meets fmt, with fmt's text TOLD by the authors' own Lean function (tested against real Go, not proved from fmt's source: count such statements apart). THE CARD IS WHAT COUNTS. Prove the row's statement (the work); the ties are given (YtdbfpmelhokeoaaDoorTie.lean); close each card by the builder's one call (the guide's Derived/Test/ToyasCard.lean, 'card_holds'). Laid BY PROGRAM, IN A SANDBOX (cutbox-door.mjs). By AI agents, Wed Nov 11 2026. No macro, syntax, notation, axiom, sorry.
-/
import Derived.Test.YtdbfpmelhokeoaaDoorRows
import GoSem.ClaimSeven
namespace Go.Proofs.YtdbfpmelhokeoaaDoor
namespace Rows

/-- THE TIED CARD OF 'furrowlaw12.SumsCRC'. -/
def sumsCRCCard : Claim7 := { stood := { row := sumsCRCRow, standIns := [], harness := (true, "54f4e234369987ac03a09059e20f367143323f9e22f003b63ce39e68c932dfdd"), looks := false }, kinds := [], alts := [], laidByText := true, laidKinds := [.data], laidTests := true, laidLooks := .later }
def SumsCRCCardSaid : Prop := Claim7.holds Tryd.pinned (.plain (OpenSpec.ofChange sumsCRCSpec)) sumsCRCCard

/-- THE TIED CARD OF 'furrowlaw12.SumsJoined'. -/
def sumsJoinedCard : Claim7 := { stood := { row := sumsJoinedRow, standIns := [], harness := (true, "54f4e234369987ac03a09059e20f367143323f9e22f003b63ce39e68c932dfdd"), looks := false }, kinds := [], alts := [], laidByText := true, laidKinds := [.data], laidTests := true, laidLooks := .later }
def SumsJoinedCardSaid : Prop := Claim7.holds Tryd.pinned (.plain (OpenSpec.ofChange sumsJoinedSpec)) sumsJoinedCard

/-- THE TIED CARD OF 'furrowlaw12.SumsPuts'. -/
def sumsPutsCard : Claim7 := { stood := { row := sumsPutsRow, standIns := [], harness := (true, "54f4e234369987ac03a09059e20f367143323f9e22f003b63ce39e68c932dfdd"), looks := false }, kinds := [], alts := [], laidByText := true, laidKinds := [.data], laidTests := true, laidLooks := .later }
def SumsPutsCardSaid : Prop := Claim7.holds Tryd.pinned (.plain (OpenSpec.ofChange sumsPutsSpec)) sumsPutsCard

/-- THE TIED CARD OF 'furrowlaw12.SumsSizes'. -/
def sumsSizesCard : Claim7 := { stood := { row := sumsSizesRow, standIns := [], harness := (true, "54f4e234369987ac03a09059e20f367143323f9e22f003b63ce39e68c932dfdd"), looks := false }, kinds := [], alts := [], laidByText := true, laidKinds := [.data], laidTests := true, laidLooks := .later }
def SumsSizesCardSaid : Prop := Claim7.holds Tryd.pinned (.plain (OpenSpec.ofChange sumsSizesSpec)) sumsSizesCard

/-- THE TIED CARD OF 'furrowlaw12.SumsTakes'. -/
def sumsTakesCard : Claim7 := { stood := { row := sumsTakesRow, standIns := [], harness := (true, "54f4e234369987ac03a09059e20f367143323f9e22f003b63ce39e68c932dfdd"), looks := false }, kinds := [], alts := [], laidByText := true, laidKinds := [.data], laidTests := true, laidLooks := .later }
def SumsTakesCardSaid : Prop := Claim7.holds Tryd.pinned (.plain (OpenSpec.ofChange sumsTakesSpec)) sumsTakesCard

/-- THE TIED CARD OF 'furrowlaw12.SumsOpens'. -/
def sumsOpensCard : Claim7 := { stood := { row := sumsOpensRow, standIns := [], harness := (true, "54f4e234369987ac03a09059e20f367143323f9e22f003b63ce39e68c932dfdd"), looks := false }, kinds := [], alts := [], laidByText := true, laidKinds := [.data], laidTests := true, laidLooks := .later }
def SumsOpensCardSaid : Prop := Claim7.holds Tryd.pinned (.plain (OpenSpec.ofChange sumsOpensSpec)) sumsOpensCard

/-- THE TIED CARD OF 'furrowlaw12.SumsBursts'. -/
def sumsBurstsCard : Claim7 := { stood := { row := sumsBurstsRow, standIns := [], harness := (true, "54f4e234369987ac03a09059e20f367143323f9e22f003b63ce39e68c932dfdd"), looks := false }, kinds := [], alts := [], laidByText := true, laidKinds := [.data], laidTests := true, laidLooks := .later }
def SumsBurstsCardSaid : Prop := Claim7.holds Tryd.pinned (.plain (OpenSpec.ofChange sumsBurstsSpec)) sumsBurstsCard

/-- THE TIED CARD OF 'furrowlaw12.SumsPieces'. -/
def sumsPiecesCard : Claim7 := { stood := { row := sumsPiecesRow, standIns := [], harness := (true, "54f4e234369987ac03a09059e20f367143323f9e22f003b63ce39e68c932dfdd"), looks := false }, kinds := [], alts := [], laidByText := true, laidKinds := [.data], laidTests := true, laidLooks := .later }
def SumsPiecesCardSaid : Prop := Claim7.holds Tryd.pinned (.plain (OpenSpec.ofChange sumsPiecesSpec)) sumsPiecesCard

/-- THE TIED CARD OF 'furrowlaw12.SumsBurst'. -/
def sumsBurstCard : Claim7 := { stood := { row := sumsBurstRow, standIns := [], harness := (true, "54f4e234369987ac03a09059e20f367143323f9e22f003b63ce39e68c932dfdd"), looks := false }, kinds := [], alts := [], laidByText := true, laidKinds := [.data], laidTests := true, laidLooks := .later }
def SumsBurstCardSaid : Prop := Claim7.holds Tryd.pinned (.plain (OpenSpec.ofChange sumsBurstSpec)) sumsBurstCard

/-- THE TIED CARD OF 'furrowlaw12.SumsOne'. -/
def sumsOneCard : Claim7 := { stood := { row := sumsOneRow, standIns := [], harness := (true, "54f4e234369987ac03a09059e20f367143323f9e22f003b63ce39e68c932dfdd"), looks := false }, kinds := [], alts := [], laidByText := true, laidKinds := [.data], laidTests := true, laidLooks := .later }
def SumsOneCardSaid : Prop := Claim7.holds Tryd.pinned (.plain (OpenSpec.ofChange sumsOneSpec)) sumsOneCard

/-- THE TIED CARD OF 'furrowlaw12.SumsBack'. -/
def sumsBackCard : Claim7 := { stood := { row := sumsBackRow, standIns := [], harness := (true, "54f4e234369987ac03a09059e20f367143323f9e22f003b63ce39e68c932dfdd"), looks := false }, kinds := [], alts := [], laidByText := true, laidKinds := [.data], laidTests := true, laidLooks := .later }
def SumsBackCardSaid : Prop := Claim7.holds Tryd.pinned (.plain (OpenSpec.ofChange sumsBackSpec)) sumsBackCard

/-- THE TIED CARD OF 'furrowlaw12.SumsAdded'. -/
def sumsAddedCard : Claim7 := { stood := { row := sumsAddedRow, standIns := [], harness := (true, "54f4e234369987ac03a09059e20f367143323f9e22f003b63ce39e68c932dfdd"), looks := false }, kinds := [], alts := [], laidByText := true, laidKinds := [.data], laidTests := true, laidLooks := .later }
def SumsAddedCardSaid : Prop := Claim7.holds Tryd.pinned (.plain (OpenSpec.ofChange sumsAddedSpec)) sumsAddedCard

/-- THE TIED CARD OF 'furrowlaw12.SumsNames'. -/
def sumsNamesCard : Claim7 := { stood := { row := sumsNamesRow, standIns := [], harness := (true, "54f4e234369987ac03a09059e20f367143323f9e22f003b63ce39e68c932dfdd"), looks := false }, kinds := [], alts := [], laidByText := true, laidKinds := [.data], laidTests := true, laidLooks := .later }
def SumsNamesCardSaid : Prop := Claim7.holds Tryd.pinned (.plain (OpenSpec.ofChange sumsNamesSpec)) sumsNamesCard

/-- THE SECOND FORM's CARD OF 'furrowlaw12.SumsCRC'. -/
def sumsCRCUptoCard : Claim7 := { stood := { row := sumsCRCUptoRow, standIns := [], harness := (true, "54f4e234369987ac03a09059e20f367143323f9e22f003b63ce39e68c932dfdd"), looks := false }, kinds := [], alts := [], laidByText := true, laidKinds := [.data], laidTests := true, laidLooks := .later }
def SumsCRCUptoCardSaid : Prop := Claim7.holds Tryd.pinned (.plain (OpenSpec.upto sumsCRCSpec)) sumsCRCUptoCard

/-- THE SECOND FORM's CARD OF 'furrowlaw12.SumsJoined'. -/
def sumsJoinedUptoCard : Claim7 := { stood := { row := sumsJoinedUptoRow, standIns := [], harness := (true, "54f4e234369987ac03a09059e20f367143323f9e22f003b63ce39e68c932dfdd"), looks := false }, kinds := [], alts := [], laidByText := true, laidKinds := [.data], laidTests := true, laidLooks := .later }
def SumsJoinedUptoCardSaid : Prop := Claim7.holds Tryd.pinned (.plain (OpenSpec.upto sumsJoinedSpec)) sumsJoinedUptoCard

/-- THE SECOND FORM's CARD OF 'furrowlaw12.SumsPuts'. -/
def sumsPutsUptoCard : Claim7 := { stood := { row := sumsPutsUptoRow, standIns := [], harness := (true, "54f4e234369987ac03a09059e20f367143323f9e22f003b63ce39e68c932dfdd"), looks := false }, kinds := [], alts := [], laidByText := true, laidKinds := [.data], laidTests := true, laidLooks := .later }
def SumsPutsUptoCardSaid : Prop := Claim7.holds Tryd.pinned (.plain (OpenSpec.upto sumsPutsSpec)) sumsPutsUptoCard

/-- THE SECOND FORM's CARD OF 'furrowlaw12.SumsSizes'. -/
def sumsSizesUptoCard : Claim7 := { stood := { row := sumsSizesUptoRow, standIns := [], harness := (true, "54f4e234369987ac03a09059e20f367143323f9e22f003b63ce39e68c932dfdd"), looks := false }, kinds := [], alts := [], laidByText := true, laidKinds := [.data], laidTests := true, laidLooks := .later }
def SumsSizesUptoCardSaid : Prop := Claim7.holds Tryd.pinned (.plain (OpenSpec.upto sumsSizesSpec)) sumsSizesUptoCard

/-- THE SECOND FORM's CARD OF 'furrowlaw12.SumsTakes'. -/
def sumsTakesUptoCard : Claim7 := { stood := { row := sumsTakesUptoRow, standIns := [], harness := (true, "54f4e234369987ac03a09059e20f367143323f9e22f003b63ce39e68c932dfdd"), looks := false }, kinds := [], alts := [], laidByText := true, laidKinds := [.data], laidTests := true, laidLooks := .later }
def SumsTakesUptoCardSaid : Prop := Claim7.holds Tryd.pinned (.plain (OpenSpec.upto sumsTakesSpec)) sumsTakesUptoCard

/-- THE SECOND FORM's CARD OF 'furrowlaw12.SumsOpens'. -/
def sumsOpensUptoCard : Claim7 := { stood := { row := sumsOpensUptoRow, standIns := [], harness := (true, "54f4e234369987ac03a09059e20f367143323f9e22f003b63ce39e68c932dfdd"), looks := false }, kinds := [], alts := [], laidByText := true, laidKinds := [.data], laidTests := true, laidLooks := .later }
def SumsOpensUptoCardSaid : Prop := Claim7.holds Tryd.pinned (.plain (OpenSpec.upto sumsOpensSpec)) sumsOpensUptoCard

/-- THE SECOND FORM's CARD OF 'furrowlaw12.SumsBursts'. -/
def sumsBurstsUptoCard : Claim7 := { stood := { row := sumsBurstsUptoRow, standIns := [], harness := (true, "54f4e234369987ac03a09059e20f367143323f9e22f003b63ce39e68c932dfdd"), looks := false }, kinds := [], alts := [], laidByText := true, laidKinds := [.data], laidTests := true, laidLooks := .later }
def SumsBurstsUptoCardSaid : Prop := Claim7.holds Tryd.pinned (.plain (OpenSpec.upto sumsBurstsSpec)) sumsBurstsUptoCard

/-- THE SECOND FORM's CARD OF 'furrowlaw12.SumsPieces'. -/
def sumsPiecesUptoCard : Claim7 := { stood := { row := sumsPiecesUptoRow, standIns := [], harness := (true, "54f4e234369987ac03a09059e20f367143323f9e22f003b63ce39e68c932dfdd"), looks := false }, kinds := [], alts := [], laidByText := true, laidKinds := [.data], laidTests := true, laidLooks := .later }
def SumsPiecesUptoCardSaid : Prop := Claim7.holds Tryd.pinned (.plain (OpenSpec.upto sumsPiecesSpec)) sumsPiecesUptoCard

/-- THE SECOND FORM's CARD OF 'furrowlaw12.SumsBurst'. -/
def sumsBurstUptoCard : Claim7 := { stood := { row := sumsBurstUptoRow, standIns := [], harness := (true, "54f4e234369987ac03a09059e20f367143323f9e22f003b63ce39e68c932dfdd"), looks := false }, kinds := [], alts := [], laidByText := true, laidKinds := [.data], laidTests := true, laidLooks := .later }
def SumsBurstUptoCardSaid : Prop := Claim7.holds Tryd.pinned (.plain (OpenSpec.upto sumsBurstSpec)) sumsBurstUptoCard

/-- THE SECOND FORM's CARD OF 'furrowlaw12.SumsOne'. -/
def sumsOneUptoCard : Claim7 := { stood := { row := sumsOneUptoRow, standIns := [], harness := (true, "54f4e234369987ac03a09059e20f367143323f9e22f003b63ce39e68c932dfdd"), looks := false }, kinds := [], alts := [], laidByText := true, laidKinds := [.data], laidTests := true, laidLooks := .later }
def SumsOneUptoCardSaid : Prop := Claim7.holds Tryd.pinned (.plain (OpenSpec.upto sumsOneSpec)) sumsOneUptoCard

/-- THE SECOND FORM's CARD OF 'furrowlaw12.SumsBack'. -/
def sumsBackUptoCard : Claim7 := { stood := { row := sumsBackUptoRow, standIns := [], harness := (true, "54f4e234369987ac03a09059e20f367143323f9e22f003b63ce39e68c932dfdd"), looks := false }, kinds := [], alts := [], laidByText := true, laidKinds := [.data], laidTests := true, laidLooks := .later }
def SumsBackUptoCardSaid : Prop := Claim7.holds Tryd.pinned (.plain (OpenSpec.upto sumsBackSpec)) sumsBackUptoCard

/-- THE SECOND FORM's CARD OF 'furrowlaw12.SumsAdded'. -/
def sumsAddedUptoCard : Claim7 := { stood := { row := sumsAddedUptoRow, standIns := [], harness := (true, "54f4e234369987ac03a09059e20f367143323f9e22f003b63ce39e68c932dfdd"), looks := false }, kinds := [], alts := [], laidByText := true, laidKinds := [.data], laidTests := true, laidLooks := .later }
def SumsAddedUptoCardSaid : Prop := Claim7.holds Tryd.pinned (.plain (OpenSpec.upto sumsAddedSpec)) sumsAddedUptoCard

/-- THE SECOND FORM's CARD OF 'furrowlaw12.SumsNames'. -/
def sumsNamesUptoCard : Claim7 := { stood := { row := sumsNamesUptoRow, standIns := [], harness := (true, "54f4e234369987ac03a09059e20f367143323f9e22f003b63ce39e68c932dfdd"), looks := false }, kinds := [], alts := [], laidByText := true, laidKinds := [.data], laidTests := true, laidLooks := .later }
def SumsNamesUptoCardSaid : Prop := Claim7.holds Tryd.pinned (.plain (OpenSpec.upto sumsNamesSpec)) sumsNamesUptoCard
end Rows
end Go.Proofs.YtdbfpmelhokeoaaDoor
