/-
  DERIVED. GIVEN WITH THE SEED: THE CARDS: each row of YtebppdcnfbflkaaDoorRows.lean that lists a variable, with what it lists TIED to the program's text (the seventh form; the later family's looks); each row that meets fmt, with fmt's text TOLD by the authors' own Lean function (tested against real Go, not proved from fmt's source: count such statements apart). THE CARD IS WHAT COUNTS. Prove the row's statement (the work); the ties are given (YtebppdcnfbflkaaDoorTie.lean); close each card by the builder's one call (the guide's Derived/Test/ToyasCard.lean, 'card_holds'). Laid BY PROGRAM, IN A SANDBOX (cutbox-door.mjs). By AI agents, Wed Nov 11 2026. No macro, syntax, notation, axiom, sorry.
-/
import Derived.Test.YtebppdcnfbflkaaDoorRows
import GoSem.ClaimSeven
namespace Go.Proofs.YtebppdcnfbflkaaDoor
namespace Rows

/-- THE TIED CARD OF 'furrowlaw04.PointsTexts'. -/
def pointsTextsCard : Claim7 := { stood := { row := pointsTextsRow, standIns := [], harness := (true, "2a5d942d5dcda0143748465bfd1f9fd283083c326ed190aec90e1b5932f341ad"), looks := false }, kinds := [], alts := [], laidByText := true, laidKinds := [.data, .data, .data, .data, .pinned, .pinned], laidTests := true, laidLooks := .later }
def PointsTextsCardSaid : Prop := Claim7.holds Tryd.pinned (.plain (OpenSpec.ofChange pointsTextsSpec)) pointsTextsCard

/-- THE TIED CARD OF 'furrowlaw04.PointsBack'. -/
def pointsBackCard : Claim7 := { stood := { row := pointsBackRow, standIns := [], harness := (true, "2a5d942d5dcda0143748465bfd1f9fd283083c326ed190aec90e1b5932f341ad"), looks := false }, kinds := [], alts := [], laidByText := true, laidKinds := [.data, .data, .data, .data, .pinned, .pinned], laidTests := true, laidLooks := .later }
def PointsBackCardSaid : Prop := Claim7.holds Tryd.pinned (.plain (OpenSpec.ofChange pointsBackSpec)) pointsBackCard

/-- THE SECOND FORM's CARD OF 'furrowlaw04.PointsTexts'. -/
def pointsTextsUptoCard : Claim7 := { stood := { row := pointsTextsUptoRow, standIns := [], harness := (true, "2a5d942d5dcda0143748465bfd1f9fd283083c326ed190aec90e1b5932f341ad"), looks := false }, kinds := [], alts := [], laidByText := true, laidKinds := [.data, .data, .data, .data, .pinned, .pinned], laidTests := true, laidLooks := .later }
def PointsTextsUptoCardSaid : Prop := Claim7.holds Tryd.pinned (.plain (OpenSpec.upto pointsTextsSpec)) pointsTextsUptoCard

/-- THE SECOND FORM's CARD OF 'furrowlaw04.PointsBack'. -/
def pointsBackUptoCard : Claim7 := { stood := { row := pointsBackUptoRow, standIns := [], harness := (true, "2a5d942d5dcda0143748465bfd1f9fd283083c326ed190aec90e1b5932f341ad"), looks := false }, kinds := [], alts := [], laidByText := true, laidKinds := [.data, .data, .data, .data, .pinned, .pinned], laidTests := true, laidLooks := .later }
def PointsBackUptoCardSaid : Prop := Claim7.holds Tryd.pinned (.plain (OpenSpec.upto pointsBackSpec)) pointsBackUptoCard
end Rows
end Go.Proofs.YtebppdcnfbflkaaDoor
