/-
  DERIVED. GIVEN WITH THE SEED: THE CARDS: each row of YthgaadjkjnibaaaGreatDoorRows.lean that lists a variable, with what it lists TIED to the program's text (the seventh form; the later family's looks); each row that meets fmt, with fmt's text TOLD by the authors' own Lean function (tested against real Go, not proved from fmt's source: count such statements apart). THE CARD IS WHAT COUNTS. Prove the row's statement (the work); the ties are given (YthgaadjkjnibaaaGreatDoorTie.lean); close each card by the builder's one call (the guide's Derived/Test/ToyasCard.lean, 'card_holds'). Laid BY PROGRAM, IN A SANDBOX (cutbox-door.mjs). By AI agents, Wed Nov 11 2026. No macro, syntax, notation, axiom, sorry.
-/
import Derived.Test.YthgaadjkjnibaaaGreatDoorRows
import GoSem.ClaimSeven
namespace Go.Proofs.YthgaadjkjnibaaaGreatDoor
namespace Rows

/-- THE TIED CARD OF 'furrowlaw07.ClassesBack'. -/
def classesBackCard : Claim7 := { stood := { row := classesBackRow, standIns := [], harness := (true, "651dc92379c8f97e9e95abb79ca0ef6cd9a36a937a969a9ea3cd65850c762ad1"), looks := false }, kinds := [], alts := [], laidByText := true, laidKinds := [.data, .data, .data, .data, .pinned, .pinned], laidTests := true, laidLooks := .later }
def ClassesBackCardSaid : Prop := Claim7.holds Tryz.pinned (.plain (OpenSpec.ofChange classesBackSpec)) classesBackCard

/-- THE SECOND FORM's CARD OF 'furrowlaw07.ClassesBack'. -/
def classesBackUptoCard : Claim7 := { stood := { row := classesBackUptoRow, standIns := [], harness := (true, "651dc92379c8f97e9e95abb79ca0ef6cd9a36a937a969a9ea3cd65850c762ad1"), looks := false }, kinds := [], alts := [], laidByText := true, laidKinds := [.data, .data, .data, .data, .pinned, .pinned], laidTests := true, laidLooks := .later }
def ClassesBackUptoCardSaid : Prop := Claim7.holds Tryz.pinned (.plain (OpenSpec.upto classesBackSpec)) classesBackUptoCard
end Rows
end Go.Proofs.YthgaadjkjnibaaaGreatDoor
