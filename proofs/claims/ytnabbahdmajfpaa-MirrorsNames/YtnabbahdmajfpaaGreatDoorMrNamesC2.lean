/-
  MirrorsNames: the card.
-/
import Derived.Test.YtnabbahdmajfpaaGreatDoorMrNamesC
namespace Go.Proofs.YtnabbahdmajfpaaGreatDoor
open Go.ChangeShapes Go.WideShapes Go.ChangeAt Go.RowKit
set_option linter.unusedVariables false
theorem mirrorsNames_card : Rows.MirrorsNamesCardSaid :=
  Claim7.holds_tied_plain_at .later [] [.data, .handle, .pinned] true _ true mirrorsNames.over (fun _ h => by cases h) (by kernel_rfl) (fun _ h => by cases h) mirrorsNames_row_tie rfl ⟨rfl, rfl⟩ (by kernel_rfl) rfl
    (fun f fn hf hfn => by
      obtain rfl : f = 12 := Option.some.inj ((show Tryz.prog.funcNamed Rows.mirrorsNamesRow.func = some 12 by kernel_rfl).symm.trans hf) |>.symm
      obtain rfl : fn = Tryz.f12 := (Option.some.inj (Tryz.func12.symm.trans hfn)).symm
      exact ⟨by kernel_rfl, fun j t ht => by rw [Tryz.params12] at ht; simp at ht⟩)
    (by kernel_rfl)
end Go.Proofs.YtnabbahdmajfpaaGreatDoor
