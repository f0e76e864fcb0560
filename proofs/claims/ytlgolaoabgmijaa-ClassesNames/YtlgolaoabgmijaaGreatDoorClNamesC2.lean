/-
  ClassesNames: the card.
-/
import Derived.Test.YtlgolaoabgmijaaGreatDoorClNamesC
namespace Go.Proofs.YtlgolaoabgmijaaGreatDoor
open Go.ChangeShapes Go.WideShapes Go.ChangeAt Go.RowKit
set_option linter.unusedVariables false
theorem classesNames_card : Rows.ClassesNamesCardSaid :=
  Claim7.holds_tied_plain_at .later [] [.data, .pinned] true _ true classesNames.over (fun _ h => by cases h) (by kernel_rfl) (fun _ h => by cases h) classesNames_row_tie rfl ⟨rfl, rfl⟩ (by kernel_rfl) rfl
    (fun f fn hf hfn => by
      obtain rfl : f = 8 := Option.some.inj ((show Tryz.prog.funcNamed Rows.classesNamesRow.func = some 8 by kernel_rfl).symm.trans hf) |>.symm
      obtain rfl : fn = Tryz.f8 := (Option.some.inj (Tryz.func8.symm.trans hfn)).symm
      exact ⟨by kernel_rfl, fun j t ht => by rw [Tryz.params8] at ht; simp at ht⟩)
    (by kernel_rfl)
end Go.Proofs.YtlgolaoabgmijaaGreatDoor
