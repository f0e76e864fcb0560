/-
  BracketsKnown: the card.
-/
import Derived.Test.YtijiiapnbeljnaaGreatDoorBrKnownC
namespace Go.Proofs.YtijiiapnbeljnaaGreatDoor
open Go.ChangeShapes Go.WideShapes Go.ChangeAt Go.RowKit
set_option linter.unusedVariables false
theorem bracketsKnown_card : Rows.BracketsKnownCardSaid :=
  Claim7.holds_tied_plain_at .later [] [.data, .data, .data, .data, .handle, .pinned, .pinned] true _ true bracketsKnown.over (fun _ h => by cases h) (by kernel_rfl) (fun _ h => by cases h) bracketsKnown_row_tie rfl ⟨rfl, rfl⟩ (by kernel_rfl) rfl
    (fun f fn hf hfn => by
      obtain rfl : f = 9 := Option.some.inj ((show Tryz.prog.funcNamed Rows.bracketsKnownRow.func = some 9 by kernel_rfl).symm.trans hf) |>.symm
      obtain rfl : fn = Tryz.f9 := (Option.some.inj (Tryz.func9.symm.trans hfn)).symm
      exact ⟨by kernel_rfl, fun j t ht => by rw [Tryz.params9] at ht; simp at ht⟩)
    (by kernel_rfl)
end Go.Proofs.YtijiiapnbeljnaaGreatDoor
