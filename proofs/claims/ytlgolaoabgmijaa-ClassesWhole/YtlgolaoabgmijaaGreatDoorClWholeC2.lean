/-
  ClassesWhole: the card.
-/
import Derived.Test.YtlgolaoabgmijaaGreatDoorClWholeCo
namespace Go.Proofs.YtlgolaoabgmijaaGreatDoor
open Go.ChangeShapes Go.WideShapes Go.ChangeAt Go.RowKit
set_option linter.unusedVariables false
theorem classesWhole_card : Rows.ClassesWholeCardSaid :=
  Claim7.holds_tied_plain_at .later [] [.data, .pinned] true _ true classesWhole.over (fun _ h => by cases h) (by kernel_rfl) (fun _ h => by cases h) classesWhole_row_tie rfl ⟨rfl, rfl⟩ (by kernel_rfl) rfl
    (fun f fn hf hfn => by
      obtain rfl : f = 6 := Option.some.inj ((show Tryz.prog.funcNamed Rows.classesWholeRow.func = some 6 by kernel_rfl).symm.trans hf) |>.symm
      obtain rfl : fn = Tryz.f6 := (Option.some.inj (Tryz.func6.symm.trans hfn)).symm
      refine ⟨by kernel_rfl, fun j t ht => ?_⟩
      rw [Tryz.params6] at ht
      have hm := Array.mem_of_getElem? ht
      have hm' : t ∈ [9] := Array.mem_toList_iff.2 hm
      simp only [List.mem_cons, List.not_mem_nil, or_false] at hm'
      rcases hm' with rfl
      · exact (show Tryz.prog.wantsStandIn 9 = false by kernel_rfl))
    (by kernel_rfl)
end Go.Proofs.YtlgolaoabgmijaaGreatDoor
