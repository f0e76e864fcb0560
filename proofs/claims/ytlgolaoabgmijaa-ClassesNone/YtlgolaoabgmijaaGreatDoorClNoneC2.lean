/-
  ClassesNone: the card.
-/
import Derived.Test.YtlgolaoabgmijaaGreatDoorClNoneCo
namespace Go.Proofs.YtlgolaoabgmijaaGreatDoor
open Go.ChangeShapes Go.WideShapes Go.ChangeAt Go.RowKit
set_option linter.unusedVariables false
theorem classesNone_card : Rows.ClassesNoneCardSaid :=
  Claim7.holds_tied_plain_at .later [] [.data, .data, .data, .data, .pinned, .pinned] true _ true classesNone.over (fun _ h => by cases h) (by kernel_rfl) (fun _ h => by cases h) classesNone_row_tie rfl ⟨rfl, rfl⟩ (by kernel_rfl) rfl
    (fun f fn hf hfn => by
      obtain rfl : f = 4 := Option.some.inj ((show Tryz.prog.funcNamed Rows.classesNoneRow.func = some 4 by kernel_rfl).symm.trans hf) |>.symm
      obtain rfl : fn = Tryz.f4 := (Option.some.inj (Tryz.func4.symm.trans hfn)).symm
      refine ⟨by kernel_rfl, fun j t ht => ?_⟩
      rw [Tryz.params4] at ht
      have hm := Array.mem_of_getElem? ht
      have hm' : t ∈ [21] := Array.mem_toList_iff.2 hm
      simp only [List.mem_cons, List.not_mem_nil, or_false] at hm'
      rcases hm' with rfl
      · exact (show Tryz.prog.wantsStandIn 21 = false by kernel_rfl))
    (by kernel_rfl)
end Go.Proofs.YtlgolaoabgmijaaGreatDoor
