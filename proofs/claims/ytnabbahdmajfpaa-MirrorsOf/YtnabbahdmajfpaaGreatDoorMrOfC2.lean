/-
  MirrorsOf: the card.
-/
import Derived.Test.YtnabbahdmajfpaaGreatDoorMrOfC
namespace Go.Proofs.YtnabbahdmajfpaaGreatDoor
open Go.ChangeShapes Go.WideShapes Go.ChangeAt Go.RowKit
set_option linter.unusedVariables false
theorem mirrorsOf_uptocard : Rows.MirrorsOfUptoCardSaid :=
  Claim7.holds_tied_plain_at .later [] [.data, .handle, .pinned] true _ true mirrorsOf.over (fun _ h => by cases h) (by kernel_rfl) (fun _ h => by cases h) mirrorsOfUpto_row_tie rfl ⟨rfl, rfl⟩ (by kernel_rfl) rfl
    (fun f fn hf hfn => by
      obtain rfl : f = 6 := Option.some.inj ((show Tryz.prog.funcNamed Rows.mirrorsOfUptoRow.func = some 6 by kernel_rfl).symm.trans hf) |>.symm
      obtain rfl : fn = Tryz.f6 := (Option.some.inj (Tryz.func6.symm.trans hfn)).symm
      refine ⟨by kernel_rfl, fun j t ht => ?_⟩
      rw [Tryz.params6] at ht
      have hm := Array.mem_of_getElem? ht
      have hm' : t ∈ [35, 21] := Array.mem_toList_iff.2 hm
      simp only [List.mem_cons, List.not_mem_nil, or_false] at hm'
      rcases hm' with rfl | rfl
      · exact (show Tryz.prog.wantsStandIn 35 = false by kernel_rfl)
      · exact (show Tryz.prog.wantsStandIn 21 = false by kernel_rfl))
    (by kernel_rfl)
end Go.Proofs.YtnabbahdmajfpaaGreatDoor
