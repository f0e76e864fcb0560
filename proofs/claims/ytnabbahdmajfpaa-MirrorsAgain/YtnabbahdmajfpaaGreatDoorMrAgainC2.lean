/-
  MirrorsAgain: the card.
-/
import Derived.Test.YtnabbahdmajfpaaGreatDoorMrAgainC
namespace Go.Proofs.YtnabbahdmajfpaaGreatDoor
open Go.ChangeShapes Go.WideShapes Go.ChangeAt Go.RowKit
set_option linter.unusedVariables false
theorem mirrorsAgain_uptocard : Rows.MirrorsAgainUptoCardSaid :=
  Claim7.holds_tied_plain_at .later [] [.data, .data, .data, .data, .handle, .pinned, .pinned] true _ true mirrorsAgain.over (fun _ h => by cases h) (by kernel_rfl) (fun _ h => by cases h) mirrorsAgainUpto_row_tie rfl ⟨rfl, rfl⟩ (by kernel_rfl) rfl
    (fun f fn hf hfn => by
      obtain rfl : f = 9 := Option.some.inj ((show Tryz.prog.funcNamed Rows.mirrorsAgainUptoRow.func = some 9 by kernel_rfl).symm.trans hf) |>.symm
      obtain rfl : fn = Tryz.f9 := (Option.some.inj (Tryz.func9.symm.trans hfn)).symm
      refine ⟨by kernel_rfl, fun j t ht => ?_⟩
      rw [Tryz.params9] at ht
      have hm := Array.mem_of_getElem? ht
      have hm' : t ∈ [9] := Array.mem_toList_iff.2 hm
      simp only [List.mem_cons, List.not_mem_nil, or_false] at hm'
      rcases hm' with rfl
      · exact (show Tryz.prog.wantsStandIn 9 = false by kernel_rfl))
    (by kernel_rfl)
end Go.Proofs.YtnabbahdmajfpaaGreatDoor
