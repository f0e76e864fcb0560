/-
  MirrorsBack: the card.
-/
import Derived.Test.YtnabbahdmajfpaaGreatDoorMrBackC
namespace Go.Proofs.YtnabbahdmajfpaaGreatDoor
open Go.ChangeShapes Go.WideShapes Go.ChangeAt Go.RowKit
set_option linter.unusedVariables false
theorem mirrorsBack_uptocard : Rows.MirrorsBackUptoCardSaid :=
  Claim7.holds_tied_plain_at .later [] [.data, .data, .data, .data, .handle, .pinned, .pinned] true _ true mirrorsBack.over (fun _ h => by cases h) (by kernel_rfl) (fun _ h => by cases h) mirrorsBackUpto_row_tie rfl ⟨rfl, rfl⟩ (by kernel_rfl) rfl
    (fun f fn hf hfn => by
      obtain rfl : f = 8 := Option.some.inj ((show Tryz.prog.funcNamed Rows.mirrorsBackUptoRow.func = some 8 by kernel_rfl).symm.trans hf) |>.symm
      obtain rfl : fn = Tryz.f8 := (Option.some.inj (Tryz.func8.symm.trans hfn)).symm
      refine ⟨by kernel_rfl, fun j t ht => ?_⟩
      rw [Tryz.params8] at ht
      have hm := Array.mem_of_getElem? ht
      have hm' : t ∈ [35] := Array.mem_toList_iff.2 hm
      simp only [List.mem_cons, List.not_mem_nil, or_false] at hm'
      rcases hm' with rfl
      · exact (show Tryz.prog.wantsStandIn 35 = false by kernel_rfl))
    (by kernel_rfl)
end Go.Proofs.YtnabbahdmajfpaaGreatDoor
