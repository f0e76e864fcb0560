/-
  MirrorsTwice: the card.
-/
import Derived.Test.YtnabbahdmajfpaaGreatDoorMrTwiceC
namespace Go.Proofs.YtnabbahdmajfpaaGreatDoor
open Go.ChangeShapes Go.WideShapes Go.ChangeAt Go.RowKit
set_option linter.unusedVariables false
theorem mirrorsTwice_uptocard : Rows.MirrorsTwiceUptoCardSaid :=
  Claim7.holds_tied_plain_at .later [] [.data, .handle, .pinned] true _ true mirrorsTwice.over (fun _ h => by cases h) (by kernel_rfl) (fun _ h => by cases h) mirrorsTwiceUpto_row_tie rfl ⟨rfl, rfl⟩ (by kernel_rfl) rfl
    (fun f fn hf hfn => by
      obtain rfl : f = 10 := Option.some.inj ((show Tryz.prog.funcNamed Rows.mirrorsTwiceUptoRow.func = some 10 by kernel_rfl).symm.trans hf) |>.symm
      obtain rfl : fn = Tryz.f10 := (Option.some.inj (Tryz.func10.symm.trans hfn)).symm
      refine ⟨by kernel_rfl, fun j t ht => ?_⟩
      rw [Tryz.params10] at ht
      have hm := Array.mem_of_getElem? ht
      have hm' : t ∈ [35, 9, 21] := Array.mem_toList_iff.2 hm
      simp only [List.mem_cons, List.not_mem_nil, or_false] at hm'
      rcases hm' with rfl | rfl | rfl
      · exact (show Tryz.prog.wantsStandIn 35 = false by kernel_rfl)
      · exact (show Tryz.prog.wantsStandIn 9 = false by kernel_rfl)
      · exact (show Tryz.prog.wantsStandIn 21 = false by kernel_rfl))
    (by kernel_rfl)
end Go.Proofs.YtnabbahdmajfpaaGreatDoor
