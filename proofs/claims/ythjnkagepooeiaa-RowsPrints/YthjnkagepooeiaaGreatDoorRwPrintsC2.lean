/-
  RowsPrints: the card.
-/
import Derived.Test.YthjnkagepooeiaaGreatDoorRwPrintsC
namespace Go.Proofs.YthjnkagepooeiaaGreatDoor.rowsPrints
open Go.ChangeShapes Go.WideShapes Go.ChangeAt Go.RowKit
set_option linter.unusedVariables false

theorem named : Tryz.prog.funcNamed Rows.rowsPrintsUptoRow.func = some 5 := by kernel_rfl
theorem wrap : Tryz.f5.isWrapper Tryz.prog Rows.rowsPrintsUptoRow.wrapper Rows.rowsPrintsUptoRow.mainSum := by unfold Func.isWrapper; first | (rw [if_pos (by decide +kernel)]; kernel_rfl) | (rw [if_neg (by decide +kernel)]; exact ⟨rfl, rfl⟩)
theorem inst : Tryz.f5.isInstance Tryz.prog Rows.rowsPrintsUptoRow.origin Rows.rowsPrintsUptoRow.targs := of_decide_eq_true (by kernel_rfl)
set_option maxHeartbeats 8000000 in
theorem closed : joinedFacts Tryz.prog 5 Tryz.f5 (Rows.OpenSpec.upto Rows.rowsPrintsSpec).bare Rows.rowsPrintsUptoRow = true := by
  unfold joinedFacts
  repeat' with_reducible refine Bool.and_eq_true_iff.2 ⟨?_, ?_⟩
  all_goals as_aux_lemma => kernel_rfl
theorem over : Rows.RowsPrintsUptoSaid :=
  OpenClaim.holds_of_cond 5 Tryz.f5 rfl rfl rfl rfl rfl rfl rfl ⟨rfl, rfl, rfl, rfl, rfl⟩ rfl rfl rfl rfl rfl named Tryz.func5 closed
    inst wrap
    (fun os started H enc _ F => by rw [OpenClaim.pre_eq_preRow]; exact lifted os started H enc F)

end Go.Proofs.YthjnkagepooeiaaGreatDoor.rowsPrints
namespace Go.Proofs.YthjnkagepooeiaaGreatDoor
open Go.ChangeShapes Go.WideShapes Go.ChangeAt Go.RowKit
set_option linter.unusedVariables false
theorem rowsPrints_uptocard : Rows.RowsPrintsUptoCardSaid :=
  Claim7.holds_tied_plain_at .later [] [.data, .data, .data, .data, .handle, .sentinel, .sentinel, .pinned, .pinned] true _ true rowsPrints.over (fun _ h => by cases h) (by kernel_rfl) (fun _ h => by cases h) rowsPrintsUpto_row_tie rfl ⟨rfl, rfl⟩ (by kernel_rfl) rfl
    (fun f fn hf hfn => by
      obtain rfl : f = 5 := Option.some.inj ((show Tryz.prog.funcNamed Rows.rowsPrintsUptoRow.func = some 5 by kernel_rfl).symm.trans hf) |>.symm
      obtain rfl : fn = Tryz.f5 := (Option.some.inj (Tryz.func5.symm.trans hfn)).symm
      refine ⟨by kernel_rfl, fun j t ht => ?_⟩
      rw [Tryz.params5] at ht
      have hm := Array.mem_of_getElem? ht
      have hm' : t ∈ [37] := Array.mem_toList_iff.2 hm
      simp only [List.mem_cons, List.not_mem_nil, or_false] at hm'
      rcases hm' with rfl
      · exact (show Tryz.prog.wantsStandIn 37 = false by kernel_rfl))
    (by kernel_rfl)
end Go.Proofs.YthjnkagepooeiaaGreatDoor
