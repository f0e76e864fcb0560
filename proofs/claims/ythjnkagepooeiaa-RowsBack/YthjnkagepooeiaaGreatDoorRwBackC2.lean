/-
  RowsBack: the card.
-/
import Derived.Test.YthjnkagepooeiaaGreatDoorRwBackC
namespace Go.Proofs.YthjnkagepooeiaaGreatDoor.rowsBack
open Go.ChangeShapes Go.WideShapes Go.ChangeAt Go.RowKit
set_option linter.unusedVariables false

theorem named : Tryz.prog.funcNamed Rows.rowsBackUptoRow.func = some 8 := by kernel_rfl
theorem wrap : Tryz.f8.isWrapper Tryz.prog Rows.rowsBackUptoRow.wrapper Rows.rowsBackUptoRow.mainSum := by unfold Func.isWrapper; first | (rw [if_pos (by decide +kernel)]; kernel_rfl) | (rw [if_neg (by decide +kernel)]; exact ⟨rfl, rfl⟩)
theorem inst : Tryz.f8.isInstance Tryz.prog Rows.rowsBackUptoRow.origin Rows.rowsBackUptoRow.targs := of_decide_eq_true (by kernel_rfl)
set_option maxHeartbeats 8000000 in
theorem closed : joinedFacts Tryz.prog 8 Tryz.f8 (Rows.OpenSpec.upto Rows.rowsBackSpec).bare Rows.rowsBackUptoRow = true := by
  unfold joinedFacts
  repeat' with_reducible refine Bool.and_eq_true_iff.2 ⟨?_, ?_⟩
  all_goals as_aux_lemma => kernel_rfl
theorem over : Rows.RowsBackUptoSaid :=
  OpenClaim.holds_of_cond 8 Tryz.f8 rfl rfl rfl rfl rfl rfl rfl ⟨rfl, rfl, rfl, rfl, rfl⟩ rfl rfl rfl rfl rfl named Tryz.func8 closed
    inst wrap
    (fun os started H enc _ F => by rw [OpenClaim.pre_eq_preRow]; exact lifted os started H enc F)

end Go.Proofs.YthjnkagepooeiaaGreatDoor.rowsBack
namespace Go.Proofs.YthjnkagepooeiaaGreatDoor
open Go.ChangeShapes Go.WideShapes Go.ChangeAt Go.RowKit
set_option linter.unusedVariables false
theorem rowsBack_uptocard : Rows.RowsBackUptoCardSaid :=
  Claim7.holds_tied_plain_at .later [] [.data, .data, .data, .data, .handle, .sentinel, .sentinel, .pinned, .pinned] true _ true rowsBack.over (fun _ h => by cases h) (by kernel_rfl) (fun _ h => by cases h) rowsBackUpto_row_tie rfl ⟨rfl, rfl⟩ (by kernel_rfl) rfl
    (fun f fn hf hfn => by
      obtain rfl : f = 8 := Option.some.inj ((show Tryz.prog.funcNamed Rows.rowsBackUptoRow.func = some 8 by kernel_rfl).symm.trans hf) |>.symm
      obtain rfl : fn = Tryz.f8 := (Option.some.inj (Tryz.func8.symm.trans hfn)).symm
      refine ⟨by kernel_rfl, fun j t ht => ?_⟩
      rw [Tryz.params8] at ht
      have hm := Array.mem_of_getElem? ht
      have hm' : t ∈ [37] := Array.mem_toList_iff.2 hm
      simp only [List.mem_cons, List.not_mem_nil, or_false] at hm'
      rcases hm' with rfl
      · exact (show Tryz.prog.wantsStandIn 37 = false by kernel_rfl))
    (by kernel_rfl)
end Go.Proofs.YthjnkagepooeiaaGreatDoor
