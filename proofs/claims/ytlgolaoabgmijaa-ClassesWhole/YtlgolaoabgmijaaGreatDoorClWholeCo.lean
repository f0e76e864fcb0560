/-
  ClassesWhole: what the row says.
-/
import Derived.Test.YtlgolaoabgmijaaGreatDoorClWholeC
namespace Go.Proofs.YtlgolaoabgmijaaGreatDoor.classesWhole
open Go.ChangeShapes Go.WideShapes Go.ChangeAt Go.RowKit
set_option linter.unusedVariables false

theorem named : Tryz.prog.funcNamed Rows.classesWholeRow.func = some 6 := by kernel_rfl
theorem wrap : Tryz.f6.isWrapper Tryz.prog Rows.classesWholeRow.wrapper Rows.classesWholeRow.mainSum := by unfold Func.isWrapper; first | (rw [if_pos (by decide +kernel)]; kernel_rfl) | (rw [if_neg (by decide +kernel)]; exact ⟨rfl, rfl⟩)
theorem inst : Tryz.f6.isInstance Tryz.prog Rows.classesWholeRow.origin Rows.classesWholeRow.targs := of_decide_eq_true (by kernel_rfl)
set_option maxHeartbeats 8000000 in
theorem closed : joinedFacts Tryz.prog 6 Tryz.f6 (OpenSpec.ofChange Rows.classesWholeSpec).bare Rows.classesWholeRow = true := by
  unfold joinedFacts
  repeat' with_reducible refine Bool.and_eq_true_iff.2 ⟨?_, ?_⟩
  all_goals as_aux_lemma => kernel_rfl
theorem over : Rows.ClassesWholeSaid :=
  OpenClaim.holds_of_cond 6 Tryz.f6 rfl rfl rfl rfl rfl rfl rfl ⟨rfl, rfl, rfl, rfl, rfl⟩ rfl rfl rfl rfl rfl named Tryz.func6 closed
    inst wrap
    (fun os started H enc _ F => by rw [OpenClaim.pre_eq_preRow]; exact lifted os started H enc F)

end Go.Proofs.YtlgolaoabgmijaaGreatDoor.classesWhole
