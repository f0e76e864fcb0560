/-
  ClassesNotes: what the row says.
-/
import Derived.Test.YtlgolaoabgmijaaGreatDoorClNotesC
namespace Go.Proofs.YtlgolaoabgmijaaGreatDoor.classesNotes
open Go.ChangeShapes Go.WideShapes Go.ChangeAt Go.RowKit
set_option linter.unusedVariables false

theorem named : Tryz.prog.funcNamed Rows.classesNotesRow.func = some 7 := by kernel_rfl
theorem wrap : Tryz.f7.isWrapper Tryz.prog Rows.classesNotesRow.wrapper Rows.classesNotesRow.mainSum := by unfold Func.isWrapper; first | (rw [if_pos (by decide +kernel)]; kernel_rfl) | (rw [if_neg (by decide +kernel)]; exact ⟨rfl, rfl⟩)
theorem inst : Tryz.f7.isInstance Tryz.prog Rows.classesNotesRow.origin Rows.classesNotesRow.targs := of_decide_eq_true (by kernel_rfl)
set_option maxHeartbeats 8000000 in
theorem closed : joinedFacts Tryz.prog 7 Tryz.f7 (OpenSpec.ofChange Rows.classesNotesSpec).bare Rows.classesNotesRow = true := by
  unfold joinedFacts
  repeat' with_reducible refine Bool.and_eq_true_iff.2 ⟨?_, ?_⟩
  all_goals as_aux_lemma => kernel_rfl
theorem over : Rows.ClassesNotesSaid :=
  OpenClaim.holds_of_cond 7 Tryz.f7 rfl rfl rfl rfl rfl rfl rfl ⟨rfl, rfl, rfl, rfl, rfl⟩ rfl rfl rfl rfl rfl named Tryz.func7 closed
    inst wrap
    (fun os started H enc _ F => by rw [OpenClaim.pre_eq_preRow]; exact lifted os started H enc F)

end Go.Proofs.YtlgolaoabgmijaaGreatDoor.classesNotes
