/-
  ClassesNames: the walk.
-/
import Derived.Test.YtlgolaoabgmijaaGreatDoorClL
namespace Go.Proofs.YtlgolaoabgmijaaGreatDoor
open Go.RowKit Go.PlainAid Go.Lib Go.PHexM Go.Shelf Go.PRow
set_option linter.unusedVariables false

set_option maxRecDepth 100000 in
theorem names7_walk (w : World) (hm : MaxAt w) :
    Calls Tryz.prog 8 #[] w fun e w' => e = .returned (.bool true) ∧ Below w.heap.size w w' := by
  have HA := hide (awake7_any w hm)
  go_enter Tryz.func8, Tryz.ntmps8
  go_wp2_with fail
  refine (unhide HA).mono ?_
  rintro e w1 ⟨rfl, hb1⟩
  go_wp2
  go_ret
  exact ⟨rfl, hb1⟩
end Go.Proofs.YtlgolaoabgmijaaGreatDoor
