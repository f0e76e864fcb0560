/-
  The law MirrorsNames, walked.
-/
import Derived.Test.YtnabbahdmajfpaaGreatDoorMrAw
namespace Go.Proofs.YtnabbahdmajfpaaGreatDoor
open Go.RowKit Go.PlainAid
set_option linter.unusedVariables false

theorem names_walk (w : World) (hg : errTypeAt w) : Calls Tryz.prog 12 #[] w fun e w' => e = .returned (.bool true) ∧ Below w.heap.size w w' := by
  have HA := hideM (awake9_any w hg)
  clear hg
  go_enter Tryz.func12, Tryz.ntmps12
  go_wp2_with (go_at_call 15; with_reducible refine (unhideM HA).mono ?_; rintro e w1 ⟨rfl, hb⟩)
  go_ret
  exact ⟨rfl, hb⟩
end Go.Proofs.YtnabbahdmajfpaaGreatDoor
