/-
  How many bytes a number has: the library's Len32 at three numbers.
-/
import Derived.Test.YteakbnogfnbpkaaGreatDoorSuC
namespace Go.Proofs.YteakbnogfnbpkaaGreatDoor
open Go.RowKit Go.PlainAid Go.Lib Go.SuM
set_option linter.unusedVariables false
set_option linter.unusedSimpArgs false
set_option maxRecDepth 100000 in
theorem len32_8 (w : World) : Calls Tryz.prog 136 #[.int .u32 255] w fun e w' => e = .returned (.int .i64 8) ∧ w' = w := by
  go_enter Tryz.func136, Tryz.ntmps136
  go_wp2
  go_ret
  exact ⟨ret_int (by decide +kernel), rfl⟩
set_option maxRecDepth 100000 in
theorem len32_16 (w : World) : Calls Tryz.prog 136 #[.int .u32 65535] w fun e w' => e = .returned (.int .i64 16) ∧ w' = w := by
  go_enter Tryz.func136, Tryz.ntmps136
  go_wp2
  go_ret
  exact ⟨ret_int (by decide +kernel), rfl⟩
set_option maxRecDepth 100000 in
theorem len32_32 (w : World) : Calls Tryz.prog 136 #[.int .u32 4294967295] w fun e w' => e = .returned (.int .i64 32) ∧ w' = w := by
  go_enter Tryz.func136, Tryz.ntmps136
  go_wp2
  go_ret
  exact ⟨ret_int (by decide +kernel), rfl⟩
end Go.Proofs.YteakbnogfnbpkaaGreatDoor
