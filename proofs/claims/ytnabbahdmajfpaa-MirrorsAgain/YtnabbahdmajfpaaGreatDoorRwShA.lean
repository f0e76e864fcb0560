/-
  Go's small roads to the base sixteen: 16 is a power of two, and four zeros stand behind its one.
-/
import Derived.Test.YtnabbahdmajfpaaGreatDoorRwRHex
namespace Go.Proofs.YtnabbahdmajfpaaGreatDoor
open Go.RowKit Go.PlainAid Go.Lib
set_option linter.unusedVariables false

theorem pow2_16 (w : World) : Calls Tryz.prog 147 #[.int .i64 16] w fun e w' => e = .returned (.bool true) ∧ w' = w := by
  have h : bits .and .i64 16 15 = 0 := by decide
  go_enter Tryz.func147, Tryz.ntmps147
  go_wp2
  go_ret
  exact ⟨rfl, rfl⟩
/-- the table of the library tells four for sixteen -/
def tz16At (w : World) : Prop := w.cell? ⟨7, 15, none⟩ = some (.int .u8 4)
theorem tz64_16 (w : World) (hg : tz16At w) : Calls Tryz.prog 159 #[.int .u64 16] w fun e w' => e = .returned (.int .i64 4) ∧ w' = w := by
  have hg' : w.cell? ⟨7, 15, none⟩ = some (.int .u8 4) := hg
  have q0 : bits .and .u64 16 (IntKind.u64.wrap (-16)) = 16 := by decide
  have q1 : IntKind.u64.wrap (16 * 285870213051353865) = 4573923408821661840 := by decide
  clear hg
  go_enter Tryz.func159, Tryz.ntmps159
  go_wp2
  go_ret
  exact ⟨rfl, rfl⟩
theorem tz_16 (w : World) (hg : tz16At w) : Calls Tryz.prog 148 #[.int .u64 16] w fun e w' => e = .returned (.int .i64 4) ∧ w' = w := by
  have H := hide (tz64_16 w hg)
  clear hg
  go_enter Tryz.func148, Tryz.ntmps148
  go_wp2_with (go_at_call 159; refine (unhide H).mono ?_; rintro e w' ⟨rfl, rfl⟩)
  go_ret
  exact ⟨rfl, rfl⟩
end Go.Proofs.YtnabbahdmajfpaaGreatDoor
