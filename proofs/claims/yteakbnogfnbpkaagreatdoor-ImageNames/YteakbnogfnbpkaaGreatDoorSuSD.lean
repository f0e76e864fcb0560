/-
  The width of a number of type uint32, and how many bytes numbers of it have.
-/
import Derived.Test.YteakbnogfnbpkaaGreatDoorSuW
namespace Go.Proofs.YteakbnogfnbpkaaGreatDoor.ND
open Go.RowKit Go.PlainAid Go.Lib Go.SuM
set_option linter.unusedVariables false
set_option linter.unusedSimpArgs false
theorem width_any (w : World) : Calls Tryz.prog 90 #[] w fun e w' => e = .returned (.int .i64 4) ∧ w' = w := by
  have h : bits .xor .u32 IntKind.u32.max 0 = 4294967296 - 1 := by decide
  go_enter Tryz.func90, Tryz.ntmps90
  go_wp2_with (go_at_call 136; refine (len32_32 _).mono ?_; rintro e w' ⟨rfl, rfl⟩)
  go_ret
  exact ⟨rfl, rfl⟩
theorem size_any (n : Int) (h0 : -9223372036854775808 ≤ n) (hn : n ≤ 2305843009213693951) (w : World) : Calls Tryz.prog 140 #[.int .i64 n] w fun e w' => e = .returned (.int .i64 (4 * max n 0)) ∧ w' = w := by
  by_cases h : 0 < n
  · have hm : (max n 0 : Int) = n := by omega
    have hw : IntKind.i64.wrap (n * 4) = n * 4 := by rw [IntKind.wrap_i64]; omega
    rw [hm]
    clear hm
    go_enter Tryz.func140, Tryz.ntmps140
    go_wp2_with (go_at_call 90; refine (width_any _).mono ?_; rintro e w' ⟨rfl, rfl⟩)
    go_ret
    exact ⟨ret_int (by omega), rfl⟩
  · have hm : (max n 0 : Int) = 0 := by omega
    rw [hm]
    clear hm
    go_enter Tryz.func140, Tryz.ntmps140
    go_wp2_with (go_at_call 90; refine (width_any _).mono ?_; rintro e w' ⟨rfl, rfl⟩)
    all_goals go_ret
    all_goals exact ⟨ret_int (by omega), rfl⟩
end Go.Proofs.YteakbnogfnbpkaaGreatDoor.ND
