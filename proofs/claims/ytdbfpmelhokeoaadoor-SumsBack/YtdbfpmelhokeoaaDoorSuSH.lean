/-
  The width of a number of type uint16, and how many bytes numbers of it have.
-/
import Derived.Test.YtdbfpmelhokeoaaDoorSuW
namespace Go.Proofs.YtdbfpmelhokeoaaDoor.NH
open Go.RowKit Go.PlainAid Go.Lib Go.SuM
set_option linter.unusedVariables false
set_option linter.unusedSimpArgs false
theorem width_any (w : World) : Calls Tryd.prog 74 #[] w fun e w' => e = .returned (.int .i64 2) ∧ w' = w := by
  have h : bits .xor .u16 IntKind.u16.max 0 = 65536 - 1 := by decide
  go_enter Tryd.func74, Tryd.ntmps74
  go_wp2_with (go_at_call 84; refine (len32_16 _).mono ?_; rintro e w' ⟨rfl, rfl⟩)
  go_ret
  exact ⟨rfl, rfl⟩
theorem size_any (n : Int) (h0 : -9223372036854775808 ≤ n) (hn : n ≤ 2305843009213693951) (w : World) : Calls Tryd.prog 76 #[.int .i64 n] w fun e w' => e = .returned (.int .i64 (2 * max n 0)) ∧ w' = w := by
  by_cases h : 0 < n
  · have hm : (max n 0 : Int) = n := by omega
    have hw : IntKind.i64.wrap (n * 2) = n * 2 := by rw [IntKind.wrap_i64]; omega
    rw [hm]
    clear hm
    go_enter Tryd.func76, Tryd.ntmps76
    go_wp2_with (go_at_call 74; refine (width_any _).mono ?_; rintro e w' ⟨rfl, rfl⟩)
    go_ret
    exact ⟨ret_int (by omega), rfl⟩
  · have hm : (max n 0 : Int) = 0 := by omega
    rw [hm]
    clear hm
    go_enter Tryd.func76, Tryd.ntmps76
    go_wp2_with (go_at_call 74; refine (width_any _).mono ?_; rintro e w' ⟨rfl, rfl⟩)
    all_goals go_ret
    all_goals exact ⟨ret_int (by omega), rfl⟩
end Go.Proofs.YtdbfpmelhokeoaaDoor.NH
