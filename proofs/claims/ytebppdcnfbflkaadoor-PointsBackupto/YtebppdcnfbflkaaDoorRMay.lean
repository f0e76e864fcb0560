/-
  The document's May of every range.
-/
import Derived.Test.YtebppdcnfbflkaaDoorPMay
namespace Go.Proofs.YtebppdcnfbflkaaDoor
open Go.RowKit Go.PlainAid Go.Lib

theorem refMay_any (lo hi : Int) (w : World) :
    Calls Tryd.prog 10 #[.agg #[.int .i32 lo, .int .i32 hi]] w fun e w' => e = .returned (.bool (mayB lo hi)) ∧ w' = w.alloc (.cells #[.int .i32 lo, .int .i32 hi] 23) := by
  by_cases h1 : 0 ≤ lo <;> by_cases h2 : lo ≤ hi <;> by_cases h3 : hi ≤ 1114111
  any_goals (exfalso; omega)
  all_goals (go_enter Tryd.func10, Tryd.ntmps10; go_wp2)
  all_goals go_ret
  all_goals exact ⟨by first | rfl | simp [mayB, h1, h2, h3] | (simp [mayB]; omega), rfl⟩
end Go.Proofs.YtebppdcnfbflkaaDoor
