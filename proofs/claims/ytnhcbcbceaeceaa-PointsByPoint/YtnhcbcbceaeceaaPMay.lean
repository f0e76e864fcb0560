/-
  May of every range.
-/
import Derived.Test.YtnhcbcbceaeceaaRows
import Derived.WalkKit
import Derived.WalkSpells
import Derived.WalkLawsBesides
import Derived.Handy
import Derived.PlainAid
namespace Go.Proofs.Ytnhcbcbceaeceaa
open Go.RowKit Go.PlainAid Go.Lib

theorem hide {p : Prop} (h : p) : Hid p := h
theorem unhide {p : Prop} (h : Hid p) : p := h

def mayB (lo hi : Int) : Bool := decide (0 ≤ lo) && (decide (lo ≤ hi) && decide (hi ≤ 1114111))
theorem mayB_iff {lo hi : Int} : mayB lo hi = true ↔ 0 ≤ lo ∧ lo ≤ hi ∧ hi ≤ 1114111 := by simp [mayB]

theorem may_any (lo hi : Int) (w : World) :
    Calls Try.prog 41 #[.agg #[.int .i32 lo, .int .i32 hi]] w fun e w' => e = .returned (.bool (mayB lo hi)) ∧ w' = w.alloc (.cells #[.int .i32 lo, .int .i32 hi] 28) := by
  by_cases h1 : 0 ≤ lo <;> by_cases h2 : lo ≤ hi <;> by_cases h3 : hi ≤ 1114111
  any_goals (exfalso; omega)
  all_goals (go_enter Try.func41, Try.ntmps41; go_wp2)
  all_goals go_ret
  all_goals exact ⟨by first | rfl | simp [mayB, h1, h2, h3] | (simp [mayB]; omega), rfl⟩
end Go.Proofs.Ytnhcbcbceaeceaa
