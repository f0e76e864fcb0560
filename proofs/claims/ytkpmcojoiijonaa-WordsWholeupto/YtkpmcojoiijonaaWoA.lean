/-
  The small functions of package words: Blank, counts, small; the document's Blank.
-/
import Derived.Test.YtkpmcojoiijonaaWoM
namespace Go.Proofs.Ytkpmcojoiijonaa
open Go.RowKit Go.PlainAid Go.Lib

set_option maxHeartbeats 1000000 in
theorem blank_any (r : Int) (w : World) :
    Calls Try.prog 13 #[.int .i32 r] w fun e w' => e = .returned (.bool (blankB r)) ∧ w' = w := by
  go_enter Try.func13, Try.ntmps13
  go_wp2
  all_goals go_ret
  all_goals exact ⟨ret_bool (by unfold blankB; simp only [*]; first | rfl | (rw [Bool.eq_iff_iff]; simp <;> omega)), rfl⟩
set_option maxHeartbeats 1000000 in
theorem rBlank_any (r : Int) (w : World) :
    Calls Try.prog 14 #[.int .i32 r] w fun e w' => e = .returned (.bool (blankB r)) ∧ w' = w := by
  go_enter Try.func14, Try.ntmps14
  go_wp2
  all_goals go_ret
  all_goals exact ⟨ret_bool (by unfold blankB; simp only [*]; first | rfl | (rw [Bool.eq_iff_iff]; simp <;> omega)), rfl⟩
theorem counts_any (r : Int) (w : World) :
    Calls Try.prog 42 #[.int .i32 r] w fun e w' => e = .returned (.bool (countsB r)) ∧ w' = w := by
  by_cases h1 : r = 95
  · subst h1
    go_enter Try.func42, Try.ntmps42
    go_wp2_with (go_at_call 13; refine (blank_any _ _).mono ?_; rintro e w' ⟨rfl, rfl⟩)
    go_ret
    exact ⟨rfl, rfl⟩
  · have e1 : (r != 95) = true := by simp [h1]
    by_cases h2 : r = 45
    · subst h2
      go_enter Try.func42, Try.ntmps42
      go_wp2_with (go_at_call 13; refine (blank_any _ _).mono ?_; rintro e w' ⟨rfl, rfl⟩)
      go_ret
      exact ⟨rfl, rfl⟩
    · have e2 : (r != 45) = true := by simp [h2]
      have HC : Hid (countsB r = !blankB r) := by show _ = _; unfold countsB; rw [e1, e2]; rfl
      clear h1 h2
      go_enter Try.func42, Try.ntmps42
      go_wp2_with (go_at_call 13; refine (blank_any _ _).mono ?_; rintro e w' ⟨rfl, rfl⟩)
      go_ret
      exact ⟨ret_bool HC.out.symm, rfl⟩
theorem small_any (r : Int) (w : World) :
    Calls Try.prog 43 #[.int .i32 r] w fun e w' => e = .returned (.int .i32 (smallN r)) ∧ w' = w := by
  go_enter Try.func43, Try.ntmps43
  go_wp2
  all_goals go_ret
  all_goals exact ⟨ret_int (by unfold smallN; (repeat' split) <;> omega), rfl⟩
end Go.Proofs.Ytkpmcojoiijonaa
