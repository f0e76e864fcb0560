/-
  The document's answer for layer 2, its small functions: Width, Split, HighOne, LowOne, Join.
-/
import Derived.Test.YtghcheoholkpbaaWAwake
namespace Go.Proofs.Ytghcheoholkpbaa
open Go.RowKit Go.PlainAid Go.Lib

theorem rWidth_any (r : Int) (w : World) :
    Calls Try.prog 19 #[.int .i32 r] w fun e w' => e = .returned (.int .i64 (wN r)) ∧ w' = w := by
  go_enter Try.func19, Try.ntmps19
  go_wp2
  all_goals go_ret
  all_goals exact ⟨ret_int (by unfold wN pairB; simp; omega), rfl⟩
theorem rHigh_any (u : Int) (w : World) :
    Calls Try.prog 54 #[.int .u16 u] w fun e w' => e = .returned (.bool (highB u)) ∧ w' = w := by
  go_enter Try.func54, Try.ntmps54
  go_wp2
  all_goals go_ret
  all_goals exact ⟨ret_bool (by rw [Bool.eq_iff_iff]; simp [highB]; omega), rfl⟩
theorem rLow_any (u : Int) (w : World) :
    Calls Try.prog 55 #[.int .u16 u] w fun e w' => e = .returned (.bool (lowB u)) ∧ w' = w := by
  go_enter Try.func55, Try.ntmps55
  go_wp2
  all_goals go_ret
  all_goals exact ⟨ret_bool (by rw [Bool.eq_iff_iff]; simp [lowB]; try omega), rfl⟩
theorem rSplit_no (r : Int) (w : World) (h : pairB r = false) :
    Calls Try.prog 15 #[.int .i32 r] w fun e w' => e = .returned (.tuple #[.int .u16 0, .int .u16 0, .bool false]) ∧ w' = w := by
  have HW : Hid (wN r = 1) := by show _ = _; unfold wN; rw [h]; rfl
  go_enter Try.func15, Try.ntmps15
  go_wp2_with (go_at_call 19; refine (rWidth_any _ _).mono ?_; rintro e w' ⟨rfl, rfl⟩; rw [unhide HW])
  go_returns
  exact ⟨rfl, rfl⟩
theorem rSplit_yes (r : Int) (w : World) (h : pairB r = true) :
    Calls Try.prog 15 #[.int .i32 r] w fun e w' => e = .returned (.tuple #[.int .u16 (hiN r), .int .u16 (loN r), .bool true]) ∧ w' = w := by
  have HW : Hid (wN r = 2) := by show _ = _; unfold wN; rw [h]; rfl
  have hb : 65536 ≤ r ∧ r ≤ 1114111 := by unfold pairB at h; simpa using h
  obtain ⟨h0, h1⟩ := hb
  go_enter Try.func15, Try.ntmps15
  go_wp2_with (go_at_call 19; refine (rWidth_any _ _).mono ?_; rintro e w' ⟨rfl, rfl⟩; rw [unhide HW])
  go_returns
  exact ⟨ret_units (by unfold hiN; omega) (by unfold loN; omega), rfl⟩
theorem rJoin_no (a b : Int) (w : World) (h : (highB a && lowB b) = false) :
    Calls Try.prog 17 #[.int .u16 a, .int .u16 b] w fun e w' => e = .returned (.tuple #[.int .i32 0, .bool false]) ∧ w' = w := by
  cases ha : highB a
  · go_enter Try.func17, Try.ntmps17
    go_wp2_with (first | (go_at_call 54; refine (rHigh_any _ _).mono ?_; rintro e w' ⟨rfl, rfl⟩) | (go_at_call 55; refine (rLow_any _ _).mono ?_; rintro e w' ⟨rfl, rfl⟩))
    go_returns
    exact ⟨rfl, rfl⟩
  · have hb : lowB b = false := by rw [ha] at h; simpa using h
    clear h
    go_enter Try.func17, Try.ntmps17
    go_wp2_with (first | (go_at_call 54; refine (rHigh_any _ _).mono ?_; rintro e w' ⟨rfl, rfl⟩) | (go_at_call 55; refine (rLow_any _ _).mono ?_; rintro e w' ⟨rfl, rfl⟩))
    go_returns
    exact ⟨rfl, rfl⟩
theorem rJoin_yes (a b : Int) (w : World) (ha : highB a = true) (hb : lowB b = true) :
    Calls Try.prog 17 #[.int .u16 a, .int .u16 b] w fun e w' => e = .returned (.tuple #[.int .i32 (joinN a b), .bool true]) ∧ w' = w := by
  have h1 : 55296 ≤ a ∧ a < 56320 := by unfold highB at ha; simpa using ha
  have h2 : 56320 ≤ b ∧ b ≤ 57343 := by unfold lowB at hb; simpa using hb
  obtain ⟨h1, h1'⟩ := h1
  obtain ⟨h2, h2'⟩ := h2
  go_enter Try.func17, Try.ntmps17
  go_wp2_with (first | (go_at_call 54; refine (rHigh_any _ _).mono ?_; rintro e w' ⟨rfl, rfl⟩) | (go_at_call 55; refine (rLow_any _ _).mono ?_; rintro e w' ⟨rfl, rfl⟩))
  go_returns
  exact ⟨ret_rune (by unfold joinN; omega), rfl⟩

end Go.Proofs.Ytghcheoholkpbaa
