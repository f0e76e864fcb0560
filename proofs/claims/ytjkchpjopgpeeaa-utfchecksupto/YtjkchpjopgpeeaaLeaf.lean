/-
  What the small functions of package utf answer, for every argument: Scalar, Width and their helpers, the first byte of a sequence. Nothing is written.
-/
import Derived.Test.YtjkchpjopgpeeaaRows
import Derived.WalkKit
import Derived.WalkSpells
import Derived.WalkLawsBesides
import Derived.Handy
namespace Go.Proofs.Ytjkchpjopgpeeaa
open Go.RowKit

theorem ret_int {k : IntKind} {a b : Int} (h : a = b) : Ending.returned (.int k a) = .returned (.int k b) := by rw [h]
theorem ret_int2 {k l : IntKind} {a b c d : Int} (h : a = b) (h' : c = d) : Ending.returned (.tuple #[.int k a, .int l c]) = .returned (.tuple #[.int k b, .int l d]) := by rw [h, h']
theorem ret_bool {a b : Bool} (h : a = b) : Ending.returned (.bool a) = .returned (.bool b) := by rw [h]

def halfB (r : Int) : Bool := decide (55296 ≤ r) && decide (r ≤ 57343)
def scalarB (r : Int) : Bool := decide (0 ≤ r) && decide (r ≤ 1114111) && !halfB r
def bytesN (r : Int) : Int := if r < 128 then 1 else if r < 2048 then 2 else if r < 65536 then 3 else 4
def widthN (r : Int) : Int := if scalarB r then bytesN r else 0
def tailB (b : Int) : Bool := decide (128 ≤ b) && decide (b ≤ 191)

theorem isHalf_any (r : Int) (w : World) :
    Calls Try.prog 57 #[.int .i32 r] w fun e w' => e = .returned (.bool (halfB r)) ∧ w' = w := by
  go_enter Try.func57, Try.ntmps57
  go_wp2
  all_goals go_ret
  all_goals exact ⟨by simp [halfB]; omega, rfl⟩

theorem scalar_any (r : Int) (w : World) :
    Calls Try.prog 53 #[.int .i32 r] w fun e w' => e = .returned (.bool (scalarB r)) ∧ w' = w := by
  go_enter Try.func53, Try.ntmps53
  go_wp2_with (go_at_call 57; refine (isHalf_any _ _).mono ?_; rintro e w' ⟨rfl, rfl⟩)
  all_goals go_ret
  all_goals exact ⟨by simp [scalarB, *]; try omega, rfl⟩

theorem bytesFor_any (r : Int) (w : World) :
    Calls Try.prog 54 #[.int .i32 r] w fun e w' => e = .returned (.int .i64 (bytesN r)) ∧ w' = w := by
  go_enter Try.func54, Try.ntmps54
  go_wp2
  all_goals go_ret
  all_goals exact ⟨ret_int (by unfold bytesN; (repeat' split) <;> omega), rfl⟩

theorem width_any (r : Int) (w : World) :
    Calls Try.prog 43 #[.int .i32 r] w fun e w' => e = .returned (.int .i64 (widthN r)) ∧ w' = w := by
  cases h : scalarB r
  all_goals
    go_enter Try.func43, Try.ntmps43
    go_wp2_with (first | (go_at_call 53; refine (scalar_any _ _).mono ?_; rintro e w' ⟨rfl, rfl⟩) | (go_at_call 54; refine (bytesFor_any _ _).mono ?_; rintro e w' ⟨rfl, rfl⟩))
    go_ret
    exact ⟨by simp [widthN, h], rfl⟩

theorem isTail_any (b : Int) (w : World) :
    Calls Try.prog 44 #[.int .u8 b] w fun e w' => e = .returned (.bool (tailB b)) ∧ w' = w := by
  go_enter Try.func44, Try.ntmps44
  go_wp2
  all_goals go_ret
  all_goals exact ⟨by simp [tailB]; omega, rfl⟩

/-- How many bytes a sequence has that begins with b. -/
def leadN (b : Int) : Int := if b < 128 then 1 else if b < 192 then 0 else if b < 224 then 2 else if b < 240 then 3 else if b < 248 then 4 else 0
/-- The bits that b gives. -/
def leadBits (b : Int) : Int := if b < 128 then b else if b < 192 then 0 else if b < 224 then b % 32 else if b < 240 then b % 16 else if b < 248 then b % 8 else 0

theorem lead_any (b : Int) (h0 : 0 ≤ b) (h1 : b ≤ 255) (w : World) :
    Calls Try.prog 49 #[.int .u8 b] w fun e w' => e = .returned (.tuple #[.int .i64 (leadN b), .int .i32 (leadBits b)]) ∧ w' = w := by
  go_enter Try.func49, Try.ntmps49
  have e1 := u8_and31 b h0 (by omega)
  have e2 := u8_and15 b h0 (by omega)
  have e3 := u8_and7 b h0 (by omega)
  go_wp2
  all_goals go_ret2
  all_goals exact ⟨ret_int2 (by unfold leadN; (repeat' split) <;> omega) (by unfold leadBits; (repeat' split) <;> omega), rfl⟩

/-- Why a number may not be written in n bytes; 0: it may. -/
def whyNoN (r n : Int) : Int := if bytesN r < n then 13 else if halfB r then 14 else if 1114111 < r then 15 else 0

theorem whyNo_any (r n : Int) (w : World) :
    Calls Try.prog 52 #[.int .i32 r, .int .i64 n] w fun e w' => e = .returned (.int .i64 (whyNoN r n)) ∧ w' = w := by
  cases hh : halfB r
  all_goals
    go_enter Try.func52, Try.ntmps52
    go_wp2_with (first | (go_at_call 57; refine (isHalf_any _ _).mono ?_; rintro e w' ⟨rfl, rfl⟩) | (go_at_call 54; refine (bytesFor_any _ _).mono ?_; rintro e w' ⟨rfl, rfl⟩))
    all_goals go_ret
    all_goals exact ⟨ret_int (by unfold whyNoN; (repeat' split) <;> (first | rfl | omega | simp_all)), rfl⟩

end Go.Proofs.Ytjkchpjopgpeeaa
