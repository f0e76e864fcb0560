/-
  What every program tells of a few names: the law's function awake answers true.
-/
import Derived.Test.YtkpmcojoiijonaaWoF
namespace Go.Proofs.Ytkpmcojoiijonaa
open Go.RowKit Go.PlainAid Go.Lib
set_option linter.unusedVariables false

abbrev awA : ByteArray := ⟨#[114, 105, 103, 104, 116, 32, 116, 111, 45, 76, 69, 70, 84]⟩
abbrev awB : ByteArray := ⟨#[114, 105, 103, 104, 116]⟩
abbrev awC : ByteArray := ⟨#[65, 76, 227, 128, 128, 119, 104, 105, 116, 101, 95, 115, 112, 97, 99, 101]⟩
abbrev awD : ByteArray := ⟨#[32, 67, 108, 111, 115, 101]⟩
abbrev awE : ByteArray := ⟨#[255, 65, 95]⟩
theorem awA1 : classN (looseB awA) = 2 := by decide +kernel
theorem awB1 : classN (looseB awB) = 0 := by decide +kernel
theorem awC1 : clsL awC = [3, 13] ∧ clsP awC = 0 ∧ clsE awC = 0 := by decide +kernel
theorem awD1 : sideN (looseB awD) = 2 ∧ sideE (looseB awD) = 0 := by decide +kernel
theorem awE1 : looseB awE = ⟨#[239, 191, 189, 97]⟩ := by decide +kernel
theorem bl1 : blankB 12288 = true := by decide
theorem bl2 : blankB 97 = false := by decide
theorem blank_in (r : Int) (b : Bool) (h : blankB r = b) (w : World) : Calls Try.prog 13 #[.int .i32 r] w fun e w' => e = .returned (.bool b) ∧ w' = w := by subst h; exact blank_any r w

set_option maxRecDepth 100000 in
set_option maxHeartbeats 2000000 in
theorem awake_any (w : World) : Calls Try.prog 15 #[] w fun e w' => e = .returned (.bool true) ∧ Below w.heap.size w w' := by
  go_enter Try.func15, Try.ntmps15
  go_wp2_with fail
  refine (class_any awA w (by decide)).mono ?_
  rintro e w1 ⟨rfl, hb1⟩
  rw [awA1]
  go_wp2_with fail
  refine (class_any awB w1 (by decide)).mono ?_
  rintro e w2 ⟨rfl, hb2⟩
  rw [awB1]
  go_wp2_with fail
  refine (classes_any awC w2 (by decide)).mono ?_
  rintro e w3 ⟨v, rfl, hrow, hb3⟩
  rw [awC1.1] at hrow
  have hrow : w3.ownsRow w2.heap.size 34 1 v 2 [.int .u8 3, .int .u8 13] := hrow
  rw [awC1.2.1, awC1.2.2]
  obtain ⟨va, vc, rfl⟩ := row_sliceC hrow
  have hB3 : Below w.heap.size w w3 := (hb1.trans (hb2.mono hb1.size)).trans (hb3.mono (hb1.trans (hb2.mono hb1.size)).size)
  go_wp2_with fail
  refine (side_any awD w3 (by decide)).mono ?_
  rintro e w4 ⟨rfl, hb4⟩
  rw [awD1.1, awD1.2]
  have hrow4 := row_belowC hrow hb4
  have hsl : ∃ g, va = some ⟨g, 0, none⟩ ∧ 2 ≤ vc ∧ vc ≤ maxLen := by
    rcases hrow4.2 with ⟨h, _⟩ | ⟨g, cap, cur, h, _, _, h1, h2, _⟩
    · simp at h
    · simp only [Value.slice.injEq] at h
      exact ⟨g, h.1, by rw [h.2.2]; exact h1, by rw [h.2.2]; exact h2⟩
  obtain ⟨g, rfl, hv1, hv2⟩ := hsl
  have k1 := hrow4.cellAt 1 (by decide)
  have hB4 := hB3.trans (hb4.mono hB3.size)
  unfold maxLen at hv2
  clear hrow hrow4 hb1 hb2 hb3 hb4 hB3
  have n1 : (noneE 2 == 0) = true := by decide
  have n2 : (noneE 0 == 50) = true := by decide
  have k1' : w4.cell? ⟨g, 1, none⟩ = some (.int .u8 13) := k1
  clear k1
  go_wp2_with (first | (go_at_call 18; refine (loose_any awE w4 (by decide)).mono ?_; rintro e w5 ⟨rfl, hb5⟩; rw [awE1]) | (go_at_call 13; refine (blank_any _ _).mono ?_; rintro e w6 ⟨rfl, rfl⟩; first | rw [bl1] | rw [bl2]))
  go_ret
  exact ⟨rfl, hB4.trans (hb5.mono hB4.size)⟩
end Go.Proofs.Ytkpmcojoiijonaa
