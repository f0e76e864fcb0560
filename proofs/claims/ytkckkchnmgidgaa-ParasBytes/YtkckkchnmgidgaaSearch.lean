/-
  The binary search over the beginnings of the characters; At and Begins of the places of a text.
-/
import Derived.Test.YtkckkchnmgidgaaStart
import Derived.Deep.QuietTactic
import Derived.BigQuiet
namespace Go.Proofs.Ytkckkchnmgidgaa
open Go.RowKit Go.PlainAid Go.Lib
set_option linter.unusedVariables false

/-- i is how many of the first m numbers are below t -/
def Found (m : Nat) (f : Nat → Nat) (t : Int) (i : Nat) : Prop := i ≤ m ∧ (∀ k, k < i → (f k : Int) < t) ∧ (∀ k, i ≤ k → k < m → t ≤ (f k : Int))
theorem ret_found {a : Int} {b c : Bool} (h : b = c) : Ending.returned (.tuple #[.int .i64 a, .bool b]) = .returned (.tuple #[.int .i64 a, .bool c]) := by rw [h]

theorem places_cell {w : World} {g n cap : Nat} {s : ByteArray} (h : w.ownsRow 0 3 1 (.slice (some ⟨g, 0, none⟩) ((chars s 0).length + 1) cap) ((chars s 0).length + 1) (startVals s)) :
    ∀ k, k < (chars s 0).length + 1 → w.cell? ⟨g, k, none⟩ = some (.int .i64 (startN s k : Nat)) := fun k hk => (h.cellAt k (by omega)).trans (startVals_at s k hk)

/-- does a character begin at b, or the text end there? -/
def beginsB (s : ByteArray) (b : Int) : Bool := (starts s 0).any fun x => decide ((x : Int) = b)
theorem starts_len (s : ByteArray) : (starts s 0).length = (chars s 0).length + 1 := by simp [starts]
theorem begins_iff (s : ByteArray) (b : Int) : beginsB s b = true ↔ ∃ k, k < (chars s 0).length + 1 ∧ (startN s k : Int) = b := by
  unfold beginsB
  rw [List.any_eq_true]
  constructor
  · rintro ⟨x, hx, h⟩
    obtain ⟨k, hk, rfl⟩ := List.getElem_of_mem hx
    rw [starts_len] at hk
    exact ⟨k, hk, by simpa [startN_starts, List.getD_eq_getElem?_getD, List.getElem?_eq_getElem (show k < (starts s 0).length by rw [starts_len]; exact hk)] using h⟩
  · rintro ⟨k, hk, h⟩
    have hk' : k < (starts s 0).length := by rw [starts_len]; exact hk
    exact ⟨(starts s 0)[k], List.getElem_mem _, by simpa [startN_starts, List.getD_eq_getElem?_getD, List.getElem?_eq_getElem hk'] using h⟩
theorem found_begins (s : ByteArray) (b : Int) (i : Nat) (h : Found ((chars s 0).length + 1) (startN s) b i) : decide (i < (chars s 0).length + 1 ∧ (startN s i : Int) = b) = beginsB s b := by
  rw [Bool.eq_iff_iff, begins_iff, decide_eq_true_iff]
  obtain ⟨h1, h2, h3⟩ := h
  constructor
  · rintro ⟨a, b⟩; exact ⟨i, a, b⟩
  · rintro ⟨k, hk, e⟩
    by_cases hki : k < i
    · have := h2 k hki; omega
    · have h4 := h3 i (Nat.le_refl _) (by omega)
      have h5 := start_le s i k (by omega) (by omega)
      exact ⟨by omega, by omega⟩
theorem found_at (s : ByteArray) (b k i : Nat) (h : Found ((chars s 0).length + 1) (startN s) b i) (hk : k ≤ (chars s 0).length) (h1 : startN s k ≤ b) (h2 : k < (chars s 0).length → b < startN s (k + 1)) (hb : b ≤ s.size) :
    (i = k ∧ decide (i < (chars s 0).length + 1 ∧ (startN s i : Int) = b) = true) ∨ (i = k + 1 ∧ decide (i < (chars s 0).length + 1 ∧ (startN s i : Int) = b) = false) := by
  obtain ⟨f1, f2, f3⟩ := h
  by_cases e : startN s k = b
  · left
    have hi1 : i ≤ k := by
      refine Decidable.byContradiction fun hn => ?_
      have := f2 k (by omega); omega
    have hi2 : k ≤ i := by
      refine Decidable.byContradiction fun hn => ?_
      have := f3 i (Nat.le_refl _) (by omega)
      have := start_lt_lt s i k (by omega) hk
      omega
    obtain rfl : i = k := by omega
    exact ⟨rfl, by simp; omega⟩
  · right
    have hkn : k < (chars s 0).length := by
      refine Decidable.byContradiction fun hn => ?_
      obtain rfl : k = (chars s 0).length := by omega
      rw [start_len] at *; omega
    have h2' := h2 hkn
    have hi1 : i ≤ k + 1 := by
      refine Decidable.byContradiction fun hn => ?_
      have := f2 (k + 1) (by omega); omega
    have hi2 : k + 1 ≤ i := by
      refine Decidable.byContradiction fun hn => ?_
      have := f3 i (Nat.le_refl _) (by omega)
      have := start_le s i k (by omega) hk
      omega
    obtain rfl : i = k + 1 := by omega
    refine ⟨rfl, by simp; omega⟩

end Go.Proofs.Ytkckkchnmgidgaa
