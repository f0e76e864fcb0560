/-
  What every program tells of a few bytes: the law's function lives answers true.
-/
import Derived.Test.YtkckkchnmgidgaaCheck
namespace Go.Proofs.Ytkckkchnmgidgaa
open Go.RowKit Go.PlainAid Go.Lib

abbrev sL : ByteArray := ⟨#[97, 195, 169, 226, 130]⟩
theorem charsL : chars sL 0 = [(0, 97), (1, 233), (3, 65533), (4, 65533)] := by decide +kernel
theorem placesL : places sL = [0, 1, 3, 4] := by rw [places, charsL]; rfl
theorem whyL0 : why sL 0 = 0 := by decide +kernel
theorem whyL1 : why sL 1 = 0 := by decide +kernel
theorem whyL3 : why sL 3 = 11 := by decide +kernel
theorem whyL4 : why sL 4 = 10 := by decide +kernel
theorem lastL : lastPos sL = 4 := by decide +kernel
theorem startL : startN sL 2 = 3 := by rw [startN, charsL]; rfl
theorem decL4 : Utf8.decode sL 4 = (65533, 1) := by decide +kernel
theorem encL : runesBytes [128512] = ⟨#[240, 159, 152, 128]⟩ := by decide +kernel

theorem checkL (a : Nat) (c : Int) (h : checkV sL a c) : a = 3 ∧ c = 11 := by
  rcases h with ⟨h, _, _⟩ | ⟨pre, rest, h1, h2, h3, h4⟩
  · have := h 3 (by rw [placesL]; simp)
    rw [whyL3] at this; cases this
  · rw [placesL] at h1
    match pre, h1 with
    | [], h1 => simp at h1; rw [← h1.1] at h3; exact absurd whyL0 h3
    | [x], h1 => simp at h1; rw [← h1.2.1] at h3; exact absurd whyL1 h3
    | [x, y], h1 =>
      simp at h1
      obtain ⟨_, _, rfl, _⟩ := h1
      exact ⟨rfl, by rw [h4, whyL3]⟩
    | x :: y :: z :: r, h1 =>
      simp at h1
      have := h2 3 (by rw [← h1.2.2.1]; simp)
      rw [whyL3] at this; cases this

end Go.Proofs.Ytkckkchnmgidgaa
