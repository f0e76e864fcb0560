/-
  A set of numbers as words of 64 bits: what is in it, a stretch within one word, and what it becomes.
-/
namespace Go.TrTk
set_option linter.unusedVariables false
/-- is r in the set? -/
def has (ws : List Nat) (r : Nat) : Bool := ((ws[r / 64]?).getD 0).testBit (r % 64)
/-- the bits from a on, d more than one -/
def mask (a d : Nat) : Nat := (2 ^ (d + 1) - 1) * 2 ^ a
theorem mask_bit (a d i : Nat) : (mask a d).testBit i = decide (a ≤ i ∧ i ≤ a + d) := by
  unfold mask
  rw [← Nat.shiftLeft_eq, Nat.testBit_shiftLeft, Nat.testBit_two_pow_sub_one]
  by_cases h : a ≤ i
  · by_cases h2 : i ≤ a + d
    · have : i - a < d + 1 := by omega
      simp [h, h2, this]
    · have : ¬ i - a < d + 1 := by omega
      simp [h, h2, this]
  · simp [h]
theorem mask_lt {a d : Nat} (h : a + d < 64) : mask a d < 2 ^ 64 := by
  unfold mask
  have h1 : (2 ^ (d + 1) - 1) * 2 ^ a < 2 ^ (d + 1) * 2 ^ a := Nat.mul_lt_mul_of_pos_right (Nat.sub_lt (Nat.two_pow_pos _) (by decide)) (Nat.two_pow_pos _)
  rw [← Nat.pow_add] at h1
  exact Nat.lt_of_lt_of_le h1 (Nat.pow_le_pow_right (by decide) (by omega))
theorem shr_ones {d : Nat} (h : d ≤ 63) : (2 ^ 64 - 1) / 2 ^ (63 - d) = 2 ^ (d + 1) - 1 := by
  rw [← Nat.shiftRight_eq_div_pow]
  apply Nat.eq_of_testBit_eq
  intro i
  rw [Nat.testBit_shiftRight, Nat.testBit_two_pow_sub_one, Nat.testBit_two_pow_sub_one]
  exact decide_eq_decide.2 (by omega)
theorem and_zero (w a d : Nat) : w &&& mask a d = 0 ↔ ∀ i, a ≤ i → i ≤ a + d → w.testBit i = false := by
  constructor
  · intro h i h1 h2
    have := congrArg (fun n => n.testBit i) h
    simp only [Nat.testBit_and, mask_bit, Nat.zero_testBit] at this
    simpa [h1, h2] using this
  · intro h
    apply Nat.eq_of_testBit_eq
    intro i
    rw [Nat.testBit_and, mask_bit, Nat.zero_testBit]
    by_cases h1 : a ≤ i ∧ i ≤ a + d
    · rw [h i h1.1 h1.2]; rfl
    · simp [h1]
/-- the stretch from f to e, within one word, put into the set -/
theorem has_set {ws : List Nat} {f e : Nat} (hw : f / 64 < ws.length) (hfe : f ≤ e) (hs : e / 64 = f / 64) (r : Nat) : has (ws.set (f / 64) ((ws[f / 64]?).getD 0 ||| mask (f % 64) (e - f))) r = (has ws r || decide (f ≤ r ∧ r ≤ e)) := by
  unfold has
  rw [List.getElem?_set]
  by_cases h : f / 64 = r / 64
  · rw [if_pos h, if_pos hw, Option.getD_some, Nat.testBit_or, mask_bit, h]
    congr 1
    exact decide_eq_decide.2 (by omega)
  · rw [if_neg h]
    have : ¬ (f ≤ r ∧ r ≤ e) := by
      intro ⟨h1, h2⟩
      have a1 := Nat.div_le_div_right (c := 64) h1
      have a2 := Nat.div_le_div_right (c := 64) h2
      omega
    simp [this]
theorem has_none {ws : List Nat} {f e : Nat} (hfe : f ≤ e) (hs : e / 64 = f / 64) : ((ws[f / 64]?).getD 0) &&& mask (f % 64) (e - f) = 0 ↔ ∀ r, f ≤ r → r ≤ e → has ws r = false := by
  rw [and_zero]
  constructor
  · intro h r h1 h2
    have a1 := Nat.div_le_div_right (c := 64) h1
    have a2 := Nat.div_le_div_right (c := 64) h2
    have hq : r / 64 = f / 64 := by omega
    unfold has
    rw [hq]
    exact h (r % 64) (by omega) (by omega)
  · intro h i h1 h2
    have := h (64 * (f / 64) + i) (by omega) (by omega)
    unfold has at this
    rwa [show (64 * (f / 64) + i) / 64 = f / 64 by omega, show (64 * (f / 64) + i) % 64 = i by omega] at this
end Go.TrTk
