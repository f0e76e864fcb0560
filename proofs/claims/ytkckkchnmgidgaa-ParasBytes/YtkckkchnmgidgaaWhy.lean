/-
  Why the first byte of a text is wrong: what the function whyWrong of package utf answers, for every text that is not empty.
-/
import Derived.Test.YtkckkchnmgidgaaLeaf
import Derived.PlainAid
namespace Go.Proofs.Ytkckkchnmgidgaa
open Go.RowKit Go.PlainAid

def whyGo (t : ByteArray) (n : Int) : Nat → Nat → Int → Int
  | 0, _, acc => whyNoN acc n
  | f + 1, i, acc => if i = t.size then 11 else if tailB (bt t i) then whyGo t n f (i + 1) (acc * 64 + bt t i % 64) else 12
def whyN (t : ByteArray) : Int :=
  if leadN (bt t 0) = 0 then 10 else whyGo t (leadN (bt t 0)) (leadN (bt t 0) - 1).toNat 1 (leadBits (bt t 0))

theorem leadN_cases (b : Int) : leadN b = 0 ∨ leadN b = 1 ∨ leadN b = 2 ∨ leadN b = 3 ∨ leadN b = 4 := by
  unfold leadN; (repeat' split) <;> simp
theorem leadN_le (b : Int) : 0 ≤ leadN b ∧ leadN b ≤ 4 := by have := leadN_cases b; omega
theorem leadBits_le (b : Int) (h0 : 0 ≤ b) : 0 ≤ leadBits b ∧ leadBits b < 128 := by
  unfold leadBits; (repeat' split) <;> omega
theorem leadBits_le2 (b : Int) (_h0 : 0 ≤ b) (h : 1 < leadN b) : 0 ≤ leadBits b ∧ leadBits b < 32 := by
  unfold leadN at h; unfold leadBits; revert h; (repeat' split) <;> omega

/-- What has come of the bits when the bytes ahead of i are through. -/
def accN (t : ByteArray) : Nat → Int
  | 0 => 0
  | 1 => leadBits (bt t 0)
  | i + 2 => accN t (i + 1) * 64 + bt t (i + 1) % 64
theorem acc_succ (t : ByteArray) (i : Nat) (h : 1 ≤ i) : accN t (i + 1) = accN t i * 64 + bt t i % 64 := by
  obtain ⟨j, rfl⟩ : ∃ j, i = j + 1 := ⟨i - 1, by omega⟩
  rfl
theorem acc_le (t : ByteArray) (h : 1 < leadN (bt t 0)) (i : Nat) : i ≤ 4 → 1 ≤ i → 0 ≤ accN t i ∧ accN t i < 32 * 64 ^ (i - 1) := by
  intro h4 h1
  have hl := leadBits_le2 (bt t 0) (bt_nonneg t 0) h
  have b1 := bt_nonneg t 1; have b2 := bt_nonneg t 2; have b3 := bt_nonneg t 3
  have e1 : accN t 1 = leadBits (bt t 0) := rfl
  have e2 : accN t 2 = accN t 1 * 64 + bt t 1 % 64 := rfl
  have e3 : accN t 3 = accN t 2 * 64 + bt t 2 % 64 := rfl
  have e4 : accN t 4 = accN t 3 * 64 + bt t 3 % 64 := rfl
  have : i = 1 ∨ i = 2 ∨ i = 3 ∨ i = 4 := by omega
  rcases this with rfl | rfl | rfl | rfl <;> simp <;> omega
theorem acc_small (t : ByteArray) (h : 1 < leadN (bt t 0)) (i : Nat) (h4 : i ≤ 4) (h1 : 1 ≤ i) : 0 ≤ accN t i ∧ accN t i < 8388608 := by
  have := acc_le t h i h4 h1
  have : i = 1 ∨ i = 2 ∨ i = 3 ∨ i = 4 := by omega
  rcases this with rfl | rfl | rfl | rfl <;> simp at * <;> omega

theorem whyGo_step (t : ByteArray) (n : Int) (i : Nat) (acc : Int) (h : (i : Int) < n) :
    whyGo t n (n - i).toNat i acc = if i = t.size then 11 else if tailB (bt t i) then whyGo t n (n - (i + 1 : Nat)).toNat (i + 1) (acc * 64 + bt t i % 64) else 12 := by
  have e : (n - i).toNat = (n - (i + 1 : Nat)).toNat + 1 := by omega
  rw [e]; rfl
theorem whyGo_end (t : ByteArray) (n : Int) (i : Nat) (acc : Int) (h : (i : Int) = n) : whyGo t n (n - i).toNat i acc = whyNoN acc n := by
  have e : (n - i).toNat = 0 := by omega
  rw [e]; rfl

end Go.Proofs.Ytkckkchnmgidgaa
