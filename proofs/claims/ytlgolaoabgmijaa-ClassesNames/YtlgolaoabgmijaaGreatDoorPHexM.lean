/-
  Digits to the base sixteen, as mathematics: the digit of a byte, the number of a row of digits, what Hex says.
-/
import Derived.Test.YtlgolaoabgmijaaGreatDoorRows
import Derived.Handy
namespace Go.PHexM

/-- the number of a digit: 0 to 9, A to F -/
def dig (b : UInt8) : Option Nat := if 48 ≤ b.toNat ∧ b.toNat ≤ 57 then some (b.toNat - 48) else if 65 ≤ b.toNat ∧ b.toNat ≤ 70 then some (b.toNat - 55) else none
/-- the number of a row of digits behind the number a -/
def digs : List UInt8 → Nat → Option Nat
  | [], a => some a
  | b :: l, a => match dig b with
    | none => none
    | some d => digs l (a * 16 + d)
def longOk (l : List UInt8) : Bool := decide (4 ≤ l.length) && decide (l.length ≤ 6) && !(decide (4 < l.length) && (l.head? == some 48))
/-- what Hex says of a text -/
def hexP (l : List UInt8) : Option Nat := if longOk l then match digs l 0 with
    | none => none
    | some n => if 1114111 < n then none else some n
  else none

theorem dig_lt {b : UInt8} {d : Nat} (h : dig b = some d) : d < 16 := by
  unfold dig at h
  split at h
  · cases h; omega
  · split at h
    · cases h; omega
    · cases h
theorem dig_low {b : UInt8} (h1 : 48 ≤ b.toNat) (h2 : b.toNat ≤ 57) : dig b = some (b.toNat - 48) := if_pos ⟨h1, h2⟩
theorem dig_high {b : UInt8} (h1 : 65 ≤ b.toNat) (h2 : b.toNat ≤ 70) : dig b = some (b.toNat - 55) := by
  unfold dig
  rw [if_neg (by omega), if_pos ⟨h1, h2⟩]
theorem dig_not {b : UInt8} (h : b.toNat < 48 ∨ 57 < b.toNat ∧ b.toNat < 65 ∨ 70 < b.toNat) : dig b = none := by
  unfold dig
  rw [if_neg (by omega), if_neg (by omega)]
theorem digs_append (l r : List UInt8) (a : Nat) : digs (l ++ r) a = (digs l a).bind (digs r) := by
  induction l generalizing a with
  | nil => rfl
  | cons b l ih =>
    simp only [List.cons_append, digs]
    cases dig b with
    | none => rfl
    | some d => exact ih _
theorem digs_lt {l : List UInt8} {a n : Nat} (h : digs l a = some n) : n < (a + 1) * 16 ^ l.length := by
  induction l generalizing a with
  | nil => cases h; simp
  | cons b l ih =>
    simp only [digs] at h
    cases hd : dig b with
    | none => rw [hd] at h; cases h
    | some d =>
      rw [hd] at h
      have := ih h
      have hd' := dig_lt hd
      have e : (a * 16 + d + 1) * 16 ^ l.length ≤ ((a + 1) * 16) * 16 ^ l.length := Nat.mul_le_mul_right _ (by omega)
      rw [List.length_cons, Nat.pow_succ, Nat.mul_comm (16 ^ l.length) 16, ← Nat.mul_assoc]
      omega
theorem digs_take_succ {l : List UInt8} {i a : Nat} {b : UInt8} (hb : l[i]? = some b) : digs (l.take (i + 1)) a = (digs (l.take i) a).bind fun n => (dig b).map fun d => n * 16 + d := by
  rw [List.take_add_one, hb, digs_append]
  congr 1
  funext n
  simp only [Option.toList, digs]
  cases dig b <;> rfl
theorem digs_none_of_take {l : List UInt8} {i a : Nat} (h : digs (l.take i) a = none) : digs l a = none := by
  rw [← List.take_append_drop i l, digs_append, h]; rfl
end Go.PHexM
