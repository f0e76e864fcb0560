/-
  First, Last of package utf, for every text.
-/
import Derived.Test.YtkckkchnmgidgaaChars
namespace Go.Proofs.Ytkckkchnmgidgaa
open Go.RowKit Go.PlainAid Go.Lib
attribute [local go_sem] World.iter

/-- the Spot of the character at byte i -/
abbrev spotOf (s : ByteArray) (i : Nat) : Value := spotV i ((Utf8.decode s i).2 : Nat) ((Utf8.decode s i).1 : Nat) (whyN (s.extract i s.size))

/-- where a right sequence that ends s would begin -/
def leadF (s : ByteArray) : Nat → Nat → Nat
  | 0, i => i
  | f + 1, i => if 0 < i ∧ s.size < i + 4 ∧ tailB (bt s i) then leadF s f (i - 1) else i
def leadAt (s : ByteArray) : Nat := leadF s 4 (s.size - 1)
theorem leadF_le (s : ByteArray) : ∀ f i, leadF s f i ≤ i := by
  intro f
  induction f with
  | zero => intro i; exact Nat.le_refl _
  | succ f ih =>
    intro i
    unfold leadF
    split
    · have := ih (i - 1); omega
    · exact Nat.le_refl _

end Go.Proofs.Ytkckkchnmgidgaa
