/-
  The Spot of a character: what spotAt, First of package utf answer, for every text.
-/
import Derived.Test.YtkckkchnmgidgaaWhy
namespace Go.Proofs.Ytkckkchnmgidgaa
open Go.RowKit Go.PlainAid

theorem bcell {W w1 : World} (hb : Below W.heap.size W w1) : (∀ b o, b < W.heap.size → w1.cell? ⟨b, o, none⟩ = W.cell? ⟨b, o, none⟩) ∧ (∀ b o, b < W.heap.size → w1.frozen? ⟨b, o, none⟩ = W.frozen? ⟨b, o, none⟩) :=
  ⟨fun b o h => hb.cell (p := ⟨b, o, none⟩) h, fun b o h => hb.frozen (p := ⟨b, o, none⟩) h⟩

abbrev spotV (a b c d : Int) : Value := .agg #[.int .i64 a, .int .i64 b, .int .i32 c, .int .i64 d]

/-- the width and the code of the Spot that spotAt makes of r at the place at -/
def spotW (s : ByteArray) (at' : Nat) (r : Int) : Int := if r = 65533 ∧ whyN (s.extract at' s.size) ≠ 0 then 1 else widthN r
def spotC (s : ByteArray) (at' : Nat) (r : Int) : Int := if r = 65533 ∧ whyN (s.extract at' s.size) ≠ 0 then whyN (s.extract at' s.size) else 0

theorem extract_size (s : ByteArray) (i : Nat) : (s.extract i s.size).size = s.size - i := by simp [ByteArray.size_extract]

end Go.Proofs.Ytkckkchnmgidgaa
