/-
  What the small functions of package utf answer, for every argument: Scalar, Width and their helpers, the first byte of a sequence. Nothing is written.
-/
import Derived.Test.YtkckkchnmgidgaaRows
import Derived.WalkKit
import Derived.WalkSpells
import Derived.WalkLawsBesides
import Derived.Handy
namespace Go.Proofs.Ytkckkchnmgidgaa
open Go.RowKit

theorem ret_int {k : IntKind} {a b : Int} (h : a = b) : Ending.returned (.int k a) = .returned (.int k b) := by rw [h]
theorem ret_int2 {k l : IntKind} {a b c d : Int} (h : a = b) (h' : c = d) : Ending.returned (.tuple #[.int k a, .int l c]) = .returned (.tuple #[.int k b, .int l d]) := by rw [h, h']
theorem ret_bool {a b : Bool} (h : a = b) : Ending.returned (.bool a) = .returned (.bool b) := by rw [h]

def halfB (r : Int) : Bool := decide (55296 ≤ r) && decide (r ≤ 57343)
def scalarB (r : Int) : Bool := decide (0 ≤ r) && decide (r ≤ 1114111) && !halfB r
def bytesN (r : Int) : Int := if r < 128 then 1 else if r < 2048 then 2 else if r < 65536 then 3 else 4
def widthN (r : Int) : Int := if scalarB r then bytesN r else 0
def tailB (b : Int) : Bool := decide (128 ≤ b) && decide (b ≤ 191)

/-- How many bytes a sequence has that begins with b. -/
def leadN (b : Int) : Int := if b < 128 then 1 else if b < 192 then 0 else if b < 224 then 2 else if b < 240 then 3 else if b < 248 then 4 else 0
/-- The bits that b gives. -/
def leadBits (b : Int) : Int := if b < 128 then b else if b < 192 then 0 else if b < 224 then b % 32 else if b < 240 then b % 16 else if b < 248 then b % 8 else 0

/-- Why a number may not be written in n bytes; 0: it may. -/
def whyNoN (r n : Int) : Int := if bytesN r < n then 13 else if halfB r then 14 else if 1114111 < r then 15 else 0

end Go.Proofs.Ytkckkchnmgidgaa
