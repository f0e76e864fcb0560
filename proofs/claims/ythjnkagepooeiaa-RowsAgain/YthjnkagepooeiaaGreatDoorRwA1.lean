/-
  A small file and its rows, reckoned.
-/
import Derived.Test.YthjnkagepooeiaaGreatDoorRwG0
namespace Go.Proofs.YthjnkagepooeiaaGreatDoor
open Go.RowKit Go.PlainAid Go.Lib Go.PHexM
set_option maxRecDepth 100000

/-- the first row that has a number -/
def hasB (r : Int) (x : RowD) : Bool := decide (x.first ≤ r) && decide (r ≤ x.last)
def findR (rs : List RowD) (r : Int) : Option RowD := rs.find? (hasB r)
abbrev texta : ByteArray := ⟨#[48, 48, 52, 49, 59, 76, 65, 84, 73, 78, 32, 67, 65, 80, 73, 84, 65, 76, 32, 76, 69, 84, 84, 69, 82, 32, 65, 59, 76, 117, 59, 48, 59, 76, 59, 59, 59, 59, 59, 78, 59, 59, 59, 59, 48, 48, 54, 49, 59, 10, 51, 52, 48, 48, 59, 60, 88, 44, 32, 70, 105, 114, 115, 116, 62, 59, 76, 111, 59, 48, 59, 82, 59, 59, 59, 59, 59, 89, 59, 59, 59, 59, 59, 10, 52, 68, 66, 53, 59, 60, 88, 44, 32, 76, 97, 115, 116, 62, 59, 76, 111, 59, 48, 59, 82, 59, 59, 59, 59, 59, 89, 59, 59, 59, 59, 59, 10]⟩
abbrev textb : ByteArray := ⟨#[10, 48, 48, 52, 49, 59, 65, 59, 76, 117, 59, 48, 59, 90, 59, 59, 59, 59, 59, 78, 59, 59, 59, 59, 59, 10]⟩
abbrev rowAA : RowD := ⟨1, 65, 65, [76, 65, 84, 73, 78, 32, 67, 65, 80, 73, 84, 65, 76, 32, 76, 69, 84, 84, 69, 82, 32, 65], [76, 117], 0, 1, 0, false⟩
abbrev rowBB : RowD := ⟨2, 13312, 19893, [88], [76, 111], 0, 2, 0, true⟩
theorem rows1 : rowsS texta = ([rowAA, rowBB], none) := by decide +kernel
theorem rows2 : (rowsS textb).2 = some (2, 50) := by decide +kernel
theorem find1 : findR [rowAA, rowBB] 13568 = some rowBB := by decide +kernel
end Go.Proofs.YthjnkagepooeiaaGreatDoor
