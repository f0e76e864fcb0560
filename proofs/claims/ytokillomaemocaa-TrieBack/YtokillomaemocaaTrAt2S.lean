/-
  The value of a number.
-/
import Derived.Test.YtokillomaemocaaTrQm
import Derived.BigQuiet
import Derived.Deep.QuietTactic
namespace Go.Proofs.Ytokillomaemocaa.VS
open Go.RowKit Go.PlainAid Go.Lib Go.PRow Go.Maps Go.TrM
set_option linter.unusedVariables false
set_option linter.unusedSimpArgs false
/-- the number that is asked -/
def atN (r : Int) : Nat := if 0 ≤ r ∧ r ≤ 1114111 then r.toNat else 65533
end Go.Proofs.Ytokillomaemocaa.VS
