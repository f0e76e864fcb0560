/-
  Runes, Encode of package utf: the conversions between texts and lists of runes.
-/
import Derived.Test.YtlaennakglhmjaaDoorLast
import Derived.Laws.IdiomStrings
import Derived.Laws.Cover4
namespace Go.Proofs.YtlaennakglhmjaaDoor
open Go.RowKit Go.PlainAid Go.Lib

/-- what a text stands for, as values -/
def runeVals (s : ByteArray) : List Value := (chars s 0).map fun p => .int .i32 (p.2 : Nat)
theorem runeVals_len (s : ByteArray) : (runeVals s).length = (chars s 0).length := by simp [runeVals]
theorem runesFrom_chars (s : ByteArray) : ∀ (b i : Nat) (acc : Array Value), Conv.runesFrom s b i acc = acc ++ ((charsF s b i).map fun p => Value.int .i32 (p.2 : Nat)).toArray := by
  intro b
  induction b with
  | zero => intro i acc; simp [Conv.runesFrom, charsF]
  | succ b ih =>
    intro i acc
    unfold Conv.runesFrom charsF
    by_cases h : i < s.size
    · simp only [h, if_true]
      rw [ih]
      simp
    · simp [h]
theorem runesFrom_vals (s : ByteArray) : Conv.runesFrom s s.size 0 #[] = (runeVals s).toArray := by
  rw [runesFrom_chars]; simp [runeVals, chars]

end Go.Proofs.YtlaennakglhmjaaDoor
