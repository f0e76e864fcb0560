/-
  All of package utf: an iterator that tells each character of a text with its place; and the law's function all, which gathers what is told.
-/
import Derived.Test.YtkpmcojoiijonaaCheck
namespace Go.Proofs.Ytkpmcojoiijonaa
open Go.RowKit Go.PlainAid Go.Lib Go.Shelf
attribute [local go_sem] World.iter
attribute [local go_sem] Oper.semAt_some

/-- what an iterator over characters hands to the loop's body -/
abbrev pairVals (s : ByteArray) (x : Pl s) : Array Value := #[.int .i64 (x.1 : Nat), .int .i32 ((Utf8.decode s x.1).1 : Nat)]

end Go.Proofs.Ytkpmcojoiijonaa
