/-
  The law's function all: the pairs that All tells, the first few of them, or all.
-/
import Derived.Test.YtkpmcojoiijonaaAll
namespace Go.Proofs.Ytkpmcojoiijonaa
open Go.RowKit Go.PlainAid Go.Lib Go.Shelf
attribute [local go_sem] Oper.semAt_some

/-- the cells of the pairs of the characters at the places l -/
def pairCells (s : ByteArray) (l : List Nat) : List Value := l.flatMap fun i => [.int .i64 (i : Nat), .int .i32 ((Utf8.decode s i).1 : Nat)]
theorem pairCells_snoc (s : ByteArray) (l : List Nat) (i : Nat) : pairCells s (l ++ [i]) = pairCells s l ++ [.int .i64 (i : Nat), .int .i32 ((Utf8.decode s i).1 : Nat)] := by simp [pairCells]

theorem pairs_snoc {s : ByteArray} (pre : List (Pl s)) (x : Pl s) : pairCells s ((pre ++ [x]).map (·.1)) = pairCells s (pre.map (·.1)) ++ [.int .i64 (x.1 : Nat), .int .i32 ((Utf8.decode s x.1).1 : Nat)] := by
  rw [List.map_append]; exact pairCells_snoc s _ _

/-- the first few of them: a number below 0 means all -/
def fewOf (few : Int) (l : List Nat) : List Nat := if few < 0 then l else l.take (few + 1).toNat
end Go.Proofs.Ytkpmcojoiijonaa
