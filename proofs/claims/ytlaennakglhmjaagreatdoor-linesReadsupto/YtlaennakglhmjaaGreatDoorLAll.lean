/-
  The law's function all (furrowlaw03): the lines that Each tells, the first few of them, or all.
-/
import Derived.Test.YtlaennakglhmjaaGreatDoorLRead
import Derived.Test.YtlaennakglhmjaaGreatDoorRPiM
namespace Go.Proofs.YtlaennakglhmjaaGreatDoor
open Go.RowKit Go.PlainAid Go.Lib Go.Shelf Go.Seq2 Go.Seq3
attribute [local go_sem] Oper.semAt_some
set_option linter.unusedVariables false

/-- the cells of the lines that were told -/
def toldCs (s : ByteArray) (l : List (Nat × Nat × Nat)) : List Value := l.flatMap fun x => [.int .i64 (x.1 : Nat), .string (s.extract x.2.1 x.2.2)]
theorem toldCs_snoc (s : ByteArray) (l : List (Nat × Nat × Nat)) (x : Nat × Nat × Nat) : toldCs s (l ++ [x]) = toldCs s l ++ [.int .i64 (x.1 : Nat), .string (s.extract x.2.1 x.2.2)] := by simp [toldCs]
/-- how many are told -/
def nOf (s : ByteArray) (few : Int) : Nat := if 1 ≤ few ∧ few < (linesL s).length then few.toNat else (linesL s).length
theorem take_n (s : ByteArray) (few : Int) (pre : List (Nat × Nat × Nat)) (hp : pre <+: linesL s) (h1 : 1 ≤ few) (h2 : (pre.length : Int) = few) : (linesL s).take (nOf s few) = pre ∧ nOf s few = pre.length := by
  obtain ⟨r, hr⟩ := hp
  have hl := congrArg List.length hr
  rw [List.length_append] at hl
  unfold nOf
  by_cases h : few < (linesL s).length
  · rw [if_pos ⟨h1, h⟩]
    have : few.toNat = pre.length := by omega
    rw [this, ← hr, List.take_left' rfl]; exact ⟨rfl, rfl⟩
  · rw [if_neg (fun k => h k.2), List.take_of_length_le (Nat.le_refl _)]
    have : r = [] := List.length_eq_zero_iff.1 (by omega)
    rw [this, List.append_nil] at hr
    rw [hr]; exact ⟨rfl, rfl⟩
theorem take_all (s : ByteArray) (few : Int) (h : ¬ (1 ≤ few ∧ few ≤ ((linesL s).length : Int))) : (linesL s).take (nOf s few) = linesL s ∧ nOf s few = (linesL s).length := by
  unfold nOf
  rw [if_neg (fun k => h ⟨k.1, by omega⟩), List.take_of_length_le (Nat.le_refl _)]; exact ⟨rfl, rfl⟩

end Go.Proofs.YtlaennakglhmjaaGreatDoor
