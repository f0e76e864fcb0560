/-
  Arguments: a piece.
-/
import Derived.Test.YtkckkchnmgidgaaPaA
import Derived.Deep.Slices
import Derived.OpenShut
import Derived.WideShapes
namespace Go.Proofs.Ytkckkchnmgidgaa
open Go.RowKit Go.PlainAid Go.Lib Go.Deep Go.WideShapes
set_option linter.unusedVariables false
set_option linter.unusedSimpArgs false
theorem pieceFields : ∃ f0 f1 : Field, Try.prog.underlying 46 = some (.struct #[f0, f1]) ∧ [f0.offset, f1.offset] = [0, 1] ∧ [f0.type, f1.type] = [3, 3] :=
  ⟨_, _, Try.underlying46, rfl, rfl⟩
theorem pieceCells : Try.prog.cellsOf 46 = 2 := by kernel_rfl
theorem list2S {α : Type} {l : List α} (h : l.length = 2) : ∃ a b : α, l = [a, b] := by
  match l, h with
  | [a, b], _ => exact ⟨a, b, rfl⟩
theorem open_piece {H : Type} {enc : TypeId × Value → H} {W : World} {base : Nat} {sp : Nat → Bool} {held : Bool} {fuel : Nat} {cs : Array Value} {x : DataW H × List MemPlace}
    (h : DataW.trod enc Try.prog W base sp held fuel 46 (Value.agg cs).cells.toList = some x) : ∃ f t : Int, cs = #[.int .i64 f, .int .i64 t] := by
  obtain ⟨f0, f1, hu, ho, hty⟩ := pieceFields
  simp only [List.cons.injEq, and_true] at ho hty
  obtain ⟨o0, o1⟩ := ho
  obtain ⟨t0, t1⟩ := hty
  obtain ⟨xs, k, _, hxy, hl, hxl, hf⟩ := DataW.trod_struct hu h
  rw [pieceCells] at hl
  have c_int : Try.prog.cellsOf 3 = 1 := by kernel_rfl
  obtain ⟨v0, v1, hv⟩ := list2S hl
  obtain ⟨y0, y1, rfl⟩ := list2S (show xs.length = 2 from hxl)
  have g0 := hf 0 f0 rfl
  rw [o0, t0, c_int, hv] at g0
  obtain ⟨n0, e0, _, w0⟩ := DataW.trod_int Try.underlying3 g0
  simp at e0
  subst e0
  have g1 := hf 1 f1 rfl
  rw [o1, t1, c_int, hv] at g1
  obtain ⟨n1, e1, _, w1⟩ := DataW.trod_int Try.underlying3 g1
  simp at e1
  subst e1
  refine ⟨n0, n1, ?_⟩
  have e2 : (Value.agg cs).cells = cs := rfl
  rw [e2] at hv
  rw [← Array.toArray_toList (xs := cs), hv]
end Go.Proofs.Ytkckkchnmgidgaa
