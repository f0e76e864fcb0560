/-
  slices.Repeat of one value, 64 times.
-/
import Derived.Test.YtokillomaemocaaTrRowI
import Derived.Shelf.Spec.SlicesInsert
namespace Go.Proofs.Ytokillomaemocaa.VI
open Go.RowKit Go.PlainAid Go.Lib Go.PRow Go.Maps Go.TrM Go.Shelf
set_option linter.unusedVariables false
set_option linter.unusedSimpArgs false
theorem hideR {p : Prop} (h : p) : Hid p := h
theorem unhideR {p : Prop} (h : Hid p) : p := h
theorem sizeE1 : (Try.prog.info? 3).map (·.size) = some 1 := by kernel_rfl
theorem make_row (l c : Nat) (h : l ≤ c) (hc : c ≤ 1048576) : ∃ MC : Array Value, MC.size = c ∧ ∀ W : World, (Instr.makeSlice 39 (.int .i64 (l : Int)) (.int .i64 (c : Int))).run Try.prog W = .ok (.slice (some ⟨W.heap.size, 0, none⟩) l c) (W.alloc (.cells MC 3)) := by
  obtain ⟨i0, hi0, hz0, hzs, hzb⟩ := info_parts infoE
  refine ⟨madeCells zeroE.cells (c * i0.size), by rw [size_madeCells, hzs, Nat.mul_one], fun W => ?_⟩
  have := run_makeSlice (P := Try.prog) W 39 3 i0 zeroE Try.underlying39 hi0 hz0 .i64 .i64 (l : Int) (c : Int) (by omega) (by omega) (by rw [hzs, Int.toNat_natCast]; omega) (by rw [hzb]; omega) (by omega)
  simpa only [Int.toNat_natCast] using this
end Go.Proofs.Ytokillomaemocaa.VI
