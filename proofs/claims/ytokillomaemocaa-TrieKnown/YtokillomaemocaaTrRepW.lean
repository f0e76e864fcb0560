/-
  slices.Repeat of one value, 64 times.
-/
import Derived.Test.YtokillomaemocaaTrRowW
import Derived.Shelf.Spec.SlicesInsert
namespace Go.Proofs.Ytokillomaemocaa.VW
open Go.RowKit Go.PlainAid Go.Lib Go.PRow Go.Maps Go.TrM Go.Shelf
set_option linter.unusedVariables false
set_option linter.unusedSimpArgs false
theorem hideR {p : Prop} (h : p) : Hid p := h
theorem unhideR {p : Prop} (h : Hid p) : p := h
theorem sizeE1 : (Try.prog.info? 34).map (·.size) = some 1 := by kernel_rfl
theorem make_row (l c : Nat) (h : l ≤ c) (hc : c ≤ 1048576) : ∃ MC : Array Value, MC.size = c ∧ ∀ W : World, (Instr.makeSlice 24 (.int .i64 (l : Int)) (.int .i64 (c : Int))).run Try.prog W = .ok (.slice (some ⟨W.heap.size, 0, none⟩) l c) (W.alloc (.cells MC 34)) := by
  obtain ⟨i0, hi0, hz0, hzs, hzb⟩ := info_parts infoE
  refine ⟨madeCells zeroE.cells (c * i0.size), by rw [size_madeCells, hzs, Nat.mul_one], fun W => ?_⟩
  have := run_makeSlice (P := Try.prog) W 24 34 i0 zeroE Try.underlying24 hi0 hz0 .i64 .i64 (l : Int) (c : Int) (by omega) (by omega) (by rw [hzs, Int.toNat_natCast]; omega) (by rw [hzb]; omega) (by omega)
  simpa only [Int.toNat_natCast] using this
set_option maxRecDepth 100000 in
set_option maxHeartbeats 2000000 in
theorem mul64_one (w : World) : Calls Try.prog 143 #[.int .u64 1, .int .u64 64] w fun e w' => e = .returned (.tuple #[.int .u64 0, .int .u64 64]) ∧ w' = w := by
  go_enter Try.func143, Try.ntmps143
  go_wp2
  all_goals refine bodyPost_ret (results_tmp2 rfl _ _ _) rfl ?_
  all_goals exact ⟨rfl, rfl⟩
set_option maxRecDepth 100000 in
set_option maxHeartbeats 2000000 in
theorem mul_one (w : World) : Calls Try.prog 120 #[.int .u64 1, .int .u64 64] w fun e w' => e = .returned (.tuple #[.int .u64 0, .int .u64 64]) ∧ w' = w := by
  go_enter Try.func120, Try.ntmps120
  go_wp2_with fail
  refine (mul64_one w).mono ?_
  rintro e w' ⟨rfl, rfl⟩
  go_wp2
  all_goals refine bodyPost_ret (results_tmp2 rfl _ _ _) rfl ?_
  all_goals exact ⟨rfl, rfl⟩
end Go.Proofs.Ytokillomaemocaa.VW
