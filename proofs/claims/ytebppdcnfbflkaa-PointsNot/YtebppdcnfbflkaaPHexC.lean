/-
  The range that the law's small map asks for, by its digits.
-/
import Derived.Test.YtebppdcnfbflkaaPMay
import Derived.Test.YtebppdcnfbflkaaPShelf
import Derived.Deep.LoopGhost
namespace Go.Proofs.Ytebppdcnfbflkaa
open Go.RowKit Go.PlainAid Go.Lib Go.Shelf
set_option linter.unusedVariables false

theorem digit_c (b : Int) (hb : 48 ≤ b ∧ b ≤ 57) (w : World) :
    Calls Try.prog 101 #[.int .u8 b] w fun e w' => e = .returned (.tuple #[.int .i32 (b - 48), .bool true]) ∧ w' = w := by
  have h1 := hb.1
  have h2 := hb.2
  have q1 : IntKind.u8.wrap (b - 48) = b - 48 := by rw [IntKind.wrap_u8]; omega
  have q2 : IntKind.i32.wrap (b - 48) = b - 48 := by rw [IntKind.wrap_i32]; omega
  clear hb
  go_enter Try.func101, Try.ntmps101
  go_wp2
  go_ret2
  exact ⟨rfl, rfl⟩

/-- the numbers that are met on the way through four digits -/
def acc4 (a b c d : Nat) (i : Nat) : Int := match i with
  | 0 => 0
  | 1 => a
  | 2 => a * 16 + b
  | 3 => (a * 16 + b) * 16 + c
  | _ => ((a * 16 + b) * 16 + c) * 16 + d

theorem hex_0010 (w : World) :
    Calls Try.prog 73 #[.string ⟨#[48, 48, 49, 48]⟩] w fun e w' => e = .returned (.tuple #[.int .i32 16, .int .i64 0]) ∧ w' = w := by
  have HD := hide (fun b hb W => digit_c b hb W)
  go_enter Try.func73, Try.ntmps73
  go_wp2
  go_loopg [4, 28] 4 (fun kx s4 s28 wr => ∃ i : Nat, i ≤ 4 ∧ s28 = .int .i64 i ∧ s4 = .int .i32 (acc4 0 0 1 0 i) ∧ kx = 4 - i ∧ wr = w)
  case atStart => exact ⟨0, by omega, rfl, rfl, rfl, rfl⟩
  case round =>
    obtain ⟨i, hi, rfl, rfl, rfl, rfl⟩ := hrel
    have h5 : i = 0 ∨ i = 1 ∨ i = 2 ∨ i = 3 ∨ i = 4 := by omega
    rcases h5 with rfl | rfl | rfl | rfl | rfl
    · go_wp2_with (go_at_call 101; refine (unhide HD _ (by decide) _).mono ?_; rintro e w' ⟨rfl, rfl⟩)
      go_roundg 3
      case measure => omega
      case rel => exact ⟨1, by omega, rfl, by first | kernel_rfl | exact congrArg (Value.int .i32) (by decide), rfl, rfl⟩
    · go_wp2_with (go_at_call 101; refine (unhide HD _ (by decide) _).mono ?_; rintro e w' ⟨rfl, rfl⟩)
      go_roundg 2
      case measure => omega
      case rel => exact ⟨2, by omega, rfl, by first | kernel_rfl | exact congrArg (Value.int .i32) (by decide), rfl, rfl⟩
    · go_wp2_with (go_at_call 101; refine (unhide HD _ (by decide) _).mono ?_; rintro e w' ⟨rfl, rfl⟩)
      go_roundg 1
      case measure => omega
      case rel => exact ⟨3, by omega, rfl, by first | kernel_rfl | exact congrArg (Value.int .i32) (by decide), rfl, rfl⟩
    · go_wp2_with (go_at_call 101; refine (unhide HD _ (by decide) _).mono ?_; rintro e w' ⟨rfl, rfl⟩)
      go_roundg 0
      case measure => omega
      case rel => exact ⟨4, by omega, rfl, by first | kernel_rfl | exact congrArg (Value.int .i32) (by decide), rfl, rfl⟩
    · go_wp2
      go_ret2
      exact ⟨rfl, rfl⟩
theorem hex_0029 (w : World) :
    Calls Try.prog 73 #[.string ⟨#[48, 48, 50, 57]⟩] w fun e w' => e = .returned (.tuple #[.int .i32 41, .int .i64 0]) ∧ w' = w := by
  have HD := hide (fun b hb W => digit_c b hb W)
  go_enter Try.func73, Try.ntmps73
  go_wp2
  go_loopg [4, 28] 4 (fun kx s4 s28 wr => ∃ i : Nat, i ≤ 4 ∧ s28 = .int .i64 i ∧ s4 = .int .i32 (acc4 0 0 2 9 i) ∧ kx = 4 - i ∧ wr = w)
  case atStart => exact ⟨0, by omega, rfl, rfl, rfl, rfl⟩
  case round =>
    obtain ⟨i, hi, rfl, rfl, rfl, rfl⟩ := hrel
    have h5 : i = 0 ∨ i = 1 ∨ i = 2 ∨ i = 3 ∨ i = 4 := by omega
    rcases h5 with rfl | rfl | rfl | rfl | rfl
    · go_wp2_with (go_at_call 101; refine (unhide HD _ (by decide) _).mono ?_; rintro e w' ⟨rfl, rfl⟩)
      go_roundg 3
      case measure => omega
      case rel => exact ⟨1, by omega, rfl, by first | kernel_rfl | exact congrArg (Value.int .i32) (by decide), rfl, rfl⟩
    · go_wp2_with (go_at_call 101; refine (unhide HD _ (by decide) _).mono ?_; rintro e w' ⟨rfl, rfl⟩)
      go_roundg 2
      case measure => omega
      case rel => exact ⟨2, by omega, rfl, by first | kernel_rfl | exact congrArg (Value.int .i32) (by decide), rfl, rfl⟩
    · go_wp2_with (go_at_call 101; refine (unhide HD _ (by decide) _).mono ?_; rintro e w' ⟨rfl, rfl⟩)
      go_roundg 1
      case measure => omega
      case rel => exact ⟨3, by omega, rfl, by first | kernel_rfl | exact congrArg (Value.int .i32) (by decide), rfl, rfl⟩
    · go_wp2_with (go_at_call 101; refine (unhide HD _ (by decide) _).mono ?_; rintro e w' ⟨rfl, rfl⟩)
      go_roundg 0
      case measure => omega
      case rel => exact ⟨4, by omega, rfl, by first | kernel_rfl | exact congrArg (Value.int .i32) (by decide), rfl, rfl⟩
    · go_wp2
      go_ret2
      exact ⟨rfl, rfl⟩

set_option maxRecDepth 100000 in
theorem span_c (m : Int) (w : World) (hm : w.cell? ⟨0, 0, none⟩ = some (.int .i64 m)) :
    Calls Try.prog 31 #[.string ⟨#[48, 48, 49, 48, 46, 46, 48, 48, 50, 57]⟩] w fun e w' => e = .returned (.tuple #[.agg #[.int .i32 16, .int .i32 41], .int .i64 0]) ∧ Below w.heap.size w w' := by
  have hm1 : (w.alloc (.cells #[.int .i32 0, .int .i32 0] 28)).cell? ⟨0, 0, none⟩ = some (.int .i64 m) := cell_alloc_sl _ hm
  have hC := Try.strings_Cut ⟨#[48, 48, 49, 48, 46, 46, 48, 48, 50, 57]⟩ ⟨#[46, 46]⟩ m (w.alloc (.cells #[.int .i32 0, .int .i32 0] 28)) (by decide) hm1
  have e1 : Lib.cut (⟨#[48, 48, 49, 48, 46, 46, 48, 48, 50, 57]⟩ : ByteArray).data.toList (⟨#[46, 46]⟩ : ByteArray).data.toList = ([48, 48, 49, 48], [48, 48, 50, 57], true) := by decide
  rw [e1] at hC
  have HC := hide hC
  have H1 := hide hex_0010
  have H2 := hide hex_0029
  clear hC e1 hm hm1
  go_enter Try.func31, Try.ntmps31
  go_wp2_with fail
  refine (unhide HC).mono ?_
  rintro e w1 ⟨rfl, q, rfl⟩
  have hb1 : Below w.heap.size w ((w.alloc (.cells #[.int .i32 0, .int .i32 0] 28)).drewN q) := by
    have h := (Below.refl w.heap.size w).alloc (Nat.le_refl _) (.cells #[.int .i32 0, .int .i32 0] 28)
    exact ⟨h.os, h.tape, h.output, h.size, h.block⟩
  have hx : ((w.alloc (.cells #[.int .i32 0, .int .i32 0] 28)).drewN q).heap[w.heap.size]? = some (.cells #[.int .i32 0, .int .i32 0] 28 (0, 0)) := heap_alloc_new w _
  generalize (w.alloc (.cells #[.int .i32 0, .int .i32 0] 28)).drewN q = W at hb1 hx ⊢
  have d0 : W.cell? ⟨w.heap.size, 0, none⟩ = some (.int .i32 0) := by simp [World.cell?, hx]
  have d1 : W.cell? ⟨w.heap.size, 1, none⟩ = some (.int .i32 0) := by simp [World.cell?, hx]
  have f0 : W.frozen? ⟨w.heap.size, 0, none⟩ = false := by simp [World.frozen?, hx]
  have f1 : W.frozen? ⟨w.heap.size, 1, none⟩ = false := by simp [World.frozen?, hx]
  go_wp2_with fail
  refine (unhide H1 _).mono ?_
  rintro e w' ⟨rfl, h⟩
  obtain rfl : W = w' := h.symm
  go_wp2_with fail
  refine (unhide H2 _).mono ?_
  rintro e w' ⟨rfl, h⟩
  obtain rfl : W = w' := h.symm
  go_wp2
  have k1 : (W.setCell ⟨w.heap.size, 0, none⟩ (.int .i32 16)).heap[w.heap.size]? = some (.cells #[.int .i32 16, .int .i32 0] 28 (0, 0)) := by
    rw [setCell_eq_setRow W w.heap.size 0 _ _ _ _ hx]
    exact setRow_heap W w.heap.size _ _ _ _ hx
  have k2 : ((W.setCell ⟨w.heap.size, 0, none⟩ (.int .i32 16)).setCell ⟨w.heap.size, 1, none⟩ (.int .i32 41)).heap[w.heap.size]? = some (.cells #[.int .i32 16, .int .i32 41] 28 (0, 0)) := by
    rw [setCell_eq_setRow _ w.heap.size 1 _ _ _ _ k1]
    exact setRow_heap _ w.heap.size _ _ _ _ k1
  have k3 : (W.setCell ⟨w.heap.size, 0, none⟩ (.int .i32 16)).cell? ⟨w.heap.size, 0, none⟩ = some (.int .i32 16) := by simp [World.cell?, k1]
  have k4 : ((W.setCell ⟨w.heap.size, 0, none⟩ (.int .i32 16)).setCell ⟨w.heap.size, 1, none⟩ (.int .i32 41)).cell? ⟨w.heap.size, 1, none⟩ = some (.int .i32 41) := by simp [World.cell?, k2]
  have hbE := hide ((hb1.setCell (p := ⟨w.heap.size, 0, none⟩) (Nat.le_refl _) (.int .i32 16)).setCell (p := ⟨w.heap.size, 1, none⟩) (Nat.le_refl _) (.int .i32 41))
  have k5 : ((W.setCell ⟨w.heap.size, 0, none⟩ (.int .i32 16)).setCell ⟨w.heap.size, 1, none⟩ (.int .i32 41)).cell? ⟨w.heap.size, 0, none⟩ = some (.int .i32 16) := by simp [World.cell?, k2]
  clear k1 k2 hx d0 d1 f0 f1
  refine bodyPost_ret (v := .tuple #[.agg #[.int .i32 16, .int .i32 41], .int .i64 0]) ?_ rfl ⟨rfl, unhide hbE⟩
  simp [results, Try.results31, go_sem, k4, k5]
end Go.Proofs.Ytebppdcnfbflkaa
