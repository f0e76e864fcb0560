/-
  A text's front, a product, a comparison of texts as single operations.
-/
import Derived.Test.YtdbfpmelhokeoaaDoorSuO2
namespace Go.Proofs.YtdbfpmelhokeoaaDoor
open Go.RowKit Go.PlainAid Go.Lib Go.SuM
set_option linter.unusedVariables false
set_option linter.unusedSimpArgs false
theorem slice_front (s : ByteArray) (k : Nat) (hk : k ≤ s.size) (hk2 : k ≤ 9223372036854775807) (X : World) : (Instr.sliceAt 9 (.string s) none (some (.int .i64 (k : Int))) none).run Tryd.prog X = .ok (.string (s.extract 0 k)) X := by
  have h1 : ¬ ((k : Int) < 0) := by omega
  have h2 : ¬ ((s.size : Int) < (k : Int)) := by omega
  simp [Instr.sliceAt, go_sem, h1, h2]
  try omega
theorem run_slice_op {P : Program} {o : Oper} {a : Act} {T : TypeId} {x y : Operand} {X : World} {p q r : Value} (ho : o.op = .slice T x none (some y) none) (hx : a.eval x = p) (hy : a.eval y = q) (h : (Instr.sliceAt T p none (some q) none).run P X = .ok r X) : (execOp a.eval o).run P X = .ok (.value r) X := by
  unfold execOp
  simp only [ho, hx, hy, Option.map_some, Option.map_none, Sem.run_bind, h, Result.andThen, Sem.run_pure]
theorem run_conv_op {P : Program} {o : Oper} {a : Act} {T U : TypeId} {x : Operand} {X X' : World} {p r : Value} (ho : o.op = .convert T U x) (hx : a.eval x = p) (h : (convert T U p).run P X = .ok r X') : (execOp a.eval o).run P X = .ok (.value r) X' := by
  unfold execOp
  simp only [ho, hx, Sem.run_bind, h, Result.andThen, Sem.run_pure]
theorem two_times (m : Nat) (hm : m ≤ 4611686018427387903) (X : World) : (binOp .mul 3 (.int .i64 2) (.int .i64 (m : Int))).run Tryd.prog X = .ok (.int .i64 ((2 * m : Nat) : Int)) X := by
  have hv : (2 : Int) * (m : Int) ≤ 9223372036854775807 := by omega
  simp [go_sem]
  rw [IntKind.wrap_i64]; omega
theorem run_bin_op {P : Program} {o : Oper} {a : Act} {T U : TypeId} {x y : Operand} {X : World} {p q r : Value} (ho : o.op = .binOp .mul T x y U) (hx : a.eval x = p) (hy : a.eval y = q) (h : (binOp .mul T p q).run P X = .ok r X) : (execOp a.eval o).run P X = .ok (.value r) X := by
  unfold execOp
  simp only [ho, hx, hy]
  simp [eqGuard, h, Result.andThen]
theorem neq_same (u : ByteArray) (x y : Operand) (X : World) : ((do eqGuard .neq 9 x y (.string u) (.string u); binOp .neq 9 (.string u) (.string u)) : Sem Value).run Tryd.prog X = .ok (.bool false) X := by
  simp [go_sem, eqGuard]
theorem run_neq_op {P : Program} {o : Oper} {a : Act} {T U : TypeId} {x y : Operand} {X : World} {p q r : Value} (ho : o.op = .binOp .neq T x y U) (hx : a.eval x = p) (hy : a.eval y = q) (h : ((do eqGuard .neq T x y p q; binOp .neq T p q) : Sem Value).run P X = .ok r X) : (execOp a.eval o).run P X = .ok (.value r) X := by
  unfold execOp
  simp only [ho, hx, hy]
  rw [Sem.run_bind, h]
  rfl
end Go.Proofs.YtdbfpmelhokeoaaDoor
