/-
  Loads and stores of whole arrays, one operation at a time, where their runs are known.
-/
import Derived.WalkKit
import Derived.StillTailTactics
import Derived.Deep.QuietTactic
import Derived.BigQuiet
namespace Go.TrSt
open Go
set_option linter.unusedVariables false
section
variable {P : Program} {ops : Array Oper} {rest : List Oper} {o : Oper} {a : Act} {w w' : World}

theorem wpList_val {Q : Exit → Act → World → Prop} (hg : o.guard = none) (d : Option Tmp) (hd : o.dst = d) (v : Value) (hr : (execOp a.eval o).run P w = .ok (.value v) w') (h : wpList P ops Q rest (a.put d v) w') : wpList P ops Q (o :: rest) a w := by
  subst hd
  refine wpList_plain hg fun K hK => ?_
  unfold Oper.wp
  rw [hr, Oper.upon_value]
  exact hK _ _ h
theorem wpList_ld {Q : Exit → Act → World → Prop} (hg : o.guard = none) (d : Option Tmp) (hd : o.dst = d) (T : TypeId) (x : Operand) (ho : o.op = .load T x) (p : Value) (hx : a.eval x = p) {u : Value} (hr : (Instr.loadAt T p).run P w = .ok u w) (h : wpList P ops Q rest (a.put d u) w) : wpList P ops Q (o :: rest) a w := by
  refine wpList_val hg d hd u (w' := w) ?_ h
  unfold execOp
  simp only [ho, hx, Sem.run_bind, hr, Result.andThen, Sem.run_pure]
theorem wpList_arr {Q : Exit → Act → World → Prop} (hg : o.guard = none) (d : Option Tmp) (hd : o.dst = d) (T : TypeId) (x : Operand) (ho : o.op = .sliceToArrayPointer T x) (p : Value) (hx : a.eval x = p) {u : Value} (hr : (Instr.arrayAt T p).run P w = .ok u w) (h : wpList P ops Q rest (a.put d u) w) : wpList P ops Q (o :: rest) a w := by
  refine wpList_val hg d hd u (w' := w) ?_ h
  unfold execOp
  simp only [ho, hx, Sem.run_bind, hr, Result.andThen, Sem.run_pure]
theorem wpList_st {Q : Exit → Act → World → Prop} (hg : o.guard = none) (hd : o.dst = none) (T : TypeId) (x y : Operand) (ho : o.op = .store T x y) (p q : Value) (hx : a.eval x = p) (hy : a.eval y = q) (hr : (Instr.storeAt T p q).run P w = .ok () w') (h : wpList P ops Q rest a w') : wpList P ops Q (o :: rest) a w := by
  refine wpList_plain hg fun K hK => ?_
  unfold Oper.wp execOp
  simp only [ho, hx, hy, Sem.run_bind, hr, Result.andThen, Sem.run_pure]
  have e : a.put o.dst undef = a := by rw [hd]; rfl
  show K (a.put o.dst undef) w'
  rw [e]
  exact hK _ _ h
theorem wpList_up {Q : Exit → Act → World → Prop} (hg : o.guard = none) (hd : o.dst = none) (T : TypeId) (m x y : Operand) (ho : o.op = .mapUpdate T m x y) (pm p q : Value) (hm : a.eval m = pm) (hx : a.eval x = p) (hy : a.eval y = q) (hr : (Instr.mapUpdate T pm p q).run P w = .ok () w') (h : wpList P ops Q rest a w') : wpList P ops Q (o :: rest) a w := by
  refine wpList_plain hg fun K hK => ?_
  unfold Oper.wp execOp
  simp only [ho, hm, hx, hy, Sem.run_bind, hr, Result.andThen, Sem.run_pure]
  have e : a.put o.dst undef = a := by rw [hd]; rfl
  show K (a.put o.dst undef) w'
  rw [e]
  exact hK _ _ h
theorem wpStill_val {Q : Act → Prop} (hg : o.guard = none) (d : Option Tmp) (hd : o.dst = d) (v : Value) (hr : (execOp a.eval o).run P w = .ok (.value v) w) (h : wpStill P ops w Q rest (a.put d v)) : wpStill P ops w Q (o :: rest) a := by
  subst hd
  refine wpStill_step fun K hK => ?_
  have hw : Region.wanted o (yielded ops a.tmps) = true := by simp [Region.wanted, hg]
  rw [if_pos hw]
  unfold Oper.still
  rw [hr, Oper.stillUpon_value]
  exact hK _ h
theorem wpStill_ld {Q : Act → Prop} (hg : o.guard = none) (d : Option Tmp) (hd : o.dst = d) (T : TypeId) (x : Operand) (ho : o.op = .load T x) (p : Value) (hx : a.eval x = p) {u : Value} (hr : (Instr.loadAt T p).run P w = .ok u w) (h : wpStill P ops w Q rest (a.put d u)) : wpStill P ops w Q (o :: rest) a := by
  refine wpStill_val hg d hd u ?_ h
  unfold execOp
  simp only [ho, hx, Sem.run_bind, hr, Result.andThen, Sem.run_pure]
theorem wpStill_arr {Q : Act → Prop} (hg : o.guard = none) (d : Option Tmp) (hd : o.dst = d) (T : TypeId) (x : Operand) (ho : o.op = .sliceToArrayPointer T x) (p : Value) (hx : a.eval x = p) {u : Value} (hr : (Instr.arrayAt T p).run P w = .ok u w) (h : wpStill P ops w Q rest (a.put d u)) : wpStill P ops w Q (o :: rest) a := by
  refine wpStill_val hg d hd u ?_ h
  unfold execOp
  simp only [ho, hx, Sem.run_bind, hr, Result.andThen, Sem.run_pure]
theorem region_tail {id : Nat} {Q : Exit → Act → World → Prop} {l : List Oper} (n : Nat) (hm : P.follows .mixedOrders = true) (hB : Region.lexTailB .any l.toArray n = true)
    (h : wpStill P l.toArray w.drew (fun a' => wpList P l.toArray Q (l.drop n) a' w.drew) (l.take n) a) : (Code.region id l.toArray true).wp P Q a w := wp_region_still_tail n hm hB h
theorem region_still {id : Nat} {Q : Exit → Act → World → Prop} {l : List Oper} (hm : P.follows .mixedOrders = true) (hB : Region.lexB .any l.toArray = true)
    (h : wpStill P l.toArray w.drew (fun a' => Q .normal a' w.drew) l a) : (Code.region id l.toArray true).wp P Q a w := wp_region_still_lit hm hB h
end
end Go.TrSt
