/-
  One call of a region that draws its order, within a fence.
-/
import Derived.Test.YtokillomaemocaaTrQs
namespace Go.PStepI
open Go Go.RegInv
set_option linter.unusedVariables false
theorem call_list {F : Fence} {n : Nat} {P : Program} {ops : Array Oper} {Q : Exit → Act → World → Prop} {o : Oper} {a : Act} {w w' : World} {f : Nat} {args : Array Value} {K : Act → World → Prop} {R : Ending → World → Prop} (hF : ∀ f, F.fn f) (h1 : 1 ≤ n) (hg : o.guard = none) (d : Option Tmp) (hd : o.dst = d)
    (hsem : o.semAt F.round a.eval = execOp a.eval o) (hr : (execOp a.eval o).run P w = .ok (.enter f args) w') (hc : CallsIn F (n - 1) P f args w' R) (h : ∀ e w'', R e w'' → ∃ v, e = .returned v ∧ K (a.put d v) w'') : wpListIn F n P ops (late Q K) [o] a w := by
  subst hd
  have hw : Region.wanted o (yielded ops a.tmps) = true := by simp [Region.wanted, hg]
  unfold wpListIn
  rw [if_pos hw]
  unfold Oper.wpIn
  refine ⟨fun f _ => hF f, ?_⟩
  rw [hsem, hr]
  refine ⟨fun _ => h1, ?_⟩
  refine CallsIn.mono hc ?_
  intro e w'' he
  obtain ⟨v, rfl, hk⟩ := h e w'' he
  exact hk
end Go.PStepI
