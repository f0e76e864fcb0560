/-
  A row that grows beside others.
-/
import Derived.Test.YtdbfpmelhokeoaaDoorSuR
namespace Go.Proofs.YtdbfpmelhokeoaaDoor
open Go.RowKit Go.PlainAid Go.Lib Go.SuM
set_option linter.unusedVariables false
set_option linter.unusedSimpArgs false
/-- what was there at W0 is as it was, but for the block g; a row of one's own lies there or behind -/
def Beside (g : Nat) (W0 W : World) (v : Value) : Prop := W0.grownBy W (some g) ∧ ∀ k, v.ownBlock = some k → k = g ∨ W0.heap.size ≤ k
theorem Beside.grown {g : Nat} {W0 W W' : World} {v v' : Value} (h : Beside g W0 W v) (hg : W.grownBy W' v.ownBlock) (hv : v'.ownBlock = v.ownBlock ∨ v'.ownBlock = some W.heap.size) : Beside g W0 W' v' := by
  refine ⟨⟨hg.os.trans h.1.os, hg.tape.trans h.1.tape, hg.output.trans h.1.output, Nat.le_trans h.1.size hg.size, fun k hk hne => ?_⟩, fun k hk => ?_⟩
  · refine (hg.block k (Nat.lt_of_lt_of_le hk h.1.size) (fun e => ?_)).trans (h.1.block k hk hne)
    rcases h.2 k e.symm with rfl | h2
    · exact hne rfl
    · omega
  · rcases hv with hv | hv
    · exact h.2 k (hv.symm.trans hk)
    · rw [hv] at hk
      have := Option.some.inj hk
      have := h.1.size
      exact .inr (by omega)
theorem Beside.drew {g : Nat} {W0 W : World} {v : Value} (h : Beside g W0 W v) (q : Nat) : Beside g W0 (W.drewN q) v := ⟨⟨h.1.os, h.1.tape, h.1.output, h.1.size, h.1.block⟩, h.2⟩
theorem Beside.below {g B : Nat} {w W0 W : World} {v : Value} (h : Beside g W0 W v) (hb : Below B w W0) (hB : B ≤ g) (hBw : B ≤ w.heap.size) : Below B w W :=
  ⟨h.1.os.trans hb.os, h.1.tape.trans hb.tape, h.1.output.trans hb.output, Nat.le_trans hb.size h.1.size, fun k hk => (h.1.block k (Nat.lt_of_lt_of_le hk (Nat.le_trans hBw hb.size)) (fun e => by have := Option.some.inj e; omega)).trans (hb.block k hk)⟩
theorem Beside.alloc {g : Nat} {W0 W : World} {v : Value} (h : Beside g W0 W v) (o : Obj) : Beside g W0 (W.alloc o) v := ⟨h.1.trans (World.grownBy_alloc W o _), h.2⟩
theorem Beside.start {g : Nat} (W : World) (n c : Nat) : Beside g W W (.slice (some ⟨g, 0, none⟩) n c) := ⟨⟨rfl, rfl, rfl, Nat.le_refl _, fun _ _ _ => rfl⟩, fun k hk => .inl (Option.some.inj hk).symm⟩
theorem Beside.kept {g B : Nat} {W0 W : World} {v v2 : Value} {e : TypeId} {size n : Nat} {xs : List Value} (h : Beside g W0 W v) (ho : W0.ownsRow B e size v2 n xs) (hB : g < B) : W.ownsRow B e size v2 n xs :=
  ho.kept h.1 (.inr fun e2 => by have := (ho.lt g e2).1; omega)
end Go.Proofs.YtdbfpmelhokeoaaDoor
