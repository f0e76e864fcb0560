/-
  Rows of numbers of type uint32 that grow.
-/
import Derived.Test.YtdbfpmelhokeoaaDoorSuND
import Derived.Test.YtdbfpmelhokeoaaDoorSuGr
namespace Go.Proofs.YtdbfpmelhokeoaaDoor.ND
open Go.RowKit Go.PlainAid Go.Lib Go.SuM
set_option linter.unusedVariables false
set_option linter.unusedSimpArgs false
/-- one number more, and where the row lies then -/
theorem append_num2 (w : World) (B : Nat) (v : Value) (l : List Nat) (x : Nat) (h : OwnN w B v l) (hB : B ≤ w.heap.size) (hbig : (l.length + 1) * 4 ≤ 140737488355328) (ty : TypeId) :
    ∃ v' w', (Builtin.append_ #[34, 34] ty #[v, .slice (some ⟨w.heap.size, 0, none⟩) 1 1]).run Tryd.prog (w.alloc (.cells #[.int .u32 (x : Int)] 23)) = .ok v' w' ∧ OwnN w' B v' (l ++ [x]) ∧ (w.alloc (.cells #[.int .u32 (x : Int)] 23)).grownBy w' v.ownBlock ∧ (v'.ownBlock = v.ownBlock ∨ v'.ownBlock = some (w.alloc (.cells #[.int .u32 (x : Int)] 23)).heap.size) := by
  obtain ⟨i0, hi0, hz0, hzs, hzb⟩ := info_parts infoN
  obtain ⟨v', w', r1, r2, r3, _, r5⟩ := run_append_own_at (P := Tryd.prog) (w := w.alloc (.cells #[.int .u32 (x : Int)] 23)) B 34 ty 23 i0 _ 1 4 Tryd.underlying34 hi0 hz0 hzs hzb rfl (by decide) v l.length (nV l) (World.ownsRow.alloc h _) ⟨w.heap.size, 0, none⟩ 1 1 [.int .u32 (x : Int)] (by simp) (cell_one_new w _ _) (nV_one [x]) (by unfold maxLen; omega) hbig (Nat.le_trans hB (by simp))
  refine ⟨v', w', r1, ?_, r3, r5⟩
  unfold OwnN
  rw [show nV (l ++ [x]) = nV l ++ [.int .u32 (x : Int)] by unfold nV; rw [List.map_append]; rfl, List.length_append]
  exact r2
end Go.Proofs.YtdbfpmelhokeoaaDoor.ND
