/-
  Put of a map, and what Put and Lay refuse.
-/
import Derived.Test.YtompifmfgjenlaaGreatPLayI
namespace Go.Proofs.YtompifmfgjenlaaGreat.VI
open Go.RowKit Go.PlainAid Go.Lib Go.PRow Go.Shelf
set_option linter.unusedVariables false
set_option linter.unusedSimpArgs false

theorem Moved.after {w W w' : World} {b : Nat} {v v' : Value} (h : Moved W w' b v v') (hb : Below w.heap.size w W) : Moved w w' b v v' :=
  ⟨h.1, ⟨h.2.1.os.trans hb.os, h.2.1.tape.trans hb.tape, h.2.1.output.trans hb.output, Nat.le_trans hb.size h.2.1.size, fun k hk hS => (h.2.1.block k (Nat.lt_of_lt_of_le hk hb.size) hS).trans (hb.block k hk)⟩,
    h.2.2.imp id fun h g hg => Nat.le_trans hb.size (h g hg)⟩

set_option maxRecDepth 100000 in
theorem lay_no (b : Nat) (v : Value) (lo hi : Int) (hm : mayB lo hi = false) (x : Int) (w : World) (h : IsMap w b v) :
    Calls Tryz.prog 19 #[(.pointer (some ⟨b, 0, none⟩)), .agg #[.int .i32 lo, .int .i32 hi], Value.int .i64 x] w fun e w' => e = .returned (.int .i64 41) ∧ Below w.heap.size w w' := by
  have hB1 : Below w.heap.size w (w.alloc (.cells #[.int .i32 lo, .int .i32 hi] 41)) := (Below.refl _ w).alloc (Nat.le_refl _) _
  have H := hide (refuses_map b v lo hi _ (h.below hB1))
  rw [hm] at H
  clear h
  go_enter Tryz.func19, Tryz.ntmps19
  go_wp2_with (go_at_call 52; refine (unhide H).mono ?_; rintro e w2 ⟨rfl, hb⟩)
  go_ret
  exact ⟨rfl, hB1.trans (hb.mono (by simp))⟩

end Go.Proofs.YtompifmfgjenlaaGreat.VI
