/-
  For LinesApart: the rows of three texts that are read, kept apart.
-/
import Derived.Test.YtlaennakglhmjaaDoorLApM
import Derived.Test.YtlaennakglhmjaaDoorRPieces
import Derived.Deep.Onto
namespace Go.Proofs.YtlaennakglhmjaaDoor
open Go.RowKit Go.PlainAid Go.Lib Go.Shelf
set_option linter.unusedVariables false

theorem read_len (s : ByteArray) (h : (readS s).2 = none) : (readS s).1.length = (linesL s).length := by
  unfold readS at h ⊢
  rcases rd_cases s (linesL s) with hok | ⟨p, x, r, hp, h1, h2⟩
  · rw [rd_ok s _ hok]; simp
  · rw [hp, rd_bad s p r x h1 h2] at h; cases h
theorem rows_far {A B : World} {b b' : Nat} {e e' : TypeId} {k k' : Nat} {v v' : Value} {n n' : Nat} {xs xs' : List Value} (h : A.ownsRow b e k v n xs) (h' : B.ownsRow b' e' k' v' n' xs') (hb : A.heap.size ≤ b') : v.ownBlock = none ∨ v.ownBlock ≠ v'.ownBlock := by
  cases hv : v.ownBlock with
  | none => exact .inl rfl
  | some j =>
    refine .inr fun e1 => ?_
    have h1 := h.lt j hv
    have h2 := h'.lt j e1.symm
    omega
theorem rows_far' {A B : World} {b b' : Nat} {e e' : TypeId} {k k' : Nat} {v v' : Value} {n n' : Nat} {xs xs' : List Value} (h : A.ownsRow b e k v n xs) (h' : B.ownsRow b' e' k' v' n' xs') (hb : A.heap.size ≤ b') : v'.ownBlock = none ∨ v'.ownBlock ≠ v.ownBlock := by
  cases hv : v'.ownBlock with
  | none => exact .inl rfl
  | some j =>
    refine .inr fun e1 => ?_
    have h1 := h.lt j e1.symm
    have h2 := h'.lt j hv
    omega
theorem RowL.keptBy {A B : World} {base base' n : Nat} {v v2 : Value} {ps : List (LineD × Value)} {xs : List Value} (h : RowL A base v ps) (h2 : A.ownsRow base' 47 5 v2 n xs) (hg : A.grownBy B v2.ownBlock) (hne : v.ownBlock = none ∨ v.ownBlock ≠ v2.ownBlock) : RowL B base v ps :=
  ⟨h.1.kept hg hne, fun p hp => World.ownsRow.kept (h.2 p hp) hg (rows_apart (h.2 p hp) h2 (by decide))⟩
theorem RowL.textsBy {A B : World} {base base' n : Nat} {v2 : Value} {ps : List (LineD × Value)} {xs : List Value} (h : ∀ p ∈ ps, TextsAt A base p.2 p.1.fields) (h2 : A.ownsRow base' 47 5 v2 n xs) (hg : A.grownBy B v2.ownBlock) : ∀ p ∈ ps, TextsAt B base p.2 p.1.fields :=
  fun p hp => World.ownsRow.kept (h p hp) hg (rows_apart (h p hp) h2 (by decide))
theorem RowL.join {A B : World} {bx bz : Nat} {vx vy v' : Value} {ps qs : List (LineD × Value)} (hx : RowL A bx vx ps) (hy : RowL A bz vy qs) (hb : bx ≤ bz) (hg : A.grownBy B vx.ownBlock) (hrow : B.ownsRow bx 47 5 v' (ps.length + qs.length) (lineCells ps ++ lineCells qs)) : RowL B bx v' (ps ++ qs) := by
  refine ⟨by rw [List.length_append, lineCells_app]; exact hrow, fun p hp => ?_⟩
  rcases List.mem_append.1 hp with h | h
  · exact World.ownsRow.kept (hx.2 p h) hg (rows_apart (hx.2 p h) hx.1 (by decide))
  · exact World.ownsRow.mono (World.ownsRow.kept (hy.2 p h) hg (rows_apart (hy.2 p h) hx.1 (by decide))) hb
/-- all that the end wants: both rows, one behind the other -/
theorem join_same (psx psy psz : List (LineD × Value)) (x y z : List LineD) (k : Nat) (hx : psx.map (·.1) = x) (hy : psy.map (·.1) = y) (hz : psz.map (·.1) = z) (h : z = x ++ y.map (fun d => withNo d (d.no + (k : Nat)))) : psz.map (·.1) = (psx ++ psy.map (bump (k : Nat))).map (·.1) := by
  rw [hz, h, ← hx, ← hy, List.map_append, List.map_map, List.map_map]
  rfl
end Go.Proofs.YtlaennakglhmjaaDoor
