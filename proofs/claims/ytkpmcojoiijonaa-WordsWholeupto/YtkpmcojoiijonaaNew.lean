/-
  New of package utf: the places of a text, in memory of their own.
-/
import Derived.Test.YtkpmcojoiijonaaRunes
import Derived.RangeFuncBox
import Derived.Maps.AppendAt
namespace Go.Proofs.Ytkpmcojoiijonaa
open Go.RowKit Go.PlainAid Go.Lib
attribute [local go_sem] World.iter

theorem infoInt : (Try.prog.info? 3).map (fun i => (i.zero, i.size, i.bytes)) = some (some (.int .i64 0), 1, 8) := by kernel_rfl

/-- the values of the byte places of characters -/
def posVals (l : List (Nat × Nat)) : List Value := l.map fun p => .int .i64 (p.1 : Nat)
/-- what the places of a text keep: where each character begins, and the end -/
def startVals (s : ByteArray) : List Value := posVals (chars s 0) ++ [.int .i64 s.size]

theorem not_iter {w : World} {base : Nat} {e : TypeId} {size : Nat} {v : Value} {n : Nat} {xs : List Value} (h : w.ownsRow base e size v n xs) {k : Nat} {s : ByteArray} {p : Nat} (hk : w.heap[k]? = some (.stringIter s p)) : v.ownBlock ≠ some k := by
  intro e1
  rcases h.2 with ⟨rfl, _⟩ | ⟨g, cap, cur, rfl, _, hg, _⟩
  · simp [Value.ownBlock] at e1
  · simp [Value.ownBlock] at e1
    subst e1
    rw [hk] at hg; cases hg
theorem grownBy_iterAt (w : World) (k : Nat) (s : ByteArray) (p : Nat) : w.grownBy (w.iterAt k s p) (some k) :=
  ⟨rfl, rfl, rfl, by rw [iterAt_size]; exact Nat.le_refl _, fun j _ hj => iterAt_other w k j s p (fun e => hj (by rw [e]))⟩
theorem row_iterAt {w : World} {base : Nat} {e : TypeId} {size : Nat} {v : Value} {n : Nat} {xs : List Value} (h : w.ownsRow base e size v n xs) {k : Nat} {s : ByteArray} {p : Nat} (hk : w.heap[k]? = some (.stringIter s p)) (p' : Nat) : (w.iterAt k s p').ownsRow base e size v n xs :=
  h.kept (grownBy_iterAt w k s p') (.inr (not_iter h hk))
theorem own_base {w : World} {base : Nat} {e : TypeId} {size : Nat} {v : Value} {n : Nat} {xs : List Value} (h : w.ownsRow base e size v n xs) : ∀ k, v.ownBlock = some k → base ≤ k := fun k e1 => (h.lt k e1).1

theorem posVals_snoc (l : List (Nat × Nat)) (x : Nat × Nat) : posVals (l ++ [x]) = posVals l ++ [.int .i64 (x.1 : Nat)] := by simp [posVals]
/-- an iterator's block lies on behind an append to a row -/
theorem iter_grown {W w4 : World} {base : Nat} {e : TypeId} {size : Nat} {v : Value} {n : Nat} {xs : List Value} (h : W.ownsRow base e size v n xs) {tmp : Obj} (hg : (W.alloc tmp).grownBy w4 v.ownBlock) {k : Nat} {s : ByteArray} {p : Nat} (hk : W.heap[k]? = some (.stringIter s p)) : w4.heap[k]? = some (.stringIter s p) := by
  have hlt : k < W.heap.size := (Array.getElem?_eq_some_iff.1 hk).1
  refine (hg.block k (by simp; omega) (fun e => not_iter h hk e.symm)).trans ?_
  exact (Below.heap_alloc W tmp k hlt).trans hk
theorem below_grown {a W w4 : World} {B : Nat} {e : TypeId} {size : Nat} {v : Value} {n : Nat} {xs : List Value} (hB : Below B a W) (hB' : B ≤ W.heap.size) (h : W.ownsRow B e size v n xs) {tmp : Obj} (hg : (W.alloc tmp).grownBy w4 v.ownBlock) : Below B a w4 :=
  (hB.alloc hB' tmp).grown hg (by simp; omega) (own_base h)

end Go.Proofs.Ytkpmcojoiijonaa
