/-
  Spots of package utf: an iterator that tells each character of a text as a Spot, whatever the loop's body does with it.
-/
import Derived.Test.YtkckkchnmgidgaaPlace
import Derived.RangeFuncNested
import Derived.RangeFuncBound
import Derived.RangeFuncCalls
import Derived.RangeFuncLeaves
import Derived.Shelf.Abstract
import Derived.Shelf.RegionOpen
import Derived.OwnWalkIn
import Derived.TacticsInMore
import Derived.LoopNIn
import Derived.LoopIn
namespace Go.Proofs.Ytkckkchnmgidgaa
open Go.RowKit Go.PlainAid Go.Lib Go.Shelf
attribute [local go_sem] World.iter
attribute [local go_sem] Oper.semAt_some

/-- a place of a byte of the text -/
abbrev Pl (s : ByteArray) : Type := { i : Nat // i < s.size }
/-- the places at which characters begin -/
def places (s : ByteArray) : List Nat := (chars s 0).map (·.1)
theorem places_length (s : ByteArray) : (places s).length = (chars s 0).length := by simp [places]

/-- what a round keeps: iterators, maps; and the box that holds the text -/
def KpS (Bs : Nat) (s : ByteArray) (W W' : World) : Prop := KeepsWalks W W' ∧ (Boxed W Bs 9 (.string s) → Boxed W' Bs 9 (.string s))
theorem kpS_t {Bs : Nat} {s : ByteArray} {A B C : World} (h : KpS Bs s A B) (k : KpS Bs s B C) : KpS Bs s A C := ⟨h.1.trans k.1, fun x => k.2 (h.2 x)⟩
theorem kpS_b {Bs : Nat} {s : ByteArray} {w : World} (W : World) (l : Nat) (o o' : Obj) (_ : w.heap.size ≤ l) (h : W.heap[l]? = some o) (hc : o.isCells = false) (hw : o.isWalk = false) : KpS Bs s W (W.putObj l o') := by
  refine ⟨KeepsWalks.putObj _ h hw, fun x => ?_⟩
  have hne : Bs ≠ l := by
    intro e; subst e
    have hx : W.heap[Bs]? = _ := x
    rw [h] at hx; cases hx; simp [Obj.isCells] at hc
  exact (World.putObj_heap_other hne).trans x

theorem iterAt_boxed {W : World} {k : Nat} {s : ByteArray} {p p' : Nat} (hk : W.heap[k]? = some (.stringIter s p)) {B : Nat} {t : TypeId} {v : Value} (h : Boxed W B t v) : Boxed (W.iterAt k s p') B t v := by
  refine h.kept (grownBy_iterAt W k s p') ?_
  intro e
  have e2 : B = k := by simpa using e
  subst e2
  have hx : W.heap[B]? = _ := h
  rw [hk] at hx; cases hx
theorem walks_iter {W W' : World} (h : KeepsWalks W W') {k : Nat} {s : ByteArray} {p : Nat} (hk : W.heap[k]? = some (.stringIter s p)) : W'.heap[k]? = some (.stringIter s p) := h.same k _ hk rfl

end Go.Proofs.Ytkckkchnmgidgaa
