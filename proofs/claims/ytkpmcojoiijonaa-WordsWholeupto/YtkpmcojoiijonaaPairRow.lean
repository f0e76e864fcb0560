/-
  A row of pairs, by its places.
-/
import Derived.Test.YtkpmcojoiijonaaGather
namespace Go.Proofs.Ytkpmcojoiijonaa
open Go.RowKit Go.PlainAid Go.Lib

theorem pr_length (s : ByteArray) (l : List Nat) : (pairCells s l).length = l.length * 2 := by
  induction l with
  | nil => rfl
  | cons x l ih => simp only [pairCells, List.flatMap_cons, List.length_append, List.length_cons, List.length_nil] at ih ⊢; omega
theorem pr_at (s : ByteArray) : ∀ (l : List Nat) (i x : Nat), l[i]? = some x → (pairCells s l)[i * 2]? = some (.int .i64 (x : Nat)) ∧ (pairCells s l)[i * 2 + 1]? = some (.int .i32 ((Utf8.decode s x).1 : Nat)) := by
  intro l
  induction l with
  | nil => intro i x h; simp at h
  | cons y l ih =>
    intro i x h
    cases i with
    | zero =>
      obtain rfl : y = x := by simpa using h
      exact ⟨rfl, rfl⟩
    | succ i =>
      have := ih i x (by simpa using h)
      have e1 : (i + 1) * 2 = i * 2 + 1 + 1 := by omega
      rw [e1]
      exact this
/-- the pair at place i of a list of places, in memory -/
def PairsAt (w : World) (s : ByteArray) (a : Option Addr) (l : List Nat) : Prop :=
  ∀ (i x : Nat), l[i]? = some x → ∃ g, a = some ⟨g, 0, none⟩ ∧ w.cell? ⟨g, i * 2, none⟩ = some (.int .i64 (x : Nat)) ∧ w.cell? ⟨g, i * 2 + 1, none⟩ = some (.int .i32 ((Utf8.decode s x).1 : Nat))
theorem PairsAt.below {w w' : World} {s : ByteArray} {a : Option Addr} {l : List Nat} (h : PairsAt w s a l) (hb : Below w.heap.size w w') : PairsAt w' s a l := by
  intro i x hx
  obtain ⟨g, h1, h2, h3⟩ := h i x hx
  have hlt : g < w.heap.size := by
    refine Decidable.byContradiction fun hn => ?_
    have : w.heap[g]? = none := Array.getElem?_eq_none (by omega)
    simp [World.cell?, this] at h2
  exact ⟨g, h1, (hb.cell (p := ⟨g, i * 2, none⟩) hlt).trans h2, (hb.cell (p := ⟨g, i * 2 + 1, none⟩) hlt).trans h3⟩
end Go.Proofs.Ytkpmcojoiijonaa
