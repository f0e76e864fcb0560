/-
  A row of pairs, by its places.
-/
import Derived.Test.YtjkchpjopgpeeaaGather
namespace Go.Proofs.Ytjkchpjopgpeeaa
open Go.RowKit Go.PlainAid Go.Lib

theorem pr_length (s : ByteArray) (l : List Nat) : (pairCells s l).length = l.length * 2 := by
  induction l with
  | nil => rfl
  | cons x l ih => simp only [pairCells, List.flatMap_cons, List.length_append, List.length_cons, List.length_nil] at ih ⊢; omega
theorem pr_at (s : ByteArray) : ∀ (l : List Nat) (i x : Nat), l[i]? = some x → (pairCells s l)[i * 2]? = some (.int .i64 (x : Nat)) ∧ (pairCells s l)[i * 2 + 1]? = some (.int .i32 ((Utf8.decode s x).1 : Nat)) := by
  intro l
  induction l with
  | nil => intro i x h; simp at h
  | cons y l ih =>
    intro i x h
    cases i with
    | zero =>
      obtain rfl : y = x := by simpa using h
      exact ⟨rfl, rfl⟩
    | succ i =>
      have := ih i x (by simpa using h)
      have e1 : (i + 1) * 2 = i * 2 + 1 + 1 := by omega
      rw [e1]
      exact this
/-- the pair at place i of a list of places, in memory -/
def PairsAt (w : World) (s : ByteArray) (a : Option Addr) (l : List Nat) : Prop :=
  ∀ (i x : Nat), l[i]? = some x → ∃ g, a = some ⟨g, 0, none⟩ ∧ w.cell? ⟨g, i * 2, none⟩ = some (.int .i64 (x : Nat)) ∧ w.cell? ⟨g, i * 2 + 1, none⟩ = some (.int .i32 ((Utf8.decode s x).1 : Nat))
theorem PairsAt.below {w w' : World} {s : ByteArray} {a : Option Addr} {l : List Nat} (h : PairsAt w s a l) (hb : Below w.heap.size w w') : PairsAt w' s a l := by
  intro i x hx
  obtain ⟨g, h1, h2, h3⟩ := h i x hx
  have hlt : g < w.heap.size := by
    refine Decidable.byContradiction fun hn => ?_
    have : w.heap[g]? = none := Array.getElem?_eq_none (by omega)
    simp [World.cell?, this] at h2
  exact ⟨g, h1, (hb.cell (p := ⟨g, i * 2, none⟩) hlt).trans h2, (hb.cell (p := ⟨g, i * 2 + 1, none⟩) hlt).trans h3⟩
theorem pr_row {w1 : World} {base : Nat} {s : ByteArray} {v : Value} {n : Nat} {l : List Nat} (h : w1.ownsRow base 29 2 v n (pairCells s l)) :
    ∃ a c, v = .slice a n c ∧ n = l.length ∧ PairsAt w1 s a l := by
  have hn : l.length = n := by have := h.1; rw [pr_length] at this; omega
  rcases h.2 with ⟨rfl, h0⟩ | ⟨g, cap, cur, rfl, _, hg, _⟩
  · refine ⟨none, 0, by rw [h0], hn.symm, fun i x hx => ?_⟩
    have := (List.getElem?_eq_some_iff.1 hx).1
    omega
  · refine ⟨_, _, rfl, hn.symm, fun i x hx => ⟨g, rfl, ?_, ?_⟩⟩
    · have hi := (List.getElem?_eq_some_iff.1 hx).1
      exact (h.cellAt _ (by omega)).trans (pr_at s l i x hx).1
    · have hi := (List.getElem?_eq_some_iff.1 hx).1
      exact (h.cellAt _ (by omega)).trans (pr_at s l i x hx).2

end Go.Proofs.Ytjkchpjopgpeeaa
