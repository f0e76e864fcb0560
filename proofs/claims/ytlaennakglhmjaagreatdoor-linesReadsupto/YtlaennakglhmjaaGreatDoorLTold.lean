/-
  The law's sameTold (furrowlaw03): what was told is what the document's pieces are.
-/
import Derived.Test.YtlaennakglhmjaaGreatDoorLAll
import Derived.Test.YtlaennakglhmjaaGreatDoorRPieces
import Derived.BigQuiet
namespace Go.Proofs.YtlaennakglhmjaaGreatDoor
open Go.RowKit Go.PlainAid Go.Lib Go.Shelf
set_option linter.unusedVariables false

def ToAt (w : World) (s : ByteArray) (a : Option Addr) (l : List (Nat × Nat × Nat)) : Prop := ∀ (i : Nat) (x : Nat × Nat × Nat), l[i]? = some x → ∃ g, a = some ⟨g, 0, none⟩ ∧ w.cell? ⟨g, i * 2, none⟩ = some (.int .i64 (x.1 : Nat)) ∧ w.cell? ⟨g, i * 2 + 1, none⟩ = some (.string (s.extract x.2.1 x.2.2))
def PiAt (w : World) (s : ByteArray) (a : Option Addr) (l : List (Nat × Nat × Nat)) : Prop := ∀ (i : Nat) (x : Nat × Nat × Nat), l[i]? = some x → ∃ g, a = some ⟨g, 0, none⟩ ∧ w.cell? ⟨g, i * 3, none⟩ = some (.int .i64 (x.2.1 : Nat)) ∧ w.cell? ⟨g, i * 3 + 1, none⟩ = some (.int .i64 (x.2.2 : Nat)) ∧ w.cell? ⟨g, i * 3 + 2, none⟩ = some (.int .i64 (endNext s x.2.1 : Nat))
theorem to_at (s : ByteArray) : ∀ (l : List (Nat × Nat × Nat)) (i : Nat) (x : Nat × Nat × Nat), l[i]? = some x → (toldCs s l)[i * 2]? = some (.int .i64 (x.1 : Nat)) ∧ (toldCs s l)[i * 2 + 1]? = some (.string (s.extract x.2.1 x.2.2)) := by
  intro l
  induction l with
  | nil => intro i x h; simp at h
  | cons y l ih =>
    intro i x h
    cases i with
    | zero =>
      obtain rfl : y = x := by simpa using h
      exact ⟨rfl, rfl⟩
    | succ i =>
      have := ih i x (by simpa using h)
      have e1 : (i + 1) * 2 = i * 2 + 1 + 1 := by omega
      rw [e1]
      exact this
theorem pi_at (s : ByteArray) : ∀ (l : List (Nat × Nat × Nat)) (i : Nat) (x : Nat × Nat × Nat), l[i]? = some x → (pieceCs s l)[i * 3]? = some (.int .i64 (x.2.1 : Nat)) ∧ (pieceCs s l)[i * 3 + 1]? = some (.int .i64 (x.2.2 : Nat)) ∧ (pieceCs s l)[i * 3 + 2]? = some (.int .i64 (endNext s x.2.1 : Nat)) := by
  intro l
  induction l with
  | nil => intro i x h; simp at h
  | cons y l ih =>
    intro i x h
    cases i with
    | zero =>
      obtain rfl : y = x := by simpa using h
      exact ⟨rfl, rfl, rfl⟩
    | succ i =>
      have := ih i x (by simpa using h)
      have e1 : (i + 1) * 3 = i * 3 + 1 + 1 + 1 := by omega
      rw [e1]
      exact this
theorem pi_row {w : World} {base : Nat} {s : ByteArray} {v : Value} {l : List (Nat × Nat × Nat)} (h : w.ownsRow base 58 3 v l.length (pieceCs s l)) : ∃ a c, v = .slice a l.length c ∧ PiAt w s a l := by
  rcases h.2 with ⟨rfl, h0⟩ | ⟨g, cap, cur, rfl, _, hg, _⟩
  · refine ⟨none, 0, by rw [h0], fun i x hx => ?_⟩
    have := (List.getElem?_eq_some_iff.1 hx).1
    omega
  · refine ⟨_, _, rfl, fun i x hx => ⟨g, rfl, ?_, ?_, ?_⟩⟩ <;> have hi := (List.getElem?_eq_some_iff.1 hx).1
    · exact (h.cellAt _ (by omega)).trans (pi_at s l i x hx).1
    · exact (h.cellAt _ (by omega)).trans (pi_at s l i x hx).2.1
    · exact (h.cellAt _ (by omega)).trans (pi_at s l i x hx).2.2

end Go.Proofs.YtlaennakglhmjaaGreatDoor
