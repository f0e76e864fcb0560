/-
  For LinesReads: what lies from a block on is kept; the code of a fault is none of 0.
-/
import Derived.Test.YtlaennakglhmjaaGreatDoorLSpoil
import Derived.Test.YtlaennakglhmjaaGreatDoorRApM2
namespace Go.Proofs.YtlaennakglhmjaaGreatDoor
open Go.RowKit Go.PlainAid Go.Lib Go.Shelf
set_option linter.unusedVariables false

def KeepsHi (B : Nat) (A C : World) : Prop := A.heap.size ≤ C.heap.size ∧ ∀ j, B ≤ j → j < A.heap.size → C.heap[j]? = A.heap[j]?
theorem KeepsHi.refl (B : Nat) (A : World) : KeepsHi B A A := ⟨Nat.le_refl _, fun _ _ _ => rfl⟩
theorem KeepsHi.trans {B : Nat} {A C D : World} (h : KeepsHi B A C) (k : KeepsHi B C D) : KeepsHi B A D := ⟨Nat.le_trans h.1 k.1, fun j h1 h2 => (k.2 j h1 (Nat.lt_of_lt_of_le h2 h.1)).trans (h.2 j h1 h2)⟩
theorem KeepsHi.grown {B : Nat} {A C : World} {row : Option Nat} (h : A.grownBy C row) (hr : ∀ j, row = some j → j < B) : KeepsHi B A C :=
  ⟨h.size, fun j h1 h2 => h.block j h2 (fun e => by have := hr j e.symm; omega)⟩
theorem KeepsHi.setCell {B : Nat} (A : World) (g j : Nat) (u : Value) (hb : g < B) : KeepsHi B A (A.setCell ⟨g, j, none⟩ u) :=
  ⟨by simp, fun k h1 h2 => heap_setCell_other A ⟨g, j, none⟩ k u (by show k ≠ g; omega)⟩
theorem KeepsHi.row {B : Nat} {A C : World} {base : Nat} {e : TypeId} {size : Nat} {v : Value} {n : Nat} {xs : List Value} (h : KeepsHi B A C) (hr : A.ownsRow base e size v n xs) (hB : B ≤ base) : C.ownsRow base e size v n xs := by
  refine ⟨hr.1, ?_⟩
  rcases hr.2 with h0 | ⟨g, cap, cur, h1, h2, h3, h4⟩
  · exact .inl h0
  · exact .inr ⟨g, cap, cur, h1, h2, (h.2 g (by omega) (Array.getElem?_eq_some_iff.1 h3).1).trans h3, h4⟩
theorem KeepsHi.rowL {B : Nat} {A C : World} {base : Nat} {v : Value} {ps : List (LineD × Value)} (h : KeepsHi B A C) (hr : RowL A base v ps) (hB : B ≤ base) : RowL C base v ps :=
  ⟨h.row hr.1 hB, fun p hp => h.row (hr.2 p hp) hB⟩
theorem read_code (s : ByteArray) (no : Nat) (code : Int) (h : (readS s).2 = some (no, code)) : code ≠ 0 := by
  unfold readS at h
  rcases rd_cases s (linesL s) with hok | ⟨p, x, r, hp, h1, h2⟩
  · rw [rd_ok s _ hok] at h; cases h
  · rw [hp, rd_bad s p r x h1 h2] at h
    obtain ⟨rfl, rfl⟩ : x.1 = no ∧ (scanX s x).2 = code := by
      have := Option.some.inj h
      exact ⟨congrArg Prod.fst this, congrArg Prod.snd this⟩
    exact h2
/-- the fields of the lines stay where they were -/
def FldAt (xs : List Value) (ps : List (LineD × Value)) : Prop := ∀ (j : Nat) (p : LineD × Value), ps[j]? = some p → xs[j * 5 + 3]? = some p.2
theorem FldAt.set {xs : List Value} {ps : List (LineD × Value)} (h : FldAt xs ps) (i : Nat) (u : Value) : FldAt (xs.set (i * 5 + 4) u) ps := by
  intro j p hp
  rw [List.getElem?_set_ne (by omega)]
  exact h j p hp
end Go.Proofs.YtlaennakglhmjaaGreatDoor
