/-
  isMade, Len, Byte of the places of a text, and of none.
-/
import Derived.Test.YtkpmcojoiijonaaNew
namespace Go.Proofs.Ytkpmcojoiijonaa
open Go.RowKit Go.PlainAid Go.Lib

theorem hide {p : Prop} (h : p) : Hid p := h
theorem unhide {p : Prop} (h : Hid p) : p := h

theorem own_zero {w : World} {base : Nat} {e : TypeId} {size : Nat} {v : Value} {n : Nat} {xs : List Value} (h : w.ownsRow base e size v n xs) : w.ownsRow 0 e size v n xs := by
  refine ⟨h.1, ?_⟩
  rcases h.2 with h | ⟨g, cap, cur, h1, _, h3⟩
  · exact .inl h
  · exact .inr ⟨g, cap, cur, h1, Nat.zero_le _, h3⟩
theorem row_below {w w' : World} {e : TypeId} {size : Nat} {v : Value} {n : Nat} {xs : List Value} (h : w.ownsRow 0 e size v n xs) (hb : Below w.heap.size w w') : w'.ownsRow 0 e size v n xs := by
  refine ⟨h.1, ?_⟩
  rcases h.2 with h | ⟨g, cap, cur, h1, h2, h3, h4⟩
  · exact .inl h
  · exact .inr ⟨g, cap, cur, h1, h2, (hb.block g (Array.getElem?_eq_some_iff.1 h3).1).trans h3, h4⟩
theorem cells2 {w : World} {b : Nat} {x y : Value} {t : TypeId} (h : w.heap[b]? = some (.cells #[x, y] t)) : w.cell? ⟨b, 0, none⟩ = some x ∧ w.cell? ⟨b, 1, none⟩ = some y := by
  constructor <;> simp [World.cell?, h]

/-- the byte place at which character at begins; of the number of characters: how many bytes there are -/
def startN (s : ByteArray) (k : Nat) : Nat := ((chars s 0).map (·.1) ++ [s.size]).getD k 0
theorem startVals_at (s : ByteArray) (k : Nat) (h : k < (chars s 0).length + 1) : (startVals s)[k]? = some (.int .i64 (startN s k : Nat)) := by
  have e : startVals s = ((chars s 0).map (·.1) ++ [s.size]).map fun n => .int .i64 (n : Nat) := by simp [startVals, posVals]
  rw [e, List.getElem?_map, List.getElem?_eq_getElem (by simpa using h)]
  simp [startN, List.getD, List.getElem?_eq_getElem (show k < ((chars s 0).map (·.1) ++ [s.size]).length by simpa using h)]

end Go.Proofs.Ytkpmcojoiijonaa
