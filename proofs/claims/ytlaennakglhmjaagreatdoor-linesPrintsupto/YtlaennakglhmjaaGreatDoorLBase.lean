/-
  Bytes of a text as a list; the library's calls of package lines, by their contracts.
-/
import Derived.Test.YtlaennakglhmjaaGreatDoorLShelf
import Derived.Test.YtlaennakglhmjaaGreatDoorUb
import Derived.PlainAid
namespace Go.Proofs.YtlaennakglhmjaaGreatDoor
open Go.RowKit Go.PlainAid Go.Lib Go.Shelf

abbrev S (l : List UInt8) : ByteArray := ⟨l.toArray⟩
abbrev L (s : ByteArray) : List UInt8 := s.data.toList
theorem S_L (s : ByteArray) : S (L s) = s := by cases s; simp [L]
theorem L_S (l : List UInt8) : L (S l) = l := by simp [L]
theorem L_len (s : ByteArray) : (L s).length = s.size := by simp [L]
theorem S_size (l : List UInt8) : (S l).size = l.length := by rw [← L_len, L_S]
theorem L_extract (s : ByteArray) (a b : Nat) : L (s.extract a b) = ((L s).drop a).take (b - a) := extract_data s a b

theorem rowB {w w' : World} {base : Nat} {e : TypeId} {size : Nat} {v : Value} {n : Nat} {xs : List Value} (h : w.ownsRow base e size v n xs) (hb : Below w.heap.size w w') : w'.ownsRow base e size v n xs := by
  refine ⟨h.1, ?_⟩
  rcases h.2 with h | ⟨g, cap, cur, h1, h2, h3, h4⟩
  · exact .inl h
  · exact .inr ⟨g, cap, cur, h1, h2, (hb.block g (Array.getElem?_eq_some_iff.1 h3).1).trans h3, h4⟩
theorem belowG {a W w4 : World} {B : Nat} {e : TypeId} {size : Nat} {v : Value} {n : Nat} {xs : List Value} (hB : Below B a W) (hB' : B ≤ W.heap.size) (h : W.ownsRow B e size v n xs) (hg : W.grownBy w4 v.ownBlock) : Below B a w4 :=
  hB.grown hg hB' (fun k e1 => (h.lt k e1).1)
theorem row_slice {w : World} {base : Nat} {e : TypeId} {size : Nat} {v : Value} {n : Nat} {xs : List Value} (h : w.ownsRow base e size v n xs) : ∃ a n' c, v = .slice a n' c := by
  rcases h.2 with ⟨rfl, _⟩ | ⟨g, cap, cur, rfl, _⟩
  · exact ⟨_, _, _, rfl⟩
  · exact ⟨_, _, _, rfl⟩
theorem row_slice2 {w : World} {base : Nat} {e : TypeId} {size : Nat} {v : Value} {n : Nat} {xs : List Value} (h : w.ownsRow base e size v n xs) : ∃ a c, v = .slice a n c := by
  rcases h.2 with ⟨rfl, h0⟩ | ⟨g, cap, cur, rfl, _⟩
  · rw [h0]; exact ⟨_, _, rfl⟩
  · exact ⟨_, _, rfl⟩

end Go.Proofs.YtlaennakglhmjaaGreatDoor
