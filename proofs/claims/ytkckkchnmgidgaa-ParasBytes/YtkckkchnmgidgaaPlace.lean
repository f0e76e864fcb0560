/-
  isMade, Len, Byte of the places of a text, and of none.
-/
import Derived.Test.YtkckkchnmgidgaaNew
namespace Go.Proofs.Ytkckkchnmgidgaa
open Go.RowKit Go.PlainAid Go.Lib

theorem hide {p : Prop} (h : p) : Hid p := h
theorem unhide {p : Prop} (h : Hid p) : p := h

/-- the value p points to the places of the text s -/
def IsPlaces (w : World) (p : Value) (s : ByteArray) : Prop :=
  ∃ b g cap, p = .pointer (some ⟨b, 0, none⟩) ∧ w.heap[b]? = some (.cells #[.string s, .slice (some ⟨g, 0, none⟩) ((chars s 0).length + 1) cap] 103) ∧
    w.ownsRow 0 3 1 (.slice (some ⟨g, 0, none⟩) ((chars s 0).length + 1) cap) ((chars s 0).length + 1) (startVals s)

theorem own_zero {w : World} {base : Nat} {e : TypeId} {size : Nat} {v : Value} {n : Nat} {xs : List Value} (h : w.ownsRow base e size v n xs) : w.ownsRow 0 e size v n xs := by
  refine ⟨h.1, ?_⟩
  rcases h.2 with h | ⟨g, cap, cur, h1, _, h3⟩
  · exact .inl h
  · exact .inr ⟨g, cap, cur, h1, Nat.zero_le _, h3⟩
theorem row_below {w w' : World} {e : TypeId} {size : Nat} {v : Value} {n : Nat} {xs : List Value} (h : w.ownsRow 0 e size v n xs) (hb : Below w.heap.size w w') : w'.ownsRow 0 e size v n xs := by
  refine ⟨h.1, ?_⟩
  rcases h.2 with h | ⟨g, cap, cur, h1, h2, h3, h4⟩
  · exact .inl h
  · exact .inr ⟨g, cap, cur, h1, h2, (hb.block g (Array.getElem?_eq_some_iff.1 h3).1).trans h3, h4⟩
theorem IsPlaces.below {w w' : World} {p : Value} {s : ByteArray} (h : IsPlaces w p s) (hb : Below w.heap.size w w') : IsPlaces w' p s := by
  obtain ⟨b, g, cap, h1, h2, h3⟩ := h
  exact ⟨b, g, cap, h1, (hb.block b (Array.getElem?_eq_some_iff.1 h2).1).trans h2, row_below h3 hb⟩

theorem new_places (s : ByteArray) (w : World) (hs : s.size ≤ 4398046511104) :
    Calls Try.prog 49 #[.string s] w fun e w' => ∃ b, e = .returned (.pointer (some ⟨b, 0, none⟩)) ∧ IsPlaces w' (.pointer (some ⟨b, 0, none⟩)) s ∧ Below w.heap.size w w' := by
  refine (new_any s w hs).mono ?_
  rintro e w' ⟨b, v, he, _, hb, hrow, hB⟩
  obtain ⟨g, cap, rfl⟩ := ownsRow_succ hrow
  exact ⟨b, he, ⟨b, g, cap, rfl, hb, own_zero hrow⟩, hB⟩

theorem cells2 {w : World} {b : Nat} {x y : Value} {t : TypeId} (h : w.heap[b]? = some (.cells #[x, y] t)) : w.cell? ⟨b, 0, none⟩ = some x ∧ w.cell? ⟨b, 1, none⟩ = some y := by
  constructor <;> simp [World.cell?, h]

/-- the byte place at which character at begins; of the number of characters: how many bytes there are -/
def startN (s : ByteArray) (k : Nat) : Nat := ((chars s 0).map (·.1) ++ [s.size]).getD k 0
theorem startVals_at (s : ByteArray) (k : Nat) (h : k < (chars s 0).length + 1) : (startVals s)[k]? = some (.int .i64 (startN s k : Nat)) := by
  have e : startVals s = ((chars s 0).map (·.1) ++ [s.size]).map fun n => .int .i64 (n : Nat) := by simp [startVals, posVals]
  rw [e, List.getElem?_map, List.getElem?_eq_getElem (by simpa using h)]
  simp [startN, List.getD, List.getElem?_eq_getElem (show k < ((chars s 0).map (·.1) ++ [s.size]).length by simpa using h)]

theorem isMade_nil (w : World) : Calls Try.prog 58 #[.pointer none] w fun e w' => e = .returned (.bool false) ∧ w' = w := by
  go_enter Try.func58, Try.ntmps58
  go_wp2
  go_ret
  exact ⟨rfl, rfl⟩

theorem isMade_any (w : World) (p : Value) (s : ByteArray) (h : IsPlaces w p s) : Calls Try.prog 58 #[p] w fun e w' => e = .returned (.bool true) ∧ w' = w := by
  obtain ⟨b, g, cap, rfl, hb, hrow⟩ := h
  obtain ⟨h0, h1⟩ := cells2 hb
  go_enter Try.func58, Try.ntmps58
  go_wp2
  go_ret
  exact ⟨rfl, rfl⟩

theorem len_nil (w : World) : Calls Try.prog 59 #[.pointer none] w fun e w' => e = .returned (.int .i64 0) ∧ w' = w := by
  go_enter Try.func59, Try.ntmps59
  go_wp2_with (go_at_call 58; refine (isMade_nil _).mono ?_; rintro e w' ⟨rfl, rfl⟩)
  go_ret
  exact ⟨rfl, rfl⟩

theorem len_any (w : World) (p : Value) (s : ByteArray) (hs : s.size ≤ maxLen) (h : IsPlaces w p s) : Calls Try.prog 59 #[p] w fun e w' => e = .returned (.int .i64 (chars s 0).length) ∧ w' = w := by
  have HM := hide (isMade_any w p s h)
  have hcl := chars_length s 0
  unfold maxLen at hs
  obtain ⟨b, g, cap, rfl, hb, hrow⟩ := h
  obtain ⟨h0, h1⟩ := cells2 hb
  generalize (chars s 0).length = L at *
  go_enter Try.func59, Try.ntmps59
  go_wp2_with (go_at_call 58; refine (unhide HM).mono ?_; rintro e w' ⟨rfl, rfl⟩)
  go_ret
  exact ⟨by simp, rfl⟩

end Go.Proofs.Ytkckkchnmgidgaa
