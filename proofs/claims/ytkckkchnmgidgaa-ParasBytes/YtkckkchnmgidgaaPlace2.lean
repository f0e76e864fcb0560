/-
  Text, Rune, Slice of the places of a text.
-/
import Derived.Test.YtkckkchnmgidgaaSearch
import Derived.Lib.QuietBelow
namespace Go.Proofs.Ytkckkchnmgidgaa
open Go.RowKit Go.PlainAid Go.Lib
set_option linter.unusedVariables false

theorem decode_at (s : ByteArray) (A i : Nat) (h : A + i < s.size) : Utf8.decode (s.extract A s.size) i = Utf8.decode s (A + i) := by
  rw [decode_decB _ _ (by rw [extract_size]; omega), decode_decB s (A + i) h]
  simp only [bN_extract, extract_size, Nat.add_assoc]
  rw [show s.size - A - i = s.size - (A + i) by omega]

set_option maxRecDepth 100000 in
set_option maxHeartbeats 400000 in
theorem slice_any (w : World) (p : Value) (s : ByteArray) (hs : s.size ≤ 4398046511104) (h : IsPlaces w p s) (a b : Nat) (hab : a ≤ b) (hb : b ≤ (chars s 0).length) :
    Calls Try.prog 50 #[p, .int .i64 a, .int .i64 b] w fun e w' => e = .returned (.tuple #[.string (s.extract (startN s a) (startN s b)), .int .i64 0]) ∧ Below w.heap.size w w' := by
  have hi := isMade_any w p s h
  have hl := len_any w p s (by unfold maxLen; omega) h
  have hcl := chars_length s 0
  obtain ⟨b0, g, cap, rfl, hbl, hrow⟩ := h
  obtain ⟨h0, h1⟩ := cells2 hbl
  have hc := places_cell (n := 0) hrow a (by omega)
  have hc2 := places_cell (n := 0) hrow b (by omega)
  have hle := start_le s a b hab hb
  have hz := start_size s b hb
  clear hrow
  generalize startN s a = A at *
  generalize startN s b = B at *
  generalize (chars s 0).length = n at *
  have d1 : decide ((a : Int) < 0) = false := by simp
  have d2 : decide ((b : Int) < (a : Int)) = false := by simp; omega
  have d3 : decide ((n : Int) < (b : Int)) = false := by simp; omega
  go_enter Try.func50, Try.ntmps50
  go_wp2_with (first
    | (go_at_call 58; refine hi.mono ?_; rintro e w' ⟨rfl, rfl⟩)
    | (go_at_call 59; refine hl.mono ?_; rintro e w' ⟨rfl, rfl⟩))
  go_quiet (fail)
  go_wp2
  go_returns
  exact ⟨rfl, below_drewN (Below.refl _ _) _⟩

set_option maxRecDepth 100000 in
set_option maxHeartbeats 400000 in
theorem slice_out (w : World) (p : Value) (s : ByteArray) (hs : s.size ≤ 4398046511104) (h : IsPlaces w p s) (a b : Int) (hab : a < 0 ∨ b < a ∨ ((chars s 0).length : Int) < b) :
    Calls Try.prog 50 #[p, .int .i64 a, .int .i64 b] w fun e w' => e = .returned (.tuple #[.string { data := #[] }, .int .i64 2]) ∧ w' = w := by
  have hi := isMade_any w p s h
  have hl := len_any w p s (by unfold maxLen; omega) h
  have hcl := chars_length s 0
  generalize (chars s 0).length = n at *
  have hd : decide (a < 0) = true ∨ (decide (a < 0) = false ∧ decide (b < a) = true) ∨ (decide (a < 0) = false ∧ decide (b < a) = false ∧ decide ((n : Int) < b) = true) := by simp; omega
  rcases hd with d1 | ⟨d1, d2⟩ | ⟨d1, d2, d3⟩
  all_goals
    go_enter Try.func50, Try.ntmps50
    go_wp2_with (first
      | (go_at_call 58; refine hi.mono ?_; rintro e w' ⟨rfl, rfl⟩)
      | (go_at_call 59; refine hl.mono ?_; rintro e w' ⟨rfl, rfl⟩))
    go_returns
    exact ⟨rfl, rfl⟩

end Go.Proofs.Ytkckkchnmgidgaa
