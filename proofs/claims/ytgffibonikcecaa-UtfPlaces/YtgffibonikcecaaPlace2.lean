/-
  Text, Rune, Slice of the places of a text.
-/
import Derived.Test.YtgffibonikcecaaSearch
import Derived.Lib.QuietBelow
namespace Go.Proofs.Ytgffibonikcecaa
open Go.RowKit Go.PlainAid Go.Lib
set_option linter.unusedVariables false

theorem decode_at (s : ByteArray) (A i : Nat) (h : A + i < s.size) : Utf8.decode (s.extract A s.size) i = Utf8.decode s (A + i) := by
  rw [decode_decB _ _ (by rw [extract_size]; omega), decode_decB s (A + i) h]
  simp only [bN_extract, extract_size, Nat.add_assoc]
  rw [show s.size - A - i = s.size - (A + i) by omega]

theorem text_any (w : World) (p : Value) (s : ByteArray) (h : IsPlaces w p s) : Calls Try.prog 43 #[p] w fun e w' => e = .returned (.string s) ∧ w' = w := by
  have hi := isMade_any w p s h
  obtain ⟨b, g, cap, rfl, hb, hrow⟩ := h
  obtain ⟨h0, h1⟩ := cells2 hb
  clear hrow
  go_enter Try.func43, Try.ntmps43
  go_wp2_with (go_at_call 61; refine hi.mono ?_; rintro e w' ⟨rfl, rfl⟩)
  go_ret
  exact ⟨rfl, rfl⟩

theorem field_rune (a b c d : Int) (W : World) : (Instr.field 27 (.agg #[.int .i64 a, .int .i64 b, .int .i32 c, .int .i64 d]) 2).run Try.prog W = .ok (.int .i32 c) W := by kernel_rfl

set_option maxRecDepth 100000 in
set_option maxHeartbeats 400000 in
theorem rune_any (w : World) (p : Value) (s : ByteArray) (hs : s.size ≤ 4398046511104) (h : IsPlaces w p s) (k : Nat) (hk : k < (chars s 0).length) :
    Calls Try.prog 40 #[p, .int .i64 k] w fun e w' => e = .returned (.tuple #[.int .i32 ((Utf8.decode s (startN s k)).1 : Nat), .int .i64 0]) ∧ Below w.heap.size w w' := by
  have hi := isMade_any w p s h
  have hl := len_any w p s (by unfold maxLen; omega) h
  have hcl := chars_length s 0
  obtain ⟨b, g, cap, rfl, hb, hrow⟩ := h
  obtain ⟨h0, h1⟩ := cells2 hb
  have hc := places_cell (n := 0) hrow k (by omega)
  have hlt := start_lt s k hk
  have HFI : Hid (∀ W, Calls Try.prog 14 #[.string (s.extract (startN s k) s.size)] W fun e w' => e = .returned (.agg #[.int .i64 0, .int .i64 ((Utf8.decode s (startN s k)).2 : Nat), .int .i32 ((Utf8.decode s (startN s k)).1 : Nat), .int .i64 (whyN (s.extract (startN s k) s.size))]) ∧ Below W.heap.size W w') := by
    intro W
    have := first_any (s.extract (startN s k) s.size) W (by rw [extract_size]; unfold maxLen; omega) (by rw [extract_size]; omega)
    rwa [spotOf_extract s _ hlt] at this
  clear hrow
  generalize startN s k = A at *
  generalize (chars s 0).length = n at *
  have hfl := field_rune
  have r0 := fun d os => cell_regrown h0 d os
  have r1 := fun d os => cell_regrown h1 d os
  have r2 := fun d os => cell_regrown hc d os
  have d1 : decide ((k : Int) < 0) = false := by simp
  have d2 : decide ((n : Int) ≤ (k : Int)) = false := by simp; omega
  go_enter Try.func40, Try.ntmps40
  go_wp2_with (first
    | (go_at_call 61; refine hi.mono ?_; rintro e w' ⟨rfl, rfl⟩)
    | (go_at_call 44; refine hl.mono ?_; rintro e w' ⟨rfl, rfl⟩))
  refine wp_region_quiet_below (by kernel_rfl) (by kernel_rfl) ?_
  repeat (first | go_big_quiet_step ((go_at_call 14; exact Calls.regrown_of (unhide HFI _))) | quiet_step (fail))
  refine wpQuiet_nil ?_
  intro _ hw'
  obtain ⟨⟨dq, osq⟩, hw''⟩ := hw'
  subst hw''
  go_wp2
  go_returns
  exact ⟨rfl, below_regrown _ dq osq⟩

set_option maxRecDepth 100000 in
set_option maxHeartbeats 400000 in
theorem rune_out (w : World) (p : Value) (s : ByteArray) (hs : s.size ≤ 4398046511104) (h : IsPlaces w p s) (k : Int) (hk : k < 0 ∨ ((chars s 0).length : Int) ≤ k) :
    Calls Try.prog 40 #[p, .int .i64 k] w fun e w' => e = .returned (.tuple #[.int .i32 0, .int .i64 2]) ∧ w' = w := by
  have hi := isMade_any w p s h
  have hl := len_any w p s (by unfold maxLen; omega) h
  have hcl := chars_length s 0
  generalize (chars s 0).length = n at *
  have hd : decide (k < 0) = true ∨ (decide (k < 0) = false ∧ decide ((n : Int) ≤ k) = true) := by simp; omega
  rcases hd with d1 | ⟨d1, d2⟩
  all_goals
    go_enter Try.func40, Try.ntmps40
    go_wp2_with (first
      | (go_at_call 61; refine hi.mono ?_; rintro e w' ⟨rfl, rfl⟩)
      | (go_at_call 44; refine hl.mono ?_; rintro e w' ⟨rfl, rfl⟩))
    go_returns
    exact ⟨rfl, rfl⟩

set_option maxRecDepth 100000 in
set_option maxHeartbeats 400000 in
theorem slice_any (w : World) (p : Value) (s : ByteArray) (hs : s.size ≤ 4398046511104) (h : IsPlaces w p s) (a b : Nat) (hab : a ≤ b) (hb : b ≤ (chars s 0).length) :
    Calls Try.prog 41 #[p, .int .i64 a, .int .i64 b] w fun e w' => e = .returned (.tuple #[.string (s.extract (startN s a) (startN s b)), .int .i64 0]) ∧ Below w.heap.size w w' := by
  have hi := isMade_any w p s h
  have hl := len_any w p s (by unfold maxLen; omega) h
  have hcl := chars_length s 0
  obtain ⟨b0, g, cap, rfl, hbl, hrow⟩ := h
  obtain ⟨h0, h1⟩ := cells2 hbl
  have hc := places_cell (n := 0) hrow a (by omega)
  have hc2 := places_cell (n := 0) hrow b (by omega)
  have hle := start_le s a b hab hb
  have hz := start_size s b hb
  clear hrow
  generalize startN s a = A at *
  generalize startN s b = B at *
  generalize (chars s 0).length = n at *
  have d1 : decide ((a : Int) < 0) = false := by simp
  have d2 : decide ((b : Int) < (a : Int)) = false := by simp; omega
  have d3 : decide ((n : Int) < (b : Int)) = false := by simp; omega
  go_enter Try.func41, Try.ntmps41
  go_wp2_with (first
    | (go_at_call 61; refine hi.mono ?_; rintro e w' ⟨rfl, rfl⟩)
    | (go_at_call 44; refine hl.mono ?_; rintro e w' ⟨rfl, rfl⟩))
  go_quiet (fail)
  go_wp2
  go_returns
  exact ⟨rfl, below_drewN (Below.refl _ _) _⟩

set_option maxRecDepth 100000 in
set_option maxHeartbeats 400000 in
theorem slice_out (w : World) (p : Value) (s : ByteArray) (hs : s.size ≤ 4398046511104) (h : IsPlaces w p s) (a b : Int) (hab : a < 0 ∨ b < a ∨ ((chars s 0).length : Int) < b) :
    Calls Try.prog 41 #[p, .int .i64 a, .int .i64 b] w fun e w' => e = .returned (.tuple #[.string { data := #[] }, .int .i64 2]) ∧ w' = w := by
  have hi := isMade_any w p s h
  have hl := len_any w p s (by unfold maxLen; omega) h
  have hcl := chars_length s 0
  generalize (chars s 0).length = n at *
  have hd : decide (a < 0) = true ∨ (decide (a < 0) = false ∧ decide (b < a) = true) ∨ (decide (a < 0) = false ∧ decide (b < a) = false ∧ decide ((n : Int) < b) = true) := by simp; omega
  rcases hd with d1 | ⟨d1, d2⟩ | ⟨d1, d2, d3⟩
  all_goals
    go_enter Try.func41, Try.ntmps41
    go_wp2_with (first
      | (go_at_call 61; refine hi.mono ?_; rintro e w' ⟨rfl, rfl⟩)
      | (go_at_call 44; refine hl.mono ?_; rintro e w' ⟨rfl, rfl⟩))
    go_returns
    exact ⟨rfl, rfl⟩

theorem walkIt_in (p : Value) (a : Int) (w : World) (hp : ∃ b, p = .pointer (some ⟨b, 0, none⟩)) :
    Calls Try.prog 42 #[p, .int .i64 a] w fun e w' => e = .returned (.func (.func 63) #[] #[.pointer (some ⟨w.heap.size + 1, 0, none⟩), .pointer (some ⟨w.heap.size, 0, none⟩)]) ∧ w' = (w.alloc (.cells #[p] 64)).alloc (.cells #[.int .i64 a] 3) := by
  obtain ⟨b, rfl⟩ := hp
  go_enter Try.func42, Try.ntmps42
  go_wp2
  go_ret
  exact ⟨rfl, rfl⟩

end Go.Proofs.Ytgffibonikcecaa
