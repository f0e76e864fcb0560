/-
  The binary search over the beginnings of the characters; At and Begins of the places of a text.
-/
import Derived.Test.YtgffibonikcecaaStart
import Derived.Deep.QuietTactic
import Derived.BigQuiet
namespace Go.Proofs.Ytgffibonikcecaa
open Go.RowKit Go.PlainAid Go.Lib
set_option linter.unusedVariables false

theorem nanC (a : Int) (w : World) : Calls Try.prog 76 #[.int .i64 a] w fun e w' => e = .returned (.bool false) ∧ w' = w := by
  go_enter Try.func76, Try.ntmps76
  go_wp2
  go_ret
  exact ⟨by simp, rfl⟩
theorem nanS (a : Int) (w : World) : Calls Try.prog 73 #[.int .i64 a] w fun e w' => e = .returned (.bool false) ∧ w' = w := by
  go_enter Try.func73, Try.ntmps73
  go_wp2
  go_ret
  exact ⟨by simp, rfl⟩
theorem less_any (a b : Int) (w : World) : Calls Try.prog 72 #[.int .i64 a, .int .i64 b] w fun e w' => e = .returned (.bool (decide (a < b))) ∧ w' = w := by
  go_enter Try.func72, Try.ntmps72
  go_wp2_with (go_at_call 76; refine (nanC _ _).mono ?_; rintro e w' ⟨rfl, rfl⟩)
  go_ret
  exact ⟨rfl, rfl⟩

/-- i is how many of the first m numbers are below t -/
def Found (m : Nat) (f : Nat → Nat) (t : Int) (i : Nat) : Prop := i ≤ m ∧ (∀ k, k < i → (f k : Int) < t) ∧ (∀ k, i ≤ k → k < m → t ≤ (f k : Int))
theorem ret_found {a : Int} {b c : Bool} (h : b = c) : Ending.returned (.tuple #[.int .i64 a, .bool b]) = .returned (.tuple #[.int .i64 a, .bool c]) := by rw [h]

set_option maxRecDepth 100000 in
set_option maxHeartbeats 1000000 in
theorem search_any (w : World) (g m cap : Nat) (f : Nat → Nat) (t : Int) (hm : m ≤ 4398046511105) (hc : ∀ k, k < m → w.cell? ⟨g, k, none⟩ = some (.int .i64 (f k : Nat))) (hf : ∀ j k, j ≤ k → k < m → f j ≤ f k) :
    Calls Try.prog 62 #[.slice (some ⟨g, 0, none⟩) m cap, .int .i64 t] w fun e w' => ∃ i : Nat, Found m f t i ∧ e = .returned (.tuple #[.int .i64 i, .bool (decide (i < m ∧ (f i : Int) = t))]) ∧ w' = w := by
  go_enter Try.func62, Try.ntmps62
  go_wp2
  go_loop [7, 8] (fun v7 v8 => ∃ i j : Nat, i ≤ j ∧ j ≤ m ∧ Hid (∀ k, k < i → (f k : Int) < t) ∧ Hid (∀ k, j ≤ k → k < m → t ≤ (f k : Int)) ∧ v7 = .int .i64 i ∧ v8 = .int .i64 j) (fun v7 v8 => (intOf v8).toNat - (intOf v7).toNat)
  case atStart => exact ⟨0, m, Nat.zero_le _, Nat.le_refl _, hide (fun k h => by omega), hide (fun k h h' => by omega), rfl, rfl⟩
  case round =>
    obtain ⟨i, j, hij, hjm, HL, HH, rfl, rfl⟩ := hrel
    by_cases hlt : i < j
    · have hh : (i + j) / 2 < m := by omega
      have hcc := hc _ hh
      by_cases hl : (f ((i + j) / 2) : Int) < t
      · have HL2 : Hid (∀ k, k < (i + j) / 2 + 1 → (f k : Int) < t) := hide (fun k hk => by have := hf k ((i + j) / 2) (by omega) hh; omega)
        go_wp2_with (go_at_call 72; refine (less_any _ _ _).mono ?_; rintro e w' ⟨rfl, rfl⟩)
        go_round
        case rel => exact ⟨(i + j) / 2 + 1, j, by omega, hjm, HL2, HH, by go_num, rfl⟩
        case measure => simp [intOf]; omega
      · have HH2 : Hid (∀ k, (i + j) / 2 ≤ k → k < m → t ≤ (f k : Int)) := hide (fun k hk hk' => by have := hf ((i + j) / 2) k hk hk'; omega)
        go_wp2_with (go_at_call 72; refine (less_any _ _ _).mono ?_; rintro e w' ⟨rfl, rfl⟩)
        go_round
        case rel => exact ⟨i, (i + j) / 2, by omega, by omega, HL, HH2, rfl, by go_num⟩
        case measure => simp [intOf]; omega
    · obtain rfl : i = j := by omega
      have HF : Hid (Found m f t i) := hide ⟨hjm, unhide HL, unhide HH⟩
      by_cases him : i < m
      · have hci := hc _ him
        by_cases he : (f i : Int) = t
        · have hq : ((f i : Int) == t) = true := by simpa using he
          have HE := hide he
          clear he
          go_wp2
          go_returns
          exact ⟨i, unhide HF, ret_found (by simp [him, unhide HE]), rfl⟩
        · have hq : ((f i : Int) == t) = false := by simpa using he
          have HE := hide he
          clear he
          go_wp2
          go_returns
          exact ⟨i, unhide HF, ret_found (by simp [him, unhide HE]), rfl⟩
      · have hd : decide ((i : Int) < m) = false := by simp; omega
        have hdN : decide (i < m) = false := by simp; omega
        go_wp2
        go_returns
        exact ⟨i, unhide HF, ret_found (by simp [him]), rfl⟩

theorem places_cell {w : World} {g n cap : Nat} {s : ByteArray} (h : w.ownsRow 0 3 1 (.slice (some ⟨g, 0, none⟩) ((chars s 0).length + 1) cap) ((chars s 0).length + 1) (startVals s)) :
    ∀ k, k < (chars s 0).length + 1 → w.cell? ⟨g, k, none⟩ = some (.int .i64 (startN s k : Nat)) := fun k hk => (h.cellAt k (by omega)).trans (startVals_at s k hk)

/-- does a character begin at b, or the text end there? -/
def beginsB (s : ByteArray) (b : Int) : Bool := (starts s 0).any fun x => decide ((x : Int) = b)
theorem starts_len (s : ByteArray) : (starts s 0).length = (chars s 0).length + 1 := by simp [starts]
theorem begins_iff (s : ByteArray) (b : Int) : beginsB s b = true ↔ ∃ k, k < (chars s 0).length + 1 ∧ (startN s k : Int) = b := by
  unfold beginsB
  rw [List.any_eq_true]
  constructor
  · rintro ⟨x, hx, h⟩
    obtain ⟨k, hk, rfl⟩ := List.getElem_of_mem hx
    rw [starts_len] at hk
    exact ⟨k, hk, by simpa [startN_starts, List.getD_eq_getElem?_getD, List.getElem?_eq_getElem (show k < (starts s 0).length by rw [starts_len]; exact hk)] using h⟩
  · rintro ⟨k, hk, h⟩
    have hk' : k < (starts s 0).length := by rw [starts_len]; exact hk
    exact ⟨(starts s 0)[k], List.getElem_mem _, by simpa [startN_starts, List.getD_eq_getElem?_getD, List.getElem?_eq_getElem hk'] using h⟩
theorem found_begins (s : ByteArray) (b : Int) (i : Nat) (h : Found ((chars s 0).length + 1) (startN s) b i) : decide (i < (chars s 0).length + 1 ∧ (startN s i : Int) = b) = beginsB s b := by
  rw [Bool.eq_iff_iff, begins_iff, decide_eq_true_iff]
  obtain ⟨h1, h2, h3⟩ := h
  constructor
  · rintro ⟨a, b⟩; exact ⟨i, a, b⟩
  · rintro ⟨k, hk, e⟩
    by_cases hki : k < i
    · have := h2 k hki; omega
    · have h4 := h3 i (Nat.le_refl _) (by omega)
      have h5 := start_le s i k (by omega) (by omega)
      exact ⟨by omega, by omega⟩
theorem found_at (s : ByteArray) (b k i : Nat) (h : Found ((chars s 0).length + 1) (startN s) b i) (hk : k ≤ (chars s 0).length) (h1 : startN s k ≤ b) (h2 : k < (chars s 0).length → b < startN s (k + 1)) (hb : b ≤ s.size) :
    (i = k ∧ decide (i < (chars s 0).length + 1 ∧ (startN s i : Int) = b) = true) ∨ (i = k + 1 ∧ decide (i < (chars s 0).length + 1 ∧ (startN s i : Int) = b) = false) := by
  obtain ⟨f1, f2, f3⟩ := h
  by_cases e : startN s k = b
  · left
    have hi1 : i ≤ k := by
      refine Decidable.byContradiction fun hn => ?_
      have := f2 k (by omega); omega
    have hi2 : k ≤ i := by
      refine Decidable.byContradiction fun hn => ?_
      have := f3 i (Nat.le_refl _) (by omega)
      have := start_lt_lt s i k (by omega) hk
      omega
    obtain rfl : i = k := by omega
    exact ⟨rfl, by simp; omega⟩
  · right
    have hkn : k < (chars s 0).length := by
      refine Decidable.byContradiction fun hn => ?_
      obtain rfl : k = (chars s 0).length := by omega
      rw [start_len] at *; omega
    have h2' := h2 hkn
    have hi1 : i ≤ k + 1 := by
      refine Decidable.byContradiction fun hn => ?_
      have := f2 (k + 1) (by omega); omega
    have hi2 : k + 1 ≤ i := by
      refine Decidable.byContradiction fun hn => ?_
      have := f3 i (Nat.le_refl _) (by omega)
      have := start_le s i k (by omega) hk
      omega
    obtain rfl : i = k + 1 := by omega
    refine ⟨rfl, by simp; omega⟩

set_option maxRecDepth 100000 in
set_option maxHeartbeats 400000 in
theorem begins_any (w : World) (p : Value) (s : ByteArray) (hs : s.size ≤ 4398046511104) (h : IsPlaces w p s) (b : Int) :
    Calls Try.prog 45 #[p, .int .i64 b] w fun e w' => e = .returned (.bool (beginsB s b)) ∧ w' = w := by
  have hi := isMade_any w p s h
  obtain ⟨g0, g, cap, rfl, hb, hrow⟩ := h
  obtain ⟨h0, h1⟩ := cells2 hb
  have hl := chars_length s 0
  have HB := hide (found_begins s b)
  have HC := hide (places_cell (n := 0) hrow)
  have HM : Hid (∀ j k, j ≤ k → k < (chars s 0).length + 1 → startN s j ≤ startN s k) := hide fun j k hjk hk => start_le s j k hjk (by omega)
  clear hrow
  generalize startN s = f at *
  generalize (chars s 0).length = n at *
  generalize beginsB s b = r at *
  go_enter Try.func45, Try.ntmps45
  go_wp2_with (go_at_call 61; refine hi.mono ?_; rintro e w' ⟨rfl, rfl⟩)
  refine (search_any _ _ _ _ f b (by omega) (unhide HC) (unhide HM)).mono ?_
  rintro e w' ⟨i, hfi, rfl, rfl⟩
  rw [unhide HB i hfi]
  go_wp2
  go_ret
  exact ⟨rfl, rfl⟩

set_option maxRecDepth 100000 in
set_option maxHeartbeats 400000 in
theorem at_any (w : World) (p : Value) (s : ByteArray) (hs : s.size ≤ 4398046511104) (h : IsPlaces w p s) (b k : Nat) (hbs : b ≤ s.size) (hk : k ≤ (chars s 0).length) (h1 : startN s k ≤ b) (h2 : k < (chars s 0).length → b < startN s (k + 1)) :
    Calls Try.prog 39 #[p, .int .i64 b] w fun e w' => e = .returned (.tuple #[.int .i64 k, .int .i64 0]) ∧ w' = w := by
  have hi := isMade_any w p s h
  obtain ⟨g0, g, cap, rfl, hb, hrow⟩ := h
  obtain ⟨h0, h1'⟩ := cells2 hb
  have hl := chars_length s 0
  have HC := hide (places_cell (n := 0) hrow)
  have HM : Hid (∀ j k, j ≤ k → k < (chars s 0).length + 1 → startN s j ≤ startN s k) := hide fun j k hjk hk => start_le s j k hjk (by omega)
  have HA := hide (fun i h => found_at s b k i h hk h1 h2 hbs)
  clear hrow h1 h2
  generalize startN s = f at *
  generalize (chars s 0).length = n at *
  have d1 : decide ((b : Int) < 0) = false := by simp
  have d2 : decide ((s.size : Int) < (b : Int)) = false := by simp; omega
  go_enter Try.func39, Try.ntmps39
  go_wp2_with (go_at_call 61; refine hi.mono ?_; rintro e w' ⟨rfl, rfl⟩)
  refine (search_any _ _ _ _ f b (by omega) (unhide HC) (unhide HM)).mono ?_
  rintro e w' ⟨i, hfi, rfl, rfl⟩
  rcases unhide HA i hfi with ⟨rfl, hd⟩ | ⟨rfl, hd⟩
  all_goals
    rw [hd]
    clear hd hfi HA
    go_wp2
    go_returns
    exact ⟨ret_int2 (by simp) rfl, rfl⟩

set_option maxRecDepth 100000 in
set_option maxHeartbeats 400000 in
theorem at_out (w : World) (p : Value) (s : ByteArray) (hs : s.size ≤ 4398046511104) (h : IsPlaces w p s) (b : Int) (hb : b < 0 ∨ (s.size : Int) < b) :
    Calls Try.prog 39 #[p, .int .i64 b] w fun e w' => e = .returned (.tuple #[.int .i64 0, .int .i64 2]) ∧ w' = w := by
  have hi := isMade_any w p s h
  obtain ⟨g0, g, cap, rfl, hbl, hrow⟩ := h
  obtain ⟨h0, h1'⟩ := cells2 hbl
  clear hrow
  have hd : (decide (b < 0) = true) ∨ (decide (b < 0) = false ∧ decide ((s.size : Int) < b) = true) := by
    by_cases h : b < 0
    · left; simpa using h
    · right; exact ⟨by simpa using h, by simp; omega⟩
  rcases hd with d1 | ⟨d1, d2⟩
  all_goals
    go_enter Try.func39, Try.ntmps39
    go_wp2_with (go_at_call 61; refine hi.mono ?_; rintro e w' ⟨rfl, rfl⟩)
    go_returns
    exact ⟨rfl, rfl⟩

end Go.Proofs.Ytgffibonikcecaa
