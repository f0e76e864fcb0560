/-
  The document's places (Byte and Has of furrowref01), for every text and number.
-/
import Derived.Test.YtgffibonikcecaaRefSpots
import Derived.Test.YtgffibonikcecaaStart
namespace Go.Proofs.Ytgffibonikcecaa
open Go.RowKit Go.PlainAid Go.Lib
set_option linter.unusedVariables false

set_option maxRecDepth 100000 in
set_option maxHeartbeats 400000 in
theorem refByte_any (s : ByteArray) (k : Nat) (w : World) (hs : s.size ≤ 1099511627776) (hk : k ≤ (chars s 0).length) :
    Calls Try.prog 59 #[.string s, .int .i64 k] w fun e w' => e = .returned (.tuple #[.int .i64 (startN s k : Nat), .int .i64 0]) ∧ Below w.heap.size w w' := by
  have hcl := chars_length s 0
  have hpl := places_length s
  go_enter Try.func59, Try.ntmps59
  go_wp2_with fail
  refine (refSpots_any s w hs).mono ?_
  rintro e w1 ⟨v, rfl, hrow, hb1⟩
  obtain ⟨a, c, rfl, _, HSP⟩ := sc_row hrow
  rw [hpl]
  clear hrow
  have d1 : decide ((k : Int) < 0) = false := by simp
  by_cases hkl : k < (chars s 0).length
  · obtain ⟨g, rfl, c0, _⟩ := HSP k _ (place_start s k hkl)
    generalize hA : startN s k = A at *
    have HA := hide hA
    clear hA
    generalize (chars s 0).length = L at *
    have d2 : decide ((L : Int) < (k : Int)) = false := by simp; omega
    have d3 : ((k : Int) == (L : Int)) = false := by simp; omega
    clear HSP
    go_wp2
    go_returns
    exact ⟨ret_int2 (by rw [unhide HA]) rfl, hb1⟩
  · have hke : k = (chars s 0).length := by omega
    have HST : Hid (startN s k = s.size) := hide (by rw [hke, start_len])
    generalize (chars s 0).length = L at *
    have d2 : decide ((L : Int) < (k : Int)) = false := by simp; omega
    have d3 : ((k : Int) == (L : Int)) = true := by simp; omega
    clear HSP hke
    go_wp2
    go_returns
    exact ⟨ret_int2 (by rw [unhide HST]) rfl, hb1⟩

set_option maxRecDepth 100000 in
set_option maxHeartbeats 400000 in
theorem refByte_out (s : ByteArray) (k : Int) (w : World) (hs : s.size ≤ 1099511627776) (hk : k < 0 ∨ ((chars s 0).length : Int) < k) :
    Calls Try.prog 59 #[.string s, .int .i64 k] w fun e w' => e = .returned (.tuple #[.int .i64 0, .int .i64 2]) ∧ Below w.heap.size w w' := by
  have hcl := chars_length s 0
  have hpl := places_length s
  go_enter Try.func59, Try.ntmps59
  go_wp2_with fail
  refine (refSpots_any s w hs).mono ?_
  rintro e w1 ⟨v, rfl, hrow, hb1⟩
  obtain ⟨a, c, rfl, _, HSP⟩ := sc_row hrow
  rw [hpl]
  clear hrow HSP
  generalize (chars s 0).length = L at *
  have hd : decide (k < 0) = true ∨ (decide (k < 0) = false ∧ decide ((L : Int) < k) = true) := by simp; omega
  rcases hd with d1 | ⟨d1, d2⟩
  all_goals
    go_wp2
    go_returns
    exact ⟨rfl, hb1⟩

set_option maxRecDepth 100000 in
set_option maxHeartbeats 400000 in
theorem refHas_out (s : ByteArray) (b : Int) (w : World) (hs : s.size ≤ 1099511627776) (hb : b < 0 ∨ (s.size : Int) < b) :
    Calls Try.prog 60 #[.string s, .int .i64 b] w fun e w' => e = .returned (.tuple #[.int .i64 0, .int .i64 2]) ∧ Below w.heap.size w w' := by
  have hd : decide (b < 0) = true ∨ (decide (b < 0) = false ∧ decide ((s.size : Int) < b) = true) := by simp; omega
  rcases hd with d1 | ⟨d1, d2⟩
  all_goals
    go_enter Try.func60, Try.ntmps60
    go_wp2
    go_returns
    exact ⟨rfl, Below.refl _ _⟩

set_option maxRecDepth 100000 in
set_option maxHeartbeats 1000000 in
theorem refHas_any (s : ByteArray) (b k : Nat) (w : World) (hs : s.size ≤ 1099511627776) (hbs : b ≤ s.size) (hk : k ≤ (chars s 0).length) (h1 : startN s k ≤ b) (h2 : k < (chars s 0).length → b < startN s (k + 1)) :
    Calls Try.prog 60 #[.string s, .int .i64 b] w fun e w' => e = .returned (.tuple #[.int .i64 k, .int .i64 0]) ∧ Below w.heap.size w w' := by
  have hcl := chars_length s 0
  have hpl := places_length s
  have d1 : decide ((b : Int) < 0) = false := by simp
  have d2 : decide ((s.size : Int) < (b : Int)) = false := by simp; omega
  go_enter Try.func60, Try.ntmps60
  go_wp2_with fail
  refine (refSpots_any s w hs).mono ?_
  rintro e w1 ⟨v, rfl, hrow, hb1⟩
  obtain ⟨a, c, rfl, _, HSP⟩ := sc_row hrow
  rw [hpl]
  clear hrow
  by_cases hbe : b = s.size
  · have hke : k = (chars s 0).length := by
      refine Decidable.byContradiction fun hn => ?_
      have := h2 (by omega)
      have := start_size s (k + 1) (by omega)
      omega
    have d3 : ((b : Int) == (s.size : Int)) = true := by simp [hbe]
    have HKE := hide hke
    clear HSP hke hbe h1 h2
    go_wp2
    go_returns
    exact ⟨ret_int2 (by rw [unhide HKE]) rfl, hb1⟩
  · have d3 : ((b : Int) == (s.size : Int)) = false := by simp; omega
    have hkl : k < (chars s 0).length := by
      refine Decidable.byContradiction fun hn => ?_
      have : k = (chars s 0).length := by omega
      rw [this, start_len] at h1; omega
    have HCE : Hid (∀ i, i < (chars s 0).length → ∃ g, a = some ⟨g, 0, none⟩ ∧ w1.cell? ⟨g, i * 4, none⟩ = some (.int .i64 (startN s i : Nat)) ∧ (startN s i ≤ b ↔ i ≤ k)) := by
      intro i hi
      obtain ⟨g, e1, e2, _⟩ := HSP i _ (place_start s i hi)
      refine ⟨g, e1, e2, fun h => ?_, fun h => Nat.le_trans (start_le s i k h hk) h1⟩
      refine Decidable.byContradiction fun hn => ?_
      have := start_le s (k + 1) i (by omega) (by omega)
      have := h2 hkl
      omega
    clear HSP h1 h2 hbe
    generalize (chars s 0).length = L at *
    go_wp2
    go_loop [7, 8] (fun v7 v8 => ∃ i : Nat, i ≤ L ∧ v8 = .int .i64 i ∧ v7 = .int .i64 (if i ≤ k then (i : Int) - 1 else (k : Int))) (fun _ v8 => L - (intOf v8).toNat)
    case atStart => exact ⟨0, Nat.zero_le _, rfl, by rw [if_pos (Nat.zero_le _)]; rfl⟩
    case round =>
      obtain ⟨i, hiL, rfl, rfl⟩ := hrel
      by_cases hlt : i < L
      · obtain ⟨g, rfl, ci, hiff⟩ := unhide HCE i hlt
        generalize startN s i = A at *
        by_cases hik : i ≤ k
        · have p4 : A ≤ b := hiff.2 hik
          clear hiff
          go_wp2
          go_round
          case rel => exact ⟨i + 1, by omega, by go_num, by
            by_cases h : i + 1 ≤ k
            · rw [if_pos h]; congr 1; omega
            · rw [if_neg h]; congr 1; omega⟩
          case measure => simp [intOf]; omega
        · have p4 : ¬ A ≤ b := fun h => hik (hiff.1 h)
          clear hiff
          rw [if_neg hik]
          go_wp2
          go_round
          case rel => exact ⟨i + 1, by omega, by go_num, by rw [if_neg (by omega)]⟩
          case measure => simp [intOf]; omega
      · rw [if_neg (by omega)]
        go_wp2
        go_returns
        exact ⟨rfl, hb1⟩

end Go.Proofs.Ytgffibonikcecaa
