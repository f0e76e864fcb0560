/-
  The lines of two texts, one behind the other, where the first ends with an end.
-/
import Derived.Test.YtnabbahdmajfpaaGreatDoorRPiM
namespace Go.Proofs.YtnabbahdmajfpaaGreatDoor
open Go.RowKit Go.PlainAid Go.Lib Go.Shelf
set_option linter.unusedVariables false

theorem app_size (a b : ByteArray) : (a ++ b).size = a.size + b.size := ByteArray.size_append
theorem L_app (a b : ByteArray) : L (a ++ b) = L a ++ L b := by
  simp [L, ByteArray.data_append]
theorem bN_lt_app (a b : ByteArray) (i : Nat) (h : i < a.size) : bN (a ++ b) i = bN a i := by
  have h1 := L_at (a ++ b) i (by rw [app_size]; omega)
  rw [L_app, List.getElem?_append_left (by rw [L_len]; exact h), L_at a i h] at h1
  unfold bN; rw [Option.some.inj h1]
theorem bN_ge_app (a b : ByteArray) (i : Nat) (h : i < b.size) : bN (a ++ b) (a.size + i) = bN b i := by
  have h1 := L_at (a ++ b) (a.size + i) (by rw [app_size]; omega)
  rw [L_app, List.getElem?_append_right (by rw [L_len]; omega), L_len, Nat.add_sub_cancel_left, L_at b i h] at h1
  unfold bN; rw [Option.some.inj h1]
theorem nl_first (a b : ByteArray) (i : Nat) (hi : i < a.size) (hl : bN a (a.size - 1) = 10) : nlN (a ++ b) i = nlN a i ∧ 0 ≤ nlN a i := by
  rcases nl_spec a i with ⟨_, h⟩ | ⟨n, h1, h2, h3, h4⟩
  · exact absurd hl (h _ (by omega) (by omega))
  · refine ⟨?_, by omega⟩
    rw [h1, nl_found (a ++ b) i (i + n) (by omega) (by rw [app_size]; omega) (by rw [bN_lt_app a b _ h2]; exact h3) (fun j g1 g2 => by rw [bN_lt_app a b j (by omega)]; exact h4 j g1 g2)]
    congr 1; omega
theorem nl_second (a b : ByteArray) (i : Nat) (hi : i ≤ b.size) : nlN (a ++ b) (a.size + i) = nlN b i := by
  rcases nl_spec b i with ⟨h1, h⟩ | ⟨n, h1, h2, h3, h4⟩
  · rw [h1]
    refine nl_none (a ++ b) _ (fun j g1 g2 => ?_)
    rw [app_size] at g2
    have := h (j - a.size) (by omega) (by omega)
    rw [← bN_ge_app a b (j - a.size) (by omega), show a.size + (j - a.size) = j by omega] at this
    exact this
  · rw [h1, nl_found (a ++ b) (a.size + i) (a.size + i + n) (by omega) (by rw [app_size]; omega) (by rw [show a.size + i + n = a.size + (i + n) by omega, bN_ge_app a b _ h2]; exact h3) (fun j g1 g2 => by
      have := h4 (j - a.size) (by omega) (by omega)
      rw [← bN_ge_app a b (j - a.size) (by omega), show a.size + (j - a.size) = j by omega] at this
      exact this)]
    congr 1; omega
theorem end_first (a b : ByteArray) (i : Nat) (hi : i < a.size) (hl : bN a (a.size - 1) = 10) : endTo (a ++ b) i = endTo a i ∧ endNext (a ++ b) i = endNext a i ∧ hasEnd (a ++ b) i = true ∧ hasEnd a i = true := by
  obtain ⟨h1, h2⟩ := nl_first a b i hi hl
  have hb := nl_spec a i
  unfold endTo endNext hasEnd
  rw [h1]
  have hn : ¬ nlN a i < 0 := by omega
  simp only [hn, if_false, h2, decide_true, and_true]
  rcases hb with ⟨k, _⟩ | ⟨n, k1, k2, k3, _⟩
  · omega
  · rw [k1]
    simp only [Int.toNat_natCast]
    by_cases hc : 0 < (n : Int)
    · rw [bN_lt_app a b (i + n - 1) (by omega)]
    · simp only [hc, false_and, if_false]
theorem end_second (a b : ByteArray) (i : Nat) (hi : i ≤ b.size) : endTo (a ++ b) (a.size + i) = a.size + endTo b i ∧ endNext (a ++ b) (a.size + i) = a.size + endNext b i ∧ hasEnd (a ++ b) (a.size + i) = hasEnd b i := by
  have h1 := nl_second a b i hi
  unfold endTo endNext hasEnd
  rw [h1, app_size]
  rcases nl_spec b i with ⟨k, _⟩ | ⟨n, k1, k2, k3, _⟩
  · rw [k]; simp
  · rw [k1]
    have hn : ¬ (n : Int) < 0 := by omega
    simp only [hn, if_false, Int.toNat_natCast]
    refine ⟨?_, by omega, trivial⟩
    by_cases hc : 0 < (n : Int)
    · have : bN (a ++ b) (a.size + i + n - 1) = bN b (i + n - 1) := by
        rw [show a.size + i + n - 1 = a.size + (i + n - 1) by omega, bN_ge_app a b _ (by omega)]
      rw [this]
      by_cases h13 : bN b (i + n - 1) = 13
      · rw [if_pos ⟨hc, h13⟩, if_pos ⟨hc, h13⟩]; omega
      · rw [if_neg (fun h => h13 h.2), if_neg (fun h => h13 h.2)]; omega
    · rw [if_neg (fun h => hc h.1), if_neg (fun h => hc h.1)]; omega
/-- a line of the second text, behind the first one -/
def shiftL (d k : Nat) (x : Nat × Nat × Nat) : Nat × Nat × Nat := (x.1 + d, k + x.2.1, k + x.2.2)
theorem lines_second (a b : ByteArray) : ∀ (k no i d : Nat), b.size - i ≤ k → i ≤ b.size → linesI (a ++ b) (no + d) (a.size + i) = (linesI b no i).map (shiftL d a.size) := by
  intro k
  induction k with
  | zero =>
    intro no i d hk hi
    obtain rfl : i = b.size := by omega
    have := linesI_end (a ++ b) (no + d)
    rw [app_size] at this
    rw [this, linesI_end]; rfl
  | succ k ih =>
    intro no i d hk hi
    by_cases he : i = b.size
    · subst he
      have := linesI_end (a ++ b) (no + d)
      rw [app_size] at this
      rw [this, linesI_end]; rfl
    · have h2 := end_second a b i hi
      have hb := end_bounds b i hi
      have l1 : linesI (a ++ b) (no + d) (a.size + i) = (no + d, a.size + i, endTo (a ++ b) (a.size + i)) :: (if hasEnd (a ++ b) (a.size + i) = true then linesI (a ++ b) (no + d + 1) (endNext (a ++ b) (a.size + i)) else []) := by
        unfold linesI
        rw [extsI_step (a ++ b) (no + d) _ (by rw [app_size]; omega), List.takeWhile_cons, if_pos (by rw [app_size]; simp; omega)]
        split <;> rfl
      have l2 : linesI b no i = (no, i, endTo b i) :: (if hasEnd b i = true then linesI b (no + 1) (endNext b i) else []) := by
        unfold linesI
        rw [extsI_step b no i hi, List.takeWhile_cons, if_pos (by simpa using he)]
        split <;> rfl
      rw [l1, l2, h2.1, h2.2.1, h2.2.2, List.map_cons]
      cases hh : hasEnd b i with
      | false => simp [shiftL]
      | true =>
        have h5 := hb.2.2.2.2.1 hh
        simp only [if_true]
        have := ih (no + 1) (endNext b i) d (by omega) hb.2.2.2.1
        rw [show no + 1 + d = no + d + 1 by omega] at this
        rw [this]; rfl
theorem lines_first (a b : ByteArray) (hl : bN a (a.size - 1) = 10) : ∀ (k no i : Nat), a.size - i ≤ k → i ≤ a.size → linesI (a ++ b) no i = linesI a no i ++ linesI (a ++ b) (no + (linesI a no i).length) a.size := by
  intro k
  induction k with
  | zero =>
    intro no i hk hi
    obtain rfl : i = a.size := by omega
    rw [linesI_end a]; simp
  | succ k ih =>
    intro no i hk hi
    by_cases he : i = a.size
    · subst he; rw [linesI_end a]; simp
    · have h2 := end_first a b i (by omega) hl
      have hb := end_bounds a i hi
      have h5 := hb.2.2.2.2.1 h2.2.2.2
      have l1 : linesI (a ++ b) no i = (no, i, endTo a i) :: linesI (a ++ b) (no + 1) (endNext a i) := by
        unfold linesI
        rw [extsI_step (a ++ b) no _ (by rw [app_size]; omega), List.takeWhile_cons, if_pos (by rw [app_size]; simp; omega), h2.1, h2.2.1, h2.2.2.1, if_pos rfl]
      have l2 : linesI a no i = (no, i, endTo a i) :: linesI a (no + 1) (endNext a i) := by
        unfold linesI
        rw [extsI_step a no i hi, List.takeWhile_cons, if_pos (by simpa using he), h2.2.2.2, if_pos rfl]
      rw [l1, l2, ih (no + 1) (endNext a i) (by omega) hb.2.2.2.1]
      simp [Nat.add_assoc, Nat.add_comm]
theorem mark_app (a b : ByteArray) (h0 : 0 < a.size) (hl : bN a (a.size - 1) = 10) : markN (a ++ b) = markN a := by
  rw [markN_eq, markN_eq, app_size]
  by_cases h3 : 3 ≤ a.size
  · rw [bN_lt_app a b 0 (by omega), bN_lt_app a b 1 (by omega), bN_lt_app a b 2 (by omega)]
    simp only [h3, show 3 ≤ a.size + b.size by omega]
  · rw [if_neg (c := 3 ≤ a.size ∧ _) (fun h => h3 h.1), if_neg]
    rintro ⟨_, k0, k1, k2⟩
    rw [bN_lt_app a b 0 (by omega)] at k0
    rcases (by omega : a.size = 1 ∨ a.size = 2) with h | h
    · rw [h] at hl; simp at hl; omega
    · rw [bN_lt_app a b 1 (by omega)] at k1
      rw [h] at hl; simp at hl; omega
/-- the lines of both -/
theorem lines_app (a b : ByteArray) (h0 : 0 < a.size) (hl : bN a (a.size - 1) = 10) (hm : markN b = 0) : linesL (a ++ b) = linesL a ++ (linesL b).map (shiftL (linesL a).length a.size) := by
  rw [← linesL_I, ← linesL_I a, ← linesL_I b, mark_app a b h0 hl, lines_first a b hl _ 1 (markN a) (Nat.le_refl _) (mark_le a), hm]
  have := lines_second a b _ 1 0 (linesI a 1 (markN a)).length (Nat.le_refl _) (Nat.zero_le _)
  rw [Nat.add_zero] at this
  rw [this]
end Go.Proofs.YtnabbahdmajfpaaGreatDoor
