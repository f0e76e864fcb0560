/-
  A row of values that grows: its whole blocks, the numbers of their places, and what is begun.
-/
import Derived.Test.YtokillomaemocaaTrM
namespace Go.TrM
set_option linter.unusedVariables false
section
variable {α : Type}
theorem cutN_front : ∀ (k : Nat) (l y : List α), 64 * k ≤ l.length → cutN k (l ++ y) = cutN k l := by
  intro k
  induction k with
  | zero => intro l y h; rfl
  | succ k ih =>
    intro l y h
    simp only [cutN]
    rw [List.take_append_of_le_length (by omega), List.drop_append_of_le_length (by omega), ih _ _ (by rw [List.length_drop]; omega)]
theorem cutN_last {k : Nat} {l : List α} (h : l.length = 64 * k + 64) : cutN (k + 1) l = cutN k l ++ [l.drop (64 * k)] := by
  have e := cutN_app k 1 (l.take (64 * k)) (l.drop (64 * k)) (by rw [List.length_take]; omega)
  rw [List.take_append_drop] at e
  have e2 : cutN k (l.take (64 * k)) = cutN k l := by
    have := cutN_front k (l.take (64 * k)) (l.drop (64 * k)) (by rw [List.length_take]; omega)
    rw [List.take_append_drop] at this
    exact this.symm
  rw [e, e2]
  simp only [cutN]
  rw [List.take_of_length_le (by rw [List.length_drop]; omega)]
theorem cutN_rep (x : α) : ∀ n : Nat, cutN n (List.replicate (64 * n) x) = List.replicate n (List.replicate 64 x) := by
  intro n
  induction n with
  | zero => rfl
  | succ n ih =>
    simp only [cutN, List.replicate_succ (n := n), List.take_replicate, List.drop_replicate]
    rw [show min 64 (64 * (n + 1)) = 64 by omega, show 64 * (n + 1) - 64 = 64 * n by omega, ih]
/-- what is begun of a row -/
def restB (vs : List α) : List α := vs.drop (64 * (vs.length / 64))
theorem restB_len (vs : List α) : (restB vs).length = vs.length % 64 := by unfold restB; rw [List.length_drop]; omega
end
section
variable {α : Type} [DecidableEq α]
/-- the whole blocks of a row, numbered, the numbers of their places, and what is begun -/
def whole (vs : List α) : List (List α) × List Nat := numL [] (cutN (vs.length / 64) vs)
theorem whole_len (vs : List α) : (whole vs).2.length = vs.length / 64 := by unfold whole; rw [numL_len, cutN_len]
theorem whole_le (vs : List α) : (whole vs).1.length ≤ vs.length / 64 := by
  have := numL_le (cutN (vs.length / 64) vs) []
  rw [cutN_len] at this
  unfold whole; simpa using this
theorem add_part {vs : List α} {x : α} (h : (vs.length + 1) % 64 ≠ 0) : whole (vs ++ [x]) = whole vs ∧ restB (vs ++ [x]) = restB vs ++ [x] := by
  unfold whole restB
  have e : (vs ++ [x]).length / 64 = vs.length / 64 := by rw [List.length_append, List.length_singleton]; omega
  rw [e, cutN_front _ _ _ (by omega), List.drop_append_of_le_length (by omega)]
  exact ⟨rfl, rfl⟩
theorem add_full {vs : List α} {x : α} (h : (vs.length + 1) % 64 = 0) : whole (vs ++ [x]) = ((numS (whole vs).1 (restB vs ++ [x])).1, (whole vs).2 ++ [(numS (whole vs).1 (restB vs ++ [x])).2]) ∧ restB (vs ++ [x]) = [] := by
  unfold whole restB
  have e : (vs ++ [x]).length / 64 = vs.length / 64 + 1 := by rw [List.length_append, List.length_singleton]; omega
  have e2 : (vs ++ [x]).length = 64 * (vs.length / 64) + 64 := by rw [List.length_append, List.length_singleton]; omega
  rw [e, cutN_last e2, cutN_front _ _ _ (by omega), numL_snoc, List.drop_append_of_le_length (by omega)]
  refine ⟨rfl, ?_⟩
  rw [List.drop_eq_nil_iff]
  omega
theorem put_many {vs : List α} {x : α} {n : Nat} (h : vs.length % 64 = 0) (hn : 0 < n) : whole (vs ++ List.replicate (64 * n) x) = ((numS (whole vs).1 (List.replicate 64 x)).1, (whole vs).2 ++ List.replicate n (numS (whole vs).1 (List.replicate 64 x)).2) ∧ restB (vs ++ List.replicate (64 * n) x) = [] := by
  unfold whole restB
  have e : (vs ++ List.replicate (64 * n) x).length / 64 = vs.length / 64 + n := by rw [List.length_append, List.length_replicate]; omega
  rw [e, cutN_app _ _ _ _ (by omega), cutN_rep, numL_app]
  obtain ⟨k, rfl⟩ : ∃ k, n = k + 1 := ⟨n - 1, by omega⟩
  refine ⟨?_, ?_⟩
  · generalize List.replicate 64 x = y
    simp only [List.replicate_succ, numL]
    have hm : y ∈ (numS (numL [] (cutN (vs.length / 64) vs)).1 y).1 := (numS_mem _ _ _).2 (.inr rfl)
    rw [numL_rep hm]
    refine Prod.ext rfl ?_
    simp only
    congr 3
    by_cases hb : y ∈ (numL [] (cutN (vs.length / 64) vs)).1
    · rw [numS_yes hb]
    · rw [numS_no hb]
      simp [List.idxOf_append, hb]
  · rw [List.drop_eq_nil_iff, List.length_append, List.length_replicate]
    omega
end
end Go.TrM
