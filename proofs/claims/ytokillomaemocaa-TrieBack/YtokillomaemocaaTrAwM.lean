/-
  The trie of one span within the second block: two unlike low blocks, two unlike middle ones.
-/
import Derived.Test.YtokillomaemocaaTrQf
namespace Go.TrM
set_option linter.unusedVariables false
section
variable {α : Type}
/-- the values: x but for y from 65 to 90 -/
def oneV (x y : α) : List α := List.replicate 65 x ++ List.replicate 26 y ++ List.replicate 1114021 x
theorem oneV_len (x y : α) : (oneV x y).length = 1114112 := by unfold oneV; simp only [List.length_append, List.length_replicate]
theorem oneV_cut (x y : α) : oneV x y = (List.replicate 65 x ++ List.replicate 26 y ++ List.replicate 37 x) ++ List.replicate (64 * 17406) x := by
  unfold oneV
  rw [List.append_assoc _ (List.replicate 37 x), List.replicate_append_replicate]
end
section
variable {α : Type} [DecidableEq α]
theorem lows_whole (vs : List α) : lowsV vs = whole vs := rfl
theorem mids_whole (vs : List α) : midsV vs = whole (lowsV vs).2 := rfl
theorem two_blocks {x y : α} (h : x ≠ y) : whole (List.replicate 65 x ++ List.replicate 26 y ++ List.replicate 37 x) = ([List.replicate 64 x, [x] ++ List.replicate 26 y ++ List.replicate 37 x], [0, 1]) := by
  have e : cutN 2 (List.replicate 65 x ++ List.replicate 26 y ++ List.replicate 37 x) = [List.replicate 64 x, [x] ++ List.replicate 26 y ++ List.replicate 37 x] := rfl
  have hl : (List.replicate 65 x ++ List.replicate 26 y ++ List.replicate 37 x).length / 64 = 2 := by simp only [List.length_append, List.length_replicate]
  have hne : ¬ ([x] ++ List.replicate 26 y ++ List.replicate 37 x = List.replicate 64 x) := by
    intro q
    have := congrArg (fun l => l[1]?) q
    simp [List.replicate] at this
    exact h this.symm
  unfold whole
  rw [hl, e]
  generalize List.replicate 64 x = a at *
  generalize [x] ++ List.replicate 26 y ++ List.replicate 37 x = b at *
  have n1 : ¬ b ∈ [a] := by simpa using hne
  simp only [numL]
  rw [numS_no (List.not_mem_nil), List.nil_append, numS_no n1]
  rfl
theorem lows_one {x y : α} (h : x ≠ y) : lowsV (oneV x y) = ([List.replicate 64 x, [x] ++ List.replicate 26 y ++ List.replicate 37 x], [0, 1] ++ List.replicate 17406 0) := by
  rw [lows_whole, oneV_cut]
  have := (put_many (vs := List.replicate 65 x ++ List.replicate 26 y ++ List.replicate 37 x) (x := x) (n := 17406) (by simp only [List.length_append, List.length_replicate]) (by omega)).1
  rw [this, two_blocks h]
  simp only
  rw [numS_yes (List.mem_cons_self)]
  simp only [List.idxOf_cons_self]
theorem mids_one {x y : α} (h : x ≠ y) : (midsV (oneV x y)).1 = [[0, 1] ++ List.replicate 62 0, List.replicate 64 0] := by
  rw [mids_whole, lows_one h]
  have e : ([0, 1] ++ List.replicate 17406 0 : List Nat) = ([0, 1] ++ List.replicate 62 0) ++ List.replicate (64 * 271) 0 := by
    rw [List.append_assoc, List.replicate_append_replicate]
  simp only
  rw [e]
  have := (put_many (vs := ([0, 1] ++ List.replicate 62 0 : List Nat)) (x := 0) (n := 271) (by simp only [List.length_append, List.length_replicate, List.length_cons, List.length_nil]) (by omega)).1
  rw [this]
  have e2 : (whole ([0, 1] ++ List.replicate 62 0 : List Nat)).1 = [[0, 1] ++ List.replicate 62 0] := by decide
  rw [e2]
  have n1 : ¬ (List.replicate 64 0 : List Nat) ∈ [[0, 1] ++ List.replicate 62 0] := by decide
  rw [numS_no n1]
  rfl
end
end Go.TrM
