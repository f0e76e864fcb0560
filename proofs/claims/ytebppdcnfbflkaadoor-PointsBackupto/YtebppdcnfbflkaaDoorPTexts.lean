/-
  PointsTexts, under way: both sides' answers in one form each.
-/
import Derived.Test.YtebppdcnfbflkaaDoorRShowSp
import Derived.Test.YtebppdcnfbflkaaDoorRSpan
import Derived.Test.YtebppdcnfbflkaaDoorPLives
namespace Go.Proofs.YtebppdcnfbflkaaDoor
open Go.RowKit Go.PlainAid Go.Lib Go.Shelf Go.PHexM
set_option linter.unusedVariables false

theorem hexV_form (l : List UInt8) : ∃ x e : Int, hexV l = .tuple #[.int .i32 x, .int .i64 e] := by
  unfold hexV
  cases hexP l with
  | none => exact ⟨_, _, rfl⟩
  | some n => exact ⟨_, _, rfl⟩
theorem spanV_form (l : List UInt8) : ∃ x y e : Int, spanV l = spanE x y e := by
  unfold spanV spanV2
  split
  · exact ⟨_, _, _, rfl⟩
  · split
    · exact ⟨_, _, _, rfl⟩
    · split
      · exact ⟨_, _, _, rfl⟩
      · exact ⟨_, _, _, rfl⟩
theorem show_both (r : Int) : ∃ (S : ByteArray) (e : Int),
    (∀ W, tz16At W → Calls Tryd.prog 7 #[.int .i32 r] W fun x w' => x = .returned (.tuple #[.string S, .int .i64 e]) ∧ Below W.heap.size W w') ∧
    (∀ W, Calls Tryd.prog 8 #[.int .i32 r] W fun x w' => x = .returned (.tuple #[.string S, .int .i64 e]) ∧ Below W.heap.size W w') := by
  by_cases h : r < 0 ∨ 1114111 < r
  · exact ⟨_, _, fun W _ => (show_no r h W).mono fun x w' ⟨e1, e2⟩ => ⟨e1, by rw [e2]; exact Below.refl _ _⟩, fun W => (refShow_no r h W).mono fun x w' ⟨e1, e2⟩ => ⟨e1, by rw [e2]; exact Below.refl _ _⟩⟩
  · obtain ⟨n, rfl⟩ : ∃ n : Nat, r = n := ⟨r.toNat, by omega⟩
    exact ⟨_, _, fun W hg => show_any n (by omega) W hg, fun W => refShow_any n (by omega) W⟩
theorem showSpan_both (lo hi : Int) : ∃ (S : ByteArray) (e : Int),
    (∀ W, tz16At W → Calls Tryd.prog 13 #[.agg #[.int .i32 lo, .int .i32 hi]] W fun x w' => x = .returned (.tuple #[.string S, .int .i64 e]) ∧ Below W.heap.size W w') ∧
    (∀ W, Calls Tryd.prog 14 #[.agg #[.int .i32 lo, .int .i32 hi]] W fun x w' => x = .returned (.tuple #[.string S, .int .i64 e]) ∧ Below W.heap.size W w') := by
  cases h : mayB lo hi with
  | false => exact ⟨_, _, fun W _ => showSpan_no lo hi h W, fun W => refShowSpan_no lo hi h W⟩
  | true =>
    obtain ⟨h1, h2, h3⟩ := mayB_iff.1 h
    obtain ⟨a, rfl⟩ : ∃ n : Nat, lo = n := ⟨lo.toNat, by omega⟩
    obtain ⟨b, rfl⟩ : ∃ n : Nat, hi = n := ⟨hi.toNat, by omega⟩
    exact ⟨_, _, fun W hg => showSpan_yes a b (by omega) (by omega) W hg, fun W => refShowSpan_yes a b (by omega) (by omega) W⟩
end Go.Proofs.YtebppdcnfbflkaaDoor
