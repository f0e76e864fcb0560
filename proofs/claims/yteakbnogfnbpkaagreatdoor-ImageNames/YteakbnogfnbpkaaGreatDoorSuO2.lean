/-
  Open.
-/
import Derived.Test.YteakbnogfnbpkaaGreatDoorSuO
namespace Go.Proofs.YteakbnogfnbpkaaGreatDoor
open Go.RowKit Go.PlainAid Go.Lib Go.SuM
set_option linter.unusedVariables false
set_option linter.unusedSimpArgs false
theorem open_short (s : ByteArray) (hs : s.size < 4) (w : World) : Calls Tryz.prog 47 #[.string s] w fun e w' => e = .returned (.tuple #[.string ⟨#[]⟩, .int .i64 120]) ∧ w' = w := by
  go_enter Tryz.func47, Tryz.ntmps47
  go_wp2
  go_ret2
  exact ⟨rfl, rfl⟩
theorem below_drewN (B : Nat) (w : World) (n : Nat) : Below B w (w.drewN n) := ⟨rfl, rfl, rfl, Nat.le_refl _, fun k _ => rfl⟩
/-- is it sealed? -/
def sealedB (l : List UInt8) : Bool := decide (sealL (l.take (l.length - 4)) = l)
theorem LS_extract (s : ByteArray) (a b : Nat) : LS (s.extract a b) = ((LS s).take b).drop a := by
  unfold LS
  rw [ByteArray.data_extract, Array.toList_extract, List.extract_eq_take_drop, List.drop_take]
theorem sealed_iff {s : ByteArray} (h4 : ¬ s.size < 4) : sealedB (LS s) = true ↔ BA (le 4 (more 0 (LS (s.extract 0 (s.size - 4))))) = s.extract (s.size - 4) s.size := by
  have e0 : LS (s.extract 0 (s.size - 4)) = (LS s).take (s.size - 4) := by rw [LS_extract, List.drop_zero]
  have e1 : LS (s.extract (s.size - 4) s.size) = (LS s).drop (s.size - 4) := by rw [LS_extract, take_all]
  rw [e0]
  unfold sealedB
  rw [decide_eq_true_iff, LS_len]
  unfold sealL
  constructor
  · intro h
    rw [← BA_LS (s.extract (s.size - 4) s.size), e1]
    congr 1
    have h2 := congrArg (List.drop (s.size - 4)) h
    rw [List.drop_left' (by rw [List.length_take, LS_len]; omega)] at h2
    exact h2
  · intro h
    have h2 := congrArg LS h
    rw [LS_BA, e1] at h2
    rw [h2, List.take_append_drop]
theorem tol_true {a b : ByteArray} (h : a = b) : (a.toList == b.toList) = true := by subst h; simp
theorem tol_false {a b : ByteArray} (h : a ≠ b) : (a.toList == b.toList) = false := by
  rw [beq_eq_false_iff_ne]
  intro e
  apply h
  rw [ByteArray.toList_eq, ByteArray.toList_eq] at e
  cases a; cases b
  simpa using e
set_option maxHeartbeats 1000000 in
theorem open_yes (s : ByteArray) (hs4 : ¬ s.size < 4) (hs : s.size ≤ maxLen) (hy : sealedB (LS s) = true) (w : World) (hf : FoursAt w) : Calls Tryz.prog 47 #[.string s] w fun e w' => e = .returned (.tuple #[.string (s.extract 0 (s.size - 4)), .int .i64 0]) ∧ Below w.heap.size w w' := by
  unfold maxLen at hs
  have hn : ¬ ((s.size : Int) < 4) := by omega
  have hq := tol_true ((sealed_iff hs4).1 hy)
  have HM : Hid (∀ n, Calls Tryz.prog 88 #[.string (s.extract 0 (s.size - 4))] (w.drewN n) fun e w' => e = .returned (.string (BA (le 4 (more 0 (LS (s.extract 0 (s.size - 4))))))) ∧ Below w.heap.size w w') := fun n => by
    refine (sum_any (s.extract 0 (s.size - 4)) (by rw [ByteArray.size_extract]; unfold maxLen; omega) (w.drewN n) (hf.below (below_drewN _ _ _))).mono ?_
    rintro e w' ⟨rfl, hb⟩
    exact ⟨rfl, (below_drewN _ _ _).trans (hb.mono (Nat.le_refl _))⟩
  generalize BA (le 4 (more 0 (LS (s.extract 0 (s.size - 4))))) = u at *
  clear hf hy
  go_enter Tryz.func47, Tryz.ntmps47
  go_wp2
  go_quiet (fail)
  go_wp2_with (go_at_call 88; with_reducible refine (unhide HM _).mono ?_; rintro e w1 ⟨rfl, hb⟩)
  go_ret2
  exact ⟨rfl, hb⟩
set_option maxHeartbeats 1000000 in
theorem open_no (s : ByteArray) (hs4 : ¬ s.size < 4) (hs : s.size ≤ maxLen) (hy : sealedB (LS s) = false) (w : World) (hf : FoursAt w) : Calls Tryz.prog 47 #[.string s] w fun e w' => e = .returned (.tuple #[.string ⟨#[]⟩, .int .i64 121]) ∧ Below w.heap.size w w' := by
  unfold maxLen at hs
  have hn : ¬ ((s.size : Int) < 4) := by omega
  have hq := tol_false (fun h => by have := (sealed_iff hs4).2 h; rw [hy] at this; cases this)
  have HM : Hid (∀ n, Calls Tryz.prog 88 #[.string (s.extract 0 (s.size - 4))] (w.drewN n) fun e w' => e = .returned (.string (BA (le 4 (more 0 (LS (s.extract 0 (s.size - 4))))))) ∧ Below w.heap.size w w') := fun n => by
    refine (sum_any (s.extract 0 (s.size - 4)) (by rw [ByteArray.size_extract]; unfold maxLen; omega) (w.drewN n) (hf.below (below_drewN _ _ _))).mono ?_
    rintro e w' ⟨rfl, hb⟩
    exact ⟨rfl, (below_drewN _ _ _).trans (hb.mono (Nat.le_refl _))⟩
  generalize BA (le 4 (more 0 (LS (s.extract 0 (s.size - 4))))) = u at *
  clear hf hy
  go_enter Tryz.func47, Tryz.ntmps47
  go_wp2
  go_quiet (fail)
  go_wp2_with (go_at_call 88; with_reducible refine (unhide HM _).mono ?_; rintro e w1 ⟨rfl, hb⟩)
  go_ret2
  exact ⟨rfl, hb⟩
end Go.Proofs.YteakbnogfnbpkaaGreatDoor
