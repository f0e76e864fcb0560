/-
  The document's named (furrowref03), for every text.
-/
import Derived.Test.YtlaennakglhmjaaGreatDoorRCut2
import Derived.Test.YtlaennakglhmjaaGreatDoorRCheck
namespace Go.Proofs.YtlaennakglhmjaaGreatDoor
open Go.RowKit Go.PlainAid Go.Lib Go.Shelf
set_option linter.unusedVariables false

theorem nameSign_iff (r : Int) : nameSignB r = true ↔ (65 ≤ r ∧ r ≤ 90) ∨ (97 ≤ r ∧ r ≤ 122) ∨ (48 ≤ r ∧ r ≤ 57) ∨ r = 95 ∨ r = 45 := by
  unfold nameSignB; simp [or_assoc]
theorem nameSign_no (r : Int) : nameSignB r = false ↔ ¬ ((65 ≤ r ∧ r ≤ 90) ∨ (97 ≤ r ∧ r ≤ 122) ∨ (48 ≤ r ∧ r ≤ 57) ∨ r = 95 ∨ r = 45) := by
  rw [← nameSign_iff]; simp
theorem named_some (s : ByteArray) (i : Nat) (hi : i < s.size) (h : nameSignB (bN s i : Int) = false) : namedB (L s) = false := by
  unfold namedB
  rw [Bool.and_eq_false_iff]
  left
  rw [List.all_eq_false]
  exact ⟨s.get! i, List.mem_of_getElem? (L_at s i hi), by rw [show ((s.get! i).toNat : Int) = (bN s i : Int) from rfl, h]; simp⟩
theorem named_all (s : ByteArray) (h : ∀ i, i < s.size → nameSignB (bN s i : Int) = true) : namedB (L s) = decide (0 < s.size) := by
  unfold namedB
  have : (L s).all (fun b => nameSignB (b.toNat : Int)) = true := by
    rw [List.all_eq_true]
    intro b hb
    obtain ⟨i, hi⟩ := List.mem_iff_getElem?.1 hb
    have hlt : i < s.size := by have := (List.getElem?_eq_some_iff.1 hi).1; rwa [L_len] at this
    rw [L_at s i hlt] at hi
    rw [← Option.some.inj hi]; exact h i hlt
  rw [this, Bool.true_and, Bool.eq_iff_iff]
  simp only [decide_eq_true_eq, ne_eq]
  rw [← L_len, List.length_pos_iff]

set_option maxRecDepth 100000 in
set_option maxHeartbeats 2000000 in
theorem refNamed_any (s : ByteArray) (w : World) (hs : s.size ≤ 1099511627776) :
    Calls Tryz.prog 39 #[.string s] w fun e w' => e = .returned (.bool (namedB (L s))) ∧ w = w' := by
  obtain ⟨A, hA⟩ : ∃ A, namedB (L s) = A := ⟨_, rfl⟩
  rw [hA]
  have HA := hide hA
  clear hA
  go_enter Tryz.func39, Tryz.ntmps39
  go_wp2
  go_loopw [3] (fun v3 wr => ∃ i : Nat, v3 = .int .i64 (i : Nat) ∧ i ≤ s.size ∧ Hid (∀ j, j < i → nameSignB (bN s j : Int) = true) ∧ w = wr) (fun v3 _ => s.size - (RowKit.intOf v3).toNat)
  case atStart => exact ⟨0, rfl, Nat.zero_le _, (by intro j hj; omega), rfl⟩
  case round =>
    obtain ⟨i, rfl, hi, HN, hw1⟩ := hrel
    subst hw1
    by_cases hlt : i < s.size
    · have hv : (s[i]'hlt).toNat = bN s i := by rw [bN, get_in s i hlt]
      cases hn : nameSignB (bN s i : Int) with
      | true =>
        have HN2 : Hid (∀ j, j < i + 1 → nameSignB (bN s j : Int) = true) := by
          intro j hj
          rcases Nat.lt_succ_iff_lt_or_eq.1 hj with h | h
          · exact HN.out j h
          · rw [h]; exact hn
        have hn' := (nameSign_iff _).1 hn
        clear hn
        generalize bN s i = b at *
        have HR : Hid (∀ w2 : World, w = w2 → (∃ k : Nat, Value.int .i64 ((i : Int) + 1) = .int .i64 (k : Nat) ∧ k ≤ s.size ∧ Hid (∀ j, j < k → nameSignB (bN s j : Int) = true) ∧ w = w2)) := fun w2 h => ⟨i + 1, by go_num, by omega, HN2, h⟩
        go_wp2
        all_goals first
          | (exfalso; simp only [beq_iff_eq, beq_eq_false_iff_ne, ne_eq, Bool.not_eq_true', Bool.not_eq_false'] at *; omega)
          | (go_roundw
             case rel => obtain ⟨k, x1, x2, x3, _⟩ := unhide HR _ rfl; exact ⟨k, x1, x2, x3, trivial⟩
             case measure => simp [RowKit.intOf]; omega)
      | false =>
        have HE : Hid (A = false) := (unhide HA).symm.trans (named_some s i hlt hn)
        have hn' := (nameSign_no _).1 hn
        clear hn
        generalize bN s i = b at *
        go_wp2
        all_goals first
          | (exfalso; simp only [decide_eq_true_eq, decide_eq_false_iff_not, beq_iff_eq, beq_eq_false_iff_ne, ne_eq, Bool.not_eq_true', Bool.not_eq_false'] at *; omega)
          | (go_ret
             exact ⟨by rw [HE.out]; rfl, rfl⟩)
    · obtain rfl : i = s.size := by omega
      have HE : Hid (A = decide (0 < s.size)) := (unhide HA).symm.trans (named_all s HN.out)
      go_wp2
      go_ret
      refine ⟨ret_bool ?_, rfl⟩
      rw [HE.out, toList_empty]
      rcases Nat.eq_zero_or_pos s.size with h | h
      · rw [decide_eq_true h, decide_eq_false (by omega)]; rfl
      · rw [decide_eq_false (by omega), decide_eq_true h]; rfl

end Go.Proofs.YtlaennakglhmjaaGreatDoor
