/-
  Texts that lines.Check finds right: put together, and cut at what is no tail.
-/
import Derived.Test.YtnabbahdmajfpaaGreatDoorLCheck
import Derived.Test.YtnabbahdmajfpaaGreatDoorUb
namespace Go.Proofs.YtnabbahdmajfpaaGreatDoor
set_option linter.unusedVariables false

/-- each character is one, and no control -/
def goodT (s : ByteArray) : Prop := ∀ p ∈ chars s 0, ¬ (p.2 = 65533 ∧ (Utf8.decode s p.1).2 = 1) ∧ ctrlB (p.2 : Int) = false
theorem chk_goodI (s : ByteArray) : ∀ (l : List (Nat × Nat)) (k : Nat), k + l.length ≤ 4096 → (∀ p ∈ l, ¬ (p.2 = 65533 ∧ (Utf8.decode s p.1).2 = 1) ∧ ctrlB (p.2 : Int) = false) → chk s k l = (0, 0)
  | [], _, _, _ => rfl
  | (i, r) :: l, k, hk, h => by
    have h1 := h (i, r) (by simp)
    rw [List.length_cons] at hk
    rw [chk, if_neg (by omega), if_neg h1.1, if_neg (by rw [h1.2]; decide)]
    exact chk_goodI s l (k + 1) (by omega) (fun p hp => h p (by simp [hp]))
theorem chk_invI (s : ByteArray) : ∀ (l : List (Nat × Nat)) (k : Nat), k ≤ 4096 → (chk s k l).2 = 0 → k + l.length ≤ 4096 ∧ ∀ p ∈ l, ¬ (p.2 = 65533 ∧ (Utf8.decode s p.1).2 = 1) ∧ ctrlB (p.2 : Int) = false
  | [], k, hk, _ => ⟨by simpa using hk, fun p hp => (by cases hp)⟩
  | (i, r) :: l, k, hk, h => by
    rw [chk] at h
    by_cases h1 : k = 4096
    · rw [if_pos h1] at h; cases h
    · rw [if_neg h1] at h
      by_cases h2 : r = 65533 ∧ (Utf8.decode s i).2 = 1
      · rw [if_pos h2] at h; cases h
      · rw [if_neg h2] at h
        by_cases h3 : ctrlB (r : Int) = true
        · rw [if_pos h3] at h; cases h
        · rw [if_neg h3] at h
          obtain ⟨a, b⟩ := chk_invI s l (k + 1) (by omega) h
          refine ⟨by rw [List.length_cons]; omega, fun p hp => ?_⟩
          rcases List.mem_cons.1 hp with rfl | hp
          · exact ⟨h2, by simpa using h3⟩
          · exact b p hp
theorem chkS_good {s : ByteArray} (h : goodT s) (hl : (chars s 0).length ≤ 4096) : chkS s = (0, 0) := chk_goodI s _ 0 (by omega) h
theorem chkS_inv {s : ByteArray} (h : (chkS s).2 = 0) : goodT s ∧ (chars s 0).length ≤ 4096 := by
  obtain ⟨a, b⟩ := chk_invI s _ 0 (by omega) h
  exact ⟨b, by omega⟩
theorem chars_appI {s t : ByteArray} (hb : t.size = 0 ∨ ¬ bN t 0 / 64 = 2) : chars (s ++ t) 0 = chars s 0 ++ (chars t 0).map fun p => (s.size + p.1, p.2) :=
  chars_left s t (.inr hb) s.size 0 (by omega) (by omega) (fun _ h => h)
theorem chars_ltI (s : ByteArray) : ∀ (k i : Nat), s.size - i ≤ k → ∀ p ∈ chars s i, i ≤ p.1 ∧ p.1 < s.size := by
  intro k
  induction k with
  | zero => intro i h p hp; rw [chars_end s i (by omega)] at hp; cases hp
  | succ k ih =>
    intro i h p hp
    by_cases hi : i < s.size
    · have hb := dec_bounds s i hi
      rw [chars_step s i hi] at hp
      rcases List.mem_cons.1 hp with rfl | hp
      · exact ⟨Nat.le_refl _, hi⟩
      · have := ih _ (by omega) p hp
        exact ⟨by omega, this.2⟩
    · rw [chars_end s i hi] at hp; cases hp
theorem goodT_app {s t : ByteArray} (hs : goodT s) (ht : goodT t) (hb : t.size = 0 ∨ ¬ bN t 0 / 64 = 2) : goodT (s ++ t) := by
  intro p hp
  rw [chars_appI hb] at hp
  rcases List.mem_append.1 hp with hp | hp
  · have := chars_ltI s s.size 0 (by omega) p hp
    rw [dec_left s t p.1 this.2 (.inr hb)]
    exact hs p hp
  · obtain ⟨q, hq, rfl⟩ := List.mem_map.1 hp
    have := chars_ltI t t.size 0 (by omega) q hq
    show ¬ (q.2 = 65533 ∧ (Utf8.decode (s ++ t) (s.size + q.1)).2 = 1) ∧ _
    rw [dec_right s t q.1 this.2]
    exact ht q hq
theorem goodT_parts {s t : ByteArray} (h : goodT (s ++ t)) (hb : t.size = 0 ∨ ¬ bN t 0 / 64 = 2) : goodT s ∧ goodT t := by
  constructor
  · intro p hp
    have := chars_ltI s s.size 0 (by omega) p hp
    have h1 := h p (by rw [chars_appI hb]; exact List.mem_append_left _ hp)
    rw [dec_left s t p.1 this.2 (.inr hb)] at h1
    exact h1
  · intro q hq
    have := chars_ltI t t.size 0 (by omega) q hq
    have h1 := h (s.size + q.1, q.2) (by rw [chars_appI hb]; exact List.mem_append_right _ (List.mem_map_of_mem hq))
    simp only at h1
    rw [dec_right s t q.1 this.2] at h1
    exact h1
theorem chars_len_appI {s t : ByteArray} (hb : t.size = 0 ∨ ¬ bN t 0 / 64 = 2) : (chars (s ++ t) 0).length = (chars s 0).length + (chars t 0).length := by
  rw [chars_appI hb, List.length_append, List.length_map]
theorem chars_len_leI (s : ByteArray) : ∀ (k i : Nat), s.size - i ≤ k → (chars s i).length ≤ s.size - i := by
  intro k
  induction k with
  | zero => intro i h; rw [chars_end s i (by omega)]; simp
  | succ k ih =>
    intro i h
    by_cases hi : i < s.size
    · have hb := dec_bounds s i hi
      rw [chars_step s i hi, List.length_cons]
      have := ih (i + (Utf8.decode s i).2) (by omega)
      omega
    · rw [chars_end s i hi]; simp
end Go.Proofs.YtnabbahdmajfpaaGreatDoor
