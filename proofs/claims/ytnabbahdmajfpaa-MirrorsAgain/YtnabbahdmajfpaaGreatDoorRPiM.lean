/-
  Lines by the document's definition: where the next end stands, and what is left behind it.
-/
import Derived.Test.YtnabbahdmajfpaaGreatDoorLEach
namespace Go.Proofs.YtnabbahdmajfpaaGreatDoor
open Go.RowKit Go.PlainAid Go.Lib Go.Shelf
set_option linter.unusedVariables false

theorem nl_found (s : ByteArray) (a i : Nat) (h1 : a ≤ i) (h2 : i < s.size) (h3 : bN s i = 10) (h4 : ∀ j, a ≤ j → j < i → bN s j ≠ 10) : nlN s a = ((i - a : Nat) : Int) := by
  rcases nl_spec s a with ⟨_, k⟩ | ⟨n, k1, k2, k3, k4⟩
  · exact absurd h3 (k i h1 h2)
  · rw [k1]
    have : a + n = i := by
      rcases Nat.lt_trichotomy (a + n) i with h | h | h
      · exact absurd k3 (h4 _ (by omega) h)
      · exact h
      · exact absurd h3 (k4 i h1 h)
    have : n = i - a := by omega
    rw [this]
theorem nl_none (s : ByteArray) (a : Nat) (h4 : ∀ j, a ≤ j → j < s.size → bN s j ≠ 10) : nlN s a = -1 := by
  rcases nl_spec s a with ⟨k, _⟩ | ⟨n, k1, k2, k3, k4⟩
  · exact k
  · exact absurd k3 (h4 _ (by omega) k2)
/-- the lines from the place i on, the first one with the number no -/
def linesI (s : ByteArray) (no i : Nat) : List (Nat × Nat × Nat) := (extsI s no i).takeWhile fun x => x.2.1 != s.size
theorem linesI_end (s : ByteArray) (no : Nat) : linesI s no s.size = [] := by
  unfold linesI
  rw [extsI_step s no _ (Nat.le_refl _), List.takeWhile_cons]
  simp
theorem linesI_found (s : ByteArray) (no a i : Nat) (h1 : a ≤ i) (h2 : i < s.size) (h3 : bN s i = 10) (h4 : ∀ j, a ≤ j → j < i → bN s j ≠ 10) :
    linesI s no a = (no, a, endTo s a) :: linesI s (no + 1) (i + 1) ∧ endTo s a = (if a < i ∧ bN s (i - 1) = 13 then i - 1 else i) ∧ endNext s a = i + 1 := by
  have hn := nl_found s a i h1 h2 h3 h4
  have e1 : endNext s a = i + 1 := by
    unfold endNext; rw [hn, if_neg (by omega), Int.toNat_natCast]; omega
  have e2 : hasEnd s a = true := by unfold hasEnd; rw [hn]; exact decide_eq_true (by omega)
  refine ⟨?_, ?_, e1⟩
  · unfold linesI
    rw [extsI_step s no a (by omega), List.takeWhile_cons, if_pos (by simp; omega), e2, if_pos rfl, e1]
  · unfold endTo
    rw [hn, if_neg (by omega), Int.toNat_natCast, show a + (i - a) = i by omega]
    by_cases h : a < i ∧ bN s (i - 1) = 13
    · rw [if_pos ⟨by omega, h.2⟩, if_pos h]
    · rw [if_neg (fun k => h ⟨by omega, k.2⟩), if_neg h]
theorem linesI_last (s : ByteArray) (no a : Nat) (h2 : a < s.size) (h4 : ∀ j, a ≤ j → j < s.size → bN s j ≠ 10) :
    linesI s no a = [(no, a, s.size)] ∧ endNext s a = s.size := by
  have hn := nl_none s a h4
  refine ⟨?_, by unfold endNext; rw [hn]; rfl⟩
  have e2 : hasEnd s a = false := by unfold hasEnd; rw [hn]; rfl
  unfold linesI
  rw [extsI_step s no a (by omega), List.takeWhile_cons, if_pos (by simp; omega), e2]
  simp [endTo, hn]
theorem linesL_I (s : ByteArray) : linesI s 1 (markN s) = linesL s := rfl
/-- numbers of lines -/
theorem extsI_no (s : ByteArray) : ∀ (k no i : Nat), s.size - i ≤ k → i ≤ s.size → ∀ j x, (extsI s no i)[j]? = some x → x.1 = no + j := by
  intro k
  induction k with
  | zero =>
    intro no i hk hi j x hx
    have hb := end_bounds s i hi
    rw [extsI_step s no i hi] at hx
    cases j with
    | zero => simp at hx; rw [← hx]; rfl
    | succ j =>
      split at hx
      · rename_i he; have := hb.2.2.2.2.1 he; omega
      · simp at hx
  | succ k ih =>
    intro no i hk hi j x hx
    have hb := end_bounds s i hi
    rw [extsI_step s no i hi] at hx
    cases j with
    | zero => simp at hx; rw [← hx]; rfl
    | succ j =>
      split at hx
      · rename_i he
        have h5 := hb.2.2.2.2.1 he
        have := ih (no + 1) (endNext s i) (by omega) hb.2.2.2.1 j x (by simpa using hx)
        omega
      · simp at hx
theorem tw_get {α : Type} (p : α → Bool) : ∀ (l : List α) (j : Nat) (x : α), (l.takeWhile p)[j]? = some x → l[j]? = some x := by
  intro l
  induction l with
  | nil => intro j x h; simp at h
  | cons a l ih =>
    intro j x h
    rw [List.takeWhile_cons] at h
    split at h
    · cases j with
      | zero => simpa using h
      | succ j => simpa using ih j x (by simpa using h)
    · simp at h
theorem lines_no (s : ByteArray) (j : Nat) (x : Nat × Nat × Nat) (h : (linesL s)[j]? = some x) : x.1 = j + 1 := by
  have := extsI_no s _ 1 (markN s) (Nat.le_refl _) (mark_le s) j x (tw_get _ _ j x h)
  omega
theorem lines_mem (s : ByteArray) (x : Nat × Nat × Nat) (h : x ∈ linesL s) : x.2.1 ≤ x.2.2 ∧ x.2.2 ≤ s.size ∧ 1 ≤ x.1 ∧ x.1 ≤ s.size + 1 :=
  exts_mem s x ((List.takeWhile_sublist _).subset h)
theorem lines_len (s : ByteArray) : (linesL s).length ≤ s.size := by
  have h0 : ∀ (k no i : Nat), s.size - i ≤ k → i ≤ s.size → (linesI s no i).length ≤ s.size - i := by
    intro k
    induction k with
    | zero =>
      intro no i hk hi
      obtain rfl : i = s.size := by omega
      rw [linesI_end]; simp
    | succ k ih =>
      intro no i hk hi
      by_cases he : i = s.size
      · subst he; rw [linesI_end]; simp
      · unfold linesI
        rw [extsI_step s no i hi, List.takeWhile_cons, if_pos (by simpa using he)]
        have hb := end_bounds s i hi
        split
        · rename_i hh
          have h5 := hb.2.2.2.2.1 hh
          have := ih (no + 1) (endNext s i) (by omega) hb.2.2.2.1
          unfold linesI at this
          simp only [List.length_cons]; omega
        · simp; omega
  have := h0 _ 1 (markN s) (Nat.le_refl _) (mark_le s)
  rw [linesL_I] at this; omega

theorem mark_iff (s : ByteArray) : hasPrefix (L s) [239, 187, 191] = decide (3 ≤ s.size ∧ bN s 0 = 239 ∧ bN s 1 = 187 ∧ bN s 2 = 191) := by
  have hb : ∀ i (c : UInt8), i < s.size → ((L s)[i]? = some c ↔ bN s i = c.toNat) := by
    intro i c hi
    rw [L_at s i hi]
    unfold bN
    exact ⟨fun h => by rw [Option.some.inj h], fun h => by rw [UInt8.toNat.inj h]⟩
  rw [Bool.eq_iff_iff, decide_eq_true_eq]
  unfold hasPrefix
  rw [List.isPrefixOf_iff_prefix]
  constructor
  · rintro ⟨t, ht⟩
    have hl : 3 ≤ s.size := by rw [← L_len, ← ht]; simp
    refine ⟨hl, (hb 0 239 (by omega)).1 (by rw [← ht]; rfl), (hb 1 187 (by omega)).1 (by rw [← ht]; rfl), (hb 2 191 (by omega)).1 (by rw [← ht]; rfl)⟩
  · rintro ⟨hl, h0, h1, h2⟩
    refine ⟨(L s).drop 3, ?_⟩
    have k0 := (hb 0 239 (by omega)).2 h0
    have k1 := (hb 1 187 (by omega)).2 h1
    have k2 := (hb 2 191 (by omega)).2 h2
    generalize L s = l at *
    match l, k0, k1, k2 with
    | a :: b :: c :: r, k0, k1, k2 =>
      simp at k0 k1 k2
      rw [k0, k1, k2]; rfl
    | [], k0, _, _ => simp at k0
    | [a], _, k1, _ => simp at k1
    | [a, b], _, _, k2 => simp at k2
theorem markN_eq (s : ByteArray) : markN s = if 3 ≤ s.size ∧ bN s 0 = 239 ∧ bN s 1 = 187 ∧ bN s 2 = 191 then 3 else 0 := by
  unfold markN
  rw [mark_iff]
  simp only [decide_eq_true_eq]
end Go.Proofs.YtnabbahdmajfpaaGreatDoor
