/-
  Plain facts on what a text stands for by parts.
-/
import Derived.Test.YtjkchpjopgpeeaaParts
import Derived.Test.YtjkchpjopgpeeaaMend
namespace Go.Proofs.Ytjkchpjopgpeeaa
open Go.RowKit Go.PlainAid Go.Lib Go.Shelf

theorem dec_tail (s : ByteArray) (i : Nat) (hi : i < s.size) (h : tailB (bt s i) = true) : Utf8.decode s i = (65533, 1) := by
  rw [bt_bN] at h
  have := (tailB_nat _).1 h
  rw [decode_decB s i hi]
  unfold decB
  rw [if_neg (by omega), if_neg (by omega), if_neg (by omega), if_neg (by omega)]
theorem goOn_tail (a b : Int) (h : goOnB a b = true) : tailB b = true := by
  unfold goOnB at h
  unfold tailB at *
  revert h
  (repeat' split) <;> simp <;> omega
theorem partGo_tails (t : ByteArray) (n : Int) : ∀ f i k, i ≤ k → k < partGo t n f i → tailB (bt t k) = true := by
  intro f
  induction f with
  | zero => intro i k h1 h2; simp [partGo] at h2; omega
  | succ f ih =>
    intro i k h1 h2
    unfold partGo at h2
    split at h2
    · rename_i hc
      by_cases e : i = k
      · subst e; exact hc.2.2
      · exact ih (i + 1) k (by omega) h2
    · omega
theorem part_tail (t : ByteArray) (k : Nat) (h1 : 1 ≤ k) (h2 : k < partN t) : tailB (bt t k) = true := by
  unfold partN at h2
  split at h2
  · rename_i hc
    by_cases e : k = 1
    · subst e; exact goOn_tail _ _ hc.2
    · exact partGo_tails t _ 2 2 k (by omega) h2
  · omega
theorem part_tails (s : ByteArray) (j i : Nat) (h1 : j < i) (h2 : i < j + partN (s.extract j s.size)) : tailB (bt s i) = true := by
  have := part_tail (s.extract j s.size) (i - j) (by omega) (by omega)
  rw [bt_extract, show j + (i - j) = i by omega] at this
  exact this

/-- what is no FFFD -/
def fil (l : List Nat) : List Nat := l.filter fun x => decide (x ≠ 65533)
theorem fil_nil : fil [] = [] := rfl
theorem fil_skip (x : Nat) (l : List Nat) (h : x = 65533) : fil (x :: l) = fil l := by simp [fil, h]
theorem fil_take (x : Nat) (l : List Nat) (h : x ≠ 65533) : fil (x :: l) = x :: fil l := by simp [fil, h]
/-- the characters at the places l -/
def runesAt (s : ByteArray) (l : List Nat) : List Nat := l.map fun i => (Utf8.decode s i).1
theorem runesAt_cons (s : ByteArray) (i : Nat) (l : List Nat) : runesAt s (i :: l) = (Utf8.decode s i).1 :: runesAt s l := rfl

theorem fil_pcs (s : ByteArray) : ∀ (k i e : Nat), s.size - i ≤ k → (∀ j, i ≤ j → j < e → j < s.size → tailB (bt s j) = true) →
    fil (runesAt s (pcs s e ((chars s i).map (·.1)))) = fil (runesAt s ((chars s i).map (·.1))) := by
  intro k
  induction k with
  | zero => intro i e h _; rw [chars_end s i (by omega)]; rfl
  | succ k ih =>
    intro i e h ht
    by_cases hi : i < s.size
    · have hb := dec_bounds s i hi
      rw [chars_step s i hi, List.map_cons]
      simp only [pcs]
      by_cases hie : i < e
      · rw [if_pos hie]
        have hd := dec_tail s i hi (ht i (Nat.le_refl _) hie hi)
        rw [runesAt_cons, fil_skip _ _ (by rw [hd])]
        exact ih _ e (by omega) (fun j h1 h2 h3 => ht j (by omega) h2 h3)
      · rw [if_neg hie, runesAt_cons, runesAt_cons]
        have hrec := ih (i + (Utf8.decode s i).2) (pieceEnd s i) (by omega) (by
          intro j h1 h2 h3
          unfold pieceEnd at h2
          split at h2
          · omega
          · exact part_tails s i j (by omega) h2)
        by_cases hf : (Utf8.decode s i).1 = 65533
        · rw [fil_skip _ _ hf, fil_skip _ _ hf]; exact hrec
        · rw [fil_take _ _ hf, fil_take _ _ hf, hrec]
    · rw [chars_end s i hi]; rfl

theorem pcs_right (s : ByteArray) : ∀ (k i e : Nat), s.size - i ≤ k → e ≤ i → (∀ j ∈ (chars s i).map (·.1), why s j = 0) → pcs s e ((chars s i).map (·.1)) = (chars s i).map (·.1) := by
  intro k
  induction k with
  | zero => intro i e h _ _; rw [chars_end s i (by omega)]; rfl
  | succ k ih =>
    intro i e h he hr
    by_cases hi : i < s.size
    · have hb := dec_bounds s i hi
      rw [chars_step s i hi, List.map_cons] at hr ⊢
      simp only [pcs]
      rw [if_neg (by omega)]
      have h0 : why s i = 0 := hr i (by simp)
      have hpe : pieceEnd s i = i + (Utf8.decode s i).2 := by unfold pieceEnd; rw [if_pos h0]
      rw [hpe, ih _ _ (by omega) (Nat.le_refl _) (fun j hj => hr j (List.mem_cons_of_mem _ hj))]
    · rw [chars_end s i hi]; rfl

theorem chars_snd (s : ByteArray) : ∀ (k i : Nat), s.size - i ≤ k → (chars s i).map (·.2) = runesAt s ((chars s i).map (·.1)) := by
  intro k
  induction k with
  | zero => intro i h; rw [chars_end s i (by omega)]; rfl
  | succ k ih =>
    intro i h
    by_cases hi : i < s.size
    · have hb := dec_bounds s i hi
      rw [chars_step s i hi, List.map_cons, List.map_cons, runesAt_cons, ih _ (by omega)]
    · rw [chars_end s i hi]; rfl

/-- a part at a wrong byte has three bytes at most -/
theorem part_three (t : ByteArray) (h : 0 < t.size) (hw : whyN t ≠ 0) : partN t ≤ 3 := by
  refine Decidable.byContradiction fun h4 => ?_
  have hle := partN_le t h
  have e4 : partN t = 4 := by omega
  have t1 := (tailB_nat _).1 (by rw [← bt_bN]; exact part_tail t 1 (by omega) (by omega))
  have t2 := (tailB_nat _).1 (by rw [← bt_bN]; exact part_tail t 2 (by omega) (by omega))
  have t3 := (tailB_nat _).1 (by rw [← bt_bN]; exact part_tail t 3 (by omega) (by omega))
  have hp := e4
  unfold partN at hp
  split at hp
  · rename_i hc
    obtain ⟨hs, hg⟩ := hc
    -- four bytes by the first one
    have hl : leadN (bt t 0) = 4 := by
      have := leadN_cases (bt t 0)
      rcases this with q | q | q | q | q <;> rw [q] at hp <;> simp [partGo] at hp <;> try exact q
      all_goals exfalso; revert hp; (repeat' split) <;> omega
    have hb0 : 240 ≤ bN t 0 ∧ bN t 0 < 248 := by
      rw [bt_bN] at hl
      unfold leadN at hl; revert hl; (repeat' split) <;> omega
    have hsz : 4 ≤ t.size := by omega
    have hw4 := why4 t hb0.1 hb0.2
    rw [if_neg (by omega), if_pos ((tailB_nat _).2 t1), if_neg (by omega), if_pos ((tailB_nat _).2 t2), if_neg (by omega), if_pos ((tailB_nat _).2 t3)] at hw4
    have hz := whyNo_zero (bN t 0 % 8 * 262144 + bN t 1 % 64 * 4096 + bN t 2 % 64 * 64 + bN t 3 % 64) 4 (.inr (.inr rfl)) ⟨fun e => by omega, fun e => by omega⟩
    rw [bt_bN, bt_bN] at hg
    have hx : 65536 ≤ bN t 0 % 8 * 262144 + bN t 1 % 64 * 4096 + bN t 2 % 64 * 64 + bN t 3 % 64 ∧ bN t 0 % 8 * 262144 + bN t 1 % 64 * 4096 + bN t 2 % 64 * 64 + bN t 3 % 64 ≤ 1114111 := by
      unfold goOnB at hg
      revert hg
      (repeat' split) <;> simp <;> omega
    refine hw ?_
    rw [hw4]
    refine hz.2 ⟨?_, ?_⟩
    · unfold scalarB halfB; simp; omega
    · unfold bytesN; (repeat' split) <;> omega
  · omega

/-- the piece of a right FFFD -/
theorem fffd_piece (s : ByteArray) (i : Nat) (hi : i < s.size) (h : (Utf8.decode s i).1 = 65533) :
    s.extract i (pieceEnd s i) = ⟨#[239, 191, 189]⟩ ∨ ((s.extract i (pieceEnd s i)).size = pieceEnd s i - i ∧ 1 ≤ pieceEnd s i - i ∧ pieceEnd s i - i ≤ 3) := by
  have hx := extract_size s i
  have hpe := pieceEnd_le s i hi
  have hb := dec_bounds s i hi
  have hsz : (s.extract i (pieceEnd s i)).size = pieceEnd s i - i := by simp [ByteArray.size_extract]; omega
  rcases dec_why s i hi with ⟨h0, x, n, h1, h2, h3, h4⟩ | ⟨h0, h1⟩
  · left
    rw [h1] at h
    have hx5 : x = 65533 := h
    subst hx5
    have hp : pieceEnd s i = i + n := by unfold pieceEnd; rw [if_pos h0, h1]
    rw [hp, enc_dec s i 65533 n hi h1 h2 h3 h4]
    decide +kernel
  · right
    refine ⟨hsz, by omega, ?_⟩
    have hp : pieceEnd s i = i + partN (s.extract i s.size) := by unfold pieceEnd; rw [if_neg h0]
    have := part_three (s.extract i s.size) (by omega) h0
    omega

end Go.Proofs.Ytjkchpjopgpeeaa
