/-
  The pieces of a text, one behind the other, are the text; and what of a character UtfLost asks.
-/
import Derived.Test.YtgffibonikcecabPartsMath
import Derived.Test.YtgffibonikcecabStart
namespace Go.Proofs.Ytgffibonikcecab
open Go.RowKit Go.PlainAid Go.Lib

/-- the bytes of the pieces that begin at l -/
def joinP (s : ByteArray) : List Nat → ByteArray
  | [] => ByteArray.empty
  | i :: l => s.extract i (pieceEnd s i) ++ joinP s l
theorem joinP_snoc (s : ByteArray) (l : List Nat) (i : Nat) : joinP s (l ++ [i]) = joinP s l ++ s.extract i (pieceEnd s i) := by
  induction l with
  | nil => simp [joinP]
  | cons a l ih => simp only [List.cons_append, joinP, ih, ByteArray.append_assoc]
theorem extract_two (s : ByteArray) (a b : Nat) (h1 : a ≤ b) (h2 : b ≤ s.size) : s.extract a b ++ s.extract b s.size = s.extract a s.size := by
  apply ByteArray.ext
  simp only [ByteArray.data_append, ByteArray.data_extract]
  rw [Array.extract_append_extract]
  congr 1
  · omega
  · show max b s.size = s.size
    omega
theorem joinP_pcs (s : ByteArray) : ∀ (k i e : Nat), s.size - i ≤ k → i ≤ s.size → i ≤ e → e ≤ s.size → (∀ j, i ≤ j → j < e → tailB (bt s j) = true) →
    joinP s (pcs s e ((chars s i).map (·.1))) = s.extract e s.size := by
  intro k
  induction k with
  | zero =>
    intro i e h h0 h1 h2 _
    obtain rfl : e = s.size := by omega
    rw [chars_end s i (by omega)]
    apply ByteArray.ext
    simp [pcs, joinP]
  | succ k ih =>
    intro i e h h0 h1 h2 ht
    by_cases hi : i < s.size
    · have hb := dec_bounds s i hi
      rw [chars_step s i hi, List.map_cons]
      by_cases hie : i < e
      · have hd := dec_tail s i hi (ht i (Nat.le_refl _) hie)
        have hd2 : (Utf8.decode s i).2 = 1 := by rw [hd]
        show joinP s (pcs s e (i :: _)) = _
        unfold pcs
        rw [if_pos hie]
        exact ih _ e (by omega) (by omega) (by omega) h2 (fun j h3 h4 => ht j (by omega) h4)
      · obtain rfl : i = e := by omega
        have hpe := pieceEnd_le s i hi
        show joinP s (pcs s i (i :: _)) = _
        unfold pcs
        rw [if_neg hie]
        show s.extract i (pieceEnd s i) ++ joinP s (pcs s (pieceEnd s i) _) = _
        rw [ih _ (pieceEnd s i) (by omega) (by omega) ?_ hpe.2 ?_]
        · exact extract_two s i _ (by omega) hpe.2
        · unfold pieceEnd
          split
          · exact Nat.le_refl _
          · rename_i hw
            rcases dec_why s i hi with ⟨h5, _⟩ | ⟨_, h5⟩
            · exact absurd h5 hw
            · rw [h5]
              have := partN_le (s.extract i s.size) (by rw [extract_size]; omega)
              show i + 1 ≤ _
              omega
        · intro j h3 h4
          unfold pieceEnd at h4
          split at h4
          · omega
          · rename_i hw
            exact part_tails s i j (by omega) h4
    · obtain rfl : e = s.size := by omega
      rw [chars_end s i hi]
      apply ByteArray.ext
      simp [pcs, joinP]
/-- THE PIECES ARE THE TEXT -/
theorem joinP_all (s : ByteArray) : joinP s (pieces s) = s := by
  have := joinP_pcs s s.size 0 0 (by omega) (Nat.zero_le _) (Nat.le_refl _) (Nat.zero_le _) (fun j _ h => by omega)
  rw [extract_whole] at this
  exact this
theorem joinP_size (s : ByteArray) (l : List Nat) : (joinP s l).size ≤ l.length * s.size := by
  induction l with
  | nil => simp [joinP]
  | cons a l ih =>
    simp only [joinP, ByteArray.size_append, List.length_cons]
    have : (s.extract a (pieceEnd s a)).size ≤ s.size := by simp [ByteArray.size_extract]; omega
    rw [Nat.add_mul, Nat.one_mul]; omega

/-- a right character's width is that of its number; a wrong byte is FFFD, one byte wide -/
theorem width_says (s : ByteArray) (i : Nat) (hi : i < s.size) :
    (why s i = 0 ∧ widthN ((Utf8.decode s i).1 : Nat) = ((Utf8.decode s i).2 : Nat)) ∨ (why s i ≠ 0 ∧ (Utf8.decode s i).2 = 1 ∧ (Utf8.decode s i).1 = 65533) := by
  rcases dec_why s i hi with ⟨h1, x, n, h2, h3, h4, _⟩ | ⟨h1, h2⟩
  · left
    refine ⟨h1, ?_⟩
    rw [h2]
    show widthN (x : Nat) = (n : Nat)
    unfold widthN
    rw [if_pos h3, h4]
  · right
    rw [h2]; exact ⟨h1, rfl, rfl⟩

end Go.Proofs.Ytgffibonikcecab
