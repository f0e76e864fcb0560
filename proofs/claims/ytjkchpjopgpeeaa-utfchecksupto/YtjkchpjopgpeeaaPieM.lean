/-
  The parts of a text, one behind the other.
-/
import Derived.Test.YtjkchpjopgpeeaaPartsMath
namespace Go.Proofs.Ytjkchpjopgpeeaa
open Go.RowKit Go.PlainAid Go.Lib

def chainP (s : ByteArray) : Nat → Nat → List Nat
  | 0, _ => []
  | f + 1, i => if i < s.size then i :: chainP s f (pieceEnd s i) else []
theorem chain_end (s : ByteArray) (f i : Nat) (h : s.size ≤ i) : chainP s f i = [] := by
  cases f with
  | zero => rfl
  | succ f => unfold chainP; rw [if_neg (by omega)]
theorem chain_fuel (s : ByteArray) : ∀ (f f' i : Nat), s.size - i ≤ f → s.size - i ≤ f' → chainP s f i = chainP s f' i
  | 0, f', i, h, _ => by rw [chain_end s f' i (by omega)]; rfl
  | f + 1, 0, i, _, h => by rw [chain_end s (f + 1) i (by omega)]; rfl
  | f + 1, f' + 1, i, h, h' => by
    unfold chainP
    by_cases hi : i < s.size
    · rw [if_pos hi, if_pos hi]
      have := pieceEnd_le s i hi
      rw [chain_fuel s f f' (pieceEnd s i) (by omega) (by omega)]
    · rw [if_neg hi, if_neg hi]
/-- the parts from a place on -/
def fromP (s : ByteArray) (i : Nat) : List Nat := chainP s (s.size - i) i
theorem from_end (s : ByteArray) (i : Nat) (h : s.size ≤ i) : fromP s i = [] := chain_end s _ i h
theorem from_step (s : ByteArray) (i : Nat) (h : i < s.size) : fromP s i = i :: fromP s (pieceEnd s i) := by
  unfold fromP
  have hp := pieceEnd_le s i h
  obtain ⟨f, hf⟩ : ∃ f, s.size - i = f + 1 := ⟨s.size - i - 1, by omega⟩
  rw [hf]
  show (if i < s.size then i :: chainP s f (pieceEnd s i) else []) = _
  rw [if_pos h, chain_fuel s f (s.size - pieceEnd s i) (pieceEnd s i) (by omega) (Nat.le_refl _)]
theorem pcs_from (s : ByteArray) : ∀ (k i e : Nat), s.size - i ≤ k → i ≤ e → e ≤ s.size → (∀ j, i ≤ j → j < e → tailB (bt s j) = true) → pcs s e ((chars s i).map (·.1)) = fromP s e := by
  intro k
  induction k with
  | zero =>
    intro i e hk hie hes ht
    obtain rfl : e = s.size := by omega
    rw [from_end s _ (Nat.le_refl _), chars_end s i (by omega)]; rfl
  | succ k ih =>
    intro i e hk hie hes ht
    by_cases hi : i < s.size
    · have hb := dec_bounds s i hi
      rw [chars_step s i hi]
      simp only [List.map_cons]
      unfold pcs
      by_cases hlt : i < e
      · rw [if_pos hlt]
        have hd := dec_tail s i hi (ht i (Nat.le_refl _) hlt)
        rw [hd]
        exact ih (i + 1) e (by omega) (by omega) hes (fun j h1 h2 => ht j (by omega) h2)
      · rw [if_neg hlt]
        obtain rfl : i = e := by omega
        rw [from_step s i hi]
        have hp := pieceEnd_le s i hi
        congr 1
        rcases dec_why s i hi with ⟨hw, _⟩ | ⟨hw, hd⟩
        · have he : pieceEnd s i = i + (Utf8.decode s i).2 := by unfold pieceEnd; rw [if_pos hw]
          rw [he] at hp ⊢
          exact ih _ _ (by omega) (Nat.le_refl _) hp.2 (fun j h1 h2 => by omega)
        · have he : pieceEnd s i = i + partN (s.extract i s.size) := by unfold pieceEnd; rw [if_neg hw]
          rw [hd]
          refine ih (i + 1) _ (by omega) (by omega) hp.2 (fun j h1 h2 => part_tails s i j (by omega) (by rw [← he]; exact h2))
    · obtain rfl : e = s.size := by omega
      rw [from_end s _ (Nat.le_refl _), chars_end s i (by omega)]; rfl
theorem pieces_from (s : ByteArray) : pieces s = fromP s 0 := pcs_from s s.size 0 0 (by omega) (Nat.le_refl _) (Nat.zero_le _) (fun j _ h => by omega)
end Go.Proofs.Ytjkchpjopgpeeaa
