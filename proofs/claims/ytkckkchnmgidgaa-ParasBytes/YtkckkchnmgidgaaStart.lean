/-
  Where the characters of a text begin: each where the one ahead ends; and the last one of what is ahead of a character's beginning.
-/
import Derived.Test.YtkckkchnmgidgaaJoin
import Derived.Test.YtkckkchnmgidgaaSpots
namespace Go.Proofs.Ytkckkchnmgidgaa
open Go.RowKit Go.PlainAid Go.Lib

/-- where the characters from i on begin, and behind them the text's end -/
def starts (s : ByteArray) (i : Nat) : List Nat := (chars s i).map (·.1) ++ [s.size]
theorem startN_starts (s : ByteArray) (k : Nat) : startN s k = (starts s 0).getD k 0 := rfl
theorem starts_step (s : ByteArray) (i : Nat) (h : i < s.size) : starts s i = i :: starts s (i + (Utf8.decode s i).2) := by
  unfold starts; rw [chars_step s i h]; rfl
theorem starts_end (s : ByteArray) (i : Nat) (h : ¬ i < s.size) : starts s i = [s.size] := by
  unfold starts; rw [chars_end s i h]; rfl
theorem starts_head (s : ByteArray) (i : Nat) (h : i ≤ s.size) : (starts s i).getD 0 0 = i := by
  by_cases hi : i < s.size
  · rw [starts_step s i hi]; rfl
  · rw [starts_end s i hi]; show s.size = i; omega
theorem starts_next (s : ByteArray) : ∀ (k i : Nat), i ≤ s.size → k < (chars s i).length →
    (starts s i).getD k 0 < s.size ∧ (starts s i).getD (k + 1) 0 = (starts s i).getD k 0 + (Utf8.decode s ((starts s i).getD k 0)).2 := by
  intro k
  induction k with
  | zero =>
    intro i h hk
    have hi : i < s.size := by
      refine Decidable.byContradiction fun hn => ?_
      rw [chars_end s i hn] at hk; simp at hk
    have hb := dec_bounds s i hi
    rw [starts_step s i hi]
    refine ⟨hi, ?_⟩
    show (starts s (i + (Utf8.decode s i).2)).getD 0 0 = i + (Utf8.decode s i).2
    exact starts_head s _ hb.2.2
  | succ k ih =>
    intro i h hk
    have hi : i < s.size := by
      refine Decidable.byContradiction fun hn => ?_
      rw [chars_end s i hn] at hk; simp at hk
    have hb := dec_bounds s i hi
    rw [chars_step s i hi, List.length_cons] at hk
    have := ih (i + (Utf8.decode s i).2) hb.2.2 (by omega)
    rw [starts_step s i hi]
    exact this
theorem start_zero (s : ByteArray) : startN s 0 = 0 := starts_head s 0 (Nat.zero_le _)
theorem start_len (s : ByteArray) : startN s (chars s 0).length = s.size := by
  unfold startN
  rw [List.getD_eq_getElem?_getD, List.getElem?_append_right (by simp)]
  simp
theorem start_lt (s : ByteArray) (k : Nat) (h : k < (chars s 0).length) : startN s k < s.size := (starts_next s k 0 (Nat.zero_le _) h).1
theorem start_next (s : ByteArray) (k : Nat) (h : k < (chars s 0).length) : startN s (k + 1) = startN s k + (Utf8.decode s (startN s k)).2 := (starts_next s k 0 (Nat.zero_le _) h).2
theorem start_up (s : ByteArray) (k : Nat) (h : k < (chars s 0).length) : startN s k < startN s (k + 1) := by
  have := start_next s k h
  have := dec_bounds s _ (start_lt s k h)
  omega
theorem start_mono (s : ByteArray) (j : Nat) : ∀ d, j + d ≤ (chars s 0).length → startN s j + d ≤ startN s (j + d) := by
  intro d
  induction d with
  | zero => intro _; exact Nat.le_refl _
  | succ d ih =>
    intro h
    have := ih (by omega)
    have := start_up s (j + d) (by omega)
    show startN s j + (d + 1) ≤ startN s (j + d + 1)
    omega
theorem start_le (s : ByteArray) (j k : Nat) (h : j ≤ k) (hk : k ≤ (chars s 0).length) : startN s j ≤ startN s k := by
  have := start_mono s j (k - j) (by omega)
  rw [show j + (k - j) = k by omega] at this; omega
theorem start_lt_lt (s : ByteArray) (j k : Nat) (h : j < k) (hk : k ≤ (chars s 0).length) : startN s j < startN s k := by
  have := start_mono s j (k - j) (by omega)
  rw [show j + (k - j) = k by omega] at this; omega
theorem start_size (s : ByteArray) (k : Nat) (h : k ≤ (chars s 0).length) : startN s k ≤ s.size := by
  have := start_le s k _ h (Nat.le_refl _)
  rw [start_len] at this; exact this
/-- the character that has the byte b -/
theorem start_find (s : ByteArray) (b : Nat) : ∀ d, d ≤ (chars s 0).length → b < startN s d → ∃ k, k < d ∧ startN s k ≤ b ∧ b < startN s (k + 1) := by
  intro d
  induction d with
  | zero => intro _ h; rw [start_zero] at h; omega
  | succ d ih =>
    intro h hb
    by_cases hd : b < startN s d
    · obtain ⟨k, h1, h2⟩ := ih (by omega) hd
      exact ⟨k, by omega, h2⟩
    · exact ⟨d, by omega, by omega, hb⟩
theorem place_start (s : ByteArray) (k : Nat) (h : k < (chars s 0).length) : (places s)[k]? = some (startN s k) := by
  unfold startN places
  rw [List.getD_eq_getElem?_getD, List.getElem?_append_left (by simpa using h)]
  have : k < ((chars s 0).map (·.1)).length := by simpa using h
  rw [List.getElem?_eq_getElem this]; rfl

theorem decB_keep' (sz b0 b1 b2 b3 : Nat) (p : Nat × Nat) (h : decB sz b0 b1 b2 b3 = p) (h2 : 2 ≤ p.2 ∨ b0 < 128) (sz' b1' b2' b3' : Nat) (hn : p.2 ≤ sz')
    (e1 : 1 < p.2 → b1' = b1) (e2 : 2 < p.2 → b2' = b2) (e3 : 3 < p.2 → b3' = b3) : decB sz' b0 b1' b2' b3' = p := by
  obtain ⟨x, n⟩ := p
  exact decB_keep _ _ _ _ _ _ _ h h2 _ _ _ _ hn e1 e2 e3
theorem decB_tails' (sz b0 b1 b2 b3 : Nat) (p : Nat × Nat) (h : decB sz b0 b1 b2 b3 = p) (hn : 2 ≤ p.2) :
    192 ≤ b0 ∧ p.2 ≤ sz ∧ p.2 ≤ 4 ∧ b1 / 64 = 2 ∧ (2 < p.2 → b2 / 64 = 2) ∧ (3 < p.2 → b3 / 64 = 2) := by
  obtain ⟨x, n⟩ := p
  exact decB_tails _ _ _ _ _ _ _ h hn
theorem bN_ahead (s : ByteArray) (e k : Nat) (he : e ≤ s.size) (h : k < e) : bN (s.extract 0 e) k = bN s k := by
  have hsz : (s.extract 0 e).size = e := by simp [ByteArray.size_extract]; omega
  unfold bN
  rw [get_in _ k (by omega), get_in s k (by omega), ByteArray.getElem_extract]
  simp
theorem dec_ahead (s : ByteArray) (e i : Nat) (he : e ≤ s.size) (hi : i + (Utf8.decode s i).2 ≤ e) (hi' : i < e) : Utf8.decode (s.extract 0 e) i = Utf8.decode s i := by
  have hsz : (s.extract 0 e).size = e := by simp [ByteArray.size_extract]; omega
  have hs := decode_decB s i (by omega)
  have ht := decode_decB (s.extract 0 e) i (by omega)
  rw [hsz] at ht
  have b0 := bN_ahead s e i he hi'
  by_cases h2 : 2 ≤ (Utf8.decode s i).2 ∨ bN s i < 128
  · rw [ht, b0]
    exact decB_keep' _ _ _ _ _ (Utf8.decode s i) hs.symm h2 _ _ _ _ (by omega) (fun h => bN_ahead s e _ he (by omega)) (fun h => bN_ahead s e _ he (by omega)) (fun h => bN_ahead s e _ he (by omega))
  · have hb := dec_bounds s i (by omega)
    have hw : (Utf8.decode s i).2 = 1 := by omega
    have hbt := dec_bounds (s.extract 0 e) i (by omega)
    rcases dec_one s i (by omega) hw with h | h
    · omega
    · by_cases h3 : (Utf8.decode (s.extract 0 e) i).2 = 1
      · rcases dec_one _ i (by omega) h3 with h4 | h4
        · omega
        · rw [h4, h]
      · have := decB_keep' _ _ _ _ _ (Utf8.decode (s.extract 0 e) i) ht.symm (.inl (by omega)) (s.size - i) (bN s (i + 1)) (bN s (i + 2)) (bN s (i + 3)) (by omega) (fun h => (bN_ahead s e _ he (by omega)).symm) (fun h => (bN_ahead s e _ he (by omega)).symm) (fun h => (bN_ahead s e _ he (by omega)).symm)
        rw [b0, ← hs] at this
        rw [this] at hw
        exact absurd hw h3
theorem wide_ahead (s : ByteArray) (e i : Nat) (he : e ≤ s.size) (hi : i < e) (h : 2 ≤ (Utf8.decode (s.extract 0 e) i).2) : Utf8.decode s i = Utf8.decode (s.extract 0 e) i := by
  have hsz : (s.extract 0 e).size = e := by simp [ByteArray.size_extract]; omega
  have hs := decode_decB s i (by omega)
  have ht := decode_decB (s.extract 0 e) i (by omega)
  rw [hsz] at ht
  have hbt := dec_bounds (s.extract 0 e) i (by omega)
  have := decB_keep' _ _ _ _ _ (Utf8.decode (s.extract 0 e) i) ht.symm (.inl h) (s.size - i) (bN s (i + 1)) (bN s (i + 2)) (bN s (i + 3)) (by omega) (fun h => (bN_ahead s e _ he (by omega)).symm) (fun h => (bN_ahead s e _ he (by omega)).symm) (fun h => (bN_ahead s e _ he (by omega)).symm)
  rw [bN_ahead s e i he hi, ← hs] at this
  exact this
theorem dec_tails (s : ByteArray) (i : Nat) (hi : i < s.size) (h : 2 ≤ (Utf8.decode s i).2) : 192 ≤ bN s i ∧ ∀ j, i < j → j < i + (Utf8.decode s i).2 → bN s j / 64 = 2 := by
  have hb := dec_bounds s i hi
  obtain ⟨h1, _, _, h2, h3, h4⟩ := decB_tails' _ _ _ _ _ (Utf8.decode s i) (decode_decB s i hi).symm h
  refine ⟨h1, fun j hj hj' => ?_⟩
  obtain rfl | rfl | rfl : j = i + 1 ∨ j = i + 2 ∨ j = i + 3 := by omega
  · exact h2
  · exact h3 (by omega)
  · exact h4 (by omega)
theorem tail_yes (t : ByteArray) (j : Nat) (h : bN t j / 64 = 2) : tailB (bt t j) = true := by rw [bt_bN]; exact (tailB_nat _).2 h
theorem tail_no (t : ByteArray) (j : Nat) (h : 192 ≤ bN t j) : ¬ tailB (bt t j) = true := by
  rw [bt_bN]; intro h'
  have := (tailB_nat _).1 h'; have := bN_lt t j; omega
/-- a right sequence of two bytes and more that ends a text is found -/
theorem lead_wide (t : ByteArray) (i : Nat) (hi : i < t.size) (h : 2 ≤ (Utf8.decode t i).2) (he : i + (Utf8.decode t i).2 = t.size) : leadAt t = i := by
  have hb := dec_bounds t i hi
  obtain ⟨h1, h2⟩ := dec_tails t i hi h
  have n0 := tail_no t i h1
  have t1 := fun j hj hj' => tail_yes t j (h2 j hj hj')
  unfold leadAt
  obtain e | e | e : t.size = i + 2 ∨ t.size = i + 3 ∨ t.size = i + 4 := by omega
  · rw [e, show i + 2 - 1 = i + 1 from rfl]
    unfold leadF
    rw [if_pos ⟨by omega, by omega, t1 _ (by omega) (by omega)⟩, show i + 1 - 1 = i from rfl]
    unfold leadF
    rw [if_neg (fun h => n0 h.2.2)]
  · rw [e, show i + 3 - 1 = i + 2 from rfl]
    unfold leadF
    rw [if_pos ⟨by omega, by omega, t1 _ (by omega) (by omega)⟩, show i + 2 - 1 = i + 1 from rfl]
    unfold leadF
    rw [if_pos ⟨by omega, by omega, t1 _ (by omega) (by omega)⟩, show i + 1 - 1 = i from rfl]
    unfold leadF
    rw [if_neg (fun h => n0 h.2.2)]
  · rw [e, show i + 4 - 1 = i + 3 from rfl]
    unfold leadF
    rw [if_pos ⟨by omega, by omega, t1 _ (by omega) (by omega)⟩, show i + 3 - 1 = i + 2 from rfl]
    unfold leadF
    rw [if_pos ⟨by omega, by omega, t1 _ (by omega) (by omega)⟩, show i + 2 - 1 = i + 1 from rfl]
    unfold leadF
    rw [if_pos ⟨by omega, by omega, t1 _ (by omega) (by omega)⟩, show i + 1 - 1 = i from rfl]
    unfold leadF
    rw [if_neg (fun h => n0 h.2.2)]

/-- FROM BEHIND: the last character of what is ahead of a character's end is that character -/
theorem last_start (s : ByteArray) (k : Nat) (hk : k < (chars s 0).length) :
    lastPos (s.extract 0 (startN s (k + 1))) = startN s k ∧ Utf8.decode (s.extract 0 (startN s (k + 1))) (startN s k) = Utf8.decode s (startN s k) ∧ (s.extract 0 (startN s (k + 1))).size = startN s (k + 1) := by
  have he := start_size s (k + 1) hk
  have hn := start_next s k hk
  have hl := start_lt s k hk
  have hu := start_up s k hk
  have hsz : (s.extract 0 (startN s (k + 1))).size = startN s (k + 1) := by simp [ByteArray.size_extract]; omega
  have hd := dec_ahead s (startN s (k + 1)) (startN s k) he (by omega) hu
  have hb := dec_bounds s _ hl
  refine ⟨?_, hd, hsz⟩
  by_cases hw : 2 ≤ (Utf8.decode s (startN s k)).2
  · have hle := lead_wide (s.extract 0 (startN s (k + 1))) (startN s k) (by omega) (by rw [hd]; exact hw) (by rw [hd, hsz]; omega)
    unfold lastPos
    rw [hle, if_pos (by rw [hd, hsz]; omega)]
  · unfold lastPos
    split
    · rename_i hL
      have hlt := leadAt_lt (s.extract 0 (startN s (k + 1))) (by omega)
      generalize hLd : leadAt (s.extract 0 (startN s (k + 1))) = L at *
      rw [hsz] at hL hlt
      refine Decidable.byContradiction fun hne => ?_
      have hw2 : 2 ≤ (Utf8.decode (s.extract 0 (startN s (k + 1))) L).2 := by omega
      have hw3 := wide_ahead s _ L he hlt hw2
      obtain ⟨k', h1, h2, h3⟩ := start_find s L (k + 1) hk hlt
      have hlead := (dec_tails s L (by omega) (by rw [hw3]; exact hw2)).1
      by_cases hq : startN s k' = L
      · have h4 := start_next s k' (by omega)
        rw [hq, hw3] at h4
        have h5 : startN s (k' + 1) = startN s (k + 1) := by omega
        have h6 : k' = k := by
          refine Decidable.byContradiction fun hn => ?_
          have := start_lt_lt s (k' + 1) (k + 1) (by omega) hk
          omega
        subst h6
        exact hne hq.symm
      · have h4 := start_next s k' (by omega)
        have h5 := start_lt s k' (by omega)
        have h6 := (dec_tails s (startN s k') h5 (by omega)).2 L (by omega) (by omega)
        omega
    · rw [hsz]; omega

end Go.Proofs.Ytkckkchnmgidgaa
