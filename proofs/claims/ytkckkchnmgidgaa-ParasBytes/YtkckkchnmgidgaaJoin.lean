/-
  Plain facts: what a text stands for, when another text is laid behind it.
-/
import Derived.Test.YtkckkchnmgidgaaRunes
namespace Go.Proofs.Ytkckkchnmgidgaa
open Go.RowKit Go.PlainAid Go.Lib

/-- a right sequence stays one in whatever text has its bytes -/
theorem decB_keep (sz b0 b1 b2 b3 x n : Nat) (h : decB sz b0 b1 b2 b3 = (x, n)) (h2 : 2 ≤ n ∨ b0 < 128) (sz' b1' b2' b3' : Nat) (hn : n ≤ sz')
    (e1 : 1 < n → b1' = b1) (e2 : 2 < n → b2' = b2) (e3 : 3 < n → b3' = b3) : decB sz' b0 b1' b2' b3' = (x, n) := by
  unfold decB at h
  by_cases c0 : b0 < 128
  · rw [if_pos c0] at h
    unfold decB; rw [if_pos c0]; exact h
  rw [if_neg c0] at h
  have hn2 : 2 ≤ n := by omega
  by_cases c1 : b0 / 32 = 6 ∧ (1 < sz ∧ b1 / 64 = 2)
  · rw [if_pos c1] at h
    split at h
    · obtain ⟨rfl, rfl⟩ : _ = x ∧ 2 = n := by simpa using h
      obtain rfl := e1 (by omega)
      unfold decB; rw [if_neg c0, if_pos (by omega), if_pos (by assumption)]
    · obtain ⟨_, rfl⟩ : _ = x ∧ 1 = n := by simpa using h
      omega
  rw [if_neg c1] at h
  by_cases c2 : b0 / 16 = 14 ∧ (1 < sz ∧ b1 / 64 = 2) ∧ (2 < sz ∧ b2 / 64 = 2)
  · rw [if_pos c2] at h
    split at h
    · obtain ⟨rfl, rfl⟩ : _ = x ∧ 3 = n := by simpa using h
      obtain rfl := e1 (by omega)
      obtain rfl := e2 (by omega)
      unfold decB; rw [if_neg c0, if_neg (by omega), if_pos (by omega), if_pos (by assumption)]
    · obtain ⟨_, rfl⟩ : _ = x ∧ 1 = n := by simpa using h
      omega
  rw [if_neg c2] at h
  by_cases c3 : b0 / 8 = 30 ∧ (1 < sz ∧ b1 / 64 = 2) ∧ (2 < sz ∧ b2 / 64 = 2) ∧ (3 < sz ∧ b3 / 64 = 2)
  · rw [if_pos c3] at h
    split at h
    · obtain ⟨rfl, rfl⟩ : _ = x ∧ 4 = n := by simpa using h
      obtain rfl := e1 (by omega)
      obtain rfl := e2 (by omega)
      obtain rfl := e3 (by omega)
      unfold decB; rw [if_neg c0, if_neg (by omega), if_neg (by omega), if_pos (by omega), if_pos (by assumption)]
    · obtain ⟨_, rfl⟩ : _ = x ∧ 1 = n := by simpa using h
      omega
  rw [if_neg c3] at h
  obtain ⟨_, rfl⟩ : _ = x ∧ 1 = n := by simpa using h
  omega

/-- a sequence of two bytes or more: the bytes behind the first are tails, the first is none -/
theorem decB_tails (sz b0 b1 b2 b3 x n : Nat) (h : decB sz b0 b1 b2 b3 = (x, n)) (hn : 2 ≤ n) :
    192 ≤ b0 ∧ n ≤ sz ∧ n ≤ 4 ∧ b1 / 64 = 2 ∧ (2 < n → b2 / 64 = 2) ∧ (3 < n → b3 / 64 = 2) := by
  unfold decB at h
  by_cases c0 : b0 < 128
  · rw [if_pos c0] at h
    obtain ⟨_, rfl⟩ : _ = x ∧ 1 = n := by simpa using h
    omega
  rw [if_neg c0] at h
  by_cases c1 : b0 / 32 = 6 ∧ (1 < sz ∧ b1 / 64 = 2)
  · rw [if_pos c1] at h
    split at h
    · obtain ⟨_, rfl⟩ : _ = x ∧ 2 = n := by simpa using h
      omega
    · obtain ⟨_, rfl⟩ : _ = x ∧ 1 = n := by simpa using h
      omega
  rw [if_neg c1] at h
  by_cases c2 : b0 / 16 = 14 ∧ (1 < sz ∧ b1 / 64 = 2) ∧ (2 < sz ∧ b2 / 64 = 2)
  · rw [if_pos c2] at h
    split at h
    · obtain ⟨_, rfl⟩ : _ = x ∧ 3 = n := by simpa using h
      omega
    · obtain ⟨_, rfl⟩ : _ = x ∧ 1 = n := by simpa using h
      omega
  rw [if_neg c2] at h
  by_cases c3 : b0 / 8 = 30 ∧ (1 < sz ∧ b1 / 64 = 2) ∧ (2 < sz ∧ b2 / 64 = 2) ∧ (3 < sz ∧ b3 / 64 = 2)
  · rw [if_pos c3] at h
    split at h
    · obtain ⟨_, rfl⟩ : _ = x ∧ 4 = n := by simpa using h
      omega
    · obtain ⟨_, rfl⟩ : _ = x ∧ 1 = n := by simpa using h
      omega
  rw [if_neg c3] at h
  obtain ⟨_, rfl⟩ : _ = x ∧ 1 = n := by simpa using h
  omega

/-- one byte wide: an ASCII byte, or a wrong one -/
theorem dec_one (s : ByteArray) (i : Nat) (hi : i < s.size) (h : (Utf8.decode s i).2 = 1) : bN s i < 128 ∨ Utf8.decode s i = (65533, 1) := by
  rcases dec_why s i hi with ⟨_, x, n, h1, h2, h3, _⟩ | ⟨_, h⟩
  · left
    rw [h1] at h
    have hn : n = 1 := h
    subst hn
    have hx : (x : Int) < 128 := by unfold bytesN at h3; revert h3; (repeat' split) <;> omega
    rw [decode_decB s i hi] at h1
    apply Decidable.byContradiction
    intro hb
    unfold decB at h1
    rw [if_neg hb] at h1
    revert h1
    (repeat' split) <;> simp <;> omega
  · exact .inr h

theorem bN_append (s t : ByteArray) (k : Nat) : bN (s ++ t) k = if k < s.size then bN s k else bN t (k - s.size) := by
  have h := bt_bN (s ++ t) k
  by_cases h1 : k < s.size
  · rw [if_pos h1]
    have e : bt (s ++ t) k = bt s k := by
      unfold bt
      rw [dif_pos (by rw [ByteArray.size_append]; omega), dif_pos h1, ByteArray.getElem_append_left h1]
    rw [e, bt_bN] at h; omega
  · rw [if_neg h1]
    by_cases h2 : k - s.size < t.size
    · have e : bt (s ++ t) k = bt t (k - s.size) := by
        unfold bt
        rw [dif_pos (by rw [ByteArray.size_append]; omega), dif_pos h2, ByteArray.getElem_append_right (by omega)]
      rw [e, bt_bN] at h; omega
    · unfold bN
      rw [get_out _ _ (by rw [ByteArray.size_append]; omega), get_out _ _ h2]

theorem dec_right (s t : ByteArray) (i : Nat) : i < t.size → Utf8.decode (s ++ t) (s.size + i) = Utf8.decode t i := by
  intro hi
  rw [decode_decB _ _ (by rw [ByteArray.size_append]; omega), decode_decB t i hi]
  have e : ∀ k, bN (s ++ t) (s.size + i + k) = bN t (i + k) := by
    intro k
    rw [bN_append, if_neg (by omega)]
    congr 1; omega
  have e0 := e 0
  simp only [Nat.add_zero] at e0
  rw [e 1, e 2, e 3, e0, ByteArray.size_append]
  congr 1; omega

theorem right_wide (s : ByteArray) (i x n : Nat) (hi : i < s.size) (h1 : Utf8.decode s i = (x, n)) (h3 : bytesN x = n) : 2 ≤ n ∨ bN s i < 128 := by
  by_cases hn : 2 ≤ n
  · exact .inl hn
  · have hb := dec_bounds s i hi
    rw [h1] at hb
    have hn1 : n = 1 := by have := hb.1; simp at this; omega
    subst hn1
    rcases dec_one s i hi (by rw [h1]) with h | h
    · exact .inr h
    · rw [h] at h1
      obtain ⟨rfl, _⟩ : 65533 = x ∧ 1 = 1 := by simpa using h1
      exact absurd h3 (by decide)

/-- the text in front, if its byte i is right, or if what follows doesn't go on with a tail -/
theorem dec_left (s t : ByteArray) (i : Nat) (hi : i < s.size) (h : whyN (s.extract i s.size) = 0 ∨ t.size = 0 ∨ ¬ bN t 0 / 64 = 2) : Utf8.decode (s ++ t) i = Utf8.decode s i := by
  have hi' : i < (s ++ t).size := by rw [ByteArray.size_append]; omega
  have hsz : (s ++ t).size = s.size + t.size := ByteArray.size_append
  have ek : ∀ k, i + k < s.size → bN (s ++ t) (i + k) = bN s (i + k) := fun k hk => by rw [bN_append, if_pos hk]
  have e0 : bN (s ++ t) i = bN s i := ek 0 hi
  rcases dec_why s i hi with ⟨h0, x, n, h1, h2, h3, h4⟩ | ⟨h0, h1⟩
  · have hw := right_wide s i x n hi h1 h3
    rw [h1, decode_decB _ _ hi', e0]
    rw [decode_decB s i hi] at h1
    exact decB_keep _ _ _ _ _ x n h1 hw _ _ _ _ (by omega) (fun _ => ek 1 (by omega)) (fun _ => ek 2 (by omega)) (fun _ => ek 3 (by omega))
  · have hnt : ¬ bN t 0 / 64 = 2 := by
      rcases h with h | h | h
      · exact absurd h h0
      · have : bN t 0 = 0 := by unfold bN; rw [get_out t 0 (by omega)]; rfl
        omega
      · exact h
    rcases dec_why (s ++ t) i hi' with ⟨_, x, n, g1, g2, g3, g4⟩ | ⟨_, g1⟩
    · exfalso
      have hw := right_wide (s ++ t) i x n hi' g1 g3
      rw [e0] at hw
      have g1' := g1
      rw [decode_decB _ _ hi', e0] at g1'
      have key : i + n ≤ s.size := by
        apply Decidable.byContradiction
        intro hlt
        have hn2 : 2 ≤ n := by omega
        obtain ⟨_, _, hn4, t1, t2, t3⟩ := decB_tails _ _ _ _ _ x n g1' hn2
        have hk : s.size - i = 1 ∨ s.size - i = 2 ∨ s.size - i = 3 := by omega
        rcases hk with hk | hk | hk
        · rw [bN_append, if_neg (by omega), show i + 1 - s.size = 0 by omega] at t1
          exact hnt t1
        · have := t2 (by omega)
          rw [bN_append, if_neg (by omega), show i + 2 - s.size = 0 by omega] at this
          exact hnt this
        · have := t3 (by omega)
          rw [bN_append, if_neg (by omega), show i + 3 - s.size = 0 by omega] at this
          exact hnt this
      have hE := decB_keep _ _ _ _ _ x n g1' hw (s.size - i) (bN s (i + 1)) (bN s (i + 2)) (bN s (i + 3)) (by omega) (fun _ => (ek 1 (by omega)).symm) (fun _ => (ek 2 (by omega)).symm) (fun _ => (ek 3 (by omega)).symm)
      rw [← decode_decB s i hi, h1] at hE
      obtain ⟨rfl, rfl⟩ : 65533 = x ∧ 1 = n := by simpa using hE
      exact absurd g3 (by decide)
    · rw [g1, h1]

/-- the characters of a text behind another one -/
theorem chars_right (s t : ByteArray) : ∀ (k i : Nat), t.size - i ≤ k → chars (s ++ t) (s.size + i) = (chars t i).map fun p => (s.size + p.1, p.2) := by
  intro k
  induction k with
  | zero =>
    intro i h
    rw [chars_end _ _ (by rw [ByteArray.size_append]; omega), chars_end t i (by omega)]; rfl
  | succ k ih =>
    intro i h
    by_cases hi : i < t.size
    · have hb := dec_bounds t i hi
      rw [chars_step _ _ (by rw [ByteArray.size_append]; omega), chars_step t i hi, dec_right s t i hi, Nat.add_assoc, ih _ (by omega)]
      rfl
    · rw [chars_end _ _ (by rw [ByteArray.size_append]; omega), chars_end t i hi]; rfl

/-- all characters from i on are right, or what follows doesn't go on with a tail -/
theorem chars_left (s t : ByteArray) (h : (∀ i ∈ (chars s 0).map (·.1), whyN (s.extract i s.size) = 0) ∨ t.size = 0 ∨ ¬ bN t 0 / 64 = 2) :
    ∀ (k i : Nat), s.size - i ≤ k → i ≤ s.size → (∀ j ∈ (chars s i).map (·.1), j ∈ (chars s 0).map (·.1)) →
      chars (s ++ t) i = chars s i ++ (chars t 0).map fun p => (s.size + p.1, p.2) := by
  intro k
  induction k with
  | zero =>
    intro i h1 h2 _
    obtain rfl : i = s.size := by omega
    rw [chars_end s s.size (by omega)]
    exact chars_right s t t.size 0 (by omega)
  | succ k ih =>
    intro i h1 h2 hm
    by_cases hi : i < s.size
    · have hb := dec_bounds s i hi
      have hst := chars_step s i hi
      have hd : Utf8.decode (s ++ t) i = Utf8.decode s i := by
        refine dec_left s t i hi ?_
        rcases h with h | h
        · exact .inl (h i (hm i (by rw [hst]; simp)))
        · exact .inr h
      rw [chars_step (s ++ t) i (by rw [ByteArray.size_append]; omega), hd, hst, ih _ (by omega) (by omega) (fun j hj => hm j (by rw [hst]; simp at hj ⊢; exact .inr hj))]
      rfl
    · obtain rfl : i = s.size := by omega
      rw [chars_end s s.size (by omega)]
      exact chars_right s t t.size 0 (by omega)

theorem runeVals_append (s t : ByteArray) (h : (∀ i ∈ (chars s 0).map (·.1), whyN (s.extract i s.size) = 0) ∨ t.size = 0 ∨ ¬ bN t 0 / 64 = 2) : runeVals (s ++ t) = runeVals s ++ runeVals t := by
  unfold runeVals
  rw [chars_left s t h s.size 0 (by omega) (by omega) (fun _ hj => hj)]
  simp

end Go.Proofs.Ytkckkchnmgidgaa
