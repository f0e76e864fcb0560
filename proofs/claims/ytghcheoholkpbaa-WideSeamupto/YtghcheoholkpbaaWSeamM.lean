/-
  Plain facts: two texts one behind the other, where a character begins at the seam.
-/
import Derived.Test.YtghcheoholkpbaaWLent
import Derived.Test.YtghcheoholkpbaaWRefB
namespace Go.Proofs.Ytghcheoholkpbaa

theorem dec_left2 (s t : ByteArray) (i : Nat) (hi : i < s.size) (h : i + (Utf8.decode (s ++ t) i).2 ≤ s.size) : Utf8.decode s i = Utf8.decode (s ++ t) i := by
  have hi' : i < (s ++ t).size := by rw [ByteArray.size_append]; omega
  have hsz : (s ++ t).size = s.size + t.size := ByteArray.size_append
  have ek : ∀ k, i + k < s.size → bN (s ++ t) (i + k) = bN s (i + k) := fun k hk => by rw [bN_append, if_pos hk]
  have e0 : bN (s ++ t) i = bN s i := ek 0 hi
  rcases dec_why (s ++ t) i hi' with ⟨_, x, n, g1, g2, g3, g4⟩ | ⟨g0, g1⟩
  · have hw := right_wide (s ++ t) i x n hi' g1 g3
    rw [e0] at hw
    rw [g1] at h ⊢
    have hn : i + n ≤ s.size := h
    have g1' := g1
    rw [decode_decB _ _ hi', e0] at g1'
    rw [decode_decB s i hi]
    exact decB_keep _ _ _ _ _ x n g1' hw _ _ _ _ (by omega) (fun _ => (ek 1 (by omega)).symm) (fun _ => (ek 2 (by omega)).symm) (fun _ => (ek 3 (by omega)).symm)
  · rcases dec_why s i hi with ⟨h0, x, n, k1, k2, k3, k4⟩ | ⟨h0, k1⟩
    · exfalso
      have hl := dec_left s t i hi (.inl h0)
      rw [g1, k1] at hl
      obtain ⟨rfl, rfl⟩ : 65533 = x ∧ 1 = n := by simpa using hl
      exact absurd k3 (by decide)
    · rw [g1, k1]
theorem chars_seam (s t : ByteArray) : ∀ (f i k : Nat), s.size - i ≤ f → i ≤ s.size → (∃ x ∈ ustL (s ++ t).size (chars (s ++ t) i) k, x.1 = s.size) → nums (s ++ t) i = nums s i ++ nums t 0 := by
  have hsz : (s ++ t).size = s.size + t.size := ByteArray.size_append
  have base : nums (s ++ t) s.size = nums s s.size ++ nums t 0 := by
    have := chars_right s t t.size 0 (by omega)
    rw [Nat.add_zero] at this
    unfold nums
    rw [this, chars_end s s.size (by omega), List.map_map]
    rfl
  intro f
  induction f with
  | zero =>
    intro i k h1 h2 _
    obtain rfl : i = s.size := by omega
    exact base
  | succ f ih =>
    intro i k h1 h2 hx
    by_cases hi : i < s.size
    · have hi' : i < (s ++ t).size := by omega
      have hb := dec_bounds (s ++ t) i hi'
      rw [ust_step (s ++ t) i k hi'] at hx
      obtain ⟨x, hm, hxs⟩ := hx
      have hm2 : x ∈ ustL (s ++ t).size (chars (s ++ t) (i + (Utf8.decode (s ++ t) i).2)) (k + wNn (Utf8.decode (s ++ t) i).1) := by
        rcases List.mem_cons.1 hm with e | e
        · exfalso; rw [e] at hxs; have : i = s.size := hxs; omega
        · exact e
      have hle := (ust_from (s ++ t) _ _ _ (Nat.le_refl _) (by omega) x hm2).1
      have hd := dec_left2 s t i hi (by omega)
      have hr := ih (i + (Utf8.decode (s ++ t) i).2) _ (by omega) (by omega) ⟨x, hm2, hxs⟩
      unfold nums at hr ⊢
      rw [chars_step (s ++ t) i hi', chars_step s i hi, hd, List.map_cons, List.map_cons, hr]
      rfl
    · obtain rfl : i = s.size := by omega
      exact base
theorem seam_units (s t : ByteArray) (h : (unitR (s ++ t) s.size).2 = 0) : units (nums (s ++ t) 0) = units (nums s 0) ++ units (nums t 0) := by
  have hx : ∃ x ∈ ust (s ++ t), x.1 = s.size := by
    unfold unitR at h
    split at h
    · rename_i x hx
      exact ⟨x, List.mem_of_find?_eq_some hx, by have := List.find?_some hx; simp at this; omega⟩
    · simp at h
  rw [chars_seam s t s.size 0 0 (by omega) (by omega) hx, units_append]
theorem unitR_code (s : ByteArray) (z : Int) : (unitR s z).2 = 0 ∨ (unitR s z).2 = 23 := by
  unfold unitR; split
  · exact .inl rfl
  · exact .inr rfl
end Go.Proofs.Ytghcheoholkpbaa
