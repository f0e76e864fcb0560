/-
  Places that lead there and back, and rise.
-/
import Derived.Test.YtlaennakglhmjaaDoorRPlace
namespace Go.Proofs.YtlaennakglhmjaaDoor
open Go.RowKit Go.PlainAid Go.Lib Go.Shelf
set_option linter.unusedVariables false

theorem exts_next (s : ByteArray) : ∀ (k no i : Nat), s.size - i ≤ k → i ≤ s.size → ∀ (m : Nat) (x y : Nat × Nat × Nat), (extsI s no i)[m]? = some x → (extsI s no i)[m + 1]? = some y → x.2.2 < y.2.1 := by
  intro k
  induction k with
  | zero =>
    intro no i hk hi m x y hx hy
    obtain rfl : i = s.size := by omega
    rw [extsI_step s no _ (Nat.le_refl _), end_size2 s] at hy
    simp at hy
  | succ k ih =>
    intro no i hk hi m x y hx hy
    have hb := end_bounds s i hi
    rw [extsI_step s no i hi] at hx hy
    split at hy
    · rename_i he
      have h5 := hb.2.2.2.2.1 he
      rw [if_pos he] at hx
      cases m with
      | zero =>
        have hx' : (no, i, endTo s i) = x := by simpa using hx
        rw [extsI_step s (no + 1) _ hb.2.2.2.1] at hy
        have hy' : (no + 1, endNext s i, endTo s (endNext s i)) = y := by simpa using hy
        rw [← hx', ← hy']; exact h5.1
      | succ m => exact ih (no + 1) (endNext s i) (by omega) hb.2.2.2.1 m x y (by simpa using hx) (by simpa using hy)
    · simp at hy
theorem where_in (s : ByteArray) (i : Nat) (x : Nat × Nat × Nat) (h : x ∈ extsL s) (h1 : x.2.1 ≤ i) (h2 : i ≤ x.2.2) : whereE s (i : Nat) = x := by
  obtain ⟨m, hm⟩ := List.mem_iff_getElem?.1 h
  have hc := (cntE_iff s (i : Nat) m x hm).1 (.inr (by omega))
  have hp := cntE_pos s (i : Nat)
  have hw := whereE_at s (i : Nat)
  have he : cntE s (i : Nat) = m + 1 := by
    rcases Nat.lt_or_ge (m + 1) (cntE s (i : Nat)) with h' | h'
    · obtain ⟨y, hy⟩ : ∃ y, (extsL s)[m + 1]? = some y := ⟨_, List.getElem?_eq_getElem (by omega)⟩
      have h3 := (cntE_iff s (i : Nat) (m + 1) y hy).2 h'
      have h4 := exts_next s _ 1 (markN s) (Nat.le_refl _) (mark_le s) m x y hm hy
      omega
    · omega
  have h5 := hw.1
  rw [he, Nat.add_sub_cancel, hm] at h5
  exact (Option.some.inj h5).symm
theorem col_zero (s : ByteArray) (f t : Nat) (hft : f ≤ t) (hts : t ≤ s.size) (y : Nat × Nat) (h : (colsL s f t)[0]? = some y) : y.2 = f := by
  have hsz : (s.extract f t).size = t - f := by rw [← L_len, L_extract, List.length_take, List.length_drop, L_len]; omega
  unfold colsL at h
  rw [cols_at] at h
  by_cases h0 : 0 < (s.extract f t).size
  · have h1 := plF_step (s.extract f t) 0 h0
    split at h
    · rename_i hl
      rw [← Option.some.inj h]
      have : (plF (s.extract f t) 0)[0]'hl = 0 := by
        have h9 : (plF (s.extract f t) 0)[0]? = some 0 := by rw [h1]; rfl
        exact (List.getElem?_eq_some_iff.1 h9).2
      simp only [this]; omega
    · rename_i hl
      rw [h1] at hl; simp at hl
  · have h1 := plF_end (s.extract f t) 0 h0
    rw [h1] at h
    simp at h
    rw [← h]
    simp only []; omega
/-- a place at which a column begins -/
def BeginsAt (s : ByteArray) (i : Nat) : Prop := ∃ x ∈ extsL s, ∃ y ∈ colsL s x.2.1 x.2.2, y.2 = i
theorem col_range (s : ByteArray) (f t : Nat) (hft : f ≤ t) (hts : t ≤ s.size) (y : Nat × Nat) (h : y ∈ colsL s f t) : f ≤ y.2 ∧ y.2 ≤ t := by
  have hl : (colsL s f t).length = (plF (s.extract f t) 0).length + 1 := colsF_len f t _ 1
  obtain ⟨k, hk⟩ := List.mem_iff_getElem?.1 h
  have hkl := (List.getElem?_eq_some_iff.1 hk).1
  obtain ⟨a, ha⟩ : ∃ a, (colsL s f t)[0]? = some a := ⟨_, List.getElem?_eq_getElem (by omega)⟩
  have h0 := col_zero s f t hft hts a ha
  have h1 := cols_mono s f t hft hts k 0 a y ha (by rw [Nat.zero_add]; exact hk)
  have hlast : (colsL s f t)[(plF (s.extract f t) 0).length]? = some ((plF (s.extract f t) 0).length + 1, t) := by
    unfold colsL
    rw [cols_at, dif_neg (by omega), if_pos rfl, Nat.add_comm]
  have h2 := cols_mono s f t hft hts ((plF (s.extract f t) 0).length - k) k y _ hk (by rw [show k + ((plF (s.extract f t) 0).length - k) = (plF (s.extract f t) 0).length by omega]; exact hlast)
  exact ⟨by omega, h2⟩
/-- the place that a place leads back to -/
theorem there (s : ByteArray) (i : Nat) (hi : i ≤ s.size) : ∃ a : Nat, placeR s ((whereE s (i : Nat)).1 : Nat) (whereC s (i : Nat) : Nat) = ((a : Int), 0) ∧ (BeginsAt s i → a = i) ∧ (markN s ≤ i → a ≤ i) := by
  have hm := whereE_mem s (i : Nat)
  have hme := exts_mem s _ hm
  have hwa := whereE_at s (i : Nat)
  have hcp := cntE_pos s (i : Nat)
  have hp := cntC_pos s (whereE s (i : Nat)).2.1 (whereE s (i : Nat)).2.2 (i : Nat) hme.1 hme.2.1
  have hl : (colsL s (whereE s (i : Nat)).2.1 (whereE s (i : Nat)).2.2).length = (plF (s.extract (whereE s (i : Nat)).2.1 (whereE s (i : Nat)).2.2) 0).length + 1 := colsF_len _ _ _ 1
  rw [whereC_eq]
  obtain ⟨E, hE⟩ : ∃ E, whereE s (i : Nat) = E := ⟨_, rfl⟩
  rw [hE] at hm hme hwa hp hl
  rw [hE]
  obtain ⟨y, hy⟩ : ∃ y, (colsL s E.2.1 E.2.2)[cntC s E.2.1 E.2.2 (i : Nat) - 1]? = some y := ⟨_, List.getElem?_eq_getElem (by omega)⟩
  have hyn := cols_no s _ _ _ y hy
  have hym := List.mem_of_getElem? hy
  refine ⟨y.2, place_found s _ _ E y hm rfl hym (by omega), ?_, ?_⟩
  · rintro ⟨x, hx, z, hz, hzi⟩
    have hxm := exts_mem s x hx
    have hr := col_range s x.2.1 x.2.2 hxm.1 hxm.2.1 z hz
    have hw := where_in s i x hx (by omega) (by omega)
    rw [hE] at hw
    subst hw
    obtain ⟨k, hk⟩ := List.mem_iff_getElem?.1 hz
    have hkc := (cntC_iff s E.2.1 E.2.2 (i : Nat) hme.1 hme.2.1 k z hk).1 (.inr (by omega))
    have h1 := cols_mono s E.2.1 E.2.2 hme.1 hme.2.1 (cntC s E.2.1 E.2.2 (i : Nat) - 1 - k) k z y hk (by rw [show k + (cntC s E.2.1 E.2.2 (i : Nat) - 1 - k) = cntC s E.2.1 E.2.2 (i : Nat) - 1 by omega]; exact hy)
    have h2 := (cntC_iff s E.2.1 E.2.2 (i : Nat) hme.1 hme.2.1 _ y hy).2 (by omega)
    rcases h2 with h2 | h2
    · have : k = 0 := by omega
      subst this
      rw [h2, hk] at hy
      rw [← Option.some.inj hy]; exact hzi
    · omega
  · intro hmk
    have h2 := (cntC_iff s E.2.1 E.2.2 (i : Nat) hme.1 hme.2.1 _ y hy).2 (by omega)
    rcases h2 with h2 | h2
    · rw [h2] at hy
      rw [col_zero s _ _ hme.1 hme.2.1 y hy]
      have h3 := (cntE_iff s (i : Nat) _ E hwa.1).2 (by omega)
      rcases h3 with h3 | h3
      · have h4 := hwa.1
        rw [h3] at h4
        have h5 : (extsL s)[0]? = some (1, markN s, endTo s (markN s)) := by
          have : extsL s = _ := extsI_step s 1 (markN s) (mark_le s)
          rw [this]; rfl
        rw [h5] at h4
        rw [← Option.some.inj h4]; exact hmk
      · omega
    · omega
theorem cntE_up (s : ByteArray) (i j : Nat) (h : i ≤ j) : cntE s (i : Nat) ≤ cntE s (j : Nat) := by
  have hp := cntE_pos s (i : Nat)
  obtain ⟨x, hx⟩ : ∃ x, (extsL s)[cntE s (i : Nat) - 1]? = some x := ⟨_, List.getElem?_eq_getElem (by omega)⟩
  have h1 := (cntE_iff s (i : Nat) _ x hx).2 (by omega)
  have h2 := (cntE_iff s (j : Nat) _ x hx).1 (by rcases h1 with h1 | h1; exact .inl h1; exact .inr (by omega))
  omega
theorem cntC_up (s : ByteArray) (f t i j : Nat) (hft : f ≤ t) (hts : t ≤ s.size) (h : i ≤ j) : cntC s f t (i : Nat) ≤ cntC s f t (j : Nat) := by
  have hp := cntC_pos s f t (i : Nat) hft hts
  have hl : (colsL s f t).length = (plF (s.extract f t) 0).length + 1 := colsF_len _ _ _ 1
  obtain ⟨x, hx⟩ : ∃ x, (colsL s f t)[cntC s f t (i : Nat) - 1]? = some x := ⟨_, List.getElem?_eq_getElem (by omega)⟩
  have h1 := (cntC_iff s f t (i : Nat) hft hts _ x hx).2 (by omega)
  have h2 := (cntC_iff s f t (j : Nat) hft hts _ x hx).1 (by rcases h1 with h1 | h1; exact .inl h1; exact .inr (by omega))
  omega
theorem where_up (s : ByteArray) (i j : Nat) (h : i ≤ j) : (whereE s (i : Nat)).1 < (whereE s (j : Nat)).1 ∨ ((whereE s (i : Nat)).1 = (whereE s (j : Nat)).1 ∧ whereC s (i : Nat) ≤ whereC s (j : Nat)) := by
  have h1 := whereE_at s (i : Nat)
  have h2 := whereE_at s (j : Nat)
  have h3 := cntE_up s i j h
  rcases Nat.lt_or_ge (cntE s (i : Nat)) (cntE s (j : Nat)) with h4 | h4
  · left; omega
  · right
    have he : cntE s (i : Nat) = cntE s (j : Nat) := by omega
    have hE : whereE s (i : Nat) = whereE s (j : Nat) := by
      have a := h1.1
      have b := h2.1
      rw [he, b] at a
      exact (Option.some.inj a).symm
    have hme := exts_mem s _ (whereE_mem s (j : Nat))
    refine ⟨by omega, ?_⟩
    rw [whereC_eq, whereC_eq, hE]
    exact cntC_up s _ _ i j hme.1 hme.2.1 h
theorem where_pos (s : ByteArray) (i : Nat) : 1 ≤ (whereE s (i : Nat)).1 ∧ 1 ≤ whereC s (i : Nat) := by
  have hme := exts_mem s _ (whereE_mem s (i : Nat))
  have := cntC_pos s _ _ (i : Nat) hme.1 hme.2.1
  rw [whereC_eq]
  exact ⟨hme.2.2.1, this.1⟩
theorem begins_end (s : ByteArray) : BeginsAt s s.size := by
  have hx : ∃ x ∈ extsL s, x.2.2 = s.size := by
    rcases ends_spec s _ 1 (markN s) (Nat.le_refl _) (mark_le s) with ⟨h1, x, h2, h3⟩ | ⟨h1, _⟩
    · have hm : x ∈ extsL s := by
        show x ∈ extsI s 1 (markN s)
        rw [h1]; exact List.mem_of_getLast? h2
      have h4 := extsI_mem s _ 1 (markN s) (Nat.le_refl _) (mark_le s) (by omega) x hm
      have hb := end_bounds s x.2.1 (by omega)
      refine ⟨x, hm, ?_⟩
      rw [h4.2.2.2.2.2]
      cases he : hasEnd s x.2.1 with
      | false => exact (hb.2.2.2.2.2 he).1
      | true => have := hb.2.2.2.2.1 he; omega
    · exact ⟨_, by show _ ∈ extsI s 1 (markN s); rw [h1]; simp; exact .inr rfl, rfl⟩
  obtain ⟨x, h1, h2⟩ := hx
  refine ⟨x, h1, ((plF (s.extract x.2.1 x.2.2) 0).length + 1, x.2.2), ?_, h2⟩
  refine List.mem_of_getElem? (i := (plF (s.extract x.2.1 x.2.2) 0).length) ?_
  unfold colsL
  rw [cols_at, dif_neg (by omega), if_pos rfl, Nat.add_comm]
end Go.Proofs.YtlaennakglhmjaaDoor
