/-
  Where a place is, by counting.
-/
import Derived.Test.YtlaennakglhmjaaDoorLWhere
import Derived.Test.YtlaennakglhmjaaDoorRCheck
namespace Go.Proofs.YtlaennakglhmjaaDoor
open Go.RowKit Go.PlainAid Go.Lib Go.Shelf
set_option linter.unusedVariables false

theorem tw_idx {α : Type} (p : α → Bool) : ∀ (l : List α), (∀ (m : Nat) (x : α), l[m]? = some x → p x = false → ∀ (m' : Nat) (y : α), m ≤ m' → l[m']? = some y → p y = false) → ∀ (m : Nat) (x : α), l[m]? = some x → (p x = true ↔ m < (l.takeWhile p).length) := by
  intro l
  induction l with
  | nil => intro _ m x h; simp at h
  | cons a l ih =>
    intro hd m x h
    rw [List.takeWhile_cons]
    cases ha : p a with
    | false =>
      have := hd 0 a rfl ha m x (Nat.zero_le _) h
      simp [this]
    | true =>
      simp only [if_true, List.length_cons]
      cases m with
      | zero =>
        obtain rfl : a = x := by simpa using h
        simp [ha]
      | succ m =>
        have := ih (fun m1 x1 h1 h2 m2 y h3 h4 => hd (m1 + 1) x1 (by simpa using h1) h2 (m2 + 1) y (by omega) (by simpa using h4)) m x (by simpa using h)
        rw [this]; omega
theorem tw_last {α : Type} (p : α → Bool) (l : List α) (h : 0 < (l.takeWhile p).length) : (l.takeWhile p).getLast? = l[(l.takeWhile p).length - 1]? := by
  rw [List.getLast?_eq_getElem?]
  cases hx : (l.takeWhile p)[(l.takeWhile p).length - 1]? with
  | none => rw [List.getElem?_eq_none_iff] at hx; omega
  | some x => exact (tw_get p l _ x hx).symm

theorem end_size2 (s : ByteArray) : hasEnd s s.size = false := by
  have hn := nl_none s s.size (fun j h1 h2 => by omega)
  unfold hasEnd; rw [hn]; rfl
theorem exts_lo (s : ByteArray) : ∀ (k no i : Nat), s.size - i ≤ k → i ≤ s.size → ∀ x ∈ extsI s no i, i ≤ x.2.1 := by
  intro k
  induction k with
  | zero =>
    intro no i hk hi x hx
    obtain rfl : i = s.size := by omega
    rw [extsI_step s no _ (Nat.le_refl _), end_size2 s] at hx
    rcases List.mem_cons.1 hx with rfl | h
    · exact Nat.le_refl _
    · simp at h
  | succ k ih =>
    intro no i hk hi x hx
    have hb := end_bounds s i hi
    rw [extsI_step s no i hi] at hx
    rcases List.mem_cons.1 hx with rfl | h
    · exact Nat.le_refl _
    · split at h
      · rename_i he
        have h5 := hb.2.2.2.2.1 he
        have := ih (no + 1) (endNext s i) (by omega) hb.2.2.2.1 x h
        omega
      · cases h
theorem exts_up (s : ByteArray) : ∀ (k no i : Nat), s.size - i ≤ k → i ≤ s.size → ∀ (j : Nat) (x : Nat × Nat × Nat) (j' : Nat) (y : Nat × Nat × Nat), j ≤ j' → (extsI s no i)[j]? = some x → (extsI s no i)[j']? = some y → x.2.1 ≤ y.2.1 := by
  intro k
  induction k with
  | zero =>
    intro no i hk hi j x j' y hj hx hy
    obtain rfl : i = s.size := by omega
    have he := end_size2 s
    rw [extsI_step s no _ (Nat.le_refl _), he] at hx hy
    cases j with
    | zero => cases j' with
      | zero => rw [hx] at hy; rw [Option.some.inj hy]; exact Nat.le_refl _
      | succ j' => simp at hy
    | succ j => simp at hx
  | succ k ih =>
    intro no i hk hi j x j' y hj hx hy
    have hb := end_bounds s i hi
    rw [extsI_step s no i hi] at hx hy
    cases j with
    | zero =>
      have hx' : (no, i, endTo s i) = x := by simpa using hx
      have hm : y ∈ extsI s no i := by rw [extsI_step s no i hi]; exact List.mem_of_getElem? hy
      rcases List.mem_cons.1 (by rw [extsI_step s no i hi] at hm; exact hm) with h | h
      · rw [← hx', h]; exact Nat.le_refl _
      · rw [← hx']
        split at h
        · rename_i he
          have h5 := hb.2.2.2.2.1 he
          have := exts_lo s (s.size - endNext s i) (no + 1) (endNext s i) (Nat.le_refl _) hb.2.2.2.1 y h
          simp only []; omega
        · cases h
    | succ j =>
      cases j' with
      | zero => omega
      | succ j' =>
        split at hx
        · rename_i he
          have h5 := hb.2.2.2.2.1 he
          rw [if_pos he] at hy
          exact ih (no + 1) (endNext s i) (by omega) hb.2.2.2.1 j x j' y (by omega) (by simpa using hx) (by simpa using hy)
        · simp at hx
/-- how many lines begin at or ahead of b -/
def cntE (s : ByteArray) (b : Int) : Nat := ((extsL s).takeWhile fun x => !brkE b x).length
theorem cntE_iff (s : ByteArray) (b : Int) (m : Nat) (x : Nat × Nat × Nat) (h : (extsL s)[m]? = some x) : (m = 0 ∨ (x.2.1 : Int) ≤ b) ↔ m < cntE s b := by
  have hno : ∀ (m : Nat) (x : Nat × Nat × Nat), (extsL s)[m]? = some x → x.1 = m + 1 := fun m x h => by
    have := extsI_no s _ 1 (markN s) (Nat.le_refl _) (mark_le s) m x h; omega
  have hp : ∀ (m : Nat) (x : Nat × Nat × Nat), (extsL s)[m]? = some x → ((!brkE b x) = true ↔ (m = 0 ∨ (x.2.1 : Int) ≤ b)) := fun m x h => by
    have := hno m x h
    unfold brkE
    simp only [Bool.not_eq_true', Bool.and_eq_false_iff, decide_eq_false_iff_not]
    omega
  rw [← hp m x h]
  refine tw_idx (fun x => !brkE b x) (extsL s) ?_ m x h
  intro m x h1 h2 m' y h3 h4
  have a1 : ¬ (m = 0 ∨ (x.2.1 : Int) ≤ b) := fun k => by rw [(hp m x h1).2 k] at h2; cases h2
  have a2 := exts_up s _ 1 (markN s) (Nat.le_refl _) (mark_le s) m x m' y h3 h1 h4
  cases hh : (!brkE b y) with
  | false => rfl
  | true =>
    have := (hp m' y h4).1 hh
    omega
theorem cntE_pos (s : ByteArray) (b : Int) : 1 ≤ cntE s b ∧ cntE s b ≤ (extsL s).length := by
  have h1 : (extsL s)[0]? = some (1, markN s, endTo s (markN s)) := by
    have : extsL s = _ := extsI_step s 1 (markN s) (mark_le s)
    rw [this]; rfl
  have := (cntE_iff s b 0 _ h1).1 (.inl rfl)
  exact ⟨this, (List.takeWhile_sublist _).length_le⟩
theorem whereE_at (s : ByteArray) (b : Int) : (extsL s)[cntE s b - 1]? = some (whereE s b) ∧ (whereE s b).1 = cntE s b := by
  have hp := cntE_pos s b
  have h1 := tw_last (fun x => !brkE b x) (extsL s) hp.1
  obtain ⟨x, hx⟩ : ∃ x, (extsL s)[cntE s b - 1]? = some x := ⟨_, List.getElem?_eq_getElem (by omega)⟩
  have h2 : whereE s b = x := by
    unfold whereE lastE
    rw [h1]
    show (((extsL s)[cntE s b - 1]?).getD _) = x
    rw [hx]; rfl
  rw [h2]
  refine ⟨hx, ?_⟩
  have := extsI_no s _ 1 (markN s) (Nat.le_refl _) (mark_le s) _ x hx
  omega

/-- columns -/
theorem cols_at (f t : Nat) : ∀ (l : List Nat) (c k : Nat), (colsF f t c l)[k]? = (if h : k < l.length then some (c + k, f + l[k]) else if k = l.length then some (c + k, t) else none)
  | [], c, k => by cases k <;> simp [colsF]
  | i :: l, c, k => by
    cases k with
    | zero => simp [colsF]
    | succ k =>
      rw [colsF, List.getElem?_cons_succ, cols_at f t l (c + 1) k]
      simp only [List.length_cons, Nat.add_lt_add_iff_right, List.getElem_cons_succ, Nat.add_right_cancel_iff]
      split
      · rw [show c + 1 + k = c + (k + 1) by omega]
      · split
        · rw [show c + 1 + k = c + (k + 1) by omega]
        · rfl
theorem plF_next (X : ByteArray) : ∀ (f i k : Nat), X.size - i ≤ f → ∀ x, (plF X i)[k]? = some x → (plF X i)[k + 1]? = some (x + (Utf8.decode X x).2) ∨ ((plF X i).length = k + 1 ∧ x + (Utf8.decode X x).2 = X.size) := by
  intro f
  induction f with
  | zero => intro i k h x hx; rw [plF_end X i (by omega)] at hx; simp at hx
  | succ f ih =>
    intro i k h x hx
    by_cases hi : i < X.size
    · have hb := dec_bounds X i hi
      rw [plF_step X i hi] at hx ⊢
      cases k with
      | zero =>
        obtain rfl : i = x := by simpa using hx
        by_cases h2 : i + (Utf8.decode X i).2 < X.size
        · left; rw [plF_step X _ h2]; simp
        · right; rw [plF_end X _ h2]; exact ⟨rfl, by omega⟩
      | succ k =>
        rcases ih (i + (Utf8.decode X i).2) k (by omega) x (by simpa using hx) with h | h
        · left; simpa using h
        · right; exact ⟨by simp [h.1], h.2⟩
    · rw [plF_end X i hi] at hx; simp at hx
theorem cols_next (s : ByteArray) (f t k x : Nat) (hft : f ≤ t) (hts : t ≤ s.size) (h : (plF (s.extract f t) 0)[k]? = some x) : (colsL s f t)[k + 1]? = some (k + 2, f + x + (Utf8.decode (s.extract f t) x).2) := by
  have hsz : (s.extract f t).size = t - f := by rw [← L_len, L_extract, List.length_take, List.length_drop, L_len]; omega
  unfold colsL
  rw [cols_at]
  rcases plF_next (s.extract f t) _ 0 k (Nat.le_refl _) x h with h1 | ⟨h1, h2⟩
  · have hl := (List.getElem?_eq_some_iff.1 h1)
    rw [dif_pos hl.1, hl.2, show 1 + (k + 1) = k + 2 by omega, ← Nat.add_assoc]
  · have e : f + x + (Utf8.decode (s.extract f t) x).2 = t := by omega
    rw [dif_neg (by omega), if_pos h1.symm, e, show 1 + (k + 1) = k + 2 by omega]
theorem plF_up (X : ByteArray) (k x : Nat) (h : (plF X 0)[k]? = some x) : x < X.size := (plF_get X X.size 0 k (by omega) x h).1
theorem cols_mono1 (s : ByteArray) (f t : Nat) (hft : f ≤ t) (hts : t ≤ s.size) : ∀ (k : Nat) (y z : Nat × Nat), (colsL s f t)[k]? = some y → (colsL s f t)[k + 1]? = some z → y.2 ≤ z.2 := by
  intro k y z hy hz
  have hl : (colsL s f t).length = (plF (s.extract f t) 0).length + 1 := colsF_len f t _ 1
  have hk : k < (plF (s.extract f t) 0).length := by have := (List.getElem?_eq_some_iff.1 hz).1; omega
  obtain ⟨x, hx⟩ : ∃ x, (plF (s.extract f t) 0)[k]? = some x := ⟨_, List.getElem?_eq_getElem hk⟩
  rw [cols_next s f t k x hft hts hx] at hz
  unfold colsL at hy
  rw [cols_at, dif_pos hk] at hy
  have h1 := Option.some.inj hy
  have h2 := Option.some.inj hz
  have h3 := (List.getElem?_eq_some_iff.1 hx).2
  rw [← h1, ← h2]
  simp only []
  omega
theorem cols_mono (s : ByteArray) (f t : Nat) (hft : f ≤ t) (hts : t ≤ s.size) : ∀ (d k : Nat) (y z : Nat × Nat), (colsL s f t)[k]? = some y → (colsL s f t)[k + d]? = some z → y.2 ≤ z.2 := by
  intro d
  induction d with
  | zero => intro k y z hy hz; rw [Nat.add_zero, hy] at hz; rw [Option.some.inj hz]; exact Nat.le_refl _
  | succ d ih =>
    intro k y z hy hz
    obtain ⟨u, hu⟩ : ∃ u, (colsL s f t)[k + d]? = some u := ⟨_, List.getElem?_eq_getElem (by have := (List.getElem?_eq_some_iff.1 hz).1; omega)⟩
    exact Nat.le_trans (ih k y u hy hu) (cols_mono1 s f t hft hts (k + d) u z hu hz)
theorem cols_no (s : ByteArray) (f t k : Nat) (y : Nat × Nat) (h : (colsL s f t)[k]? = some y) : y.1 = k + 1 := by
  unfold colsL at h
  rw [cols_at] at h
  split at h
  · rw [← Option.some.inj h]; simp only []; omega
  · split at h
    · rw [← Option.some.inj h]; simp only []; omega
    · cases h
def cntC (s : ByteArray) (f t : Nat) (b : Int) : Nat := ((colsL s f t).takeWhile fun y => !brkC b y).length
theorem cntC_iff (s : ByteArray) (f t : Nat) (b : Int) (hft : f ≤ t) (hts : t ≤ s.size) (m : Nat) (x : Nat × Nat) (h : (colsL s f t)[m]? = some x) : (m = 0 ∨ (x.2 : Int) ≤ b) ↔ m < cntC s f t b := by
  have hp : ∀ (m : Nat) (x : Nat × Nat), (colsL s f t)[m]? = some x → ((!brkC b x) = true ↔ (m = 0 ∨ (x.2 : Int) ≤ b)) := fun m x h => by
    have := cols_no s f t m x h
    unfold brkC
    simp only [Bool.not_eq_true', Bool.and_eq_false_iff, decide_eq_false_iff_not]
    omega
  rw [← hp m x h]
  refine tw_idx (fun y => !brkC b y) (colsL s f t) ?_ m x h
  intro m x h1 h2 m' y h3 h4
  have a1 : ¬ (m = 0 ∨ (x.2 : Int) ≤ b) := fun k => by rw [(hp m x h1).2 k] at h2; cases h2
  have a2 := cols_mono s f t hft hts (m' - m) m x y h1 (by rw [show m + (m' - m) = m' by omega]; exact h4)
  cases hh : (!brkC b y) with
  | false => rfl
  | true =>
    have := (hp m' y h4).1 hh
    omega
theorem cntC_pos (s : ByteArray) (f t : Nat) (b : Int) (hft : f ≤ t) (hts : t ≤ s.size) : 1 ≤ cntC s f t b ∧ cntC s f t b ≤ (plF (s.extract f t) 0).length + 1 := by
  have hl : (colsL s f t).length = (plF (s.extract f t) 0).length + 1 := colsF_len f t _ 1
  obtain ⟨x, hx⟩ : ∃ x, (colsL s f t)[0]? = some x := ⟨_, List.getElem?_eq_getElem (by omega)⟩
  have := (cntC_iff s f t b hft hts 0 x hx).1 (.inl rfl)
  exact ⟨this, by rw [← hl]; exact (List.takeWhile_sublist _).length_le⟩
theorem whereC_eq (s : ByteArray) (b : Int) : whereC s b = cntC s (whereE s b).2.1 (whereE s b).2.2 b := by
  have hm := exts_mem s _ (whereE_mem s b)
  generalize hE : whereE s b = E at *
  have hp := cntC_pos s E.2.1 E.2.2 b hm.1 hm.2.1
  have hl : (colsL s E.2.1 E.2.2).length = (plF (s.extract E.2.1 E.2.2) 0).length + 1 := colsF_len _ _ _ 1
  have h1 := tw_last (fun y => !brkC b y) (colsL s E.2.1 E.2.2) hp.1
  obtain ⟨x, hx⟩ : ∃ x, (colsL s E.2.1 E.2.2)[cntC s E.2.1 E.2.2 b - 1]? = some x := ⟨_, List.getElem?_eq_getElem (by omega)⟩
  have h2 := cols_no s _ _ _ x hx
  unfold whereC lastC
  rw [hE, h1]
  show ((((colsL s E.2.1 E.2.2)[cntC s E.2.1 E.2.2 b - 1]?).getD _)).1 = _
  rw [hx]
  show x.1 = _
  omega
end Go.Proofs.YtlaennakglhmjaaDoor
