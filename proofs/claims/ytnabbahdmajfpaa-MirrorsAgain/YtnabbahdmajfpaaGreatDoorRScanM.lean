/-
  What a line is, by the document's definition; and that Scan's way gives the same.
-/
import Derived.Test.YtnabbahdmajfpaaGreatDoorRCutM
namespace Go.Proofs.YtnabbahdmajfpaaGreatDoor
open Go.RowKit Go.PlainAid Go.Lib Go.Shelf
set_option linter.unusedVariables false

/-- may these bytes be an order's name? -/
def namedB (l : List UInt8) : Bool := l.all (fun b => nameSignB (b.toNat : Int)) && decide (l ≠ [])
--CHARS
theorem dec_high (s : ByteArray) (i : Nat) (hi : i < s.size) (h : 128 ≤ bN s i) : 128 ≤ (Utf8.decode s i).1 := by
  rw [decode_decB s i hi]
  unfold decB
  rw [if_neg (by omega)]
  (repeat' split) <;> simp <;> omega
theorem dec_low (s : ByteArray) (i : Nat) (hi : i < s.size) (h : bN s i < 128) : Utf8.decode s i = (bN s i, 1) := by
  rw [decode_decB s i hi]
  unfold decB
  rw [if_pos h]
theorem name_high (r : Nat) (h : 128 ≤ r) : nameSignB (r : Int) = false := by
  unfold nameSignB
  rw [decide_eq_false (show ¬ ((r : Int) ≤ 90) by omega), decide_eq_false (show ¬ ((r : Int) ≤ 122) by omega), decide_eq_false (show ¬ ((r : Int) ≤ 57) by omega), decide_eq_false (show ¬ ((r : Int) = 95) by omega), decide_eq_false (show ¬ ((r : Int) = 45) by omega)]
  simp
theorem name_chars (s : ByteArray) : ∀ (k i : Nat), s.size - i ≤ k → (chars s i).all (fun p => nameSignB (p.2 : Int)) = ((L s).drop i).all (fun b => nameSignB (b.toNat : Int)) := by
  intro k
  induction k with
  | zero => intro i h; rw [chars_end s i (by omega), List.drop_of_length_le (by rw [L_len]; omega)]; rfl
  | succ k ih =>
    intro i h
    by_cases hi : i < s.size
    · rw [chars_step s i hi, drop_at s i hi, List.all_cons, List.all_cons]
      have e0 : ((s.get! i).toNat : Int) = (bN s i : Int) := rfl
      rw [e0]
      by_cases hb : bN s i < 128
      · rw [dec_low s i hi hb, ih (i + 1) (by omega)]
      · rw [name_high _ (dec_high s i hi (by omega)), name_high _ (by omega : 128 ≤ bN s i)]; rfl
    · rw [chars_end s i hi, List.drop_of_length_le (by rw [L_len]; omega)]; rfl
theorem nameB_named (l : List UInt8) : nameB (S l) = namedB l := by
  unfold nameB namedB
  rw [name_chars (S l) _ 0 (Nat.le_refl _), List.drop_zero, L_S, S_size]
  congr 1
  rw [Bool.eq_iff_iff]
  simp [List.length_pos_iff]
--END
theorem named_ne (l : List UInt8) (h : namedB l = true) : ∀ b ∈ l, b ≠ 35 := by
  intro b hb e
  unfold namedB at h
  simp only [Bool.and_eq_true, List.all_eq_true] at h
  have := h.1 b hb
  rw [e] at this
  exact absurd this (by decide)

def docScan (no : Int) (l : List UInt8) : LineD × Int :=
  if trimB (untilB 35 l).1 = [] then
    (if hasPrefix (trimB (untilB 35 l).2.1) missingL = true then (⟨no, 3, [], (docCut ((trimB (untilB 35 l).2.1).drop 9)).1, (docCut ((trimB (untilB 35 l).2.1).drop 9)).2⟩, 0)
     else (⟨no, 0, [], [], trimB (untilB 35 l).2.1⟩, 0))
  else if (trimB (untilB 35 l).1)[0]? = some 64 then
    (if ((untilB 58 ((trimB (untilB 35 l).1).drop 1)).2.2 && namedB (untilB 58 ((trimB (untilB 35 l).1).drop 1)).1) = true then
      (⟨no, 2, (untilB 58 ((trimB (untilB 35 l).1).drop 1)).1, fieldsB (untilB 58 ((trimB (untilB 35 l).1).drop 1)).2.1, trimB (untilB 35 l).2.1⟩, 0) else (zeroD, 33))
  else (⟨no, 1, [], fieldsB (trimB (untilB 35 l).1), trimB (untilB 35 l).2.1⟩, 0)

theorem until_app_no (c : UInt8) : ∀ (x l : List UInt8), (∀ b ∈ x, b ≠ c) → untilB c (x ++ l) = (x ++ (untilB c l).1, (untilB c l).2.1, (untilB c l).2.2)
  | [], l, _ => rfl
  | b :: x, l, h => by
    have hb : b ≠ c := h b (by simp)
    rw [List.cons_append]
    simp only [untilB, hb, if_false, until_app_no c x l (fun d hd => h d (by simp [hd]))]
    rfl
theorem until_hit (c : UInt8) (p q : List UInt8) (h : ∀ b ∈ p, b ≠ c) : untilB c (p ++ c :: q) = (p, q, true) := by
  rw [until_app_no c p _ h]; simp [untilB]
theorem until_miss (c : UInt8) (p : List UInt8) (h : ∀ b ∈ p, b ≠ c) : untilB c p = (p, [], false) := by
  have := until_app_no c p [] h
  simpa [untilB] using this
theorem until_cases (c : UInt8) (l : List UInt8) : ((∀ b ∈ l, b ≠ c) ∧ untilB c l = (l, [], false)) ∨ ∃ p q, l = p ++ c :: q ∧ (∀ b ∈ p, b ≠ c) ∧ untilB c l = (p, q, true) := by
  induction l with
  | nil => exact .inl ⟨by simp, rfl⟩
  | cons a l ih =>
    by_cases h : a = c
    · subst h; exact .inr ⟨[], l, rfl, by simp, by simp [untilB]⟩
    · rcases ih with ⟨h1, h2⟩ | ⟨p, q, rfl, h1, h2⟩
      · exact .inl ⟨by intro b hb; rcases List.mem_cons.1 hb with rfl | hb; exact h; exact h1 b hb, by simp [untilB, h, h2]⟩
      · exact .inr ⟨a :: p, q, rfl, by intro b hb; rcases List.mem_cons.1 hb with rfl | hb; exact h; exact h1 b hb, by simp [untilB, h, h2]⟩
theorem blank_ne (c : UInt8) (hc : blB c = false) (x : List UInt8) (hx : ∀ b ∈ x, blB b = true) : ∀ b ∈ x, b ≠ c := fun b hb e => by rw [← e, hx b hb] at hc; cases hc
theorem trim_back (l y : List UInt8) (hy : ∀ b ∈ y, blB b = true) : trimB (l ++ y) = trimB l := by
  obtain ⟨x', m, z, rfl, h1, h2, h3⟩ := trim_parts l
  rw [trim_mid x' m z h1 h2 h3, List.append_assoc]
  exact trim_mid x' m (z ++ y) h1 (fun b hb => by rcases List.mem_append.1 hb with h | h; exact h2 b h; exact hy b h) h3
theorem docCut_mach (l : List UInt8) : docCut l = mach 0 [] [] l := by
  have := cut_doc (S l)
  unfold cutS at this
  rw [L_S] at this
  exact this.symm
theorem docCut_back (l y : List UInt8) (hy : ∀ b ∈ y, blB b = true) : docCut (l ++ y) = docCut l := by
  rw [docCut_mach, docCut_mach]
  rcases until_cases 35 l with ⟨h1, _⟩ | ⟨p, q, rfl, h1, h2⟩
  · exact mach_back l y 0 [] [] h1 hy
  · rw [mach_until, mach_until (p ++ 35 :: q), List.append_assoc, List.cons_append, until_hit 35 p _ h1, until_hit 35 p _ h1, trim_back q y hy]
theorem fields_back (l y : List UInt8) (hl : ∀ b ∈ l, b ≠ 35) (hy : ∀ b ∈ y, blB b = true) : fieldsB (l ++ y) = fieldsB l := by
  have h1 := fields_mach l hl
  have h2 := fields_mach (l ++ y) (fun b hb => by
    rcases List.mem_append.1 hb with h | h
    · exact hl b h
    · exact blank_ne 35 (by decide) y hy b h)
  rw [mach_back l y 0 [] [] hl hy, h1] at h2
  exact (congrArg Prod.fst h2).symm
theorem fields_trim (l : List UInt8) (hl : ∀ b ∈ l, b ≠ 35) : fieldsB (trimB l) = fieldsB l := by
  have h1 := fields_mach l hl
  have h2 := fields_mach (trimB l) (fun b hb => hl b (trim_sub l b hb))
  rw [mach_trim l hl, h1] at h2
  exact (congrArg Prod.fst h2).symm
/-- a text whose first byte but blanks is @ -/
theorem trim_at (c : UInt8) (hc : blB c = false) (r : List UInt8) : ∃ r' y, r = r' ++ y ∧ (∀ b ∈ y, blB b = true) ∧ trimB (c :: r) = c :: r' := by
  obtain ⟨x, m, y, he, h1, h2, h3⟩ := trim_parts (c :: r)
  cases x with
  | cons a x =>
    have ha := h1 a (by simp)
    obtain ⟨e, _⟩ := List.cons.inj (show c :: r = a :: (x ++ m ++ y) from he)
    rw [← e, hc] at ha; cases ha
  | nil =>
    cases m with
    | nil =>
      rw [List.nil_append, List.nil_append] at he
      have := h2 c (by rw [← he]; simp)
      rw [hc] at this; cases this
    | cons a m =>
      obtain ⟨e, e2⟩ := List.cons.inj (show c :: r = a :: (m ++ y) from he)
      subst e
      refine ⟨m, y, e2, h2, ?_⟩
      rw [he]; exact trim_mid [] (c :: m) y (by simp) h2 h3
theorem trim_first (l : List UInt8) (c : UInt8) (m : List UInt8) (h : trimB l = c :: m) : ∃ x r, l = x ++ c :: r ∧ (∀ b ∈ x, blB b = true) ∧ blB c = false := by
  obtain ⟨x, m', y, rfl, h1, h2, h3⟩ := trim_parts l
  rw [trim_mid x m' y h1 h2 h3] at h
  subst h
  exact ⟨x, m ++ y, by simp, h1, h3.1 c rfl⟩
theorem fields_ne (l : List UInt8) (h : trimB l ≠ []) : fieldsB l ≠ [] := by
  unfold fieldsB
  rw [if_neg h]
  obtain ⟨p, r, hs⟩ := split_cons l
  rw [hs]; simp
theorem trim_twice (l : List UInt8) : trimB (trimB l) = trimB l := by
  obtain ⟨x, m, y, rfl, h1, h2, h3⟩ := trim_parts l
  rw [trim_mid x m y h1 h2 h3]; exact trim_firm m h3
theorem until_rest (c : UInt8) (l : List UInt8) : ∃ r2, l = (untilB c l).1 ++ r2 ∧ ((r2 = [] ∧ (untilB c l).2.1 = []) ∨ r2 = c :: (untilB c l).2.1) := by
  rcases until_cases c l with ⟨_, h⟩ | ⟨p, q, rfl, _, h⟩
  · rw [h]; exact ⟨[], by simp, .inl ⟨rfl, rfl⟩⟩
  · rw [h]; exact ⟨c :: q, rfl, .inr rfl⟩

theorem order_doc (no : Int) (x r r' y : List UInt8) (hx : ∀ b ∈ x, blB b = true) (hy : ∀ b ∈ y, blB b = true) (hr : r = r' ++ y) : orderS no r' = docScan no (x ++ 64 :: r) := by
  have hx35 := blank_ne 35 (by decide) x hx
  have eU : untilB 35 (x ++ 64 :: r) = (x ++ 64 :: (untilB 35 r).1, (untilB 35 r).2.1, (untilB 35 r).2.2) := by
    rw [until_app_no 35 x _ hx35]; simp [untilB]
  obtain ⟨r1', y1, hr1, hy1, hT⟩ := trim_at 64 (by decide) (untilB 35 r).1
  have eH : trimB (untilB 35 (x ++ 64 :: r)).1 = 64 :: r1' := by rw [eU]; exact (trim_front x _ hx).trans hT
  unfold docScan
  rw [eH, if_neg (by simp), if_pos (show (64 :: r1')[0]? = some (64 : UInt8) from rfl), List.drop_one, List.tail_cons, eU]
  simp only []
  have h35 := until_no 35 r
  obtain ⟨r2, hr2, hc2⟩ := until_rest 35 r
  rw [hr1] at h35 hr2
  generalize (untilB 35 r).2.1 = r3 at *
  unfold orderS
  rcases until_cases 58 r1' with ⟨k1, k2⟩ | ⟨p, q', rfl, k1, k2⟩
  · simp only [k2, Bool.false_and, Bool.false_eq_true, if_false]
    rcases until_cases 58 r' with ⟨j1, j2⟩ | ⟨p, q, rfl, j1, j2⟩
    · simp only [j2, Bool.false_and, Bool.false_eq_true, if_false]
    · simp only [j2, Bool.true_and]
      rw [if_neg]
      intro hn
      rw [nameB_named] at hn
      have hp35 := named_ne p hn
      -- the colon stands behind a 35
      have hcol : (58 : UInt8) ∈ r := by rw [hr]; simp
      rw [hr2] at hcol
      rcases List.mem_append.1 hcol with h | h
      · rcases List.mem_append.1 h with h | h
        · exact k1 58 h rfl
        · exact blank_ne 58 (by decide) y1 hy1 58 h rfl
      · rcases hc2 with ⟨rfl, _⟩ | rfl
        · cases h
        · have e : r1' ++ y1 ++ 35 :: r3 = p ++ 58 :: q ++ y := hr2.symm.trans hr
          have h58 : ∀ b ∈ r1' ++ y1, b ≠ 58 := fun b hb => by
            rcases List.mem_append.1 hb with h | h
            · exact k1 b h
            · exact blank_ne 58 (by decide) y1 hy1 b h
          have := congrArg (untilB 58) (e.trans (show p ++ 58 :: q ++ y = p ++ 58 :: (q ++ y) by simp))
          rw [until_app_no 58 _ _ h58, until_hit 58 p _ j1] at this
          have e1 : r1' ++ y1 ++ (untilB 58 (35 :: r3)).1 = p := congrArg Prod.fst this
          have : (35 : UInt8) ∈ p := by
            rw [← e1]; simp [untilB]
          exact hp35 35 this rfl
  · rw [k2]
    have e : p ++ 58 :: (q' ++ y1 ++ r2) = r' ++ y := by rw [← hr, hr2]; simp
    have hy58 := blank_ne 58 (by decide) y hy
    obtain ⟨b', hb1, hb2⟩ : ∃ b', r' = p ++ 58 :: b' ∧ q' ++ y1 ++ r2 = b' ++ y := by
      rcases until_cases 58 r' with ⟨j1, j2⟩ | ⟨p2, q2, rfl, j1, j2⟩
      · exfalso
        have : (58 : UInt8) ∈ r' ++ y := by rw [← e]; simp
        rcases List.mem_append.1 this with h | h
        · exact j1 58 h rfl
        · exact hy58 58 h rfl
      · have e' : p ++ 58 :: (q' ++ y1 ++ r2) = p2 ++ 58 :: (q2 ++ y) := e.trans (by simp)
        have := congrArg (untilB 58) e'
        rw [until_hit 58 p _ k1, until_hit 58 p2 _ j1] at this
        have e1 : p = p2 := congrArg Prod.fst this
        have e2 : q' ++ y1 ++ r2 = q2 ++ y := congrArg (fun z => z.2.1) this
        exact ⟨q2, by rw [e1], e2⟩
    subst hb1
    rw [until_hit 58 p b' k1, nameB_named]
    have hq35 : ∀ b ∈ q' ++ y1, b ≠ 35 := fun b hb => h35 b (by
      rcases List.mem_append.1 hb with h | h <;> simp [h])
    have eB : cutS (S b') = (fieldsB q', trimB r3) := by
      rw [cut_doc, L_S, ← docCut_back b' y hy, ← hb2]
      unfold docCut
      have : untilB 35 (q' ++ y1 ++ r2) = (q' ++ y1, r3, (untilB 35 r2).2.2) := by
        rw [until_app_no 35 _ _ hq35]
        rcases hc2 with ⟨rfl, h⟩ | rfl
        · rw [h]; simp [untilB]
        · simp [untilB]
      rw [this]
      simp only []
      rw [fields_trim _ hq35, fields_back q' y1 (fun b hb => hq35 b (by simp [hb])) hy1]
    rw [eB]
theorem scan_doc (no : Int) (s : ByteArray) : scanS no s = if (chkS s).2 ≠ 0 then (zeroD, (chkS s).2) else docScan no (L s) := by
  unfold scanS
  by_cases hc : (chkS s).2 ≠ 0
  · rw [if_pos hc, if_pos hc]
  · rw [if_neg hc, if_neg hc]
    by_cases hp : hasPrefix (trimB (L s)) [64] = true
    · rw [if_pos hp]
      obtain ⟨t, ht⟩ := List.isPrefixOf_iff_prefix.1 hp
      obtain ⟨x, r, hl, hx, _⟩ := trim_first (L s) 64 t ht.symm
      obtain ⟨r', y, hr, hy, hT⟩ := trim_at 64 (by decide) r
      have e1 : trimB (L s) = 64 :: r' := by rw [hl, trim_front x _ hx]; exact hT
      rw [e1, hl]
      exact order_doc no x r r' y hx hy hr
    · rw [if_neg hp]
      have hne : ¬ (trimB (untilB 35 (L s)).1)[0]? = some 64 := by
        intro h
        apply hp
        cases hm : trimB (untilB 35 (L s)).1 with
        | nil => rw [hm] at h; simp at h
        | cons c m =>
          rw [hm] at h
          obtain rfl : c = 64 := by simpa using h
          obtain ⟨x, r, hl, hx, hb⟩ := trim_first _ _ _ hm
          obtain ⟨r2, hr2, _⟩ := until_rest 35 (L s)
          rw [hl] at hr2
          obtain ⟨r', y, hr, hy, hT⟩ := trim_at 64 (by decide) (r ++ r2)
          have : trimB (L s) = 64 :: r' := by
            rw [hr2, List.append_assoc, trim_front x _ hx, List.cons_append]; exact hT
          rw [this]; simp [hasPrefix]
      unfold docScan plainS
      rw [cut_doc]
      unfold docCut
      simp only []
      by_cases hh : trimB (untilB 35 (L s)).1 = []
      · rw [hh, if_pos rfl]
        have : fieldsB [] = [] := by decide
        rw [this, if_neg (by simp)]
        by_cases hm : hasPrefix (trimB (untilB 35 (L s)).2.1) missingL = true
        · rw [if_pos hm, if_pos hm, cut_doc, L_S]; rfl
        · rw [if_neg hm, if_neg hm]
      · rw [if_neg hh, if_neg hne, if_pos (fields_ne _ (by rw [trim_twice]; exact hh))]

end Go.Proofs.YtnabbahdmajfpaaGreatDoor
