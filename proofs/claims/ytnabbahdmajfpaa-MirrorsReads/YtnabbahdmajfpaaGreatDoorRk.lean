/-
  These texts, one behind the other: RCutM, RScanM, RPiM, LAll, RApM, RApM2, RCut, RCut2.
-/
import Derived.Test.YtnabbahdmajfpaaGreatDoorLs
import Derived.Test.YtnabbahdmajfpaaGreatDoorLEach
import Derived.Test.YtnabbahdmajfpaaGreatDoorLRead
import Derived.BigQuiet
/-
  A line's fields and note by the document's definition: trimmed, until a byte, split; and that Cut's way through a line gives the same.
-/
namespace Go.Proofs.YtnabbahdmajfpaaGreatDoor
open Go.RowKit Go.PlainAid Go.Lib Go.Shelf
set_option linter.unusedVariables false

def blB (b : UInt8) : Bool := ([32, 9] : List UInt8).contains b
theorem blB_iff (b : UInt8) : blB b = true ↔ b = 32 ∨ b = 9 := by simp [blB]
theorem blB_not (b : UInt8) : blB b = false ↔ ¬ (b = 32 ∨ b = 9) := by rw [← blB_iff]; simp
/-- neither end is blank -/
def Firm (m : List UInt8) : Prop := (∀ b, m[0]? = some b → blB b = false) ∧ (∀ b, 0 < m.length → m[m.length - 1]? = some b → blB b = false)
theorem firm_nil : Firm [] := ⟨by simp, by simp⟩
theorem trim_mid (x m y : List UInt8) (hx : ∀ b ∈ x, blB b = true) (hy : ∀ b ∈ y, blB b = true) (hm : Firm m) : trimB (x ++ m ++ y) = m := by
  unfold trimB trimS
  by_cases he : m = []
  · subst he
    rw [trimRightS_take (x ++ [] ++ y) [32, 9] 0 (Nat.zero_le _) (fun j b _ h => by
      have := List.mem_of_getElem? h
      simp only [List.append_nil, List.mem_append] at this
      rcases this with h | h
      · exact hx b h
      · exact hy b h) (fun b h => by omega)]
    rfl
  · have hl : 0 < m.length := List.length_pos_iff.2 he
    have e1 : trimRightS (x ++ m ++ y) [32, 9] = x ++ m := by
      rw [trimRightS_take (x ++ m ++ y) [32, 9] (x ++ m).length (by simp) (fun j b hj h => by
        rw [List.getElem?_append_right hj] at h
        exact hy b (List.mem_of_getElem? h)) (fun b _ h => by
        rw [List.getElem?_append_left (by simp; omega), List.getElem?_append_right (by simp; omega)] at h
        exact hm.2 b hl (by rw [← h]; congr 1; simp; omega))]
      exact List.take_left' rfl
    rw [e1, trimLeftS_drop (x ++ m) [32, 9] x.length (by simp) (fun j b hj h => by
      rw [List.getElem?_append_left hj] at h
      exact hx b (List.mem_of_getElem? h)) (fun b h => by
      rw [List.getElem?_append_right (Nat.le_refl _), Nat.sub_self] at h
      exact hm.1 b h)]
    exact List.drop_left' rfl
theorem trim_firm (m : List UInt8) (hm : Firm m) : trimB m = m := by
  have := trim_mid [] m [] (by simp) (by simp) hm
  simpa using this
theorem trim_parts (l : List UInt8) : ∃ x m y, l = x ++ m ++ y ∧ (∀ b ∈ x, blB b = true) ∧ (∀ b ∈ y, blB b = true) ∧ Firm m := by
  induction l with
  | nil => exact ⟨[], [], [], rfl, by simp, by simp, firm_nil⟩
  | cons a l ih =>
    obtain ⟨x, m, y, rfl, hx, hy, hm⟩ := ih
    cases ha : blB a with
    | true => exact ⟨a :: x, m, y, rfl, by intro b hb; rcases List.mem_cons.1 hb with rfl | hb; exact ha; exact hx b hb, hy, hm⟩
    | false =>
      by_cases he : m = []
      · subst he
        refine ⟨[], [a], x ++ y, by simp, by simp, ?_, ⟨?_, ?_⟩⟩
        · intro b hb; rcases List.mem_append.1 hb with h | h; exact hx b h; exact hy b h
        · intro b hb; simp at hb; rw [← hb]; exact ha
        · intro b _ hb; simp at hb; rw [← hb]; exact ha
      · have hl : 0 < m.length := List.length_pos_iff.2 he
        refine ⟨[], a :: (x ++ m), y, by simp, by simp, hy, ⟨?_, ?_⟩⟩
        · intro b hb; simp at hb; rw [← hb]; exact ha
        · intro b _ hb
          have e1 : (a :: (x ++ m)).length - 1 = (x.length + (m.length - 1)) + 1 := by simp; omega
          rw [e1, List.getElem?_cons_succ, List.getElem?_append_right (by omega)] at hb
          exact hm.2 b hl (by rw [← hb]; congr 1; omega)
theorem trim_front (x l : List UInt8) (hx : ∀ b ∈ x, blB b = true) : trimB (x ++ l) = trimB l := by
  obtain ⟨x', m, y, rfl, h1, h2, h3⟩ := trim_parts l
  rw [trim_mid x' m y h1 h2 h3, show x ++ (x' ++ m ++ y) = (x ++ x') ++ m ++ y by simp]
  exact trim_mid _ m y (fun b hb => by rcases List.mem_append.1 hb with h | h; exact hx b h; exact h1 b h) h2 h3
theorem trim_none (l : List UInt8) (h : trimB l = []) : ∀ b ∈ l, blB b = true := by
  obtain ⟨x', m, y, rfl, h1, h2, h3⟩ := trim_parts l
  rw [trim_mid x' m y h1 h2 h3] at h
  subst h
  intro b hb
  simp only [List.append_nil, List.mem_append] at hb
  rcases hb with h | h
  · exact h1 b h
  · exact h2 b h
theorem trim_blank (l : List UInt8) (h : ∀ b ∈ l, blB b = true) : trimB l = [] := by
  have := trim_mid l [] [] h (by simp) firm_nil
  simpa using this

/-- the pieces between the bytes 59 -/
def splitB : List UInt8 → List (List UInt8)
  | [] => [[]]
  | b :: l => if b = 59 then [] :: splitB l else match splitB l with
    | [] => [[b]]
    | p :: r => (b :: p) :: r
theorem split_cons (l : List UInt8) : ∃ p r, splitB l = p :: r := by
  cases l with
  | nil => exact ⟨_, _, rfl⟩
  | cons b l =>
    unfold splitB
    split
    · exact ⟨_, _, rfl⟩
    · split
      · exact ⟨_, _, rfl⟩
      · exact ⟨_, _, rfl⟩
theorem split_step (b : UInt8) (l p : List UInt8) (r : List (List UInt8)) (hb : b ≠ 59) (h : splitB l = p :: r) : splitB (b :: l) = (b :: p) :: r := by
  simp only [splitB, hb, if_false, h]
theorem split_one (l p : List UInt8) (h : splitB l = [p]) : p = l := by
  induction l generalizing p with
  | nil => simp [splitB] at h; exact h
  | cons b l ih =>
    by_cases hb : b = 59
    · obtain ⟨q, r, hq⟩ := split_cons l
      simp [splitB, hb, hq] at h
    · obtain ⟨q, r, hq⟩ := split_cons l
      rw [split_step b l q r hb hq] at h
      obtain ⟨h1, h2⟩ := List.cons.inj h
      subst h2
      rw [← h1, ih q hq]
theorem split_until (l : List UInt8) : splitB l = (untilB 59 l).1 :: (if (untilB 59 l).2.2 = true then splitB (untilB 59 l).2.1 else []) := by
  induction l with
  | nil => rfl
  | cons b l ih =>
    by_cases hb : b = 59
    · simp [splitB, untilB, hb]
    · rw [split_step b l _ _ hb ih]
      simp only [untilB, hb, if_false]
theorem split_no (l : List UInt8) (h : ∀ b ∈ l, b ≠ 59) : splitB l = [l] := by
  induction l with
  | nil => rfl
  | cons b l ih => rw [split_step b l l [] (h b (by simp)) (ih fun c hc => h c (by simp [hc]))]
/-- a piece's fields -/
def fieldsB (l : List UInt8) : List (List UInt8) := if trimB l = [] then [] else (splitB l).map trimB
/-- a line's fields and note -/
def docCut (l : List UInt8) : List (List UInt8) × List UInt8 := (fieldsB (trimB (untilB 35 l).1), trimB (untilB 35 l).2.1)

theorem mach_split : ∀ (x : List UInt8) (n : Nat) (cur pend p : List UInt8) (r : List (List UInt8)), (∀ b ∈ x, b ≠ 35) → Firm cur → (cur = [] → pend = []) → (∀ b ∈ pend, blB b = true) → splitB x = p :: r →
    mach n cur pend x = (if n = 0 ∧ r = [] ∧ trimB (cur ++ pend ++ p) = [] then [] else trimB (cur ++ pend ++ p) :: r.map trimB, [])
  | [], n, cur, pend, p, r, _, hf, hc, hp, hs => by
    obtain ⟨rfl, rfl⟩ : [] = p ∧ [] = r := by simpa [splitB] using hs
    have e : trimB (cur ++ pend ++ []) = cur := by
      have := trim_mid [] cur pend (by simp) hp hf
      simpa using this
    rw [e]
    simp only [mach, lastF, List.map_nil, true_and]
    by_cases h0 : n = 0 ∧ cur = []
    · rw [if_pos h0, if_neg (by rintro (h | h); omega; exact h h0.2)]
    · rw [if_neg h0, if_pos (by
        by_cases hn : 0 < n
        · exact .inl hn
        · exact .inr fun e => h0 ⟨by omega, e⟩)]
  | b :: x, n, cur, pend, p, r, h35, hf, hc, hp, hs => by
    have h35' : ∀ c ∈ x, c ≠ 35 := fun c hc => h35 c (by simp [hc])
    obtain ⟨q, r', hq⟩ := split_cons x
    by_cases hb : b = 32 ∨ b = 9
    · have hne : b ≠ 59 := by rcases hb with rfl | rfl <;> decide
      have hbl : blB b = true := (blB_iff b).2 hb
      rw [split_step b x q r' hne hq] at hs
      obtain ⟨rfl, rfl⟩ := List.cons.inj hs
      simp only [mach, hb, if_true]
      by_cases he : cur = []
      · subst he
        obtain rfl := hc rfl
        rw [if_pos rfl, mach_split x n [] [] q r' h35' firm_nil (fun _ => rfl) (by simp) hq]
        have : trimB ([] ++ [] ++ b :: q) = trimB ([] ++ [] ++ q) := trim_front [b] q (by simpa using hbl)
        rw [this]
      · rw [if_neg he, mach_split x n cur (pend ++ [b]) q r' h35' hf (fun h => absurd h he) (fun c hc => by
          rcases List.mem_append.1 hc with h | h
          · exact hp c h
          · rw [List.mem_singleton.1 h]; exact hbl) hq]
        simp
    · by_cases h59 : b = 59
      · subst h59
        have e0 : splitB (59 :: x) = [] :: splitB x := by simp [splitB]
        rw [e0] at hs
        obtain ⟨rfl, rfl⟩ := List.cons.inj hs
        have e : trimB (cur ++ pend ++ []) = cur := by
          have := trim_mid [] cur pend (by simp) hp hf
          simpa using this
        have ih := mach_split x (n + 1) [] [] q r' h35' firm_nil (fun _ => rfl) (by simp) hq
        rw [e, if_neg (by rintro ⟨_, h, _⟩; rw [hq] at h; cases h)]
        simp only [mach, hb, if_false, if_true, ih]
        rw [if_neg (by rintro ⟨h, _⟩; omega), hq]
        rfl
      · have h35b : b ≠ 35 := h35 b (by simp)
        have hbl : blB b = false := (blB_not b).2 hb
        rw [split_step b x q r' h59 hq] at hs
        obtain ⟨rfl, rfl⟩ := List.cons.inj hs
        simp only [mach, hb, h59, h35b, if_false]
        rw [mach_split x n (cur ++ pend ++ [b]) [] q r' h35' ⟨?_, ?_⟩ (fun _ => rfl) (by simp) hq]
        · simp
        · intro c hc'
          by_cases he : cur = []
          · subst he
            obtain rfl := hc rfl
            simp at hc'; rw [← hc']; exact hbl
          · have hl : 0 < cur.length := List.length_pos_iff.2 he
            rw [List.append_assoc, List.getElem?_append_left hl] at hc'
            exact hf.1 c hc'
        · intro c _ hc'
          have e1 : (cur ++ pend ++ [b]).length - 1 = (cur ++ pend).length := by simp
          rw [e1, List.getElem?_append_right (Nat.le_refl _), Nat.sub_self] at hc'
          simp at hc'; rw [← hc']; exact hbl
theorem fields_mach (x : List UInt8) (h : ∀ b ∈ x, b ≠ 35) : mach 0 [] [] x = (fieldsB x, []) := by
  obtain ⟨p, r, hs⟩ := split_cons x
  rw [mach_split x 0 [] [] p r h firm_nil (fun _ => rfl) (by simp) hs]
  unfold fieldsB
  simp only [List.nil_append, true_and]
  by_cases ht : trimB x = []
  · have hx := split_no x (fun b hb e => by have := trim_none x ht b hb; rw [e] at this; exact absurd this (by decide))
    rw [hx] at hs
    obtain ⟨rfl, rfl⟩ := List.cons.inj hs
    rw [if_pos ⟨rfl, ht⟩, if_pos ht]
  · rw [if_neg ht, hs, if_neg]
    · rfl
    · rintro ⟨rfl, hp⟩
      rw [split_one x p hs] at hp
      exact ht hp
theorem mach_blanks : ∀ (y : List UInt8) (n : Nat) (cur pend : List UInt8), (∀ b ∈ y, blB b = true) → mach n cur pend y = (lastF n cur, [])
  | [], n, cur, pend, _ => rfl
  | b :: y, n, cur, pend, h => by
    have hb := (blB_iff b).1 (h b (by simp))
    have hy : ∀ c ∈ y, blB c = true := fun c hc => h c (by simp [hc])
    simp only [mach, hb, if_true]
    by_cases he : cur = []
    · rw [if_pos he, mach_blanks y n [] [] hy, he]
    · rw [if_neg he, mach_blanks y n cur _ hy]
theorem mach_back : ∀ (x y : List UInt8) (n : Nat) (cur pend : List UInt8), (∀ b ∈ x, b ≠ 35) → (∀ b ∈ y, blB b = true) → mach n cur pend (x ++ y) = mach n cur pend x
  | [], y, n, cur, pend, _, hy => by rw [List.nil_append, mach_blanks y n cur pend hy]; rfl
  | b :: x, y, n, cur, pend, hx, hy => by
    have hx' : ∀ c ∈ x, c ≠ 35 := fun c hc => hx c (by simp [hc])
    have h35 : b ≠ 35 := hx b (by simp)
    rw [List.cons_append]
    simp only [mach, h35, if_false, mach_back x y _ _ _ hx' hy]
theorem mach_front : ∀ (x y : List UInt8) (n : Nat), (∀ b ∈ x, blB b = true) → mach n [] [] (x ++ y) = mach n [] [] y
  | [], y, n, _ => rfl
  | b :: x, y, n, hx => by
    have hb := (blB_iff b).1 (hx b (by simp))
    rw [List.cons_append]
    simp only [mach, hb, if_true]
    exact mach_front x y n (fun c hc => hx c (by simp [hc]))
theorem mach_trim (x : List UInt8) (h : ∀ b ∈ x, b ≠ 35) : mach 0 [] [] (trimB x) = mach 0 [] [] x := by
  obtain ⟨x', m, y, rfl, h1, h2, h3⟩ := trim_parts x
  rw [trim_mid x' m y h1 h2 h3, List.append_assoc, mach_front x' _ 0 h1, mach_back m y 0 [] [] (fun b hb => h b (by simp [hb])) h2]
theorem until_no (c : UInt8) (l : List UInt8) : ∀ b ∈ (untilB c l).1, b ≠ c := by
  induction l with
  | nil => simp [untilB]
  | cons a l ih =>
    by_cases h : a = c
    · simp [untilB, h]
    · simp only [untilB, h, if_false]
      intro b hb
      rcases List.mem_cons.1 hb with rfl | hb
      · exact h
      · exact ih b hb
theorem mach_until : ∀ (l : List UInt8) (n : Nat) (cur pend : List UInt8), mach n cur pend l = ((mach n cur pend (untilB 35 l).1).1, trimB (untilB 35 l).2.1)
  | [], n, cur, pend => rfl
  | b :: l, n, cur, pend => by
    by_cases h35 : b = 35
    · subst h35
      simp [untilB, mach]
    · simp only [untilB, h35, if_false]
      simp only [mach, h35, if_false]
      by_cases hb : b = 32 ∨ b = 9
      · simp only [hb, if_true]
        by_cases he : cur = []
        · rw [if_pos he, if_pos he, mach_until l n [] []]
        · rw [if_neg he, if_neg he, mach_until l n cur _]
      · simp only [hb, if_false]
        by_cases h59 : b = 59
        · simp only [h59, if_true]
          rw [mach_until l (n + 1) [] []]
        · simp only [h59, if_false]
          rw [mach_until l n _ []]
theorem trim_sub (l : List UInt8) : ∀ b ∈ trimB l, b ∈ l := by
  obtain ⟨x', m, y, rfl, h1, h2, h3⟩ := trim_parts l
  rw [trim_mid x' m y h1 h2 h3]
  intro b hb; simp [hb]
theorem cut_doc (s : ByteArray) : cutS s = docCut (L s) := by
  unfold cutS docCut
  have h35 := until_no 35 (L s)
  rw [mach_until, ← mach_trim _ h35, fields_mach _ (fun b hb => h35 b (trim_sub _ b hb))]

end Go.Proofs.YtnabbahdmajfpaaGreatDoor
/-
  What a line is, by the document's definition; and that Scan's way gives the same.
-/
namespace Go.Proofs.YtnabbahdmajfpaaGreatDoor
open Go.RowKit Go.PlainAid Go.Lib Go.Shelf
set_option linter.unusedVariables false

/-- may these bytes be an order's name? -/
def namedB (l : List UInt8) : Bool := l.all (fun b => nameSignB (b.toNat : Int)) && decide (l ≠ [])
--CHARS
theorem dec_high (s : ByteArray) (i : Nat) (hi : i < s.size) (h : 128 ≤ bN s i) : 128 ≤ (Utf8.decode s i).1 := by
  rw [decode_decB s i hi]
  unfold decB
  rw [if_neg (by omega)]
  (repeat' split) <;> simp <;> omega
theorem dec_low (s : ByteArray) (i : Nat) (hi : i < s.size) (h : bN s i < 128) : Utf8.decode s i = (bN s i, 1) := by
  rw [decode_decB s i hi]
  unfold decB
  rw [if_pos h]
theorem name_high (r : Nat) (h : 128 ≤ r) : nameSignB (r : Int) = false := by
  unfold nameSignB
  rw [decide_eq_false (show ¬ ((r : Int) ≤ 90) by omega), decide_eq_false (show ¬ ((r : Int) ≤ 122) by omega), decide_eq_false (show ¬ ((r : Int) ≤ 57) by omega), decide_eq_false (show ¬ ((r : Int) = 95) by omega), decide_eq_false (show ¬ ((r : Int) = 45) by omega)]
  simp
theorem name_chars (s : ByteArray) : ∀ (k i : Nat), s.size - i ≤ k → (chars s i).all (fun p => nameSignB (p.2 : Int)) = ((L s).drop i).all (fun b => nameSignB (b.toNat : Int)) := by
  intro k
  induction k with
  | zero => intro i h; rw [chars_end s i (by omega), List.drop_of_length_le (by rw [L_len]; omega)]; rfl
  | succ k ih =>
    intro i h
    by_cases hi : i < s.size
    · rw [chars_step s i hi, drop_at s i hi, List.all_cons, List.all_cons]
      have e0 : ((s.get! i).toNat : Int) = (bN s i : Int) := rfl
      rw [e0]
      by_cases hb : bN s i < 128
      · rw [dec_low s i hi hb, ih (i + 1) (by omega)]
      · rw [name_high _ (dec_high s i hi (by omega)), name_high _ (by omega : 128 ≤ bN s i)]; rfl
    · rw [chars_end s i hi, List.drop_of_length_le (by rw [L_len]; omega)]; rfl
theorem nameB_named (l : List UInt8) : nameB (S l) = namedB l := by
  unfold nameB namedB
  rw [name_chars (S l) _ 0 (Nat.le_refl _), List.drop_zero, L_S, S_size]
  congr 1
  rw [Bool.eq_iff_iff]
  simp [List.length_pos_iff]
--END
theorem named_ne (l : List UInt8) (h : namedB l = true) : ∀ b ∈ l, b ≠ 35 := by
  intro b hb e
  unfold namedB at h
  simp only [Bool.and_eq_true, List.all_eq_true] at h
  have := h.1 b hb
  rw [e] at this
  exact absurd this (by decide)

def docScan (no : Int) (l : List UInt8) : LineD × Int :=
  if trimB (untilB 35 l).1 = [] then
    (if hasPrefix (trimB (untilB 35 l).2.1) missingL = true then (⟨no, 3, [], (docCut ((trimB (untilB 35 l).2.1).drop 9)).1, (docCut ((trimB (untilB 35 l).2.1).drop 9)).2⟩, 0)
     else (⟨no, 0, [], [], trimB (untilB 35 l).2.1⟩, 0))
  else if (trimB (untilB 35 l).1)[0]? = some 64 then
    (if ((untilB 58 ((trimB (untilB 35 l).1).drop 1)).2.2 && namedB (untilB 58 ((trimB (untilB 35 l).1).drop 1)).1) = true then
      (⟨no, 2, (untilB 58 ((trimB (untilB 35 l).1).drop 1)).1, fieldsB (untilB 58 ((trimB (untilB 35 l).1).drop 1)).2.1, trimB (untilB 35 l).2.1⟩, 0) else (zeroD, 33))
  else (⟨no, 1, [], fieldsB (trimB (untilB 35 l).1), trimB (untilB 35 l).2.1⟩, 0)

theorem until_app_no (c : UInt8) : ∀ (x l : List UInt8), (∀ b ∈ x, b ≠ c) → untilB c (x ++ l) = (x ++ (untilB c l).1, (untilB c l).2.1, (untilB c l).2.2)
  | [], l, _ => rfl
  | b :: x, l, h => by
    have hb : b ≠ c := h b (by simp)
    rw [List.cons_append]
    simp only [untilB, hb, if_false, until_app_no c x l (fun d hd => h d (by simp [hd]))]
    rfl
theorem until_hit (c : UInt8) (p q : List UInt8) (h : ∀ b ∈ p, b ≠ c) : untilB c (p ++ c :: q) = (p, q, true) := by
  rw [until_app_no c p _ h]; simp [untilB]
theorem until_miss (c : UInt8) (p : List UInt8) (h : ∀ b ∈ p, b ≠ c) : untilB c p = (p, [], false) := by
  have := until_app_no c p [] h
  simpa [untilB] using this
theorem until_cases (c : UInt8) (l : List UInt8) : ((∀ b ∈ l, b ≠ c) ∧ untilB c l = (l, [], false)) ∨ ∃ p q, l = p ++ c :: q ∧ (∀ b ∈ p, b ≠ c) ∧ untilB c l = (p, q, true) := by
  induction l with
  | nil => exact .inl ⟨by simp, rfl⟩
  | cons a l ih =>
    by_cases h : a = c
    · subst h; exact .inr ⟨[], l, rfl, by simp, by simp [untilB]⟩
    · rcases ih with ⟨h1, h2⟩ | ⟨p, q, rfl, h1, h2⟩
      · exact .inl ⟨by intro b hb; rcases List.mem_cons.1 hb with rfl | hb; exact h; exact h1 b hb, by simp [untilB, h, h2]⟩
      · exact .inr ⟨a :: p, q, rfl, by intro b hb; rcases List.mem_cons.1 hb with rfl | hb; exact h; exact h1 b hb, by simp [untilB, h, h2]⟩
theorem blank_ne (c : UInt8) (hc : blB c = false) (x : List UInt8) (hx : ∀ b ∈ x, blB b = true) : ∀ b ∈ x, b ≠ c := fun b hb e => by rw [← e, hx b hb] at hc; cases hc
theorem trim_back (l y : List UInt8) (hy : ∀ b ∈ y, blB b = true) : trimB (l ++ y) = trimB l := by
  obtain ⟨x', m, z, rfl, h1, h2, h3⟩ := trim_parts l
  rw [trim_mid x' m z h1 h2 h3, List.append_assoc]
  exact trim_mid x' m (z ++ y) h1 (fun b hb => by rcases List.mem_append.1 hb with h | h; exact h2 b h; exact hy b h) h3
theorem docCut_mach (l : List UInt8) : docCut l = mach 0 [] [] l := by
  have := cut_doc (S l)
  unfold cutS at this
  rw [L_S] at this
  exact this.symm
theorem docCut_back (l y : List UInt8) (hy : ∀ b ∈ y, blB b = true) : docCut (l ++ y) = docCut l := by
  rw [docCut_mach, docCut_mach]
  rcases until_cases 35 l with ⟨h1, _⟩ | ⟨p, q, rfl, h1, h2⟩
  · exact mach_back l y 0 [] [] h1 hy
  · rw [mach_until, mach_until (p ++ 35 :: q), List.append_assoc, List.cons_append, until_hit 35 p _ h1, until_hit 35 p _ h1, trim_back q y hy]
theorem fields_back (l y : List UInt8) (hl : ∀ b ∈ l, b ≠ 35) (hy : ∀ b ∈ y, blB b = true) : fieldsB (l ++ y) = fieldsB l := by
  have h1 := fields_mach l hl
  have h2 := fields_mach (l ++ y) (fun b hb => by
    rcases List.mem_append.1 hb with h | h
    · exact hl b h
    · exact blank_ne 35 (by decide) y hy b h)
  rw [mach_back l y 0 [] [] hl hy, h1] at h2
  exact (congrArg Prod.fst h2).symm
theorem fields_trim (l : List UInt8) (hl : ∀ b ∈ l, b ≠ 35) : fieldsB (trimB l) = fieldsB l := by
  have h1 := fields_mach l hl
  have h2 := fields_mach (trimB l) (fun b hb => hl b (trim_sub l b hb))
  rw [mach_trim l hl, h1] at h2
  exact (congrArg Prod.fst h2).symm
/-- a text whose first byte but blanks is @ -/
theorem trim_at (c : UInt8) (hc : blB c = false) (r : List UInt8) : ∃ r' y, r = r' ++ y ∧ (∀ b ∈ y, blB b = true) ∧ trimB (c :: r) = c :: r' := by
  obtain ⟨x, m, y, he, h1, h2, h3⟩ := trim_parts (c :: r)
  cases x with
  | cons a x =>
    have ha := h1 a (by simp)
    obtain ⟨e, _⟩ := List.cons.inj (show c :: r = a :: (x ++ m ++ y) from he)
    rw [← e, hc] at ha; cases ha
  | nil =>
    cases m with
    | nil =>
      rw [List.nil_append, List.nil_append] at he
      have := h2 c (by rw [← he]; simp)
      rw [hc] at this; cases this
    | cons a m =>
      obtain ⟨e, e2⟩ := List.cons.inj (show c :: r = a :: (m ++ y) from he)
      subst e
      refine ⟨m, y, e2, h2, ?_⟩
      rw [he]; exact trim_mid [] (c :: m) y (by simp) h2 h3
theorem trim_first (l : List UInt8) (c : UInt8) (m : List UInt8) (h : trimB l = c :: m) : ∃ x r, l = x ++ c :: r ∧ (∀ b ∈ x, blB b = true) ∧ blB c = false := by
  obtain ⟨x, m', y, rfl, h1, h2, h3⟩ := trim_parts l
  rw [trim_mid x m' y h1 h2 h3] at h
  subst h
  exact ⟨x, m ++ y, by simp, h1, h3.1 c rfl⟩
theorem fields_ne (l : List UInt8) (h : trimB l ≠ []) : fieldsB l ≠ [] := by
  unfold fieldsB
  rw [if_neg h]
  obtain ⟨p, r, hs⟩ := split_cons l
  rw [hs]; simp
theorem trim_twice (l : List UInt8) : trimB (trimB l) = trimB l := by
  obtain ⟨x, m, y, rfl, h1, h2, h3⟩ := trim_parts l
  rw [trim_mid x m y h1 h2 h3]; exact trim_firm m h3
theorem until_rest (c : UInt8) (l : List UInt8) : ∃ r2, l = (untilB c l).1 ++ r2 ∧ ((r2 = [] ∧ (untilB c l).2.1 = []) ∨ r2 = c :: (untilB c l).2.1) := by
  rcases until_cases c l with ⟨_, h⟩ | ⟨p, q, rfl, _, h⟩
  · rw [h]; exact ⟨[], by simp, .inl ⟨rfl, rfl⟩⟩
  · rw [h]; exact ⟨c :: q, rfl, .inr rfl⟩

theorem order_doc (no : Int) (x r r' y : List UInt8) (hx : ∀ b ∈ x, blB b = true) (hy : ∀ b ∈ y, blB b = true) (hr : r = r' ++ y) : orderS no r' = docScan no (x ++ 64 :: r) := by
  have hx35 := blank_ne 35 (by decide) x hx
  have eU : untilB 35 (x ++ 64 :: r) = (x ++ 64 :: (untilB 35 r).1, (untilB 35 r).2.1, (untilB 35 r).2.2) := by
    rw [until_app_no 35 x _ hx35]; simp [untilB]
  obtain ⟨r1', y1, hr1, hy1, hT⟩ := trim_at 64 (by decide) (untilB 35 r).1
  have eH : trimB (untilB 35 (x ++ 64 :: r)).1 = 64 :: r1' := by rw [eU]; exact (trim_front x _ hx).trans hT
  unfold docScan
  rw [eH, if_neg (by simp), if_pos (show (64 :: r1')[0]? = some (64 : UInt8) from rfl), List.drop_one, List.tail_cons, eU]
  simp only []
  have h35 := until_no 35 r
  obtain ⟨r2, hr2, hc2⟩ := until_rest 35 r
  rw [hr1] at h35 hr2
  generalize (untilB 35 r).2.1 = r3 at *
  unfold orderS
  rcases until_cases 58 r1' with ⟨k1, k2⟩ | ⟨p, q', rfl, k1, k2⟩
  · simp only [k2, Bool.false_and, Bool.false_eq_true, if_false]
    rcases until_cases 58 r' with ⟨j1, j2⟩ | ⟨p, q, rfl, j1, j2⟩
    · simp only [j2, Bool.false_and, Bool.false_eq_true, if_false]
    · simp only [j2, Bool.true_and]
      rw [if_neg]
      intro hn
      rw [nameB_named] at hn
      have hp35 := named_ne p hn
      -- the colon stands behind a 35
      have hcol : (58 : UInt8) ∈ r := by rw [hr]; simp
      rw [hr2] at hcol
      rcases List.mem_append.1 hcol with h | h
      · rcases List.mem_append.1 h with h | h
        · exact k1 58 h rfl
        · exact blank_ne 58 (by decide) y1 hy1 58 h rfl
      · rcases hc2 with ⟨rfl, _⟩ | rfl
        · cases h
        · have e : r1' ++ y1 ++ 35 :: r3 = p ++ 58 :: q ++ y := hr2.symm.trans hr
          have h58 : ∀ b ∈ r1' ++ y1, b ≠ 58 := fun b hb => by
            rcases List.mem_append.1 hb with h | h
            · exact k1 b h
            · exact blank_ne 58 (by decide) y1 hy1 b h
          have := congrArg (untilB 58) (e.trans (show p ++ 58 :: q ++ y = p ++ 58 :: (q ++ y) by simp))
          rw [until_app_no 58 _ _ h58, until_hit 58 p _ j1] at this
          have e1 : r1' ++ y1 ++ (untilB 58 (35 :: r3)).1 = p := congrArg Prod.fst this
          have : (35 : UInt8) ∈ p := by
            rw [← e1]; simp [untilB]
          exact hp35 35 this rfl
  · rw [k2]
    have e : p ++ 58 :: (q' ++ y1 ++ r2) = r' ++ y := by rw [← hr, hr2]; simp
    have hy58 := blank_ne 58 (by decide) y hy
    obtain ⟨b', hb1, hb2⟩ : ∃ b', r' = p ++ 58 :: b' ∧ q' ++ y1 ++ r2 = b' ++ y := by
      rcases until_cases 58 r' with ⟨j1, j2⟩ | ⟨p2, q2, rfl, j1, j2⟩
      · exfalso
        have : (58 : UInt8) ∈ r' ++ y := by rw [← e]; simp
        rcases List.mem_append.1 this with h | h
        · exact j1 58 h rfl
        · exact hy58 58 h rfl
      · have e' : p ++ 58 :: (q' ++ y1 ++ r2) = p2 ++ 58 :: (q2 ++ y) := e.trans (by simp)
        have := congrArg (untilB 58) e'
        rw [until_hit 58 p _ k1, until_hit 58 p2 _ j1] at this
        have e1 : p = p2 := congrArg Prod.fst this
        have e2 : q' ++ y1 ++ r2 = q2 ++ y := congrArg (fun z => z.2.1) this
        exact ⟨q2, by rw [e1], e2⟩
    subst hb1
    rw [until_hit 58 p b' k1, nameB_named]
    have hq35 : ∀ b ∈ q' ++ y1, b ≠ 35 := fun b hb => h35 b (by
      rcases List.mem_append.1 hb with h | h <;> simp [h])
    have eB : cutS (S b') = (fieldsB q', trimB r3) := by
      rw [cut_doc, L_S, ← docCut_back b' y hy, ← hb2]
      unfold docCut
      have : untilB 35 (q' ++ y1 ++ r2) = (q' ++ y1, r3, (untilB 35 r2).2.2) := by
        rw [until_app_no 35 _ _ hq35]
        rcases hc2 with ⟨rfl, h⟩ | rfl
        · rw [h]; simp [untilB]
        · simp [untilB]
      rw [this]
      simp only []
      rw [fields_trim _ hq35, fields_back q' y1 (fun b hb => hq35 b (by simp [hb])) hy1]
    rw [eB]
theorem scan_doc (no : Int) (s : ByteArray) : scanS no s = if (chkS s).2 ≠ 0 then (zeroD, (chkS s).2) else docScan no (L s) := by
  unfold scanS
  by_cases hc : (chkS s).2 ≠ 0
  · rw [if_pos hc, if_pos hc]
  · rw [if_neg hc, if_neg hc]
    by_cases hp : hasPrefix (trimB (L s)) [64] = true
    · rw [if_pos hp]
      obtain ⟨t, ht⟩ := List.isPrefixOf_iff_prefix.1 hp
      obtain ⟨x, r, hl, hx, _⟩ := trim_first (L s) 64 t ht.symm
      obtain ⟨r', y, hr, hy, hT⟩ := trim_at 64 (by decide) r
      have e1 : trimB (L s) = 64 :: r' := by rw [hl, trim_front x _ hx]; exact hT
      rw [e1, hl]
      exact order_doc no x r r' y hx hy hr
    · rw [if_neg hp]
      have hne : ¬ (trimB (untilB 35 (L s)).1)[0]? = some 64 := by
        intro h
        apply hp
        cases hm : trimB (untilB 35 (L s)).1 with
        | nil => rw [hm] at h; simp at h
        | cons c m =>
          rw [hm] at h
          obtain rfl : c = 64 := by simpa using h
          obtain ⟨x, r, hl, hx, hb⟩ := trim_first _ _ _ hm
          obtain ⟨r2, hr2, _⟩ := until_rest 35 (L s)
          rw [hl] at hr2
          obtain ⟨r', y, hr, hy, hT⟩ := trim_at 64 (by decide) (r ++ r2)
          have : trimB (L s) = 64 :: r' := by
            rw [hr2, List.append_assoc, trim_front x _ hx, List.cons_append]; exact hT
          rw [this]; simp [hasPrefix]
      unfold docScan plainS
      rw [cut_doc]
      unfold docCut
      simp only []
      by_cases hh : trimB (untilB 35 (L s)).1 = []
      · rw [hh, if_pos rfl]
        have : fieldsB [] = [] := by decide
        rw [this, if_neg (by simp)]
        by_cases hm : hasPrefix (trimB (untilB 35 (L s)).2.1) missingL = true
        · rw [if_pos hm, if_pos hm, cut_doc, L_S]; rfl
        · rw [if_neg hm, if_neg hm]
      · rw [if_neg hh, if_neg hne, if_pos (fields_ne _ (by rw [trim_twice]; exact hh))]

end Go.Proofs.YtnabbahdmajfpaaGreatDoor
/-
  Lines by the document's definition: where the next end stands, and what is left behind it.
-/
namespace Go.Proofs.YtnabbahdmajfpaaGreatDoor
open Go.RowKit Go.PlainAid Go.Lib Go.Shelf
set_option linter.unusedVariables false

theorem nl_found (s : ByteArray) (a i : Nat) (h1 : a ≤ i) (h2 : i < s.size) (h3 : bN s i = 10) (h4 : ∀ j, a ≤ j → j < i → bN s j ≠ 10) : nlN s a = ((i - a : Nat) : Int) := by
  rcases nl_spec s a with ⟨_, k⟩ | ⟨n, k1, k2, k3, k4⟩
  · exact absurd h3 (k i h1 h2)
  · rw [k1]
    have : a + n = i := by
      rcases Nat.lt_trichotomy (a + n) i with h | h | h
      · exact absurd k3 (h4 _ (by omega) h)
      · exact h
      · exact absurd h3 (k4 i h1 h)
    have : n = i - a := by omega
    rw [this]
theorem nl_none (s : ByteArray) (a : Nat) (h4 : ∀ j, a ≤ j → j < s.size → bN s j ≠ 10) : nlN s a = -1 := by
  rcases nl_spec s a with ⟨k, _⟩ | ⟨n, k1, k2, k3, k4⟩
  · exact k
  · exact absurd k3 (h4 _ (by omega) k2)
/-- the lines from the place i on, the first one with the number no -/
def linesI (s : ByteArray) (no i : Nat) : List (Nat × Nat × Nat) := (extsI s no i).takeWhile fun x => x.2.1 != s.size
theorem linesI_end (s : ByteArray) (no : Nat) : linesI s no s.size = [] := by
  unfold linesI
  rw [extsI_step s no _ (Nat.le_refl _), List.takeWhile_cons]
  simp
theorem linesI_found (s : ByteArray) (no a i : Nat) (h1 : a ≤ i) (h2 : i < s.size) (h3 : bN s i = 10) (h4 : ∀ j, a ≤ j → j < i → bN s j ≠ 10) :
    linesI s no a = (no, a, endTo s a) :: linesI s (no + 1) (i + 1) ∧ endTo s a = (if a < i ∧ bN s (i - 1) = 13 then i - 1 else i) ∧ endNext s a = i + 1 := by
  have hn := nl_found s a i h1 h2 h3 h4
  have e1 : endNext s a = i + 1 := by
    unfold endNext; rw [hn, if_neg (by omega), Int.toNat_natCast]; omega
  have e2 : hasEnd s a = true := by unfold hasEnd; rw [hn]; exact decide_eq_true (by omega)
  refine ⟨?_, ?_, e1⟩
  · unfold linesI
    rw [extsI_step s no a (by omega), List.takeWhile_cons, if_pos (by simp; omega), e2, if_pos rfl, e1]
  · unfold endTo
    rw [hn, if_neg (by omega), Int.toNat_natCast, show a + (i - a) = i by omega]
    by_cases h : a < i ∧ bN s (i - 1) = 13
    · rw [if_pos ⟨by omega, h.2⟩, if_pos h]
    · rw [if_neg (fun k => h ⟨by omega, k.2⟩), if_neg h]
theorem linesI_last (s : ByteArray) (no a : Nat) (h2 : a < s.size) (h4 : ∀ j, a ≤ j → j < s.size → bN s j ≠ 10) :
    linesI s no a = [(no, a, s.size)] ∧ endNext s a = s.size := by
  have hn := nl_none s a h4
  refine ⟨?_, by unfold endNext; rw [hn]; rfl⟩
  have e2 : hasEnd s a = false := by unfold hasEnd; rw [hn]; rfl
  unfold linesI
  rw [extsI_step s no a (by omega), List.takeWhile_cons, if_pos (by simp; omega), e2]
  simp [endTo, hn]
theorem linesL_I (s : ByteArray) : linesI s 1 (markN s) = linesL s := rfl
/-- numbers of lines -/
theorem extsI_no (s : ByteArray) : ∀ (k no i : Nat), s.size - i ≤ k → i ≤ s.size → ∀ j x, (extsI s no i)[j]? = some x → x.1 = no + j := by
  intro k
  induction k with
  | zero =>
    intro no i hk hi j x hx
    have hb := end_bounds s i hi
    rw [extsI_step s no i hi] at hx
    cases j with
    | zero => simp at hx; rw [← hx]; rfl
    | succ j =>
      split at hx
      · rename_i he; have := hb.2.2.2.2.1 he; omega
      · simp at hx
  | succ k ih =>
    intro no i hk hi j x hx
    have hb := end_bounds s i hi
    rw [extsI_step s no i hi] at hx
    cases j with
    | zero => simp at hx; rw [← hx]; rfl
    | succ j =>
      split at hx
      · rename_i he
        have h5 := hb.2.2.2.2.1 he
        have := ih (no + 1) (endNext s i) (by omega) hb.2.2.2.1 j x (by simpa using hx)
        omega
      · simp at hx
theorem tw_get {α : Type} (p : α → Bool) : ∀ (l : List α) (j : Nat) (x : α), (l.takeWhile p)[j]? = some x → l[j]? = some x := by
  intro l
  induction l with
  | nil => intro j x h; simp at h
  | cons a l ih =>
    intro j x h
    rw [List.takeWhile_cons] at h
    split at h
    · cases j with
      | zero => simpa using h
      | succ j => simpa using ih j x (by simpa using h)
    · simp at h
theorem lines_no (s : ByteArray) (j : Nat) (x : Nat × Nat × Nat) (h : (linesL s)[j]? = some x) : x.1 = j + 1 := by
  have := extsI_no s _ 1 (markN s) (Nat.le_refl _) (mark_le s) j x (tw_get _ _ j x h)
  omega
theorem lines_mem (s : ByteArray) (x : Nat × Nat × Nat) (h : x ∈ linesL s) : x.2.1 ≤ x.2.2 ∧ x.2.2 ≤ s.size ∧ 1 ≤ x.1 ∧ x.1 ≤ s.size + 1 :=
  exts_mem s x ((List.takeWhile_sublist _).subset h)
theorem lines_len (s : ByteArray) : (linesL s).length ≤ s.size := by
  have h0 : ∀ (k no i : Nat), s.size - i ≤ k → i ≤ s.size → (linesI s no i).length ≤ s.size - i := by
    intro k
    induction k with
    | zero =>
      intro no i hk hi
      obtain rfl : i = s.size := by omega
      rw [linesI_end]; simp
    | succ k ih =>
      intro no i hk hi
      by_cases he : i = s.size
      · subst he; rw [linesI_end]; simp
      · unfold linesI
        rw [extsI_step s no i hi, List.takeWhile_cons, if_pos (by simpa using he)]
        have hb := end_bounds s i hi
        split
        · rename_i hh
          have h5 := hb.2.2.2.2.1 hh
          have := ih (no + 1) (endNext s i) (by omega) hb.2.2.2.1
          unfold linesI at this
          simp only [List.length_cons]; omega
        · simp; omega
  have := h0 _ 1 (markN s) (Nat.le_refl _) (mark_le s)
  rw [linesL_I] at this; omega

theorem mark_iff (s : ByteArray) : hasPrefix (L s) [239, 187, 191] = decide (3 ≤ s.size ∧ bN s 0 = 239 ∧ bN s 1 = 187 ∧ bN s 2 = 191) := by
  have hb : ∀ i (c : UInt8), i < s.size → ((L s)[i]? = some c ↔ bN s i = c.toNat) := by
    intro i c hi
    rw [L_at s i hi]
    unfold bN
    exact ⟨fun h => by rw [Option.some.inj h], fun h => by rw [UInt8.toNat.inj h]⟩
  rw [Bool.eq_iff_iff, decide_eq_true_eq]
  unfold hasPrefix
  rw [List.isPrefixOf_iff_prefix]
  constructor
  · rintro ⟨t, ht⟩
    have hl : 3 ≤ s.size := by rw [← L_len, ← ht]; simp
    refine ⟨hl, (hb 0 239 (by omega)).1 (by rw [← ht]; rfl), (hb 1 187 (by omega)).1 (by rw [← ht]; rfl), (hb 2 191 (by omega)).1 (by rw [← ht]; rfl)⟩
  · rintro ⟨hl, h0, h1, h2⟩
    refine ⟨(L s).drop 3, ?_⟩
    have k0 := (hb 0 239 (by omega)).2 h0
    have k1 := (hb 1 187 (by omega)).2 h1
    have k2 := (hb 2 191 (by omega)).2 h2
    generalize L s = l at *
    match l, k0, k1, k2 with
    | a :: b :: c :: r, k0, k1, k2 =>
      simp at k0 k1 k2
      rw [k0, k1, k2]; rfl
    | [], k0, _, _ => simp at k0
    | [a], _, k1, _ => simp at k1
    | [a, b], _, _, k2 => simp at k2
theorem markN_eq (s : ByteArray) : markN s = if 3 ≤ s.size ∧ bN s 0 = 239 ∧ bN s 1 = 187 ∧ bN s 2 = 191 then 3 else 0 := by
  unfold markN
  rw [mark_iff]
  simp only [decide_eq_true_eq]
end Go.Proofs.YtnabbahdmajfpaaGreatDoor
/-
  The law's function all (furrowlaw03): the lines that Each tells, the first few of them, or all.
-/
namespace Go.Proofs.YtnabbahdmajfpaaGreatDoor
open Go.RowKit Go.PlainAid Go.Lib Go.Shelf Go.Seq2 Go.Seq3
attribute [local go_sem] Oper.semAt_some
set_option linter.unusedVariables false

/-- the cells of the lines that were told -/
def toldCs (s : ByteArray) (l : List (Nat × Nat × Nat)) : List Value := l.flatMap fun x => [.int .i64 (x.1 : Nat), .string (s.extract x.2.1 x.2.2)]
theorem toldCs_snoc (s : ByteArray) (l : List (Nat × Nat × Nat)) (x : Nat × Nat × Nat) : toldCs s (l ++ [x]) = toldCs s l ++ [.int .i64 (x.1 : Nat), .string (s.extract x.2.1 x.2.2)] := by simp [toldCs]
/-- how many are told -/
def nOf (s : ByteArray) (few : Int) : Nat := if 1 ≤ few ∧ few < (linesL s).length then few.toNat else (linesL s).length
theorem take_n (s : ByteArray) (few : Int) (pre : List (Nat × Nat × Nat)) (hp : pre <+: linesL s) (h1 : 1 ≤ few) (h2 : (pre.length : Int) = few) : (linesL s).take (nOf s few) = pre ∧ nOf s few = pre.length := by
  obtain ⟨r, hr⟩ := hp
  have hl := congrArg List.length hr
  rw [List.length_append] at hl
  unfold nOf
  by_cases h : few < (linesL s).length
  · rw [if_pos ⟨h1, h⟩]
    have : few.toNat = pre.length := by omega
    rw [this, ← hr, List.take_left' rfl]; exact ⟨rfl, rfl⟩
  · rw [if_neg (fun k => h k.2), List.take_of_length_le (Nat.le_refl _)]
    have : r = [] := List.length_eq_zero_iff.1 (by omega)
    rw [this, List.append_nil] at hr
    rw [hr]; exact ⟨rfl, rfl⟩
theorem take_all (s : ByteArray) (few : Int) (h : ¬ (1 ≤ few ∧ few ≤ ((linesL s).length : Int))) : (linesL s).take (nOf s few) = linesL s ∧ nOf s few = (linesL s).length := by
  unfold nOf
  rw [if_neg (fun k => h ⟨k.1, by omega⟩), List.take_of_length_le (Nat.le_refl _)]; exact ⟨rfl, rfl⟩

end Go.Proofs.YtnabbahdmajfpaaGreatDoor
/-
  The lines of two texts, one behind the other, where the first ends with an end.
-/
namespace Go.Proofs.YtnabbahdmajfpaaGreatDoor
open Go.RowKit Go.PlainAid Go.Lib Go.Shelf
set_option linter.unusedVariables false

theorem app_size (a b : ByteArray) : (a ++ b).size = a.size + b.size := ByteArray.size_append
theorem L_app (a b : ByteArray) : L (a ++ b) = L a ++ L b := by
  simp [L, ByteArray.data_append]
theorem bN_lt_app (a b : ByteArray) (i : Nat) (h : i < a.size) : bN (a ++ b) i = bN a i := by
  have h1 := L_at (a ++ b) i (by rw [app_size]; omega)
  rw [L_app, List.getElem?_append_left (by rw [L_len]; exact h), L_at a i h] at h1
  unfold bN; rw [Option.some.inj h1]
theorem bN_ge_app (a b : ByteArray) (i : Nat) (h : i < b.size) : bN (a ++ b) (a.size + i) = bN b i := by
  have h1 := L_at (a ++ b) (a.size + i) (by rw [app_size]; omega)
  rw [L_app, List.getElem?_append_right (by rw [L_len]; omega), L_len, Nat.add_sub_cancel_left, L_at b i h] at h1
  unfold bN; rw [Option.some.inj h1]
theorem nl_first (a b : ByteArray) (i : Nat) (hi : i < a.size) (hl : bN a (a.size - 1) = 10) : nlN (a ++ b) i = nlN a i ∧ 0 ≤ nlN a i := by
  rcases nl_spec a i with ⟨_, h⟩ | ⟨n, h1, h2, h3, h4⟩
  · exact absurd hl (h _ (by omega) (by omega))
  · refine ⟨?_, by omega⟩
    rw [h1, nl_found (a ++ b) i (i + n) (by omega) (by rw [app_size]; omega) (by rw [bN_lt_app a b _ h2]; exact h3) (fun j g1 g2 => by rw [bN_lt_app a b j (by omega)]; exact h4 j g1 g2)]
    congr 1; omega
theorem nl_second (a b : ByteArray) (i : Nat) (hi : i ≤ b.size) : nlN (a ++ b) (a.size + i) = nlN b i := by
  rcases nl_spec b i with ⟨h1, h⟩ | ⟨n, h1, h2, h3, h4⟩
  · rw [h1]
    refine nl_none (a ++ b) _ (fun j g1 g2 => ?_)
    rw [app_size] at g2
    have := h (j - a.size) (by omega) (by omega)
    rw [← bN_ge_app a b (j - a.size) (by omega), show a.size + (j - a.size) = j by omega] at this
    exact this
  · rw [h1, nl_found (a ++ b) (a.size + i) (a.size + i + n) (by omega) (by rw [app_size]; omega) (by rw [show a.size + i + n = a.size + (i + n) by omega, bN_ge_app a b _ h2]; exact h3) (fun j g1 g2 => by
      have := h4 (j - a.size) (by omega) (by omega)
      rw [← bN_ge_app a b (j - a.size) (by omega), show a.size + (j - a.size) = j by omega] at this
      exact this)]
    congr 1; omega
theorem end_first (a b : ByteArray) (i : Nat) (hi : i < a.size) (hl : bN a (a.size - 1) = 10) : endTo (a ++ b) i = endTo a i ∧ endNext (a ++ b) i = endNext a i ∧ hasEnd (a ++ b) i = true ∧ hasEnd a i = true := by
  obtain ⟨h1, h2⟩ := nl_first a b i hi hl
  have hb := nl_spec a i
  unfold endTo endNext hasEnd
  rw [h1]
  have hn : ¬ nlN a i < 0 := by omega
  simp only [hn, if_false, h2, decide_true, and_true]
  rcases hb with ⟨k, _⟩ | ⟨n, k1, k2, k3, _⟩
  · omega
  · rw [k1]
    simp only [Int.toNat_natCast]
    by_cases hc : 0 < (n : Int)
    · rw [bN_lt_app a b (i + n - 1) (by omega)]
    · simp only [hc, false_and, if_false]
theorem end_second (a b : ByteArray) (i : Nat) (hi : i ≤ b.size) : endTo (a ++ b) (a.size + i) = a.size + endTo b i ∧ endNext (a ++ b) (a.size + i) = a.size + endNext b i ∧ hasEnd (a ++ b) (a.size + i) = hasEnd b i := by
  have h1 := nl_second a b i hi
  unfold endTo endNext hasEnd
  rw [h1, app_size]
  rcases nl_spec b i with ⟨k, _⟩ | ⟨n, k1, k2, k3, _⟩
  · rw [k]; simp
  · rw [k1]
    have hn : ¬ (n : Int) < 0 := by omega
    simp only [hn, if_false, Int.toNat_natCast]
    refine ⟨?_, by omega, trivial⟩
    by_cases hc : 0 < (n : Int)
    · have : bN (a ++ b) (a.size + i + n - 1) = bN b (i + n - 1) := by
        rw [show a.size + i + n - 1 = a.size + (i + n - 1) by omega, bN_ge_app a b _ (by omega)]
      rw [this]
      by_cases h13 : bN b (i + n - 1) = 13
      · rw [if_pos ⟨hc, h13⟩, if_pos ⟨hc, h13⟩]; omega
      · rw [if_neg (fun h => h13 h.2), if_neg (fun h => h13 h.2)]; omega
    · rw [if_neg (fun h => hc h.1), if_neg (fun h => hc h.1)]; omega
/-- a line of the second text, behind the first one -/
def shiftL (d k : Nat) (x : Nat × Nat × Nat) : Nat × Nat × Nat := (x.1 + d, k + x.2.1, k + x.2.2)
theorem lines_second (a b : ByteArray) : ∀ (k no i d : Nat), b.size - i ≤ k → i ≤ b.size → linesI (a ++ b) (no + d) (a.size + i) = (linesI b no i).map (shiftL d a.size) := by
  intro k
  induction k with
  | zero =>
    intro no i d hk hi
    obtain rfl : i = b.size := by omega
    have := linesI_end (a ++ b) (no + d)
    rw [app_size] at this
    rw [this, linesI_end]; rfl
  | succ k ih =>
    intro no i d hk hi
    by_cases he : i = b.size
    · subst he
      have := linesI_end (a ++ b) (no + d)
      rw [app_size] at this
      rw [this, linesI_end]; rfl
    · have h2 := end_second a b i hi
      have hb := end_bounds b i hi
      have l1 : linesI (a ++ b) (no + d) (a.size + i) = (no + d, a.size + i, endTo (a ++ b) (a.size + i)) :: (if hasEnd (a ++ b) (a.size + i) = true then linesI (a ++ b) (no + d + 1) (endNext (a ++ b) (a.size + i)) else []) := by
        unfold linesI
        rw [extsI_step (a ++ b) (no + d) _ (by rw [app_size]; omega), List.takeWhile_cons, if_pos (by rw [app_size]; simp; omega)]
        split <;> rfl
      have l2 : linesI b no i = (no, i, endTo b i) :: (if hasEnd b i = true then linesI b (no + 1) (endNext b i) else []) := by
        unfold linesI
        rw [extsI_step b no i hi, List.takeWhile_cons, if_pos (by simpa using he)]
        split <;> rfl
      rw [l1, l2, h2.1, h2.2.1, h2.2.2, List.map_cons]
      cases hh : hasEnd b i with
      | false => simp [shiftL]
      | true =>
        have h5 := hb.2.2.2.2.1 hh
        simp only [if_true]
        have := ih (no + 1) (endNext b i) d (by omega) hb.2.2.2.1
        rw [show no + 1 + d = no + d + 1 by omega] at this
        rw [this]; rfl
theorem lines_first (a b : ByteArray) (hl : bN a (a.size - 1) = 10) : ∀ (k no i : Nat), a.size - i ≤ k → i ≤ a.size → linesI (a ++ b) no i = linesI a no i ++ linesI (a ++ b) (no + (linesI a no i).length) a.size := by
  intro k
  induction k with
  | zero =>
    intro no i hk hi
    obtain rfl : i = a.size := by omega
    rw [linesI_end a]; simp
  | succ k ih =>
    intro no i hk hi
    by_cases he : i = a.size
    · subst he; rw [linesI_end a]; simp
    · have h2 := end_first a b i (by omega) hl
      have hb := end_bounds a i hi
      have h5 := hb.2.2.2.2.1 h2.2.2.2
      have l1 : linesI (a ++ b) no i = (no, i, endTo a i) :: linesI (a ++ b) (no + 1) (endNext a i) := by
        unfold linesI
        rw [extsI_step (a ++ b) no _ (by rw [app_size]; omega), List.takeWhile_cons, if_pos (by rw [app_size]; simp; omega), h2.1, h2.2.1, h2.2.2.1, if_pos rfl]
      have l2 : linesI a no i = (no, i, endTo a i) :: linesI a (no + 1) (endNext a i) := by
        unfold linesI
        rw [extsI_step a no i hi, List.takeWhile_cons, if_pos (by simpa using he), h2.2.2.2, if_pos rfl]
      rw [l1, l2, ih (no + 1) (endNext a i) (by omega) hb.2.2.2.1]
      simp [Nat.add_assoc, Nat.add_comm]
theorem mark_app (a b : ByteArray) (h0 : 0 < a.size) (hl : bN a (a.size - 1) = 10) : markN (a ++ b) = markN a := by
  rw [markN_eq, markN_eq, app_size]
  by_cases h3 : 3 ≤ a.size
  · rw [bN_lt_app a b 0 (by omega), bN_lt_app a b 1 (by omega), bN_lt_app a b 2 (by omega)]
    simp only [h3, show 3 ≤ a.size + b.size by omega]
  · rw [if_neg (c := 3 ≤ a.size ∧ _) (fun h => h3 h.1), if_neg]
    rintro ⟨_, k0, k1, k2⟩
    rw [bN_lt_app a b 0 (by omega)] at k0
    rcases (by omega : a.size = 1 ∨ a.size = 2) with h | h
    · rw [h] at hl; simp at hl; omega
    · rw [bN_lt_app a b 1 (by omega)] at k1
      rw [h] at hl; simp at hl; omega
/-- the lines of both -/
theorem lines_app (a b : ByteArray) (h0 : 0 < a.size) (hl : bN a (a.size - 1) = 10) (hm : markN b = 0) : linesL (a ++ b) = linesL a ++ (linesL b).map (shiftL (linesL a).length a.size) := by
  rw [← linesL_I, ← linesL_I a, ← linesL_I b, mark_app a b h0 hl, lines_first a b hl _ 1 (markN a) (Nat.le_refl _) (mark_le a), hm]
  have := lines_second a b _ 1 0 (linesI a 1 (markN a)).length (Nat.le_refl _) (Nat.zero_le _)
  rw [Nat.add_zero] at this
  rw [this]
end Go.Proofs.YtnabbahdmajfpaaGreatDoor
/-
  What Read makes of two texts, one behind the other.
-/
namespace Go.Proofs.YtnabbahdmajfpaaGreatDoor
open Go.RowKit Go.PlainAid Go.Lib Go.Shelf
set_option linter.unusedVariables false

theorem ext_first (a b : ByteArray) (f t : Nat) (ht : t ≤ a.size) (hft : f ≤ t) : (a ++ b).extract f t = a.extract f t := by
  rw [← S_L ((a ++ b).extract f t), ← S_L (a.extract f t), L_extract, L_extract, L_app, List.drop_append_of_le_length (by rw [L_len]; omega), List.take_append_of_le_length (by rw [List.length_drop, L_len]; omega)]
theorem ext_second (a b : ByteArray) (f t : Nat) : (a ++ b).extract (a.size + f) (a.size + t) = b.extract f t := by
  rw [← S_L ((a ++ b).extract (a.size + f) (a.size + t)), ← S_L (b.extract f t), L_extract, L_extract, L_app, ← L_len a, List.drop_append, List.drop_of_length_le (by omega), List.nil_append, Nat.add_sub_cancel_left, show (L a).length + t - ((L a).length + f) = t - f by omega]
/-- a line with another number -/
def withNo (d : LineD) (no : Int) : LineD := { d with no := no }
theorem order_no (no no' : Int) (l : List UInt8) : (orderS no' l).2 = (orderS no l).2 ∧ ((orderS no l).2 = 0 → (orderS no' l).1 = withNo (orderS no l).1 no') := by
  unfold orderS
  split
  · exact ⟨rfl, fun _ => rfl⟩
  · exact ⟨rfl, fun h => by cases h⟩
theorem scan_no (no no' : Int) (s : ByteArray) : (scanS no' s).2 = (scanS no s).2 ∧ ((scanS no s).2 = 0 → (scanS no' s).1 = withNo (scanS no s).1 no') := by
  unfold scanS
  split
  · exact ⟨rfl, fun h => absurd h (by assumption)⟩
  · split
    · exact order_no no no' _
    · refine ⟨rfl, fun _ => ?_⟩
      unfold plainS
      split
      · rfl
      · split <;> rfl
theorem scan_number (no : Int) (s : ByteArray) (h : (scanS no s).2 = 0) : (scanS no s).1.no = no := by
  unfold scanS at h ⊢
  split at h
  · exact absurd h (by assumption)
  · rename_i hc
    rw [if_neg hc]
    split at h
    · rename_i hp
      rw [if_pos hp]
      unfold orderS at h ⊢
      split at h
      · rename_i hq; rw [if_pos hq]
      · cases h
    · rename_i hp
      rw [if_neg hp]
      unfold plainS
      simp only []
      split
      · rfl
      · split <;> rfl
theorem scanX_first (a b : ByteArray) (x : Nat × Nat × Nat) (h : x ∈ linesL a) : scanX (a ++ b) x = scanX a x := by
  have hm := lines_mem a x h
  unfold scanX
  rw [ext_first a b _ _ hm.2.1 hm.1]
theorem scanX_second (a b : ByteArray) (d : Nat) (y : Nat × Nat × Nat) : (scanX (a ++ b) (shiftL d a.size y)).2 = (scanX b y).2 ∧ ((scanX b y).2 = 0 → (scanX (a ++ b) (shiftL d a.size y)).1 = withNo (scanX b y).1 ((y.1 + d : Nat) : Int)) := by
  unfold scanX shiftL
  simp only []
  rw [ext_second]
  exact scan_no (y.1 : Nat) ((y.1 + d : Nat) : Int) _
theorem rd_cases (s : ByteArray) : ∀ l : List (Nat × Nat × Nat), (∀ x ∈ l, (scanX s x).2 = 0) ∨ ∃ p x r, l = p ++ x :: r ∧ (∀ y ∈ p, (scanX s y).2 = 0) ∧ (scanX s x).2 ≠ 0
  | [] => .inl (by simp)
  | x :: l => by
    by_cases hx : (scanX s x).2 = 0
    · rcases rd_cases s l with h | ⟨p, y, r, rfl, h1, h2⟩
      · exact .inl (by intro y hy; rcases List.mem_cons.1 hy with rfl | hy; exact hx; exact h y hy)
      · exact .inr ⟨x :: p, y, r, rfl, by intro z hz; rcases List.mem_cons.1 hz with rfl | hz; exact hx; exact h1 z hz, h2⟩
    · exact .inr ⟨[], x, l, rfl, by simp, hx⟩
/-- what is read of both -/
theorem read_app (a b : ByteArray) (h0 : 0 < a.size) (hl : bN a (a.size - 1) = 10) (hm : markN b = 0) :
    (∀ no code, (readS a).2 = some (no, code) → (readS (a ++ b)).2 = some (no, code)) ∧
    ((readS a).2 = none → (readS a).1.length = (linesL a).length ∧ (∀ no code, (readS b).2 = some (no, code) → (readS (a ++ b)).2 = some (no + (linesL a).length, code)) ∧
      ((readS b).2 = none → readS (a ++ b) = ((readS a).1 ++ (readS b).1.map (fun d => withNo d (d.no + ((linesL a).length : Nat))), none))) := by
  have hla := lines_app a b h0 hl hm
  unfold readS
  rw [hla]
  have fa : ∀ x ∈ linesL a, scanX (a ++ b) x = scanX a x := fun x hx => scanX_first a b x hx
  rcases rd_cases a (linesL a) with hok | ⟨p, x, r, hp, h1, h2⟩
  · rw [rd_ok a _ hok]
    refine ⟨(by intro no code h; cases h), fun _ => ⟨by simp, ?_, ?_⟩⟩
    · intro no code hb
      rcases rd_cases b (linesL b) with hok2 | ⟨q, y, r, hq, g1, g2⟩
      · rw [rd_ok b _ hok2] at hb; cases hb
      · rw [hq, rd_bad b q r y g1 g2] at hb
        obtain ⟨rfl, rfl⟩ : y.1 = no ∧ (scanX b y).2 = code := by
          have := Option.some.inj hb
          exact ⟨congrArg Prod.fst this, congrArg Prod.snd this⟩
        rw [hq, List.map_append, List.map_cons, ← List.append_assoc]
        have hs := scanX_second a b (linesL a).length y
        rw [rd_bad (a ++ b) _ _ (shiftL (linesL a).length a.size y) (fun z hz => by
          rcases List.mem_append.1 hz with h | h
          · rw [fa z h]; exact hok z h
          · obtain ⟨u, hu, rfl⟩ := List.mem_map.1 h
            rw [(scanX_second a b (linesL a).length u).1]; exact g1 u hu) (by rw [hs.1]; exact g2), hs.1]
        rfl
    · intro hb
      rcases rd_cases b (linesL b) with hok2 | ⟨q, y, r, hq, g1, g2⟩
      · rw [rd_ok b _ hok2]
        rw [rd_ok (a ++ b) _ (fun z hz => by
          rcases List.mem_append.1 hz with h | h
          · rw [fa z h]; exact hok z h
          · obtain ⟨u, hu, rfl⟩ := List.mem_map.1 h
            rw [(scanX_second a b (linesL a).length u).1]; exact hok2 u hu)]
        have e1 : (linesL a).map (fun x => (scanX (a ++ b) x).1) = (linesL a).map (fun x => (scanX a x).1) := List.map_congr_left fun x hx => by rw [fa x hx]
        have e2 : (linesL b).map (fun u => (scanX (a ++ b) (shiftL (linesL a).length a.size u)).1) = (linesL b).map (fun u => withNo (scanX b u).1 ((scanX b u).1.no + ((linesL a).length : Nat))) := List.map_congr_left fun u hu => by
          rw [(scanX_second a b (linesL a).length u).2 (hok2 u hu)]
          have hno : (scanX b u).1.no = (u.1 : Nat) := scan_number _ _ (hok2 u hu)
          rw [hno]; rfl
        rw [List.map_append, List.map_map, List.map_map, e1]
        exact congrArg (fun z => ((linesL a).map (fun x => (scanX a x).1) ++ z, none)) e2
      · rw [hq, rd_bad b q r y g1 g2] at hb; cases hb
  · have hbad := rd_bad a p r x h1 h2
    rw [hp] at hla fa ⊢
    refine ⟨fun no code h => ?_, fun h => ?_⟩
    · rw [hbad] at h
      rw [← h, List.append_assoc, List.cons_append, rd_bad (a ++ b) p _ x (fun z hz => by rw [fa z (by simp [hz])]; exact h1 z hz) (by rw [fa x (by simp)]; exact h2), fa x (by simp)]
    · rw [hbad] at h; cases h
end Go.Proofs.YtnabbahdmajfpaaGreatDoor
/-
  The document's Trim, until, Fields, Parts, Cut (furrowref03), for every text.
-/
namespace Go.Proofs.YtnabbahdmajfpaaGreatDoor
open Go.RowKit Go.PlainAid Go.Lib Go.Shelf
set_option linter.unusedVariables false

def strLen (v : Value) : Nat := match v with | .string t => t.size | _ => 0
theorem ext_tail (t : ByteArray) (k : Nat) : L (t.extract k t.size) = (L t).drop k := by
  rw [L_extract, List.take_of_length_le (by rw [List.length_drop, L_len]; omega)]
theorem ext_head (t : ByteArray) (k : Nat) : L (t.extract 0 k) = (L t).take k := by
  rw [L_extract, List.drop_zero, Nat.sub_zero]
theorem bl_at (t : ByteArray) (i : Nat) : blB (t.get! i) = true ↔ bN t i = 32 ∨ bN t i = 9 := by
  rw [blB_iff, get_eq, get_eq]; exact Iff.rfl
theorem trim_tail (t : ByteArray) (h0 : 0 < t.size) (hb : bN t 0 = 32 ∨ bN t 0 = 9) : trimB (L (t.extract 1 t.size)) = trimB (L t) := by
  rw [ext_tail]
  have := drop_at t 0 h0
  rw [List.drop_zero] at this
  rw [this]
  exact (trim_front [t.get! 0] _ (by intro b hb'; rw [List.mem_singleton.1 hb']; exact (bl_at t 0).2 hb)).symm
theorem L_last (t : ByteArray) (h0 : 0 < t.size) : L t = (L t).take (t.size - 1) ++ [t.get! (t.size - 1)] := by
  have h1 := drop_at t (t.size - 1) (by omega)
  rw [show t.size - 1 + 1 = t.size by omega, List.drop_of_length_le (l := L t) (i := t.size) (by rw [L_len]; exact Nat.le_refl _)] at h1
  have := List.take_append_drop (t.size - 1) (L t)
  rw [h1] at this; exact this.symm
theorem trim_init (t : ByteArray) (h0 : 0 < t.size) (hb : bN t (t.size - 1) = 32 ∨ bN t (t.size - 1) = 9) : trimB (L (t.extract 0 (t.size - 1))) = trimB (L t) := by
  rw [ext_head]
  have h2 := trim_back ((L t).take (t.size - 1)) [t.get! (t.size - 1)] (by intro b hb'; rw [List.mem_singleton.1 hb']; exact (bl_at t _).2 hb)
  rw [← L_last t h0] at h2; exact h2.symm
theorem first_firm (t : ByteArray) (h : ∀ _ : 0 < t.size, ¬ (bN t 0 = 32 ∨ bN t 0 = 9)) : ∀ b, (L t)[0]? = some b → blB b = false := by
  intro b hb
  rcases Nat.lt_or_ge 0 t.size with h0 | h0
  · rw [L_at t 0 h0] at hb
    rw [← Option.some.inj hb]
    cases hh : blB (t.get! 0) with
    | false => rfl
    | true => exact absurd ((bl_at t 0).1 hh) (h h0)
  · rw [L_none t 0 (by omega)] at hb; cases hb
theorem last_firm (t : ByteArray) (h : ∀ _ : 0 < t.size, ¬ (bN t (t.size - 1) = 32 ∨ bN t (t.size - 1) = 9)) : ∀ b, 0 < (L t).length → (L t)[(L t).length - 1]? = some b → blB b = false := by
  intro b h0 hb
  rw [L_len] at h0 hb
  rw [L_at t _ (by omega)] at hb
  rw [← Option.some.inj hb]
  cases hh : blB (t.get! (t.size - 1)) with
  | false => rfl
  | true => exact absurd ((bl_at t _).1 hh) (h h0)
theorem ext_size1 (t : ByteArray) (h0 : 0 < t.size) : (t.extract 1 t.size).size = t.size - 1 := by rw [← L_len, ext_tail, List.length_drop, L_len]
theorem ext_size0 (t : ByteArray) : (t.extract 0 (t.size - 1)).size = t.size - 1 := by rw [← L_len, ext_head, List.length_take, L_len]; omega

set_option maxRecDepth 100000 in
set_option maxHeartbeats 2000000 in
theorem refTrim_any (s : ByteArray) (w : World) (hs : s.size ≤ 1099511627776) :
    Calls Tryz.prog 111 #[.string s] w fun e w' => e = .returned (.string (S (trimB (L s)))) ∧ w' = w := by
  obtain ⟨A, hA⟩ : ∃ A, trimB (L s) = A := ⟨_, rfl⟩
  rw [hA]
  go_enter Tryz.func111, Tryz.ntmps111
  go_wp2
  go_loopw [0] (fun v0 wr => ∃ t : ByteArray, v0 = .string t ∧ Hid (trimB (L t) = A) ∧ t.size ≤ 1099511627776 ∧ wr = w) (fun v0 _ => strLen v0)
  case atStart => exact ⟨s, rfl, hA, hs, rfl⟩
  case round =>
    clear hA
    obtain ⟨t, rfl, HT, hts, rfl⟩ := hrel
    by_cases hc : 0 < t.size ∧ (bN t 0 = 32 ∨ bN t 0 = 9)
    · obtain ⟨h0, hb⟩ := hc
      have hv : (t[0]'h0).toNat = bN t 0 := by rw [bN, get_in t 0 h0]
      have HT2 := hide ((trim_tail t h0 hb).trans HT.out)
      have hsz := ext_size1 t h0
      by_cases h32 : bN t 0 = 32
      · have d1 : ((bN t 0 : Int) == 32) = true := by simp; omega
        go_wp2
        go_roundw
        case rel => exact ⟨_, rfl, HT2, by omega, trivial⟩
        case measure => simp only [strLen]; omega
      · have d1 : ((bN t 0 : Int) == 32) = false := by simp; omega
        have d2 : ((bN t 0 : Int) == 9) = true := by simp; omega
        go_wp2
        go_roundw
        case rel => exact ⟨_, rfl, HT2, by omega, trivial⟩
        case measure => simp only [strLen]; omega
    · have HF : Hid (∀ b, (L t)[0]? = some b → blB b = false) := first_firm t (fun h0 hb => hc ⟨h0, hb⟩)
      rcases Nat.eq_zero_or_pos t.size with h0 | h0
      · have e0 : (t.size : Int) = 0 := by omega
        go_wp2
        go_loopw [0] (fun v0 wr2 => ∃ t : ByteArray, v0 = .string t ∧ Hid (trimB (L t) = A) ∧ Hid (∀ b, (L t)[0]? = some b → blB b = false) ∧ t.size ≤ 1099511627776 ∧ wr2 = wr) (fun v0 _ => strLen v0)
        case atStart => exact ⟨_, rfl, HT, HF, hts, rfl⟩
        case round =>
          clear HT HF hts hc
          obtain ⟨t, rfl, HT, HF, hts, hw2⟩ := hrel
          subst hw2
          by_cases hc : 0 < t.size ∧ (bN t (t.size - 1) = 32 ∨ bN t (t.size - 1) = 9)
          · obtain ⟨h0, hb⟩ := hc
            have hl : t.size - 1 < t.size := by omega
            have hv : (t[t.size - 1]'hl).toNat = bN t (t.size - 1) := by rw [bN, get_in t _ hl]
            have hix : ((t.size : Int) - 1).toNat = t.size - 1 := by omega
            have HT2 := hide ((trim_init t h0 hb).trans HT.out)
            have HF2 : Hid (∀ b, (L (t.extract 0 (t.size - 1)))[0]? = some b → blB b = false) := by
              intro b hb'
              rw [ext_head] at hb'
              exact HF.out b (by rw [List.getElem?_take] at hb'; split at hb'; exact hb'; cases hb')
            have hsz := ext_size0 t
            have e0 : (t.size : Int) - 1 = ((t.size - 1 : Nat) : Int) := by omega
            by_cases h32 : bN t (t.size - 1) = 32
            · have d1 : ((bN t (t.size - 1) : Int) == 32) = true := by simp; omega
              go_wp2
              go_roundw
              case rel => exact ⟨_, rfl, HT2, HF2, by omega, trivial⟩
              case measure => simp only [strLen]; omega
            · have d1 : ((bN t (t.size - 1) : Int) == 32) = false := by simp; omega
              have d2 : ((bN t (t.size - 1) : Int) == 9) = true := by simp; omega
              go_wp2
              go_roundw
              case rel => exact ⟨_, rfl, HT2, HF2, by omega, trivial⟩
              case measure => simp only [strLen]; omega
          · have HE : Hid (.string t = Value.string (S A)) := by
              show _ = _
              rw [← HT.out, trim_firm (L t) ⟨HF.out, last_firm t (fun h0 hb => hc ⟨h0, hb⟩)⟩, S_L]
            rcases Nat.eq_zero_or_pos t.size with h0 | h0
            · have e0 : (t.size : Int) = 0 := by omega
              go_wp2
              go_ret
              exact ⟨congrArg _ HE.out, rfl⟩
            · have hl : t.size - 1 < t.size := by omega
              have hv : (t[t.size - 1]'hl).toNat = bN t (t.size - 1) := by rw [bN, get_in t _ hl]
              have hix : ((t.size : Int) - 1).toNat = t.size - 1 := by omega
              have d1 : ((bN t (t.size - 1) : Int) == 32) = false := by simp; intro h; exact hc ⟨h0, .inl (by omega)⟩
              have d2 : ((bN t (t.size - 1) : Int) == 9) = false := by simp; intro h; exact hc ⟨h0, .inr (by omega)⟩
              go_wp2
              go_ret
              exact ⟨congrArg _ HE.out, rfl⟩
      · have hv : (t[0]'h0).toNat = bN t 0 := by rw [bN, get_in t 0 h0]
        have d1 : ((bN t 0 : Int) == 32) = false := by simp; intro h; exact hc ⟨h0, .inl (by omega)⟩
        have d2 : ((bN t 0 : Int) == 9) = false := by simp; intro h; exact hc ⟨h0, .inr (by omega)⟩
        go_wp2
        go_loopw [0] (fun v0 wr2 => ∃ t : ByteArray, v0 = .string t ∧ Hid (trimB (L t) = A) ∧ Hid (∀ b, (L t)[0]? = some b → blB b = false) ∧ t.size ≤ 1099511627776 ∧ wr2 = wr) (fun v0 _ => strLen v0)
        case atStart => exact ⟨_, rfl, HT, HF, hts, rfl⟩
        case round =>
          clear HT HF hts hc
          obtain ⟨t, rfl, HT, HF, hts, hw2⟩ := hrel
          subst hw2
          by_cases hc : 0 < t.size ∧ (bN t (t.size - 1) = 32 ∨ bN t (t.size - 1) = 9)
          · obtain ⟨h0, hb⟩ := hc
            have hl : t.size - 1 < t.size := by omega
            have hv : (t[t.size - 1]'hl).toNat = bN t (t.size - 1) := by rw [bN, get_in t _ hl]
            have hix : ((t.size : Int) - 1).toNat = t.size - 1 := by omega
            have HT2 := hide ((trim_init t h0 hb).trans HT.out)
            have HF2 : Hid (∀ b, (L (t.extract 0 (t.size - 1)))[0]? = some b → blB b = false) := by
              intro b hb'
              rw [ext_head] at hb'
              exact HF.out b (by rw [List.getElem?_take] at hb'; split at hb'; exact hb'; cases hb')
            have hsz := ext_size0 t
            have e0 : (t.size : Int) - 1 = ((t.size - 1 : Nat) : Int) := by omega
            by_cases h32 : bN t (t.size - 1) = 32
            · have d1 : ((bN t (t.size - 1) : Int) == 32) = true := by simp; omega
              go_wp2
              go_roundw
              case rel => exact ⟨_, rfl, HT2, HF2, by omega, trivial⟩
              case measure => simp only [strLen]; omega
            · have d1 : ((bN t (t.size - 1) : Int) == 32) = false := by simp; omega
              have d2 : ((bN t (t.size - 1) : Int) == 9) = true := by simp; omega
              go_wp2
              go_roundw
              case rel => exact ⟨_, rfl, HT2, HF2, by omega, trivial⟩
              case measure => simp only [strLen]; omega
          · have HE : Hid (.string t = Value.string (S A)) := by
              show _ = _
              rw [← HT.out, trim_firm (L t) ⟨HF.out, last_firm t (fun h0 hb => hc ⟨h0, hb⟩)⟩, S_L]
            rcases Nat.eq_zero_or_pos t.size with h0 | h0
            · have e0 : (t.size : Int) = 0 := by omega
              go_wp2
              go_ret
              exact ⟨congrArg _ HE.out, rfl⟩
            · have hl : t.size - 1 < t.size := by omega
              have hv : (t[t.size - 1]'hl).toNat = bN t (t.size - 1) := by rw [bN, get_in t _ hl]
              have hix : ((t.size : Int) - 1).toNat = t.size - 1 := by omega
              have d1 : ((bN t (t.size - 1) : Int) == 32) = false := by simp; intro h; exact hc ⟨h0, .inl (by omega)⟩
              have d2 : ((bN t (t.size - 1) : Int) == 9) = false := by simp; intro h; exact hc ⟨h0, .inr (by omega)⟩
              go_wp2
              go_ret
              exact ⟨congrArg _ HE.out, rfl⟩

end Go.Proofs.YtnabbahdmajfpaaGreatDoor
/-
  The document's until, Fields, Parts, Cut (furrowref03), for every text.
-/
namespace Go.Proofs.YtnabbahdmajfpaaGreatDoor
open Go.RowKit Go.PlainAid Go.Lib Go.Shelf
set_option linter.unusedVariables false

set_option maxRecDepth 100000 in
set_option maxHeartbeats 2000000 in
theorem refUntil_any (s : ByteArray) (c : UInt8) (w : World) (hs : s.size ≤ 1099511627776) :
    Calls Tryz.prog 88 #[.string s, .int .u8 (c.toNat : Nat)] w fun e w' => e = .returned (.tuple #[.string (S (untilB c (L s)).1), .string (S (untilB c (L s)).2.1), .bool (untilB c (L s)).2.2]) ∧ Below w.heap.size w w' := by
  obtain ⟨U, hU⟩ : ∃ U, untilB c (L s) = U := ⟨_, rfl⟩
  rw [hU]
  have HU := hide hU
  clear hU
  obtain ⟨C, hC⟩ : ∃ C : Nat, c.toNat = C := ⟨_, rfl⟩
  rw [hC]
  have HC := hide hC
  have hC256 : C < 256 := by rw [← hC]; exact c.toNat_lt
  clear hC
  go_enter Tryz.func88, Tryz.ntmps88
  go_wp2
  go_loopw [7] (fun v7 wr => ∃ i : Nat, v7 = .int .i64 (i : Nat) ∧ i ≤ s.size ∧ Hid (∀ b ∈ (L s).take i, b ≠ c) ∧ wr = w) (fun v7 _ => s.size - (RowKit.intOf v7).toNat)
  case atStart => exact ⟨0, rfl, Nat.zero_le _, by intro b hb; simp at hb, rfl⟩
  case round =>
    obtain ⟨i, rfl, hi, HN, hw1⟩ := hrel
    subst hw1
    by_cases hlt : i < s.size
    · have hv : (s[i]'hlt).toNat = bN s i := by rw [bN, get_in s i hlt]
      by_cases he : bN s i = C
      · have d1 : ((bN s i : Int) == (C : Int)) = true := by simp; omega
        have HE : Hid (U = ((L s).take i, (L s).drop (i + 1), true)) := by
          show _ = _
          rw [← unhide HU]
          have h1 : L s = (L s).take i ++ c :: (L s).drop (i + 1) := by
            have hc : s.get! i = c := by rw [get_eq]; rw [he, unhide HC]
            rw [← hc, ← drop_at s i hlt, List.take_append_drop]
          have := until_hit c ((L s).take i) ((L s).drop (i + 1)) HN.out
          rw [← h1] at this; exact this
        have e1 : s.extract 0 i = S ((L s).take i) := by rw [← ext_head, S_L]
        have e2 : s.extract (i + 1) s.size = S ((L s).drop (i + 1)) := by rw [← ext_tail, S_L]
        have E1 := hide e1
        have E2 := hide e2
        clear e1 e2
        go_wp2
        go_quiet (fail)
        go_wp2
        go_returns
        exact ⟨by rw [HE.out, ← unhide E1, ← unhide E2]; rfl, below_drewN (Below.refl _ _) _⟩
      · have d1 : ((bN s i : Int) == (C : Int)) = false := by simp; omega
        have HN2 : Hid (∀ b ∈ (L s).take (i + 1), b ≠ c) := by
          intro b hb
          rw [List.take_add_one, L_at s i hlt] at hb
          rcases List.mem_append.1 hb with h | h
          · exact HN.out b h
          · have : b = s.get! i := by simpa using h
            rw [this]; intro e; rw [get_eq, unhide HC] at e; exact he e
        go_wp2
        go_roundw
        case rel => exact ⟨i + 1, by go_num, by omega, HN2, trivial⟩
        case measure => simp [RowKit.intOf]; omega
    · obtain rfl : i = s.size := by omega
      have HE : Hid (U = (L s, [], false)) := by
        show _ = _
        rw [← unhide HU]
        refine until_miss c (L s) (fun b hb => HN.out b ?_)
        rw [List.take_of_length_le (by rw [L_len]; exact Nat.le_refl _)]; exact hb
      go_wp2
      go_returns
      exact ⟨by rw [HE.out, S_L]; rfl, Below.refl _ _⟩

set_option maxRecDepth 100000 in
set_option maxHeartbeats 2000000 in
theorem refFields_any (s : ByteArray) (w : World) (hs : s.size ≤ 1099511627776) :
    Calls Tryz.prog 90 #[.string s] w fun e w' => ∃ v, e = .returned v ∧ TextsAt w' w.heap.size v (fieldsB (L s)) ∧ Below w.heap.size w w' := by
  obtain ⟨i0, hi0, hz0, hz1, hz2⟩ := info_parts infoStr
  have HT := hide (fun (t : ByteArray) w (h : t.size ≤ 1099511627776) => refTrim_any t w h)
  have HUn := hide (fun (t : ByteArray) w (h : t.size ≤ 1099511627776) => refUntil_any t 59 w h)
  go_enter Tryz.func90, Tryz.ntmps90
  go_wp2_with fail
  refine (unhide HT s w hs).mono ?_
  rintro e w1 ⟨rfl, hw1⟩
  obtain rfl : w = w1 := hw1.symm
  by_cases h0 : trimB (L s) = []
  · have HF : Hid (fieldsB (L s) = []) := by show _ = _; unfold fieldsB; rw [if_pos h0]
    rw [h0]
    go_wp2
    go_ret
    exact ⟨_, rfl, by rw [HF.out]; exact World.ownsRow_nil _ _ _ _, Below.refl _ _⟩
  · have HF : Hid (fieldsB (L s) = (splitB (L s)).map trimB) := by show _ = _; unfold fieldsB; rw [if_neg h0]
    have d0 : (trimB (L s)).isEmpty = false := by simpa using h0
    clear h0
    go_wp2
    go_loopw [0, 3] (fun v0 v3 wr => ∃ (t : ByteArray) (pre : List (List UInt8)), v0 = .string t ∧ Hid (pre ++ (splitB (L t)).map trimB = (splitB (L s)).map trimB) ∧ pre.length + t.size ≤ s.size ∧ TextsAt wr w.heap.size v3 pre ∧ Below w.heap.size w wr) (fun v0 _ _ => strLen v0)
    case atStart => exact ⟨s, [], rfl, rfl, by simp, World.ownsRow_nil _ _ _ _, Below.refl _ _⟩
    case round =>
      obtain ⟨t, pre, rfl, HP, hl, hrow, hB⟩ := hrel
      have HSP := hide (split_until (L t))
      have hub := until_le 59 (L t)
      have hcs : (untilB 59 (L t)).2.2 = true → (untilB 59 (L t)).1.length + (untilB 59 (L t)).2.1.length + 1 = t.size := by
        intro h
        rcases until_cases 59 (L t) with ⟨_, h2⟩ | ⟨p, q, h1, _, h2⟩
        · rw [h2] at h; cases h
        · rw [h2, ← L_len t, h1]; simp; omega
      rw [L_len] at hub
      have HUt := hide (fun w => unhide HUn t w (by omega))
      generalize untilB 59 (L t) = U at *
      obtain ⟨one, more, is⟩ := U
      have hs1 := S_size one
      have hs2 := S_size more
      have HT1 := hide (fun w => (unhide HT (S one) w (by simp only [] at hub; omega)).mono fun e w' (h : _ ∧ w' = w) => (⟨h.1, h.2.symm⟩ : _ ∧ w = w'))
      simp only [] at hub hcs HUt HSP HT1
      rw [L_S] at HT1
      have HCS := hide hcs
      clear hcs
      go_wp2_with fail
      refine (unhide HUt _).mono ?_
      rintro e w2 ⟨rfl, hb2⟩
      have hrow2 := rowB hrow hb2
      have hB2 := hB.trans (hb2.mono hB.size)
      have hBs := hB2.size
      clear hrow hB hb2
      obtain ⟨a, c, rfl⟩ := row_slice2 hrow2
      cases is with
      | true =>
        have h1 := unhide HCS rfl
        have HP2 : Hid (pre ++ [trimB one] ++ (splitB (L (S more))).map trimB = (splitB (L s)).map trimB) := by
          show _ = _
          rw [← HP.out, unhide HSP, L_S]; simp
        go_wp2_with (first
          | (go_at_call 111; refine (unhide HT1 _).mono ?_; rintro e w3 ⟨rfl, rfl⟩)
          | (at_builtin; refine wpList_append_own _ rfl _ _ 23 rfl w.heap.size 9 i0 (.string ⟨#[]⟩) 1 16 Tryz.underlying23 hi0 hz0 hz1 hz2 rfl (by decide) _ _ _ rfl (hrow2.alloc _) ⟨w2.heap.size, 0, none⟩ 1 1 [.string (S (trimB one))] rfl rfl (cell_one_new _ _ _) (by simp [Value.oneCell']) (by unfold maxLen; omega) (by omega) (by simp; omega) ?_; intro v' w4 hown' hgrow _))
        have HSNOC : Hid (strVs ((pre ++ [trimB one]).map S) = strVs (pre.map S) ++ [.string (S (trimB one))]) := by show _ = _; simp
        have hrow4 : TextsAt w4 w.heap.size v' (pre ++ [trimB one]) := by
          show World.ownsRow _ _ _ _ _ _ _
          rw [HSNOC.out, List.length_append]; exact hown'
        have hB4 := belowG (hB2.alloc hBs _) (by simp; omega) (hrow2.alloc _) hgrow
        go_roundw
        case rel => exact ⟨S more, pre ++ [trimB one], rfl, HP2, by simp; omega, hrow4, hB4⟩
        case measure => simp only [strLen]; omega
      | false =>
        have HE : Hid (fieldsB (L s) = pre ++ [trimB one]) := by
          show _ = _
          rw [HF.out, ← HP.out, unhide HSP]; simp
        go_wp2_with (first
          | (go_at_call 111; refine (unhide HT1 _).mono ?_; rintro e w3 ⟨rfl, rfl⟩)
          | (at_builtin; refine wpList_append_own _ rfl _ _ 23 rfl w.heap.size 9 i0 (.string ⟨#[]⟩) 1 16 Tryz.underlying23 hi0 hz0 hz1 hz2 rfl (by decide) _ _ _ rfl (hrow2.alloc _) ⟨w2.heap.size, 0, none⟩ 1 1 [.string (S (trimB one))] rfl rfl (cell_one_new _ _ _) (by simp [Value.oneCell']) (by unfold maxLen; omega) (by omega) (by simp; omega) ?_; intro v' w4 hown' hgrow _))
        have HSNOC : Hid (strVs ((pre ++ [trimB one]).map S) = strVs (pre.map S) ++ [.string (S (trimB one))]) := by show _ = _; simp
        have hrow4 : TextsAt w4 w.heap.size v' (pre ++ [trimB one]) := by
          show World.ownsRow _ _ _ _ _ _ _
          rw [HSNOC.out, List.length_append]; exact hown'
        have hB4 := belowG (hB2.alloc hBs _) (by simp; omega) (hrow2.alloc _) hgrow
        go_ret
        exact ⟨_, rfl, by rw [HE.out]; exact hrow4, hB4⟩

set_option maxRecDepth 100000 in
theorem refParts_any (s : ByteArray) (w : World) (hs : s.size ≤ 1099511627776) :
    Calls Tryz.prog 86 #[.string s] w fun e w' => e = .returned (.tuple #[.string (S (trimB (untilB 35 (L s)).1)), .string (S (trimB (untilB 35 (L s)).2.1))]) ∧ Below w.heap.size w w' := by
  have hub := until_le 35 (L s)
  rw [L_len] at hub
  have HUt := hide (fun w => refUntil_any s 35 w hs)
  generalize untilB 35 (L s) = U at *
  obtain ⟨one, more, is⟩ := U
  have hs1 := S_size one
  have hs2 := S_size more
  simp only [] at hub HUt ⊢
  have HT1 := hide (fun w => (refTrim_any (S one) w (by omega)).mono fun e w' (h : _ ∧ w' = w) => (⟨h.1, h.2.symm⟩ : _ ∧ w = w'))
  have HT2 := hide (fun w => (refTrim_any (S more) w (by omega)).mono fun e w' (h : _ ∧ w' = w) => (⟨h.1, h.2.symm⟩ : _ ∧ w = w'))
  rw [L_S] at HT1 HT2
  go_enter Tryz.func86, Tryz.ntmps86
  go_wp2_with fail
  refine (unhide HUt _).mono ?_
  rintro e w2 ⟨rfl, hb2⟩
  go_wp2_with fail
  refine (unhide HT1 _).mono ?_
  rintro e w3 ⟨rfl, rfl⟩
  go_wp2_with fail
  refine (unhide HT2 _).mono ?_
  rintro e w3 ⟨rfl, rfl⟩
  go_wp2
  go_ret2
  exact ⟨rfl, hb2⟩

set_option maxRecDepth 100000 in
theorem refCut_any (s : ByteArray) (w : World) (hs : s.size ≤ 1099511627776) :
    Calls Tryz.prog 87 #[.string s] w fun e w' => ∃ v, e = .returned (.tuple #[v, .string (S (cutS s).2)]) ∧ TextsAt w' w.heap.size v (cutS s).1 ∧ Below w.heap.size w w' := by
  rw [cut_doc]
  unfold docCut
  simp only []
  have hub := until_le 35 (L s)
  have htb := trimB_le (untilB 35 (L s)).1
  rw [L_len] at hub
  have HP := hide (fun w => refParts_any s w hs)
  generalize trimB (untilB 35 (L s)).1 = A at *
  generalize trimB (untilB 35 (L s)).2.1 = B at *
  have hs1 := S_size A
  have HF := hide (fun w => refFields_any (S A) w (by omega))
  rw [L_S] at HF
  go_enter Tryz.func87, Tryz.ntmps87
  go_wp2_with fail
  refine (unhide HP _).mono ?_
  rintro e w2 ⟨rfl, hb2⟩
  go_wp2_with fail
  refine (unhide HF _).mono ?_
  rintro e w3 ⟨v, rfl, hrow, hb3⟩
  go_wp2
  go_ret2
  exact ⟨v, rfl, row_base hrow hb2.size, hb2.trans (hb3.mono hb2.size)⟩

end Go.Proofs.YtnabbahdmajfpaaGreatDoor
