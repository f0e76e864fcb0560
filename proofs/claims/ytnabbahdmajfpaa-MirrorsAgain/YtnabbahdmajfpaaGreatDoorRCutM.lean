/-
  A line's fields and note by the document's definition: trimmed, until a byte, split; and that Cut's way through a line gives the same.
-/
import Derived.Test.YtnabbahdmajfpaaGreatDoorLs
namespace Go.Proofs.YtnabbahdmajfpaaGreatDoor
open Go.RowKit Go.PlainAid Go.Lib Go.Shelf
set_option linter.unusedVariables false

def blB (b : UInt8) : Bool := ([32, 9] : List UInt8).contains b
theorem blB_iff (b : UInt8) : blB b = true ↔ b = 32 ∨ b = 9 := by simp [blB]
theorem blB_not (b : UInt8) : blB b = false ↔ ¬ (b = 32 ∨ b = 9) := by rw [← blB_iff]; simp
/-- neither end is blank -/
def Firm (m : List UInt8) : Prop := (∀ b, m[0]? = some b → blB b = false) ∧ (∀ b, 0 < m.length → m[m.length - 1]? = some b → blB b = false)
theorem firm_nil : Firm [] := ⟨by simp, by simp⟩
theorem trim_mid (x m y : List UInt8) (hx : ∀ b ∈ x, blB b = true) (hy : ∀ b ∈ y, blB b = true) (hm : Firm m) : trimB (x ++ m ++ y) = m := by
  unfold trimB trimS
  by_cases he : m = []
  · subst he
    rw [trimRightS_take (x ++ [] ++ y) [32, 9] 0 (Nat.zero_le _) (fun j b _ h => by
      have := List.mem_of_getElem? h
      simp only [List.append_nil, List.mem_append] at this
      rcases this with h | h
      · exact hx b h
      · exact hy b h) (fun b h => by omega)]
    rfl
  · have hl : 0 < m.length := List.length_pos_iff.2 he
    have e1 : trimRightS (x ++ m ++ y) [32, 9] = x ++ m := by
      rw [trimRightS_take (x ++ m ++ y) [32, 9] (x ++ m).length (by simp) (fun j b hj h => by
        rw [List.getElem?_append_right hj] at h
        exact hy b (List.mem_of_getElem? h)) (fun b _ h => by
        rw [List.getElem?_append_left (by simp; omega), List.getElem?_append_right (by simp; omega)] at h
        exact hm.2 b hl (by rw [← h]; congr 1; simp; omega))]
      exact List.take_left' rfl
    rw [e1, trimLeftS_drop (x ++ m) [32, 9] x.length (by simp) (fun j b hj h => by
      rw [List.getElem?_append_left hj] at h
      exact hx b (List.mem_of_getElem? h)) (fun b h => by
      rw [List.getElem?_append_right (Nat.le_refl _), Nat.sub_self] at h
      exact hm.1 b h)]
    exact List.drop_left' rfl
theorem trim_firm (m : List UInt8) (hm : Firm m) : trimB m = m := by
  have := trim_mid [] m [] (by simp) (by simp) hm
  simpa using this
theorem trim_parts (l : List UInt8) : ∃ x m y, l = x ++ m ++ y ∧ (∀ b ∈ x, blB b = true) ∧ (∀ b ∈ y, blB b = true) ∧ Firm m := by
  induction l with
  | nil => exact ⟨[], [], [], rfl, by simp, by simp, firm_nil⟩
  | cons a l ih =>
    obtain ⟨x, m, y, rfl, hx, hy, hm⟩ := ih
    cases ha : blB a with
    | true => exact ⟨a :: x, m, y, rfl, by intro b hb; rcases List.mem_cons.1 hb with rfl | hb; exact ha; exact hx b hb, hy, hm⟩
    | false =>
      by_cases he : m = []
      · subst he
        refine ⟨[], [a], x ++ y, by simp, by simp, ?_, ⟨?_, ?_⟩⟩
        · intro b hb; rcases List.mem_append.1 hb with h | h; exact hx b h; exact hy b h
        · intro b hb; simp at hb; rw [← hb]; exact ha
        · intro b _ hb; simp at hb; rw [← hb]; exact ha
      · have hl : 0 < m.length := List.length_pos_iff.2 he
        refine ⟨[], a :: (x ++ m), y, by simp, by simp, hy, ⟨?_, ?_⟩⟩
        · intro b hb; simp at hb; rw [← hb]; exact ha
        · intro b _ hb
          have e1 : (a :: (x ++ m)).length - 1 = (x.length + (m.length - 1)) + 1 := by simp; omega
          rw [e1, List.getElem?_cons_succ, List.getElem?_append_right (by omega)] at hb
          exact hm.2 b hl (by rw [← hb]; congr 1; omega)
theorem trim_front (x l : List UInt8) (hx : ∀ b ∈ x, blB b = true) : trimB (x ++ l) = trimB l := by
  obtain ⟨x', m, y, rfl, h1, h2, h3⟩ := trim_parts l
  rw [trim_mid x' m y h1 h2 h3, show x ++ (x' ++ m ++ y) = (x ++ x') ++ m ++ y by simp]
  exact trim_mid _ m y (fun b hb => by rcases List.mem_append.1 hb with h | h; exact hx b h; exact h1 b h) h2 h3
theorem trim_none (l : List UInt8) (h : trimB l = []) : ∀ b ∈ l, blB b = true := by
  obtain ⟨x', m, y, rfl, h1, h2, h3⟩ := trim_parts l
  rw [trim_mid x' m y h1 h2 h3] at h
  subst h
  intro b hb
  simp only [List.append_nil, List.mem_append] at hb
  rcases hb with h | h
  · exact h1 b h
  · exact h2 b h
theorem trim_blank (l : List UInt8) (h : ∀ b ∈ l, blB b = true) : trimB l = [] := by
  have := trim_mid l [] [] h (by simp) firm_nil
  simpa using this

/-- the pieces between the bytes 59 -/
def splitB : List UInt8 → List (List UInt8)
  | [] => [[]]
  | b :: l => if b = 59 then [] :: splitB l else match splitB l with
    | [] => [[b]]
    | p :: r => (b :: p) :: r
theorem split_cons (l : List UInt8) : ∃ p r, splitB l = p :: r := by
  cases l with
  | nil => exact ⟨_, _, rfl⟩
  | cons b l =>
    unfold splitB
    split
    · exact ⟨_, _, rfl⟩
    · split
      · exact ⟨_, _, rfl⟩
      · exact ⟨_, _, rfl⟩
theorem split_step (b : UInt8) (l p : List UInt8) (r : List (List UInt8)) (hb : b ≠ 59) (h : splitB l = p :: r) : splitB (b :: l) = (b :: p) :: r := by
  simp only [splitB, hb, if_false, h]
theorem split_one (l p : List UInt8) (h : splitB l = [p]) : p = l := by
  induction l generalizing p with
  | nil => simp [splitB] at h; exact h
  | cons b l ih =>
    by_cases hb : b = 59
    · obtain ⟨q, r, hq⟩ := split_cons l
      simp [splitB, hb, hq] at h
    · obtain ⟨q, r, hq⟩ := split_cons l
      rw [split_step b l q r hb hq] at h
      obtain ⟨h1, h2⟩ := List.cons.inj h
      subst h2
      rw [← h1, ih q hq]
theorem split_until (l : List UInt8) : splitB l = (untilB 59 l).1 :: (if (untilB 59 l).2.2 = true then splitB (untilB 59 l).2.1 else []) := by
  induction l with
  | nil => rfl
  | cons b l ih =>
    by_cases hb : b = 59
    · simp [splitB, untilB, hb]
    · rw [split_step b l _ _ hb ih]
      simp only [untilB, hb, if_false]
theorem split_no (l : List UInt8) (h : ∀ b ∈ l, b ≠ 59) : splitB l = [l] := by
  induction l with
  | nil => rfl
  | cons b l ih => rw [split_step b l l [] (h b (by simp)) (ih fun c hc => h c (by simp [hc]))]
/-- a piece's fields -/
def fieldsB (l : List UInt8) : List (List UInt8) := if trimB l = [] then [] else (splitB l).map trimB
/-- a line's fields and note -/
def docCut (l : List UInt8) : List (List UInt8) × List UInt8 := (fieldsB (trimB (untilB 35 l).1), trimB (untilB 35 l).2.1)

theorem mach_split : ∀ (x : List UInt8) (n : Nat) (cur pend p : List UInt8) (r : List (List UInt8)), (∀ b ∈ x, b ≠ 35) → Firm cur → (cur = [] → pend = []) → (∀ b ∈ pend, blB b = true) → splitB x = p :: r →
    mach n cur pend x = (if n = 0 ∧ r = [] ∧ trimB (cur ++ pend ++ p) = [] then [] else trimB (cur ++ pend ++ p) :: r.map trimB, [])
  | [], n, cur, pend, p, r, _, hf, hc, hp, hs => by
    obtain ⟨rfl, rfl⟩ : [] = p ∧ [] = r := by simpa [splitB] using hs
    have e : trimB (cur ++ pend ++ []) = cur := by
      have := trim_mid [] cur pend (by simp) hp hf
      simpa using this
    rw [e]
    simp only [mach, lastF, List.map_nil, true_and]
    by_cases h0 : n = 0 ∧ cur = []
    · rw [if_pos h0, if_neg (by rintro (h | h); omega; exact h h0.2)]
    · rw [if_neg h0, if_pos (by
        by_cases hn : 0 < n
        · exact .inl hn
        · exact .inr fun e => h0 ⟨by omega, e⟩)]
  | b :: x, n, cur, pend, p, r, h35, hf, hc, hp, hs => by
    have h35' : ∀ c ∈ x, c ≠ 35 := fun c hc => h35 c (by simp [hc])
    obtain ⟨q, r', hq⟩ := split_cons x
    by_cases hb : b = 32 ∨ b = 9
    · have hne : b ≠ 59 := by rcases hb with rfl | rfl <;> decide
      have hbl : blB b = true := (blB_iff b).2 hb
      rw [split_step b x q r' hne hq] at hs
      obtain ⟨rfl, rfl⟩ := List.cons.inj hs
      simp only [mach, hb, if_true]
      by_cases he : cur = []
      · subst he
        obtain rfl := hc rfl
        rw [if_pos rfl, mach_split x n [] [] q r' h35' firm_nil (fun _ => rfl) (by simp) hq]
        have : trimB ([] ++ [] ++ b :: q) = trimB ([] ++ [] ++ q) := trim_front [b] q (by simpa using hbl)
        rw [this]
      · rw [if_neg he, mach_split x n cur (pend ++ [b]) q r' h35' hf (fun h => absurd h he) (fun c hc => by
          rcases List.mem_append.1 hc with h | h
          · exact hp c h
          · rw [List.mem_singleton.1 h]; exact hbl) hq]
        simp
    · by_cases h59 : b = 59
      · subst h59
        have e0 : splitB (59 :: x) = [] :: splitB x := by simp [splitB]
        rw [e0] at hs
        obtain ⟨rfl, rfl⟩ := List.cons.inj hs
        have e : trimB (cur ++ pend ++ []) = cur := by
          have := trim_mid [] cur pend (by simp) hp hf
          simpa using this
        have ih := mach_split x (n + 1) [] [] q r' h35' firm_nil (fun _ => rfl) (by simp) hq
        rw [e, if_neg (by rintro ⟨_, h, _⟩; rw [hq] at h; cases h)]
        simp only [mach, hb, if_false, if_true, ih]
        rw [if_neg (by rintro ⟨h, _⟩; omega), hq]
        rfl
      · have h35b : b ≠ 35 := h35 b (by simp)
        have hbl : blB b = false := (blB_not b).2 hb
        rw [split_step b x q r' h59 hq] at hs
        obtain ⟨rfl, rfl⟩ := List.cons.inj hs
        simp only [mach, hb, h59, h35b, if_false]
        rw [mach_split x n (cur ++ pend ++ [b]) [] q r' h35' ⟨?_, ?_⟩ (fun _ => rfl) (by simp) hq]
        · simp
        · intro c hc'
          by_cases he : cur = []
          · subst he
            obtain rfl := hc rfl
            simp at hc'; rw [← hc']; exact hbl
          · have hl : 0 < cur.length := List.length_pos_iff.2 he
            rw [List.append_assoc, List.getElem?_append_left hl] at hc'
            exact hf.1 c hc'
        · intro c _ hc'
          have e1 : (cur ++ pend ++ [b]).length - 1 = (cur ++ pend).length := by simp
          rw [e1, List.getElem?_append_right (Nat.le_refl _), Nat.sub_self] at hc'
          simp at hc'; rw [← hc']; exact hbl
theorem fields_mach (x : List UInt8) (h : ∀ b ∈ x, b ≠ 35) : mach 0 [] [] x = (fieldsB x, []) := by
  obtain ⟨p, r, hs⟩ := split_cons x
  rw [mach_split x 0 [] [] p r h firm_nil (fun _ => rfl) (by simp) hs]
  unfold fieldsB
  simp only [List.nil_append, true_and]
  by_cases ht : trimB x = []
  · have hx := split_no x (fun b hb e => by have := trim_none x ht b hb; rw [e] at this; exact absurd this (by decide))
    rw [hx] at hs
    obtain ⟨rfl, rfl⟩ := List.cons.inj hs
    rw [if_pos ⟨rfl, ht⟩, if_pos ht]
  · rw [if_neg ht, hs, if_neg]
    · rfl
    · rintro ⟨rfl, hp⟩
      rw [split_one x p hs] at hp
      exact ht hp
theorem mach_blanks : ∀ (y : List UInt8) (n : Nat) (cur pend : List UInt8), (∀ b ∈ y, blB b = true) → mach n cur pend y = (lastF n cur, [])
  | [], n, cur, pend, _ => rfl
  | b :: y, n, cur, pend, h => by
    have hb := (blB_iff b).1 (h b (by simp))
    have hy : ∀ c ∈ y, blB c = true := fun c hc => h c (by simp [hc])
    simp only [mach, hb, if_true]
    by_cases he : cur = []
    · rw [if_pos he, mach_blanks y n [] [] hy, he]
    · rw [if_neg he, mach_blanks y n cur _ hy]
theorem mach_back : ∀ (x y : List UInt8) (n : Nat) (cur pend : List UInt8), (∀ b ∈ x, b ≠ 35) → (∀ b ∈ y, blB b = true) → mach n cur pend (x ++ y) = mach n cur pend x
  | [], y, n, cur, pend, _, hy => by rw [List.nil_append, mach_blanks y n cur pend hy]; rfl
  | b :: x, y, n, cur, pend, hx, hy => by
    have hx' : ∀ c ∈ x, c ≠ 35 := fun c hc => hx c (by simp [hc])
    have h35 : b ≠ 35 := hx b (by simp)
    rw [List.cons_append]
    simp only [mach, h35, if_false, mach_back x y _ _ _ hx' hy]
theorem mach_front : ∀ (x y : List UInt8) (n : Nat), (∀ b ∈ x, blB b = true) → mach n [] [] (x ++ y) = mach n [] [] y
  | [], y, n, _ => rfl
  | b :: x, y, n, hx => by
    have hb := (blB_iff b).1 (hx b (by simp))
    rw [List.cons_append]
    simp only [mach, hb, if_true]
    exact mach_front x y n (fun c hc => hx c (by simp [hc]))
theorem mach_trim (x : List UInt8) (h : ∀ b ∈ x, b ≠ 35) : mach 0 [] [] (trimB x) = mach 0 [] [] x := by
  obtain ⟨x', m, y, rfl, h1, h2, h3⟩ := trim_parts x
  rw [trim_mid x' m y h1 h2 h3, List.append_assoc, mach_front x' _ 0 h1, mach_back m y 0 [] [] (fun b hb => h b (by simp [hb])) h2]
theorem until_no (c : UInt8) (l : List UInt8) : ∀ b ∈ (untilB c l).1, b ≠ c := by
  induction l with
  | nil => simp [untilB]
  | cons a l ih =>
    by_cases h : a = c
    · simp [untilB, h]
    · simp only [untilB, h, if_false]
      intro b hb
      rcases List.mem_cons.1 hb with rfl | hb
      · exact h
      · exact ih b hb
theorem mach_until : ∀ (l : List UInt8) (n : Nat) (cur pend : List UInt8), mach n cur pend l = ((mach n cur pend (untilB 35 l).1).1, trimB (untilB 35 l).2.1)
  | [], n, cur, pend => rfl
  | b :: l, n, cur, pend => by
    by_cases h35 : b = 35
    · subst h35
      simp [untilB, mach]
    · simp only [untilB, h35, if_false]
      simp only [mach, h35, if_false]
      by_cases hb : b = 32 ∨ b = 9
      · simp only [hb, if_true]
        by_cases he : cur = []
        · rw [if_pos he, if_pos he, mach_until l n [] []]
        · rw [if_neg he, if_neg he, mach_until l n cur _]
      · simp only [hb, if_false]
        by_cases h59 : b = 59
        · simp only [h59, if_true]
          rw [mach_until l (n + 1) [] []]
        · simp only [h59, if_false]
          rw [mach_until l n _ []]
theorem trim_sub (l : List UInt8) : ∀ b ∈ trimB l, b ∈ l := by
  obtain ⟨x', m, y, rfl, h1, h2, h3⟩ := trim_parts l
  rw [trim_mid x' m y h1 h2 h3]
  intro b hb; simp [hb]
theorem cut_doc (s : ByteArray) : cutS s = docCut (L s) := by
  unfold cutS docCut
  have h35 := until_no 35 (L s)
  rw [mach_until, ← mach_trim _ h35, fields_mach _ (fun b hb => h35 b (trim_sub _ b hb))]

end Go.Proofs.YtnabbahdmajfpaaGreatDoor
