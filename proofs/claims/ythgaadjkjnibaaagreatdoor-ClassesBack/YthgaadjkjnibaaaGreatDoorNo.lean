/-
  These texts, one behind the other: RApM, RCutM, RScanM, RApM2, ClNoM, LInvC, ClNo2, ClNo3.
-/
import Derived.Test.YthgaadjkjnibaaaGreatDoorOv
import Derived.Test.YthgaadjkjnibaaaGreatDoorLs
import Derived.Test.YthgaadjkjnibaaaGreatDoorLRead
import Derived.Test.YthgaadjkjnibaaaGreatDoorWr
import Derived.Test.YthgaadjkjnibaaaGreatDoorLc
import Derived.Test.YthgaadjkjnibaaaGreatDoorUb
import Derived.Test.YthgaadjkjnibaaaGreatDoorAl
/-
  The lines of two texts, one behind the other, where the first ends with an end.
-/
namespace Go.Proofs.YthgaadjkjnibaaaGreatDoor
open Go.RowKit Go.PlainAid Go.Lib Go.Shelf
set_option linter.unusedVariables false

theorem app_size (a b : ByteArray) : (a ++ b).size = a.size + b.size := ByteArray.size_append
theorem L_app (a b : ByteArray) : L (a ++ b) = L a ++ L b := by
  simp [L, ByteArray.data_append]
theorem bN_lt_app (a b : ByteArray) (i : Nat) (h : i < a.size) : bN (a ++ b) i = bN a i := by
  have h1 := L_at (a ++ b) i (by rw [app_size]; omega)
  rw [L_app, List.getElem?_append_left (by rw [L_len]; exact h), L_at a i h] at h1
  unfold bN; rw [Option.some.inj h1]
theorem bN_ge_app (a b : ByteArray) (i : Nat) (h : i < b.size) : bN (a ++ b) (a.size + i) = bN b i := by
  have h1 := L_at (a ++ b) (a.size + i) (by rw [app_size]; omega)
  rw [L_app, List.getElem?_append_right (by rw [L_len]; omega), L_len, Nat.add_sub_cancel_left, L_at b i h] at h1
  unfold bN; rw [Option.some.inj h1]
theorem nl_first (a b : ByteArray) (i : Nat) (hi : i < a.size) (hl : bN a (a.size - 1) = 10) : nlN (a ++ b) i = nlN a i ∧ 0 ≤ nlN a i := by
  rcases nl_spec a i with ⟨_, h⟩ | ⟨n, h1, h2, h3, h4⟩
  · exact absurd hl (h _ (by omega) (by omega))
  · refine ⟨?_, by omega⟩
    rw [h1, nl_found (a ++ b) i (i + n) (by omega) (by rw [app_size]; omega) (by rw [bN_lt_app a b _ h2]; exact h3) (fun j g1 g2 => by rw [bN_lt_app a b j (by omega)]; exact h4 j g1 g2)]
    congr 1; omega
theorem nl_second (a b : ByteArray) (i : Nat) (hi : i ≤ b.size) : nlN (a ++ b) (a.size + i) = nlN b i := by
  rcases nl_spec b i with ⟨h1, h⟩ | ⟨n, h1, h2, h3, h4⟩
  · rw [h1]
    refine nl_none (a ++ b) _ (fun j g1 g2 => ?_)
    rw [app_size] at g2
    have := h (j - a.size) (by omega) (by omega)
    rw [← bN_ge_app a b (j - a.size) (by omega), show a.size + (j - a.size) = j by omega] at this
    exact this
  · rw [h1, nl_found (a ++ b) (a.size + i) (a.size + i + n) (by omega) (by rw [app_size]; omega) (by rw [show a.size + i + n = a.size + (i + n) by omega, bN_ge_app a b _ h2]; exact h3) (fun j g1 g2 => by
      have := h4 (j - a.size) (by omega) (by omega)
      rw [← bN_ge_app a b (j - a.size) (by omega), show a.size + (j - a.size) = j by omega] at this
      exact this)]
    congr 1; omega
theorem end_first (a b : ByteArray) (i : Nat) (hi : i < a.size) (hl : bN a (a.size - 1) = 10) : endTo (a ++ b) i = endTo a i ∧ endNext (a ++ b) i = endNext a i ∧ hasEnd (a ++ b) i = true ∧ hasEnd a i = true := by
  obtain ⟨h1, h2⟩ := nl_first a b i hi hl
  have hb := nl_spec a i
  unfold endTo endNext hasEnd
  rw [h1]
  have hn : ¬ nlN a i < 0 := by omega
  simp only [hn, if_false, h2, decide_true, and_true]
  rcases hb with ⟨k, _⟩ | ⟨n, k1, k2, k3, _⟩
  · omega
  · rw [k1]
    simp only [Int.toNat_natCast]
    by_cases hc : 0 < (n : Int)
    · rw [bN_lt_app a b (i + n - 1) (by omega)]
    · simp only [hc, false_and, if_false]
theorem end_second (a b : ByteArray) (i : Nat) (hi : i ≤ b.size) : endTo (a ++ b) (a.size + i) = a.size + endTo b i ∧ endNext (a ++ b) (a.size + i) = a.size + endNext b i ∧ hasEnd (a ++ b) (a.size + i) = hasEnd b i := by
  have h1 := nl_second a b i hi
  unfold endTo endNext hasEnd
  rw [h1, app_size]
  rcases nl_spec b i with ⟨k, _⟩ | ⟨n, k1, k2, k3, _⟩
  · rw [k]; simp
  · rw [k1]
    have hn : ¬ (n : Int) < 0 := by omega
    simp only [hn, if_false, Int.toNat_natCast]
    refine ⟨?_, by omega, trivial⟩
    by_cases hc : 0 < (n : Int)
    · have : bN (a ++ b) (a.size + i + n - 1) = bN b (i + n - 1) := by
        rw [show a.size + i + n - 1 = a.size + (i + n - 1) by omega, bN_ge_app a b _ (by omega)]
      rw [this]
      by_cases h13 : bN b (i + n - 1) = 13
      · rw [if_pos ⟨hc, h13⟩, if_pos ⟨hc, h13⟩]; omega
      · rw [if_neg (fun h => h13 h.2), if_neg (fun h => h13 h.2)]; omega
    · rw [if_neg (fun h => hc h.1), if_neg (fun h => hc h.1)]; omega
/-- a line of the second text, behind the first one -/
def shiftL (d k : Nat) (x : Nat × Nat × Nat) : Nat × Nat × Nat := (x.1 + d, k + x.2.1, k + x.2.2)
theorem lines_second (a b : ByteArray) : ∀ (k no i d : Nat), b.size - i ≤ k → i ≤ b.size → linesI (a ++ b) (no + d) (a.size + i) = (linesI b no i).map (shiftL d a.size) := by
  intro k
  induction k with
  | zero =>
    intro no i d hk hi
    obtain rfl : i = b.size := by omega
    have := linesI_end (a ++ b) (no + d)
    rw [app_size] at this
    rw [this, linesI_end]; rfl
  | succ k ih =>
    intro no i d hk hi
    by_cases he : i = b.size
    · subst he
      have := linesI_end (a ++ b) (no + d)
      rw [app_size] at this
      rw [this, linesI_end]; rfl
    · have h2 := end_second a b i hi
      have hb := end_bounds b i hi
      have l1 : linesI (a ++ b) (no + d) (a.size + i) = (no + d, a.size + i, endTo (a ++ b) (a.size + i)) :: (if hasEnd (a ++ b) (a.size + i) = true then linesI (a ++ b) (no + d + 1) (endNext (a ++ b) (a.size + i)) else []) := by
        unfold linesI
        rw [extsI_step (a ++ b) (no + d) _ (by rw [app_size]; omega), List.takeWhile_cons, if_pos (by rw [app_size]; simp; omega)]
        split <;> rfl
      have l2 : linesI b no i = (no, i, endTo b i) :: (if hasEnd b i = true then linesI b (no + 1) (endNext b i) else []) := by
        unfold linesI
        rw [extsI_step b no i hi, List.takeWhile_cons, if_pos (by simpa using he)]
        split <;> rfl
      rw [l1, l2, h2.1, h2.2.1, h2.2.2, List.map_cons]
      cases hh : hasEnd b i with
      | false => simp [shiftL]
      | true =>
        have h5 := hb.2.2.2.2.1 hh
        simp only [if_true]
        have := ih (no + 1) (endNext b i) d (by omega) hb.2.2.2.1
        rw [show no + 1 + d = no + d + 1 by omega] at this
        rw [this]; rfl
theorem lines_first (a b : ByteArray) (hl : bN a (a.size - 1) = 10) : ∀ (k no i : Nat), a.size - i ≤ k → i ≤ a.size → linesI (a ++ b) no i = linesI a no i ++ linesI (a ++ b) (no + (linesI a no i).length) a.size := by
  intro k
  induction k with
  | zero =>
    intro no i hk hi
    obtain rfl : i = a.size := by omega
    rw [linesI_end a]; simp
  | succ k ih =>
    intro no i hk hi
    by_cases he : i = a.size
    · subst he; rw [linesI_end a]; simp
    · have h2 := end_first a b i (by omega) hl
      have hb := end_bounds a i hi
      have h5 := hb.2.2.2.2.1 h2.2.2.2
      have l1 : linesI (a ++ b) no i = (no, i, endTo a i) :: linesI (a ++ b) (no + 1) (endNext a i) := by
        unfold linesI
        rw [extsI_step (a ++ b) no _ (by rw [app_size]; omega), List.takeWhile_cons, if_pos (by rw [app_size]; simp; omega), h2.1, h2.2.1, h2.2.2.1, if_pos rfl]
      have l2 : linesI a no i = (no, i, endTo a i) :: linesI a (no + 1) (endNext a i) := by
        unfold linesI
        rw [extsI_step a no i hi, List.takeWhile_cons, if_pos (by simpa using he), h2.2.2.2, if_pos rfl]
      rw [l1, l2, ih (no + 1) (endNext a i) (by omega) hb.2.2.2.1]
      simp [Nat.add_assoc, Nat.add_comm]
theorem mark_app (a b : ByteArray) (h0 : 0 < a.size) (hl : bN a (a.size - 1) = 10) : markN (a ++ b) = markN a := by
  rw [markN_eq, markN_eq, app_size]
  by_cases h3 : 3 ≤ a.size
  · rw [bN_lt_app a b 0 (by omega), bN_lt_app a b 1 (by omega), bN_lt_app a b 2 (by omega)]
    simp only [h3, show 3 ≤ a.size + b.size by omega]
  · rw [if_neg (c := 3 ≤ a.size ∧ _) (fun h => h3 h.1), if_neg]
    rintro ⟨_, k0, k1, k2⟩
    rw [bN_lt_app a b 0 (by omega)] at k0
    rcases (by omega : a.size = 1 ∨ a.size = 2) with h | h
    · rw [h] at hl; simp at hl; omega
    · rw [bN_lt_app a b 1 (by omega)] at k1
      rw [h] at hl; simp at hl; omega
/-- the lines of both -/
theorem lines_app (a b : ByteArray) (h0 : 0 < a.size) (hl : bN a (a.size - 1) = 10) (hm : markN b = 0) : linesL (a ++ b) = linesL a ++ (linesL b).map (shiftL (linesL a).length a.size) := by
  rw [← linesL_I, ← linesL_I a, ← linesL_I b, mark_app a b h0 hl, lines_first a b hl _ 1 (markN a) (Nat.le_refl _) (mark_le a), hm]
  have := lines_second a b _ 1 0 (linesI a 1 (markN a)).length (Nat.le_refl _) (Nat.zero_le _)
  rw [Nat.add_zero] at this
  rw [this]
end Go.Proofs.YthgaadjkjnibaaaGreatDoor
/-
  A line's fields and note by the document's definition: trimmed, until a byte, split; and that Cut's way through a line gives the same.
-/
namespace Go.Proofs.YthgaadjkjnibaaaGreatDoor
open Go.RowKit Go.PlainAid Go.Lib Go.Shelf
set_option linter.unusedVariables false

def blB (b : UInt8) : Bool := ([32, 9] : List UInt8).contains b
theorem blB_iff (b : UInt8) : blB b = true ↔ b = 32 ∨ b = 9 := by simp [blB]
theorem blB_not (b : UInt8) : blB b = false ↔ ¬ (b = 32 ∨ b = 9) := by rw [← blB_iff]; simp
/-- neither end is blank -/
def Firm (m : List UInt8) : Prop := (∀ b, m[0]? = some b → blB b = false) ∧ (∀ b, 0 < m.length → m[m.length - 1]? = some b → blB b = false)
theorem firm_nil : Firm [] := ⟨by simp, by simp⟩
theorem trim_mid (x m y : List UInt8) (hx : ∀ b ∈ x, blB b = true) (hy : ∀ b ∈ y, blB b = true) (hm : Firm m) : trimB (x ++ m ++ y) = m := by
  unfold trimB trimS
  by_cases he : m = []
  · subst he
    rw [trimRightS_take (x ++ [] ++ y) [32, 9] 0 (Nat.zero_le _) (fun j b _ h => by
      have := List.mem_of_getElem? h
      simp only [List.append_nil, List.mem_append] at this
      rcases this with h | h
      · exact hx b h
      · exact hy b h) (fun b h => by omega)]
    rfl
  · have hl : 0 < m.length := List.length_pos_iff.2 he
    have e1 : trimRightS (x ++ m ++ y) [32, 9] = x ++ m := by
      rw [trimRightS_take (x ++ m ++ y) [32, 9] (x ++ m).length (by simp) (fun j b hj h => by
        rw [List.getElem?_append_right hj] at h
        exact hy b (List.mem_of_getElem? h)) (fun b _ h => by
        rw [List.getElem?_append_left (by simp; omega), List.getElem?_append_right (by simp; omega)] at h
        exact hm.2 b hl (by rw [← h]; congr 1; simp; omega))]
      exact List.take_left' rfl
    rw [e1, trimLeftS_drop (x ++ m) [32, 9] x.length (by simp) (fun j b hj h => by
      rw [List.getElem?_append_left hj] at h
      exact hx b (List.mem_of_getElem? h)) (fun b h => by
      rw [List.getElem?_append_right (Nat.le_refl _), Nat.sub_self] at h
      exact hm.1 b h)]
    exact List.drop_left' rfl
theorem trim_firm (m : List UInt8) (hm : Firm m) : trimB m = m := by
  have := trim_mid [] m [] (by simp) (by simp) hm
  simpa using this
theorem trim_parts (l : List UInt8) : ∃ x m y, l = x ++ m ++ y ∧ (∀ b ∈ x, blB b = true) ∧ (∀ b ∈ y, blB b = true) ∧ Firm m := by
  induction l with
  | nil => exact ⟨[], [], [], rfl, by simp, by simp, firm_nil⟩
  | cons a l ih =>
    obtain ⟨x, m, y, rfl, hx, hy, hm⟩ := ih
    cases ha : blB a with
    | true => exact ⟨a :: x, m, y, rfl, by intro b hb; rcases List.mem_cons.1 hb with rfl | hb; exact ha; exact hx b hb, hy, hm⟩
    | false =>
      by_cases he : m = []
      · subst he
        refine ⟨[], [a], x ++ y, by simp, by simp, ?_, ⟨?_, ?_⟩⟩
        · intro b hb; rcases List.mem_append.1 hb with h | h; exact hx b h; exact hy b h
        · intro b hb; simp at hb; rw [← hb]; exact ha
        · intro b _ hb; simp at hb; rw [← hb]; exact ha
      · have hl : 0 < m.length := List.length_pos_iff.2 he
        refine ⟨[], a :: (x ++ m), y, by simp, by simp, hy, ⟨?_, ?_⟩⟩
        · intro b hb; simp at hb; rw [← hb]; exact ha
        · intro b _ hb
          have e1 : (a :: (x ++ m)).length - 1 = (x.length + (m.length - 1)) + 1 := by simp; omega
          rw [e1, List.getElem?_cons_succ, List.getElem?_append_right (by omega)] at hb
          exact hm.2 b hl (by rw [← hb]; congr 1; omega)
theorem trim_front (x l : List UInt8) (hx : ∀ b ∈ x, blB b = true) : trimB (x ++ l) = trimB l := by
  obtain ⟨x', m, y, rfl, h1, h2, h3⟩ := trim_parts l
  rw [trim_mid x' m y h1 h2 h3, show x ++ (x' ++ m ++ y) = (x ++ x') ++ m ++ y by simp]
  exact trim_mid _ m y (fun b hb => by rcases List.mem_append.1 hb with h | h; exact hx b h; exact h1 b h) h2 h3
theorem trim_none (l : List UInt8) (h : trimB l = []) : ∀ b ∈ l, blB b = true := by
  obtain ⟨x', m, y, rfl, h1, h2, h3⟩ := trim_parts l
  rw [trim_mid x' m y h1 h2 h3] at h
  subst h
  intro b hb
  simp only [List.append_nil, List.mem_append] at hb
  rcases hb with h | h
  · exact h1 b h
  · exact h2 b h
theorem trim_blank (l : List UInt8) (h : ∀ b ∈ l, blB b = true) : trimB l = [] := by
  have := trim_mid l [] [] h (by simp) firm_nil
  simpa using this

/-- the pieces between the bytes 59 -/
def splitB : List UInt8 → List (List UInt8)
  | [] => [[]]
  | b :: l => if b = 59 then [] :: splitB l else match splitB l with
    | [] => [[b]]
    | p :: r => (b :: p) :: r
theorem split_cons (l : List UInt8) : ∃ p r, splitB l = p :: r := by
  cases l with
  | nil => exact ⟨_, _, rfl⟩
  | cons b l =>
    unfold splitB
    split
    · exact ⟨_, _, rfl⟩
    · split
      · exact ⟨_, _, rfl⟩
      · exact ⟨_, _, rfl⟩
theorem split_step (b : UInt8) (l p : List UInt8) (r : List (List UInt8)) (hb : b ≠ 59) (h : splitB l = p :: r) : splitB (b :: l) = (b :: p) :: r := by
  simp only [splitB, hb, if_false, h]
theorem split_one (l p : List UInt8) (h : splitB l = [p]) : p = l := by
  induction l generalizing p with
  | nil => simp [splitB] at h; exact h
  | cons b l ih =>
    by_cases hb : b = 59
    · obtain ⟨q, r, hq⟩ := split_cons l
      simp [splitB, hb, hq] at h
    · obtain ⟨q, r, hq⟩ := split_cons l
      rw [split_step b l q r hb hq] at h
      obtain ⟨h1, h2⟩ := List.cons.inj h
      subst h2
      rw [← h1, ih q hq]
theorem split_until (l : List UInt8) : splitB l = (untilB 59 l).1 :: (if (untilB 59 l).2.2 = true then splitB (untilB 59 l).2.1 else []) := by
  induction l with
  | nil => rfl
  | cons b l ih =>
    by_cases hb : b = 59
    · simp [splitB, untilB, hb]
    · rw [split_step b l _ _ hb ih]
      simp only [untilB, hb, if_false]
theorem split_no (l : List UInt8) (h : ∀ b ∈ l, b ≠ 59) : splitB l = [l] := by
  induction l with
  | nil => rfl
  | cons b l ih => rw [split_step b l l [] (h b (by simp)) (ih fun c hc => h c (by simp [hc]))]
/-- a piece's fields -/
def fieldsB (l : List UInt8) : List (List UInt8) := if trimB l = [] then [] else (splitB l).map trimB
/-- a line's fields and note -/
def docCut (l : List UInt8) : List (List UInt8) × List UInt8 := (fieldsB (trimB (untilB 35 l).1), trimB (untilB 35 l).2.1)

theorem mach_split : ∀ (x : List UInt8) (n : Nat) (cur pend p : List UInt8) (r : List (List UInt8)), (∀ b ∈ x, b ≠ 35) → Firm cur → (cur = [] → pend = []) → (∀ b ∈ pend, blB b = true) → splitB x = p :: r →
    mach n cur pend x = (if n = 0 ∧ r = [] ∧ trimB (cur ++ pend ++ p) = [] then [] else trimB (cur ++ pend ++ p) :: r.map trimB, [])
  | [], n, cur, pend, p, r, _, hf, hc, hp, hs => by
    obtain ⟨rfl, rfl⟩ : [] = p ∧ [] = r := by simpa [splitB] using hs
    have e : trimB (cur ++ pend ++ []) = cur := by
      have := trim_mid [] cur pend (by simp) hp hf
      simpa using this
    rw [e]
    simp only [mach, lastF, List.map_nil, true_and]
    by_cases h0 : n = 0 ∧ cur = []
    · rw [if_pos h0, if_neg (by rintro (h | h); omega; exact h h0.2)]
    · rw [if_neg h0, if_pos (by
        by_cases hn : 0 < n
        · exact .inl hn
        · exact .inr fun e => h0 ⟨by omega, e⟩)]
  | b :: x, n, cur, pend, p, r, h35, hf, hc, hp, hs => by
    have h35' : ∀ c ∈ x, c ≠ 35 := fun c hc => h35 c (by simp [hc])
    obtain ⟨q, r', hq⟩ := split_cons x
    by_cases hb : b = 32 ∨ b = 9
    · have hne : b ≠ 59 := by rcases hb with rfl | rfl <;> decide
      have hbl : blB b = true := (blB_iff b).2 hb
      rw [split_step b x q r' hne hq] at hs
      obtain ⟨rfl, rfl⟩ := List.cons.inj hs
      simp only [mach, hb, if_true]
      by_cases he : cur = []
      · subst he
        obtain rfl := hc rfl
        rw [if_pos rfl, mach_split x n [] [] q r' h35' firm_nil (fun _ => rfl) (by simp) hq]
        have : trimB ([] ++ [] ++ b :: q) = trimB ([] ++ [] ++ q) := trim_front [b] q (by simpa using hbl)
        rw [this]
      · rw [if_neg he, mach_split x n cur (pend ++ [b]) q r' h35' hf (fun h => absurd h he) (fun c hc => by
          rcases List.mem_append.1 hc with h | h
          · exact hp c h
          · rw [List.mem_singleton.1 h]; exact hbl) hq]
        simp
    · by_cases h59 : b = 59
      · subst h59
        have e0 : splitB (59 :: x) = [] :: splitB x := by simp [splitB]
        rw [e0] at hs
        obtain ⟨rfl, rfl⟩ := List.cons.inj hs
        have e : trimB (cur ++ pend ++ []) = cur := by
          have := trim_mid [] cur pend (by simp) hp hf
          simpa using this
        have ih := mach_split x (n + 1) [] [] q r' h35' firm_nil (fun _ => rfl) (by simp) hq
        rw [e, if_neg (by rintro ⟨_, h, _⟩; rw [hq] at h; cases h)]
        simp only [mach, hb, if_false, if_true, ih]
        rw [if_neg (by rintro ⟨h, _⟩; omega), hq]
        rfl
      · have h35b : b ≠ 35 := h35 b (by simp)
        have hbl : blB b = false := (blB_not b).2 hb
        rw [split_step b x q r' h59 hq] at hs
        obtain ⟨rfl, rfl⟩ := List.cons.inj hs
        simp only [mach, hb, h59, h35b, if_false]
        rw [mach_split x n (cur ++ pend ++ [b]) [] q r' h35' ⟨?_, ?_⟩ (fun _ => rfl) (by simp) hq]
        · simp
        · intro c hc'
          by_cases he : cur = []
          · subst he
            obtain rfl := hc rfl
            simp at hc'; rw [← hc']; exact hbl
          · have hl : 0 < cur.length := List.length_pos_iff.2 he
            rw [List.append_assoc, List.getElem?_append_left hl] at hc'
            exact hf.1 c hc'
        · intro c _ hc'
          have e1 : (cur ++ pend ++ [b]).length - 1 = (cur ++ pend).length := by simp
          rw [e1, List.getElem?_append_right (Nat.le_refl _), Nat.sub_self] at hc'
          simp at hc'; rw [← hc']; exact hbl
theorem fields_mach (x : List UInt8) (h : ∀ b ∈ x, b ≠ 35) : mach 0 [] [] x = (fieldsB x, []) := by
  obtain ⟨p, r, hs⟩ := split_cons x
  rw [mach_split x 0 [] [] p r h firm_nil (fun _ => rfl) (by simp) hs]
  unfold fieldsB
  simp only [List.nil_append, true_and]
  by_cases ht : trimB x = []
  · have hx := split_no x (fun b hb e => by have := trim_none x ht b hb; rw [e] at this; exact absurd this (by decide))
    rw [hx] at hs
    obtain ⟨rfl, rfl⟩ := List.cons.inj hs
    rw [if_pos ⟨rfl, ht⟩, if_pos ht]
  · rw [if_neg ht, hs, if_neg]
    · rfl
    · rintro ⟨rfl, hp⟩
      rw [split_one x p hs] at hp
      exact ht hp
theorem mach_blanks : ∀ (y : List UInt8) (n : Nat) (cur pend : List UInt8), (∀ b ∈ y, blB b = true) → mach n cur pend y = (lastF n cur, [])
  | [], n, cur, pend, _ => rfl
  | b :: y, n, cur, pend, h => by
    have hb := (blB_iff b).1 (h b (by simp))
    have hy : ∀ c ∈ y, blB c = true := fun c hc => h c (by simp [hc])
    simp only [mach, hb, if_true]
    by_cases he : cur = []
    · rw [if_pos he, mach_blanks y n [] [] hy, he]
    · rw [if_neg he, mach_blanks y n cur _ hy]
theorem mach_back : ∀ (x y : List UInt8) (n : Nat) (cur pend : List UInt8), (∀ b ∈ x, b ≠ 35) → (∀ b ∈ y, blB b = true) → mach n cur pend (x ++ y) = mach n cur pend x
  | [], y, n, cur, pend, _, hy => by rw [List.nil_append, mach_blanks y n cur pend hy]; rfl
  | b :: x, y, n, cur, pend, hx, hy => by
    have hx' : ∀ c ∈ x, c ≠ 35 := fun c hc => hx c (by simp [hc])
    have h35 : b ≠ 35 := hx b (by simp)
    rw [List.cons_append]
    simp only [mach, h35, if_false, mach_back x y _ _ _ hx' hy]
theorem mach_front : ∀ (x y : List UInt8) (n : Nat), (∀ b ∈ x, blB b = true) → mach n [] [] (x ++ y) = mach n [] [] y
  | [], y, n, _ => rfl
  | b :: x, y, n, hx => by
    have hb := (blB_iff b).1 (hx b (by simp))
    rw [List.cons_append]
    simp only [mach, hb, if_true]
    exact mach_front x y n (fun c hc => hx c (by simp [hc]))
theorem mach_trim (x : List UInt8) (h : ∀ b ∈ x, b ≠ 35) : mach 0 [] [] (trimB x) = mach 0 [] [] x := by
  obtain ⟨x', m, y, rfl, h1, h2, h3⟩ := trim_parts x
  rw [trim_mid x' m y h1 h2 h3, List.append_assoc, mach_front x' _ 0 h1, mach_back m y 0 [] [] (fun b hb => h b (by simp [hb])) h2]
theorem until_no (c : UInt8) (l : List UInt8) : ∀ b ∈ (untilB c l).1, b ≠ c := by
  induction l with
  | nil => simp [untilB]
  | cons a l ih =>
    by_cases h : a = c
    · simp [untilB, h]
    · simp only [untilB, h, if_false]
      intro b hb
      rcases List.mem_cons.1 hb with rfl | hb
      · exact h
      · exact ih b hb
theorem mach_until : ∀ (l : List UInt8) (n : Nat) (cur pend : List UInt8), mach n cur pend l = ((mach n cur pend (untilB 35 l).1).1, trimB (untilB 35 l).2.1)
  | [], n, cur, pend => rfl
  | b :: l, n, cur, pend => by
    by_cases h35 : b = 35
    · subst h35
      simp [untilB, mach]
    · simp only [untilB, h35, if_false]
      simp only [mach, h35, if_false]
      by_cases hb : b = 32 ∨ b = 9
      · simp only [hb, if_true]
        by_cases he : cur = []
        · rw [if_pos he, if_pos he, mach_until l n [] []]
        · rw [if_neg he, if_neg he, mach_until l n cur _]
      · simp only [hb, if_false]
        by_cases h59 : b = 59
        · simp only [h59, if_true]
          rw [mach_until l (n + 1) [] []]
        · simp only [h59, if_false]
          rw [mach_until l n _ []]
theorem trim_sub (l : List UInt8) : ∀ b ∈ trimB l, b ∈ l := by
  obtain ⟨x', m, y, rfl, h1, h2, h3⟩ := trim_parts l
  rw [trim_mid x' m y h1 h2 h3]
  intro b hb; simp [hb]
theorem cut_doc (s : ByteArray) : cutS s = docCut (L s) := by
  unfold cutS docCut
  have h35 := until_no 35 (L s)
  rw [mach_until, ← mach_trim _ h35, fields_mach _ (fun b hb => h35 b (trim_sub _ b hb))]

end Go.Proofs.YthgaadjkjnibaaaGreatDoor
/-
  What a line is, by the document's definition; and that Scan's way gives the same.
-/
namespace Go.Proofs.YthgaadjkjnibaaaGreatDoor
open Go.RowKit Go.PlainAid Go.Lib Go.Shelf
set_option linter.unusedVariables false

/-- may these bytes be an order's name? -/
def namedB (l : List UInt8) : Bool := l.all (fun b => nameSignB (b.toNat : Int)) && decide (l ≠ [])
--CHARS
theorem dec_high (s : ByteArray) (i : Nat) (hi : i < s.size) (h : 128 ≤ bN s i) : 128 ≤ (Utf8.decode s i).1 := by
  rw [decode_decB s i hi]
  unfold decB
  rw [if_neg (by omega)]
  (repeat' split) <;> simp <;> omega
theorem dec_low (s : ByteArray) (i : Nat) (hi : i < s.size) (h : bN s i < 128) : Utf8.decode s i = (bN s i, 1) := by
  rw [decode_decB s i hi]
  unfold decB
  rw [if_pos h]
theorem name_high (r : Nat) (h : 128 ≤ r) : nameSignB (r : Int) = false := by
  unfold nameSignB
  rw [decide_eq_false (show ¬ ((r : Int) ≤ 90) by omega), decide_eq_false (show ¬ ((r : Int) ≤ 122) by omega), decide_eq_false (show ¬ ((r : Int) ≤ 57) by omega), decide_eq_false (show ¬ ((r : Int) = 95) by omega), decide_eq_false (show ¬ ((r : Int) = 45) by omega)]
  simp
theorem name_chars (s : ByteArray) : ∀ (k i : Nat), s.size - i ≤ k → (chars s i).all (fun p => nameSignB (p.2 : Int)) = ((L s).drop i).all (fun b => nameSignB (b.toNat : Int)) := by
  intro k
  induction k with
  | zero => intro i h; rw [chars_end s i (by omega), List.drop_of_length_le (by rw [L_len]; omega)]; rfl
  | succ k ih =>
    intro i h
    by_cases hi : i < s.size
    · rw [chars_step s i hi, drop_at s i hi, List.all_cons, List.all_cons]
      have e0 : ((s.get! i).toNat : Int) = (bN s i : Int) := rfl
      rw [e0]
      by_cases hb : bN s i < 128
      · rw [dec_low s i hi hb, ih (i + 1) (by omega)]
      · rw [name_high _ (dec_high s i hi (by omega)), name_high _ (by omega : 128 ≤ bN s i)]; rfl
    · rw [chars_end s i hi, List.drop_of_length_le (by rw [L_len]; omega)]; rfl
theorem nameB_named (l : List UInt8) : nameB (S l) = namedB l := by
  unfold nameB namedB
  rw [name_chars (S l) _ 0 (Nat.le_refl _), List.drop_zero, L_S, S_size]
  congr 1
  rw [Bool.eq_iff_iff]
  simp [List.length_pos_iff]
--END
theorem named_ne (l : List UInt8) (h : namedB l = true) : ∀ b ∈ l, b ≠ 35 := by
  intro b hb e
  unfold namedB at h
  simp only [Bool.and_eq_true, List.all_eq_true] at h
  have := h.1 b hb
  rw [e] at this
  exact absurd this (by decide)

def docScan (no : Int) (l : List UInt8) : LineD × Int :=
  if trimB (untilB 35 l).1 = [] then
    (if hasPrefix (trimB (untilB 35 l).2.1) missingL = true then (⟨no, 3, [], (docCut ((trimB (untilB 35 l).2.1).drop 9)).1, (docCut ((trimB (untilB 35 l).2.1).drop 9)).2⟩, 0)
     else (⟨no, 0, [], [], trimB (untilB 35 l).2.1⟩, 0))
  else if (trimB (untilB 35 l).1)[0]? = some 64 then
    (if ((untilB 58 ((trimB (untilB 35 l).1).drop 1)).2.2 && namedB (untilB 58 ((trimB (untilB 35 l).1).drop 1)).1) = true then
      (⟨no, 2, (untilB 58 ((trimB (untilB 35 l).1).drop 1)).1, fieldsB (untilB 58 ((trimB (untilB 35 l).1).drop 1)).2.1, trimB (untilB 35 l).2.1⟩, 0) else (zeroD, 33))
  else (⟨no, 1, [], fieldsB (trimB (untilB 35 l).1), trimB (untilB 35 l).2.1⟩, 0)

theorem until_app_no (c : UInt8) : ∀ (x l : List UInt8), (∀ b ∈ x, b ≠ c) → untilB c (x ++ l) = (x ++ (untilB c l).1, (untilB c l).2.1, (untilB c l).2.2)
  | [], l, _ => rfl
  | b :: x, l, h => by
    have hb : b ≠ c := h b (by simp)
    rw [List.cons_append]
    simp only [untilB, hb, if_false, until_app_no c x l (fun d hd => h d (by simp [hd]))]
    rfl
theorem until_hit (c : UInt8) (p q : List UInt8) (h : ∀ b ∈ p, b ≠ c) : untilB c (p ++ c :: q) = (p, q, true) := by
  rw [until_app_no c p _ h]; simp [untilB]
theorem until_miss (c : UInt8) (p : List UInt8) (h : ∀ b ∈ p, b ≠ c) : untilB c p = (p, [], false) := by
  have := until_app_no c p [] h
  simpa [untilB] using this
theorem until_cases (c : UInt8) (l : List UInt8) : ((∀ b ∈ l, b ≠ c) ∧ untilB c l = (l, [], false)) ∨ ∃ p q, l = p ++ c :: q ∧ (∀ b ∈ p, b ≠ c) ∧ untilB c l = (p, q, true) := by
  induction l with
  | nil => exact .inl ⟨by simp, rfl⟩
  | cons a l ih =>
    by_cases h : a = c
    · subst h; exact .inr ⟨[], l, rfl, by simp, by simp [untilB]⟩
    · rcases ih with ⟨h1, h2⟩ | ⟨p, q, rfl, h1, h2⟩
      · exact .inl ⟨by intro b hb; rcases List.mem_cons.1 hb with rfl | hb; exact h; exact h1 b hb, by simp [untilB, h, h2]⟩
      · exact .inr ⟨a :: p, q, rfl, by intro b hb; rcases List.mem_cons.1 hb with rfl | hb; exact h; exact h1 b hb, by simp [untilB, h, h2]⟩
theorem blank_ne (c : UInt8) (hc : blB c = false) (x : List UInt8) (hx : ∀ b ∈ x, blB b = true) : ∀ b ∈ x, b ≠ c := fun b hb e => by rw [← e, hx b hb] at hc; cases hc
theorem trim_back (l y : List UInt8) (hy : ∀ b ∈ y, blB b = true) : trimB (l ++ y) = trimB l := by
  obtain ⟨x', m, z, rfl, h1, h2, h3⟩ := trim_parts l
  rw [trim_mid x' m z h1 h2 h3, List.append_assoc]
  exact trim_mid x' m (z ++ y) h1 (fun b hb => by rcases List.mem_append.1 hb with h | h; exact h2 b h; exact hy b h) h3
theorem docCut_mach (l : List UInt8) : docCut l = mach 0 [] [] l := by
  have := cut_doc (S l)
  unfold cutS at this
  rw [L_S] at this
  exact this.symm
theorem docCut_back (l y : List UInt8) (hy : ∀ b ∈ y, blB b = true) : docCut (l ++ y) = docCut l := by
  rw [docCut_mach, docCut_mach]
  rcases until_cases 35 l with ⟨h1, _⟩ | ⟨p, q, rfl, h1, h2⟩
  · exact mach_back l y 0 [] [] h1 hy
  · rw [mach_until, mach_until (p ++ 35 :: q), List.append_assoc, List.cons_append, until_hit 35 p _ h1, until_hit 35 p _ h1, trim_back q y hy]
theorem fields_back (l y : List UInt8) (hl : ∀ b ∈ l, b ≠ 35) (hy : ∀ b ∈ y, blB b = true) : fieldsB (l ++ y) = fieldsB l := by
  have h1 := fields_mach l hl
  have h2 := fields_mach (l ++ y) (fun b hb => by
    rcases List.mem_append.1 hb with h | h
    · exact hl b h
    · exact blank_ne 35 (by decide) y hy b h)
  rw [mach_back l y 0 [] [] hl hy, h1] at h2
  exact (congrArg Prod.fst h2).symm
theorem fields_trim (l : List UInt8) (hl : ∀ b ∈ l, b ≠ 35) : fieldsB (trimB l) = fieldsB l := by
  have h1 := fields_mach l hl
  have h2 := fields_mach (trimB l) (fun b hb => hl b (trim_sub l b hb))
  rw [mach_trim l hl, h1] at h2
  exact (congrArg Prod.fst h2).symm
/-- a text whose first byte but blanks is @ -/
theorem trim_at (c : UInt8) (hc : blB c = false) (r : List UInt8) : ∃ r' y, r = r' ++ y ∧ (∀ b ∈ y, blB b = true) ∧ trimB (c :: r) = c :: r' := by
  obtain ⟨x, m, y, he, h1, h2, h3⟩ := trim_parts (c :: r)
  cases x with
  | cons a x =>
    have ha := h1 a (by simp)
    obtain ⟨e, _⟩ := List.cons.inj (show c :: r = a :: (x ++ m ++ y) from he)
    rw [← e, hc] at ha; cases ha
  | nil =>
    cases m with
    | nil =>
      rw [List.nil_append, List.nil_append] at he
      have := h2 c (by rw [← he]; simp)
      rw [hc] at this; cases this
    | cons a m =>
      obtain ⟨e, e2⟩ := List.cons.inj (show c :: r = a :: (m ++ y) from he)
      subst e
      refine ⟨m, y, e2, h2, ?_⟩
      rw [he]; exact trim_mid [] (c :: m) y (by simp) h2 h3
theorem trim_first (l : List UInt8) (c : UInt8) (m : List UInt8) (h : trimB l = c :: m) : ∃ x r, l = x ++ c :: r ∧ (∀ b ∈ x, blB b = true) ∧ blB c = false := by
  obtain ⟨x, m', y, rfl, h1, h2, h3⟩ := trim_parts l
  rw [trim_mid x m' y h1 h2 h3] at h
  subst h
  exact ⟨x, m ++ y, by simp, h1, h3.1 c rfl⟩
theorem fields_ne (l : List UInt8) (h : trimB l ≠ []) : fieldsB l ≠ [] := by
  unfold fieldsB
  rw [if_neg h]
  obtain ⟨p, r, hs⟩ := split_cons l
  rw [hs]; simp
theorem trim_twice (l : List UInt8) : trimB (trimB l) = trimB l := by
  obtain ⟨x, m, y, rfl, h1, h2, h3⟩ := trim_parts l
  rw [trim_mid x m y h1 h2 h3]; exact trim_firm m h3
theorem until_rest (c : UInt8) (l : List UInt8) : ∃ r2, l = (untilB c l).1 ++ r2 ∧ ((r2 = [] ∧ (untilB c l).2.1 = []) ∨ r2 = c :: (untilB c l).2.1) := by
  rcases until_cases c l with ⟨_, h⟩ | ⟨p, q, rfl, _, h⟩
  · rw [h]; exact ⟨[], by simp, .inl ⟨rfl, rfl⟩⟩
  · rw [h]; exact ⟨c :: q, rfl, .inr rfl⟩

theorem order_doc (no : Int) (x r r' y : List UInt8) (hx : ∀ b ∈ x, blB b = true) (hy : ∀ b ∈ y, blB b = true) (hr : r = r' ++ y) : orderS no r' = docScan no (x ++ 64 :: r) := by
  have hx35 := blank_ne 35 (by decide) x hx
  have eU : untilB 35 (x ++ 64 :: r) = (x ++ 64 :: (untilB 35 r).1, (untilB 35 r).2.1, (untilB 35 r).2.2) := by
    rw [until_app_no 35 x _ hx35]; simp [untilB]
  obtain ⟨r1', y1, hr1, hy1, hT⟩ := trim_at 64 (by decide) (untilB 35 r).1
  have eH : trimB (untilB 35 (x ++ 64 :: r)).1 = 64 :: r1' := by rw [eU]; exact (trim_front x _ hx).trans hT
  unfold docScan
  rw [eH, if_neg (by simp), if_pos (show (64 :: r1')[0]? = some (64 : UInt8) from rfl), List.drop_one, List.tail_cons, eU]
  simp only []
  have h35 := until_no 35 r
  obtain ⟨r2, hr2, hc2⟩ := until_rest 35 r
  rw [hr1] at h35 hr2
  generalize (untilB 35 r).2.1 = r3 at *
  unfold orderS
  rcases until_cases 58 r1' with ⟨k1, k2⟩ | ⟨p, q', rfl, k1, k2⟩
  · simp only [k2, Bool.false_and, Bool.false_eq_true, if_false]
    rcases until_cases 58 r' with ⟨j1, j2⟩ | ⟨p, q, rfl, j1, j2⟩
    · simp only [j2, Bool.false_and, Bool.false_eq_true, if_false]
    · simp only [j2, Bool.true_and]
      rw [if_neg]
      intro hn
      rw [nameB_named] at hn
      have hp35 := named_ne p hn
      -- the colon stands behind a 35
      have hcol : (58 : UInt8) ∈ r := by rw [hr]; simp
      rw [hr2] at hcol
      rcases List.mem_append.1 hcol with h | h
      · rcases List.mem_append.1 h with h | h
        · exact k1 58 h rfl
        · exact blank_ne 58 (by decide) y1 hy1 58 h rfl
      · rcases hc2 with ⟨rfl, _⟩ | rfl
        · cases h
        · have e : r1' ++ y1 ++ 35 :: r3 = p ++ 58 :: q ++ y := hr2.symm.trans hr
          have h58 : ∀ b ∈ r1' ++ y1, b ≠ 58 := fun b hb => by
            rcases List.mem_append.1 hb with h | h
            · exact k1 b h
            · exact blank_ne 58 (by decide) y1 hy1 b h
          have := congrArg (untilB 58) (e.trans (show p ++ 58 :: q ++ y = p ++ 58 :: (q ++ y) by simp))
          rw [until_app_no 58 _ _ h58, until_hit 58 p _ j1] at this
          have e1 : r1' ++ y1 ++ (untilB 58 (35 :: r3)).1 = p := congrArg Prod.fst this
          have : (35 : UInt8) ∈ p := by
            rw [← e1]; simp [untilB]
          exact hp35 35 this rfl
  · rw [k2]
    have e : p ++ 58 :: (q' ++ y1 ++ r2) = r' ++ y := by rw [← hr, hr2]; simp
    have hy58 := blank_ne 58 (by decide) y hy
    obtain ⟨b', hb1, hb2⟩ : ∃ b', r' = p ++ 58 :: b' ∧ q' ++ y1 ++ r2 = b' ++ y := by
      rcases until_cases 58 r' with ⟨j1, j2⟩ | ⟨p2, q2, rfl, j1, j2⟩
      · exfalso
        have : (58 : UInt8) ∈ r' ++ y := by rw [← e]; simp
        rcases List.mem_append.1 this with h | h
        · exact j1 58 h rfl
        · exact hy58 58 h rfl
      · have e' : p ++ 58 :: (q' ++ y1 ++ r2) = p2 ++ 58 :: (q2 ++ y) := e.trans (by simp)
        have := congrArg (untilB 58) e'
        rw [until_hit 58 p _ k1, until_hit 58 p2 _ j1] at this
        have e1 : p = p2 := congrArg Prod.fst this
        have e2 : q' ++ y1 ++ r2 = q2 ++ y := congrArg (fun z => z.2.1) this
        exact ⟨q2, by rw [e1], e2⟩
    subst hb1
    rw [until_hit 58 p b' k1, nameB_named]
    have hq35 : ∀ b ∈ q' ++ y1, b ≠ 35 := fun b hb => h35 b (by
      rcases List.mem_append.1 hb with h | h <;> simp [h])
    have eB : cutS (S b') = (fieldsB q', trimB r3) := by
      rw [cut_doc, L_S, ← docCut_back b' y hy, ← hb2]
      unfold docCut
      have : untilB 35 (q' ++ y1 ++ r2) = (q' ++ y1, r3, (untilB 35 r2).2.2) := by
        rw [until_app_no 35 _ _ hq35]
        rcases hc2 with ⟨rfl, h⟩ | rfl
        · rw [h]; simp [untilB]
        · simp [untilB]
      rw [this]
      simp only []
      rw [fields_trim _ hq35, fields_back q' y1 (fun b hb => hq35 b (by simp [hb])) hy1]
    rw [eB]
theorem scan_doc (no : Int) (s : ByteArray) : scanS no s = if (chkS s).2 ≠ 0 then (zeroD, (chkS s).2) else docScan no (L s) := by
  unfold scanS
  by_cases hc : (chkS s).2 ≠ 0
  · rw [if_pos hc, if_pos hc]
  · rw [if_neg hc, if_neg hc]
    by_cases hp : hasPrefix (trimB (L s)) [64] = true
    · rw [if_pos hp]
      obtain ⟨t, ht⟩ := List.isPrefixOf_iff_prefix.1 hp
      obtain ⟨x, r, hl, hx, _⟩ := trim_first (L s) 64 t ht.symm
      obtain ⟨r', y, hr, hy, hT⟩ := trim_at 64 (by decide) r
      have e1 : trimB (L s) = 64 :: r' := by rw [hl, trim_front x _ hx]; exact hT
      rw [e1, hl]
      exact order_doc no x r r' y hx hy hr
    · rw [if_neg hp]
      have hne : ¬ (trimB (untilB 35 (L s)).1)[0]? = some 64 := by
        intro h
        apply hp
        cases hm : trimB (untilB 35 (L s)).1 with
        | nil => rw [hm] at h; simp at h
        | cons c m =>
          rw [hm] at h
          obtain rfl : c = 64 := by simpa using h
          obtain ⟨x, r, hl, hx, hb⟩ := trim_first _ _ _ hm
          obtain ⟨r2, hr2, _⟩ := until_rest 35 (L s)
          rw [hl] at hr2
          obtain ⟨r', y, hr, hy, hT⟩ := trim_at 64 (by decide) (r ++ r2)
          have : trimB (L s) = 64 :: r' := by
            rw [hr2, List.append_assoc, trim_front x _ hx, List.cons_append]; exact hT
          rw [this]; simp [hasPrefix]
      unfold docScan plainS
      rw [cut_doc]
      unfold docCut
      simp only []
      by_cases hh : trimB (untilB 35 (L s)).1 = []
      · rw [hh, if_pos rfl]
        have : fieldsB [] = [] := by decide
        rw [this, if_neg (by simp)]
        by_cases hm : hasPrefix (trimB (untilB 35 (L s)).2.1) missingL = true
        · rw [if_pos hm, if_pos hm, cut_doc, L_S]; rfl
        · rw [if_neg hm, if_neg hm]
      · rw [if_neg hh, if_neg hne, if_pos (fields_ne _ (by rw [trim_twice]; exact hh))]

end Go.Proofs.YthgaadjkjnibaaaGreatDoor
/-
  What Read makes of two texts, one behind the other.
-/
namespace Go.Proofs.YthgaadjkjnibaaaGreatDoor
open Go.RowKit Go.PlainAid Go.Lib Go.Shelf
set_option linter.unusedVariables false

theorem ext_first (a b : ByteArray) (f t : Nat) (ht : t ≤ a.size) (hft : f ≤ t) : (a ++ b).extract f t = a.extract f t := by
  rw [← S_L ((a ++ b).extract f t), ← S_L (a.extract f t), L_extract, L_extract, L_app, List.drop_append_of_le_length (by rw [L_len]; omega), List.take_append_of_le_length (by rw [List.length_drop, L_len]; omega)]
theorem ext_second (a b : ByteArray) (f t : Nat) : (a ++ b).extract (a.size + f) (a.size + t) = b.extract f t := by
  rw [← S_L ((a ++ b).extract (a.size + f) (a.size + t)), ← S_L (b.extract f t), L_extract, L_extract, L_app, ← L_len a, List.drop_append, List.drop_of_length_le (by omega), List.nil_append, Nat.add_sub_cancel_left, show (L a).length + t - ((L a).length + f) = t - f by omega]
/-- a line with another number -/
def withNo (d : LineD) (no : Int) : LineD := { d with no := no }
theorem order_no (no no' : Int) (l : List UInt8) : (orderS no' l).2 = (orderS no l).2 ∧ ((orderS no l).2 = 0 → (orderS no' l).1 = withNo (orderS no l).1 no') := by
  unfold orderS
  split
  · exact ⟨rfl, fun _ => rfl⟩
  · exact ⟨rfl, fun h => by cases h⟩
theorem scan_no (no no' : Int) (s : ByteArray) : (scanS no' s).2 = (scanS no s).2 ∧ ((scanS no s).2 = 0 → (scanS no' s).1 = withNo (scanS no s).1 no') := by
  unfold scanS
  split
  · exact ⟨rfl, fun h => absurd h (by assumption)⟩
  · split
    · exact order_no no no' _
    · refine ⟨rfl, fun _ => ?_⟩
      unfold plainS
      split
      · rfl
      · split <;> rfl
theorem scan_number (no : Int) (s : ByteArray) (h : (scanS no s).2 = 0) : (scanS no s).1.no = no := by
  unfold scanS at h ⊢
  split at h
  · exact absurd h (by assumption)
  · rename_i hc
    rw [if_neg hc]
    split at h
    · rename_i hp
      rw [if_pos hp]
      unfold orderS at h ⊢
      split at h
      · rename_i hq; rw [if_pos hq]
      · cases h
    · rename_i hp
      rw [if_neg hp]
      unfold plainS
      simp only []
      split
      · rfl
      · split <;> rfl
theorem scanX_first (a b : ByteArray) (x : Nat × Nat × Nat) (h : x ∈ linesL a) : scanX (a ++ b) x = scanX a x := by
  have hm := lines_mem a x h
  unfold scanX
  rw [ext_first a b _ _ hm.2.1 hm.1]
theorem scanX_second (a b : ByteArray) (d : Nat) (y : Nat × Nat × Nat) : (scanX (a ++ b) (shiftL d a.size y)).2 = (scanX b y).2 ∧ ((scanX b y).2 = 0 → (scanX (a ++ b) (shiftL d a.size y)).1 = withNo (scanX b y).1 ((y.1 + d : Nat) : Int)) := by
  unfold scanX shiftL
  simp only []
  rw [ext_second]
  exact scan_no (y.1 : Nat) ((y.1 + d : Nat) : Int) _
theorem rd_cases (s : ByteArray) : ∀ l : List (Nat × Nat × Nat), (∀ x ∈ l, (scanX s x).2 = 0) ∨ ∃ p x r, l = p ++ x :: r ∧ (∀ y ∈ p, (scanX s y).2 = 0) ∧ (scanX s x).2 ≠ 0
  | [] => .inl (by simp)
  | x :: l => by
    by_cases hx : (scanX s x).2 = 0
    · rcases rd_cases s l with h | ⟨p, y, r, rfl, h1, h2⟩
      · exact .inl (by intro y hy; rcases List.mem_cons.1 hy with rfl | hy; exact hx; exact h y hy)
      · exact .inr ⟨x :: p, y, r, rfl, by intro z hz; rcases List.mem_cons.1 hz with rfl | hz; exact hx; exact h1 z hz, h2⟩
    · exact .inr ⟨[], x, l, rfl, by simp, hx⟩
/-- what is read of both -/
theorem read_app (a b : ByteArray) (h0 : 0 < a.size) (hl : bN a (a.size - 1) = 10) (hm : markN b = 0) :
    (∀ no code, (readS a).2 = some (no, code) → (readS (a ++ b)).2 = some (no, code)) ∧
    ((readS a).2 = none → (readS a).1.length = (linesL a).length ∧ (∀ no code, (readS b).2 = some (no, code) → (readS (a ++ b)).2 = some (no + (linesL a).length, code)) ∧
      ((readS b).2 = none → readS (a ++ b) = ((readS a).1 ++ (readS b).1.map (fun d => withNo d (d.no + ((linesL a).length : Nat))), none))) := by
  have hla := lines_app a b h0 hl hm
  unfold readS
  rw [hla]
  have fa : ∀ x ∈ linesL a, scanX (a ++ b) x = scanX a x := fun x hx => scanX_first a b x hx
  rcases rd_cases a (linesL a) with hok | ⟨p, x, r, hp, h1, h2⟩
  · rw [rd_ok a _ hok]
    refine ⟨(by intro no code h; cases h), fun _ => ⟨by simp, ?_, ?_⟩⟩
    · intro no code hb
      rcases rd_cases b (linesL b) with hok2 | ⟨q, y, r, hq, g1, g2⟩
      · rw [rd_ok b _ hok2] at hb; cases hb
      · rw [hq, rd_bad b q r y g1 g2] at hb
        obtain ⟨rfl, rfl⟩ : y.1 = no ∧ (scanX b y).2 = code := by
          have := Option.some.inj hb
          exact ⟨congrArg Prod.fst this, congrArg Prod.snd this⟩
        rw [hq, List.map_append, List.map_cons, ← List.append_assoc]
        have hs := scanX_second a b (linesL a).length y
        rw [rd_bad (a ++ b) _ _ (shiftL (linesL a).length a.size y) (fun z hz => by
          rcases List.mem_append.1 hz with h | h
          · rw [fa z h]; exact hok z h
          · obtain ⟨u, hu, rfl⟩ := List.mem_map.1 h
            rw [(scanX_second a b (linesL a).length u).1]; exact g1 u hu) (by rw [hs.1]; exact g2), hs.1]
        rfl
    · intro hb
      rcases rd_cases b (linesL b) with hok2 | ⟨q, y, r, hq, g1, g2⟩
      · rw [rd_ok b _ hok2]
        rw [rd_ok (a ++ b) _ (fun z hz => by
          rcases List.mem_append.1 hz with h | h
          · rw [fa z h]; exact hok z h
          · obtain ⟨u, hu, rfl⟩ := List.mem_map.1 h
            rw [(scanX_second a b (linesL a).length u).1]; exact hok2 u hu)]
        have e1 : (linesL a).map (fun x => (scanX (a ++ b) x).1) = (linesL a).map (fun x => (scanX a x).1) := List.map_congr_left fun x hx => by rw [fa x hx]
        have e2 : (linesL b).map (fun u => (scanX (a ++ b) (shiftL (linesL a).length a.size u)).1) = (linesL b).map (fun u => withNo (scanX b u).1 ((scanX b u).1.no + ((linesL a).length : Nat))) := List.map_congr_left fun u hu => by
          rw [(scanX_second a b (linesL a).length u).2 (hok2 u hu)]
          have hno : (scanX b u).1.no = (u.1 : Nat) := scan_number _ _ (hok2 u hu)
          rw [hno]; rfl
        rw [List.map_append, List.map_map, List.map_map, e1]
        exact congrArg (fun z => ((linesL a).map (fun x => (scanX a x).1) ++ z, none)) e2
      · rw [hq, rd_bad b q r y g1 g2] at hb; cases hb
  · have hbad := rd_bad a p r x h1 h2
    rw [hp] at hla fa ⊢
    refine ⟨fun no code h => ?_, fun h => ?_⟩
    · rw [hbad] at h
      rw [← h, List.append_assoc, List.cons_append, rd_bad (a ++ b) p _ x (fun z hz => by rw [fa z (by simp [hz])]; exact h1 z hz) (by rw [fa x (by simp)]; exact h2), fa x (by simp)]
    · rw [hbad] at h; cases h
end Go.Proofs.YthgaadjkjnibaaaGreatDoor
/-
  A table whose lines stand k lines further down; a missing line ahead of all others, or behind them.
-/
namespace Go.Proofs.YthgaadjkjnibaaaGreatDoor
open Go.RowKit Go.PlainAid Go.Lib Go.PHexM Go.Shelf Go.PRow
set_option linter.unusedVariables false
set_option linter.unusedSimpArgs false

/-- pieces with other values -/
def mapV {α β : Type} (f : α → β) (ps : List (Pc α)) : List (Pc β) := ps.map fun p => ⟨p.lo, p.hi, f p.val⟩
theorem mapV_at {α β : Type} (f : α → β) (ps : List (Pc α)) (x : Int) : atP (mapV f ps) x = (atP ps x).map f := by
  induction ps with
  | nil => rfl
  | cons p ps ih =>
    show atP (⟨p.lo, p.hi, f p.val⟩ :: mapV f ps) x = _
    rw [atP_cons, atP_cons, ih]
    split <;> rfl
theorem mapV_fr {α β : Type} (f : α → β) (ps : List (Pc α)) (lo : Int) : frI (mapV f ps) lo = frI ps lo := by
  unfold frI mapV
  rw [List.countP_map]
  rfl
theorem mapV_up {α β : Type} (f : α → β) (ps : List (Pc α)) (hi : Int) : upI (mapV f ps) hi = upI ps hi := by
  unfold upI mapV
  rw [List.countP_map]
  rfl
theorem mapV_app {α β : Type} (f : α → β) (a b : List (Pc α)) : mapV f (a ++ b) = mapV f a ++ mapV f b := by simp [mapV]
theorem mapV_take {α β : Type} (f : α → β) (n : Nat) (ps : List (Pc α)) : (mapV f ps).take n = mapV f (ps.take n) := by simp [mapV, List.map_take]
theorem mapV_drop {α β : Type} (f : α → β) (n : Nat) (ps : List (Pc α)) : (mapV f ps).drop n = mapV f (ps.drop n) := by simp [mapV, List.map_drop]
theorem mapV_ahead {α β : Type} (f : α → β) (M : List (Pc α)) (lo : Int) : aheadP (mapV f M) lo = mapV f (aheadP M lo) := by
  cases M with
  | nil => rfl
  | cons p M =>
    show (if p.lo < lo then _ else _) = mapV f (if p.lo < lo then _ else _)
    split <;> rfl
theorem mapV_behind {α β : Type} (f : α → β) (M : List (Pc α)) (hi : Int) : behindP (mapV f M) hi = mapV f (behindP M hi) := by
  rcases snoc_cases M with rfl | ⟨M', p, rfl⟩
  · rfl
  · rw [mapV_app]
    show behindP (mapV f M' ++ [⟨p.lo, p.hi, f p.val⟩]) hi = _
    rw [behindP_snoc, behindP_snoc]
    show (if hi < p.hi then _ else _) = mapV f (if hi < p.hi then _ else _)
    split <;> rfl
theorem mapV_rep {α β : Type} (f : α → β) (ps : List (Pc α)) (lo hi : Int) (wi : List (Pc α)) : repP (mapV f ps) lo hi (mapV f wi) = mapV f (repP ps lo hi wi) := by
  unfold repP midP
  rw [mapV_fr, mapV_up, mapV_take, mapV_take, mapV_drop, mapV_drop, mapV_ahead, mapV_behind, mapV_app, mapV_app, mapV_app, mapV_app]

/-- two tables that name the same, line numbers greater by k; what of the others they say stands in the relation R -/
structure ShT (k : Int) (R : List (Pc Int) → List (Pc Int) → Prop) (t u : TabD) : Prop where
  ns : u.ns = mapV (fun v => (v.1, v.2 + k)) t.ns
  us : R t.us u.us
theorem scanT_no (d : LineD) (no un : Int) : scanT (withNo d no) un = scanT d un := rfl
/-- a relation that laying keeps -/
def Lays7 (R : List (Pc Int) → List (Pc Int) → Prop) : Prop := ∀ us us' lo hi c, OkP us → OkP us' → 0 ≤ lo → lo ≤ hi → hi ≤ 1114111 → R us us' → R (repP us lo hi [⟨lo, hi, c⟩]) (repP us' lo hi [⟨lo, hi, c⟩])
theorem step_sh {k : Int} {R : List (Pc Int) → List (Pc Int) → Prop} (hR : Lays7 R) {t u : TabD} (ot : OkT t) (ou : OkT u) (h : ShT k R t u) (d : LineD) :
    (stepT u (withNo d (d.no + k))).2 = (stepT t d).2 ∧ ShT k R (stepT t d).1 (stepT u (withNo d (d.no + k))).1 := by
  unfold stepT
  show (if d.kind = 0 then _ else if d.kind = 1 then nameT u (withNo d (d.no + k)) (scanT d 70) else if d.kind = 2 then _ else missT u (scanT d 71)).2 = _ ∧ ShT k R _ (if d.kind = 0 then _ else if d.kind = 1 then nameT u (withNo d (d.no + k)) (scanT d 70) else if d.kind = 2 then _ else missT u (scanT d 71)).1
  by_cases h0 : d.kind = 0
  · rw [if_pos h0, if_pos h0]; exact ⟨rfl, h⟩
  rw [if_neg h0, if_neg h0]
  by_cases h1 : d.kind = 1
  · rw [if_pos h1, if_pos h1]
    unfold nameT
    by_cases h2 : (scanT d 70).2.2.2 ≠ 0
    · rw [if_pos h2, if_pos h2]; exact ⟨rfl, h⟩
    · rw [if_neg h2, if_neg h2, h.ns, mapV_fr, mapV_up]
      by_cases h3 : frI t.ns (scanT d 70).1 < upI t.ns (scanT d 70).2.1
      · rw [if_pos h3, if_pos h3]; exact ⟨rfl, h⟩
      · rw [if_neg h3, if_neg h3]
        refine ⟨rfl, ?_, h.us⟩
        exact mapV_rep (fun v : Int × Int => (v.1, v.2 + k)) t.ns _ _ [⟨(scanT d 70).1, (scanT d 70).2.1, ((scanT d 70).2.2.1, d.no)⟩]
  rw [if_neg h1, if_neg h1]
  by_cases h2 : d.kind = 2
  · rw [if_pos h2, if_pos h2]; exact ⟨rfl, h⟩
  rw [if_neg h2, if_neg h2]
  unfold missT
  by_cases h3 : (scanT d 71).2.2.2 ≠ 0
  · rw [if_pos h3, if_pos h3]; exact ⟨rfl, h⟩
  · rw [if_neg h3, if_neg h3]
    have hm := mayB_iff.1 (scanT_may d 71 (by decide) (by simpa using h3))
    exact ⟨rfl, h.ns, hR _ _ _ _ _ ot.2 ou.2 hm.1 hm.2.1 hm.2.2 h.us⟩
/-- the missing lines that a list of lines tells -/
theorem step_ms (t u : TabD) (d : LineD) (k : Int) (hR : (stepT u (withNo d (d.no + k))).2 = (stepT t d).2) {am : List (Pc Int)} (h : u.ms = am ++ t.ms) : (stepT u (withNo d (d.no + k))).1.ms = am ++ (stepT t d).1.ms := by
  unfold stepT at *
  show (if d.kind = 0 then (u, 0) else if d.kind = 1 then nameT u (withNo d (d.no + k)) (scanT d 70) else if d.kind = 2 then (u, 33) else missT u (scanT d 71)).1.ms = _
  change (if d.kind = 0 then (u, 0) else if d.kind = 1 then nameT u (withNo d (d.no + k)) (scanT d 70) else if d.kind = 2 then (u, 33) else missT u (scanT d 71)).2 = _ at hR
  by_cases h0 : d.kind = 0
  · rw [if_pos h0, if_pos h0]; exact h
  rw [if_neg h0] at hR ⊢
  rw [if_neg h0] at hR ⊢
  by_cases h1 : d.kind = 1
  · rw [if_pos h1, if_pos h1]
    unfold nameT
    (repeat' split) <;> exact h
  rw [if_neg h1] at hR ⊢
  rw [if_neg h1] at hR ⊢
  by_cases h2 : d.kind = 2
  · rw [if_pos h2, if_pos h2]; exact h
  rw [if_neg h2, if_neg h2]
  unfold missT
  by_cases h3 : (scanT d 71).2.2.2 ≠ 0
  · rw [if_pos h3, if_pos h3]; exact h
  · rw [if_neg h3, if_neg h3]
    show u.ms ++ _ = am ++ (t.ms ++ _)
    rw [h, List.append_assoc]
theorem tell_sh {k : Int} {R : List (Pc Int) → List (Pc Int) → Prop} (hR : Lays7 R) {am : List (Pc Int)} : ∀ (ds : List LineD) {t u : TabD}, OkT t → OkT u → ShT k R t u → u.ms = am ++ t.ms →
    ((tellT u (ds.map fun d => withNo d (d.no + k))).2 = none ↔ (tellT t ds).2 = none) ∧ ShT k R (tellT t ds).1 (tellT u (ds.map fun d => withNo d (d.no + k))).1 ∧ (tellT u (ds.map fun d => withNo d (d.no + k))).1.ms = am ++ (tellT t ds).1.ms := by
  intro ds
  induction ds with
  | nil => intro t u _ _ h hm; exact ⟨Iff.rfl, h, hm⟩
  | cons d ds ih =>
    intro t u ot ou h hm
    obtain ⟨e, hs⟩ := step_sh hR ot ou h d
    have hm' := step_ms t u d k e hm
    rw [List.map_cons]
    by_cases h0 : (stepT t d).2 = 0
    · rw [tellT_yes t d ds h0, tellT_yes u _ _ (e.trans h0)]
      exact ih (step_ok7 ot d) (step_ok7 ou _) hs hm'
    · rw [tellT_no t d ds h0, tellT_no u _ _ (fun h => h0 (e.symm.trans h))]
      exact ⟨⟨(fun h => by cases h), (fun h => by cases h)⟩, hs, hm'⟩
end Go.Proofs.YthgaadjkjnibaaaGreatDoor
/-
  Texts that lines.Check finds right: put together, and cut at what is no tail.
-/
namespace Go.Proofs.YthgaadjkjnibaaaGreatDoor
set_option linter.unusedVariables false

/-- each character is one, and no control -/
def goodT (s : ByteArray) : Prop := ∀ p ∈ chars s 0, ¬ (p.2 = 65533 ∧ (Utf8.decode s p.1).2 = 1) ∧ ctrlB (p.2 : Int) = false
theorem chk_goodI (s : ByteArray) : ∀ (l : List (Nat × Nat)) (k : Nat), k + l.length ≤ 4096 → (∀ p ∈ l, ¬ (p.2 = 65533 ∧ (Utf8.decode s p.1).2 = 1) ∧ ctrlB (p.2 : Int) = false) → chk s k l = (0, 0)
  | [], _, _, _ => rfl
  | (i, r) :: l, k, hk, h => by
    have h1 := h (i, r) (by simp)
    rw [List.length_cons] at hk
    rw [chk, if_neg (by omega), if_neg h1.1, if_neg (by rw [h1.2]; decide)]
    exact chk_goodI s l (k + 1) (by omega) (fun p hp => h p (by simp [hp]))
theorem chk_invI (s : ByteArray) : ∀ (l : List (Nat × Nat)) (k : Nat), k ≤ 4096 → (chk s k l).2 = 0 → k + l.length ≤ 4096 ∧ ∀ p ∈ l, ¬ (p.2 = 65533 ∧ (Utf8.decode s p.1).2 = 1) ∧ ctrlB (p.2 : Int) = false
  | [], k, hk, _ => ⟨by simpa using hk, fun p hp => (by cases hp)⟩
  | (i, r) :: l, k, hk, h => by
    rw [chk] at h
    by_cases h1 : k = 4096
    · rw [if_pos h1] at h; cases h
    · rw [if_neg h1] at h
      by_cases h2 : r = 65533 ∧ (Utf8.decode s i).2 = 1
      · rw [if_pos h2] at h; cases h
      · rw [if_neg h2] at h
        by_cases h3 : ctrlB (r : Int) = true
        · rw [if_pos h3] at h; cases h
        · rw [if_neg h3] at h
          obtain ⟨a, b⟩ := chk_invI s l (k + 1) (by omega) h
          refine ⟨by rw [List.length_cons]; omega, fun p hp => ?_⟩
          rcases List.mem_cons.1 hp with rfl | hp
          · exact ⟨h2, by simpa using h3⟩
          · exact b p hp
theorem chkS_good {s : ByteArray} (h : goodT s) (hl : (chars s 0).length ≤ 4096) : chkS s = (0, 0) := chk_goodI s _ 0 (by omega) h
theorem chkS_inv {s : ByteArray} (h : (chkS s).2 = 0) : goodT s ∧ (chars s 0).length ≤ 4096 := by
  obtain ⟨a, b⟩ := chk_invI s _ 0 (by omega) h
  exact ⟨b, by omega⟩
theorem chars_appI {s t : ByteArray} (hb : t.size = 0 ∨ ¬ bN t 0 / 64 = 2) : chars (s ++ t) 0 = chars s 0 ++ (chars t 0).map fun p => (s.size + p.1, p.2) :=
  chars_left s t (.inr hb) s.size 0 (by omega) (by omega) (fun _ h => h)
theorem chars_ltI (s : ByteArray) : ∀ (k i : Nat), s.size - i ≤ k → ∀ p ∈ chars s i, i ≤ p.1 ∧ p.1 < s.size := by
  intro k
  induction k with
  | zero => intro i h p hp; rw [chars_end s i (by omega)] at hp; cases hp
  | succ k ih =>
    intro i h p hp
    by_cases hi : i < s.size
    · have hb := dec_bounds s i hi
      rw [chars_step s i hi] at hp
      rcases List.mem_cons.1 hp with rfl | hp
      · exact ⟨Nat.le_refl _, hi⟩
      · have := ih _ (by omega) p hp
        exact ⟨by omega, this.2⟩
    · rw [chars_end s i hi] at hp; cases hp
theorem goodT_app {s t : ByteArray} (hs : goodT s) (ht : goodT t) (hb : t.size = 0 ∨ ¬ bN t 0 / 64 = 2) : goodT (s ++ t) := by
  intro p hp
  rw [chars_appI hb] at hp
  rcases List.mem_append.1 hp with hp | hp
  · have := chars_ltI s s.size 0 (by omega) p hp
    rw [dec_left s t p.1 this.2 (.inr hb)]
    exact hs p hp
  · obtain ⟨q, hq, rfl⟩ := List.mem_map.1 hp
    have := chars_ltI t t.size 0 (by omega) q hq
    show ¬ (q.2 = 65533 ∧ (Utf8.decode (s ++ t) (s.size + q.1)).2 = 1) ∧ _
    rw [dec_right s t q.1 this.2]
    exact ht q hq
theorem goodT_parts {s t : ByteArray} (h : goodT (s ++ t)) (hb : t.size = 0 ∨ ¬ bN t 0 / 64 = 2) : goodT s ∧ goodT t := by
  constructor
  · intro p hp
    have := chars_ltI s s.size 0 (by omega) p hp
    have h1 := h p (by rw [chars_appI hb]; exact List.mem_append_left _ hp)
    rw [dec_left s t p.1 this.2 (.inr hb)] at h1
    exact h1
  · intro q hq
    have := chars_ltI t t.size 0 (by omega) q hq
    have h1 := h (s.size + q.1, q.2) (by rw [chars_appI hb]; exact List.mem_append_right _ (List.mem_map_of_mem hq))
    simp only at h1
    rw [dec_right s t q.1 this.2] at h1
    exact h1
theorem chars_len_appI {s t : ByteArray} (hb : t.size = 0 ∨ ¬ bN t 0 / 64 = 2) : (chars (s ++ t) 0).length = (chars s 0).length + (chars t 0).length := by
  rw [chars_appI hb, List.length_append, List.length_map]
theorem chars_len_leI (s : ByteArray) : ∀ (k i : Nat), s.size - i ≤ k → (chars s i).length ≤ s.size - i := by
  intro k
  induction k with
  | zero => intro i h; rw [chars_end s i (by omega)]; simp
  | succ k ih =>
    intro i h
    by_cases hi : i < s.size
    · have hb := dec_bounds s i hi
      rw [chars_step s i hi, List.length_cons]
      have := ih (i + (Utf8.decode s i).2) (by omega)
      omega
    · rw [chars_end s i hi]; simp
end Go.Proofs.YthgaadjkjnibaaaGreatDoor
/-
  A text with one line's end more; a note, a blank line and a missing line ahead of a text, and a missing line behind it.
-/
namespace Go.Proofs.YthgaadjkjnibaaaGreatDoor
open Go.RowKit Go.PlainAid Go.Lib Go.PHexM Go.Shelf Go.PRow
set_option linter.unusedVariables false
set_option linter.unusedSimpArgs false

abbrev nlB : ByteArray := ⟨#[10]⟩
theorem read_none7 {s : ByteArray} (h : (readS s).2 = none) : ∀ x ∈ linesL s, (scanX s x).2 = 0 := by
  rcases rd_cases s (linesL s) with hok | ⟨p, x, r, hp, h1, h2⟩
  · exact hok
  · have : (readS s).2 = some (x.1, (scanX s x).2) := by
      show (rdS s (linesL s)).2 = _
      rw [hp]; exact rd_bad s p r x h1 h2
    rw [this] at h; cases h
theorem first10 (s : ByteArray) : ∀ (k i : Nat), s.size - i ≤ k → i ≤ s.size → (∃ j, i ≤ j ∧ j < s.size ∧ bN s j = 10 ∧ ∀ m, i ≤ m → m < j → bN s m ≠ 10) ∨ (∀ m, i ≤ m → m < s.size → bN s m ≠ 10) := by
  intro k
  induction k with
  | zero => intro i h hi; exact .inr (fun m h1 h2 => by omega)
  | succ k ih =>
    intro i h hi
    by_cases hs : i < s.size
    · by_cases hb : bN s i = 10
      · exact .inl ⟨i, Nat.le_refl _, hs, hb, fun m h1 h2 => by omega⟩
      · rcases ih (i + 1) (by omega) (by omega) with ⟨j, h1, h2, h3, h4⟩ | h1
        · refine .inl ⟨j, by omega, h2, h3, fun m k1 k2 => ?_⟩
          by_cases e : m = i
          · rw [e]; exact hb
          · exact h4 m (by omega) k2
        · refine .inr fun m k1 k2 => ?_
          by_cases e : m = i
          · rw [e]; exact hb
          · exact h1 m (by omega) k2
    · exact .inr (fun m h1 h2 => by omega)
theorem linesI_nl (s : ByteArray) (h10 : bN s (s.size - 1) ≠ 10) (h13 : bN s (s.size - 1) ≠ 13) : ∀ (k no i : Nat), s.size - i ≤ k → i < s.size → linesI (s ++ nlB) no i = linesI s no i := by
  have hz : (s ++ nlB).size = s.size + 1 := app_size s nlB
  have hend : bN (s ++ nlB) s.size = 10 := (bN_ge_app s nlB 0 (by decide)).trans (by decide)
  intro k
  induction k with
  | zero => intro no i h hi; omega
  | succ k ih =>
    intro no i h hi
    rcases first10 s (s.size - i) i (Nat.le_refl _) (by omega) with ⟨j, h1, h2, h3, h4⟩ | h4
    · have hj : j ≠ s.size - 1 := fun e => h10 (e ▸ h3)
      have a1 := linesI_found s no i j h1 h2 h3 h4
      have a2 := linesI_found (s ++ nlB) no i j h1 (by omega) (by rw [bN_lt_app s nlB j h2]; exact h3) (fun m k1 k2 => by rw [bN_lt_app s nlB m (by omega)]; exact h4 m k1 k2)
      rw [a1.1, a2.1, ih (no + 1) (j + 1) (by omega) (by omega), a1.2.1, a2.2.1, bN_lt_app s nlB (j - 1) (by omega)]
    · have a1 := linesI_last s no i hi h4
      have a2 := linesI_found (s ++ nlB) no i s.size (by omega) (by omega) hend (fun m k1 k2 => by rw [bN_lt_app s nlB m k2]; exact h4 m k1 k2)
      rw [a1.1, a2.1, a2.2.1, if_neg (by rw [bN_lt_app s nlB (s.size - 1) (by omega)]; exact fun e => h13 e.2), ← hz, linesI_end]
theorem linesI_tail (s : ByteArray) (h10 : bN s (s.size - 1) ≠ 10) : ∀ (k no i : Nat), s.size - i ≤ k → i < s.size → ∃ x ∈ linesI s no i, x.2.2 = s.size ∧ x.2.1 < s.size := by
  intro k
  induction k with
  | zero => intro no i h hi; omega
  | succ k ih =>
    intro no i h hi
    rcases first10 s (s.size - i) i (Nat.le_refl _) (by omega) with ⟨j, h1, h2, h3, h4⟩ | h4
    · have hj : j ≠ s.size - 1 := fun e => h10 (e ▸ h3)
      rw [(linesI_found s no i j h1 h2 h3 h4).1]
      obtain ⟨x, hx, h⟩ := ih (no + 1) (j + 1) (by omega) (by omega)
      exact ⟨x, List.mem_cons_of_mem _ hx, h⟩
    · rw [(linesI_last s no i hi h4).1]
      exact ⟨_, List.mem_singleton.2 rfl, rfl, hi⟩
theorem mark_nl (s : ByteArray) (h : markN s = 0) : markN (s ++ nlB) = 0 := by
  unfold markN at *
  have hn : ¬ hasPrefix (L s) [239, 187, 191] = true := fun e => by rw [if_pos e] at h; cases h
  rw [if_neg]
  rw [L_app]
  have e1 : L nlB = [10] := rfl
  rw [e1]
  rcases hL : L s with _ | ⟨a, _ | ⟨b, _ | ⟨c, l⟩⟩⟩
  · decide
  · simp [hasPrefix, List.isPrefixOf]
  · simp [hasPrefix, List.isPrefixOf]
  · rw [hL] at hn
    simpa [hasPrefix, List.isPrefixOf] using hn
theorem no13 (s : ByteArray) (h0 : 0 < s.size) (hm : markN s = 0) (h : (readS s).2 = none) : bN s (s.size - 1) ≠ 13 := by
  intro e
  obtain ⟨x, hx, h2, h1⟩ := linesI_tail s (by omega) s.size 1 0 (by omega) h0
  have hx' : x ∈ linesL s := by rw [← linesL_I, hm]; exact hx
  have hk := read_none7 h x hx'
  unfold scanX scanS at hk
  by_cases hc : (chkS (s.extract x.2.1 x.2.2)).2 ≠ 0
  · rw [if_pos hc] at hk; exact hc hk
  · have hg := (chkS_inv (by simpa using hc)).1
    have e2 : s.extract x.2.1 x.2.2 = s.extract x.2.1 (s.size - 1) ++ ⟨#[13]⟩ := by
      rw [h2, ← S_L (s.extract x.2.1 s.size), ← S_L (s.extract x.2.1 (s.size - 1) ++ ⟨#[13]⟩), L_extract, L_app, L_extract]
      congr 1
      have hl := L_len s
      have e3 : (L s).drop (s.size - 1) = [13] := by
        have hlt : s.size - 1 < (L s).length := by omega
        rw [List.drop_eq_getElem_cons hlt, List.drop_of_length_le (by omega)]
        congr 1
        have : ((L s)[s.size - 1]).toNat = 13 := by
          have hb : bN s (s.size - 1) = ((L s)[s.size - 1]).toNat := by
            unfold bN
            rw [get_in s (s.size - 1) (by omega)]
            rfl
          omega
        exact UInt8.toNat_inj.1 (this.trans rfl)
      have e4 : L (⟨#[13]⟩ : ByteArray) = [13] := rfl
      rw [e4, ← e3]
      have e5 := (List.take_append_drop (s.size - 1 - x.2.1) ((L s).drop x.2.1)).symm
      rw [List.drop_drop, show x.2.1 + (s.size - 1 - x.2.1) = s.size - 1 by omega] at e5
      exact (List.take_of_length_le (by rw [List.length_drop]; omega)).trans e5
    rw [e2] at hg
    have ha := chars_appI (s := s.extract x.2.1 (s.size - 1)) (t := ⟨#[13]⟩) (.inr (by decide))
    have hc13 : chars (⟨#[13]⟩ : ByteArray) 0 = [(0, 13)] := by decide +kernel
    have := (hg ((s.extract x.2.1 (s.size - 1)).size + 0, 13) (by rw [ha, hc13]; simp)).2
    exact absurd (show ctrlB (13 : Int) = false from this) (by decide)
theorem nl_read : (readS nlB).2 = none ∧ ((readS nlB).1.map fun d => d.kind) = [0] ∧ markN nlB = 0 := by decide +kernel
/-- one line's end more -/
theorem read_nl (s : ByteArray) (hm : markN s = 0) (h : (readS s).2 = none) : ∃ bl, (∀ d ∈ bl, d.kind = 0) ∧ readS (s ++ nlB) = ((readS s).1 ++ bl, none) := by
  have hk0 : ∀ d ∈ (readS nlB).1, d.kind = 0 := fun d hd => by
    have : d.kind ∈ ((readS nlB).1.map fun d => d.kind) := List.mem_map_of_mem hd
    rw [nl_read.2.1] at this
    exact List.mem_singleton.1 this
  by_cases h0 : s.size = 0
  · have e : s = ⟨#[]⟩ := by rw [← S_L s, List.length_eq_zero_iff.1 ((L_len s).trans h0)]
    have e' : s ++ nlB = nlB := by rw [e]; rfl
    have e'' : (readS s).1 = [] := by rw [e]; rfl
    rw [e', e'']
    exact ⟨(readS nlB).1, hk0, Prod.ext rfl nl_read.1⟩
  by_cases h10 : bN s (s.size - 1) = 10
  · have := ((read_app s nlB (by omega) h10 nl_read.2.2).2 h).2.2 nl_read.1
    refine ⟨_, ?_, this⟩
    intro d hd
    obtain ⟨d', hd', rfl⟩ := List.mem_map.1 hd
    exact hk0 d' hd'
  · have e : linesL (s ++ nlB) = linesL s := by
      rw [← linesL_I, ← linesL_I, mark_nl s hm, hm]
      exact linesI_nl s h10 (no13 s (by omega) hm h) s.size 1 0 (by omega) (by omega)
    refine ⟨[], by simp, ?_⟩
    have ka := read_none7 h
    have hs : ∀ x ∈ linesL s, scanX (s ++ nlB) x = scanX s x := fun x hx => scanX_first s nlB x hx
    unfold readS
    rw [e, rd_ok s _ ka, rd_ok (s ++ nlB) _ (fun x hx => by rw [hs x hx]; exact ka x hx), List.append_nil]
    exact congrArg (fun z => (z, none)) (List.map_congr_left fun x hx => by rw [hs x hx])
theorem tell_blank (t : TabD) : ∀ (ds : List LineD), (∀ d ∈ ds, d.kind = 0) → tellT t ds = (t, none)
  | [], _ => rfl
  | d :: ds, h => by
    have e : stepT t d = (t, 0) := by unfold stepT; rw [if_pos (h d (by simp))]
    rw [tellT_yes t d ds (by rw [e]), e]
    exact tell_blank t ds fun x hx => h x (by simp [hx])
theorem tell_append : ∀ (a b : List LineD) (t : TabD), (tellT t a).2 = none → tellT t (a ++ b) = tellT (tellT t a).1 b
  | [], b, t, _ => rfl
  | d :: a, b, t, h => by
    by_cases h0 : (stepT t d).2 = 0
    · rw [tellT_yes t d a h0] at h ⊢
      rw [List.cons_append, tellT_yes t d _ h0]
      exact tell_append a b _ h
    · rw [tellT_no t d a h0] at h; cases h
theorem tabS_none {s : ByteArray} (h : (tabS s).2 = none) : (readS s).2 = none ∧ tabS s = tellT emptyT (readS s).1 ∧ (tellT emptyT (readS s).1).2 = none := by
  unfold tabS at *
  rcases hr : (readS s).2 with _ | ⟨no, code⟩
  · rw [hr] at h; exact ⟨rfl, rfl, h⟩
  · rw [hr] at h; cases h
theorem tabS_tell {s : ByteArray} (h : (readS s).2 = none) : tabS s = tellT emptyT (readS s).1 := by
  unfold tabS; rw [h]
theorem tabS_some {s : ByteArray} (h : (readS s).2 ≠ none) : (tabS s).2 ≠ none := by
  unfold tabS
  rcases hr : (readS s).2 with _ | ⟨no, code⟩
  · exact absurd hr h
  · intro e; cases e
/-- a head of lines that are told, ahead of a text -/
theorem head_tab {H : ByteArray} {n : Nat} {t0 : TabD} {R : List (Pc Int) → List (Pc Int) → Prop} (hR : Lays7 R) (h0 : 0 < H.size) (hl : bN H (H.size - 1) = 10) (hr : (readS H).2 = none) (hn : (readS H).1.length = n) (ht : tellT emptyT (readS H).1 = (t0, none)) (o0 : OkT t0) (hns : t0.ns = []) (hus : R emptyT.us t0.us)
    (s : ByteArray) (hm : markN s = 0) : ((tabS (H ++ s)).2 = none ↔ (tabS s).2 = none) ∧ ((tabS s).2 = none → ShT n R (tabS s).1 (tabS (H ++ s)).1 ∧ (tabS (H ++ s)).1.ms = t0.ms ++ (tabS s).1.ms) := by
  obtain ⟨hlen, hbad, hgood⟩ := (read_app H s h0 hl hm).2 hr
  rw [hn] at hlen
  rcases hs : (readS s).2 with _ | ⟨no, code⟩
  · have e := hgood hs
    rw [← hlen] at e
    have e1 : tabS (H ++ s) = tellT t0 ((readS s).1.map fun d => withNo d (d.no + (n : Int))) := by
      rw [tabS_tell (by rw [e]), e, tell_append _ _ _ (by rw [ht]), ht]
    rw [e1, tabS_tell hs]
    have hS : ShT (n : Int) R emptyT t0 := ⟨by rw [hns]; rfl, hus⟩
    obtain ⟨k1, k2, k3⟩ := tell_sh (am := t0.ms) hR (readS s).1 empty_ok7 o0 hS (by show _ = t0.ms ++ []; rw [List.append_nil])
    exact ⟨k1, fun _ => ⟨k2, k3⟩⟩
  · have e := hbad no code hs
    have k1 := tabS_some (s := s) (by rw [hs]; simp)
    have k2 := tabS_some (s := H ++ s) (by rw [e]; simp)
    exact ⟨⟨fun h => absurd h k2, fun h => absurd h k1⟩, fun h => absurd h k1⟩

abbrev noteB7 : ByteArray := ⟨#[35, 32, 97, 32, 110, 111, 116, 101, 10, 10]⟩
abbrev missB7 : ByteArray := ⟨#[35, 32, 64, 109, 105, 115, 115, 105, 110, 103, 58, 32, 48, 48, 48, 48, 46, 46, 49, 48, 70, 70, 70, 70, 59, 32, 65, 78, 10]⟩
abbrev tailB7 : ByteArray := ⟨#[10, 35, 32, 64, 109, 105, 115, 115, 105, 110, 103, 58, 32, 48, 48, 48, 48, 46, 46, 49, 48, 70, 70, 70, 70, 59, 32, 65, 78, 10]⟩
theorem note_read : (readS noteB7).2 = none ∧ ((readS noteB7).1.map fun d => d.kind) = [0, 0] := by decide +kernel
theorem miss_read : (readS missB7).2 = none ∧ ((readS missB7).1.map fun d => (d.kind, scanT d 71)) = [(3, (0, 1114111, 7, 0))] ∧ markN missB7 = 0 := by decide +kernel
theorem tell_miss (t : TabD) {ds : List LineD} (h : (ds.map fun d => (d.kind, scanT d 71)) = [(3, (0, 1114111, 7, 0))]) : tellT t ds = (⟨t.ns, repP t.us 0 1114111 [⟨0, 1114111, 7⟩], t.ms ++ [⟨0, 1114111, 7⟩]⟩, none) := by
  rcases ds with _ | ⟨d, _ | ⟨d', ds⟩⟩
  · cases h
  · have e : (d.kind, scanT d 71) = (3, (0, 1114111, 7, 0)) := by simpa using h
    have e1 : d.kind = 3 := congrArg Prod.fst e
    have e2 : scanT d 71 = (0, 1114111, 7, 0) := congrArg Prod.snd e
    have e3 : stepT t d = (⟨t.ns, repP t.us 0 1114111 [⟨0, 1114111, 7⟩], t.ms ++ [⟨0, 1114111, 7⟩]⟩, 0) := by
      unfold stepT missT
      rw [e1, e2, if_neg (by decide), if_neg (by decide), if_neg (by decide), if_neg (by decide)]
    rw [tellT_yes t d [] (by rw [e3]), e3]
    rfl
  · simp at h
/-- ahead of a text: a note and a blank line -/
theorem note_tab (s : ByteArray) (hm : markN s = 0) : ((tabS (noteB7 ++ s)).2 = none ↔ (tabS s).2 = none) ∧ ((tabS s).2 = none → ShT 2 Eq (tabS s).1 (tabS (noteB7 ++ s)).1 ∧ (tabS (noteB7 ++ s)).1.ms = (tabS s).1.ms) := by
  have hk0 : ∀ d ∈ (readS noteB7).1, d.kind = 0 := fun d hd => by
    have : d.kind ∈ ((readS noteB7).1.map fun d => d.kind) := List.mem_map_of_mem hd
    rw [note_read.2] at this
    simpa using this
  have hn : (readS noteB7).1.length = 2 := by
    have := congrArg List.length note_read.2
    rwa [List.length_map] at this
  exact head_tab (n := 2) (R := Eq) (fun _ _ _ _ _ _ _ _ _ _ e => by rw [e]) (by decide) (by decide) note_read.1 hn (tell_blank emptyT _ hk0) empty_ok7 rfl rfl s hm
/-- what a missing line ahead of all others changes: where none spoke -/
def RM (us us' : List (Pc Int)) : Prop := ∀ x, atP us' x = atP us x ∨ (atP us x = some 1 ∧ atP us' x = some 7)
theorem at_rep1 {us : List (Pc Int)} (o : OkP us) {lo hi : Int} (h : lo ≤ hi) (c x : Int) : atP (repP us lo hi [⟨lo, hi, c⟩]) x = if lo ≤ x ∧ x ≤ hi then some c else atP us x := at_rep o h (.inr ⟨_, rfl⟩) x
theorem RM_lays : Lays7 RM := fun us us' lo hi c o o' h0 h1 h2 h x => by
  rw [at_rep1 o h1, at_rep1 o' h1]
  by_cases hx : lo ≤ x ∧ x ≤ hi
  · rw [if_pos hx, if_pos hx]; exact .inl rfl
  · rw [if_neg hx, if_neg hx]; exact h x
theorem ahead_tab (s : ByteArray) (hm : markN s = 0) : ((tabS (missB7 ++ s)).2 = none ↔ (tabS s).2 = none) ∧ ((tabS s).2 = none → ShT 1 RM (tabS s).1 (tabS (missB7 ++ s)).1) := by
  have hn : (readS missB7).1.length = 1 := by
    have := congrArg List.length miss_read.2.1
    rwa [List.length_map] at this
  have ht := tell_miss emptyT miss_read.2.1
  have k := head_tab (n := 1) (R := RM) RM_lays (by decide) (by decide) miss_read.1 hn ht (by have := tell_ok7 (readS missB7).1 empty_ok7; rw [ht] at this; exact this) rfl (by
    intro x
    show atP (repP emptyT.us 0 1114111 [⟨0, 1114111, 7⟩]) x = _ ∨ _
    rw [at_rep1 empty_ok7.2 (by decide)]
    have e := at_one 0 1114111 1 x
    by_cases hx : (0 : Int) ≤ x ∧ x ≤ 1114111
    · rw [if_pos hx] at e ⊢; exact .inr ⟨e, rfl⟩
    · rw [if_neg hx]; exact .inl rfl) s hm
  exact ⟨k.1, fun h => (k.2 h).1⟩
/-- behind a text: the missing line -/
theorem behind_tab (s : ByteArray) (hm : markN s = 0) (h : (tabS s).2 = none) : (tabS (s ++ tailB7)).2 = none ∧ (tabS (s ++ tailB7)).1.ns = (tabS s).1.ns ∧ ∀ x, 0 ≤ x → x ≤ 1114111 → atP (tabS (s ++ tailB7)).1.us x = some 7 := by
  obtain ⟨h1, h2, h3⟩ := tabS_none h
  obtain ⟨bl, hbl, hr⟩ := read_nl s hm h1
  have hz : (s ++ nlB).size = s.size + 1 := app_size s nlB
  have hend : bN (s ++ nlB) s.size = 10 := (bN_ge_app s nlB 0 (by decide)).trans (by decide)
  have happ := ((read_app (s ++ nlB) missB7 (by omega) (by rw [hz]; exact hend) miss_read.2.2).2 (by rw [hr])).2.2 miss_read.1
  have e0 : s ++ tailB7 = (s ++ nlB) ++ missB7 := by
    rw [show tailB7 = nlB ++ missB7 from rfl, ByteArray.append_assoc]
  have ht : tabS (s ++ tailB7) = tellT (tabS s).1 ((readS missB7).1.map fun d => withNo d (d.no + ((linesL (s ++ nlB)).length : Nat))) := by
    rw [e0, tabS_tell (by rw [happ]), happ, hr, h2]
    have hb := tell_append (readS s).1 bl emptyT h3
    rw [tell_blank _ bl hbl] at hb
    rw [tell_append ((readS s).1 ++ bl) _ emptyT (by rw [hb]), hb]
  rw [ht, tell_miss (tabS s).1 (by rw [List.map_map]; exact miss_read.2.1)]
  refine ⟨rfl, rfl, fun x h0 hx => ?_⟩
  show atP (repP (tabS s).1.us 0 1114111 [⟨0, 1114111, 7⟩]) x = _
  rw [at_rep1 (tabS_ok s).2 (by decide), if_pos ⟨h0, hx⟩]
end Go.Proofs.YthgaadjkjnibaaaGreatDoor
/-
  ClassesNotes: what the four tables say of a number, and the walk.
-/
namespace Go.Proofs.YthgaadjkjnibaaaGreatDoor
open Go.RowKit Go.PlainAid Go.Lib Go.PHexM Go.Shelf Go.PRow
set_option linter.unusedVariables false
set_option linter.unusedSimpArgs false

theorem step_line {M : Int} {t : TabD} (o : OkT t) (g : ∀ x v, atP t.ns x = some v → v.2 ≤ M) (d : LineD) (hd : d.no ≤ M) : ∀ x v, atP (stepT t d).1.ns x = some v → v.2 ≤ M := by
  unfold stepT
  split
  · exact g
  split
  · unfold nameT
    split
    · exact g
    split
    · exact g
    · next h h2 =>
      have h' : (scanT d 70).2.2.2 = 0 := by simpa using h
      have hm := mayB_iff.1 (scanT_may d 70 (by decide) h')
      intro x v hv
      simp only at hv
      rw [at_rep o.1 hm.2.1 (.inr ⟨_, rfl⟩)] at hv
      split at hv
      · cases hv; exact hd
      · exact g x v hv
  split
  · exact g
  · unfold missT
    split <;> exact g
theorem step_msb {t : TabD} (g : ∀ p ∈ t.ms, 0 ≤ p.lo ∧ p.lo ≤ p.hi ∧ p.hi ≤ 1114111) (d : LineD) : ∀ p ∈ (stepT t d).1.ms, 0 ≤ p.lo ∧ p.lo ≤ p.hi ∧ p.hi ≤ 1114111 := by
  unfold stepT
  split
  · exact g
  split
  · unfold nameT
    (repeat' split) <;> exact g
  split
  · exact g
  · unfold missT
    split
    · exact g
    · next h =>
      have hm := mayB_iff.1 (scanT_may d 71 (by decide) (by simpa using h))
      intro p hp
      rcases List.mem_append.1 hp with hp | hp
      · exact g p hp
      · rcases List.mem_singleton.1 hp with rfl
        exact hm
theorem tell_more {M : Int} : ∀ (ds : List LineD) {t : TabD}, OkT t → (∀ x v, atP t.ns x = some v → v.2 ≤ M) → (∀ p ∈ t.ms, 0 ≤ p.lo ∧ p.lo ≤ p.hi ∧ p.hi ≤ 1114111) → (∀ d ∈ ds, d.no ≤ M) →
    (∀ x v, atP (tellT t ds).1.ns x = some v → v.2 ≤ M) ∧ (∀ p ∈ (tellT t ds).1.ms, 0 ≤ p.lo ∧ p.lo ≤ p.hi ∧ p.hi ≤ 1114111) ∧ (tellT t ds).1.ms.length ≤ t.ms.length + ds.length := by
  intro ds
  induction ds with
  | nil => intro t _ g1 g2 _; exact ⟨g1, g2, Nat.le_refl _⟩
  | cons d ds ih =>
    intro t o g1 g2 h
    have hd := h d List.mem_cons_self
    have hl := step_len7 t d
    by_cases h1 : (stepT t d).2 = 0
    · rw [tellT_yes t d ds h1]
      obtain ⟨k1, k2, k3⟩ := ih (step_ok7 o d) (step_line o g1 d hd) (step_msb g2 d) fun e he => h e (List.mem_cons_of_mem _ he)
      exact ⟨k1, k2, by rw [List.length_cons]; omega⟩
    · rw [tellT_no t d ds h1]
      exact ⟨step_line o g1 d hd, step_msb g2 d, by rw [List.length_cons]; show (stepT t d).1.ms.length ≤ _; omega⟩
theorem tabS_more (s : ByteArray) : (∀ x v, atP (tabS s).1.ns x = some v → v.2 ≤ (s.size : Int) + 1) ∧ (∀ p ∈ (tabS s).1.ms, 0 ≤ p.lo ∧ p.lo ≤ p.hi ∧ p.hi ≤ 1114111) ∧ (tabS s).1.ms.length ≤ s.size + 1 := by
  unfold tabS
  split
  · refine ⟨(fun x v h => by cases h), (fun p hp => by cases hp), Nat.zero_le _⟩
  · have h1 := readS_len7 s
    obtain ⟨k1, k2, k3⟩ := tell_more (M := (s.size : Int) + 1) (readS s).1 empty_ok7 (fun x v h => by cases h) (fun p hp => by cases hp) fun d hd => by
      obtain ⟨x, hx, e⟩ := rd_no7 s _ d hd
      have := (lines_mem s x hx).2.2.2
      omega
    refine ⟨k1, k2, ?_⟩
    have : emptyT.ms.length = 0 := rfl
    omega
theorem known_range (x : Int) : 0 ≤ known7 x ∧ known7 x ≤ 1114111 := by unfold known7; split <;> omega
theorem sh_given {k : Int} {R : List (Pc Int) → List (Pc Int) → Prop} {t u : TabD} (h : ShT k R t u) (r : Int) : givenT u r = (givenT t r).map fun v => (v.1, v.2 + k) := by
  unfold givenT
  rw [h.ns, mapV_at]
theorem sh_class {k : Int} {t u : TabD} (h : ShT k Eq t u) (r : Int) : classT u r = classT t r := by
  unfold classT
  rw [sh_given h r, h.us]
  cases givenT t r <;> rfl
theorem sh_named {k : Int} {R : List (Pc Int) → List (Pc Int) → Prop} {t u : TabD} (ot : OkT t) (ou : OkT u) (h : ShT k R t u) : namedP u = namedP t :=
  sep_one (named_ok ou) (named_ok ot) (strs_sep VC.eqv eqC_iff _) (strs_sep VC.eqv eqC_iff _) fun x => by
    rw [at_named ou, at_named ot, h.ns, mapV_at]
    cases atP t.ns x <;> rfl
theorem sh_write {k : Int} {R : List (Pc Int) → List (Pc Int) → Prop} {t u : TabD} (ot : OkT t) (ou : OkT u) (h : ShT k R t u) (hm : u.ms = t.ms) : writeT u = writeT t := by
  unfold writeT
  rw [hm, sh_named ot ou h]
/-- what the tables of the four texts say of a number -/
structure Four (s : ByteArray) (r : Int) (t u v z : TabD) : Prop where
  cls : classT u r = classT t r
  lin : ((givenT u r).getD (0, 0)).2 = if (givenT t r).isSome then ((givenT t r).getD (0, 0)).2 + 2 else 0
  wrt : writeT u = writeT t
  ms : u.ms = t.ms
  some : ∀ p, givenT t r = some p → classT v r = p.1 ∧ classT z r = p.1 ∧ classT t r = p.1 ∧ 1 ≤ p.2 ∧ p.2 ≤ (s.size : Int) + 1
  none : givenT t r = none → classT z r = 7 ∧ (classT v r = classT t r ∨ classT v r = 7 ∧ classT t r = 1)
theorem four_tab (s : ByteArray) (hm : markN s = 0) (h : (tabS s).2 = none) (r : Int) : (tabS (noteB7 ++ s)).2 = none ∧ (tabS (missB7 ++ s)).2 = none ∧ (tabS (s ++ tailB7)).2 = none ∧ Four s r (tabS s).1 (tabS (noteB7 ++ s)).1 (tabS (missB7 ++ s)).1 (tabS (s ++ tailB7)).1 := by
  obtain ⟨hn, hn2⟩ := note_tab s hm
  obtain ⟨ha, ha2⟩ := ahead_tab s hm
  obtain ⟨hb, hbn, hbu⟩ := behind_tab s hm h
  obtain ⟨sN, mN⟩ := hn2 h
  have sA := ha2 h
  refine ⟨hn.2 h, ha.2 h, hb, sh_class sN r, ?_, sh_write (tabS_ok s) (tabS_ok _) sN mN, mN, ?_, ?_⟩
  · rw [sh_given sN r]
    cases givenT (tabS s).1 r <;> rfl
  · intro p hp
    have g := (tabS_good s).ns (known7 r) p hp
    have l := (tabS_more s).1 (known7 r) p hp
    refine ⟨?_, ?_, ?_, g.2, l⟩
    · unfold classT; rw [sh_given sA r, hp]; rfl
    · unfold classT givenT; rw [hbn]; show (match givenT (tabS s).1 r with | some p => p.1 | none => _) = _; rw [hp]
    · unfold classT; rw [hp]
  · intro hp
    have e1 : classT (tabS (s ++ tailB7)).1 r = 7 := by
      unfold classT givenT
      rw [hbn]
      show (match givenT (tabS s).1 r with | some p => p.1 | none => _) = _
      rw [hp, hbu _ (known_range r).1 (known_range r).2]; rfl
    have e2 : classT (tabS (missB7 ++ s)).1 r = (atP (tabS (missB7 ++ s)).1.us (known7 r)).getD 0 := by unfold classT; rw [sh_given sA r, hp]; rfl
    have e3 : classT (tabS s).1 r = (atP (tabS s).1.us (known7 r)).getD 0 := by unfold classT; rw [hp]
    refine ⟨e1, ?_⟩
    rw [e2, e3]
    rcases sA.us (known7 r) with e | ⟨e, e'⟩
    · rw [e]; exact .inl rfl
    · rw [e, e']; exact .inr ⟨rfl, rfl⟩
theorem mark_take7 (b : ByteArray) (h : 3 ≤ b.size) : ((b.extract 0 3).toList == [239, 187, 191]) = decide (0 < markN b) := by
  have e : (b.extract 0 3).toList = (L b).take 3 := by
    rw [ByteArray.toList_eq]
    show L (b.extract 0 3) = _
    rw [L_extract]; simp
  rw [e]
  unfold markN
  by_cases hp : hasPrefix (L b) [239, 187, 191] = true
  · rw [if_pos hp]
    obtain ⟨t, ht⟩ := List.isPrefixOf_iff_prefix.1 hp
    rw [← ht]
    simp
  · rw [if_neg hp]
    have : ¬ (L b).take 3 = [239, 187, 191] := fun he => hp (List.isPrefixOf_iff_prefix.2 ⟨(L b).drop 3, by rw [← he]; exact List.take_append_drop 3 _⟩)
    simpa using this
theorem mark_small7 (b : ByteArray) (h : ¬ 3 ≤ b.size) : markN b = 0 := by
  have := mark_le b
  unfold markN at *
  split at this
  · omega
  · rename_i hp; rw [if_neg hp]
end Go.Proofs.YthgaadjkjnibaaaGreatDoor
