/-
  How Cut of package lines goes through a line, as a function of its bytes.
-/
import Derived.Test.YtlaennakglhmjaaGreatDoorLSmall
namespace Go.Proofs.YtlaennakglhmjaaGreatDoor
open Go.RowKit Go.PlainAid Go.Lib Go.Shelf
set_option linter.unusedVariables false

/-- the last field, of which cur is there: none, if it is the first one and empty -/
def lastF (n : Nat) (cur : List UInt8) : List (List UInt8) := if 0 < n ∨ cur ≠ [] then [cur] else []
/-- the fields from here on (cur is there of the first, and the blanks pend behind it; n fields stand ahead), and the note -/
def mach (n : Nat) (cur pend : List UInt8) : List UInt8 → List (List UInt8) × List UInt8
  | [] => (lastF n cur, [])
  | b :: l => if b = 32 ∨ b = 9 then (if cur = [] then mach n [] [] l else mach n cur (pend ++ [b]) l)
    else if b = 59 then (cur :: (mach (n + 1) [] [] l).1, (mach (n + 1) [] [] l).2)
    else if b = 35 then (lastF n cur, trimB l)
    else mach n (cur ++ pend ++ [b]) [] l
def cutS (s : ByteArray) : List (List UInt8) × List UInt8 := mach 0 [] [] (L s)

/-- a piece of a text -/
def sl (s : ByteArray) (a b : Nat) : List UInt8 := ((L s).drop a).take (b - a)
theorem sl_S (s : ByteArray) (a b : Nat) : s.extract a b = S (sl s a b) := extract_eq s a b
theorem sl_self (s : ByteArray) (a : Nat) : sl s a a = [] := by simp [sl]
theorem sl_empty (s : ByteArray) (a b : Nat) (h : a < b) (hb : b ≤ s.size) : sl s a b ≠ [] := by
  intro e
  have := congrArg List.length e
  simp only [sl, List.length_take, List.length_drop, L_len, List.length_nil] at this
  omega
theorem drop_at (s : ByteArray) (i : Nat) (h : i < s.size) : (L s).drop i = s.get! i :: (L s).drop (i + 1) := by
  rw [List.drop_eq_getElem_cons (by rw [L_len]; exact h)]
  congr 1
  have := L_at s i h
  rw [List.getElem?_eq_getElem (by rw [L_len]; exact h)] at this
  exact Option.some.inj this
theorem sl_app (s : ByteArray) (a b c : Nat) (h1 : a ≤ b) (h2 : b ≤ c) : sl s a b ++ sl s b c = sl s a c := by
  unfold sl
  have e : (L s).drop b = ((L s).drop a).drop (b - a) := by rw [List.drop_drop]; congr 1; omega
  rw [e, show c - a = (b - a) + (c - b) by omega, List.take_add]
theorem sl_one (s : ByteArray) (i : Nat) (h : i < s.size) : sl s i (i + 1) = [s.get! i] := by
  unfold sl; rw [drop_at s i h, Nat.add_sub_cancel_left]; rfl
theorem sl_snoc (s : ByteArray) (a i : Nat) (h1 : a ≤ i) (h : i < s.size) : sl s a i ++ [s.get! i] = sl s a (i + 1) := by
  rw [← sl_one s i h, sl_app s a i (i + 1) h1 (by omega)]
theorem get_eq (s : ByteArray) (i : Nat) (c : UInt8) : s.get! i = c ↔ bN s i = c.toNat := by
  unfold bN
  exact ⟨fun h => by rw [h], fun h => UInt8.toNat.inj h⟩

theorem sign_lt (s : ByteArray) (i : Nat) (hi : i ≤ s.size) (h : signN s i ≠ 3) : i < s.size := by
  refine Nat.lt_of_le_of_ne hi fun e => h ?_
  simp [signN, e]
theorem sign_cases (s : ByteArray) (i : Nat) : signN s i = 0 ∨ signN s i = 1 ∨ signN s i = 2 ∨ signN s i = 3 := by
  unfold signN; (repeat' split) <;> simp
theorem mach_blank (s : ByteArray) (i n : Nat) (cur pend : List UInt8) (hi : i < s.size) (h : signN s i = 0) :
    mach n cur pend ((L s).drop i) = if cur = [] then mach n [] [] ((L s).drop (i + 1)) else mach n cur (pend ++ [s.get! i]) ((L s).drop (i + 1)) := by
  have hb : s.get! i = 32 ∨ s.get! i = 9 := by
    rw [get_eq, get_eq]
    unfold signN at h
    rw [if_neg (by omega)] at h
    split at h
    · assumption
    · (repeat' split at h) <;> simp at h
  rw [drop_at s i hi]; simp only [mach, hb, if_true]
theorem not_blank (s : ByteArray) (i : Nat) (hi : i < s.size) (h : signN s i ≠ 0) : ¬ (s.get! i = 32 ∨ s.get! i = 9) := by
  rw [get_eq, get_eq]
  intro hb
  apply h
  unfold signN
  rw [if_neg (by omega)]
  have : bN s i = 32 ∨ bN s i = 9 := hb
  rw [if_pos this]
theorem mach_plain (s : ByteArray) (i n : Nat) (cur pend : List UInt8) (hi : i < s.size) (h : signN s i = 1) :
    mach n cur pend ((L s).drop i) = mach n (cur ++ pend ++ [s.get! i]) [] ((L s).drop (i + 1)) := by
  have h0 := not_blank s i hi (by omega)
  have h1 : ¬ s.get! i = 59 := by
    rw [get_eq]; intro e
    have : bN s i = 59 := e
    unfold signN at h; rw [if_neg (by omega), if_neg (by omega), if_pos this] at h; cases h
  have h2 : ¬ s.get! i = 35 := by
    rw [get_eq]; intro e
    have : bN s i = 35 := e
    unfold signN at h; rw [if_neg (by omega), if_neg (by omega), if_neg (by omega), if_pos this] at h; cases h
  rw [drop_at s i hi]; simp only [mach, h0, h1, h2, if_false]
theorem mach_div (s : ByteArray) (i n : Nat) (cur pend : List UInt8) (hi : i < s.size) (h : signN s i = 2) :
    mach n cur pend ((L s).drop i) = (cur :: (mach (n + 1) [] [] ((L s).drop (i + 1))).1, (mach (n + 1) [] [] ((L s).drop (i + 1))).2) := by
  have h0 := not_blank s i hi (by omega)
  have h1 : s.get! i = 59 := by
    rw [get_eq]
    unfold signN at h
    rw [if_neg (by omega)] at h
    split at h
    · cases h
    split at h
    · assumption
    split at h <;> cases h
  rw [drop_at s i hi]; simp only [mach, h1]; simp
theorem mach_end (s : ByteArray) (n : Nat) (cur pend : List UInt8) : mach n cur pend ((L s).drop s.size) = (lastF n cur, []) := by
  rw [List.drop_of_length_le (by rw [L_len]; exact Nat.le_refl _)]; rfl
theorem mach_end2 (s : ByteArray) (i n : Nat) (cur pend : List UInt8) (h : i = s.size) : mach n cur pend ((L s).drop i) = (lastF n cur, []) := by rw [h, mach_end]
theorem mach_hash (s : ByteArray) (i n : Nat) (cur pend : List UInt8) (hi : i < s.size) (h : signN s i = 3) :
    mach n cur pend ((L s).drop i) = (lastF n cur, trimB ((L s).drop (i + 1))) := by
  have h0 := not_blank s i hi (by omega)
  have h1 : s.get! i = 35 := by
    rw [get_eq]
    unfold signN at h
    rw [if_neg (by omega)] at h
    split at h
    · cases h
    split at h
    · cases h
    split at h
    · assumption
    · cases h
  rw [drop_at s i hi]; simp only [mach, h1]; simp

end Go.Proofs.YtlaennakglhmjaaGreatDoor
