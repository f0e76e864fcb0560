/-
  What is cut out of a line that was put together of clean fields: the fields. (For RowsAgain, BracketsBack and their like.)
-/
import Derived.Test.YtnabbahdmajfpaaGreatDoorLb
namespace Go.Proofs.YtnabbahdmajfpaaGreatDoor
set_option linter.unusedVariables false

def blk8 (b : UInt8) : Prop := b = 32 ∨ b = 9
instance (b : UInt8) : Decidable (blk8 b) := by unfold blk8; infer_instance
/-- what is there of a field, and the blanks behind it, once these bytes have come -/
def wk : List UInt8 → List UInt8 → List UInt8 → List UInt8 × List UInt8
  | cur, pend, [] => (cur, pend)
  | cur, pend, b :: l => if b = 32 ∨ b = 9 then (if cur = [] then wk [] [] l else wk cur (pend ++ [b]) l) else wk (cur ++ pend ++ [b]) [] l
theorem mach_wk (n : Nat) (rest : List UInt8) : ∀ (f cur pend : List UInt8), (∀ b ∈ f, b ≠ 59 ∧ b ≠ 35) → mach n cur pend (f ++ rest) = mach n (wk cur pend f).1 (wk cur pend f).2 rest := by
  intro f
  induction f with
  | nil => intro cur pend _; rfl
  | cons b f ih =>
    intro cur pend h
    have hb := h b (by simp)
    have ht : ∀ x ∈ f, x ≠ 59 ∧ x ≠ 35 := fun x hx => h x (by simp [hx])
    rw [List.cons_append, mach, wk]
    by_cases h1 : b = 32 ∨ b = 9
    · rw [if_pos h1, if_pos h1]
      by_cases h2 : cur = []
      · rw [if_pos h2, if_pos h2]; exact ih _ _ ht
      · rw [if_neg h2, if_neg h2]; exact ih _ _ ht
    · rw [if_neg h1, if_neg hb.1, if_neg hb.2, if_neg h1]; exact ih _ _ ht
theorem wk_append (f g : List UInt8) : ∀ cur pend, wk cur pend (f ++ g) = wk (wk cur pend f).1 (wk cur pend f).2 g := by
  induction f with
  | nil => intro cur pend; rfl
  | cons b f ih =>
    intro cur pend
    rw [List.cons_append, wk, wk]
    by_cases h1 : b = 32 ∨ b = 9
    · rw [if_pos h1, if_pos h1]
      by_cases h2 : cur = []
      · rw [if_pos h2, if_pos h2]; exact ih _ _
      · rw [if_neg h2, if_neg h2]; exact ih _ _
    · rw [if_neg h1, if_neg h1]; exact ih _ _
theorem wk_sum (f : List UInt8) : ∀ cur pend, cur ≠ [] → (wk cur pend f).1 ++ (wk cur pend f).2 = cur ++ pend ++ f := by
  induction f with
  | nil => intro cur pend _; simp [wk]
  | cons b f ih =>
    intro cur pend hc
    rw [wk]
    by_cases h1 : b = 32 ∨ b = 9
    · rw [if_pos h1, if_neg hc, ih _ _ hc]; simp
    · rw [if_neg h1, ih _ _ (by simp)]; simp
/-- a field that Cut tells: without ';' and '#', no blank at either end -/
structure Clean (f : List UInt8) : Prop where
  plain : ∀ b ∈ f, b ≠ 59 ∧ b ≠ 35
  head : ∀ b, f.head? = some b → ¬ blk8 b
  last : ∀ b, f.getLast? = some b → ¬ blk8 b
theorem wk_clean {f : List UInt8} (h : Clean f) : wk [] [] f = (f, []) := by
  cases f with
  | nil => rfl
  | cons b l =>
    have hb : ¬ (b = 32 ∨ b = 9) := h.head b rfl
    rw [wk, if_neg hb]
    show wk [b] [] l = (b :: l, [])
    by_cases hl : l = []
    · subst hl; rfl
    · obtain ⟨m, c, rfl⟩ : ∃ m c, l = m ++ [c] := ⟨l.dropLast, l.getLast hl, (List.dropLast_concat_getLast hl).symm⟩
      have hc : ¬ (c = 32 ∨ c = 9) := h.last c (by rw [← List.cons_append, List.getLast?_concat])
      rw [wk_append]
      have hs := wk_sum m [b] [] (by simp)
      show wk (wk [b] [] m).1 (wk [b] [] m).2 [c] = _
      rw [wk, if_neg hc, hs]
      simp [wk]
theorem mach_clean {f : List UInt8} (h : Clean f) (n : Nat) (rest : List UInt8) : mach n [] [] (f ++ 59 :: rest) = (f :: (mach (n + 1) [] [] rest).1, (mach (n + 1) [] [] rest).2) := by
  rw [mach_wk n _ f [] [] h.plain, wk_clean h]
  show mach n f [] (59 :: rest) = _
  rw [mach, if_neg (by decide), if_pos rfl]
theorem mach_cleanE {f : List UInt8} (h : Clean f) (n : Nat) (hn : 0 < n ∨ f ≠ []) : mach n [] [] f = ([f], []) := by
  have := mach_wk n [] f [] [] h.plain
  rw [List.append_nil, wk_clean h] at this
  rw [this]
  show (lastF n f, []) = _
  unfold lastF
  rw [if_pos hn]
/-- fields with ';' between them -/
def semi : List (List UInt8) → List UInt8
  | [] => []
  | [f] => f
  | f :: g :: l => f ++ 59 :: semi (g :: l)
theorem mach_semi : ∀ (fs : List (List UInt8)) (n : Nat), (∀ f ∈ fs, Clean f) → (0 < n ∨ 2 ≤ fs.length) → fs ≠ [] → mach n [] [] (semi fs) = (fs, [])
  | [], _, _, _, h => absurd rfl h
  | [f], n, hc, hn, _ => by
    have hn' : 0 < n := by
      rcases hn with h | h
      · exact h
      · simp at h
    exact mach_cleanE (hc f (by simp)) n (.inl hn')
  | f :: g :: l, n, hc, hn, _ => by
    show mach n [] [] (f ++ 59 :: semi (g :: l)) = _
    rw [mach_clean (hc f (by simp)), mach_semi (g :: l) (n + 1) (fun x hx => hc x (by simp [hx])) (.inl (by omega)) (by simp)]

/-- and the other way: each field that is told is clean -/
theorem mach_each : ∀ (l : List UInt8) (n : Nat) (cur pend : List UInt8), Clean cur → (∀ b ∈ pend, blk8 b) → (cur = [] → pend = []) → ∀ f ∈ (mach n cur pend l).1, Clean f
  | [], n, cur, pend, hc, hp, h0, f, hf => by
    unfold mach lastF at hf
    simp only at hf
    split at hf
    · rw [List.mem_singleton.1 hf]; exact hc
    · cases hf
  | b :: l, n, cur, pend, hc, hp, h0, f, hf => by
    rw [mach] at hf
    by_cases h1 : b = 32 ∨ b = 9
    · rw [if_pos h1] at hf
      by_cases h2 : cur = []
      · rw [if_pos h2] at hf
        exact mach_each l n [] [] ⟨fun b hb => (by cases hb), fun b hb => (by cases hb), fun b hb => (by cases hb)⟩ (fun b hb => by cases hb) (fun _ => rfl) f hf
      · rw [if_neg h2] at hf
        refine mach_each l n cur (pend ++ [b]) hc (fun x hx => ?_) (fun h => absurd h h2) f hf
        rcases List.mem_append.1 hx with hx | hx
        · exact hp x hx
        · rw [List.mem_singleton.1 hx]; exact h1
    · rw [if_neg h1] at hf
      by_cases h59 : b = 59
      · rw [if_pos h59] at hf
        rcases List.mem_cons.1 hf with rfl | hf
        · exact hc
        · exact mach_each l (n + 1) [] [] ⟨fun b hb => (by cases hb), fun b hb => (by cases hb), fun b hb => (by cases hb)⟩ (fun b hb => by cases hb) (fun _ => rfl) f hf
      · rw [if_neg h59] at hf
        by_cases h35 : b = 35
        · rw [if_pos h35] at hf
          unfold lastF at hf
          split at hf
          · rw [List.mem_singleton.1 hf]; exact hc
          · cases hf
        · rw [if_neg h35] at hf
          refine mach_each l n (cur ++ pend ++ [b]) [] ⟨fun x hx => ?_, fun x hx => ?_, fun x hx => ?_⟩ (fun x hx => by cases hx) (fun _ => rfl) f hf
          · rcases List.mem_append.1 hx with hx | hx
            · rcases List.mem_append.1 hx with hx | hx
              · exact hc.plain x hx
              · rcases hp x hx with rfl | rfl <;> exact ⟨by decide, by decide⟩
            · rw [List.mem_singleton.1 hx]; exact ⟨h59, h35⟩
          · cases cur with
            | nil => rw [h0 rfl] at hx; simp at hx; rw [← hx]; exact h1
            | cons c cur => exact hc.head x (by simpa using hx)
          · have : x = b := by simpa using hx.symm
            rw [this]; exact h1
end Go.Proofs.YtnabbahdmajfpaaGreatDoor
