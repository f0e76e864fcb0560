/-
  A field of a line that is right is right itself.
-/
import Derived.Test.YtnabbahdmajfpaaGreatDoorLInvM
import Derived.Test.YtnabbahdmajfpaaGreatDoorLInvC
namespace Go.Proofs.YtnabbahdmajfpaaGreatDoor
set_option linter.unusedVariables false

def EndB (c : List UInt8) : Prop := c = [] ∨ ∃ b l, c = b :: l ∧ b.toNat < 128
def BegB (a : List UInt8) : Prop := a = [] ∨ ∃ l b, a = l ++ [b] ∧ b.toNat < 128
/-- where a field that is told lies -/
theorem mach_at : ∀ (l : List UInt8) (n : Nat) (cur pend f : List UInt8), f ∈ (mach n cur pend l).1 → (cur = [] → pend = []) → (∀ b ∈ pend, b = 32 ∨ b = 9) →
    (∃ c, cur ++ pend ++ l = f ++ c ∧ EndB c) ∨ (∃ a c, l = a ++ f ++ c ∧ a ≠ [] ∧ BegB a ∧ EndB c)
  | [], n, cur, pend, f, hf, h0, hp => by
    unfold mach lastF at hf
    simp only at hf
    split at hf
    · rw [List.mem_singleton.1 hf]
      refine .inl ⟨pend, by simp, ?_⟩
      cases pend with
      | nil => exact .inl rfl
      | cons b p => exact .inr ⟨b, p, rfl, by rcases hp b (by simp) with rfl | rfl <;> decide⟩
    · cases hf
  | b :: l, n, cur, pend, f, hf, h0, hp => by
    have here : ∀ {c : List UInt8}, b.toNat < 128 → EndB (pend ++ b :: l) := fun hb => by
      cases pend with
      | nil => exact .inr ⟨b, l, rfl, hb⟩
      | cons d p => exact .inr ⟨d, p ++ b :: l, rfl, by rcases hp d (by simp) with rfl | rfl <;> decide⟩
    rw [mach] at hf
    by_cases h1 : b = 32 ∨ b = 9
    · have hb7 : b.toNat < 128 := by rcases h1 with rfl | rfl <;> decide
      rw [if_pos h1] at hf
      by_cases h2 : cur = []
      · rw [if_pos h2] at hf
        rcases mach_at l n [] [] f hf (fun _ => rfl) (fun x hx => by cases hx) with ⟨c, e, hc⟩ | ⟨a, c, e, ha, hb, hc⟩
        · exact .inr ⟨[b], c, by rw [show l = f ++ c from e]; simp, by simp, .inr ⟨[], b, rfl, hb7⟩, hc⟩
        · refine .inr ⟨b :: a, c, by rw [e]; simp, by simp, ?_, hc⟩
          rcases hb with rfl | ⟨l', b', rfl, h⟩
          · exact absurd rfl ha
          · exact .inr ⟨b :: l', b', rfl, h⟩
      · rw [if_neg h2] at hf
        rcases mach_at l n cur (pend ++ [b]) f hf (fun h => absurd h h2) (fun x hx => by
          rcases List.mem_append.1 hx with hx | hx
          · exact hp x hx
          · rw [List.mem_singleton.1 hx]; exact h1) with ⟨c, e, hc⟩ | ⟨a, c, e, ha, hb, hc⟩
        · exact .inl ⟨c, by rw [← e]; simp, hc⟩
        · refine .inr ⟨b :: a, c, by rw [e]; simp, by simp, ?_, hc⟩
          rcases hb with rfl | ⟨l', b', rfl, h⟩
          · exact absurd rfl ha
          · exact .inr ⟨b :: l', b', rfl, h⟩
    · rw [if_neg h1] at hf
      by_cases h59 : b = 59
      · have hb7 : b.toNat < 128 := by rw [h59]; decide
        rw [if_pos h59] at hf
        rcases List.mem_cons.1 hf with rfl | hf
        · exact .inl ⟨pend ++ b :: l, by simp, here (c := []) hb7⟩
        · rcases mach_at l (n + 1) [] [] f hf (fun _ => rfl) (fun x hx => by cases hx) with ⟨c, e, hc⟩ | ⟨a, c, e, ha, hb, hc⟩
          · exact .inr ⟨[b], c, by rw [show l = f ++ c from e]; simp, by simp, .inr ⟨[], b, rfl, hb7⟩, hc⟩
          · refine .inr ⟨b :: a, c, by rw [e]; simp, by simp, ?_, hc⟩
            rcases hb with rfl | ⟨l', b', rfl, h⟩
            · exact absurd rfl ha
            · exact .inr ⟨b :: l', b', rfl, h⟩
      · rw [if_neg h59] at hf
        by_cases h35 : b = 35
        · rw [if_pos h35] at hf
          unfold lastF at hf
          split at hf
          · rw [List.mem_singleton.1 hf]
            exact .inl ⟨pend ++ b :: l, by simp, here (c := []) (by rw [h35]; decide)⟩
          · cases hf
        · rw [if_neg h35] at hf
          rcases mach_at l n (cur ++ pend ++ [b]) [] f hf (fun _ => rfl) (fun x hx => by cases hx) with ⟨c, e, hc⟩ | ⟨a, c, e, ha, hb, hc⟩
          · exact .inl ⟨c, by rw [← e]; simp, hc⟩
          · refine .inr ⟨b :: a, c, by rw [e]; simp, by simp, ?_, hc⟩
            rcases hb with rfl | ⟨l', b', rfl, h⟩
            · exact absurd rfl ha
            · exact .inr ⟨b :: l', b', rfl, h⟩
theorem S_appI (a b : List UInt8) : S (a ++ b) = S a ++ S b := by
  apply ByteArray.ext
  rw [ByteArray.data_append]
  simp
theorem bN_head (b : UInt8) (l : List UInt8) : bN (S (b :: l)) 0 = b.toNat := rfl
theorem S_pos (b : UInt8) (l : List UInt8) : 0 < (S (b :: l)).size := by rw [S_size]; simp
theorem dec_tailN (s : ByteArray) (i : Nat) (hi : i < s.size) (h : bN s i / 64 = 2) : Utf8.decode s i = (65533, 1) := by
  rw [decode_decB s i hi]
  unfold decB
  rw [if_neg (by omega), if_neg (by omega), if_neg (by omega), if_neg (by omega)]
theorem dec_lowN (s : ByteArray) (i : Nat) (hi : i < s.size) (h : bN s i < 128) : Utf8.decode s i = (bN s i, 1) := by
  rw [decode_decB s i hi]
  unfold decB
  rw [if_pos h]
/-- a right text doesn't begin with a tail -/
theorem good_head {f : List UInt8} (h : goodT (S f)) : (S f).size = 0 ∨ ¬ bN (S f) 0 / 64 = 2 := by
  cases f with
  | nil => exact .inl rfl
  | cons b l =>
    refine .inr fun ht => ?_
    have hd := dec_tailN (S (b :: l)) 0 (S_pos b l) ht
    have hm : (0, 65533) ∈ chars (S (b :: l)) 0 := by rw [chars_step _ 0 (S_pos b l), hd]; simp
    have := (h _ hm).1
    simp only at this
    rw [hd] at this
    exact this ⟨trivial, rfl⟩
theorem end_ok {c : List UInt8} (h : EndB c) : (S c).size = 0 ∨ ¬ bN (S c) 0 / 64 = 2 := by
  rcases h with rfl | ⟨b, l, rfl, h⟩
  · exact .inl rfl
  · refine .inr ?_
    rw [bN_head]; omega
theorem good_behind {z : UInt8} {f : List UInt8} (hz : z.toNat < 128) (h : goodT (S (z :: f))) : goodT (S f) := by
  have e : S (z :: f) = S [z] ++ S f := S_appI [z] f
  have hf : (S f).size = 0 ∨ ¬ bN (S f) 0 / 64 = 2 := by
    cases f with
    | nil => exact .inl rfl
    | cons b l =>
      refine .inr fun ht => ?_
      have h0 : Utf8.decode (S (z :: b :: l)) 0 = (z.toNat, 1) := by rw [dec_lowN _ 0 (S_pos _ _) (by rw [bN_head]; exact hz), bN_head]
      have hd : Utf8.decode (S (z :: b :: l)) 1 = (65533, 1) := by
        have := dec_right (S [z]) (S (b :: l)) 0 (S_pos b l)
        rw [← e] at this
        rw [show (S [z]).size + 0 = 1 from rfl] at this
        rw [this]
        exact dec_tailN _ 0 (S_pos b l) ht
      have hm : (1, 65533) ∈ chars (S (z :: b :: l)) 0 := by
        rw [chars_step _ 0 (S_pos _ _), h0]
        show (1, 65533) ∈ (0, z.toNat) :: chars (S (z :: b :: l)) 1
        rw [chars_step _ 1 (by rw [S_size]; simp), hd]
        simp
      have := (h _ hm).1
      simp only at this
      rw [hd] at this
      exact this ⟨trivial, rfl⟩
  rw [e] at h
  exact (goodT_parts h hf).2
/-- a field of a right line is right -/
theorem good_field {l f : List UInt8} (h : goodT (S l)) (hf : f ∈ (mach 0 [] [] l).1) : goodT (S f) := by
  rcases mach_at l 0 [] [] f hf (fun _ => rfl) (fun x hx => by cases hx) with ⟨c, e, hc⟩ | ⟨a, c, e, ha, hb, hc⟩
  · have e' : l = f ++ c := e
    rw [e', S_appI] at h
    exact (goodT_parts h (end_ok hc)).1
  · rw [e, S_appI] at h
    have h1 := (goodT_parts h (end_ok hc)).1
    rcases hb with rfl | ⟨l', b', rfl, hb⟩
    · exact absurd rfl ha
    · rw [List.append_assoc, List.singleton_append, S_appI] at h1
      have h2 := (goodT_parts h1 (.inr (by rw [bN_head]; omega))).2
      exact good_behind hb h2
/-- and its characters are no more than the line's -/
theorem len_field {l f : List UInt8} (h : goodT (S l)) (hf : f ∈ (mach 0 [] [] l).1) : (chars (S f) 0).length ≤ (chars (S l) 0).length := by
  rcases mach_at l 0 [] [] f hf (fun _ => rfl) (fun x hx => by cases hx) with ⟨c, e, hc⟩ | ⟨a, c, e, ha, hb, hc⟩
  · have e' : l = f ++ c := e
    rw [e', S_appI, chars_len_appI (end_ok hc)]; omega
  · have hg := good_field h hf
    rw [e, S_appI, chars_len_appI (end_ok hc), S_appI, chars_len_appI (good_head hg)]; omega
end Go.Proofs.YtnabbahdmajfpaaGreatDoor
