/-
  The document's Trim, until, Fields, Parts, Cut (furrowref03), for every text.
-/
import Derived.Test.YtlaennakglhmjaaGreatDoorRScanM
namespace Go.Proofs.YtlaennakglhmjaaGreatDoor
open Go.RowKit Go.PlainAid Go.Lib Go.Shelf
set_option linter.unusedVariables false

def strLen (v : Value) : Nat := match v with | .string t => t.size | _ => 0
theorem ext_tail (t : ByteArray) (k : Nat) : L (t.extract k t.size) = (L t).drop k := by
  rw [L_extract, List.take_of_length_le (by rw [List.length_drop, L_len]; omega)]
theorem ext_head (t : ByteArray) (k : Nat) : L (t.extract 0 k) = (L t).take k := by
  rw [L_extract, List.drop_zero, Nat.sub_zero]
theorem bl_at (t : ByteArray) (i : Nat) : blB (t.get! i) = true ↔ bN t i = 32 ∨ bN t i = 9 := by
  rw [blB_iff, get_eq, get_eq]; exact Iff.rfl
theorem trim_tail (t : ByteArray) (h0 : 0 < t.size) (hb : bN t 0 = 32 ∨ bN t 0 = 9) : trimB (L (t.extract 1 t.size)) = trimB (L t) := by
  rw [ext_tail]
  have := drop_at t 0 h0
  rw [List.drop_zero] at this
  rw [this]
  exact (trim_front [t.get! 0] _ (by intro b hb'; rw [List.mem_singleton.1 hb']; exact (bl_at t 0).2 hb)).symm
theorem L_last (t : ByteArray) (h0 : 0 < t.size) : L t = (L t).take (t.size - 1) ++ [t.get! (t.size - 1)] := by
  have h1 := drop_at t (t.size - 1) (by omega)
  rw [show t.size - 1 + 1 = t.size by omega, List.drop_of_length_le (l := L t) (i := t.size) (by rw [L_len]; exact Nat.le_refl _)] at h1
  have := List.take_append_drop (t.size - 1) (L t)
  rw [h1] at this; exact this.symm
theorem trim_init (t : ByteArray) (h0 : 0 < t.size) (hb : bN t (t.size - 1) = 32 ∨ bN t (t.size - 1) = 9) : trimB (L (t.extract 0 (t.size - 1))) = trimB (L t) := by
  rw [ext_head]
  have h2 := trim_back ((L t).take (t.size - 1)) [t.get! (t.size - 1)] (by intro b hb'; rw [List.mem_singleton.1 hb']; exact (bl_at t _).2 hb)
  rw [← L_last t h0] at h2; exact h2.symm
theorem first_firm (t : ByteArray) (h : ∀ _ : 0 < t.size, ¬ (bN t 0 = 32 ∨ bN t 0 = 9)) : ∀ b, (L t)[0]? = some b → blB b = false := by
  intro b hb
  rcases Nat.lt_or_ge 0 t.size with h0 | h0
  · rw [L_at t 0 h0] at hb
    rw [← Option.some.inj hb]
    cases hh : blB (t.get! 0) with
    | false => rfl
    | true => exact absurd ((bl_at t 0).1 hh) (h h0)
  · rw [L_none t 0 (by omega)] at hb; cases hb
theorem last_firm (t : ByteArray) (h : ∀ _ : 0 < t.size, ¬ (bN t (t.size - 1) = 32 ∨ bN t (t.size - 1) = 9)) : ∀ b, 0 < (L t).length → (L t)[(L t).length - 1]? = some b → blB b = false := by
  intro b h0 hb
  rw [L_len] at h0 hb
  rw [L_at t _ (by omega)] at hb
  rw [← Option.some.inj hb]
  cases hh : blB (t.get! (t.size - 1)) with
  | false => rfl
  | true => exact absurd ((bl_at t _).1 hh) (h h0)
theorem ext_size1 (t : ByteArray) (h0 : 0 < t.size) : (t.extract 1 t.size).size = t.size - 1 := by rw [← L_len, ext_tail, List.length_drop, L_len]
theorem ext_size0 (t : ByteArray) : (t.extract 0 (t.size - 1)).size = t.size - 1 := by rw [← L_len, ext_head, List.length_take, L_len]; omega

set_option maxRecDepth 100000 in
set_option maxHeartbeats 2000000 in
theorem refTrim_any (s : ByteArray) (w : World) (hs : s.size ≤ 1099511627776) :
    Calls Tryz.prog 58 #[.string s] w fun e w' => e = .returned (.string (S (trimB (L s)))) ∧ w' = w := by
  obtain ⟨A, hA⟩ : ∃ A, trimB (L s) = A := ⟨_, rfl⟩
  rw [hA]
  go_enter Tryz.func58, Tryz.ntmps58
  go_wp2
  go_loopw [0] (fun v0 wr => ∃ t : ByteArray, v0 = .string t ∧ Hid (trimB (L t) = A) ∧ t.size ≤ 1099511627776 ∧ wr = w) (fun v0 _ => strLen v0)
  case atStart => exact ⟨s, rfl, hA, hs, rfl⟩
  case round =>
    clear hA
    obtain ⟨t, rfl, HT, hts, rfl⟩ := hrel
    by_cases hc : 0 < t.size ∧ (bN t 0 = 32 ∨ bN t 0 = 9)
    · obtain ⟨h0, hb⟩ := hc
      have hv : (t[0]'h0).toNat = bN t 0 := by rw [bN, get_in t 0 h0]
      have HT2 := hide ((trim_tail t h0 hb).trans HT.out)
      have hsz := ext_size1 t h0
      by_cases h32 : bN t 0 = 32
      · have d1 : ((bN t 0 : Int) == 32) = true := by simp; omega
        go_wp2
        go_roundw
        case rel => exact ⟨_, rfl, HT2, by omega, trivial⟩
        case measure => simp only [strLen]; omega
      · have d1 : ((bN t 0 : Int) == 32) = false := by simp; omega
        have d2 : ((bN t 0 : Int) == 9) = true := by simp; omega
        go_wp2
        go_roundw
        case rel => exact ⟨_, rfl, HT2, by omega, trivial⟩
        case measure => simp only [strLen]; omega
    · have HF : Hid (∀ b, (L t)[0]? = some b → blB b = false) := first_firm t (fun h0 hb => hc ⟨h0, hb⟩)
      rcases Nat.eq_zero_or_pos t.size with h0 | h0
      · have e0 : (t.size : Int) = 0 := by omega
        go_wp2
        go_loopw [0] (fun v0 wr2 => ∃ t : ByteArray, v0 = .string t ∧ Hid (trimB (L t) = A) ∧ Hid (∀ b, (L t)[0]? = some b → blB b = false) ∧ t.size ≤ 1099511627776 ∧ wr2 = wr) (fun v0 _ => strLen v0)
        case atStart => exact ⟨_, rfl, HT, HF, hts, rfl⟩
        case round =>
          clear HT HF hts hc
          obtain ⟨t, rfl, HT, HF, hts, hw2⟩ := hrel
          subst hw2
          by_cases hc : 0 < t.size ∧ (bN t (t.size - 1) = 32 ∨ bN t (t.size - 1) = 9)
          · obtain ⟨h0, hb⟩ := hc
            have hl : t.size - 1 < t.size := by omega
            have hv : (t[t.size - 1]'hl).toNat = bN t (t.size - 1) := by rw [bN, get_in t _ hl]
            have hix : ((t.size : Int) - 1).toNat = t.size - 1 := by omega
            have HT2 := hide ((trim_init t h0 hb).trans HT.out)
            have HF2 : Hid (∀ b, (L (t.extract 0 (t.size - 1)))[0]? = some b → blB b = false) := by
              intro b hb'
              rw [ext_head] at hb'
              exact HF.out b (by rw [List.getElem?_take] at hb'; split at hb'; exact hb'; cases hb')
            have hsz := ext_size0 t
            have e0 : (t.size : Int) - 1 = ((t.size - 1 : Nat) : Int) := by omega
            by_cases h32 : bN t (t.size - 1) = 32
            · have d1 : ((bN t (t.size - 1) : Int) == 32) = true := by simp; omega
              go_wp2
              go_roundw
              case rel => exact ⟨_, rfl, HT2, HF2, by omega, trivial⟩
              case measure => simp only [strLen]; omega
            · have d1 : ((bN t (t.size - 1) : Int) == 32) = false := by simp; omega
              have d2 : ((bN t (t.size - 1) : Int) == 9) = true := by simp; omega
              go_wp2
              go_roundw
              case rel => exact ⟨_, rfl, HT2, HF2, by omega, trivial⟩
              case measure => simp only [strLen]; omega
          · have HE : Hid (.string t = Value.string (S A)) := by
              show _ = _
              rw [← HT.out, trim_firm (L t) ⟨HF.out, last_firm t (fun h0 hb => hc ⟨h0, hb⟩)⟩, S_L]
            rcases Nat.eq_zero_or_pos t.size with h0 | h0
            · have e0 : (t.size : Int) = 0 := by omega
              go_wp2
              go_ret
              exact ⟨congrArg _ HE.out, rfl⟩
            · have hl : t.size - 1 < t.size := by omega
              have hv : (t[t.size - 1]'hl).toNat = bN t (t.size - 1) := by rw [bN, get_in t _ hl]
              have hix : ((t.size : Int) - 1).toNat = t.size - 1 := by omega
              have d1 : ((bN t (t.size - 1) : Int) == 32) = false := by simp; intro h; exact hc ⟨h0, .inl (by omega)⟩
              have d2 : ((bN t (t.size - 1) : Int) == 9) = false := by simp; intro h; exact hc ⟨h0, .inr (by omega)⟩
              go_wp2
              go_ret
              exact ⟨congrArg _ HE.out, rfl⟩
      · have hv : (t[0]'h0).toNat = bN t 0 := by rw [bN, get_in t 0 h0]
        have d1 : ((bN t 0 : Int) == 32) = false := by simp; intro h; exact hc ⟨h0, .inl (by omega)⟩
        have d2 : ((bN t 0 : Int) == 9) = false := by simp; intro h; exact hc ⟨h0, .inr (by omega)⟩
        go_wp2
        go_loopw [0] (fun v0 wr2 => ∃ t : ByteArray, v0 = .string t ∧ Hid (trimB (L t) = A) ∧ Hid (∀ b, (L t)[0]? = some b → blB b = false) ∧ t.size ≤ 1099511627776 ∧ wr2 = wr) (fun v0 _ => strLen v0)
        case atStart => exact ⟨_, rfl, HT, HF, hts, rfl⟩
        case round =>
          clear HT HF hts hc
          obtain ⟨t, rfl, HT, HF, hts, hw2⟩ := hrel
          subst hw2
          by_cases hc : 0 < t.size ∧ (bN t (t.size - 1) = 32 ∨ bN t (t.size - 1) = 9)
          · obtain ⟨h0, hb⟩ := hc
            have hl : t.size - 1 < t.size := by omega
            have hv : (t[t.size - 1]'hl).toNat = bN t (t.size - 1) := by rw [bN, get_in t _ hl]
            have hix : ((t.size : Int) - 1).toNat = t.size - 1 := by omega
            have HT2 := hide ((trim_init t h0 hb).trans HT.out)
            have HF2 : Hid (∀ b, (L (t.extract 0 (t.size - 1)))[0]? = some b → blB b = false) := by
              intro b hb'
              rw [ext_head] at hb'
              exact HF.out b (by rw [List.getElem?_take] at hb'; split at hb'; exact hb'; cases hb')
            have hsz := ext_size0 t
            have e0 : (t.size : Int) - 1 = ((t.size - 1 : Nat) : Int) := by omega
            by_cases h32 : bN t (t.size - 1) = 32
            · have d1 : ((bN t (t.size - 1) : Int) == 32) = true := by simp; omega
              go_wp2
              go_roundw
              case rel => exact ⟨_, rfl, HT2, HF2, by omega, trivial⟩
              case measure => simp only [strLen]; omega
            · have d1 : ((bN t (t.size - 1) : Int) == 32) = false := by simp; omega
              have d2 : ((bN t (t.size - 1) : Int) == 9) = true := by simp; omega
              go_wp2
              go_roundw
              case rel => exact ⟨_, rfl, HT2, HF2, by omega, trivial⟩
              case measure => simp only [strLen]; omega
          · have HE : Hid (.string t = Value.string (S A)) := by
              show _ = _
              rw [← HT.out, trim_firm (L t) ⟨HF.out, last_firm t (fun h0 hb => hc ⟨h0, hb⟩)⟩, S_L]
            rcases Nat.eq_zero_or_pos t.size with h0 | h0
            · have e0 : (t.size : Int) = 0 := by omega
              go_wp2
              go_ret
              exact ⟨congrArg _ HE.out, rfl⟩
            · have hl : t.size - 1 < t.size := by omega
              have hv : (t[t.size - 1]'hl).toNat = bN t (t.size - 1) := by rw [bN, get_in t _ hl]
              have hix : ((t.size : Int) - 1).toNat = t.size - 1 := by omega
              have d1 : ((bN t (t.size - 1) : Int) == 32) = false := by simp; intro h; exact hc ⟨h0, .inl (by omega)⟩
              have d2 : ((bN t (t.size - 1) : Int) == 9) = false := by simp; intro h; exact hc ⟨h0, .inr (by omega)⟩
              go_wp2
              go_ret
              exact ⟨congrArg _ HE.out, rfl⟩

end Go.Proofs.YtlaennakglhmjaaGreatDoor
