/-
  add of furrowlaw02: a character's units by plain reckoning, behind some.
-/
import Derived.Test.YtghcheoholkpbaaWSame
namespace Go.Proofs.Ytghcheoholkpbaa
open Go.RowKit Go.PlainAid Go.Lib
set_option linter.unusedVariables false

theorem or_u32 (m : Nat) (hm : m < 1000) (y : Int) (h0 : 0 ≤ y) (h1 : y < 1024) : bits .or .u32 ((1024 * m : Nat) : Int) y = ((1024 * m : Nat) : Int) + y := by
  rw [u32_or _ _ (by omega) (by omega) (by omega) (by omega)]
  have : (2 ^ 10 * m + y.toNat) = (2 ^ 10 * m ||| y.toNat) := Nat.two_pow_add_eq_or_of_lt (by omega) m
  have e : (((1024 * m : Nat) : Int)).toNat = 2 ^ 10 * m := by omega
  rw [e, ← this]; omega
theorem or_u32_hi (y : Int) (h0 : 0 ≤ y) (h1 : y < 1024) : bits .or .u32 55296 y = 55296 + y := or_u32 54 (by decide) y h0 h1
theorem or_u32_lo (y : Int) (h0 : 0 ≤ y) (h1 : y < 1024) : bits .or .u32 56320 y = 56320 + y := or_u32 55 (by decide) y h0 h1
theorem and_u32 (x : Int) (h0 : 0 ≤ x) (h1 : x < 4294967296) : bits .and .u32 x 1023 = x % 1024 := by
  rw [u32_and _ _ (by omega) (by omega) (by omega) (by omega)]
  have : (x.toNat &&& 1023) = x.toNat % 1024 := Nat.and_two_pow_sub_one_eq_mod _ 10
  show ((x.toNat &&& 1023 : Nat) : Int) = _
  rw [this]; omega

set_option maxRecDepth 100000 in
set_option maxHeartbeats 1000000 in
theorem add_any (W : World) (B : Nat) (v : Value) (n : Nat) (zs : List Int) (r : Int) (hs : scalarB r = true) (hrow : W.ownsRow B 22 1 v n (u16s zs)) (hn : n ≤ 8796093022208) (hB : B ≤ W.heap.size) :
    Calls Try.prog 48 #[v, .int .i32 r] W fun e w' => ∃ v', e = .returned v' ∧ w'.ownsRow B 22 1 v' (n + (unitsOf r).length) (u16s (zs ++ unitsOf r)) ∧ Below B W w' := by
  obtain ⟨i0, hi, hz0, hz1, hz2⟩ := info_parts infoUnit
  obtain ⟨a, c, rfl⟩ := row_is hrow
  have hb : 0 ≤ r ∧ r ≤ 1114111 ∧ (r < 55296 ∨ 57343 < r) := by unfold scalarB halfB at hs; simp at hs; omega
  obtain ⟨h0, h1, h2⟩ := hb
  have d0 : decide (r < 0) = false := by simp; omega
  have d1 : decide (1114111 < r) = false := by simp; omega
  have d2 : (decide (55296 ≤ r) = false) ∨ (decide (55296 ≤ r) = true ∧ decide (r < 57344) = false) := by
    by_cases h : 55296 ≤ r
    · right; exact ⟨by simpa using h, by simp; omega⟩
    · left; simpa using h
  by_cases hp : r < 65536
  · have HU : Hid (unitsOf r = [r]) := by
      show _ = _
      unfold unitsOf
      rw [if_neg (by unfold pairB; simp; omega), if_pos hs]
    clear hs
    rcases d2 with d2 | ⟨d2, d3⟩
    all_goals
      go_enter Try.func48, Try.ntmps48
      go_wp2_with (at_builtin; refine wpList_append_own_at _ rfl _ _ 31 rfl B 22 i0 (.int .u16 0) 1 2 Try.underlying31 hi hz0 hz1 hz2 rfl (by decide) _ _ _ rfl (hrow.alloc _) ⟨_, 0, none⟩ 1 1 [.int .u16 r] rfl rfl (cell_one_new _ _ _) (by simp [Value.oneCell']) (by unfold maxLen; omega) (by omega) (by simp; omega) ?_; intro v' w4 hown hgrow _ _)
      go_ret
      rw [unhide HU]
      exact ⟨_, rfl, by first | (rw [u16s_append]; exact hown) | exact hown | simpa using hown, belowGrown ((Below.refl _ _).alloc hB _) (by simp; omega) (hrow.alloc _) hgrow⟩
  · have HU : Hid (unitsOf r = [hiN r, loN r]) := by
      show _ = _
      unfold unitsOf
      rw [if_pos (by unfold pairB; simp; omega)]
    have d2 : decide (55296 ≤ r) = true := by simp; omega
    have d3 : decide (r < 57344) = false := by simp; omega
    have e1 := or_u32_hi ((r - 65536) / 1024) (by omega) (by omega)
    have e2 := and_u32 (r - 65536) (by omega) (by omega)
    have e3 := or_u32_lo ((r - 65536) % 1024) (by omega) (by omega)
    have e4 : 55296 + (r - 65536) / 1024 = hiN r := by unfold hiN; omega
    have e5 : 56320 + (r - 65536) % 1024 = loN r := by unfold loN; omega
    rw [e4] at e1
    rw [e5] at e3
    have b1 : 0 ≤ hiN r ∧ hiN r ≤ 65535 := by unfold hiN; omega
    have b2 : 0 ≤ loN r ∧ loN r ≤ 65535 := by unfold loN; omega
    obtain ⟨b1, b1'⟩ := b1
    obtain ⟨b2, b2'⟩ := b2
    clear e4 e5 hs
    generalize hiN r = h at *
    generalize loN r = l at *
    go_enter Try.func48, Try.ntmps48
    go_wp2_with (at_builtin; refine wpList_append_own_at _ rfl _ _ 31 rfl B 22 i0 (.int .u16 0) 1 2 Try.underlying31 hi hz0 hz1 hz2 rfl (by decide) _ _ _ rfl (hrow.alloc _) ⟨_, 0, none⟩ 2 2 [.int .u16 h, .int .u16 l] rfl rfl (cell_two_new _ _ _ _) (by simp [Value.oneCell']) (by unfold maxLen; omega) (by omega) (by simp; omega) ?_; intro v' w4 hown hgrow _ _)
    go_ret
    rw [unhide HU]
    exact ⟨_, rfl, by first | (rw [u16s_append]; exact hown) | exact hown | simpa using hown, belowGrown ((Below.refl _ _).alloc hB _) (by simp; omega) (hrow.alloc _) hgrow⟩

end Go.Proofs.Ytghcheoholkpbaa
