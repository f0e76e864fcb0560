/-
  More and CRC.
-/
import Derived.Test.YteakbnogfnbpkaaGreatDoorSuA
namespace Go.Proofs.YteakbnogfnbpkaaGreatDoor
open Go.RowKit Go.PlainAid Go.Lib Go.SuM
set_option linter.unusedVariables false
set_option linter.unusedSimpArgs false
/-- the table of sixteen lies in its variable -/
def FoursAt (w : World) : Prop := ∀ i : Nat, i < 16 → w.cell? ⟨0, i, none⟩ = some (.int .u32 ((fourAt i : Nat) : Int))
def LS (s : ByteArray) : List UInt8 := s.data.toList
theorem take_snoc (s : ByteArray) (k : Nat) (h : k < s.size) : (LS s).take (k + 1) = (LS s).take k ++ [s[k]] := by
  unfold LS
  rw [List.take_succ_eq_append_getElem (by simpa using h)]; rfl
theorem LS_len (s : ByteArray) : (LS s).length = s.size := by unfold LS; rw [Array.length_toList]; rfl
theorem take_all (s : ByteArray) : (LS s).take s.size = LS s := by rw [← LS_len, List.take_length]
theorem u32and15 (a : Nat) (ha : a < 4294967296) : bits .and .u32 (a : Int) 15 = ((a % 16 : Nat) : Int) := by
  have := u32_and_nat a 15 ha (by decide)
  rw [show ((15 : Int)) = ((15 : Nat) : Int) from rfl, this, show 15 = 2 ^ 4 - 1 from rfl, Nat.and_two_pow_sub_one_eq_mod]
theorem u32not (c : Nat) (hc : c < 4294967296) : bits .xor .u32 IntKind.u32.max (c : Int) = ((inv c : Nat) : Int) := by
  have h : IntKind.u32.max = ((4294967295 : Nat) : Int) := by decide
  rw [h, u32x _ _ (by decide) hc, inv_xor hc]
theorem u8mod (b : UInt8) : (b.toNat : Int) % 4294967296 = (b.toNat : Int) := by have := b.toNat_lt; omega
set_option maxHeartbeats 1000000 in
theorem more_any (c : Nat) (hc : c < 4294967296) (s : ByteArray) (hs : s.size ≤ maxLen) (w : World) (hf : FoursAt w) : Calls Tryz.prog 174 #[.int .u32 (c : Int), .string s] w fun e w' => e = .returned (.int .u32 ((more c (LS s) : Nat) : Int)) ∧ w' = w := by
  unfold maxLen at hs
  have HF := hide hf
  clear hf
  have hnot := u32not c hc
  have hil := inv_lt c
  go_enter Tryz.func174, Tryz.ntmps174
  go_wp2
  go_loop [5, 12] (fun v5 v12 => ∃ k : Nat, k ≤ s.size ∧ v12 = .int .i64 (k : Int) ∧ v5 = .int .u32 ((regR (inv c) ((LS s).take k) : Nat) : Int)) (fun _ v12 => s.size - (intOf v12).toNat)
  case atStart => exact ⟨0, Nat.zero_le _, rfl, rfl⟩
  case round =>
    obtain ⟨k, hk, rfl, rfl⟩ := hrel
    have hl : regR (inv c) ((LS s).take k) < 4294967296 := regR_lt _ (inv_lt _)
    by_cases hlt : k < s.size
    · have HN : Hid (regR (inv c) ((LS s).take (k + 1)) = stn 8 (regR (inv c) ((LS s).take k) ^^^ s[k].toNat)) := by
        show _ = _
        rw [take_snoc s k hlt, regR_snoc]
      have hx := u32x _ s[k].toNat hl (u8_lt _)
      have hzl : regR (inv c) ((LS s).take k) ^^^ s[k].toNat < 4294967296 := Nat.xor_lt_two_pow (n := 32) hl (u8_lt _)
      have h8 := u8mod s[k]
      generalize regR (inv c) ((LS s).take k) ^^^ s[k].toNat = z at *
      generalize regR (inv c) ((LS s).take k) = r at *
      go_wp2
      go_loop [5, 21] (fun v5 v21 => ∃ j : Nat, j ≤ 2 ∧ v21 = .int .i64 (j : Int) ∧ v5 = .int .u32 ((stn (4 * j) z : Nat) : Int)) (fun _ v21 => 2 - (intOf v21).toNat)
      case atStart => exact ⟨0, by decide, rfl, rfl⟩
      case round =>
        obtain ⟨j, hj, rfl, rfl⟩ := hrel
        have hyl : stn (4 * j) z < 4294967296 := stn_lt _ hzl
        by_cases hjt : j < 2
        · have HM : Hid (stn (4 * (j + 1)) z = stn 4 (stn (4 * j) z)) := by
            show _ = _
            rw [show 4 * (j + 1) = 4 * j + 4 by omega, stn_add]
          generalize stn (4 * j) z = y at *
          have ha := u32and15 y hyl
          have hcell := unhide HF (y % 16) (Nat.mod_lt _ (by decide))
          have hxx := u32x (y / 16) (fourAt (y % 16)) (by omega) (fourAt_lt _ (Nat.mod_lt _ (by decide)))
          rw [← four y] at hxx
          have hl16 : y % 16 < 16 := Nat.mod_lt _ (by decide)
          generalize fourAt (y % 16) = f at *
          generalize y % 16 = l at *
          go_wp2
          go_round
          case rel => exact ⟨j + 1, by omega, by go_num, int_eq (by rw [unhide HM]; exact hxx)⟩
          case measure => simp [intOf]; omega
        · have hj2 : j = 2 := by omega
          subst hj2
          go_wp2
          go_round
          case rel => exact ⟨k + 1, by omega, by go_num, int_eq (by rw [unhide HN])⟩
          case measure => simp [intOf]; omega
    · have hks : k = s.size := by omega
      have HE : Hid (more c (LS s) = inv (regR (inv c) ((LS s).take k))) := by show _ = _; rw [hks, take_all]; rfl
      have hnn := u32not _ hl
      generalize regR (inv c) ((LS s).take k) = r at *
      clear hks
      go_wp2
      go_ret
      exact ⟨ret_int (by rw [unhide HE]), rfl⟩
end Go.Proofs.YteakbnogfnbpkaaGreatDoor
