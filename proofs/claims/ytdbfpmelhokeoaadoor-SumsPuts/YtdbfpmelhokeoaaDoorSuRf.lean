/-
  The document's More and CRC.
-/
import Derived.Test.YtdbfpmelhokeoaaDoorSuC
namespace Go.Proofs.YtdbfpmelhokeoaaDoor
open Go.RowKit Go.PlainAid Go.Lib Go.SuM
set_option linter.unusedVariables false
set_option linter.unusedSimpArgs false
theorem xor_up {a b c : Nat} (h : a ^^^ b = c) (hb : b < 4294967296) (hc : c < 4294967296) : a < 4294967296 := by
  have e : a = c ^^^ b := by rw [← h, Nat.xor_assoc, Nat.xor_self, Nat.xor_zero]
  rw [e]
  exact Nat.xor_lt_two_pow (n := 32) hc hb
set_option maxHeartbeats 1000000 in
theorem rmore_any (c : Nat) (hc : c < 4294967296) (s : ByteArray) (hs : s.size ≤ maxLen) (w : World) : Calls Tryd.prog 19 #[.int .u32 (c : Int), .string s] w fun e w' => e = .returned (.int .u32 ((more c (LS s) : Nat) : Int)) ∧ w' = w := by
  unfold maxLen at hs
  have hnot := u32not c hc
  have hil := inv_lt c
  have HS := hide rstep_any
  go_enter Tryd.func19, Tryd.ntmps19
  go_wp2
  go_loop [5, 6] (fun v5 v6 => ∃ k : Nat, k ≤ s.size ∧ v6 = .int .i64 (k : Int) ∧ v5 = .int .u32 ((regR (inv c) ((LS s).take k) : Nat) : Int)) (fun _ v6 => s.size - (intOf v6).toNat)
  case atStart => exact ⟨0, Nat.zero_le _, rfl, rfl⟩
  case round =>
    obtain ⟨k, hk, rfl, rfl⟩ := hrel
    have hl : regR (inv c) ((LS s).take k) < 4294967296 := regR_lt _ (inv_lt _)
    by_cases hlt : k < s.size
    · have HN : Hid (regR (inv c) ((LS s).take (k + 1)) = stn 8 (regR (inv c) ((LS s).take k) ^^^ s[k].toNat)) := by
        show _ = _
        rw [take_snoc s k hlt, regR_snoc]
      have hbl := s[k].toNat_lt
      obtain ⟨bt, hbt⟩ : ∃ bt, bt = s[k].toNat := ⟨_, rfl⟩
      rw [← hbt] at hbl HN
      have hbt' : s[k].toNat = bt := hbt.symm
      clear hbt
      generalize regR (inv c) ((LS s).take k) = r at *
      go_wp2
      go_loop [5, 7] (fun v5 v7 => ∃ j reg : Nat, j ≤ 8 ∧ v7 = .int .i64 (j : Int) ∧ v5 = .int .u32 (reg : Int) ∧ Hid (reg ^^^ bt / 2 ^ j = stn j (r ^^^ bt))) (fun _ v7 => 8 - (intOf v7).toNat)
      case atStart => exact ⟨0, r, by decide, rfl, rfl, by show _ = _; simp [stn]⟩
      case round =>
        obtain ⟨j, reg, hj, rfl, rfl, HI⟩ := hrel
        by_cases hjt : j < 8
        · have hreg : reg < 4294967296 := xor_up (unhide HI) (Nat.lt_of_le_of_lt (Nat.div_le_self _ _) (by omega)) (stn_lt _ (Nat.xor_lt_two_pow (n := 32) hl (by omega)))
          have HI2 := hide (bits_in r bt j reg (unhide HI))
          obtain ⟨d, hd⟩ : ∃ d, d = bt / 2 ^ j := ⟨_, rfl⟩
          have hsh : ((bt : Int) / 2 ^ j) = (d : Int) := by rw [hd, Int.natCast_ediv, Int.natCast_pow]; rfl
          have hdl : d < 256 := by rw [hd]; exact Nat.lt_of_le_of_lt (Nat.div_le_self _ _) (by omega)
          rw [← hd] at HI2
          clear hd
          have ha1 := u32and1 d (by omega)
          have hd32 : (d : Int) % 4294967296 = d := by omega
          have hr := unhide HS reg (d % 2) hreg (by omega)
          rw [show ((d % 2 : Nat) : Int) = (d : Int) % 2 by omega] at hr
          have HR := hide hr
          clear hr
          go_wp2_with (go_at_call 49; with_reducible refine (unhide HR _).mono ?_; rintro e w' ⟨rfl, rfl⟩)
          go_round
          case rel => exact ⟨j + 1, sb reg (d % 2), by omega, by go_num, rfl, HI2⟩
          case measure => simp [intOf]; omega
        · obtain rfl : j = 8 := by omega
          have HE : Hid (reg = stn 8 (r ^^^ bt)) := by
            have := unhide HI
            rw [show bt / 2 ^ 8 = 0 from Nat.div_eq_of_lt hbl, Nat.xor_zero] at this
            exact this
          go_wp2
          go_round
          case rel => exact ⟨k + 1, by omega, by go_num, int_eq (by rw [unhide HN, ← unhide HE])⟩
          case measure => simp [intOf]; omega
    · have hks : k = s.size := by omega
      have HE : Hid (more c (LS s) = inv (regR (inv c) ((LS s).take k))) := by show _ = _; rw [hks, take_all]; rfl
      have hnn := u32not _ hl
      generalize regR (inv c) ((LS s).take k) = r at *
      clear hks
      go_wp2
      go_ret
      exact ⟨ret_int (by rw [unhide HE]), rfl⟩
theorem rmore0 (s : ByteArray) (hs : s.size ≤ maxLen) (w : World) : Calls Tryd.prog 19 #[.int .u32 0, .string s] w fun e w' => e = .returned (.int .u32 ((more 0 (LS s) : Nat) : Int)) ∧ w' = w := rmore_any 0 (by decide) s hs w
set_option maxHeartbeats 1000000 in
theorem rcrc_any (l : List ByteArray) (a : Option Addr) (cap : Nat) (w : World) (h : TxAt w a l) (hl : l.length ≤ maxLen) (hcap : cap ≤ maxLen) : Calls Tryd.prog 17 #[.slice a l.length cap] w fun e w' => e = .returned (.int .u32 ((crcL l : Nat) : Int)) ∧ w' = w := by
  unfold maxLen at hl hcap
  have HM := hide (fun c hc s hs => rmore_any c hc s hs w)
  have HT := hide h
  clear h
  obtain ⟨n, hn⟩ : ∃ n, n = l.length := ⟨_, rfl⟩
  rw [← hn] at hl ⊢
  have HNE := hide hn
  clear hn
  go_enter Tryd.func17, Tryd.ntmps17
  go_wp2
  go_loop [3, 4] (fun v3 v8 => ∃ k : Nat, k ≤ n ∧ v8 = .int .i64 (k : Int) ∧ v3 = .int .u32 ((crcL (l.take k) : Nat) : Int)) (fun _ v8 => n - (intOf v8).toNat)
  case atStart => exact ⟨0, Nat.zero_le _, rfl, rfl⟩
  case round =>
    obtain ⟨k, hk, rfl, rfl⟩ := hrel
    by_cases hlt : k < n
    · have hkl : k < l.length := by rw [← unhide HNE]; exact hlt
      obtain ⟨b, off, rfl, hc, hsz⟩ := slice_get (unhide HT) hkl
      have HN : Hid (crcL (l.take (k + 1)) = more (crcL (l.take k)) (LS l[k])) := by
        show _ = _
        rw [List.take_succ_eq_append_getElem hkl, crcL_snoc]
      have HC := hide (unhide HM (crcL (l.take k)) (crcL_lt _) l[k] hsz)
      generalize crcL (l.take k) = c at *
      generalize l[k] = s at *
      clear hsz hkl
      go_wp2_with (go_at_call 19; refine (unhide HC).mono ?_; rintro e w' ⟨rfl, rfl⟩)
      go_round
      case rel => exact ⟨k + 1, by omega, by go_num, int_eq (by rw [unhide HN])⟩
      case measure => simp [intOf]; omega
    · have HE : Hid (l.take k = l) := by
        show _ = _
        have := unhide HNE
        rw [List.take_of_length_le (by omega)]
      go_wp2
      go_ret
      exact ⟨ret_int (by rw [unhide HE]), rfl⟩
end Go.Proofs.YtdbfpmelhokeoaaDoor
