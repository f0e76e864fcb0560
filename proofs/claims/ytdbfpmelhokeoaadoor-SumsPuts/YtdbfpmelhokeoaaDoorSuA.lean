/-
  The register's step, products, n bytes 0, joined sums.
-/
import Derived.Test.YtdbfpmelhokeoaaDoorRows
import Derived.Test.YtdbfpmelhokeoaaDoorSuM2
import Derived.WalkKit
import Derived.WalkSpells
import Derived.WalkLawsBesides
import Derived.Handy
import Derived.PlainAid
import Derived.Lib.QuietBelow
import Derived.Deep.LoopGhost
import Derived.Laws.BitsLemmas
import Derived.Laws.BitsAllLaws
namespace Go.Proofs.YtdbfpmelhokeoaaDoor
open Go.RowKit Go.PlainAid Go.Lib Go.SuM
set_option linter.unusedVariables false
set_option linter.unusedSimpArgs false
theorem hide {p : Prop} (h : p) : Hid p := h
theorem unhide {p : Prop} (h : Hid p) : p := h
theorem ret_int {k : IntKind} {a b : Int} (h : a = b) : Ending.returned (.int k a) = .returned (.int k b) := by rw [h]
theorem int_eq {k : IntKind} {a b : Int} (h : a = b) : Value.int k a = .int k b := by rw [h]
theorem u32x (a b : Nat) (ha : a < 4294967296) (hb : b < 4294967296) : bits .xor .u32 (a : Int) (b : Int) = ((a ^^^ b : Nat) : Int) := u32_xor_nat a b ha hb
theorem u32and1 (a : Nat) (ha : a < 4294967296) : bits .and .u32 (a : Int) 1 = ((a % 2 : Nat) : Int) := by
  have := u32_and_nat a 1 ha (by decide)
  rw [show ((1 : Int)) = ((1 : Nat) : Int) from rfl, this, Nat.and_one_is_mod]
theorem step_any (r : Nat) (hr : r < 4294967296) (w : World) : Calls Tryd.prog 91 #[.int .u32 (r : Int)] w fun e w' => e = .returned (.int .u32 ((st r : Nat) : Int)) ∧ w' = w := by
  have h1 := u32and1 r hr
  have HX := hide (u32x (r / 2) 3988292384 (by omega) (by decide))
  by_cases h2 : r % 2 = 1
  · have h3 : ((r : Int) % 2 == 1) = true := by rw [beq_iff_eq]; omega
    have HR : Hid (st r = r / 2 ^^^ 3988292384) := by show _ = _; unfold st; rw [if_pos h2]
    clear h2
    go_enter Tryd.func91, Tryd.ntmps91
    go_wp2
    go_ret
    exact ⟨ret_int (by rw [unhide HR, ← unhide HX]; rfl), rfl⟩
  · have h3 : ((r : Int) % 2 == 1) = false := by rw [beq_eq_false_iff_ne]; omega
    have HR : Hid (st r = r / 2) := by show _ = _; unfold st; rw [if_neg h2, Nat.xor_zero]
    clear h2
    go_enter Tryd.func91, Tryd.ntmps91
    go_wp2
    go_ret
    exact ⟨ret_int (by rw [unhide HR]; rfl), rfl⟩
set_option maxHeartbeats 1000000 in
theorem times_any (m a b : Nat) (ha : a < 4294967296) (hb : b = stn m 2147483648) (w : World) : Calls Tryd.prog 78 #[.int .u32 (a : Int), .int .u32 (b : Int)] w fun e w' => e = .returned (.int .u32 ((stn m a : Nat) : Int)) ∧ w' = w := by
  have HS : Hid (TimesI m a 0 a b 0) := by rw [hb]; exact TimesI.start ha
  clear hb
  go_enter Tryd.func78, Tryd.ntmps78
  go_wp2
  go_loopg [0, 1, 5] 33 (fun kx v0 v1 v5 wr => ∃ k a' b' p : Nat, v0 = .int .u32 (a' : Int) ∧ v1 = .int .u32 (b' : Int) ∧ v5 = .int .u32 (p : Int) ∧ Hid (TimesI m a k a' b' p) ∧ kx = 33 - k ∧ wr = w)
  case atStart => exact ⟨0, a, b, 0, rfl, rfl, rfl, HS, rfl, rfl⟩
  case round =>
    obtain ⟨k, a', b', p, rfl, rfl, rfl, HT, rfl, rfl⟩ := hrel
    have hal := (unhide HT).al
    have hbl := (unhide HT).bl
    have hpl := (unhide HT).pl
    by_cases h0 : a' = 0
    · have h0' : ((a' : Int) != 0) = false := by rw [bne_eq_false_iff_eq]; omega
      have HP : Hid (p = stn m a) := by subst h0; exact (unhide HT).stop
      clear h0
      go_wp2
      go_ret
      exact ⟨ret_int (by rw [← unhide HP]), rfl⟩
    · have h0' : ((a' : Int) != 0) = true := by rw [bne_iff_ne]; omega
      have hk := (unhide HT).lt h0
      have HST := hide (step_any b' hbl)
      by_cases h1 : a' / 2147483648 = 1
      · have h1' : ((a' : Int) / 2147483648 == 1) = true := by rw [beq_iff_eq]; omega
        have HN := hide ((unhide HT).one h0 h1)
        have hx := u32x p b' hpl hbl
        clear h1 h0
        go_wp2_with (go_at_call 91; refine (unhide HST _).mono ?_; rintro e w' ⟨rfl, rfl⟩)
        go_roundg (33 - (k + 1))
        case measure => omega
        case rel => exact ⟨k + 1, _, _, _, int_eq (by simp [IntKind.wrap_u32]; omega), rfl, rfl, HN, rfl, rfl⟩
      · have h1' : ((a' : Int) / 2147483648 == 1) = false := by rw [beq_eq_false_iff_ne]; omega
        have HN := hide ((unhide HT).nil h0 h1)
        clear h1 h0
        go_wp2_with (go_at_call 91; refine (unhide HST _).mono ?_; rintro e w' ⟨rfl, rfl⟩)
        go_roundg (33 - (k + 1))
        case measure => omega
        case rel => exact ⟨k + 1, _, _, _, int_eq (by simp [IntKind.wrap_u32]; omega), rfl, rfl, HN, rfl, rfl⟩
theorem i64and1 (n : Nat) (hn : n < 9223372036854775808) : bits .and .i64 (n : Int) 1 = ((n % 2 : Nat) : Int) := by
  have := bits_mask .i64 63 (by decide) (fun n h0 h1 => by rw [IntKind.wrap_i64]; omega) 1 (by decide) (n : Int) (by omega) (by omega)
  exact this.trans (by omega)
set_option maxHeartbeats 1000000 in
theorem zeros_any (r n : Nat) (hr : r < 4294967296) (hn : n < 9223372036854775808) (w : World) : Calls Tryd.prog 50 #[.int .u32 (r : Int), .int .i64 (n : Int)] w fun e w' => e = .returned (.int .u32 ((zer n r : Nat) : Int)) ∧ w' = w := by
  have HS := hide (ZerosI.start (n0 := n) hr)
  have HT := hide times_any
  go_enter Tryd.func50, Tryd.ntmps50
  go_wp2
  go_loop [0, 1, 5] (fun v0 v1 v5 => ∃ j n' r' pw : Nat, v0 = .int .u32 (r' : Int) ∧ v1 = .int .i64 (n' : Int) ∧ v5 = .int .u32 (pw : Int) ∧ n' ≤ n ∧ Hid (ZerosI n r j n' r' pw)) (fun _ v1 _ => (intOf v1).toNat)
  case atStart => exact ⟨0, n, r, _, rfl, rfl, rfl, Nat.le_refl _, HS⟩
  case round =>
    obtain ⟨j, n', r', pw, rfl, rfl, rfl, hnn, HZ⟩ := hrel
    have hrl := (unhide HZ).rl
    have HP := hide (unhide HZ).pow
    have hpl : pw < 4294967296 := by rw [unhide HP]; exact stn_lt _ (by decide)
    by_cases h0 : n' = 0
    · subst h0
      have HP := hide (unhide HZ).stop
      go_wp2
      go_ret
      exact ⟨ret_int (by rw [← unhide HP]), rfl⟩
    · have h0' : 0 < n' := by omega
      have ha := i64and1 n' (by omega)
      by_cases h1 : n' % 2 = 1
      · have h1' : ((n' : Int) % 2 == 1) = true := by rw [beq_iff_eq]; omega
        have HN := hide ((unhide HZ).one h1)
        clear h1 h0
        go_wp2_with (go_at_call 78; first | (with_reducible refine (unhide HT (8 * 2 ^ j) r' pw hrl (unhide HP) _).mono ?_; rintro e w' ⟨rfl, rfl⟩) | (with_reducible refine (unhide HT (8 * 2 ^ j) pw pw hpl (unhide HP) _).mono ?_; rintro e w' ⟨rfl, rfl⟩))
        go_round
        case rel => exact ⟨j + 1, n' / 2, _, _, rfl, int_eq (by omega), rfl, by omega, HN⟩
        case measure => simp [intOf]; omega
      · have h1' : ((n' : Int) % 2 == 1) = false := by rw [beq_eq_false_iff_ne]; omega
        have HN := hide ((unhide HZ).nil h1)
        clear h1 h0
        go_wp2_with (go_at_call 78; (with_reducible refine (unhide HT (8 * 2 ^ j) pw pw hpl (unhide HP) _).mono ?_; rintro e w' ⟨rfl, rfl⟩))
        go_round
        case rel => exact ⟨j + 1, n' / 2, _, _, rfl, int_eq (by omega), rfl, by omega, HN⟩
        case measure => simp [intOf]; omega
theorem joined_no (a b : Nat) (n : Int) (hn : n < 0) (w : World) : Calls Tryd.prog 21 #[.int .u32 (a : Int), .int .u32 (b : Int), .int .i64 n] w fun e w' => e = .returned (.tuple #[.int .u32 0, .int .i64 2]) ∧ w' = w := by
  go_enter Tryd.func21, Tryd.ntmps21
  go_wp2
  go_ret2
  exact ⟨rfl, rfl⟩
theorem joined_any (a b n : Nat) (ha : a < 4294967296) (hb : b < 4294967296) (hn : n < 9223372036854775808) (w : World) : Calls Tryd.prog 21 #[.int .u32 (a : Int), .int .u32 (b : Int), .int .i64 (n : Int)] w fun e w' => e = .returned (.tuple #[.int .u32 ((zer n a ^^^ b : Nat) : Int), .int .i64 0]) ∧ w' = w := by
  have hx := u32x (zer n a) b (stn_lt _ ha) hb
  have hn0 : ¬ ((n : Int) < 0) := by omega
  go_enter Tryd.func21, Tryd.ntmps21
  go_wp2_with (go_at_call 50; refine (zeros_any a n ha hn _).mono ?_; rintro e w' ⟨rfl, rfl⟩)
  go_ret2
  exact ⟨rfl, rfl⟩
end Go.Proofs.YtdbfpmelhokeoaaDoor
