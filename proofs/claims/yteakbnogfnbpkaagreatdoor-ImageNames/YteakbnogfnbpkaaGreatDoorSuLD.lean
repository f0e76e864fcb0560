/-
  The bytes of a number of type uint32, laid behind a row.
-/
import Derived.Test.YteakbnogfnbpkaaGreatDoorSuSD
import Derived.Test.YteakbnogfnbpkaaGreatDoorSuR
namespace Go.Proofs.YteakbnogfnbpkaaGreatDoor.ND
open Go.RowKit Go.PlainAid Go.Lib Go.SuM
set_option linter.unusedVariables false
set_option linter.unusedSimpArgs false
set_option maxHeartbeats 1000000 in
theorem lay_any (x : Nat) (hx : x < 4294967296) (B : Nat) (s : Value) (l : List UInt8) (w : World) (h : OwnB w B s l) (hB : B ≤ w.heap.size) (hbig : l.length + 4 ≤ 140737488355328) : Calls Tryz.prog 173 #[s, .int .u32 (x : Int)] w fun e w' => ∃ s', e = .returned s' ∧ OwnB w' B s' (l ++ le 4 x) ∧ Below B w w' := by
  have HO := hide h
  clear h
  go_enter Tryz.func173, Tryz.ntmps173
  go_wp2_with (go_at_call 90; refine (width_any _).mono ?_; rintro e w' ⟨rfl, hww⟩; obtain rfl : w = w' := hww.symm)
  go_loopw [0, 5, 8] (fun v0 v5 vc wr => ∃ k : Nat, k ≤ 4 ∧ vc = .int .i64 (k : Int) ∧ v5 = .int .u32 ((x / 256 ^ k : Nat) : Int) ∧ OwnB wr B v0 (l ++ le k x) ∧ Below B w wr) (fun _ _ vc _ => 4 - (intOf vc).toNat)
  case atStart => exact ⟨0, by decide, rfl, int_eq (by simp), by rw [show l ++ le 0 x = l from List.append_nil l]; exact unhide HO, Below.refl _ _⟩
  case round =>
    obtain ⟨k, hk, rfl, rfl, hO, hb⟩ := hrel
    by_cases hlt : k < 4
    · have HQ := hide (And.intro hO hb)
      have hlk : (l ++ le k x).length + 1 ≤ 140737488355328 := by rw [List.length_append, le_len]; omega
      have HB : Hid (B ≤ wr.heap.size) := Nat.le_trans hB hb.size
      have HD : Hid (x / 256 ^ (k + 1) = x / 256 ^ k / 256) := by show _ = _; rw [Nat.pow_succ, Nat.div_div_eq_div_mul]
      have HS : Hid (l ++ le (k + 1) x = (l ++ le k x) ++ [UInt8.ofNat (x / 256 ^ k)]) := by show _ = _; rw [le_snoc, List.append_assoc]
      have h8 := u8of (x / 256 ^ k)
      generalize x / 256 ^ k = y at *
      clear hO hb
      go_wp2_with (at_builtin; rw [← h8]; refine append_byte wr B _ (l ++ le k x) (UInt8.ofNat y) (unhide HQ).1 (unhide HB) hlk rfl _ _ rfl rfl 1 rfl ?_; intro v' w1 hO1 hb1)
      go_roundw
      case rel => exact ⟨k + 1, by omega, by go_num, int_eq (by rw [unhide HD]; rfl), by rw [unhide HS]; exact hO1, (unhide HQ).2.trans hb1⟩
      case measure => simp [intOf]; omega
    · have hk' : k = 4 := by omega
      subst hk'
      have HQ := hide (And.intro hO hb)
      clear hO hb
      go_wp2
      go_ret
      exact ⟨_, rfl, (unhide HQ).1, (unhide HQ).2⟩
end Go.Proofs.YteakbnogfnbpkaaGreatDoor.ND
