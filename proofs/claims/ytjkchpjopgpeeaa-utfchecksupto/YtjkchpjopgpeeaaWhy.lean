/-
  Why the first byte of a text is wrong: what the function whyWrong of package utf answers, for every text that is not empty.
-/
import Derived.Test.YtjkchpjopgpeeaaLeaf
import Derived.PlainAid
namespace Go.Proofs.Ytjkchpjopgpeeaa
open Go.RowKit Go.PlainAid

def whyGo (t : ByteArray) (n : Int) : Nat → Nat → Int → Int
  | 0, _, acc => whyNoN acc n
  | f + 1, i, acc => if i = t.size then 11 else if tailB (bt t i) then whyGo t n f (i + 1) (acc * 64 + bt t i % 64) else 12
def whyN (t : ByteArray) : Int :=
  if leadN (bt t 0) = 0 then 10 else whyGo t (leadN (bt t 0)) (leadN (bt t 0) - 1).toNat 1 (leadBits (bt t 0))

theorem leadN_cases (b : Int) : leadN b = 0 ∨ leadN b = 1 ∨ leadN b = 2 ∨ leadN b = 3 ∨ leadN b = 4 := by
  unfold leadN; (repeat' split) <;> simp
theorem leadN_le (b : Int) : 0 ≤ leadN b ∧ leadN b ≤ 4 := by have := leadN_cases b; omega
theorem leadBits_le (b : Int) (h0 : 0 ≤ b) : 0 ≤ leadBits b ∧ leadBits b < 128 := by
  unfold leadBits; (repeat' split) <;> omega
theorem leadBits_le2 (b : Int) (_h0 : 0 ≤ b) (h : 1 < leadN b) : 0 ≤ leadBits b ∧ leadBits b < 32 := by
  unfold leadN at h; unfold leadBits; revert h; (repeat' split) <;> omega

/-- What has come of the bits when the bytes ahead of i are through. -/
def accN (t : ByteArray) : Nat → Int
  | 0 => 0
  | 1 => leadBits (bt t 0)
  | i + 2 => accN t (i + 1) * 64 + bt t (i + 1) % 64
theorem acc_succ (t : ByteArray) (i : Nat) (h : 1 ≤ i) : accN t (i + 1) = accN t i * 64 + bt t i % 64 := by
  obtain ⟨j, rfl⟩ : ∃ j, i = j + 1 := ⟨i - 1, by omega⟩
  rfl
theorem acc_le (t : ByteArray) (h : 1 < leadN (bt t 0)) (i : Nat) : i ≤ 4 → 1 ≤ i → 0 ≤ accN t i ∧ accN t i < 32 * 64 ^ (i - 1) := by
  intro h4 h1
  have hl := leadBits_le2 (bt t 0) (bt_nonneg t 0) h
  have b1 := bt_nonneg t 1; have b2 := bt_nonneg t 2; have b3 := bt_nonneg t 3
  have e1 : accN t 1 = leadBits (bt t 0) := rfl
  have e2 : accN t 2 = accN t 1 * 64 + bt t 1 % 64 := rfl
  have e3 : accN t 3 = accN t 2 * 64 + bt t 2 % 64 := rfl
  have e4 : accN t 4 = accN t 3 * 64 + bt t 3 % 64 := rfl
  have : i = 1 ∨ i = 2 ∨ i = 3 ∨ i = 4 := by omega
  rcases this with rfl | rfl | rfl | rfl <;> simp <;> omega
theorem acc_small (t : ByteArray) (h : 1 < leadN (bt t 0)) (i : Nat) (h4 : i ≤ 4) (h1 : 1 ≤ i) : 0 ≤ accN t i ∧ accN t i < 8388608 := by
  have := acc_le t h i h4 h1
  have : i = 1 ∨ i = 2 ∨ i = 3 ∨ i = 4 := by omega
  rcases this with rfl | rfl | rfl | rfl <;> simp at * <;> omega

theorem whyGo_step (t : ByteArray) (n : Int) (i : Nat) (acc : Int) (h : (i : Int) < n) :
    whyGo t n (n - i).toNat i acc = if i = t.size then 11 else if tailB (bt t i) then whyGo t n (n - (i + 1 : Nat)).toNat (i + 1) (acc * 64 + bt t i % 64) else 12 := by
  have e : (n - i).toNat = (n - (i + 1 : Nat)).toNat + 1 := by omega
  rw [e]; rfl
theorem whyGo_end (t : ByteArray) (n : Int) (i : Nat) (acc : Int) (h : (i : Int) = n) : whyGo t n (n - i).toNat i acc = whyNoN acc n := by
  have e : (n - i).toNat = 0 := by omega
  rw [e]; rfl

set_option maxHeartbeats 400000 in
theorem whyWrong_any (t : ByteArray) (w : World) (hs : t.size ≤ maxLen) (h0 : 0 < t.size) :
    Calls Try.prog 42 #[.string t] w fun e w' => e = .returned (.int .i64 (whyN t)) ∧ w' = w := by
  unfold maxLen at hs
  have hb := get_bt t
  have b0 := bt_nonneg t 0
  have b1 := bt_le t 0
  by_cases hz : leadN (bt t 0) = 0
  · have hz' : (leadN (bt t 0) == 0) = true := beq_iff_eq.2 hz
    have HZ : Hid (leadN (bt t 0) = 0) := hz
    clear hz
    go_enter Try.func42, Try.ntmps42
    go_wp2_with (go_at_call 49; refine (lead_any _ b0 b1 _).mono ?_; rintro e w' ⟨rfl, rfl⟩)
    go_ret
    exact ⟨ret_int (by rw [whyN, if_pos HZ.out]), rfl⟩
  · have hz' : (leadN (bt t 0) == 0) = false := beq_eq_false_iff_ne.2 hz
    have hl := leadN_le (bt t 0)
    have ha := acc_small t
    have HA : Hid (1 < leadN (bt t 0) → ∀ (i : Nat), i ≤ 4 → 1 ≤ i → 0 ≤ accN t i ∧ accN t i < 8388608) := ha
    have hl1 : 1 ≤ leadN (bt t 0) := by omega
    have HW : Hid (whyN t = whyGo t (leadN (bt t 0)) (leadN (bt t 0) - (1 : Nat)).toNat 1 (accN t 1)) := by
      show whyN t = _
      rw [whyN, if_neg hz]; rfl
    clear hz ha
    generalize hn : leadN (bt t 0) = n at *
    have HN : Hid (leadN (bt t 0) = n) := hn
    clear hn
    go_enter Try.func42, Try.ntmps42
    go_wp2_with (go_at_call 49; refine (lead_any _ b0 b1 _).mono ?_; rintro e w' ⟨rfl, rfl⟩; rw [HN.out])
    go_loop [4, 5] (fun v4 v5 => ∃ i : Nat, 1 ≤ i ∧ (i : Int) ≤ n ∧ i ≤ t.size ∧ v5 = .int .i64 i ∧ v4 = .int .i32 (accN t i) ∧ Hid (whyN t = whyGo t n (n - i).toNat i (accN t i))) (fun _ v5 => 5 - (intOf v5).toNat)
    case atStart => exact ⟨1, Nat.le_refl _, hl1, h0, rfl, rfl, HW⟩
    case round =>
      obtain ⟨i, hi1, hi2, hi3, rfl, rfl, HV⟩ := hrel
      have c0 := bt_nonneg t i
      have c1 := bt_le t i
      by_cases hlt : (i : Int) < n
      · have hac := HA.out (by omega) i (by omega) hi1
        have HS := whyGo_step t n i (accN t i) hlt
        have HS' : Hid (whyGo t n (n - i).toNat i (accN t i) = if i = t.size then 11 else if tailB (bt t i) then whyGo t n (n - (i + 1 : Nat)).toNat (i + 1) (accN t i * 64 + bt t i % 64) else 12) := HS
        clear HS
        by_cases he : i = t.size
        · have he' : ((i : Int) == (t.size : Int)) = true := by simp [he]
          have HE : Hid (i = t.size) := he
          clear he
          go_wp2
          go_ret
          exact ⟨ret_int (by rw [HV.out, HS'.out, if_pos HE.out]), rfl⟩
        · have he' : ((i : Int) == (t.size : Int)) = false := by simp; omega
          have hlt' : i < t.size := by omega
          have HE : Hid (¬ i = t.size) := he
          clear he
          have e63 := u8_and63 (bt t i) c0 (by omega)
          have eor := i32_or6 (accN t i * 64) (bt t i % 64) (by omega) (by omega) (by omega) (by omega) (by omega)
          cases htl : tailB (bt t i)
          · have HT : Hid (tailB (bt t i) = false) := htl
            clear htl
            go_wp2_with (go_at_call 44; refine (isTail_any _ _).mono ?_; rintro e w' ⟨rfl, rfl⟩; rw [HT.out])
            go_ret
            exact ⟨ret_int (by rw [HV.out, HS'.out, if_neg HE.out, if_neg (by rw [HT.out]; simp)]), rfl⟩
          · have HT : Hid (tailB (bt t i) = true) := htl
            clear htl
            go_wp2_with (go_at_call 44; refine (isTail_any _ _).mono ?_; rintro e w' ⟨rfl, rfl⟩; rw [HT.out])
            go_round
            case rel => exact ⟨i + 1, by omega, by omega, by omega, by go_num, by rw [acc_succ t i hi1], show _ = _ by rw [HV.out, HS'.out, if_neg HE.out, if_pos HT.out, acc_succ t i hi1]⟩
            case measure => simp [intOf]; omega
      · have HS : Hid (whyGo t n (n - i).toNat i (accN t i) = whyNoN (accN t i) n) := whyGo_end t n i (accN t i) (by omega)
        go_wp2_with (go_at_call 52; refine (whyNo_any _ _ _).mono ?_; rintro e w' ⟨rfl, rfl⟩)
        go_ret
        exact ⟨ret_int (by rw [HV.out, HS.out]), rfl⟩

end Go.Proofs.Ytjkchpjopgpeeaa
