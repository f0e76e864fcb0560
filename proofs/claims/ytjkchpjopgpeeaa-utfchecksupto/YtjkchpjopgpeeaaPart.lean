/-
  goOn, longestPart of package utf: how wide the longest part is at a wrong byte.
-/
import Derived.Test.YtjkchpjopgpeeaaCheck
import Derived.Deep.QuietTactic
import Derived.BigQuiet
namespace Go.Proofs.Ytjkchpjopgpeeaa
open Go.RowKit Go.PlainAid Go.Lib Go.Shelf

/-- whether some right sequence begins with the two bytes -/
def goOnB (a b : Int) : Bool :=
  if a = 224 then decide (160 ≤ b) && decide (b ≤ 191)
  else if a = 237 then decide (128 ≤ b) && decide (b ≤ 159)
  else if a = 240 then decide (144 ≤ b) && decide (b ≤ 191)
  else if a = 244 then decide (128 ≤ b) && decide (b ≤ 143)
  else decide (194 ≤ a) && decide (a ≤ 243) && tailB b

theorem goOn_any (a b : Int) (w : World) :
    Calls Try.prog 48 #[.int .u8 a, .int .u8 b] w fun e w' => e = .returned (.bool (goOnB a b)) ∧ w' = w := by
  have h5 : (a = 224 ∧ (a == 224) = true) ∨ ((a ≠ 224 ∧ (a == 224) = false) ∧ ((a = 237 ∧ (a == 237) = true) ∨ ((a ≠ 237 ∧ (a == 237) = false) ∧ ((a = 240 ∧ (a == 240) = true) ∨ ((a ≠ 240 ∧ (a == 240) = false) ∧ ((a = 244 ∧ (a == 244) = true) ∨ (a ≠ 244 ∧ (a == 244) = false))))))) := by
    simp only [beq_iff_eq, beq_eq_false_iff_ne, and_self]
    omega
  rcases h5 with ⟨q1, e1⟩ | ⟨⟨q1, e1⟩, ⟨q2, e2⟩ | ⟨⟨q2, e2⟩, ⟨q3, e3⟩ | ⟨⟨q3, e3⟩, ⟨q4, e4⟩ | ⟨q4, e4⟩⟩⟩⟩
  · have HQ : Hid (goOnB a b = (decide (160 ≤ b) && decide (b ≤ 191))) := by show _ = _; unfold goOnB; rw [if_pos q1]
    clear q1
    go_enter Try.func48, Try.ntmps48
    go_wp2
    all_goals go_ret
    all_goals exact ⟨by rw [HQ.out]; simp; omega, rfl⟩
  · have HQ : Hid (goOnB a b = (decide (128 ≤ b) && decide (b ≤ 159))) := by show _ = _; unfold goOnB; rw [if_neg q1, if_pos q2]
    clear q1 q2
    go_enter Try.func48, Try.ntmps48
    go_wp2
    all_goals go_ret
    all_goals exact ⟨by rw [HQ.out]; simp; omega, rfl⟩
  · have HQ : Hid (goOnB a b = (decide (144 ≤ b) && decide (b ≤ 191))) := by show _ = _; unfold goOnB; rw [if_neg q1, if_neg q2, if_pos q3]
    clear q1 q2 q3
    go_enter Try.func48, Try.ntmps48
    go_wp2
    all_goals go_ret
    all_goals exact ⟨by rw [HQ.out]; simp; omega, rfl⟩
  · have HQ : Hid (goOnB a b = (decide (128 ≤ b) && decide (b ≤ 143))) := by show _ = _; unfold goOnB; rw [if_neg q1, if_neg q2, if_neg q3, if_pos q4]
    clear q1 q2 q3 q4
    go_enter Try.func48, Try.ntmps48
    go_wp2
    all_goals go_ret
    all_goals exact ⟨by rw [HQ.out]; simp; omega, rfl⟩
  · have HQ : Hid (goOnB a b = (decide (194 ≤ a) && decide (a ≤ 243) && tailB b)) := by show _ = _; unfold goOnB; rw [if_neg q1, if_neg q2, if_neg q3, if_neg q4]
    clear q1 q2 q3 q4
    have h2 : (194 ≤ a ∧ (a ≤ 243 ∨ 243 < a)) ∨ a < 194 := by omega
    rcases h2 with ⟨q5, q6 | q6⟩ | q5
    all_goals
      go_enter Try.func48, Try.ntmps48
      go_wp2_with (go_at_call 44; refine (isTail_any _ _).mono ?_; rintro e w' ⟨rfl, rfl⟩)
      go_ret
      exact ⟨by rw [HQ.out]; simp; try omega, rfl⟩

/-- how far the tails go on from byte i -/
def partGo (t : ByteArray) (full : Int) : Nat → Nat → Nat
  | 0, i => i
  | f + 1, i => if (i : Int) < full ∧ i < t.size ∧ tailB (bt t i) = true then partGo t full f (i + 1) else i
/-- how wide the longest part is at the first byte -/
def partN (t : ByteArray) : Nat := if 2 ≤ t.size ∧ goOnB (bt t 0) (bt t 1) = true then partGo t (leadN (bt t 0)) 2 2 else 1

set_option maxRecDepth 100000 in
set_option maxHeartbeats 400000 in
theorem longestPart_any (t : ByteArray) (w : World) (hs : t.size ≤ maxLen) (h0 : 0 < t.size) :
    Calls Try.prog 38 #[.string t] w fun e w' => e = .returned (.int .i64 (partN t : Nat)) ∧ ∃ m, w' = w.drewN m := by
  unfold maxLen at hs
  have hb := get_bt t
  have b0 := bt_nonneg t 0
  have b1 := bt_le t 0
  have b2 := bt_nonneg t 1
  have b3 := bt_le t 1
  by_cases h2 : 2 ≤ t.size
  · have hd : decide ((t.size : Int) < 2) = false := by simp; omega
    have hdN : decide (t.size < 2) = false := by simp; omega
    have h2' : 1 < t.size := by omega
    cases hg : goOnB (bt t 0) (bt t 1)
    · have HP : Hid (partN t = 1) := by show _ = _; unfold partN; rw [if_neg (by rw [hg]; simp)]
      have HG : Hid (∀ w, Calls Try.prog 48 #[.int .u8 (bt t 0), .int .u8 (bt t 1)] w fun e w' => e = .returned (.bool false) ∧ w' = w) := fun w => by have := goOn_any (bt t 0) (bt t 1) w; rw [hg] at this; exact this
      clear hg
      go_enter Try.func38, Try.ntmps38
      go_wp2
      go_quiet ((go_at_call 48; exact Calls.quiet_of_same (HG.out _)))
      go_wp2
      go_ret
      exact ⟨ret_int (by rw [HP.out]; rfl), _, rfl⟩
    · have HP : Hid (partN t = partGo t (leadN (bt t 0)) 2 2) := by show _ = _; unfold partN; rw [if_pos ⟨h2, hg⟩]
      have HG : Hid (∀ w, Calls Try.prog 48 #[.int .u8 (bt t 0), .int .u8 (bt t 1)] w fun e w' => e = .returned (.bool true) ∧ w' = w) := fun w => by have := goOn_any (bt t 0) (bt t 1) w; rw [hg] at this; exact this
      clear hg
      have hl := leadN_le (bt t 0)
      generalize hn : leadN (bt t 0) = n at *
      have HN := hide hn
      clear hn
      go_enter Try.func38, Try.ntmps38
      go_wp2
      go_quiet ((go_at_call 48; exact Calls.quiet_of_same (HG.out _)))
      go_wp2_with (go_at_call 49; refine (lead_any _ b0 b1 _).mono ?_; rintro e w' ⟨rfl, rfl⟩; rw [unhide HN])
      go_loopw [5] (fun v wr => ∃ (i f m : Nat), v = .int .i64 i ∧ 2 ≤ i ∧ i ≤ t.size ∧ i + f = 4 ∧ wr = w.drewN m ∧ Hid (partGo t n f i = partN t)) (fun v _ => 5 - (intOf v).toNat)
      case atStart => exact ⟨2, 2, _, rfl, by omega, by omega, rfl, rfl, HP.out.symm⟩
      case round =>
        obtain ⟨i, f, m, rfl, hi2, hit, hif, rfl, HV⟩ := hrel
        obtain ⟨WX, hWX⟩ : ∃ WX, w.drewN m = WX := ⟨_, rfl⟩
        rw [hWX]
        have HWX := hide hWX
        clear hWX
        have c0 := bt_nonneg t i
        have c1 := bt_le t i
        by_cases k1 : (i : Int) < n
        · have f1 : 0 < f := by omega
          obtain ⟨f, rfl⟩ : ∃ g, f = g + 1 := ⟨f - 1, by omega⟩
          have d1 : decide ((i : Int) < n) = true := by simp; omega
          by_cases k2 : i < t.size
          · have d2 : decide ((i : Int) < (t.size : Int)) = true := by simp; omega
            have d2N : decide (i < t.size) = true := by simp; omega
            cases htl : tailB (bt t i)
            · have HE : Hid (partN t = i) := by show _ = _; rw [← HV.out]; unfold partGo; rw [if_neg (by rw [htl]; simp)]
              have HT : Hid (∀ w, Calls Try.prog 44 #[.int .u8 (bt t i)] w fun e w' => e = .returned (.bool false) ∧ w' = w) := fun w => by have := isTail_any (bt t i) w; rw [htl] at this; exact this
              clear htl
              go_wp2_with (go_at_call 44; refine (HT.out _).mono ?_; rintro e w' ⟨rfl, rfl⟩)
              go_ret
              exact ⟨ret_int (by rw [HE.out]), m, (unhide HWX).symm⟩
            · have HE : Hid (partGo t n f (i + 1) = partN t) := by show _ = _; rw [← HV.out]; conv => rhs; unfold partGo
                                                                   rw [if_pos ⟨k1, k2, htl⟩]
              have HT : Hid (∀ w, Calls Try.prog 44 #[.int .u8 (bt t i)] w fun e w' => e = .returned (.bool true) ∧ w' = w) := fun w => by have := isTail_any (bt t i) w; rw [htl] at this; exact this
              clear htl
              go_wp2_with (go_at_call 44; refine (HT.out _).mono ?_; rintro e w' ⟨rfl, rfl⟩)
              go_roundw
              case rel => exact ⟨i + 1, f, m, by go_num, by omega, by omega, by omega, (unhide HWX).symm, HE⟩
              case measure => simp [intOf]; omega
          · have HE : Hid (partN t = i) := by show _ = _; rw [← HV.out]; unfold partGo; rw [if_neg (by omega)]
            have d2 : decide ((i : Int) < (t.size : Int)) = false := by simp; omega
            have d2N : decide (i < t.size) = false := by simp; omega
            go_wp2
            go_ret
            exact ⟨ret_int (by rw [HE.out]), m, (unhide HWX).symm⟩
        · have HE : Hid (partN t = i) := by
            show _ = _
            rw [← HV.out]
            cases f with
            | zero => rfl
            | succ f => unfold partGo; rw [if_neg (by omega)]
          have d1 : decide ((i : Int) < n) = false := by simp; omega
          go_wp2
          go_ret
          exact ⟨ret_int (by rw [HE.out]), m, (unhide HWX).symm⟩
  · have HP : Hid (partN t = 1) := by show _ = _; unfold partN; rw [if_neg (by omega)]
    have hd : decide ((t.size : Int) < 2) = true := by simp; omega
    have hdN : decide (t.size < 2) = true := by simp; omega
    go_enter Try.func38, Try.ntmps38
    go_wp2
    go_quiet (fail)
    go_wp2
    go_ret
    exact ⟨ret_int (by rw [HP.out]; rfl), _, rfl⟩

end Go.Proofs.Ytjkchpjopgpeeaa
