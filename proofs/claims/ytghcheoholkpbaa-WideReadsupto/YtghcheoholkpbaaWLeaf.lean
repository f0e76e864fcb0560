/-
  What the small functions of package wide answer, for every argument: isHigh, isLow, isPaired, Width, Split, Join, alone. Nothing is written.
-/
import Derived.Test.YtghcheoholkpbaaLives
import Derived.Laws.BitsAllLaws
namespace Go.Proofs.Ytghcheoholkpbaa
open Go.RowKit Go.PlainAid Go.Lib

def highB (u : Int) : Bool := decide (55296 ≤ u) && decide (u < 56320)
def lowB (u : Int) : Bool := decide (56320 ≤ u) && decide (u ≤ 57343)
/-- a character that one unit can't hold -/
def pairB (r : Int) : Bool := decide (65536 ≤ r) && decide (r ≤ 1114111)
def wN (r : Int) : Int := if pairB r then 2 else 1
def hiN (r : Int) : Int := 55232 + r / 1024
def loN (r : Int) : Int := 56320 + r % 1024
def joinN (h l : Int) : Int := 65536 + 1024 * (h - 55296) + (l - 56320)
def aloneN (u : Int) : Int := if highB u || lowB u then 65533 else u

theorem wf_u16 {n : Int} (h : (Lit.int .u16 n).wf = true) : 0 ≤ n ∧ n ≤ 65535 := by
  unfold Lit.wf at h
  rw [Bool.and_eq_true] at h
  have h1 := of_decide_eq_true h.1
  have h2 := of_decide_eq_true h.2
  have e1 : IntKind.u16.min = 0 := by decide
  have e2 : IntKind.u16.max = 65535 := by decide
  omega
theorem wf_u8 {n : Int} (h : (Lit.int .u8 n).wf = true) : 0 ≤ n ∧ n ≤ 255 := by
  unfold Lit.wf at h
  rw [Bool.and_eq_true] at h
  have h1 := of_decide_eq_true h.1
  have h2 := of_decide_eq_true h.2
  have e1 : IntKind.u8.min = 0 := by decide
  have e2 : IntKind.u8.max = 255 := by decide
  omega
theorem ret_units {a b c d : Int} (h : a = b) (h' : c = d) : Ending.returned (.tuple #[.int .u16 a, .int .u16 c, .bool true]) = .returned (.tuple #[.int .u16 b, .int .u16 d, .bool true]) := by rw [h, h']
theorem ret_rune {a b : Int} (h : a = b) : Ending.returned (.tuple #[.int .i32 a, .bool true]) = .returned (.tuple #[.int .i32 b, .bool true]) := by rw [h]

theorem isHigh_any (u : Int) (w : World) :
    Calls Try.prog 52 #[.int .u16 u] w fun e w' => e = .returned (.bool (highB u)) ∧ w' = w := by
  go_enter Try.func52, Try.ntmps52
  go_wp2
  all_goals go_ret
  all_goals exact ⟨by simp [highB]; try omega, rfl⟩

theorem isLow_any (u : Int) (w : World) :
    Calls Try.prog 53 #[.int .u16 u] w fun e w' => e = .returned (.bool (lowB u)) ∧ w' = w := by
  go_enter Try.func53, Try.ntmps53
  go_wp2
  all_goals go_ret
  all_goals exact ⟨by simp [lowB]; try omega, rfl⟩

theorem pair_scalar (r : Int) : (decide (65536 ≤ r) && scalarB r) = pairB r := by
  rw [Bool.eq_iff_iff]; unfold pairB scalarB halfB; simp; omega

theorem isPaired_any (r : Int) (w : World) :
    Calls Try.prog 51 #[.int .i32 r] w fun e w' => e = .returned (.bool (pairB r)) ∧ w' = w := by
  have HP := hide (pair_scalar r)
  by_cases h : 65536 ≤ r
  · go_enter Try.func51, Try.ntmps51
    go_wp2_with (go_at_call 72; refine (scalar_any _ _).mono ?_; rintro e w' ⟨rfl, rfl⟩)
    go_ret
    exact ⟨ret_bool (by rw [← unhide HP]; simp [h]), rfl⟩
  · go_enter Try.func51, Try.ntmps51
    go_wp2
    go_ret
    exact ⟨ret_bool (by rw [← unhide HP, decide_eq_false (by omega)]; rfl), rfl⟩

theorem wWidth_any (r : Int) (w : World) :
    Calls Try.prog 18 #[.int .i32 r] w fun e w' => e = .returned (.int .i64 (wN r)) ∧ w' = w := by
  cases h : pairB r
  all_goals
    go_enter Try.func18, Try.ntmps18
    go_wp2_with (go_at_call 51; refine (isPaired_any _ _).mono ?_; rintro e w' ⟨rfl, rfl⟩)
    go_ret
    exact ⟨ret_int (by simp [wN, h]), rfl⟩

theorem split_no (r : Int) (w : World) (h : pairB r = false) :
    Calls Try.prog 14 #[.int .i32 r] w fun e w' => e = .returned (.tuple #[.int .u16 0, .int .u16 0, .bool false]) ∧ w' = w := by
  go_enter Try.func14, Try.ntmps14
  go_wp2_with (go_at_call 51; refine (isPaired_any _ _).mono ?_; rintro e w' ⟨rfl, rfl⟩)
  go_returns
  exact ⟨rfl, rfl⟩

theorem split_yes (r : Int) (w : World) (h : pairB r = true) :
    Calls Try.prog 14 #[.int .i32 r] w fun e w' => e = .returned (.tuple #[.int .u16 (hiN r), .int .u16 (loN r), .bool true]) ∧ w' = w := by
  have hb : 65536 ≤ r ∧ r ≤ 1114111 := by unfold pairB at h; simpa using h
  obtain ⟨h0, h1⟩ := hb
  have e0 : IntKind.u16.wrap r = r % 65536 := by rw [IntKind.wrap_u16]
  have e1 : bits .and .u16 (r % 65536) 1023 = r % 1024 := by
    rw [u16_and _ _ (by omega) (by omega) (by omega) (by omega)]
    have : ((r % 65536).toNat &&& 1023) = (r % 65536).toNat % 1024 := Nat.and_two_pow_sub_one_eq_mod _ 10
    show (((r % 65536).toNat &&& 1023 : Nat) : Int) = _
    rw [this]; omega
  have e2 : bits .or .u16 (r % 1024) 56320 = 56320 + r % 1024 := by
    rw [u16_or _ _ (by omega) (by omega) (by omega) (by omega)]
    have : (2 ^ 10 * 55 + (r % 1024).toNat) = (2 ^ 10 * 55 ||| (r % 1024).toNat) := Nat.two_pow_add_eq_or_of_lt (by omega) 55
    show (((r % 1024).toNat ||| 2 ^ 10 * 55 : Nat) : Int) = _
    rw [Nat.or_comm, ← this]; omega
  go_enter Try.func14, Try.ntmps14
  go_wp2_with (go_at_call 51; refine (isPaired_any _ _).mono ?_; rintro e w' ⟨rfl, rfl⟩)
  go_returns
  exact ⟨ret_units (by unfold hiN; omega) (by unfold loN; omega), rfl⟩

theorem or_low (x y : Int) (hx : 0 ≤ x) (hx' : x < 1024) (hy : 0 ≤ y) (hy' : y < 1024) : bits .or .i32 (x * 1024) y = x * 1024 + y :=
  bits_join .i32 31 (by decide) wraps_i32 10 (x * 1024) y (by omega) (by omega) (by omega) hy (by omega) (by omega)

theorem join_no (a b : Int) (w : World) (h : (highB a && lowB b) = false) :
    Calls Try.prog 16 #[.int .u16 a, .int .u16 b] w fun e w' => e = .returned (.tuple #[.int .i32 0, .bool false]) ∧ w' = w := by
  cases ha : highB a
  · go_enter Try.func16, Try.ntmps16
    go_wp2_with (first | (go_at_call 52; refine (isHigh_any _ _).mono ?_; rintro e w' ⟨rfl, rfl⟩) | (go_at_call 53; refine (isLow_any _ _).mono ?_; rintro e w' ⟨rfl, rfl⟩))
    go_returns
    exact ⟨rfl, rfl⟩
  · have hb : lowB b = false := by rw [ha] at h; simpa using h
    clear h
    go_enter Try.func16, Try.ntmps16
    go_wp2_with (first | (go_at_call 52; refine (isHigh_any _ _).mono ?_; rintro e w' ⟨rfl, rfl⟩) | (go_at_call 53; refine (isLow_any _ _).mono ?_; rintro e w' ⟨rfl, rfl⟩))
    go_returns
    exact ⟨rfl, rfl⟩

theorem join_yes (a b : Int) (w : World) (ha : highB a = true) (hb : lowB b = true) :
    Calls Try.prog 16 #[.int .u16 a, .int .u16 b] w fun e w' => e = .returned (.tuple #[.int .i32 (joinN a b), .bool true]) ∧ w' = w := by
  have h1 : 55296 ≤ a ∧ a < 56320 := by unfold highB at ha; simpa using ha
  have h2 : 56320 ≤ b ∧ b ≤ 57343 := by unfold lowB at hb; simpa using hb
  obtain ⟨h1, h1'⟩ := h1
  obtain ⟨h2, h2'⟩ := h2
  have e1 : bits .or .i32 ((a - 55296) * 1024) (b - 56320) = (a - 55296) * 1024 + (b - 56320) := or_low _ _ (by omega) (by omega) (by omega) (by omega)
  go_enter Try.func16, Try.ntmps16
  go_wp2_with (first | (go_at_call 52; refine (isHigh_any _ _).mono ?_; rintro e w' ⟨rfl, rfl⟩) | (go_at_call 53; refine (isLow_any _ _).mono ?_; rintro e w' ⟨rfl, rfl⟩))
  go_returns
  exact ⟨ret_rune (by unfold joinN; omega), rfl⟩

theorem alone_any (u : Int) (w : World) (h0 : 0 ≤ u) (h1 : u ≤ 65535) :
    Calls Try.prog 84 #[.int .u16 u] w fun e w' => e = .returned (.int .i32 (aloneN u)) ∧ w' = w := by
  cases ha : highB u <;> cases hb : lowB u
  all_goals
    go_enter Try.func84, Try.ntmps84
    go_wp2_with (first | (go_at_call 52; refine (isHigh_any _ _).mono ?_; rintro e w' ⟨rfl, rfl⟩) | (go_at_call 53; refine (isLow_any _ _).mono ?_; rintro e w' ⟨rfl, rfl⟩))
    go_ret
    exact ⟨ret_int (by simp [aloneN, ha, hb]), rfl⟩

end Go.Proofs.Ytghcheoholkpbaa
