/-
  Read of package wide, whole.
-/
import Derived.Test.YtghcheoholkpbaaWRead
import Derived.Deep.AppendLies
namespace Go.Proofs.Ytghcheoholkpbaa
open Go.RowKit Go.PlainAid Go.Lib
attribute [local go_sem ↓] Go.wp_at_zero Go.wp_at_succ
set_option linter.unusedVariables false

/-- the unit of two bytes -/
def unitV (o x y : Int) : Int := if o = 1 then y * 256 + x else x * 256 + y
theorem unitV_fits (o x y : Int) (h0 : 0 ≤ x) (h1 : x ≤ 255) (h2 : 0 ≤ y) (h3 : y ≤ 255) : 0 ≤ unitV o x y ∧ unitV o x y ≤ 65535 := by
  unfold unitV; split <;> omega
theorem or_byte (x y : Int) (hx : 0 ≤ x) (hx' : x ≤ 255) (hy : 0 ≤ y) (hy' : y ≤ 255) : bits .or .u16 (x * 256) y = x * 256 + y := by
  rw [u16_or _ _ (by omega) (by omega) (by omega) (by omega)]
  have : (2 ^ 8 * x.toNat + y.toNat) = (2 ^ 8 * x.toNat ||| y.toNat) := Nat.two_pow_add_eq_or_of_lt (by omega) x.toNat
  have e : (x * 256).toNat = 2 ^ 8 * x.toNat := by omega
  rw [e, ← this]; omega
theorem unitOf_any (o x y : Int) (ho : o = 0 ∨ o = 1) (h0 : 0 ≤ x) (h1 : x ≤ 255) (h2 : 0 ≤ y) (h3 : y ≤ 255) (w : World) :
    Calls Try.prog 70 #[.int .u8 o, .int .u8 x, .int .u8 y] w fun e w' => e = .returned (.int .u16 (unitV o x y)) ∧ w' = w := by
  have e1 := or_byte x y h0 h1 h2 h3
  have e2 := or_byte y x h2 h3 h0 h1
  rcases ho with rfl | rfl
  all_goals
    go_enter Try.func70, Try.ntmps70
    go_wp2
    go_ret
    exact ⟨ret_int (by unfold unitV; simp), rfl⟩

/-- the units of the bytes of a text, as far as k of them -/
def rdK (o : Int) (s : ByteArray) (k : Nat) : List Int := (List.range k).map fun j => unitV o (bN s (2 * j)) (bN s (2 * j + 1))
theorem rdK_succ (o : Int) (s : ByteArray) (k : Nat) : rdK o s (k + 1) = rdK o s k ++ [unitV o (bN s (2 * k)) (bN s (2 * k + 1))] := by
  unfold rdK; rw [List.range_succ]; simp
theorem rdK_len (o : Int) (s : ByteArray) (k : Nat) : (rdK o s k).length = k := by simp [rdK]
def rdU (o : Int) (s : ByteArray) : List Int := rdK o s (s.size / 2)
theorem rdK_fits (o : Int) (s : ByteArray) (k : Nat) : Fits (rdK o s k) := by
  intro x hx
  obtain ⟨j, _, rfl⟩ := List.mem_map.1 hx
  have l0 := bN_lt s (2 * j)
  have l1 := bN_lt s (2 * j + 1)
  exact unitV_fits o _ _ (by omega) (by omega) (by omega) (by omega)
theorem rest_size (s : ByteArray) : (restR s).size ≤ s.size ∧ (s.size % 2 = 0 → (restR s).size % 2 = 0) := by
  unfold restR
  split
  · rename_i h
    have h2 : 2 ≤ s.size := by unfold markB at h; simp at h; omega
    rw [ByteArray.size_extract]; omega
  · exact ⟨Nat.le_refl _, fun h => h⟩

theorem ord_is (o : Int) (s : ByteArray) (ho : o = 0 ∨ o = 1) : ordR o s = 0 ∨ ordR o s = 1 := by
  unfold ordR
  split
  · exact .inl rfl
  · split
    · exact .inr rfl
    · exact ho

set_option maxRecDepth 100000 in
set_option maxHeartbeats 2000000 in
theorem read_any (o : Int) (s : ByteArray) (w : World) (ho : o = 0 ∨ o = 1) (hs : s.size ≤ 1099511627776) (hev : s.size % 2 = 0) :
    Calls Try.prog 46 #[.int .u8 o, .string s] w fun e w' => ∃ v, e = .returned (.tuple #[v, .int .u8 (ordR o s), .int .i64 0]) ∧ w'.ownsRow w.heap.size 22 1 v (rdU (ordR o s) (restR s)).length (u16s (rdU (ordR o s) (restR s))) ∧ Below w.heap.size w w' := by
  obtain ⟨i0, hi, hz0, hz1, hz2⟩ := info_parts infoUnit
  have hd : (decide (o = 0) || decide (o = 1)) = true := by rcases ho with rfl | rfl <;> rfl
  have hr := rest_size s
  have ho' := ord_is o s ho
  have HCM := hide (fun w => cutMark_any o s w (by unfold maxLen; omega))
  have HD := hide hd
  have hev' : ((s.size : Int) % 2 != 0) = false := by simp; omega
  have hrs : (restR s).size ≤ 1099511627776 := by omega
  have hre := hr.2 hev
  have hRDU : rdU (ordR o s) (restR s) = rdK (ordR o s) (restR s) ((restR s).size / 2) := rfl
  rw [hRDU]
  have HO := hide ho'
  clear hd hr ho' ho hRDU
  generalize ordR o s = o' at *
  generalize restR s = t at *
  obtain ⟨w1, hmk, hown0, hgr0⟩ := make_units w (t.size / 2) (by omega)
  have hB0 : Below w.heap.size w w1 := (Below.refl _ _).grown hgr0 (Nat.le_refl _) (fun k e => by cases e)
  have hsz0 := hB0.size
  have hq : ((t.size / 2 : Nat) : Int) = (t.size : Int) / 2 := by omega
  rw [hq] at hmk
  go_enter Try.func46, Try.ntmps46
  go_wp2_with (first | (go_at_call 66; refine (isOrder_any _ _).mono ?_; rintro e w' ⟨rfl, rfl⟩; rw [unhide HD]) | (go_at_call 69; refine (unhide HCM _).mono ?_; rintro e w' ⟨rfl, rfl⟩))
  go_loopw [7, 8] (fun v7 v8 wr => ∃ k : Nat, k ≤ t.size / 2 ∧ v8 = .int .i64 (2 * k : Nat) ∧ wr.ownsRow w'.heap.size 22 1 v7 k (u16s (rdK o' t k)) ∧ Below w'.heap.size w' wr) (fun _ v8 _ => t.size - (intOf v8).toNat)
  case atStart => exact ⟨0, Nat.zero_le _, rfl, by simpa [rdK] using hown0, hB0⟩
  case round =>
    clear hown0 hB0 hsz0 hgr0 hmk hq
    obtain ⟨k, hk, rfl, hrow, hB⟩ := hrel
    by_cases hlt : k < t.size / 2
    · have l0 := bN_lt t (2 * k)
      have l1 := bN_lt t (2 * k + 1)
      have hBs := hB.size
      obtain ⟨a7, c7, rfl⟩ := row_is hrow
      have HSN := hide (rdK_succ o' t k)
      have HUV := hide (fun w => unitOf_any o' (bN t (2 * k)) (bN t (2 * k + 1)) (unhide HO) (by omega) (by omega) (by omega) (by omega) w)
      have hkk : k ≤ 1099511627776 := by omega
      obtain ⟨p, hp⟩ : ∃ p, 2 * k = p := ⟨_, rfl⟩
      rw [hp] at HSN HUV l0 l1 ⊢
      have hp0 : p < t.size := by omega
      have hp1 : p + 1 < t.size := by omega
      have g0 : (t[p]'hp0).toNat = bN t p := by unfold bN; rw [get_in t p hp0]
      have g1 : (t[p + 1]'hp1).toNat = bN t (p + 1) := by unfold bN; rw [get_in t (p + 1) hp1]
      have i0' : (0 : Int) ≤ (p : Int) := by omega
      have i1' : (p : Int) < (t.size : Int) := by omega
      have i2' : (0 : Int) ≤ (p : Int) + 1 := by omega
      have i3' : (p : Int) + 1 < (t.size : Int) := by omega
      have i4' : ((p : Int) + 1).toNat = p + 1 := by omega
      have i5' : ¬ ((p : Int) + 1 < 0) := by omega
      have i6' : ¬ ((t.size : Int) ≤ (p : Int) + 1) := by omega
      have i7' : IntKind.i64.wrap ((p : Int) + 1) = (p : Int) + 1 := by rw [IntKind.wrap_i64]; omega
      have HP := hide hp
      clear hp hk hlt
      generalize hu : unitV o' (bN t p) (bN t (p + 1)) = u at *
      clear hu
      generalize bN t p = x at *
      generalize bN t (p + 1) = y at *
      go_wp2
      go_region_held3 (fun _ => True) (trivial)
        (first
          | (go_at_call 70; refine (unhide HUV _).mono ?_; rintro e w2 ⟨rfl, rfl⟩)
          | ((refine step_append_lies _ (by rfl) (.tmp 32) (.tmp 42) 31 (by rfl) w'.heap.size 22 i0 (.int .u16 0) 1 2 Try.underlying31 hi hz0 hz1 hz2 rfl (by decide) (.slice a7 k c7) k _ (by rfl) (hrow.alloc _) ⟨_, 0, none⟩ 1 1 [.int .u16 u] (by rfl) rfl (cell_one_new _ _ _) (by simp [Value.oneCell']) (by decide) (by unfold maxLen; omega) (by omega) (by simp; omega) (wr.heap.size + 1) (by simp) ?_; intro g cap w1 hown hgrow hat hlt)))
      all_goals
        have HP2 := unhide HP
        have hB1 : Below w'.heap.size w' w1 := belowGrown (hB.alloc hBs (Obj.cells #[Value.int IntKind.u16 u] 22)).drew (by show _ ≤ (wr.alloc _).heap.size; simp; omega) (show (wr.alloc (Obj.cells #[Value.int IntKind.u16 u] 22)).drew.ownsRow _ _ _ _ _ _ from hrow.alloc _) hgrow
        clear HP2
        go_wp2
        go_roundw
        case rel => exact ⟨k + 1, by have := unhide HP; omega, by have := unhide HP; congr 1; omega, by rw [unhide HSN, u16s_append]; exact hown, hB1⟩
        case measure => simp [intOf]; omega
    · obtain rfl : k = t.size / 2 := by omega
      have hlt2 : decide (((2 * (t.size / 2) : Nat) : Int) < (t.size : Int)) = false := by simp; omega
      go_wp2
      go_returns
      exact ⟨_, rfl, by rw [rdK_len]; exact hrow, hB⟩

theorem read_odd (o : Int) (s : ByteArray) (w : World) (ho : o = 0 ∨ o = 1) (hs : s.size ≤ maxLen) (hev : s.size % 2 ≠ 0) :
    Calls Try.prog 46 #[.int .u8 o, .string s] w fun e w' => e = .returned (.tuple #[.slice none 0 0, .int .u8 0, .int .i64 22]) ∧ w' = w := by
  unfold maxLen at hs
  have hd : (decide (o = 0) || decide (o = 1)) = true := by rcases ho with rfl | rfl <;> rfl
  have hev' : ((s.size : Int) % 2 != 0) = true := by simp; omega
  have HD := hide hd
  clear hd
  go_enter Try.func46, Try.ntmps46
  go_wp2_with (first | (go_at_call 66; refine (isOrder_any _ _).mono ?_; rintro e w' ⟨rfl, rfl⟩; rw [unhide HD]))
  go_returns
  exact ⟨rfl, rfl⟩
theorem read_bad (o : Int) (s : ByteArray) (w : World) (ho : ¬ (o = 0 ∨ o = 1)) :
    Calls Try.prog 46 #[.int .u8 o, .string s] w fun e w' => e = .returned (.tuple #[.slice none 0 0, .int .u8 0, .int .i64 2]) ∧ w' = w := by
  have hd : (decide (o = 0) || decide (o = 1)) = false := by simpa using ho
  have HD := hide hd
  clear hd
  go_enter Try.func46, Try.ntmps46
  go_wp2_with (first | (go_at_call 66; refine (isOrder_any _ _).mono ?_; rintro e w' ⟨rfl, rfl⟩; rw [unhide HD]))
  go_returns
  exact ⟨rfl, rfl⟩

end Go.Proofs.Ytghcheoholkpbaa
