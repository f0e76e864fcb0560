/-
  The document's answer for layer 2: Read, whole.
-/
import Derived.Test.YtghcheoholkpbaaWRefD
namespace Go.Proofs.Ytghcheoholkpbaa
open Go.RowKit Go.PlainAid Go.Lib
set_option linter.unusedVariables false

/-- a text that is another one from a byte on -/
def RestAt (s t : ByteArray) (f : Nat) : Prop := t.size + f = s.size ∧ ∀ j, j < t.size → bN t j = bN s (f + j)
theorem rest_at (s : ByteArray) : (restR s = s ∧ RestAt s (restR s) 0) ∨ (2 ≤ s.size ∧ RestAt s (restR s) 2) := by
  unfold restR
  split
  · rename_i h
    right
    have h2 : 2 ≤ s.size := by unfold markB at h; simp at h; omega
    refine ⟨h2, by rw [ByteArray.size_extract]; omega, fun j hj => ?_⟩
    have hj' : j < s.size - 2 := by rw [ByteArray.size_extract] at hj; omega
    unfold bN
    rw [get_in _ _ hj, get_in s (2 + j) (by omega)]
    simp [ByteArray.getElem_extract]
  · left
    exact ⟨rfl, rfl, fun j _ => by rw [Nat.zero_add]⟩
theorem rest_two (s : ByteArray) (h : (markB s 254 255 || markB s 255 254) = true) : RestAt s (restR s) 2 := by
  rcases rest_at s with ⟨h1, h2⟩ | h2
  · exfalso
    have h3 : 2 ≤ s.size := by unfold markB at h; simp at h; omega
    have h4 : (restR s).size = s.size - 2 := by unfold restR; rw [if_pos h, ByteArray.size_extract]; omega
    rw [h1] at h4
    omega
  · exact h2.2
theorem rest_none (s : ByteArray) (h : (markB s 254 255 || markB s 255 254) = false) : RestAt s (restR s) 0 := by
  have e : restR s = s := by unfold restR; rw [h]; rfl
  rw [e]
  exact ⟨rfl, fun j _ => by rw [Nat.zero_add]⟩

set_option maxRecDepth 100000 in
set_option maxHeartbeats 4000000 in
theorem rRead_any (o : Int) (s : ByteArray) (w : World) (ho : o = 0 ∨ o = 1) (hs : s.size ≤ 1099511627776) (hev : s.size % 2 = 0) :
    Calls Try.prog 47 #[.int .u8 o, .string s] w fun e w' => ∃ v, e = .returned (.tuple #[v, .int .u8 (ordR o s), .int .i64 0]) ∧ w'.ownsRow w.heap.size 22 1 v (rdU (ordR o s) (restR s)).length (u16s (rdU (ordR o s) (restR s))) ∧ Below w.heap.size w w' := by
  obtain ⟨i0, hi, hz0, hz1, hz2⟩ := info_parts infoUnit
  have d1 : decide (1 < o) = false := by rcases ho with rfl | rfl <;> rfl
  have HO := hide (ord_is o s ho)
  have hev' : ((s.size : Int) % 2 != 0) = false := by simp; omega
  have hRDU : rdU (ordR o s) (restR s) = rdK (ordR o s) (restR s) ((restR s).size / 2) := rfl
  rw [hRDU]
  clear hRDU
  have h6 : (decide ((2 : Int) ≤ (s.size : Int)) = false ∧ ∃ f, f = 0 ∧ RestAt s (restR s) f ∧ ordR o s = o) ∨
      (2 ≤ s.size ∧ ((bN s 0 = 254 ∧ bN s 1 = 255 ∧ ∃ f, f = 2 ∧ RestAt s (restR s) f ∧ ordR o s = 0) ∨ (bN s 0 = 254 ∧ bN s 1 ≠ 255 ∧ ∃ f, f = 0 ∧ RestAt s (restR s) f ∧ ordR o s = o) ∨ (bN s 0 = 255 ∧ bN s 1 = 254 ∧ ∃ f, f = 2 ∧ RestAt s (restR s) f ∧ ordR o s = 1) ∨ (bN s 0 = 255 ∧ bN s 1 ≠ 254 ∧ ∃ f, f = 0 ∧ RestAt s (restR s) f ∧ ordR o s = o) ∨ (bN s 0 ≠ 254 ∧ bN s 0 ≠ 255 ∧ ∃ f, f = 0 ∧ RestAt s (restR s) f ∧ ordR o s = o))) := by
    by_cases h2 : 2 ≤ s.size
    · right
      refine ⟨h2, ?_⟩
      have mk : ∀ x y, markB s x y = (decide (bN s 0 = x) && decide (bN s 1 = y)) := fun x y => by unfold markB; simp [h2]
      by_cases a0 : bN s 0 = 254
      · by_cases a1 : bN s 1 = 255
        · have m1 : markB s 254 255 = true := by rw [mk]; simp [a0, a1]
          exact .inl ⟨a0, a1, 2, rfl, rest_two s (by rw [m1]; rfl), by unfold ordR; rw [m1]; rfl⟩
        · have m1 : markB s 254 255 = false := by rw [mk]; simp [a1]
          have m2 : markB s 255 254 = false := by rw [mk]; simp [a0]
          exact .inr (.inl ⟨a0, a1, 0, rfl, rest_none s (by rw [m1, m2]; rfl), by unfold ordR; rw [m1, m2]; rfl⟩)
      · have m1 : markB s 254 255 = false := by rw [mk]; simp [a0]
        by_cases b0 : bN s 0 = 255
        · by_cases b1 : bN s 1 = 254
          · have m2 : markB s 255 254 = true := by rw [mk]; simp [b0, b1]
            exact .inr (.inr (.inl ⟨b0, b1, 2, rfl, rest_two s (by rw [m1, m2]; rfl), by unfold ordR; rw [m1, m2]; rfl⟩))
          · have m2 : markB s 255 254 = false := by rw [mk]; simp [b1]
            exact .inr (.inr (.inr (.inl ⟨b0, b1, 0, rfl, rest_none s (by rw [m1, m2]; rfl), by unfold ordR; rw [m1, m2]; rfl⟩)))
        · have m2 : markB s 255 254 = false := by rw [mk]; simp [b0]
          exact .inr (.inr (.inr (.inr ⟨a0, b0, 0, rfl, rest_none s (by rw [m1, m2]; rfl), by unfold ordR; rw [m1, m2]; rfl⟩)))
    · left
      have m1 : markB s 254 255 = false := by unfold markB; simp [h2]
      have m2 : markB s 255 254 = false := by unfold markB; simp [h2]
      exact ⟨by simp; omega, 0, rfl, rest_none s (by rw [m1, m2]; rfl), by unfold ordR; rw [m1, m2]; rfl⟩
  rcases h6 with ⟨dz, f, hf, hra, hor⟩ | ⟨h2, h6⟩
  · rw [hor] at HO ⊢
    have HRA := hide hra
    have HF := hide hf
    have HEV : Hid ((s.size - f) % 2 = 0 ∧ f ≤ 2) := hide (by omega)
    clear hra hor hf hev
    generalize restR s = t at *
    go_enter Try.func47, Try.ntmps47
    go_wp2
    go_loopw [8, 9, 10, 11] (fun v8 v9 v10 v11 wr => ∃ k : Nat, k ≤ t.size / 2 ∧ v9 = .int .i64 (f + 2 * k : Nat) ∧ wr.ownsRow w.heap.size 22 1 v8 k (u16s (rdK o t k)) ∧ Below w.heap.size w wr) (fun _ v9 _ _ _ => s.size - (intOf v9).toNat)
    case atStart => exact ⟨0, Nat.zero_le _, by rw [unhide HF]; rfl, by simpa [rdK] using World.ownsRow_nil _ _ _ _, Below.refl _ _⟩
    case round =>
      obtain ⟨k, hk, rfl, hrow, hB⟩ := hrel
      have hfs := (unhide HRA).1
      have hff := unhide HF
      by_cases hlt : k < t.size / 2
      · have l0 := bN_lt t (2 * k)
        have l1 := bN_lt t (2 * k + 1)
        have hBs := hB.size
        obtain ⟨a7, c7, rfl⟩ := row_is hrow
        have HSN := hide (rdK_succ o t k)
        have hkk : k ≤ 1099511627776 := by omega
        have ht0 := (unhide HRA).2 (2 * k) (by omega)
        have ht1 := (unhide HRA).2 (2 * k + 1) (by omega)
        obtain ⟨p, hp⟩ : ∃ p, f + 2 * k = p := ⟨_, rfl⟩
        have hp0 : p < s.size := by omega
        have hp1 : p + 1 < s.size := by omega
        have e0 : (s[p]'hp0).toNat = bN t (2 * k) := by rw [ht0, hp]; unfold bN; rw [get_in s p hp0]
        have e1 : (s[p + 1]'hp1).toNat = bN t (2 * k + 1) := by rw [ht1, ← Nat.add_assoc, hp]; unfold bN; rw [get_in s (p + 1) hp1]
        have hux := unitV_fits o (bN t (2 * k)) (bN t (2 * k + 1)) (by omega) (by omega) (by omega) (by omega)
        have i0' : (0 : Int) ≤ (p : Int) := by omega
        have i1' : (p : Int) < (s.size : Int) := by omega
        have i2' : (0 : Int) ≤ (p : Int) + 1 := by omega
        have i3' : (p : Int) + 1 < (s.size : Int) := by omega
        have i4' : ((p : Int) + 1).toNat = p + 1 := by omega
        rw [hp]
        have HP := hide hp
        clear hp hk hlt ht0 ht1
        generalize bN t (2 * k) = x at *
        generalize bN t (2 * k + 1) = y at *
        have hu0 : o = 0 → unitV o (x : Nat) (y : Nat) = 256 * (x : Int) + y := by intro h; unfold unitV; rw [h]; simp; omega
        have hu1 : o = 1 → unitV o (x : Nat) (y : Nat) = 256 * (y : Int) + x := by intro h; unfold unitV; rw [h]; simp; omega
        rcases unhide HO with ho' | ho'
        · have hu := hu0 ho'
          rw [hu] at HSN hux
          obtain ⟨hux1, hux2⟩ := hux
          have qo : ((o : Int) == 1) = false := by rw [ho']; rfl
          have HRW := hide (fun nq => rowBelow hrow (below_drewN (Below.refl _ wr) nq))
          have HBW := hide (fun nq => below_drewN hB nq)
          clear hu0 hu1 hu ho' hrow hB
          go_wp2
          go_quiet (fail)
          have hrow2 := unhide HRW nq
          have hB2 := unhide HBW nq
          have hBs2 := hB2.size
          clear HRW HBW
          generalize wr.drewN nq = W2 at *
          go_wp2_with (at_builtin; refine wpList_append_own_at _ rfl _ _ 31 rfl w.heap.size 22 i0 (.int .u16 0) 1 2 Try.underlying31 hi hz0 hz1 hz2 rfl (by decide) _ _ _ rfl (hrow2.alloc _) ⟨_, 0, none⟩ 1 1 [.int .u16 (256 * (x : Int) + y)] rfl rfl (cell_one_new _ _ _) (by simp [Value.oneCell']) (by unfold maxLen; omega) (by omega) (by simp; omega) ?_; intro v' w4 hown hgrow _ _)
          have hB4 := belowGrown (hB2.alloc hBs2 _) (by simp; omega) (hrow2.alloc _) hgrow
          go_roundw
          case rel => exact ⟨k + 1, by have := unhide HP; omega, by have := unhide HP; congr 1; omega, by rw [unhide HSN, u16s_append]; exact hown, hB4⟩
          case measure => simp [intOf]; omega
        · have hu := hu1 ho'
          rw [hu] at HSN hux
          obtain ⟨hux1, hux2⟩ := hux
          have qo : ((o : Int) == 1) = true := by rw [ho']; rfl
          have HRW := hide (fun nq => rowBelow hrow (below_drewN (Below.refl _ wr) nq))
          have HBW := hide (fun nq => below_drewN hB nq)
          clear hu0 hu1 hu ho' hrow hB
          go_wp2
          go_quiet (fail)
          have hrow2 := unhide HRW nq
          have hB2 := unhide HBW nq
          have hBs2 := hB2.size
          clear HRW HBW
          generalize wr.drewN nq = W2 at *
          go_wp2_with (at_builtin; refine wpList_append_own_at _ rfl _ _ 31 rfl w.heap.size 22 i0 (.int .u16 0) 1 2 Try.underlying31 hi hz0 hz1 hz2 rfl (by decide) _ _ _ rfl (hrow2.alloc _) ⟨_, 0, none⟩ 1 1 [.int .u16 (256 * (y : Int) + x)] rfl rfl (cell_one_new _ _ _) (by simp [Value.oneCell']) (by unfold maxLen; omega) (by omega) (by simp; omega) ?_; intro v' w4 hown hgrow _ _)
          have hB4 := belowGrown (hB2.alloc hBs2 _) (by simp; omega) (hrow2.alloc _) hgrow
          go_roundw
          case rel => exact ⟨k + 1, by have := unhide HP; omega, by have := unhide HP; congr 1; omega, by rw [unhide HSN, u16s_append]; exact hown, hB4⟩
          case measure => simp [intOf]; omega
      · have hke : k = t.size / 2 := by omega
        have hpe : f + 2 * k = s.size := by have := unhide HEV; omega
        rw [hpe]
        have HKE := hide hke
        clear hke hpe hk hlt
        go_wp2
        go_returns
        exact ⟨_, rfl, by rw [rdK_len, ← unhide HKE]; exact hrow, hB⟩
  · have hp0 : 0 < s.size := by omega
    have hp1 : 1 < s.size := by omega
    have g0 : (s[0]'hp0).toNat = bN s 0 := by unfold bN; rw [get_in s 0 hp0]
    have g1 : (s[1]'hp1).toNat = bN s 1 := by unfold bN; rw [get_in s 1 hp1]
    have dz : decide ((2 : Int) ≤ (s.size : Int)) = true := by simp; omega
    have k0 : (0 : Int) < (s.size : Int) := by omega
    have k1 : (1 : Int) < (s.size : Int) := by omega
    have e0 : (((bN s 0 : Nat) : Int) == 254) = decide (bN s 0 = 254) := by rw [Bool.eq_iff_iff]; simp; omega
    have e1 : (((bN s 1 : Nat) : Int) == 255) = decide (bN s 1 = 255) := by rw [Bool.eq_iff_iff]; simp; omega
    have e2 : (((bN s 0 : Nat) : Int) == 255) = decide (bN s 0 = 255) := by rw [Bool.eq_iff_iff]; simp; omega
    have e3 : (((bN s 1 : Nat) : Int) == 254) = decide (bN s 1 = 254) := by rw [Bool.eq_iff_iff]; simp; omega
    rcases h6 with ⟨a0, a1, f, hf, hra, hor⟩ | ⟨a0, a1, f, hf, hra, hor⟩ | ⟨a0, a1, f, hf, hra, hor⟩ | ⟨a0, a1, f, hf, hra, hor⟩ | ⟨a0, a1, f, hf, hra, hor⟩
    · rw [decide_eq_true a0] at e0
      rw [decide_eq_true a1] at e1
      clear a0 a1
      rw [hor] at HO ⊢
      have HRA := hide hra
      have HF := hide hf
      have HEV : Hid ((s.size - f) % 2 = 0 ∧ f ≤ 2) := hide (by omega)
      clear hra hor hf hev
      generalize restR s = t at *
      go_enter Try.func47, Try.ntmps47
      go_wp2
      go_loopw [8, 9, 10, 11] (fun v8 v9 v10 v11 wr => ∃ k : Nat, k ≤ t.size / 2 ∧ v9 = .int .i64 (f + 2 * k : Nat) ∧ wr.ownsRow w.heap.size 22 1 v8 k (u16s (rdK 0 t k)) ∧ Below w.heap.size w wr) (fun _ v9 _ _ _ => s.size - (intOf v9).toNat)
      case atStart => exact ⟨0, Nat.zero_le _, by rw [unhide HF]; rfl, by simpa [rdK] using World.ownsRow_nil _ _ _ _, Below.refl _ _⟩
      case round =>
        obtain ⟨k, hk, rfl, hrow, hB⟩ := hrel
        have hfs := (unhide HRA).1
        have hff := unhide HF
        by_cases hlt : k < t.size / 2
        · have l0 := bN_lt t (2 * k)
          have l1 := bN_lt t (2 * k + 1)
          have hBs := hB.size
          obtain ⟨a7, c7, rfl⟩ := row_is hrow
          have HSN := hide (rdK_succ 0 t k)
          have hkk : k ≤ 1099511627776 := by omega
          have ht0 := (unhide HRA).2 (2 * k) (by omega)
          have ht1 := (unhide HRA).2 (2 * k + 1) (by omega)
          obtain ⟨p, hp⟩ : ∃ p, f + 2 * k = p := ⟨_, rfl⟩
          have hp0 : p < s.size := by omega
          have hp1 : p + 1 < s.size := by omega
          have e0 : (s[p]'hp0).toNat = bN t (2 * k) := by rw [ht0, hp]; unfold bN; rw [get_in s p hp0]
          have e1 : (s[p + 1]'hp1).toNat = bN t (2 * k + 1) := by rw [ht1, ← Nat.add_assoc, hp]; unfold bN; rw [get_in s (p + 1) hp1]
          have hux := unitV_fits 0 (bN t (2 * k)) (bN t (2 * k + 1)) (by omega) (by omega) (by omega) (by omega)
          have i0' : (0 : Int) ≤ (p : Int) := by omega
          have i1' : (p : Int) < (s.size : Int) := by omega
          have i2' : (0 : Int) ≤ (p : Int) + 1 := by omega
          have i3' : (p : Int) + 1 < (s.size : Int) := by omega
          have i4' : ((p : Int) + 1).toNat = p + 1 := by omega
          rw [hp]
          have HP := hide hp
          clear hp hk hlt ht0 ht1
          generalize bN t (2 * k) = x at *
          generalize bN t (2 * k + 1) = y at *
          have hu : unitV 0 (x : Nat) (y : Nat) = 256 * (x : Int) + y := by unfold unitV; simp; omega
          rw [hu] at HSN hux
          obtain ⟨hux1, hux2⟩ := hux
          have qo : ((0 : Int) == 1) = false := rfl
          have HRW := hide (fun nq => rowBelow hrow (below_drewN (Below.refl _ wr) nq))
          have HBW := hide (fun nq => below_drewN hB nq)
          clear hu hrow hB
          go_wp2
          go_quiet (fail)
          have hrow2 := unhide HRW nq
          have hB2 := unhide HBW nq
          have hBs2 := hB2.size
          clear HRW HBW
          generalize wr.drewN nq = W2 at *
          go_wp2_with (at_builtin; refine wpList_append_own_at _ rfl _ _ 31 rfl w.heap.size 22 i0 (.int .u16 0) 1 2 Try.underlying31 hi hz0 hz1 hz2 rfl (by decide) _ _ _ rfl (hrow2.alloc _) ⟨_, 0, none⟩ 1 1 [.int .u16 (256 * (x : Int) + y)] rfl rfl (cell_one_new _ _ _) (by simp [Value.oneCell']) (by unfold maxLen; omega) (by omega) (by simp; omega) ?_; intro v' w4 hown hgrow _ _)
          have hB4 := belowGrown (hB2.alloc hBs2 _) (by simp; omega) (hrow2.alloc _) hgrow
          go_roundw
          case rel => exact ⟨k + 1, by have := unhide HP; omega, by have := unhide HP; congr 1; omega, by rw [unhide HSN, u16s_append]; exact hown, hB4⟩
          case measure => simp [intOf]; omega
        · have hke : k = t.size / 2 := by omega
          have hpe : f + 2 * k = s.size := by have := unhide HEV; omega
          rw [hpe]
          have HKE := hide hke
          clear hke hpe hk hlt
          go_wp2
          go_returns
          exact ⟨_, rfl, by rw [rdK_len, ← unhide HKE]; exact hrow, hB⟩
    · rw [decide_eq_true a0] at e0
      rw [decide_eq_false a1] at e1
      rw [decide_eq_false (by omega)] at e2
      clear a0 a1
      rw [hor] at HO ⊢
      have HRA := hide hra
      have HF := hide hf
      have HEV : Hid ((s.size - f) % 2 = 0 ∧ f ≤ 2) := hide (by omega)
      clear hra hor hf hev
      generalize restR s = t at *
      go_enter Try.func47, Try.ntmps47
      go_wp2
      go_loopw [8, 9, 10, 11] (fun v8 v9 v10 v11 wr => ∃ k : Nat, k ≤ t.size / 2 ∧ v9 = .int .i64 (f + 2 * k : Nat) ∧ wr.ownsRow w.heap.size 22 1 v8 k (u16s (rdK o t k)) ∧ Below w.heap.size w wr) (fun _ v9 _ _ _ => s.size - (intOf v9).toNat)
      case atStart => exact ⟨0, Nat.zero_le _, by rw [unhide HF]; rfl, by simpa [rdK] using World.ownsRow_nil _ _ _ _, Below.refl _ _⟩
      case round =>
        obtain ⟨k, hk, rfl, hrow, hB⟩ := hrel
        have hfs := (unhide HRA).1
        have hff := unhide HF
        by_cases hlt : k < t.size / 2
        · have l0 := bN_lt t (2 * k)
          have l1 := bN_lt t (2 * k + 1)
          have hBs := hB.size
          obtain ⟨a7, c7, rfl⟩ := row_is hrow
          have HSN := hide (rdK_succ o t k)
          have hkk : k ≤ 1099511627776 := by omega
          have ht0 := (unhide HRA).2 (2 * k) (by omega)
          have ht1 := (unhide HRA).2 (2 * k + 1) (by omega)
          obtain ⟨p, hp⟩ : ∃ p, f + 2 * k = p := ⟨_, rfl⟩
          have hp0 : p < s.size := by omega
          have hp1 : p + 1 < s.size := by omega
          have e0 : (s[p]'hp0).toNat = bN t (2 * k) := by rw [ht0, hp]; unfold bN; rw [get_in s p hp0]
          have e1 : (s[p + 1]'hp1).toNat = bN t (2 * k + 1) := by rw [ht1, ← Nat.add_assoc, hp]; unfold bN; rw [get_in s (p + 1) hp1]
          have hux := unitV_fits o (bN t (2 * k)) (bN t (2 * k + 1)) (by omega) (by omega) (by omega) (by omega)
          have i0' : (0 : Int) ≤ (p : Int) := by omega
          have i1' : (p : Int) < (s.size : Int) := by omega
          have i2' : (0 : Int) ≤ (p : Int) + 1 := by omega
          have i3' : (p : Int) + 1 < (s.size : Int) := by omega
          have i4' : ((p : Int) + 1).toNat = p + 1 := by omega
          rw [hp]
          have HP := hide hp
          clear hp hk hlt ht0 ht1
          generalize bN t (2 * k) = x at *
          generalize bN t (2 * k + 1) = y at *
          have hu0 : o = 0 → unitV o (x : Nat) (y : Nat) = 256 * (x : Int) + y := by intro h; unfold unitV; rw [h]; simp; omega
          have hu1 : o = 1 → unitV o (x : Nat) (y : Nat) = 256 * (y : Int) + x := by intro h; unfold unitV; rw [h]; simp; omega
          rcases unhide HO with ho' | ho'
          · have hu := hu0 ho'
            rw [hu] at HSN hux
            obtain ⟨hux1, hux2⟩ := hux
            have qo : ((o : Int) == 1) = false := by rw [ho']; rfl
            have HRW := hide (fun nq => rowBelow hrow (below_drewN (Below.refl _ wr) nq))
            have HBW := hide (fun nq => below_drewN hB nq)
            clear hu0 hu1 hu ho' hrow hB
            go_wp2
            go_quiet (fail)
            have hrow2 := unhide HRW nq
            have hB2 := unhide HBW nq
            have hBs2 := hB2.size
            clear HRW HBW
            generalize wr.drewN nq = W2 at *
            go_wp2_with (at_builtin; refine wpList_append_own_at _ rfl _ _ 31 rfl w.heap.size 22 i0 (.int .u16 0) 1 2 Try.underlying31 hi hz0 hz1 hz2 rfl (by decide) _ _ _ rfl (hrow2.alloc _) ⟨_, 0, none⟩ 1 1 [.int .u16 (256 * (x : Int) + y)] rfl rfl (cell_one_new _ _ _) (by simp [Value.oneCell']) (by unfold maxLen; omega) (by omega) (by simp; omega) ?_; intro v' w4 hown hgrow _ _)
            have hB4 := belowGrown (hB2.alloc hBs2 _) (by simp; omega) (hrow2.alloc _) hgrow
            go_roundw
            case rel => exact ⟨k + 1, by have := unhide HP; omega, by have := unhide HP; congr 1; omega, by rw [unhide HSN, u16s_append]; exact hown, hB4⟩
            case measure => simp [intOf]; omega
          · have hu := hu1 ho'
            rw [hu] at HSN hux
            obtain ⟨hux1, hux2⟩ := hux
            have qo : ((o : Int) == 1) = true := by rw [ho']; rfl
            have HRW := hide (fun nq => rowBelow hrow (below_drewN (Below.refl _ wr) nq))
            have HBW := hide (fun nq => below_drewN hB nq)
            clear hu0 hu1 hu ho' hrow hB
            go_wp2
            go_quiet (fail)
            have hrow2 := unhide HRW nq
            have hB2 := unhide HBW nq
            have hBs2 := hB2.size
            clear HRW HBW
            generalize wr.drewN nq = W2 at *
            go_wp2_with (at_builtin; refine wpList_append_own_at _ rfl _ _ 31 rfl w.heap.size 22 i0 (.int .u16 0) 1 2 Try.underlying31 hi hz0 hz1 hz2 rfl (by decide) _ _ _ rfl (hrow2.alloc _) ⟨_, 0, none⟩ 1 1 [.int .u16 (256 * (y : Int) + x)] rfl rfl (cell_one_new _ _ _) (by simp [Value.oneCell']) (by unfold maxLen; omega) (by omega) (by simp; omega) ?_; intro v' w4 hown hgrow _ _)
            have hB4 := belowGrown (hB2.alloc hBs2 _) (by simp; omega) (hrow2.alloc _) hgrow
            go_roundw
            case rel => exact ⟨k + 1, by have := unhide HP; omega, by have := unhide HP; congr 1; omega, by rw [unhide HSN, u16s_append]; exact hown, hB4⟩
            case measure => simp [intOf]; omega
        · have hke : k = t.size / 2 := by omega
          have hpe : f + 2 * k = s.size := by have := unhide HEV; omega
          rw [hpe]
          have HKE := hide hke
          clear hke hpe hk hlt
          go_wp2
          go_returns
          exact ⟨_, rfl, by rw [rdK_len, ← unhide HKE]; exact hrow, hB⟩
    · rw [decide_eq_true a0] at e2
      rw [decide_eq_false (by omega)] at e0
      rw [decide_eq_true a1] at e3
      clear a0 a1
      rw [hor] at HO ⊢
      have HRA := hide hra
      have HF := hide hf
      have HEV : Hid ((s.size - f) % 2 = 0 ∧ f ≤ 2) := hide (by omega)
      clear hra hor hf hev
      generalize restR s = t at *
      go_enter Try.func47, Try.ntmps47
      go_wp2
      go_loopw [8, 9, 10, 11] (fun v8 v9 v10 v11 wr => ∃ k : Nat, k ≤ t.size / 2 ∧ v9 = .int .i64 (f + 2 * k : Nat) ∧ wr.ownsRow w.heap.size 22 1 v8 k (u16s (rdK 1 t k)) ∧ Below w.heap.size w wr) (fun _ v9 _ _ _ => s.size - (intOf v9).toNat)
      case atStart => exact ⟨0, Nat.zero_le _, by rw [unhide HF]; rfl, by simpa [rdK] using World.ownsRow_nil _ _ _ _, Below.refl _ _⟩
      case round =>
        obtain ⟨k, hk, rfl, hrow, hB⟩ := hrel
        have hfs := (unhide HRA).1
        have hff := unhide HF
        by_cases hlt : k < t.size / 2
        · have l0 := bN_lt t (2 * k)
          have l1 := bN_lt t (2 * k + 1)
          have hBs := hB.size
          obtain ⟨a7, c7, rfl⟩ := row_is hrow
          have HSN := hide (rdK_succ 1 t k)
          have hkk : k ≤ 1099511627776 := by omega
          have ht0 := (unhide HRA).2 (2 * k) (by omega)
          have ht1 := (unhide HRA).2 (2 * k + 1) (by omega)
          obtain ⟨p, hp⟩ : ∃ p, f + 2 * k = p := ⟨_, rfl⟩
          have hp0 : p < s.size := by omega
          have hp1 : p + 1 < s.size := by omega
          have e0 : (s[p]'hp0).toNat = bN t (2 * k) := by rw [ht0, hp]; unfold bN; rw [get_in s p hp0]
          have e1 : (s[p + 1]'hp1).toNat = bN t (2 * k + 1) := by rw [ht1, ← Nat.add_assoc, hp]; unfold bN; rw [get_in s (p + 1) hp1]
          have hux := unitV_fits 1 (bN t (2 * k)) (bN t (2 * k + 1)) (by omega) (by omega) (by omega) (by omega)
          have i0' : (0 : Int) ≤ (p : Int) := by omega
          have i1' : (p : Int) < (s.size : Int) := by omega
          have i2' : (0 : Int) ≤ (p : Int) + 1 := by omega
          have i3' : (p : Int) + 1 < (s.size : Int) := by omega
          have i4' : ((p : Int) + 1).toNat = p + 1 := by omega
          rw [hp]
          have HP := hide hp
          clear hp hk hlt ht0 ht1
          generalize bN t (2 * k) = x at *
          generalize bN t (2 * k + 1) = y at *
          have hu : unitV 1 (x : Nat) (y : Nat) = 256 * (y : Int) + x := by unfold unitV; simp; omega
          rw [hu] at HSN hux
          obtain ⟨hux1, hux2⟩ := hux
          have qo : ((1 : Int) == 1) = true := rfl
          have HRW := hide (fun nq => rowBelow hrow (below_drewN (Below.refl _ wr) nq))
          have HBW := hide (fun nq => below_drewN hB nq)
          clear hu hrow hB
          go_wp2
          go_quiet (fail)
          have hrow2 := unhide HRW nq
          have hB2 := unhide HBW nq
          have hBs2 := hB2.size
          clear HRW HBW
          generalize wr.drewN nq = W2 at *
          go_wp2_with (at_builtin; refine wpList_append_own_at _ rfl _ _ 31 rfl w.heap.size 22 i0 (.int .u16 0) 1 2 Try.underlying31 hi hz0 hz1 hz2 rfl (by decide) _ _ _ rfl (hrow2.alloc _) ⟨_, 0, none⟩ 1 1 [.int .u16 (256 * (y : Int) + x)] rfl rfl (cell_one_new _ _ _) (by simp [Value.oneCell']) (by unfold maxLen; omega) (by omega) (by simp; omega) ?_; intro v' w4 hown hgrow _ _)
          have hB4 := belowGrown (hB2.alloc hBs2 _) (by simp; omega) (hrow2.alloc _) hgrow
          go_roundw
          case rel => exact ⟨k + 1, by have := unhide HP; omega, by have := unhide HP; congr 1; omega, by rw [unhide HSN, u16s_append]; exact hown, hB4⟩
          case measure => simp [intOf]; omega
        · have hke : k = t.size / 2 := by omega
          have hpe : f + 2 * k = s.size := by have := unhide HEV; omega
          rw [hpe]
          have HKE := hide hke
          clear hke hpe hk hlt
          go_wp2
          go_returns
          exact ⟨_, rfl, by rw [rdK_len, ← unhide HKE]; exact hrow, hB⟩
    · rw [decide_eq_true a0] at e2
      rw [decide_eq_false (by omega)] at e0
      rw [decide_eq_false a1] at e3
      clear a0 a1
      rw [hor] at HO ⊢
      have HRA := hide hra
      have HF := hide hf
      have HEV : Hid ((s.size - f) % 2 = 0 ∧ f ≤ 2) := hide (by omega)
      clear hra hor hf hev
      generalize restR s = t at *
      go_enter Try.func47, Try.ntmps47
      go_wp2
      go_loopw [8, 9, 10, 11] (fun v8 v9 v10 v11 wr => ∃ k : Nat, k ≤ t.size / 2 ∧ v9 = .int .i64 (f + 2 * k : Nat) ∧ wr.ownsRow w.heap.size 22 1 v8 k (u16s (rdK o t k)) ∧ Below w.heap.size w wr) (fun _ v9 _ _ _ => s.size - (intOf v9).toNat)
      case atStart => exact ⟨0, Nat.zero_le _, by rw [unhide HF]; rfl, by simpa [rdK] using World.ownsRow_nil _ _ _ _, Below.refl _ _⟩
      case round =>
        obtain ⟨k, hk, rfl, hrow, hB⟩ := hrel
        have hfs := (unhide HRA).1
        have hff := unhide HF
        by_cases hlt : k < t.size / 2
        · have l0 := bN_lt t (2 * k)
          have l1 := bN_lt t (2 * k + 1)
          have hBs := hB.size
          obtain ⟨a7, c7, rfl⟩ := row_is hrow
          have HSN := hide (rdK_succ o t k)
          have hkk : k ≤ 1099511627776 := by omega
          have ht0 := (unhide HRA).2 (2 * k) (by omega)
          have ht1 := (unhide HRA).2 (2 * k + 1) (by omega)
          obtain ⟨p, hp⟩ : ∃ p, f + 2 * k = p := ⟨_, rfl⟩
          have hp0 : p < s.size := by omega
          have hp1 : p + 1 < s.size := by omega
          have e0 : (s[p]'hp0).toNat = bN t (2 * k) := by rw [ht0, hp]; unfold bN; rw [get_in s p hp0]
          have e1 : (s[p + 1]'hp1).toNat = bN t (2 * k + 1) := by rw [ht1, ← Nat.add_assoc, hp]; unfold bN; rw [get_in s (p + 1) hp1]
          have hux := unitV_fits o (bN t (2 * k)) (bN t (2 * k + 1)) (by omega) (by omega) (by omega) (by omega)
          have i0' : (0 : Int) ≤ (p : Int) := by omega
          have i1' : (p : Int) < (s.size : Int) := by omega
          have i2' : (0 : Int) ≤ (p : Int) + 1 := by omega
          have i3' : (p : Int) + 1 < (s.size : Int) := by omega
          have i4' : ((p : Int) + 1).toNat = p + 1 := by omega
          rw [hp]
          have HP := hide hp
          clear hp hk hlt ht0 ht1
          generalize bN t (2 * k) = x at *
          generalize bN t (2 * k + 1) = y at *
          have hu0 : o = 0 → unitV o (x : Nat) (y : Nat) = 256 * (x : Int) + y := by intro h; unfold unitV; rw [h]; simp; omega
          have hu1 : o = 1 → unitV o (x : Nat) (y : Nat) = 256 * (y : Int) + x := by intro h; unfold unitV; rw [h]; simp; omega
          rcases unhide HO with ho' | ho'
          · have hu := hu0 ho'
            rw [hu] at HSN hux
            obtain ⟨hux1, hux2⟩ := hux
            have qo : ((o : Int) == 1) = false := by rw [ho']; rfl
            have HRW := hide (fun nq => rowBelow hrow (below_drewN (Below.refl _ wr) nq))
            have HBW := hide (fun nq => below_drewN hB nq)
            clear hu0 hu1 hu ho' hrow hB
            go_wp2
            go_quiet (fail)
            have hrow2 := unhide HRW nq
            have hB2 := unhide HBW nq
            have hBs2 := hB2.size
            clear HRW HBW
            generalize wr.drewN nq = W2 at *
            go_wp2_with (at_builtin; refine wpList_append_own_at _ rfl _ _ 31 rfl w.heap.size 22 i0 (.int .u16 0) 1 2 Try.underlying31 hi hz0 hz1 hz2 rfl (by decide) _ _ _ rfl (hrow2.alloc _) ⟨_, 0, none⟩ 1 1 [.int .u16 (256 * (x : Int) + y)] rfl rfl (cell_one_new _ _ _) (by simp [Value.oneCell']) (by unfold maxLen; omega) (by omega) (by simp; omega) ?_; intro v' w4 hown hgrow _ _)
            have hB4 := belowGrown (hB2.alloc hBs2 _) (by simp; omega) (hrow2.alloc _) hgrow
            go_roundw
            case rel => exact ⟨k + 1, by have := unhide HP; omega, by have := unhide HP; congr 1; omega, by rw [unhide HSN, u16s_append]; exact hown, hB4⟩
            case measure => simp [intOf]; omega
          · have hu := hu1 ho'
            rw [hu] at HSN hux
            obtain ⟨hux1, hux2⟩ := hux
            have qo : ((o : Int) == 1) = true := by rw [ho']; rfl
            have HRW := hide (fun nq => rowBelow hrow (below_drewN (Below.refl _ wr) nq))
            have HBW := hide (fun nq => below_drewN hB nq)
            clear hu0 hu1 hu ho' hrow hB
            go_wp2
            go_quiet (fail)
            have hrow2 := unhide HRW nq
            have hB2 := unhide HBW nq
            have hBs2 := hB2.size
            clear HRW HBW
            generalize wr.drewN nq = W2 at *
            go_wp2_with (at_builtin; refine wpList_append_own_at _ rfl _ _ 31 rfl w.heap.size 22 i0 (.int .u16 0) 1 2 Try.underlying31 hi hz0 hz1 hz2 rfl (by decide) _ _ _ rfl (hrow2.alloc _) ⟨_, 0, none⟩ 1 1 [.int .u16 (256 * (y : Int) + x)] rfl rfl (cell_one_new _ _ _) (by simp [Value.oneCell']) (by unfold maxLen; omega) (by omega) (by simp; omega) ?_; intro v' w4 hown hgrow _ _)
            have hB4 := belowGrown (hB2.alloc hBs2 _) (by simp; omega) (hrow2.alloc _) hgrow
            go_roundw
            case rel => exact ⟨k + 1, by have := unhide HP; omega, by have := unhide HP; congr 1; omega, by rw [unhide HSN, u16s_append]; exact hown, hB4⟩
            case measure => simp [intOf]; omega
        · have hke : k = t.size / 2 := by omega
          have hpe : f + 2 * k = s.size := by have := unhide HEV; omega
          rw [hpe]
          have HKE := hide hke
          clear hke hpe hk hlt
          go_wp2
          go_returns
          exact ⟨_, rfl, by rw [rdK_len, ← unhide HKE]; exact hrow, hB⟩
    · rw [decide_eq_false a0] at e0
      rw [decide_eq_false a1] at e2
      clear a0 a1
      rw [hor] at HO ⊢
      have HRA := hide hra
      have HF := hide hf
      have HEV : Hid ((s.size - f) % 2 = 0 ∧ f ≤ 2) := hide (by omega)
      clear hra hor hf hev
      generalize restR s = t at *
      go_enter Try.func47, Try.ntmps47
      go_wp2
      go_loopw [8, 9, 10, 11] (fun v8 v9 v10 v11 wr => ∃ k : Nat, k ≤ t.size / 2 ∧ v9 = .int .i64 (f + 2 * k : Nat) ∧ wr.ownsRow w.heap.size 22 1 v8 k (u16s (rdK o t k)) ∧ Below w.heap.size w wr) (fun _ v9 _ _ _ => s.size - (intOf v9).toNat)
      case atStart => exact ⟨0, Nat.zero_le _, by rw [unhide HF]; rfl, by simpa [rdK] using World.ownsRow_nil _ _ _ _, Below.refl _ _⟩
      case round =>
        obtain ⟨k, hk, rfl, hrow, hB⟩ := hrel
        have hfs := (unhide HRA).1
        have hff := unhide HF
        by_cases hlt : k < t.size / 2
        · have l0 := bN_lt t (2 * k)
          have l1 := bN_lt t (2 * k + 1)
          have hBs := hB.size
          obtain ⟨a7, c7, rfl⟩ := row_is hrow
          have HSN := hide (rdK_succ o t k)
          have hkk : k ≤ 1099511627776 := by omega
          have ht0 := (unhide HRA).2 (2 * k) (by omega)
          have ht1 := (unhide HRA).2 (2 * k + 1) (by omega)
          obtain ⟨p, hp⟩ : ∃ p, f + 2 * k = p := ⟨_, rfl⟩
          have hp0 : p < s.size := by omega
          have hp1 : p + 1 < s.size := by omega
          have e0 : (s[p]'hp0).toNat = bN t (2 * k) := by rw [ht0, hp]; unfold bN; rw [get_in s p hp0]
          have e1 : (s[p + 1]'hp1).toNat = bN t (2 * k + 1) := by rw [ht1, ← Nat.add_assoc, hp]; unfold bN; rw [get_in s (p + 1) hp1]
          have hux := unitV_fits o (bN t (2 * k)) (bN t (2 * k + 1)) (by omega) (by omega) (by omega) (by omega)
          have i0' : (0 : Int) ≤ (p : Int) := by omega
          have i1' : (p : Int) < (s.size : Int) := by omega
          have i2' : (0 : Int) ≤ (p : Int) + 1 := by omega
          have i3' : (p : Int) + 1 < (s.size : Int) := by omega
          have i4' : ((p : Int) + 1).toNat = p + 1 := by omega
          rw [hp]
          have HP := hide hp
          clear hp hk hlt ht0 ht1
          generalize bN t (2 * k) = x at *
          generalize bN t (2 * k + 1) = y at *
          have hu0 : o = 0 → unitV o (x : Nat) (y : Nat) = 256 * (x : Int) + y := by intro h; unfold unitV; rw [h]; simp; omega
          have hu1 : o = 1 → unitV o (x : Nat) (y : Nat) = 256 * (y : Int) + x := by intro h; unfold unitV; rw [h]; simp; omega
          rcases unhide HO with ho' | ho'
          · have hu := hu0 ho'
            rw [hu] at HSN hux
            obtain ⟨hux1, hux2⟩ := hux
            have qo : ((o : Int) == 1) = false := by rw [ho']; rfl
            have HRW := hide (fun nq => rowBelow hrow (below_drewN (Below.refl _ wr) nq))
            have HBW := hide (fun nq => below_drewN hB nq)
            clear hu0 hu1 hu ho' hrow hB
            go_wp2
            go_quiet (fail)
            have hrow2 := unhide HRW nq
            have hB2 := unhide HBW nq
            have hBs2 := hB2.size
            clear HRW HBW
            generalize wr.drewN nq = W2 at *
            go_wp2_with (at_builtin; refine wpList_append_own_at _ rfl _ _ 31 rfl w.heap.size 22 i0 (.int .u16 0) 1 2 Try.underlying31 hi hz0 hz1 hz2 rfl (by decide) _ _ _ rfl (hrow2.alloc _) ⟨_, 0, none⟩ 1 1 [.int .u16 (256 * (x : Int) + y)] rfl rfl (cell_one_new _ _ _) (by simp [Value.oneCell']) (by unfold maxLen; omega) (by omega) (by simp; omega) ?_; intro v' w4 hown hgrow _ _)
            have hB4 := belowGrown (hB2.alloc hBs2 _) (by simp; omega) (hrow2.alloc _) hgrow
            go_roundw
            case rel => exact ⟨k + 1, by have := unhide HP; omega, by have := unhide HP; congr 1; omega, by rw [unhide HSN, u16s_append]; exact hown, hB4⟩
            case measure => simp [intOf]; omega
          · have hu := hu1 ho'
            rw [hu] at HSN hux
            obtain ⟨hux1, hux2⟩ := hux
            have qo : ((o : Int) == 1) = true := by rw [ho']; rfl
            have HRW := hide (fun nq => rowBelow hrow (below_drewN (Below.refl _ wr) nq))
            have HBW := hide (fun nq => below_drewN hB nq)
            clear hu0 hu1 hu ho' hrow hB
            go_wp2
            go_quiet (fail)
            have hrow2 := unhide HRW nq
            have hB2 := unhide HBW nq
            have hBs2 := hB2.size
            clear HRW HBW
            generalize wr.drewN nq = W2 at *
            go_wp2_with (at_builtin; refine wpList_append_own_at _ rfl _ _ 31 rfl w.heap.size 22 i0 (.int .u16 0) 1 2 Try.underlying31 hi hz0 hz1 hz2 rfl (by decide) _ _ _ rfl (hrow2.alloc _) ⟨_, 0, none⟩ 1 1 [.int .u16 (256 * (y : Int) + x)] rfl rfl (cell_one_new _ _ _) (by simp [Value.oneCell']) (by unfold maxLen; omega) (by omega) (by simp; omega) ?_; intro v' w4 hown hgrow _ _)
            have hB4 := belowGrown (hB2.alloc hBs2 _) (by simp; omega) (hrow2.alloc _) hgrow
            go_roundw
            case rel => exact ⟨k + 1, by have := unhide HP; omega, by have := unhide HP; congr 1; omega, by rw [unhide HSN, u16s_append]; exact hown, hB4⟩
            case measure => simp [intOf]; omega
        · have hke : k = t.size / 2 := by omega
          have hpe : f + 2 * k = s.size := by have := unhide HEV; omega
          rw [hpe]
          have HKE := hide hke
          clear hke hpe hk hlt
          go_wp2
          go_returns
          exact ⟨_, rfl, by rw [rdK_len, ← unhide HKE]; exact hrow, hB⟩

end Go.Proofs.Ytghcheoholkpbaa
