/-
  The document's number, begins and Longest (furrowref01).
-/
import Derived.Test.YtjkchpjopgpeeaaBegM
import Derived.Test.YtjkchpjopgpeeaaRefAt
import Derived.Test.YtjkchpjopgpeeaaRefA
namespace Go.Proofs.Ytjkchpjopgpeeaa
open Go.RowKit Go.PlainAid Go.Lib Go.Shelf
set_option linter.unusedVariables false

theorem acc_bounds (u : ByteArray) (m : Int) (hm : 0 < m) (hm2 : m ≤ 128) : ∀ i, (TailsU u (i + 1)) → i ≤ 3 → 0 ≤ accU u m i ∧ accU u m i < m * 64 ^ i
  | 0, _, _ => by
    unfold accU
    have h1 := Int.emod_nonneg (bt u 0) (show m ≠ 0 by omega)
    have h2 := Int.emod_lt_of_pos (bt u 0) hm
    simp; omega
  | i + 1, h, hi => by
    have ih := acc_bounds u m hm hm2 i (fun j j1 j2 => h j j1 (by omega)) (by omega)
    have ht := h (i + 1) (by omega) (by omega)
    have tb : 128 ≤ bt u (i + 1) ∧ bt u (i + 1) ≤ 191 := by simpa [tailB] using ht
    have c : i = 0 ∨ i = 1 ∨ i = 2 := by omega
    unfold accU
    generalize bt u (i + 1) = b at *
    rcases c with rfl | rfl | rfl <;> simp only [Nat.reduceAdd, Int.reducePow, Int.pow_zero, Int.mul_one] at ih ⊢ <;> omega

set_option maxRecDepth 100000 in
set_option maxHeartbeats 2000000 in
theorem number_any (u : ByteArray) (w : World) (h2 : 2 ≤ u.size) (h4 : u.size ≤ 4) :
    Calls Try.prog 55 #[.string u] w fun e w' => ((TailsU u u.size ∧ e = .returned (.int .i64 (accU u (maskU u.size) (u.size - 1)))) ∨ (¬ TailsU u u.size ∧ e = .returned (.int .i64 (-1)))) ∧ Below w.heap.size w w' := by
  have hb := get_bt u
  have b0 := bt_nonneg u 0
  have b1 := bt_le u 0
  obtain ⟨n, hn⟩ : ∃ n, u.size = n := ⟨_, rfl⟩
  have hmask : ∃ k : Int, (n = 2 ∧ k = 31 ∨ n = 3 ∧ k = 15 ∨ n = 4 ∧ k = 7) ∧ bits .and .i64 (bt u 0) k = bt u 0 % maskU n := by
    have c : n = 2 ∨ n = 3 ∨ n = 4 := by omega
    rcases c with rfl | rfl | rfl
    · exact ⟨31, .inl ⟨rfl, rfl⟩, by rw [show (31 : Int) = 2 ^ 5 - 1 from rfl, and64 _ _ (by decide) b0 (by omega)]; rfl⟩
    · exact ⟨15, .inr (.inl ⟨rfl, rfl⟩), by rw [show (15 : Int) = 2 ^ 4 - 1 from rfl, and64 _ _ (by decide) b0 (by omega)]; rfl⟩
    · exact ⟨7, .inr (.inr ⟨rfl, rfl⟩), by rw [show (7 : Int) = 2 ^ 3 - 1 from rfl, and64 _ _ (by decide) b0 (by omega)]; rfl⟩
  obtain ⟨k, hk, hm⟩ := hmask
  have hmp : 0 < maskU n ∧ maskU n ≤ 128 := by unfold maskU; (repeat' split) <;> omega
  have HAB := hide (acc_bounds u (maskU n) hmp.1 hmp.2)
  have hA0 : bt u 0 % maskU n = accU u (maskU n) 0 := rfl
  obtain ⟨W, hW⟩ : ∃ W, w.alloc (.cells #[.int .i64 0, .int .i64 127, .int .i64 31, .int .i64 15, .int .i64 7] 3) = W := ⟨_, rfl⟩
  have hB : Below w.heap.size w W := by rw [← hW]; go_grown
  have gA : W.heap[w.heap.size]? = some (.cells #[.int .i64 0, .int .i64 127, .int .i64 31, .int .i64 15, .int .i64 7] 3) := by rw [← hW]; exact heap_alloc_new w _
  have ck : W.cell? ⟨w.heap.size, n, none⟩ = some (.int .i64 k) := by
    rcases hk with ⟨rfl, rfl⟩ | ⟨rfl, rfl⟩ | ⟨rfl, rfl⟩ <;> simp [World.cell?, gA]
  rw [hn] at h2 h4 ⊢
  have HN := hide hn
  have HA0 := hide hA0
  have h0s : 0 < n := by omega
  have h5 : (n : Int) < 5 := by omega
  have hmp2 := hmp.2
  clear gA hk hA0 hmp
  generalize maskU n = mk at *
  go_enter Try.func55, Try.ntmps55
  go_wp2
  go_quiet (fail)
  rw [unhide HA0]
  have HMK : Hid (∀ i, TailsU u (i + 1) → i ≤ 3 → 0 ≤ accU u mk i ∧ accU u mk i < 33554432) := fun i h1 h2 => by
    have h := unhide HAB i h1 h2
    refine ⟨h.1, Int.lt_of_lt_of_le h.2 ?_⟩
    have c : i = 0 ∨ i = 1 ∨ i = 2 ∨ i = 3 := by omega
    rcases c with rfl | rfl | rfl | rfl <;> simp only [Int.reducePow, Int.pow_zero] <;> omega
  obtain ⟨WX, hWX⟩ : ∃ WX, W.drewN nq = WX := ⟨_, rfl⟩
  have hBX : Below w.heap.size w WX := by rw [← hWX]; exact below_drewN hB nq
  rw [hWX]
  clear hWX hm ck hB hW HA0 HAB
  go_wp2
  go_loopw [4, 5] (fun v4 v5 wr => ∃ k : Nat, k + 1 ≤ n ∧ v5 = .int .i64 ((k : Int) + 1) ∧ v4 = .int .i64 (accU u mk k) ∧ wr = WX ∧ Hid (TailsU u (k + 1))) (fun _ v5 _ => n - (intOf v5).toNat)
  case atStart => exact ⟨0, by omega, rfl, rfl, rfl, by show ∀ j, _; intro j h1 h2; omega⟩
  case round =>
    obtain ⟨k, hk, rfl, rfl, hw, HT⟩ := hrel
    subst hw
    have hab := unhide HMK k HT.out (by omega)
    by_cases hlt : k + 1 < n
    · have hlt' : (k : Int) + 1 < (n : Int) := by omega
      have htn : ((k : Int) + 1).toNat = k + 1 := by omega
      have bk0 := bt_nonneg u (k + 1)
      have bk1 := bt_le u (k + 1)
      have HNX : Hid (128 ≤ bt u (k + 1) ∧ bt u (k + 1) ≤ 191 → TailsU u (k + 1 + 1)) := fun h j h1 h2 => by
        by_cases hj : j < k + 1
        · exact HT.out j h1 hj
        · obtain rfl : j = k + 1 := by omega
          simp [tailB, h]
      have HNO : Hid (¬ (128 ≤ bt u (k + 1) ∧ bt u (k + 1) ≤ 191) → ¬ TailsU u n) := fun h ht => by
        have := ht (k + 1) (by omega) hlt
        simp [tailB] at this
        exact h this
      have HAC : Hid (accU u mk (k + 1) = accU u mk k * 64 + bt u (k + 1) - 128) := rfl
      clear HT
      generalize accU u mk k = A at *
      by_cases h1 : bt u (k + 1) < 128
      · have d1 : decide (bt u (k + 1) < 128) = true := by simpa using h1
        go_wp2
        go_ret
        exact ⟨.inr ⟨HNO.out (by omega), rfl⟩, hBX⟩
      · have d1 : decide (bt u (k + 1) < 128) = false := by simpa using h1
        by_cases h3 : 191 < bt u (k + 1)
        · have d3 : decide (191 < bt u (k + 1)) = true := by simpa using h3
          go_wp2
          go_ret
          exact ⟨.inr ⟨HNO.out (by omega), rfl⟩, hBX⟩
        · have d3 : decide (191 < bt u (k + 1)) = false := by simpa using h3
          go_wp2
          go_roundw
          case rel => exact ⟨k + 1, by omega, by go_num, by rw [HAC.out], trivial, HNX.out (by omega)⟩
          case measure => simp [intOf]; omega
    · obtain rfl : n = k + 1 := by omega
      go_wp2
      go_ret
      exact ⟨.inl ⟨HT.out, rfl⟩, hBX⟩

/-- do some bytes begin a right sequence -/
def BegU (u : ByteArray) : Prop := (u.size : Int) ≤ leadN (bt u 0) ∧ TailsU u u.size ∧ goOnB (bt u 0) (bt u 1) = true
def lenOf : Value → Nat
  | .string b => b.size
  | _ => 0
theorem tails_pad (u : ByteArray) (b : UInt8) (j : Nat) (hb : 128 ≤ b.toNat ∧ b.toNat ≤ 191) : TailsU (padU u b j) (u.size + j) ↔ TailsU u u.size := by
  constructor
  · intro h k k1 k2
    have := h k k1 (by omega)
    rwa [bt_padU u b k j (by omega), if_pos k2] at this
  · intro h k k1 k2
    rw [bt_padU u b k j k2]
    by_cases hk : k < u.size
    · rw [if_pos hk]; exact h k k1 hk
    · rw [if_neg hk]; simp [tailB]; omega

set_option maxRecDepth 100000 in
set_option maxHeartbeats 4000000 in
theorem begins_any (u : ByteArray) (w : World) (h2 : 2 ≤ u.size) (h4 : u.size ≤ 4) :
    Calls Try.prog 47 #[.string u] w fun e w' => ∃ t, e = .returned (.bool t) ∧ (t = true ↔ BegU u) ∧ Below w.heap.size w w' := by
  have hb := get_bt u
  have b0 := bt_nonneg u 0
  have b1 := bt_le u 0
  have hlc := leadN_le (bt u 0)
  have HLO := hide (long_any (bt u 0) b0 b1)
  obtain ⟨n, hn⟩ : ∃ n : Nat, leadN (bt u 0) = (n : Nat) := ⟨(leadN (bt u 0)).toNat, by omega⟩
  obtain ⟨m, hm⟩ : ∃ m, u.size = m := ⟨_, rfl⟩
  have HBU : Hid (BegU u ↔ ((m : Int) ≤ (n : Int) ∧ TailsU u m ∧ goOnB (bt u 0) (bt u 1) = true)) := by show _ ↔ _; unfold BegU; rw [hn, hm]
  have HMA := hide (begins_math u m n hm (by omega) hn)
  have HTP : Hid (∀ (b : UInt8) (j : Nat), 128 ≤ b.toNat ∧ b.toNat ≤ 191 → (TailsU (padU u b j) (m + j) ↔ TailsU u m)) := fun b j h => by have := tails_pad u b j h; rwa [hm] at this
  have HPS : Hid (∀ (b : UInt8) (j : Nat), (padU u b j).size = m + j) := fun b j => by rw [padU_size, hm]
  have HNU := hide (fun (v : ByteArray) W (h : 2 ≤ v.size) (h' : v.size ≤ 4) => number_any v W h h')
  rw [hn] at HLO hlc
  rw [hm] at h2 h4
  have HU : Hid (u.size = m) := hm
  have h0s : 0 < m := by omega
  clear hn
  by_cases hnm : n < m
  · have d1 : decide ((n : Int) < (m : Int)) = true := decide_eq_true (by omega)
    have hno := HBU.out
    have HNB : Hid (¬ BegU u) := fun h => by have := (hno.1 h).1; omega
    clear hno HMA HTP HPS HNU HBU
    go_enter Try.func47, Try.ntmps47
    go_wp2_with fail
    refine (unhide HLO _).mono ?_
    rintro e w' ⟨rfl, rfl⟩
    go_wp2
    go_ret
    exact ⟨false, rfl, ⟨fun h => (Bool.noConfusion h), fun h => absurd h HNB.out⟩, Below.refl _ _⟩
  · have d1 : decide ((n : Int) < (m : Int)) = false := decide_eq_false (by omega)
    go_enter Try.func47, Try.ntmps47
    go_wp2_with fail
    refine (unhide HLO w).mono ?_
    rintro e w' ⟨rfl, rfl⟩
    go_wp2
    go_loopw [4, 5] (fun v4 v5 wr => ∃ j : Nat, m + j ≤ n ∧ v4 = .string (padU u 128 j) ∧ v5 = .string (padU u 191 j) ∧ wr = w') (fun v4 _ _ => n - lenOf v4)
    case atStart => exact ⟨0, by omega, rfl, rfl, rfl⟩
    case round =>
      obtain ⟨j, hj, rfl, rfl, hw⟩ := hrel
      subst hw
      have s1 := unhide HPS 128 j
      have s2 := unhide HPS 191 j
      by_cases hlt : m + j < n
      · have t1 : Hid (padU u 128 (j + 1) = padU u 128 j ++ ⟨#[128]⟩) := rfl
        have t2 : Hid (padU u 191 (j + 1) = padU u 191 j ++ ⟨#[191]⟩) := rfl
        have s3 := unhide HPS 128 (j + 1)
        rw [t1.out] at s3
        generalize padU u 128 j = lo at *
        generalize padU u 191 j = hi at *
        go_wp2
        go_roundw
        case rel => exact ⟨j + 1, by omega, by rw [t1.out], by rw [t2.out], trivial⟩
        case measure => show n - (lo ++ ⟨#[128]⟩).size < n - lo.size; rw [s3, s1]; omega
      · obtain rfl : n = m + j := by omega
        have hma := unhide HMA (by omega)
        rw [show m + j - m = j by omega] at hma
        have tp1 := unhide HTP 128 j (by decide)
        have tp2 := unhide HTP 191 j (by decide)
        have nu1 := fun W => unhide HNU (padU u 128 j) W (by omega) (by omega)
        have nu2 := fun W => unhide HNU (padU u 191 j) W (by omega) (by omega)
        rw [s1] at nu1
        rw [s2] at nu2
        have HTP1 := hide tp1
        have HTP2 := hide tp2
        have HN1 := hide nu1
        have HN2 := hide nu2
        have HMA2 := hide hma
        clear hma tp1 tp2 nu1 nu2 HMA HTP HPS HNU
        have hdl : decide (((m + j : Nat) : Int) < ((m + j : Nat) : Int)) = false := decide_eq_false (by omega)
        generalize padU u 128 j = lo at *
        generalize padU u 191 j = hi at *
        go_wp2_with fail
        refine (unhide HN1 _).mono ?_
        rintro e w2 ⟨hor1, hb2⟩
        rcases hor1 with ⟨ht1, rfl⟩ | ⟨ht1, rfl⟩
        rotate_left
        · have HNB : Hid (¬ BegU u) := fun h => ht1 ((unhide HTP1).2 ((HBU.out.1 h).2.1))
          go_wp2_with fail
          refine (unhide HN2 _).mono ?_
          rintro e w3 ⟨hor2, hb3⟩
          have hB3 : Below wr.heap.size wr w3 := hb2.trans (hb3.mono hb2.size)
          rcases hor2 with ⟨_, rfl⟩ | ⟨_, rfl⟩
          all_goals
            go_wp2
            go_ret
            exact ⟨false, rfl, ⟨fun h => (Bool.noConfusion h), fun h => absurd h HNB.out⟩, hB3⟩
        · have htu := (unhide HTP1).1 ht1
          have hma := unhide HMA2 htu
          have HEX := hide hma.2
          have hA0 := hma.1.1
          have hB1 := hma.1.2
          have HTU := hide htu
          clear hma ht1 htu HMA2
          generalize accU lo (maskU (m + j)) (m + j - 1) = A at *
          go_wp2_with fail
          refine (unhide HN2 _).mono ?_
          rintro e w3 ⟨hor2, hb3⟩
          have hB3 : Below wr.heap.size wr w3 := hb2.trans (hb3.mono hb2.size)
          rcases hor2 with ⟨_, rfl⟩ | ⟨ht2, rfl⟩
          rotate_left
          · exact absurd ((unhide HTP2).2 (unhide HTU)) ht2
          generalize accU hi (maskU (m + j)) (m + j - 1) = B at *
          have HIF : Hid (BegU u ↔ ∃ y, A ≤ y ∧ y ≤ B ∧ goodN y ((m + j : Nat) : Int)) := by
            show _ ↔ _
            rw [HBU.out, unhide HEX]
            exact ⟨fun h => h.2.2, fun h => ⟨by omega, unhide HTU, h⟩⟩
          have dA : decide (A < 0) = false := decide_eq_false (by omega)
          clear HEX HBU HTU HTP1 HTP2 HN1 HN2 hb2 hb3
          by_cases hB0 : B < 0
          · have dB : decide (B < 0) = true := decide_eq_true hB0
            have HNB : Hid (¬ BegU u) := fun h => by obtain ⟨y, h1, h2, _⟩ := HIF.out.1 h; omega
            go_wp2
            go_ret
            exact ⟨false, rfl, ⟨fun h => (Bool.noConfusion h), fun h => absurd h HNB.out⟩, hB3⟩
          · have dB : decide (B < 0) = false := decide_eq_false hB0
            go_wp2
            go_loopw [8] (fun v8 wr2 => ∃ y : Int, A ≤ y ∧ (y ≤ B + 1 ∨ y = A) ∧ v8 = .int .i64 y ∧ wr2 = w3 ∧ Hid (∀ z, A ≤ z → z < y → ¬ goodN z ((m + j : Nat) : Int))) (fun v8 _ => (B + 1 - intOf v8).toNat)
            case atStart => exact ⟨A, Int.le_refl _, .inr rfl, rfl, rfl, by show ∀ z, _; intro z h1 h2; omega⟩
            case round =>
              obtain ⟨y, hy1, hy2, rfl, hw, HT⟩ := hrel
              subst hw
              by_cases hle : y ≤ B
              · have dle : decide (y ≤ B) = true := decide_eq_true hle
                have hwr : IntKind.i32.wrap y = y := by rw [IntKind.wrap_i32]; omega
                have HSC := hide (refScalar_any y)
                have HWI := hide (refWidth_any y)
                have HNX : Hid (¬ goodN y ((m + j : Nat) : Int) → ∀ z, A ≤ z → z < y + 1 → ¬ goodN z ((m + j : Nat) : Int)) := fun h z h1 h2 => by
                  by_cases hz : z < y
                  · exact HT.out z h1 hz
                  · obtain rfl : z = y := by omega
                    exact h
                have HYE : Hid (goodN y ((m + j : Nat) : Int) → BegU u) := fun h => HIF.out.2 ⟨y, hy1, hle, h⟩
                have HG : Hid (goodN y ((m + j : Nat) : Int) ↔ scalarB y = true ∧ widthN y = ((m + j : Nat) : Int)) := Iff.rfl
                clear HT HIF
                generalize widthN y = Wy at *
                cases hsc : scalarB y with
                | false =>
                  rw [hsc] at HSC HG
                  go_wp2_with (first | (go_at_call 56; refine (unhide HSC _).mono ?_; rintro e w4 ⟨rfl, rfl⟩) | (go_at_call 50; refine (unhide HWI _).mono ?_; rintro e w4 ⟨rfl, rfl⟩))
                  go_roundw
                  case rel => exact ⟨y + 1, by omega, .inl (by omega), by go_num, trivial, HNX.out (fun h => by have := (HG.out.1 h).1; cases this)⟩
                  case measure => simp [intOf]; omega
                | true =>
                  rw [hsc] at HSC HG
                  by_cases hWy : Wy = ((m + j : Nat) : Int)
                  · have HY := hide (HYE.out (HG.out.2 ⟨rfl, hWy⟩))
                    have dW : (Wy == ((m + j : Nat) : Int)) = true := by simpa using hWy
                    subst hWy
                    clear HYE HG HNX
                    go_wp2_with (first | (go_at_call 56; refine (unhide HSC _).mono ?_; rintro e w4 ⟨rfl, rfl⟩) | (go_at_call 50; refine (unhide HWI _).mono ?_; rintro e w4 ⟨rfl, rfl⟩))
                    go_ret
                    exact ⟨true, rfl, ⟨fun _ => unhide HY, fun _ => rfl⟩, hB3⟩
                  · have HNG : Hid (¬ goodN y ((m + j : Nat) : Int)) := fun h => hWy (HG.out.1 h).2
                    have dW : (Wy == ((m + j : Nat) : Int)) = false := by simpa using hWy
                    have HN2 := hide (HNX.out HNG.out)
                    clear HYE HG HNX HNG
                    go_wp2_with (first | (go_at_call 56; refine (unhide HSC _).mono ?_; rintro e w4 ⟨rfl, rfl⟩) | (go_at_call 50; refine (unhide HWI _).mono ?_; rintro e w4 ⟨rfl, rfl⟩))
                    go_roundw
                    case rel => exact ⟨y + 1, by omega, .inl (by omega), by go_num, trivial, unhide HN2⟩
                    case measure => simp [intOf]; omega
              · have dle : decide (y ≤ B) = false := decide_eq_false hle
                have HNB : Hid (¬ BegU u) := fun h => by
                  obtain ⟨z, h1, h2, h3⟩ := HIF.out.1 h
                  exact HT.out z h1 (by omega) h3
                go_wp2
                go_ret
                first | exact .inl ⟨rfl, HNB.out, hB3⟩ | exact ⟨false, rfl, ⟨fun h => (Bool.noConfusion h), fun h => absurd h HNB.out⟩, hB3⟩
end Go.Proofs.Ytjkchpjopgpeeaa
