/-
  The document's answer for one character (At of furrowref01), for every text and place.
-/
import Derived.Test.YtkpmcojoiijonaaCheck
import Derived.Deep.QuietTactic
import Derived.BigQuiet
namespace Go.Proofs.Ytkpmcojoiijonaa
open Go.RowKit Go.PlainAid Go.Lib
set_option linter.unusedVariables false

theorem long_any (b : Int) (h0 : 0 ≤ b) (h1 : b ≤ 255) (w : World) : Calls Try.prog 56 #[.int .u8 b] w fun e w' => e = .returned (.int .i64 (leadN b)) ∧ w' = w := by
  go_enter Try.func56, Try.ntmps56
  go_wp2
  all_goals go_ret
  all_goals exact ⟨ret_int (by unfold leadN; (repeat' split) <;> omega), rfl⟩

theorem decB_acc (sz b0 b1 b2 b3 x n : Nat) (h : decB sz b0 b1 b2 b3 = (x, n)) (hb : bytesN x = n) :
    (n = 1 ∧ b0 < 128 ∧ x = b0) ∨ (n = 2 ∧ b0 / 32 = 6 ∧ x = b0 % 32 * 64 + b1 % 64) ∨ (n = 3 ∧ b0 / 16 = 14 ∧ x = b0 % 16 * 4096 + b1 % 64 * 64 + b2 % 64) ∨ (n = 4 ∧ b0 / 8 = 30 ∧ x = b0 % 8 * 262144 + b1 % 64 * 4096 + b2 % 64 * 64 + b3 % 64) := by
  have hbad : (65533, 1) = (x, n) → False := by
    intro e
    obtain ⟨rfl, rfl⟩ : x = 65533 ∧ n = 1 := by simpa [eq_comm] using e
    revert hb; decide
  unfold decB at h
  split at h
  · left; simp only [Prod.mk.injEq] at h; omega
  split at h
  · split at h
    · right; left; simp only [Prod.mk.injEq] at h; omega
    · exact (hbad h).elim
  split at h
  · split at h
    · right; right; left; simp only [Prod.mk.injEq] at h; omega
    · exact (hbad h).elim
  split at h
  · split at h
    · right; right; right; simp only [Prod.mk.injEq] at h; omega
    · exact (hbad h).elim
  exact (hbad h).elim
/-- a right sequence's number is what the bits make -/
theorem dec_acc (s : ByteArray) (i : Nat) (hi : i < s.size) (hw : why s i = 0) :
    (leadN (bt s i) = ((Utf8.decode s i).2 : Nat)) ∧ accN (s.extract i s.size) (Utf8.decode s i).2 = ((Utf8.decode s i).1 : Nat) := by
  rcases dec_why s i hi with ⟨_, x, n, h2, h3, h4, _⟩ | ⟨h1, _⟩
  · have hd := decode_decB s i hi
    rw [h2] at hd ⊢
    have b0 := bN_lt s i; have b1 := bN_lt s (i + 1); have b2 := bN_lt s (i + 2); have b3 := bN_lt s (i + 3)
    have e0 : bt (s.extract i s.size) 0 = (bN s i : Int) := by rw [bt_bN, bN_extract]; rfl
    have e1 : bt (s.extract i s.size) 1 = (bN s (i + 1) : Int) := by rw [bt_bN, bN_extract]
    have e2 : bt (s.extract i s.size) 2 = (bN s (i + 2) : Int) := by rw [bt_bN, bN_extract]
    have e3 : bt (s.extract i s.size) 3 = (bN s (i + 3) : Int) := by rw [bt_bN, bN_extract]
    rw [bt_bN]
    rcases decB_acc _ _ _ _ _ _ _ hd.symm h4 with ⟨rfl, k1, k2⟩ | ⟨rfl, k1, k2⟩ | ⟨rfl, k1, k2⟩ | ⟨rfl, k1, k2⟩
    · refine ⟨by unfold leadN; (repeat' split) <;> omega, ?_⟩
      show leadBits (bt _ 0) = (x : Int)
      rw [e0]; unfold leadBits; (repeat' split) <;> omega
    · refine ⟨by unfold leadN; (repeat' split) <;> omega, ?_⟩
      show leadBits (bt _ 0) * 64 + bt _ 1 % 64 = (x : Int)
      rw [e0, e1]; unfold leadBits; (repeat' split) <;> omega
    · refine ⟨by unfold leadN; (repeat' split) <;> omega, ?_⟩
      show (leadBits (bt _ 0) * 64 + bt _ 1 % 64) * 64 + bt _ 2 % 64 = (x : Int)
      rw [e0, e1, e2]; unfold leadBits; (repeat' split) <;> omega
    · refine ⟨by unfold leadN; (repeat' split) <;> omega, ?_⟩
      show ((leadBits (bt _ 0) * 64 + bt _ 1 % 64) * 64 + bt _ 2 % 64) * 64 + bt _ 3 % 64 = (x : Int)
      rw [e0, e1, e2, e3]; unfold leadBits; (repeat' split) <;> omega
  · exact absurd hw h1

theorem below_w {w w' W : World} (h : Below w.heap.size w w') (k : Below w'.heap.size w' W) : Below w.heap.size w W := h.trans (k.mono h.size)
theorem w64 (n : Int) (h₀ : 0 ≤ n) (h₁ : n < 2 ^ 8) : IntKind.i64.wrap n = n := by rw [IntKind.wrap_i64]; omega
theorem and64 (x : Int) (i : Nat) (hi : i ≤ 8) (h₀ : 0 ≤ x) (h₁ : x < 256) : bits .and .i64 x (2 ^ i - 1) = x % 2 ^ i := bits_mask .i64 8 (by decide) w64 i hi x h₀ h₁

set_option maxRecDepth 100000 in
set_option maxHeartbeats 2000000 in
theorem refAt_any (s : ByteArray) (i : Nat) (w : World) (hs : s.size ≤ 4398046511104) (hi : i < s.size) :
    Calls Try.prog 51 #[.string s, .int .i64 i] w fun e w' => e = .returned (spotOf s i) ∧ Below w.heap.size w w' := by
  have hb := get_bt s
  have b0 := bt_nonneg s i
  have b1 := bt_le s i
  go_enter Try.func51, Try.ntmps51
  go_wp2_with fail
  refine (long_any _ b0 b1 _).mono ?_
  rintro e w' ⟨rfl, rfl⟩
  have hex := extract_size s i
  have hbe : ∀ k, bt (s.extract i s.size) k = bt s (i + k) := bt_extract s i
  have hw0 : leadN (bt s i) = 0 → why s i = 10 := fun h => by
    have e0 : bt (s.extract i s.size) 0 = bt s i := hbe 0
    show whyN _ = 10
    unfold whyN; rw [e0, h]; rfl
  have hbad : why s i ≠ 0 → spotOf s i = spotV i 1 65533 (why s i) := fun h => by
    rcases dec_why s i hi with ⟨h1, _⟩ | ⟨_, h1⟩
    · exact absurd h1 h
    · show spotV _ _ _ _ = _
      rw [h1]; rfl
  rcases leadN_cases (bt s i) with hn | hn | hn | hn | hn
  · rw [hn]
    have hsp := hbad (by rw [hw0 hn]; decide)
    rw [hw0 hn] at hsp
    have HSP := hide hsp
    clear hsp hbad hw0 hbe
    go_wp2
    refine bodyPost_ret (v := spotV i 1 65533 10) (by simp [results, Try.f51, go_sem]) rfl ?_
    exact ⟨by rw [unhide HSP], by go_grown⟩
  · rw [hn]
    have hm : bits .and .i64 (bt s i) 127 = leadBits (bt s i) := by
      rw [show (127 : Int) = 2 ^ 7 - 1 from rfl, and64 _ _ (by decide) b0 (by omega)]
      unfold leadN at hn; unfold leadBits; revert hn; (repeat' split) <;> omega
    have hwg : whyGo (s.extract i s.size) 1 ((1 : Int) - (1 : Nat)).toNat 1 (accN (s.extract i s.size) 1) = why s i := by
      have e0 : bt (s.extract i s.size) 0 = bt s i := hbe 0
      show _ = whyN _
      unfold whyN; rw [e0, hn, if_neg (by decide)]
      show whyGo _ _ _ _ (leadBits (bt _ 0)) = _
      rw [e0]; rfl
    have hac : ∀ k, k ≤ 1 → 1 ≤ k → 0 ≤ accN (s.extract i s.size) k ∧ accN (s.extract i s.size) k < 128 := fun k h4 h1 => (by have hk : k = 1 := (by omega); subst hk; exact leadBits_le _ (bt_nonneg _ _))
    have HA1 : Hid (leadBits (bt s i) = accN (s.extract i s.size) 1) := by
      show _ = leadBits (bt _ 0)
      rw [show bt (s.extract i s.size) 0 = bt s i from hbe 0]
    have HWG := hide hwg
    have HBAD := hide hbad
    have HBE := hide hbe
    clear hwg hbad hw0 hbe
    go_wp2
    go_quiet (fail)
    have hszq : (w.drewN nq).heap.size = w.heap.size := rfl
    rw [show (((w.alloc (Obj.cells #[.int .i64 0, .int .i64 0, .int .i32 0, .int .i64 0] 62)).alloc (Obj.cells #[.int .i64 i, .int .i64 1, .int .i32 65533, .int .i64 0] 62)).alloc (Obj.cells #[.int .i64 0, .int .i64 127, .int .i64 31, .int .i64 15, .int .i64 7] 3)).drewN nq = ((((w.drewN nq).alloc (Obj.cells #[.int .i64 0, .int .i64 0, .int .i32 0, .int .i64 0] 62)).alloc (Obj.cells #[.int .i64 i, .int .i64 1, .int .i32 65533, .int .i64 0] 62)).alloc (Obj.cells #[.int .i64 0, .int .i64 127, .int .i64 31, .int .i64 15, .int .i64 7] 3)) from rfl]
    rw [← hszq, unhide HA1]
    have hBx : Below w.heap.size w (w.drewN nq) := below_drewN (Below.refl _ _) nq

    clear hszq hm
    generalize hT : s.extract i s.size = T at *
    have HT := hide hT
    clear hT HA1
    generalize w.drewN nq = w' at *
    go_wp2
    go_loop [8, 9] (fun v8 v9 => ∃ k : Nat, 1 ≤ k ∧ k ≤ 1 ∧ i + k ≤ s.size ∧ v9 = .int .i64 k ∧ v8 = .int .i64 (accN T k) ∧ Hid (whyGo T 1 ((1 : Int) - k).toNat k (accN T k) = why s i)) (fun _ v9 => 1 - (intOf v9).toNat)
    case atStart => exact ⟨1, by omega, by omega, by omega, rfl, rfl, HWG⟩
    case round =>
      obtain ⟨k, hk1, hk2, hk3, rfl, rfl, HF⟩ := hrel
      have ha := hac k (by omega) hk1
      by_cases hk : k < 1
      · exact absurd hk (by omega)
      · obtain rfl : k = 1 := by omega
        have hen := HF.out
        rw [whyGo_end T 1 _ _ rfl] at hen
        have HDA := hide (dec_acc s i hi)
        rw [unhide HT] at HDA
        clear HF hac HBE
        generalize hAC : accN T 1 = A at *
        have HAC := hide hAC
        clear hAC
        unfold whyNoN at hen
        by_cases o1 : A < 0
        · first
            | (exfalso; omega)
            | (have HY : Hid (why s i = 13) := by show _ = _; rw [← hen, if_pos (by unfold bytesN; (repeat' split) <;> omega)]
               have d1 : decide (A < 0) = true := by simpa using o1
               clear hen
               go_wp2
               refine bodyPost_ret (v := spotV i 1 65533 13) (by simp [results, Try.f51, go_sem]) rfl ?_
               refine ⟨?_, below_w hBx (by go_grown)⟩
               have := unhide HBAD (by rw [unhide HY]; decide)
               rw [this, unhide HY])
        have d1 : decide (A < 0) = false := by simpa using o1
        rw [if_neg (by unfold bytesN; (repeat' split) <;> omega)] at hen
        by_cases o2 : 55296 ≤ A ∧ A ≤ 57343
        · first
            | (exfalso; omega)
            | (have HY : Hid (why s i = 14) := by show _ = _; rw [← hen, if_pos (by unfold halfB; simp; omega)]
               have d2 : decide (55296 ≤ A) = true := by simp; omega
               have d3 : decide (A ≤ 57343) = true := by simp; omega
               clear hen
               go_wp2
               refine bodyPost_ret (v := spotV i 1 65533 14) (by simp [results, Try.f51, go_sem]) rfl ?_
               refine ⟨?_, below_w hBx (by go_grown)⟩
               have := unhide HBAD (by rw [unhide HY]; decide)
               rw [this, unhide HY])
        have d2 : decide (55296 ≤ A) = false ∨ (decide (55296 ≤ A) = true ∧ decide (A ≤ 57343) = false) := by simp; omega
        rw [if_neg (by unfold halfB; simp; omega)] at hen
        by_cases o3 : 1114111 < A
        · first
            | (exfalso; omega)
            | (have HY : Hid (why s i = 15) := by show _ = _; rw [← hen, if_pos o3]
               have d3 : decide (1114111 < A) = true := by simpa using o3
               clear hen
               rcases d2 with d2 | ⟨d2, d4⟩
               all_goals
                 go_wp2
                 refine bodyPost_ret (v := spotV i 1 65533 15) (by simp [results, Try.f51, go_sem]) rfl ?_
                 refine ⟨?_, below_w hBx (by go_grown)⟩
                 have := unhide HBAD (by rw [unhide HY]; decide)
                 rw [this, unhide HY])
        have d3 : decide (1114111 < A) = false := by simpa using o3
        rw [if_neg o3] at hen
        have HY : Hid (why s i = 0) := hide hen.symm
        clear hen
        rcases d2 with d2 | ⟨d2, d4⟩
        all_goals
          go_wp2
          refine bodyPost_ret (v := spotV i 1 A 0) (by simp [results, Try.f51, go_sem]) rfl ?_
          refine ⟨?_, below_w hBx (by go_grown)⟩
          obtain ⟨z1, z2⟩ := unhide HDA (unhide HY)
          have z3 : (Utf8.decode s i).2 = 1 := by omega
          rw [z3, unhide HAC] at z2
          show _ = Ending.returned (spotV _ _ _ (why s i))
          rw [z3, ← z2, unhide HY]
          rfl
  · rw [hn]
    have hm : bits .and .i64 (bt s i) 31 = leadBits (bt s i) := by
      rw [show (31 : Int) = 2 ^ 5 - 1 from rfl, and64 _ _ (by decide) b0 (by omega)]
      unfold leadN at hn; unfold leadBits; revert hn; (repeat' split) <;> omega
    have hwg : whyGo (s.extract i s.size) 2 ((2 : Int) - (1 : Nat)).toNat 1 (accN (s.extract i s.size) 1) = why s i := by
      have e0 : bt (s.extract i s.size) 0 = bt s i := hbe 0
      show _ = whyN _
      unfold whyN; rw [e0, hn, if_neg (by decide)]
      show whyGo _ _ _ _ (leadBits (bt _ 0)) = _
      rw [e0]; rfl
    have hac : ∀ k, k ≤ 4 → 1 ≤ k → 0 ≤ accN (s.extract i s.size) k ∧ accN (s.extract i s.size) k < 8388608 := fun k h4 h1 => acc_small _ (by rw [show bt (s.extract i s.size) 0 = bt s i from hbe 0, hn]; decide) k h4 h1
    have HA1 : Hid (leadBits (bt s i) = accN (s.extract i s.size) 1) := by
      show _ = leadBits (bt _ 0)
      rw [show bt (s.extract i s.size) 0 = bt s i from hbe 0]
    have HWG := hide hwg
    have HBAD := hide hbad
    have HBE := hide hbe
    clear hwg hbad hw0 hbe
    go_wp2
    go_quiet (fail)
    have hszq : (w.drewN nq).heap.size = w.heap.size := rfl
    rw [show (((w.alloc (Obj.cells #[.int .i64 0, .int .i64 0, .int .i32 0, .int .i64 0] 62)).alloc (Obj.cells #[.int .i64 i, .int .i64 1, .int .i32 65533, .int .i64 0] 62)).alloc (Obj.cells #[.int .i64 0, .int .i64 127, .int .i64 31, .int .i64 15, .int .i64 7] 3)).drewN nq = ((((w.drewN nq).alloc (Obj.cells #[.int .i64 0, .int .i64 0, .int .i32 0, .int .i64 0] 62)).alloc (Obj.cells #[.int .i64 i, .int .i64 1, .int .i32 65533, .int .i64 0] 62)).alloc (Obj.cells #[.int .i64 0, .int .i64 127, .int .i64 31, .int .i64 15, .int .i64 7] 3)) from rfl]
    rw [← hszq, unhide HA1]
    have hBx : Below w.heap.size w (w.drewN nq) := below_drewN (Below.refl _ _) nq

    clear hszq hm
    generalize hT : s.extract i s.size = T at *
    have HT := hide hT
    clear hT HA1
    generalize w.drewN nq = w' at *
    go_wp2
    go_loop [8, 9] (fun v8 v9 => ∃ k : Nat, 1 ≤ k ∧ k ≤ 2 ∧ i + k ≤ s.size ∧ v9 = .int .i64 k ∧ v8 = .int .i64 (accN T k) ∧ Hid (whyGo T 2 ((2 : Int) - k).toNat k (accN T k) = why s i)) (fun _ v9 => 2 - (intOf v9).toNat)
    case atStart => exact ⟨1, by omega, by omega, by omega, rfl, rfl, HWG⟩
    case round =>
      obtain ⟨k, hk1, hk2, hk3, rfl, rfl, HF⟩ := hrel
      have ha := hac k (by omega) hk1
      by_cases hk : k < 2
      · have hst := whyGo_step T 2 k (accN T k) (by omega)
        by_cases hsz : i + k < s.size
        · have c0 := bt_nonneg s (i + k)
          have c1 := bt_le s (i + k)
          rw [if_neg (by omega), unhide HBE k] at hst
          cases htl : tailB (bt s (i + k))
          · have HY : Hid (why s i = 12) := by show _ = _; rw [← HF.out, hst, htl]; rfl
            have hd : decide (bt s (i + k) < 128) = true ∨ (decide (bt s (i + k) < 128) = false ∧ decide (191 < bt s (i + k)) = true) := by
              unfold tailB at htl; simp at htl ⊢; omega
            clear hst htl hac
            rcases hd with d1 | ⟨d1, d2⟩
            all_goals
              go_wp2
              refine bodyPost_ret (v := spotV i 1 65533 12) (by simp [results, Try.f51, go_sem]) rfl ?_
              refine ⟨?_, below_w hBx (by go_grown)⟩
              have := unhide HBAD (by rw [unhide HY]; decide)
              rw [this, unhide HY]
          · have HF2 : Hid (whyGo T 2 ((2 : Int) - (k + 1 : Nat)).toNat (k + 1) (accN T (k + 1)) = why s i) := by
              show _ = _
              rw [← HF.out, hst, htl, acc_succ T k hk1, unhide HBE k]; rfl
            have HAC : Hid (accN T (k + 1) = accN T k * 64 + bt s (i + k) - 128) := by
              show _ = _
              rw [acc_succ T k hk1, unhide HBE k]
              unfold tailB at htl; simp at htl; omega
            have d1 : decide (bt s (i + k) < 128) = false := by unfold tailB at htl; simp at htl ⊢; omega
            have d2 : decide (191 < bt s (i + k)) = false := by unfold tailB at htl; simp at htl ⊢; omega
            clear hst htl hac
            go_wp2
            go_round
            case rel => exact ⟨k + 1, by omega, by omega, by omega, by go_num, by rw [unhide HAC], HF2⟩
            case measure => simp [intOf]; omega
        · have HY : Hid (why s i = 11) := by show _ = _; rw [← HF.out, hst, if_pos (by omega)]
          have d1 : decide ((s.size : Int) ≤ (i : Int) + (k : Int)) = true := by simp; omega
          clear hst hac
          go_wp2
          refine bodyPost_ret (v := spotV i 1 65533 11) (by simp [results, Try.f51, go_sem]) rfl ?_
          refine ⟨?_, below_w hBx (by go_grown)⟩
          have := unhide HBAD (by rw [unhide HY]; decide)
          rw [this, unhide HY]
      · obtain rfl : k = 2 := by omega
        have hen := HF.out
        rw [whyGo_end T 2 _ _ rfl] at hen
        have HDA := hide (dec_acc s i hi)
        rw [unhide HT] at HDA
        clear HF hac HBE
        generalize hAC : accN T 2 = A at *
        have HAC := hide hAC
        clear hAC
        unfold whyNoN at hen
        by_cases o1 : A < 128
        · first
            | (exfalso; omega)
            | (have HY : Hid (why s i = 13) := by show _ = _; rw [← hen, if_pos (by unfold bytesN; (repeat' split) <;> omega)]
               have d1 : decide (A < 128) = true := by simpa using o1
               clear hen
               go_wp2
               refine bodyPost_ret (v := spotV i 1 65533 13) (by simp [results, Try.f51, go_sem]) rfl ?_
               refine ⟨?_, below_w hBx (by go_grown)⟩
               have := unhide HBAD (by rw [unhide HY]; decide)
               rw [this, unhide HY])
        have d1 : decide (A < 128) = false := by simpa using o1
        rw [if_neg (by unfold bytesN; (repeat' split) <;> omega)] at hen
        by_cases o2 : 55296 ≤ A ∧ A ≤ 57343
        · first
            | (exfalso; omega)
            | (have HY : Hid (why s i = 14) := by show _ = _; rw [← hen, if_pos (by unfold halfB; simp; omega)]
               have d2 : decide (55296 ≤ A) = true := by simp; omega
               have d3 : decide (A ≤ 57343) = true := by simp; omega
               clear hen
               go_wp2
               refine bodyPost_ret (v := spotV i 1 65533 14) (by simp [results, Try.f51, go_sem]) rfl ?_
               refine ⟨?_, below_w hBx (by go_grown)⟩
               have := unhide HBAD (by rw [unhide HY]; decide)
               rw [this, unhide HY])
        have d2 : decide (55296 ≤ A) = false ∨ (decide (55296 ≤ A) = true ∧ decide (A ≤ 57343) = false) := by simp; omega
        rw [if_neg (by unfold halfB; simp; omega)] at hen
        by_cases o3 : 1114111 < A
        · first
            | (exfalso; omega)
            | (have HY : Hid (why s i = 15) := by show _ = _; rw [← hen, if_pos o3]
               have d3 : decide (1114111 < A) = true := by simpa using o3
               clear hen
               rcases d2 with d2 | ⟨d2, d4⟩
               all_goals
                 go_wp2
                 refine bodyPost_ret (v := spotV i 1 65533 15) (by simp [results, Try.f51, go_sem]) rfl ?_
                 refine ⟨?_, below_w hBx (by go_grown)⟩
                 have := unhide HBAD (by rw [unhide HY]; decide)
                 rw [this, unhide HY])
        have d3 : decide (1114111 < A) = false := by simpa using o3
        rw [if_neg o3] at hen
        have HY : Hid (why s i = 0) := hide hen.symm
        clear hen
        rcases d2 with d2 | ⟨d2, d4⟩
        all_goals
          go_wp2
          refine bodyPost_ret (v := spotV i 2 A 0) (by simp [results, Try.f51, go_sem]) rfl ?_
          refine ⟨?_, below_w hBx (by go_grown)⟩
          obtain ⟨z1, z2⟩ := unhide HDA (unhide HY)
          have z3 : (Utf8.decode s i).2 = 2 := by omega
          rw [z3, unhide HAC] at z2
          show _ = Ending.returned (spotV _ _ _ (why s i))
          rw [z3, ← z2, unhide HY]
          rfl
  · rw [hn]
    have hm : bits .and .i64 (bt s i) 15 = leadBits (bt s i) := by
      rw [show (15 : Int) = 2 ^ 4 - 1 from rfl, and64 _ _ (by decide) b0 (by omega)]
      unfold leadN at hn; unfold leadBits; revert hn; (repeat' split) <;> omega
    have hwg : whyGo (s.extract i s.size) 3 ((3 : Int) - (1 : Nat)).toNat 1 (accN (s.extract i s.size) 1) = why s i := by
      have e0 : bt (s.extract i s.size) 0 = bt s i := hbe 0
      show _ = whyN _
      unfold whyN; rw [e0, hn, if_neg (by decide)]
      show whyGo _ _ _ _ (leadBits (bt _ 0)) = _
      rw [e0]; rfl
    have hac : ∀ k, k ≤ 4 → 1 ≤ k → 0 ≤ accN (s.extract i s.size) k ∧ accN (s.extract i s.size) k < 8388608 := fun k h4 h1 => acc_small _ (by rw [show bt (s.extract i s.size) 0 = bt s i from hbe 0, hn]; decide) k h4 h1
    have HA1 : Hid (leadBits (bt s i) = accN (s.extract i s.size) 1) := by
      show _ = leadBits (bt _ 0)
      rw [show bt (s.extract i s.size) 0 = bt s i from hbe 0]
    have HWG := hide hwg
    have HBAD := hide hbad
    have HBE := hide hbe
    clear hwg hbad hw0 hbe
    go_wp2
    go_quiet (fail)
    have hszq : (w.drewN nq).heap.size = w.heap.size := rfl
    rw [show (((w.alloc (Obj.cells #[.int .i64 0, .int .i64 0, .int .i32 0, .int .i64 0] 62)).alloc (Obj.cells #[.int .i64 i, .int .i64 1, .int .i32 65533, .int .i64 0] 62)).alloc (Obj.cells #[.int .i64 0, .int .i64 127, .int .i64 31, .int .i64 15, .int .i64 7] 3)).drewN nq = ((((w.drewN nq).alloc (Obj.cells #[.int .i64 0, .int .i64 0, .int .i32 0, .int .i64 0] 62)).alloc (Obj.cells #[.int .i64 i, .int .i64 1, .int .i32 65533, .int .i64 0] 62)).alloc (Obj.cells #[.int .i64 0, .int .i64 127, .int .i64 31, .int .i64 15, .int .i64 7] 3)) from rfl]
    rw [← hszq, unhide HA1]
    have hBx : Below w.heap.size w (w.drewN nq) := below_drewN (Below.refl _ _) nq

    clear hszq hm
    generalize hT : s.extract i s.size = T at *
    have HT := hide hT
    clear hT HA1
    generalize w.drewN nq = w' at *
    go_wp2
    go_loop [8, 9] (fun v8 v9 => ∃ k : Nat, 1 ≤ k ∧ k ≤ 3 ∧ i + k ≤ s.size ∧ v9 = .int .i64 k ∧ v8 = .int .i64 (accN T k) ∧ Hid (whyGo T 3 ((3 : Int) - k).toNat k (accN T k) = why s i)) (fun _ v9 => 3 - (intOf v9).toNat)
    case atStart => exact ⟨1, by omega, by omega, by omega, rfl, rfl, HWG⟩
    case round =>
      obtain ⟨k, hk1, hk2, hk3, rfl, rfl, HF⟩ := hrel
      have ha := hac k (by omega) hk1
      by_cases hk : k < 3
      · have hst := whyGo_step T 3 k (accN T k) (by omega)
        by_cases hsz : i + k < s.size
        · have c0 := bt_nonneg s (i + k)
          have c1 := bt_le s (i + k)
          rw [if_neg (by omega), unhide HBE k] at hst
          cases htl : tailB (bt s (i + k))
          · have HY : Hid (why s i = 12) := by show _ = _; rw [← HF.out, hst, htl]; rfl
            have hd : decide (bt s (i + k) < 128) = true ∨ (decide (bt s (i + k) < 128) = false ∧ decide (191 < bt s (i + k)) = true) := by
              unfold tailB at htl; simp at htl ⊢; omega
            clear hst htl hac
            rcases hd with d1 | ⟨d1, d2⟩
            all_goals
              go_wp2
              refine bodyPost_ret (v := spotV i 1 65533 12) (by simp [results, Try.f51, go_sem]) rfl ?_
              refine ⟨?_, below_w hBx (by go_grown)⟩
              have := unhide HBAD (by rw [unhide HY]; decide)
              rw [this, unhide HY]
          · have HF2 : Hid (whyGo T 3 ((3 : Int) - (k + 1 : Nat)).toNat (k + 1) (accN T (k + 1)) = why s i) := by
              show _ = _
              rw [← HF.out, hst, htl, acc_succ T k hk1, unhide HBE k]; rfl
            have HAC : Hid (accN T (k + 1) = accN T k * 64 + bt s (i + k) - 128) := by
              show _ = _
              rw [acc_succ T k hk1, unhide HBE k]
              unfold tailB at htl; simp at htl; omega
            have d1 : decide (bt s (i + k) < 128) = false := by unfold tailB at htl; simp at htl ⊢; omega
            have d2 : decide (191 < bt s (i + k)) = false := by unfold tailB at htl; simp at htl ⊢; omega
            clear hst htl hac
            go_wp2
            go_round
            case rel => exact ⟨k + 1, by omega, by omega, by omega, by go_num, by rw [unhide HAC], HF2⟩
            case measure => simp [intOf]; omega
        · have HY : Hid (why s i = 11) := by show _ = _; rw [← HF.out, hst, if_pos (by omega)]
          have d1 : decide ((s.size : Int) ≤ (i : Int) + (k : Int)) = true := by simp; omega
          clear hst hac
          go_wp2
          refine bodyPost_ret (v := spotV i 1 65533 11) (by simp [results, Try.f51, go_sem]) rfl ?_
          refine ⟨?_, below_w hBx (by go_grown)⟩
          have := unhide HBAD (by rw [unhide HY]; decide)
          rw [this, unhide HY]
      · obtain rfl : k = 3 := by omega
        have hen := HF.out
        rw [whyGo_end T 3 _ _ rfl] at hen
        have HDA := hide (dec_acc s i hi)
        rw [unhide HT] at HDA
        clear HF hac HBE
        generalize hAC : accN T 3 = A at *
        have HAC := hide hAC
        clear hAC
        unfold whyNoN at hen
        by_cases o1 : A < 2048
        · first
            | (exfalso; omega)
            | (have HY : Hid (why s i = 13) := by show _ = _; rw [← hen, if_pos (by unfold bytesN; (repeat' split) <;> omega)]
               have d1 : decide (A < 2048) = true := by simpa using o1
               clear hen
               go_wp2
               refine bodyPost_ret (v := spotV i 1 65533 13) (by simp [results, Try.f51, go_sem]) rfl ?_
               refine ⟨?_, below_w hBx (by go_grown)⟩
               have := unhide HBAD (by rw [unhide HY]; decide)
               rw [this, unhide HY])
        have d1 : decide (A < 2048) = false := by simpa using o1
        rw [if_neg (by unfold bytesN; (repeat' split) <;> omega)] at hen
        by_cases o2 : 55296 ≤ A ∧ A ≤ 57343
        · first
            | (exfalso; omega)
            | (have HY : Hid (why s i = 14) := by show _ = _; rw [← hen, if_pos (by unfold halfB; simp; omega)]
               have d2 : decide (55296 ≤ A) = true := by simp; omega
               have d3 : decide (A ≤ 57343) = true := by simp; omega
               clear hen
               go_wp2
               refine bodyPost_ret (v := spotV i 1 65533 14) (by simp [results, Try.f51, go_sem]) rfl ?_
               refine ⟨?_, below_w hBx (by go_grown)⟩
               have := unhide HBAD (by rw [unhide HY]; decide)
               rw [this, unhide HY])
        have d2 : decide (55296 ≤ A) = false ∨ (decide (55296 ≤ A) = true ∧ decide (A ≤ 57343) = false) := by simp; omega
        rw [if_neg (by unfold halfB; simp; omega)] at hen
        by_cases o3 : 1114111 < A
        · first
            | (exfalso; omega)
            | (have HY : Hid (why s i = 15) := by show _ = _; rw [← hen, if_pos o3]
               have d3 : decide (1114111 < A) = true := by simpa using o3
               clear hen
               rcases d2 with d2 | ⟨d2, d4⟩
               all_goals
                 go_wp2
                 refine bodyPost_ret (v := spotV i 1 65533 15) (by simp [results, Try.f51, go_sem]) rfl ?_
                 refine ⟨?_, below_w hBx (by go_grown)⟩
                 have := unhide HBAD (by rw [unhide HY]; decide)
                 rw [this, unhide HY])
        have d3 : decide (1114111 < A) = false := by simpa using o3
        rw [if_neg o3] at hen
        have HY : Hid (why s i = 0) := hide hen.symm
        clear hen
        rcases d2 with d2 | ⟨d2, d4⟩
        all_goals
          go_wp2
          refine bodyPost_ret (v := spotV i 3 A 0) (by simp [results, Try.f51, go_sem]) rfl ?_
          refine ⟨?_, below_w hBx (by go_grown)⟩
          obtain ⟨z1, z2⟩ := unhide HDA (unhide HY)
          have z3 : (Utf8.decode s i).2 = 3 := by omega
          rw [z3, unhide HAC] at z2
          show _ = Ending.returned (spotV _ _ _ (why s i))
          rw [z3, ← z2, unhide HY]
          rfl
  · rw [hn]
    have hm : bits .and .i64 (bt s i) 7 = leadBits (bt s i) := by
      rw [show (7 : Int) = 2 ^ 3 - 1 from rfl, and64 _ _ (by decide) b0 (by omega)]
      unfold leadN at hn; unfold leadBits; revert hn; (repeat' split) <;> omega
    have hwg : whyGo (s.extract i s.size) 4 ((4 : Int) - (1 : Nat)).toNat 1 (accN (s.extract i s.size) 1) = why s i := by
      have e0 : bt (s.extract i s.size) 0 = bt s i := hbe 0
      show _ = whyN _
      unfold whyN; rw [e0, hn, if_neg (by decide)]
      show whyGo _ _ _ _ (leadBits (bt _ 0)) = _
      rw [e0]; rfl
    have hac : ∀ k, k ≤ 4 → 1 ≤ k → 0 ≤ accN (s.extract i s.size) k ∧ accN (s.extract i s.size) k < 8388608 := fun k h4 h1 => acc_small _ (by rw [show bt (s.extract i s.size) 0 = bt s i from hbe 0, hn]; decide) k h4 h1
    have HA1 : Hid (leadBits (bt s i) = accN (s.extract i s.size) 1) := by
      show _ = leadBits (bt _ 0)
      rw [show bt (s.extract i s.size) 0 = bt s i from hbe 0]
    have HWG := hide hwg
    have HBAD := hide hbad
    have HBE := hide hbe
    clear hwg hbad hw0 hbe
    go_wp2
    go_quiet (fail)
    have hszq : (w.drewN nq).heap.size = w.heap.size := rfl
    rw [show (((w.alloc (Obj.cells #[.int .i64 0, .int .i64 0, .int .i32 0, .int .i64 0] 62)).alloc (Obj.cells #[.int .i64 i, .int .i64 1, .int .i32 65533, .int .i64 0] 62)).alloc (Obj.cells #[.int .i64 0, .int .i64 127, .int .i64 31, .int .i64 15, .int .i64 7] 3)).drewN nq = ((((w.drewN nq).alloc (Obj.cells #[.int .i64 0, .int .i64 0, .int .i32 0, .int .i64 0] 62)).alloc (Obj.cells #[.int .i64 i, .int .i64 1, .int .i32 65533, .int .i64 0] 62)).alloc (Obj.cells #[.int .i64 0, .int .i64 127, .int .i64 31, .int .i64 15, .int .i64 7] 3)) from rfl]
    rw [← hszq, unhide HA1]
    have hBx : Below w.heap.size w (w.drewN nq) := below_drewN (Below.refl _ _) nq

    clear hszq hm
    generalize hT : s.extract i s.size = T at *
    have HT := hide hT
    clear hT HA1
    generalize w.drewN nq = w' at *
    go_wp2
    go_loop [8, 9] (fun v8 v9 => ∃ k : Nat, 1 ≤ k ∧ k ≤ 4 ∧ i + k ≤ s.size ∧ v9 = .int .i64 k ∧ v8 = .int .i64 (accN T k) ∧ Hid (whyGo T 4 ((4 : Int) - k).toNat k (accN T k) = why s i)) (fun _ v9 => 4 - (intOf v9).toNat)
    case atStart => exact ⟨1, by omega, by omega, by omega, rfl, rfl, HWG⟩
    case round =>
      obtain ⟨k, hk1, hk2, hk3, rfl, rfl, HF⟩ := hrel
      have ha := hac k (by omega) hk1
      by_cases hk : k < 4
      · have hst := whyGo_step T 4 k (accN T k) (by omega)
        by_cases hsz : i + k < s.size
        · have c0 := bt_nonneg s (i + k)
          have c1 := bt_le s (i + k)
          rw [if_neg (by omega), unhide HBE k] at hst
          cases htl : tailB (bt s (i + k))
          · have HY : Hid (why s i = 12) := by show _ = _; rw [← HF.out, hst, htl]; rfl
            have hd : decide (bt s (i + k) < 128) = true ∨ (decide (bt s (i + k) < 128) = false ∧ decide (191 < bt s (i + k)) = true) := by
              unfold tailB at htl; simp at htl ⊢; omega
            clear hst htl hac
            rcases hd with d1 | ⟨d1, d2⟩
            all_goals
              go_wp2
              refine bodyPost_ret (v := spotV i 1 65533 12) (by simp [results, Try.f51, go_sem]) rfl ?_
              refine ⟨?_, below_w hBx (by go_grown)⟩
              have := unhide HBAD (by rw [unhide HY]; decide)
              rw [this, unhide HY]
          · have HF2 : Hid (whyGo T 4 ((4 : Int) - (k + 1 : Nat)).toNat (k + 1) (accN T (k + 1)) = why s i) := by
              show _ = _
              rw [← HF.out, hst, htl, acc_succ T k hk1, unhide HBE k]; rfl
            have HAC : Hid (accN T (k + 1) = accN T k * 64 + bt s (i + k) - 128) := by
              show _ = _
              rw [acc_succ T k hk1, unhide HBE k]
              unfold tailB at htl; simp at htl; omega
            have d1 : decide (bt s (i + k) < 128) = false := by unfold tailB at htl; simp at htl ⊢; omega
            have d2 : decide (191 < bt s (i + k)) = false := by unfold tailB at htl; simp at htl ⊢; omega
            clear hst htl hac
            go_wp2
            go_round
            case rel => exact ⟨k + 1, by omega, by omega, by omega, by go_num, by rw [unhide HAC], HF2⟩
            case measure => simp [intOf]; omega
        · have HY : Hid (why s i = 11) := by show _ = _; rw [← HF.out, hst, if_pos (by omega)]
          have d1 : decide ((s.size : Int) ≤ (i : Int) + (k : Int)) = true := by simp; omega
          clear hst hac
          go_wp2
          refine bodyPost_ret (v := spotV i 1 65533 11) (by simp [results, Try.f51, go_sem]) rfl ?_
          refine ⟨?_, below_w hBx (by go_grown)⟩
          have := unhide HBAD (by rw [unhide HY]; decide)
          rw [this, unhide HY]
      · obtain rfl : k = 4 := by omega
        have hen := HF.out
        rw [whyGo_end T 4 _ _ rfl] at hen
        have HDA := hide (dec_acc s i hi)
        rw [unhide HT] at HDA
        clear HF hac HBE
        generalize hAC : accN T 4 = A at *
        have HAC := hide hAC
        clear hAC
        unfold whyNoN at hen
        by_cases o1 : A < 65536
        · first
            | (exfalso; omega)
            | (have HY : Hid (why s i = 13) := by show _ = _; rw [← hen, if_pos (by unfold bytesN; (repeat' split) <;> omega)]
               have d1 : decide (A < 65536) = true := by simpa using o1
               clear hen
               go_wp2
               refine bodyPost_ret (v := spotV i 1 65533 13) (by simp [results, Try.f51, go_sem]) rfl ?_
               refine ⟨?_, below_w hBx (by go_grown)⟩
               have := unhide HBAD (by rw [unhide HY]; decide)
               rw [this, unhide HY])
        have d1 : decide (A < 65536) = false := by simpa using o1
        rw [if_neg (by unfold bytesN; (repeat' split) <;> omega)] at hen
        by_cases o2 : 55296 ≤ A ∧ A ≤ 57343
        · first
            | (exfalso; omega)
            | (have HY : Hid (why s i = 14) := by show _ = _; rw [← hen, if_pos (by unfold halfB; simp; omega)]
               have d2 : decide (55296 ≤ A) = true := by simp; omega
               have d3 : decide (A ≤ 57343) = true := by simp; omega
               clear hen
               go_wp2
               refine bodyPost_ret (v := spotV i 1 65533 14) (by simp [results, Try.f51, go_sem]) rfl ?_
               refine ⟨?_, below_w hBx (by go_grown)⟩
               have := unhide HBAD (by rw [unhide HY]; decide)
               rw [this, unhide HY])
        have d2 : decide (55296 ≤ A) = false ∨ (decide (55296 ≤ A) = true ∧ decide (A ≤ 57343) = false) := by simp; omega
        rw [if_neg (by unfold halfB; simp; omega)] at hen
        by_cases o3 : 1114111 < A
        · first
            | (exfalso; omega)
            | (have HY : Hid (why s i = 15) := by show _ = _; rw [← hen, if_pos o3]
               have d3 : decide (1114111 < A) = true := by simpa using o3
               clear hen
               rcases d2 with d2 | ⟨d2, d4⟩
               all_goals
                 go_wp2
                 refine bodyPost_ret (v := spotV i 1 65533 15) (by simp [results, Try.f51, go_sem]) rfl ?_
                 refine ⟨?_, below_w hBx (by go_grown)⟩
                 have := unhide HBAD (by rw [unhide HY]; decide)
                 rw [this, unhide HY])
        have d3 : decide (1114111 < A) = false := by simpa using o3
        rw [if_neg o3] at hen
        have HY : Hid (why s i = 0) := hide hen.symm
        clear hen
        rcases d2 with d2 | ⟨d2, d4⟩
        all_goals
          go_wp2
          refine bodyPost_ret (v := spotV i 4 A 0) (by simp [results, Try.f51, go_sem]) rfl ?_
          refine ⟨?_, below_w hBx (by go_grown)⟩
          obtain ⟨z1, z2⟩ := unhide HDA (unhide HY)
          have z3 : (Utf8.decode s i).2 = 4 := by omega
          rw [z3, unhide HAC] at z2
          show _ = Ending.returned (spotV _ _ _ (why s i))
          rw [z3, ← z2, unhide HY]
          rfl

end Go.Proofs.Ytkpmcojoiijonaa
