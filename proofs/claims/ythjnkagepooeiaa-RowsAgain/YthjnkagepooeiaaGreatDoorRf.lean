/-
  These texts, one behind the other: RefAt, RefSpots, All, Gather, PairRow, RefRunes.
-/
import Derived.Test.YthjnkagepooeiaaGreatDoorUb
import Derived.Deep.QuietTactic
import Derived.BigQuiet
/-
  The document's answer for one character (At of furrowref01), for every text and place.
-/
namespace Go.Proofs.YthjnkagepooeiaaGreatDoor
open Go.RowKit Go.PlainAid Go.Lib
set_option linter.unusedVariables false

theorem long_any (b : Int) (h0 : 0 ≤ b) (h1 : b ≤ 255) (w : World) : Calls Tryz.prog 197 #[.int .u8 b] w fun e w' => e = .returned (.int .i64 (leadN b)) ∧ w' = w := by
  go_enter Tryz.func197, Tryz.ntmps197
  go_wp2
  all_goals go_ret
  all_goals exact ⟨ret_int (by unfold leadN; (repeat' split) <;> omega), rfl⟩

theorem decB_acc (sz b0 b1 b2 b3 x n : Nat) (h : decB sz b0 b1 b2 b3 = (x, n)) (hb : bytesN x = n) :
    (n = 1 ∧ b0 < 128 ∧ x = b0) ∨ (n = 2 ∧ b0 / 32 = 6 ∧ x = b0 % 32 * 64 + b1 % 64) ∨ (n = 3 ∧ b0 / 16 = 14 ∧ x = b0 % 16 * 4096 + b1 % 64 * 64 + b2 % 64) ∨ (n = 4 ∧ b0 / 8 = 30 ∧ x = b0 % 8 * 262144 + b1 % 64 * 4096 + b2 % 64 * 64 + b3 % 64) := by
  have hbad : (65533, 1) = (x, n) → False := by
    intro e
    obtain ⟨rfl, rfl⟩ : x = 65533 ∧ n = 1 := by simpa [eq_comm] using e
    revert hb; decide
  unfold decB at h
  split at h
  · left; simp only [Prod.mk.injEq] at h; omega
  split at h
  · split at h
    · right; left; simp only [Prod.mk.injEq] at h; omega
    · exact (hbad h).elim
  split at h
  · split at h
    · right; right; left; simp only [Prod.mk.injEq] at h; omega
    · exact (hbad h).elim
  split at h
  · split at h
    · right; right; right; simp only [Prod.mk.injEq] at h; omega
    · exact (hbad h).elim
  exact (hbad h).elim
/-- a right sequence's number is what the bits make -/
theorem dec_acc (s : ByteArray) (i : Nat) (hi : i < s.size) (hw : why s i = 0) :
    (leadN (bt s i) = ((Utf8.decode s i).2 : Nat)) ∧ accN (s.extract i s.size) (Utf8.decode s i).2 = ((Utf8.decode s i).1 : Nat) := by
  rcases dec_why s i hi with ⟨_, x, n, h2, h3, h4, _⟩ | ⟨h1, _⟩
  · have hd := decode_decB s i hi
    rw [h2] at hd ⊢
    have b0 := bN_lt s i; have b1 := bN_lt s (i + 1); have b2 := bN_lt s (i + 2); have b3 := bN_lt s (i + 3)
    have e0 : bt (s.extract i s.size) 0 = (bN s i : Int) := by rw [bt_bN, bN_extract]; rfl
    have e1 : bt (s.extract i s.size) 1 = (bN s (i + 1) : Int) := by rw [bt_bN, bN_extract]
    have e2 : bt (s.extract i s.size) 2 = (bN s (i + 2) : Int) := by rw [bt_bN, bN_extract]
    have e3 : bt (s.extract i s.size) 3 = (bN s (i + 3) : Int) := by rw [bt_bN, bN_extract]
    rw [bt_bN]
    rcases decB_acc _ _ _ _ _ _ _ hd.symm h4 with ⟨rfl, k1, k2⟩ | ⟨rfl, k1, k2⟩ | ⟨rfl, k1, k2⟩ | ⟨rfl, k1, k2⟩
    · refine ⟨by unfold leadN; (repeat' split) <;> omega, ?_⟩
      show leadBits (bt _ 0) = (x : Int)
      rw [e0]; unfold leadBits; (repeat' split) <;> omega
    · refine ⟨by unfold leadN; (repeat' split) <;> omega, ?_⟩
      show leadBits (bt _ 0) * 64 + bt _ 1 % 64 = (x : Int)
      rw [e0, e1]; unfold leadBits; (repeat' split) <;> omega
    · refine ⟨by unfold leadN; (repeat' split) <;> omega, ?_⟩
      show (leadBits (bt _ 0) * 64 + bt _ 1 % 64) * 64 + bt _ 2 % 64 = (x : Int)
      rw [e0, e1, e2]; unfold leadBits; (repeat' split) <;> omega
    · refine ⟨by unfold leadN; (repeat' split) <;> omega, ?_⟩
      show ((leadBits (bt _ 0) * 64 + bt _ 1 % 64) * 64 + bt _ 2 % 64) * 64 + bt _ 3 % 64 = (x : Int)
      rw [e0, e1, e2, e3]; unfold leadBits; (repeat' split) <;> omega
  · exact absurd hw h1

theorem below_w {w w' W : World} (h : Below w.heap.size w w') (k : Below w'.heap.size w' W) : Below w.heap.size w W := h.trans (k.mono h.size)
theorem w64 (n : Int) (h₀ : 0 ≤ n) (h₁ : n < 2 ^ 8) : IntKind.i64.wrap n = n := by rw [IntKind.wrap_i64]; omega
theorem and64 (x : Int) (i : Nat) (hi : i ≤ 8) (h₀ : 0 ≤ x) (h₁ : x < 256) : bits .and .i64 x (2 ^ i - 1) = x % 2 ^ i := bits_mask .i64 8 (by decide) w64 i hi x h₀ h₁

set_option maxRecDepth 100000 in
set_option maxHeartbeats 2000000 in
theorem refAt_any (s : ByteArray) (i : Nat) (w : World) (hs : s.size ≤ 4398046511104) (hi : i < s.size) :
    Calls Tryz.prog 162 #[.string s, .int .i64 i] w fun e w' => e = .returned (spotOf s i) ∧ Below w.heap.size w w' := by
  have hb := get_bt s
  have b0 := bt_nonneg s i
  have b1 := bt_le s i
  go_enter Tryz.func162, Tryz.ntmps162
  go_wp2_with fail
  refine (long_any _ b0 b1 _).mono ?_
  rintro e w' ⟨rfl, rfl⟩
  have hex := extract_size s i
  have hbe : ∀ k, bt (s.extract i s.size) k = bt s (i + k) := bt_extract s i
  have hw0 : leadN (bt s i) = 0 → why s i = 10 := fun h => by
    have e0 : bt (s.extract i s.size) 0 = bt s i := hbe 0
    show whyN _ = 10
    unfold whyN; rw [e0, h]; rfl
  have hbad : why s i ≠ 0 → spotOf s i = spotV i 1 65533 (why s i) := fun h => by
    rcases dec_why s i hi with ⟨h1, _⟩ | ⟨_, h1⟩
    · exact absurd h1 h
    · show spotV _ _ _ _ = _
      rw [h1]; rfl
  rcases leadN_cases (bt s i) with hn | hn | hn | hn | hn
  · rw [hn]
    have hsp := hbad (by rw [hw0 hn]; decide)
    rw [hw0 hn] at hsp
    have HSP := hide hsp
    clear hsp hbad hw0 hbe
    go_wp2
    refine bodyPost_ret (v := spotV i 1 65533 10) (by simp [results, Tryz.f162, go_sem]) rfl ?_
    exact ⟨by rw [unhide HSP], by go_grown⟩
  · rw [hn]
    have hm : bits .and .i64 (bt s i) 127 = leadBits (bt s i) := by
      rw [show (127 : Int) = 2 ^ 7 - 1 from rfl, and64 _ _ (by decide) b0 (by omega)]
      unfold leadN at hn; unfold leadBits; revert hn; (repeat' split) <;> omega
    have hwg : whyGo (s.extract i s.size) 1 ((1 : Int) - (1 : Nat)).toNat 1 (accN (s.extract i s.size) 1) = why s i := by
      have e0 : bt (s.extract i s.size) 0 = bt s i := hbe 0
      show _ = whyN _
      unfold whyN; rw [e0, hn, if_neg (by decide)]
      show whyGo _ _ _ _ (leadBits (bt _ 0)) = _
      rw [e0]; rfl
    have hac : ∀ k, k ≤ 1 → 1 ≤ k → 0 ≤ accN (s.extract i s.size) k ∧ accN (s.extract i s.size) k < 128 := fun k h4 h1 => (by have hk : k = 1 := (by omega); subst hk; exact leadBits_le _ (bt_nonneg _ _))
    have HA1 : Hid (leadBits (bt s i) = accN (s.extract i s.size) 1) := by
      show _ = leadBits (bt _ 0)
      rw [show bt (s.extract i s.size) 0 = bt s i from hbe 0]
    have HWG := hide hwg
    have HBAD := hide hbad
    have HBE := hide hbe
    clear hwg hbad hw0 hbe
    go_wp2
    go_quiet (fail)
    have hszq : (w.drewN nq).heap.size = w.heap.size := rfl
    rw [show (((w.alloc (Obj.cells #[.int .i64 0, .int .i64 0, .int .i32 0, .int .i64 0] 210)).alloc (Obj.cells #[.int .i64 i, .int .i64 1, .int .i32 65533, .int .i64 0] 210)).alloc (Obj.cells #[.int .i64 0, .int .i64 127, .int .i64 31, .int .i64 15, .int .i64 7] 3)).drewN nq = ((((w.drewN nq).alloc (Obj.cells #[.int .i64 0, .int .i64 0, .int .i32 0, .int .i64 0] 210)).alloc (Obj.cells #[.int .i64 i, .int .i64 1, .int .i32 65533, .int .i64 0] 210)).alloc (Obj.cells #[.int .i64 0, .int .i64 127, .int .i64 31, .int .i64 15, .int .i64 7] 3)) from rfl]
    rw [← hszq, unhide HA1]
    have hBx : Below w.heap.size w (w.drewN nq) := below_drewN (Below.refl _ _) nq

    clear hszq hm
    generalize hT : s.extract i s.size = T at *
    have HT := hide hT
    clear hT HA1
    generalize w.drewN nq = w' at *
    go_wp2
    go_loop [8, 9] (fun v8 v9 => ∃ k : Nat, 1 ≤ k ∧ k ≤ 1 ∧ i + k ≤ s.size ∧ v9 = .int .i64 k ∧ v8 = .int .i64 (accN T k) ∧ Hid (whyGo T 1 ((1 : Int) - k).toNat k (accN T k) = why s i)) (fun _ v9 => 1 - (intOf v9).toNat)
    case atStart => exact ⟨1, by omega, by omega, by omega, rfl, rfl, HWG⟩
    case round =>
      obtain ⟨k, hk1, hk2, hk3, rfl, rfl, HF⟩ := hrel
      have ha := hac k (by omega) hk1
      by_cases hk : k < 1
      · exact absurd hk (by omega)
      · obtain rfl : k = 1 := by omega
        have hen := HF.out
        rw [whyGo_end T 1 _ _ rfl] at hen
        have HDA := hide (dec_acc s i hi)
        rw [unhide HT] at HDA
        clear HF hac HBE
        generalize hAC : accN T 1 = A at *
        have HAC := hide hAC
        clear hAC
        unfold whyNoN at hen
        by_cases o1 : A < 0
        · first
            | (exfalso; omega)
            | (have HY : Hid (why s i = 13) := by show _ = _; rw [← hen, if_pos (by unfold bytesN; (repeat' split) <;> omega)]
               have d1 : decide (A < 0) = true := by simpa using o1
               clear hen
               go_wp2
               refine bodyPost_ret (v := spotV i 1 65533 13) (by simp [results, Tryz.f162, go_sem]) rfl ?_
               refine ⟨?_, below_w hBx (by go_grown)⟩
               have := unhide HBAD (by rw [unhide HY]; decide)
               rw [this, unhide HY])
        have d1 : decide (A < 0) = false := by simpa using o1
        rw [if_neg (by unfold bytesN; (repeat' split) <;> omega)] at hen
        by_cases o2 : 55296 ≤ A ∧ A ≤ 57343
        · first
            | (exfalso; omega)
            | (have HY : Hid (why s i = 14) := by show _ = _; rw [← hen, if_pos (by unfold halfB; simp; omega)]
               have d2 : decide (55296 ≤ A) = true := by simp; omega
               have d3 : decide (A ≤ 57343) = true := by simp; omega
               clear hen
               go_wp2
               refine bodyPost_ret (v := spotV i 1 65533 14) (by simp [results, Tryz.f162, go_sem]) rfl ?_
               refine ⟨?_, below_w hBx (by go_grown)⟩
               have := unhide HBAD (by rw [unhide HY]; decide)
               rw [this, unhide HY])
        have d2 : decide (55296 ≤ A) = false ∨ (decide (55296 ≤ A) = true ∧ decide (A ≤ 57343) = false) := by simp; omega
        rw [if_neg (by unfold halfB; simp; omega)] at hen
        by_cases o3 : 1114111 < A
        · first
            | (exfalso; omega)
            | (have HY : Hid (why s i = 15) := by show _ = _; rw [← hen, if_pos o3]
               have d3 : decide (1114111 < A) = true := by simpa using o3
               clear hen
               rcases d2 with d2 | ⟨d2, d4⟩
               all_goals
                 go_wp2
                 refine bodyPost_ret (v := spotV i 1 65533 15) (by simp [results, Tryz.f162, go_sem]) rfl ?_
                 refine ⟨?_, below_w hBx (by go_grown)⟩
                 have := unhide HBAD (by rw [unhide HY]; decide)
                 rw [this, unhide HY])
        have d3 : decide (1114111 < A) = false := by simpa using o3
        rw [if_neg o3] at hen
        have HY : Hid (why s i = 0) := hide hen.symm
        clear hen
        rcases d2 with d2 | ⟨d2, d4⟩
        all_goals
          go_wp2
          refine bodyPost_ret (v := spotV i 1 A 0) (by simp [results, Tryz.f162, go_sem]) rfl ?_
          refine ⟨?_, below_w hBx (by go_grown)⟩
          obtain ⟨z1, z2⟩ := unhide HDA (unhide HY)
          have z3 : (Utf8.decode s i).2 = 1 := by omega
          rw [z3, unhide HAC] at z2
          show _ = Ending.returned (spotV _ _ _ (why s i))
          rw [z3, ← z2, unhide HY]
          rfl
  · rw [hn]
    have hm : bits .and .i64 (bt s i) 31 = leadBits (bt s i) := by
      rw [show (31 : Int) = 2 ^ 5 - 1 from rfl, and64 _ _ (by decide) b0 (by omega)]
      unfold leadN at hn; unfold leadBits; revert hn; (repeat' split) <;> omega
    have hwg : whyGo (s.extract i s.size) 2 ((2 : Int) - (1 : Nat)).toNat 1 (accN (s.extract i s.size) 1) = why s i := by
      have e0 : bt (s.extract i s.size) 0 = bt s i := hbe 0
      show _ = whyN _
      unfold whyN; rw [e0, hn, if_neg (by decide)]
      show whyGo _ _ _ _ (leadBits (bt _ 0)) = _
      rw [e0]; rfl
    have hac : ∀ k, k ≤ 4 → 1 ≤ k → 0 ≤ accN (s.extract i s.size) k ∧ accN (s.extract i s.size) k < 8388608 := fun k h4 h1 => acc_small _ (by rw [show bt (s.extract i s.size) 0 = bt s i from hbe 0, hn]; decide) k h4 h1
    have HA1 : Hid (leadBits (bt s i) = accN (s.extract i s.size) 1) := by
      show _ = leadBits (bt _ 0)
      rw [show bt (s.extract i s.size) 0 = bt s i from hbe 0]
    have HWG := hide hwg
    have HBAD := hide hbad
    have HBE := hide hbe
    clear hwg hbad hw0 hbe
    go_wp2
    go_quiet (fail)
    have hszq : (w.drewN nq).heap.size = w.heap.size := rfl
    rw [show (((w.alloc (Obj.cells #[.int .i64 0, .int .i64 0, .int .i32 0, .int .i64 0] 210)).alloc (Obj.cells #[.int .i64 i, .int .i64 1, .int .i32 65533, .int .i64 0] 210)).alloc (Obj.cells #[.int .i64 0, .int .i64 127, .int .i64 31, .int .i64 15, .int .i64 7] 3)).drewN nq = ((((w.drewN nq).alloc (Obj.cells #[.int .i64 0, .int .i64 0, .int .i32 0, .int .i64 0] 210)).alloc (Obj.cells #[.int .i64 i, .int .i64 1, .int .i32 65533, .int .i64 0] 210)).alloc (Obj.cells #[.int .i64 0, .int .i64 127, .int .i64 31, .int .i64 15, .int .i64 7] 3)) from rfl]
    rw [← hszq, unhide HA1]
    have hBx : Below w.heap.size w (w.drewN nq) := below_drewN (Below.refl _ _) nq

    clear hszq hm
    generalize hT : s.extract i s.size = T at *
    have HT := hide hT
    clear hT HA1
    generalize w.drewN nq = w' at *
    go_wp2
    go_loop [8, 9] (fun v8 v9 => ∃ k : Nat, 1 ≤ k ∧ k ≤ 2 ∧ i + k ≤ s.size ∧ v9 = .int .i64 k ∧ v8 = .int .i64 (accN T k) ∧ Hid (whyGo T 2 ((2 : Int) - k).toNat k (accN T k) = why s i)) (fun _ v9 => 2 - (intOf v9).toNat)
    case atStart => exact ⟨1, by omega, by omega, by omega, rfl, rfl, HWG⟩
    case round =>
      obtain ⟨k, hk1, hk2, hk3, rfl, rfl, HF⟩ := hrel
      have ha := hac k (by omega) hk1
      by_cases hk : k < 2
      · have hst := whyGo_step T 2 k (accN T k) (by omega)
        by_cases hsz : i + k < s.size
        · have c0 := bt_nonneg s (i + k)
          have c1 := bt_le s (i + k)
          rw [if_neg (by omega), unhide HBE k] at hst
          cases htl : tailB (bt s (i + k))
          · have HY : Hid (why s i = 12) := by show _ = _; rw [← HF.out, hst, htl]; rfl
            have hd : decide (bt s (i + k) < 128) = true ∨ (decide (bt s (i + k) < 128) = false ∧ decide (191 < bt s (i + k)) = true) := by
              unfold tailB at htl; simp at htl ⊢; omega
            clear hst htl hac
            rcases hd with d1 | ⟨d1, d2⟩
            all_goals
              go_wp2
              refine bodyPost_ret (v := spotV i 1 65533 12) (by simp [results, Tryz.f162, go_sem]) rfl ?_
              refine ⟨?_, below_w hBx (by go_grown)⟩
              have := unhide HBAD (by rw [unhide HY]; decide)
              rw [this, unhide HY]
          · have HF2 : Hid (whyGo T 2 ((2 : Int) - (k + 1 : Nat)).toNat (k + 1) (accN T (k + 1)) = why s i) := by
              show _ = _
              rw [← HF.out, hst, htl, acc_succ T k hk1, unhide HBE k]; rfl
            have HAC : Hid (accN T (k + 1) = accN T k * 64 + bt s (i + k) - 128) := by
              show _ = _
              rw [acc_succ T k hk1, unhide HBE k]
              unfold tailB at htl; simp at htl; omega
            have d1 : decide (bt s (i + k) < 128) = false := by unfold tailB at htl; simp at htl ⊢; omega
            have d2 : decide (191 < bt s (i + k)) = false := by unfold tailB at htl; simp at htl ⊢; omega
            clear hst htl hac
            go_wp2
            go_round
            case rel => exact ⟨k + 1, by omega, by omega, by omega, by go_num, by rw [unhide HAC], HF2⟩
            case measure => simp [intOf]; omega
        · have HY : Hid (why s i = 11) := by show _ = _; rw [← HF.out, hst, if_pos (by omega)]
          have d1 : decide ((s.size : Int) ≤ (i : Int) + (k : Int)) = true := by simp; omega
          clear hst hac
          go_wp2
          refine bodyPost_ret (v := spotV i 1 65533 11) (by simp [results, Tryz.f162, go_sem]) rfl ?_
          refine ⟨?_, below_w hBx (by go_grown)⟩
          have := unhide HBAD (by rw [unhide HY]; decide)
          rw [this, unhide HY]
      · obtain rfl : k = 2 := by omega
        have hen := HF.out
        rw [whyGo_end T 2 _ _ rfl] at hen
        have HDA := hide (dec_acc s i hi)
        rw [unhide HT] at HDA
        clear HF hac HBE
        generalize hAC : accN T 2 = A at *
        have HAC := hide hAC
        clear hAC
        unfold whyNoN at hen
        by_cases o1 : A < 128
        · first
            | (exfalso; omega)
            | (have HY : Hid (why s i = 13) := by show _ = _; rw [← hen, if_pos (by unfold bytesN; (repeat' split) <;> omega)]
               have d1 : decide (A < 128) = true := by simpa using o1
               clear hen
               go_wp2
               refine bodyPost_ret (v := spotV i 1 65533 13) (by simp [results, Tryz.f162, go_sem]) rfl ?_
               refine ⟨?_, below_w hBx (by go_grown)⟩
               have := unhide HBAD (by rw [unhide HY]; decide)
               rw [this, unhide HY])
        have d1 : decide (A < 128) = false := by simpa using o1
        rw [if_neg (by unfold bytesN; (repeat' split) <;> omega)] at hen
        by_cases o2 : 55296 ≤ A ∧ A ≤ 57343
        · first
            | (exfalso; omega)
            | (have HY : Hid (why s i = 14) := by show _ = _; rw [← hen, if_pos (by unfold halfB; simp; omega)]
               have d2 : decide (55296 ≤ A) = true := by simp; omega
               have d3 : decide (A ≤ 57343) = true := by simp; omega
               clear hen
               go_wp2
               refine bodyPost_ret (v := spotV i 1 65533 14) (by simp [results, Tryz.f162, go_sem]) rfl ?_
               refine ⟨?_, below_w hBx (by go_grown)⟩
               have := unhide HBAD (by rw [unhide HY]; decide)
               rw [this, unhide HY])
        have d2 : decide (55296 ≤ A) = false ∨ (decide (55296 ≤ A) = true ∧ decide (A ≤ 57343) = false) := by simp; omega
        rw [if_neg (by unfold halfB; simp; omega)] at hen
        by_cases o3 : 1114111 < A
        · first
            | (exfalso; omega)
            | (have HY : Hid (why s i = 15) := by show _ = _; rw [← hen, if_pos o3]
               have d3 : decide (1114111 < A) = true := by simpa using o3
               clear hen
               rcases d2 with d2 | ⟨d2, d4⟩
               all_goals
                 go_wp2
                 refine bodyPost_ret (v := spotV i 1 65533 15) (by simp [results, Tryz.f162, go_sem]) rfl ?_
                 refine ⟨?_, below_w hBx (by go_grown)⟩
                 have := unhide HBAD (by rw [unhide HY]; decide)
                 rw [this, unhide HY])
        have d3 : decide (1114111 < A) = false := by simpa using o3
        rw [if_neg o3] at hen
        have HY : Hid (why s i = 0) := hide hen.symm
        clear hen
        rcases d2 with d2 | ⟨d2, d4⟩
        all_goals
          go_wp2
          refine bodyPost_ret (v := spotV i 2 A 0) (by simp [results, Tryz.f162, go_sem]) rfl ?_
          refine ⟨?_, below_w hBx (by go_grown)⟩
          obtain ⟨z1, z2⟩ := unhide HDA (unhide HY)
          have z3 : (Utf8.decode s i).2 = 2 := by omega
          rw [z3, unhide HAC] at z2
          show _ = Ending.returned (spotV _ _ _ (why s i))
          rw [z3, ← z2, unhide HY]
          rfl
  · rw [hn]
    have hm : bits .and .i64 (bt s i) 15 = leadBits (bt s i) := by
      rw [show (15 : Int) = 2 ^ 4 - 1 from rfl, and64 _ _ (by decide) b0 (by omega)]
      unfold leadN at hn; unfold leadBits; revert hn; (repeat' split) <;> omega
    have hwg : whyGo (s.extract i s.size) 3 ((3 : Int) - (1 : Nat)).toNat 1 (accN (s.extract i s.size) 1) = why s i := by
      have e0 : bt (s.extract i s.size) 0 = bt s i := hbe 0
      show _ = whyN _
      unfold whyN; rw [e0, hn, if_neg (by decide)]
      show whyGo _ _ _ _ (leadBits (bt _ 0)) = _
      rw [e0]; rfl
    have hac : ∀ k, k ≤ 4 → 1 ≤ k → 0 ≤ accN (s.extract i s.size) k ∧ accN (s.extract i s.size) k < 8388608 := fun k h4 h1 => acc_small _ (by rw [show bt (s.extract i s.size) 0 = bt s i from hbe 0, hn]; decide) k h4 h1
    have HA1 : Hid (leadBits (bt s i) = accN (s.extract i s.size) 1) := by
      show _ = leadBits (bt _ 0)
      rw [show bt (s.extract i s.size) 0 = bt s i from hbe 0]
    have HWG := hide hwg
    have HBAD := hide hbad
    have HBE := hide hbe
    clear hwg hbad hw0 hbe
    go_wp2
    go_quiet (fail)
    have hszq : (w.drewN nq).heap.size = w.heap.size := rfl
    rw [show (((w.alloc (Obj.cells #[.int .i64 0, .int .i64 0, .int .i32 0, .int .i64 0] 210)).alloc (Obj.cells #[.int .i64 i, .int .i64 1, .int .i32 65533, .int .i64 0] 210)).alloc (Obj.cells #[.int .i64 0, .int .i64 127, .int .i64 31, .int .i64 15, .int .i64 7] 3)).drewN nq = ((((w.drewN nq).alloc (Obj.cells #[.int .i64 0, .int .i64 0, .int .i32 0, .int .i64 0] 210)).alloc (Obj.cells #[.int .i64 i, .int .i64 1, .int .i32 65533, .int .i64 0] 210)).alloc (Obj.cells #[.int .i64 0, .int .i64 127, .int .i64 31, .int .i64 15, .int .i64 7] 3)) from rfl]
    rw [← hszq, unhide HA1]
    have hBx : Below w.heap.size w (w.drewN nq) := below_drewN (Below.refl _ _) nq

    clear hszq hm
    generalize hT : s.extract i s.size = T at *
    have HT := hide hT
    clear hT HA1
    generalize w.drewN nq = w' at *
    go_wp2
    go_loop [8, 9] (fun v8 v9 => ∃ k : Nat, 1 ≤ k ∧ k ≤ 3 ∧ i + k ≤ s.size ∧ v9 = .int .i64 k ∧ v8 = .int .i64 (accN T k) ∧ Hid (whyGo T 3 ((3 : Int) - k).toNat k (accN T k) = why s i)) (fun _ v9 => 3 - (intOf v9).toNat)
    case atStart => exact ⟨1, by omega, by omega, by omega, rfl, rfl, HWG⟩
    case round =>
      obtain ⟨k, hk1, hk2, hk3, rfl, rfl, HF⟩ := hrel
      have ha := hac k (by omega) hk1
      by_cases hk : k < 3
      · have hst := whyGo_step T 3 k (accN T k) (by omega)
        by_cases hsz : i + k < s.size
        · have c0 := bt_nonneg s (i + k)
          have c1 := bt_le s (i + k)
          rw [if_neg (by omega), unhide HBE k] at hst
          cases htl : tailB (bt s (i + k))
          · have HY : Hid (why s i = 12) := by show _ = _; rw [← HF.out, hst, htl]; rfl
            have hd : decide (bt s (i + k) < 128) = true ∨ (decide (bt s (i + k) < 128) = false ∧ decide (191 < bt s (i + k)) = true) := by
              unfold tailB at htl; simp at htl ⊢; omega
            clear hst htl hac
            rcases hd with d1 | ⟨d1, d2⟩
            all_goals
              go_wp2
              refine bodyPost_ret (v := spotV i 1 65533 12) (by simp [results, Tryz.f162, go_sem]) rfl ?_
              refine ⟨?_, below_w hBx (by go_grown)⟩
              have := unhide HBAD (by rw [unhide HY]; decide)
              rw [this, unhide HY]
          · have HF2 : Hid (whyGo T 3 ((3 : Int) - (k + 1 : Nat)).toNat (k + 1) (accN T (k + 1)) = why s i) := by
              show _ = _
              rw [← HF.out, hst, htl, acc_succ T k hk1, unhide HBE k]; rfl
            have HAC : Hid (accN T (k + 1) = accN T k * 64 + bt s (i + k) - 128) := by
              show _ = _
              rw [acc_succ T k hk1, unhide HBE k]
              unfold tailB at htl; simp at htl; omega
            have d1 : decide (bt s (i + k) < 128) = false := by unfold tailB at htl; simp at htl ⊢; omega
            have d2 : decide (191 < bt s (i + k)) = false := by unfold tailB at htl; simp at htl ⊢; omega
            clear hst htl hac
            go_wp2
            go_round
            case rel => exact ⟨k + 1, by omega, by omega, by omega, by go_num, by rw [unhide HAC], HF2⟩
            case measure => simp [intOf]; omega
        · have HY : Hid (why s i = 11) := by show _ = _; rw [← HF.out, hst, if_pos (by omega)]
          have d1 : decide ((s.size : Int) ≤ (i : Int) + (k : Int)) = true := by simp; omega
          clear hst hac
          go_wp2
          refine bodyPost_ret (v := spotV i 1 65533 11) (by simp [results, Tryz.f162, go_sem]) rfl ?_
          refine ⟨?_, below_w hBx (by go_grown)⟩
          have := unhide HBAD (by rw [unhide HY]; decide)
          rw [this, unhide HY]
      · obtain rfl : k = 3 := by omega
        have hen := HF.out
        rw [whyGo_end T 3 _ _ rfl] at hen
        have HDA := hide (dec_acc s i hi)
        rw [unhide HT] at HDA
        clear HF hac HBE
        generalize hAC : accN T 3 = A at *
        have HAC := hide hAC
        clear hAC
        unfold whyNoN at hen
        by_cases o1 : A < 2048
        · first
            | (exfalso; omega)
            | (have HY : Hid (why s i = 13) := by show _ = _; rw [← hen, if_pos (by unfold bytesN; (repeat' split) <;> omega)]
               have d1 : decide (A < 2048) = true := by simpa using o1
               clear hen
               go_wp2
               refine bodyPost_ret (v := spotV i 1 65533 13) (by simp [results, Tryz.f162, go_sem]) rfl ?_
               refine ⟨?_, below_w hBx (by go_grown)⟩
               have := unhide HBAD (by rw [unhide HY]; decide)
               rw [this, unhide HY])
        have d1 : decide (A < 2048) = false := by simpa using o1
        rw [if_neg (by unfold bytesN; (repeat' split) <;> omega)] at hen
        by_cases o2 : 55296 ≤ A ∧ A ≤ 57343
        · first
            | (exfalso; omega)
            | (have HY : Hid (why s i = 14) := by show _ = _; rw [← hen, if_pos (by unfold halfB; simp; omega)]
               have d2 : decide (55296 ≤ A) = true := by simp; omega
               have d3 : decide (A ≤ 57343) = true := by simp; omega
               clear hen
               go_wp2
               refine bodyPost_ret (v := spotV i 1 65533 14) (by simp [results, Tryz.f162, go_sem]) rfl ?_
               refine ⟨?_, below_w hBx (by go_grown)⟩
               have := unhide HBAD (by rw [unhide HY]; decide)
               rw [this, unhide HY])
        have d2 : decide (55296 ≤ A) = false ∨ (decide (55296 ≤ A) = true ∧ decide (A ≤ 57343) = false) := by simp; omega
        rw [if_neg (by unfold halfB; simp; omega)] at hen
        by_cases o3 : 1114111 < A
        · first
            | (exfalso; omega)
            | (have HY : Hid (why s i = 15) := by show _ = _; rw [← hen, if_pos o3]
               have d3 : decide (1114111 < A) = true := by simpa using o3
               clear hen
               rcases d2 with d2 | ⟨d2, d4⟩
               all_goals
                 go_wp2
                 refine bodyPost_ret (v := spotV i 1 65533 15) (by simp [results, Tryz.f162, go_sem]) rfl ?_
                 refine ⟨?_, below_w hBx (by go_grown)⟩
                 have := unhide HBAD (by rw [unhide HY]; decide)
                 rw [this, unhide HY])
        have d3 : decide (1114111 < A) = false := by simpa using o3
        rw [if_neg o3] at hen
        have HY : Hid (why s i = 0) := hide hen.symm
        clear hen
        rcases d2 with d2 | ⟨d2, d4⟩
        all_goals
          go_wp2
          refine bodyPost_ret (v := spotV i 3 A 0) (by simp [results, Tryz.f162, go_sem]) rfl ?_
          refine ⟨?_, below_w hBx (by go_grown)⟩
          obtain ⟨z1, z2⟩ := unhide HDA (unhide HY)
          have z3 : (Utf8.decode s i).2 = 3 := by omega
          rw [z3, unhide HAC] at z2
          show _ = Ending.returned (spotV _ _ _ (why s i))
          rw [z3, ← z2, unhide HY]
          rfl
  · rw [hn]
    have hm : bits .and .i64 (bt s i) 7 = leadBits (bt s i) := by
      rw [show (7 : Int) = 2 ^ 3 - 1 from rfl, and64 _ _ (by decide) b0 (by omega)]
      unfold leadN at hn; unfold leadBits; revert hn; (repeat' split) <;> omega
    have hwg : whyGo (s.extract i s.size) 4 ((4 : Int) - (1 : Nat)).toNat 1 (accN (s.extract i s.size) 1) = why s i := by
      have e0 : bt (s.extract i s.size) 0 = bt s i := hbe 0
      show _ = whyN _
      unfold whyN; rw [e0, hn, if_neg (by decide)]
      show whyGo _ _ _ _ (leadBits (bt _ 0)) = _
      rw [e0]; rfl
    have hac : ∀ k, k ≤ 4 → 1 ≤ k → 0 ≤ accN (s.extract i s.size) k ∧ accN (s.extract i s.size) k < 8388608 := fun k h4 h1 => acc_small _ (by rw [show bt (s.extract i s.size) 0 = bt s i from hbe 0, hn]; decide) k h4 h1
    have HA1 : Hid (leadBits (bt s i) = accN (s.extract i s.size) 1) := by
      show _ = leadBits (bt _ 0)
      rw [show bt (s.extract i s.size) 0 = bt s i from hbe 0]
    have HWG := hide hwg
    have HBAD := hide hbad
    have HBE := hide hbe
    clear hwg hbad hw0 hbe
    go_wp2
    go_quiet (fail)
    have hszq : (w.drewN nq).heap.size = w.heap.size := rfl
    rw [show (((w.alloc (Obj.cells #[.int .i64 0, .int .i64 0, .int .i32 0, .int .i64 0] 210)).alloc (Obj.cells #[.int .i64 i, .int .i64 1, .int .i32 65533, .int .i64 0] 210)).alloc (Obj.cells #[.int .i64 0, .int .i64 127, .int .i64 31, .int .i64 15, .int .i64 7] 3)).drewN nq = ((((w.drewN nq).alloc (Obj.cells #[.int .i64 0, .int .i64 0, .int .i32 0, .int .i64 0] 210)).alloc (Obj.cells #[.int .i64 i, .int .i64 1, .int .i32 65533, .int .i64 0] 210)).alloc (Obj.cells #[.int .i64 0, .int .i64 127, .int .i64 31, .int .i64 15, .int .i64 7] 3)) from rfl]
    rw [← hszq, unhide HA1]
    have hBx : Below w.heap.size w (w.drewN nq) := below_drewN (Below.refl _ _) nq

    clear hszq hm
    generalize hT : s.extract i s.size = T at *
    have HT := hide hT
    clear hT HA1
    generalize w.drewN nq = w' at *
    go_wp2
    go_loop [8, 9] (fun v8 v9 => ∃ k : Nat, 1 ≤ k ∧ k ≤ 4 ∧ i + k ≤ s.size ∧ v9 = .int .i64 k ∧ v8 = .int .i64 (accN T k) ∧ Hid (whyGo T 4 ((4 : Int) - k).toNat k (accN T k) = why s i)) (fun _ v9 => 4 - (intOf v9).toNat)
    case atStart => exact ⟨1, by omega, by omega, by omega, rfl, rfl, HWG⟩
    case round =>
      obtain ⟨k, hk1, hk2, hk3, rfl, rfl, HF⟩ := hrel
      have ha := hac k (by omega) hk1
      by_cases hk : k < 4
      · have hst := whyGo_step T 4 k (accN T k) (by omega)
        by_cases hsz : i + k < s.size
        · have c0 := bt_nonneg s (i + k)
          have c1 := bt_le s (i + k)
          rw [if_neg (by omega), unhide HBE k] at hst
          cases htl : tailB (bt s (i + k))
          · have HY : Hid (why s i = 12) := by show _ = _; rw [← HF.out, hst, htl]; rfl
            have hd : decide (bt s (i + k) < 128) = true ∨ (decide (bt s (i + k) < 128) = false ∧ decide (191 < bt s (i + k)) = true) := by
              unfold tailB at htl; simp at htl ⊢; omega
            clear hst htl hac
            rcases hd with d1 | ⟨d1, d2⟩
            all_goals
              go_wp2
              refine bodyPost_ret (v := spotV i 1 65533 12) (by simp [results, Tryz.f162, go_sem]) rfl ?_
              refine ⟨?_, below_w hBx (by go_grown)⟩
              have := unhide HBAD (by rw [unhide HY]; decide)
              rw [this, unhide HY]
          · have HF2 : Hid (whyGo T 4 ((4 : Int) - (k + 1 : Nat)).toNat (k + 1) (accN T (k + 1)) = why s i) := by
              show _ = _
              rw [← HF.out, hst, htl, acc_succ T k hk1, unhide HBE k]; rfl
            have HAC : Hid (accN T (k + 1) = accN T k * 64 + bt s (i + k) - 128) := by
              show _ = _
              rw [acc_succ T k hk1, unhide HBE k]
              unfold tailB at htl; simp at htl; omega
            have d1 : decide (bt s (i + k) < 128) = false := by unfold tailB at htl; simp at htl ⊢; omega
            have d2 : decide (191 < bt s (i + k)) = false := by unfold tailB at htl; simp at htl ⊢; omega
            clear hst htl hac
            go_wp2
            go_round
            case rel => exact ⟨k + 1, by omega, by omega, by omega, by go_num, by rw [unhide HAC], HF2⟩
            case measure => simp [intOf]; omega
        · have HY : Hid (why s i = 11) := by show _ = _; rw [← HF.out, hst, if_pos (by omega)]
          have d1 : decide ((s.size : Int) ≤ (i : Int) + (k : Int)) = true := by simp; omega
          clear hst hac
          go_wp2
          refine bodyPost_ret (v := spotV i 1 65533 11) (by simp [results, Tryz.f162, go_sem]) rfl ?_
          refine ⟨?_, below_w hBx (by go_grown)⟩
          have := unhide HBAD (by rw [unhide HY]; decide)
          rw [this, unhide HY]
      · obtain rfl : k = 4 := by omega
        have hen := HF.out
        rw [whyGo_end T 4 _ _ rfl] at hen
        have HDA := hide (dec_acc s i hi)
        rw [unhide HT] at HDA
        clear HF hac HBE
        generalize hAC : accN T 4 = A at *
        have HAC := hide hAC
        clear hAC
        unfold whyNoN at hen
        by_cases o1 : A < 65536
        · first
            | (exfalso; omega)
            | (have HY : Hid (why s i = 13) := by show _ = _; rw [← hen, if_pos (by unfold bytesN; (repeat' split) <;> omega)]
               have d1 : decide (A < 65536) = true := by simpa using o1
               clear hen
               go_wp2
               refine bodyPost_ret (v := spotV i 1 65533 13) (by simp [results, Tryz.f162, go_sem]) rfl ?_
               refine ⟨?_, below_w hBx (by go_grown)⟩
               have := unhide HBAD (by rw [unhide HY]; decide)
               rw [this, unhide HY])
        have d1 : decide (A < 65536) = false := by simpa using o1
        rw [if_neg (by unfold bytesN; (repeat' split) <;> omega)] at hen
        by_cases o2 : 55296 ≤ A ∧ A ≤ 57343
        · first
            | (exfalso; omega)
            | (have HY : Hid (why s i = 14) := by show _ = _; rw [← hen, if_pos (by unfold halfB; simp; omega)]
               have d2 : decide (55296 ≤ A) = true := by simp; omega
               have d3 : decide (A ≤ 57343) = true := by simp; omega
               clear hen
               go_wp2
               refine bodyPost_ret (v := spotV i 1 65533 14) (by simp [results, Tryz.f162, go_sem]) rfl ?_
               refine ⟨?_, below_w hBx (by go_grown)⟩
               have := unhide HBAD (by rw [unhide HY]; decide)
               rw [this, unhide HY])
        have d2 : decide (55296 ≤ A) = false ∨ (decide (55296 ≤ A) = true ∧ decide (A ≤ 57343) = false) := by simp; omega
        rw [if_neg (by unfold halfB; simp; omega)] at hen
        by_cases o3 : 1114111 < A
        · first
            | (exfalso; omega)
            | (have HY : Hid (why s i = 15) := by show _ = _; rw [← hen, if_pos o3]
               have d3 : decide (1114111 < A) = true := by simpa using o3
               clear hen
               rcases d2 with d2 | ⟨d2, d4⟩
               all_goals
                 go_wp2
                 refine bodyPost_ret (v := spotV i 1 65533 15) (by simp [results, Tryz.f162, go_sem]) rfl ?_
                 refine ⟨?_, below_w hBx (by go_grown)⟩
                 have := unhide HBAD (by rw [unhide HY]; decide)
                 rw [this, unhide HY])
        have d3 : decide (1114111 < A) = false := by simpa using o3
        rw [if_neg o3] at hen
        have HY : Hid (why s i = 0) := hide hen.symm
        clear hen
        rcases d2 with d2 | ⟨d2, d4⟩
        all_goals
          go_wp2
          refine bodyPost_ret (v := spotV i 4 A 0) (by simp [results, Tryz.f162, go_sem]) rfl ?_
          refine ⟨?_, below_w hBx (by go_grown)⟩
          obtain ⟨z1, z2⟩ := unhide HDA (unhide HY)
          have z3 : (Utf8.decode s i).2 = 4 := by omega
          rw [z3, unhide HAC] at z2
          show _ = Ending.returned (spotV _ _ _ (why s i))
          rw [z3, ← z2, unhide HY]
          rfl

end Go.Proofs.YthjnkagepooeiaaGreatDoor
/-
  The document's list of Spots (Spots of furrowref01), for every text.
-/
namespace Go.Proofs.YthjnkagepooeiaaGreatDoor
open Go.RowKit Go.PlainAid Go.Lib
set_option linter.unusedVariables false

theorem infoSpot : (Tryz.prog.info? 210).map (fun i => (i.zero, i.size, i.bytes)) = some (some (.agg #[.int .i64 0, .int .i64 0, .int .i32 0, .int .i64 0]), 4, 32) := by kernel_rfl

/-- the cells of the Spots of the characters at the places l -/
def spotCs (s : ByteArray) (l : List Nat) : List Value := l.flatMap fun i => [.int .i64 (i : Nat), .int .i64 ((Utf8.decode s i).2 : Nat), .int .i32 ((Utf8.decode s i).1 : Nat), .int .i64 (why s i)]
theorem spotCs_snoc (s : ByteArray) (l : List Nat) (i : Nat) : spotCs s (l ++ [i]) = spotCs s l ++ [.int .i64 (i : Nat), .int .i64 ((Utf8.decode s i).2 : Nat), .int .i32 ((Utf8.decode s i).1 : Nat), .int .i64 (why s i)] := by simp [spotCs]
theorem row_below2 {w w' : World} {base : Nat} {e : TypeId} {size : Nat} {v : Value} {n : Nat} {xs : List Value} (h : w.ownsRow base e size v n xs) (hb : Below w.heap.size w w') : w'.ownsRow base e size v n xs := by
  refine ⟨h.1, ?_⟩
  rcases h.2 with h | ⟨g, cap, cur, h1, h2, h3, h4⟩
  · exact .inl h
  · exact .inr ⟨g, cap, cur, h1, h2, (hb.block g (Array.getElem?_eq_some_iff.1 h3).1).trans h3, h4⟩
theorem cell_four_new (w : World) (a b c d : Value) (t : TypeId) : ∀ j u, [a, b, c, d][j]? = some u → (w.alloc (.cells #[a, b, c, d] t)).cell? ((⟨w.heap.size, 0, none⟩ : Addr).add j) = some u := by
  intro j u hj
  match j, hj with
  | 0, hj => simp at hj; subst hj; simp [Addr.add]
  | 1, hj => simp at hj; subst hj; simp [Addr.add]
  | 2, hj => simp at hj; subst hj; simp [Addr.add]
  | 3, hj => simp at hj; subst hj; simp [Addr.add]
  | j + 4, hj => simp at hj
theorem below_grown2 {a W w4 : World} {B : Nat} {e : TypeId} {size : Nat} {v : Value} {n : Nat} {xs : List Value} (hB : Below B a W) (hB' : B ≤ W.heap.size) (h : W.ownsRow B e size v n xs) (hg : W.grownBy w4 v.ownBlock) : Below B a w4 :=
  hB.grown hg hB' (fun k e1 => (h.lt k e1).1)
theorem cell_four (w : World) (b : Nat) (x y z u : Value) (t : TypeId) (h : w.heap[b]? = some (.cells #[x, y, z, u] t)) : w.cell? ⟨b, 0, none⟩ = some x ∧ w.cell? ⟨b, 1, none⟩ = some y ∧ w.cell? ⟨b, 2, none⟩ = some z ∧ w.cell? ⟨b, 3, none⟩ = some u := by
  refine ⟨?_, ?_, ?_, ?_⟩ <;> simp [World.cell?, h]

set_option maxRecDepth 100000 in
set_option maxHeartbeats 2000000 in
theorem refSpots_any (s : ByteArray) (w : World) (hs : s.size ≤ 1099511627776) :
    Calls Tryz.prog 125 #[.string s] w fun e w' => ∃ v, e = .returned v ∧ w'.ownsRow w.heap.size 210 4 v (places s).length (spotCs s (places s)) ∧ Below w.heap.size w w' := by
  obtain ⟨i0, hi, hz0, hz1, hz2⟩ := info_parts infoSpot
  have hcl := chars_length s 0
  go_enter Tryz.func125, Tryz.ntmps125
  go_wp2
  go_loopw [3, 4] (fun v3 v4 wr => ∃ (pos : Nat) (pre : List Nat), Hid (pre ++ (chars s pos).map (·.1) = places s) ∧ pos ≤ s.size ∧ v4 = .int .i64 pos ∧ wr.ownsRow w.heap.size 210 4 v3 pre.length (spotCs s pre) ∧ Below w.heap.size w wr) (fun _ v4 _ => s.size - (intOf v4).toNat)
  case atStart => exact ⟨0, [], rfl, Nat.zero_le _, rfl, by simpa [spotCs] using World.ownsRow_nil w _ _ _, Below.refl _ _⟩
  case round =>
    obtain ⟨pos, pre, HP, hps, rfl, hrow, hB⟩ := hrel
    by_cases hlt : pos < s.size
    · have hb := dec_bounds s pos hlt
      have HP2 : Hid (pre ++ [pos] ++ (chars s (pos + (Utf8.decode s pos).2)).map (·.1) = places s) := by
        show _ = _
        rw [← HP.out, chars_step s pos hlt]; simp
      have hpl : pre.length + 1 ≤ s.size := by
        have := congrArg List.length HP2.out
        rw [places_length] at this; simp at this; omega
      go_wp2_with fail
      refine (refAt_any s pos wr (by omega) hlt).mono ?_
      rintro e w1 ⟨rfl, hb1⟩
      have hrow1 := row_below2 hrow hb1
      have hB1 := hB.trans (hb1.mono hB.size)
      have hBs := hB1.size
      clear hb1 hrow hB HP
      unfold spotOf
      have hsn := spotCs_snoc s pre pos
      unfold why at hsn
      have HSN := hide hsn
      clear hsn
      generalize hD : (Utf8.decode s pos).2 = D at *
      generalize (Utf8.decode s pos).1 = R at *
      generalize hC : whyN (s.extract pos s.size) = C at *
      clear hD hC
      obtain ⟨a, n', c, rfl⟩ : ∃ a n' c, u3 = .slice a n' c := by
        rcases hrow1.2 with ⟨rfl, _⟩ | ⟨g, cap, cur, rfl, _⟩
        · exact ⟨_, _, _, rfl⟩
        · exact ⟨_, _, _, rfl⟩
      go_wp2_with (at_builtin; refine wpList_append_own _ rfl _ _ 207 rfl w.heap.size 210 i0 (.agg #[.int .i64 0, .int .i64 0, .int .i32 0, .int .i64 0]) 4 32 Tryz.underlying207 hi hz0 hz1 hz2 rfl (by decide) _ _ _ rfl ((hrow1.alloc _).alloc _) ⟨w1.heap.size + 1, 0, none⟩ 1 1 [.int .i64 (pos : Nat), .int .i64 (D : Nat), .int .i32 (R : Nat), .int .i64 C] rfl rfl (by simpa using cell_four_new (w1.alloc (spotCells pos D R C)) (.int .i64 (pos : Nat)) (.int .i64 (D : Nat)) (.int .i32 (R : Nat)) (.int .i64 C) 210) (by simp [Value.oneCell']) (by unfold maxLen; omega) (by omega) (by simp; omega) ?_; intro v' w4 hown' hgrow _; have hx4 : w4.heap[w1.heap.size]? = some (spotCells pos D R C) := (hgrow.block w1.heap.size (by simp; omega) (fun e => by have := (hrow1.lt _ e.symm).2; omega)).trans ((Below.heap_alloc _ _ _ (by simp)).trans (heap_alloc_new w1 _)); have hx5 := cell_four _ _ _ _ _ _ _ hx4; obtain ⟨y0, y1, y2, y3⟩ := hx5)
      go_roundw
      case rel => exact ⟨pos + D, pre ++ [pos], HP2, by omega, by go_num, by rw [unhide HSN, List.length_append]; exact hown', below_grown2 ((hB1.alloc hBs _).alloc (by simp; omega) _) (by simp; omega) ((hrow1.alloc _).alloc _) hgrow⟩
      case measure => simp [intOf]; omega
    · have hpe : pre = places s := by have := HP.out; rw [chars_end s pos hlt] at this; simpa using this
      rw [hpe] at hrow
      have HPE := hide hpe
      clear hpe HP
      go_wp2
      go_ret
      exact ⟨_, rfl, hrow, hB⟩

/-- the Spot at place i of a list of places, in memory -/
def SpotsAt (w : World) (s : ByteArray) (a : Option Addr) (l : List Nat) : Prop :=
  ∀ (i x : Nat), l[i]? = some x → ∃ g, a = some ⟨g, 0, none⟩ ∧ w.cell? ⟨g, i * 4, none⟩ = some (.int .i64 (x : Nat)) ∧ w.cell? ⟨g, i * 4 + 1, none⟩ = some (.int .i64 ((Utf8.decode s x).2 : Nat)) ∧ w.cell? ⟨g, i * 4 + 2, none⟩ = some (.int .i32 ((Utf8.decode s x).1 : Nat)) ∧ w.cell? ⟨g, i * 4 + 3, none⟩ = some (.int .i64 (why s x))
theorem SpotsAt.below {w w' : World} {s : ByteArray} {a : Option Addr} {l : List Nat} (h : SpotsAt w s a l) (hb : Below w.heap.size w w') : SpotsAt w' s a l := by
  intro i x hx
  obtain ⟨g, h1, h2, h3, h4, h5⟩ := h i x hx
  have hlt : g < w.heap.size := by
    refine Decidable.byContradiction fun hn => ?_
    have : w.heap[g]? = none := Array.getElem?_eq_none (by omega)
    simp [World.cell?, this] at h2
  exact ⟨g, h1, (hb.cell (p := ⟨g, i * 4, none⟩) hlt).trans h2, (hb.cell (p := ⟨g, i * 4 + 1, none⟩) hlt).trans h3, (hb.cell (p := ⟨g, i * 4 + 2, none⟩) hlt).trans h4, (hb.cell (p := ⟨g, i * 4 + 3, none⟩) hlt).trans h5⟩
theorem sc_length (s : ByteArray) (l : List Nat) : (spotCs s l).length = l.length * 4 := by
  induction l with
  | nil => rfl
  | cons x l ih => simp only [spotCs, List.flatMap_cons, List.length_append, List.length_cons, List.length_nil] at ih ⊢; omega
theorem sc_at (s : ByteArray) : ∀ (l : List Nat) (i x : Nat), l[i]? = some x → (spotCs s l)[i * 4]? = some (.int .i64 (x : Nat)) ∧ (spotCs s l)[i * 4 + 1]? = some (.int .i64 ((Utf8.decode s x).2 : Nat)) ∧ (spotCs s l)[i * 4 + 2]? = some (.int .i32 ((Utf8.decode s x).1 : Nat)) ∧ (spotCs s l)[i * 4 + 3]? = some (.int .i64 (why s x)) := by
  intro l
  induction l with
  | nil => intro i x h; simp at h
  | cons y l ih =>
    intro i x h
    cases i with
    | zero =>
      obtain rfl : y = x := by simpa using h
      exact ⟨rfl, rfl, rfl, rfl⟩
    | succ i =>
      have := ih i x (by simpa using h)
      have e1 : (i + 1) * 4 = i * 4 + 1 + 1 + 1 + 1 := by omega
      rw [e1]
      exact this
theorem sc_row {w1 : World} {base : Nat} {s : ByteArray} {v : Value} {n : Nat} {l : List Nat} (h : w1.ownsRow base 210 4 v n (spotCs s l)) :
    ∃ a c, v = .slice a n c ∧ n = l.length ∧ SpotsAt w1 s a l := by
  have hn : l.length = n := by have := h.1; rw [sc_length] at this; omega
  rcases h.2 with ⟨rfl, h0⟩ | ⟨g, cap, cur, rfl, _, hg, _⟩
  · refine ⟨none, 0, by rw [h0], hn.symm, fun i x hx => ?_⟩
    have := (List.getElem?_eq_some_iff.1 hx).1
    omega
  · refine ⟨_, _, rfl, hn.symm, fun i x hx => ⟨g, rfl, ?_, ?_, ?_, ?_⟩⟩ <;> have hi := (List.getElem?_eq_some_iff.1 hx).1
    · exact (h.cellAt _ (by omega)).trans (sc_at s l i x hx).1
    · exact (h.cellAt _ (by omega)).trans (sc_at s l i x hx).2.1
    · exact (h.cellAt _ (by omega)).trans (sc_at s l i x hx).2.2.1
    · exact (h.cellAt _ (by omega)).trans (sc_at s l i x hx).2.2.2

end Go.Proofs.YthjnkagepooeiaaGreatDoor
/-
  All of package utf: an iterator that tells each character of a text with its place; and the law's function all, which gathers what is told.
-/
namespace Go.Proofs.YthjnkagepooeiaaGreatDoor
open Go.RowKit Go.PlainAid Go.Lib Go.Shelf
attribute [local go_sem] World.iter
attribute [local go_sem] Oper.semAt_some

/-- what an iterator over characters hands to the loop's body -/
abbrev pairVals (s : ByteArray) (x : Pl s) : Array Value := #[.int .i64 (x.1 : Nat), .int .i32 ((Utf8.decode s x.1).1 : Nat)]

end Go.Proofs.YthjnkagepooeiaaGreatDoor
/-
  The law's function all: the pairs that All tells, the first few of them, or all.
-/
namespace Go.Proofs.YthjnkagepooeiaaGreatDoor
open Go.RowKit Go.PlainAid Go.Lib Go.Shelf
attribute [local go_sem] Oper.semAt_some

/-- the cells of the pairs of the characters at the places l -/
def pairCells (s : ByteArray) (l : List Nat) : List Value := l.flatMap fun i => [.int .i64 (i : Nat), .int .i32 ((Utf8.decode s i).1 : Nat)]
theorem pairCells_snoc (s : ByteArray) (l : List Nat) (i : Nat) : pairCells s (l ++ [i]) = pairCells s l ++ [.int .i64 (i : Nat), .int .i32 ((Utf8.decode s i).1 : Nat)] := by simp [pairCells]

theorem pairs_snoc {s : ByteArray} (pre : List (Pl s)) (x : Pl s) : pairCells s ((pre ++ [x]).map (·.1)) = pairCells s (pre.map (·.1)) ++ [.int .i64 (x.1 : Nat), .int .i32 ((Utf8.decode s x.1).1 : Nat)] := by
  rw [List.map_append]; exact pairCells_snoc s _ _

/-- the first few of them: a number below 0 means all -/
def fewOf (few : Int) (l : List Nat) : List Nat := if few < 0 then l else l.take (few + 1).toNat
end Go.Proofs.YthjnkagepooeiaaGreatDoor
/-
  A row of pairs, by its places.
-/
namespace Go.Proofs.YthjnkagepooeiaaGreatDoor
open Go.RowKit Go.PlainAid Go.Lib

theorem pr_length (s : ByteArray) (l : List Nat) : (pairCells s l).length = l.length * 2 := by
  induction l with
  | nil => rfl
  | cons x l ih => simp only [pairCells, List.flatMap_cons, List.length_append, List.length_cons, List.length_nil] at ih ⊢; omega
theorem pr_at (s : ByteArray) : ∀ (l : List Nat) (i x : Nat), l[i]? = some x → (pairCells s l)[i * 2]? = some (.int .i64 (x : Nat)) ∧ (pairCells s l)[i * 2 + 1]? = some (.int .i32 ((Utf8.decode s x).1 : Nat)) := by
  intro l
  induction l with
  | nil => intro i x h; simp at h
  | cons y l ih =>
    intro i x h
    cases i with
    | zero =>
      obtain rfl : y = x := by simpa using h
      exact ⟨rfl, rfl⟩
    | succ i =>
      have := ih i x (by simpa using h)
      have e1 : (i + 1) * 2 = i * 2 + 1 + 1 := by omega
      rw [e1]
      exact this
/-- the pair at place i of a list of places, in memory -/
def PairsAt (w : World) (s : ByteArray) (a : Option Addr) (l : List Nat) : Prop :=
  ∀ (i x : Nat), l[i]? = some x → ∃ g, a = some ⟨g, 0, none⟩ ∧ w.cell? ⟨g, i * 2, none⟩ = some (.int .i64 (x : Nat)) ∧ w.cell? ⟨g, i * 2 + 1, none⟩ = some (.int .i32 ((Utf8.decode s x).1 : Nat))
theorem PairsAt.below {w w' : World} {s : ByteArray} {a : Option Addr} {l : List Nat} (h : PairsAt w s a l) (hb : Below w.heap.size w w') : PairsAt w' s a l := by
  intro i x hx
  obtain ⟨g, h1, h2, h3⟩ := h i x hx
  have hlt : g < w.heap.size := by
    refine Decidable.byContradiction fun hn => ?_
    have : w.heap[g]? = none := Array.getElem?_eq_none (by omega)
    simp [World.cell?, this] at h2
  exact ⟨g, h1, (hb.cell (p := ⟨g, i * 2, none⟩) hlt).trans h2, (hb.cell (p := ⟨g, i * 2 + 1, none⟩) hlt).trans h3⟩
end Go.Proofs.YthjnkagepooeiaaGreatDoor
/-
  The document's Runes (furrowref01), and samePairs of furrowlaw01.
-/
namespace Go.Proofs.YthjnkagepooeiaaGreatDoor
open Go.RowKit Go.PlainAid Go.Lib
set_option linter.unusedVariables false

/-- the numbers of the characters -/
def runeInts (s : ByteArray) : List Int := (chars s 0).map fun p => (p.2 : Int)
theorem runeInts_vals (s : ByteArray) : runeVals s = (runeInts s).map (Value.int .i32) := by unfold runeVals runeInts; rw [List.map_map]; rfl
theorem runeInts_len (s : ByteArray) : (runeInts s).length = (chars s 0).length := by simp [runeInts]
theorem rune_at (s : ByteArray) : ∀ (f i k : Nat), s.size - i ≤ f → ∀ x, ((chars s i).map (·.1))[k]? = some x → ((chars s i).map (fun p => (p.2 : Int)))[k]? = some (((Utf8.decode s x).1 : Nat) : Int) := by
  intro f
  induction f with
  | zero => intro i k h x hx; rw [chars_end s i (by omega)] at hx; simp at hx
  | succ f ih =>
    intro i k h x hx
    by_cases hi : i < s.size
    · have hb := dec_bounds s i hi
      rw [chars_step s i hi] at hx ⊢
      cases k with
      | zero =>
        obtain rfl : i = x := by simpa using hx
        simp
      | succ k => exact ih _ k (by omega) x (by simpa using hx)
    · rw [chars_end s i hi] at hx; simp at hx

/-- rows of two types are apart -/
theorem rows_apart {W : World} {B B' : Nat} {e e' : TypeId} {z z' : Nat} {v v' : Value} {n n' : Nat} {xs xs' : List Value} (h : W.ownsRow B e z v n xs) (h' : W.ownsRow B' e' z' v' n' xs') (he : e ≠ e') : v.ownBlock = none ∨ v.ownBlock ≠ v'.ownBlock := by
  rcases h.2 with ⟨rfl, _⟩ | ⟨g, cap, cur, rfl, _, hg, _⟩
  · exact .inl rfl
  · right
    intro hk
    rcases h'.2 with ⟨rfl, _⟩ | ⟨g', cap', cur', rfl, _, hg', _⟩
    · simp [Value.ownBlock] at hk
    · have : g = g' := by simpa [Value.ownBlock] using hk
      subst this
      rw [hg] at hg'; cases hg'; exact he rfl

set_option maxRecDepth 100000 in
set_option maxHeartbeats 1000000 in
theorem refRunes_any (s : ByteArray) (w : World) (hs : s.size ≤ 1099511627776) :
    Calls Tryz.prog 91 #[.string s] w fun e w' => ∃ v, e = .returned v ∧ w'.ownsRow w.heap.size 21 1 v (chars s 0).length ((runeInts s).map (Value.int .i32)) ∧ Below w.heap.size w w' := by
  obtain ⟨i0, hi, hz0, hz1, hz2⟩ := info_parts infoRune
  have hcl := chars_length s 0
  have hpl := places_length s
  go_enter Tryz.func91, Tryz.ntmps91
  go_wp2_with fail
  refine (refSpots_any s w hs).mono ?_
  rintro e w1 ⟨v, rfl, hrow, hb1⟩
  obtain ⟨l, c, rfl, hx1, hx2⟩ := sc_row hrow
  clear hx1 hx2
  rw [hpl]
  rw [hpl] at hrow
  have HPL := hide hpl
  have HRL := hide (runeInts_len s)
  have HRA : Hid (∀ k x, (places s)[k]? = some x → (runeInts s)[k]? = some (((Utf8.decode s x).1 : Nat) : Int)) := fun k x h => rune_at s s.size 0 k (by omega) x h
  clear hpl
  generalize hL : (chars s 0).length = L at *
  have HL := hide hL
  clear hL
  go_wp2
  go_loopw [4, 5] (fun v4 v5 wr => ∃ k : Nat, k ≤ L ∧ v5 = .int .i64 k ∧ wr.ownsRow w.heap.size 21 1 v4 k (((runeInts s).take k).map (Value.int .i32)) ∧ Below w.heap.size w wr ∧ wr.ownsRow w.heap.size 210 4 (.slice l L c) L (spotCs s (places s))) (fun _ v5 _ => L - (intOf v5).toNat)
  case atStart => exact ⟨0, Nat.zero_le _, rfl, by simpa using World.ownsRow_nil w1 _ _ _, hb1, hrow⟩
  case round =>
    clear hrow hb1
    obtain ⟨k, hk, rfl, hrow, hB, hsr⟩ := hrel
    by_cases hlt : k < L
    · obtain ⟨x, hx⟩ : ∃ x, (places s)[k]? = some x := ⟨_, List.getElem?_eq_getElem (by rw [unhide HPL]; exact hlt)⟩
      obtain ⟨l', c'', he, hx1, hsp⟩ := sc_row hsr
      clear hx1
      obtain ⟨rfl, rfl⟩ : l = l' ∧ c = c'' := by simpa using he
      obtain ⟨g, rfl, _, _, y2, _⟩ := hsp k x hx
      clear hsp he
      have hr := unhide HRA k x hx
      have HT : Hid (((runeInts s).take (k + 1)).map (Value.int .i32) = ((runeInts s).take k).map (Value.int .i32) ++ [.int .i32 ((Utf8.decode s x).1 : Nat)]) := by
        show _ = _
        rw [List.take_add_one, hr]; simp
      have hBs := hB.size
      generalize (Utf8.decode s x).1 = R at *
      clear hx hr
      obtain ⟨a', n', c', rfl⟩ : ∃ a' n' c', u4 = .slice a' n' c' := by
        rcases hrow.2 with ⟨rfl, _⟩ | ⟨g, cap, cur, rfl, _⟩
        · exact ⟨_, _, _, rfl⟩
        · exact ⟨_, _, _, rfl⟩
      go_wp2_with (at_builtin; refine wpList_append_own _ rfl _ _ 172 rfl w.heap.size 21 i0 (.int .i32 0) 1 4 Tryz.underlying172 hi hz0 hz1 hz2 rfl (by decide) _ _ _ rfl (hrow.alloc _) ⟨wr.heap.size, 0, none⟩ 1 1 [.int .i32 (R : Nat)] rfl rfl (cell_one_new _ _ _) (by simp [Value.oneCell']) (by unfold maxLen; omega) (by omega) (by simp; omega) ?_; intro v' w4 hown' hgrow _)
      have hsr2 := (hsr.alloc (.cells #[.int .i32 (R : Nat)] 21)).kept hgrow (rows_apart hsr hrow (by decide))
      have hB2 := below_grown2 (hB.alloc hBs _) (by simp; omega) (hrow.alloc _) hgrow
      clear hsr hrow hB hgrow
      go_roundw
      case rel => exact ⟨k + 1, by omega, by go_num, by rw [unhide HT]; exact hown', hB2, hsr2⟩
      case measure => simp [intOf]; omega
    · obtain rfl : k = L := by omega
      have HE : Hid ((runeInts s).take k = runeInts s) := by
        show _ = _
        rw [List.take_of_length_le (by rw [unhide HRL]; exact Nat.le_refl _)]
      rw [unhide HE] at hrow
      go_wp2
      go_ret
      exact ⟨_, rfl, by rw [unhide HL]; exact hrow, hB⟩

end Go.Proofs.YthjnkagepooeiaaGreatDoor
