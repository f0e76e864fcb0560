/-
  The document's Bit and Burst; the law SumsBursts, walked.
-/
import Derived.Test.YtdbfpmelhokeoaaDoorSuBu
import Derived.Test.YtdbfpmelhokeoaaDoorSuK
namespace Go.Proofs.YtdbfpmelhokeoaaDoor
open Go.RowKit Go.PlainAid Go.Lib Go.SuM
set_option linter.unusedVariables false
set_option linter.unusedSimpArgs false
def bitN (l : List UInt8) (i : Nat) : Nat := gat l (i / 8) / 2 ^ (i % 8) % 2
theorem bitN_ne (a b : List UInt8) (i : Nat) : (dif a b).testBit i = decide (bitN a i ≠ bitN b i) := by
  rw [dif_gat, Nat.testBit_xor, Nat.testBit_eq_decide_div_mod_eq, Nat.testBit_eq_decide_div_mod_eq]
  unfold bitN
  rcases Nat.mod_two_eq_zero_or_one (gat a (i / 8) / 2 ^ (i % 8)) with h | h <;> rcases Nat.mod_two_eq_zero_or_one (gat b (i / 8) / 2 ^ (i % 8)) with k | k <;> simp [h, k]
theorem u8and1 (a : Nat) (ha : a < 256) : bits .and .u8 (a : Int) 1 = ((a % 2 : Nat) : Int) := by
  have := (bits_nat .u8 8 (by decide) wraps_u8 a 1 (by omega) (by decide)).1
  rw [show ((1 : Int)) = ((1 : Nat) : Int) from rfl, this, Nat.and_one_is_mod]
theorem bit_any (s : ByteArray) (i : Nat) (hi : i < 8 * s.size) (hs : s.size ≤ 1152921504606846975) (w : World) : Calls Tryd.prog 69 #[.string s, .int .i64 (i : Int)] w fun e w' => e = .returned (.int .i64 ((bitN (LS s) i : Nat) : Int)) ∧ w' = w := by
  obtain ⟨j, hj⟩ : ∃ j, j = i / 8 := ⟨_, rfl⟩
  obtain ⟨r, hr⟩ : ∃ r, r = i % 8 := ⟨_, rfl⟩
  have hj' : (i : Int) / 8 = (j : Int) := by omega
  have hr' : (i : Int) % 8 = (r : Int) := by omega
  have hjs : j < s.size := by omega
  have hr8 : r < 8 := by omega
  have ga := gat_get s j hjs
  have HE : Hid (bitN (LS s) i = gat (LS s) j / 2 ^ r % 2) := by show _ = _; unfold bitN; rw [hj, hr]
  have hxl := gat_lt (LS s) j
  generalize gat (LS s) j = x at *
  obtain ⟨d, hd⟩ : ∃ d, d = x / 2 ^ r := ⟨_, rfl⟩
  have hsh : ((x : Int) / 2 ^ r) = (d : Int) := by rw [hd, Int.natCast_ediv, Int.natCast_pow]; rfl
  have hdl : d < 256 := by rw [hd]; exact Nat.lt_of_le_of_lt (Nat.div_le_self _ _) (by omega)
  rw [← hd] at HE
  have ha1 := u8and1 d hdl
  clear hj hr hd
  go_enter Tryd.func69, Tryd.ntmps69
  go_wp2
  go_ret
  exact ⟨ret_int (by rw [unhide HE]; rfl), rfl⟩
theorem rburst_len (a b : ByteArray) (hl : a.size ≠ b.size) (w : World) : Calls Tryd.prog 43 #[.string a, .string b] w fun e w' => e = .returned (.tuple #[.int .i64 0, .int .i64 0, .int .i64 2]) ∧ w' = w := by
  have h : ((a.size : Int) != (b.size : Int)) = true := by rw [bne_iff_ne]; omega
  clear hl
  go_enter Tryd.func43, Tryd.ntmps43
  go_wp2
  refine bodyPost_ret (v := .tuple #[.int .i64 0, .int .i64 0, .int .i64 2]) (by simp [results, Tryd.results43, go_sem]) rfl ⟨rfl, rfl⟩
/-- what the loop knows behind i bits -/
def SoFar (X i : Nat) (f l : Int) : Prop := (f = -1 ∧ l = -1 ∧ ∀ j, j < i → X.testBit j = false) ∨ ∃ p q : Nat, f = (p : Int) ∧ l = (q : Int) ∧ p < i ∧ q < i ∧ X.testBit p = true ∧ (∀ j, j < p → X.testBit j = false) ∧ X.testBit q = true ∧ ∀ j, q < j → j < i → X.testBit j = false
theorem SoFar.no {X i : Nat} {f l : Int} (h : SoFar X i f l) (hb : X.testBit i = false) : SoFar X (i + 1) f l := by
  rcases h with ⟨rfl, rfl, h⟩ | ⟨p, q, rfl, rfl, h1, h2, h3, h4, h5, h6⟩
  · exact .inl ⟨rfl, rfl, up_one h hb⟩
  · exact .inr ⟨p, q, rfl, rfl, by omega, by omega, h3, h4, h5, fun j k1 k2 => by
      rcases Nat.lt_or_ge j i with k | k
      · exact h6 j k1 k
      · obtain rfl : j = i := by omega
        exact hb⟩
theorem SoFar.first {X i : Nat} {f l : Int} (h : SoFar X i f l) (hf : f < 0) (hb : X.testBit i = true) : SoFar X (i + 1) (i : Int) (i : Int) := by
  rcases h with ⟨rfl, rfl, h⟩ | ⟨p, q, rfl, rfl, h1, h2, h3, h4, h5, h6⟩
  · exact .inr ⟨i, i, rfl, rfl, by omega, by omega, hb, h, hb, fun j k1 k2 => by omega⟩
  · omega
theorem SoFar.more {X i : Nat} {f l : Int} (h : SoFar X i f l) (hf : ¬ f < 0) (hb : X.testBit i = true) : SoFar X (i + 1) f (i : Int) := by
  rcases h with ⟨rfl, rfl, h⟩ | ⟨p, q, rfl, rfl, h1, h2, h3, h4, h5, h6⟩
  · omega
  · exact .inr ⟨p, i, rfl, rfl, by omega, by omega, h3, h4, hb, fun j k1 k2 => by omega⟩
set_option maxHeartbeats 2000000 in
theorem rburst_any (a b : ByteArray) (hl : a.size = b.size) (hs : a.size ≤ 1152921504606846975) (w : World) : Calls Tryd.prog 43 #[.string a, .string b] w fun e w' => ∃ f l : Int, SoFar (dif (LS a) (LS b)) (8 * a.size) f l ∧ e = .returned (if f < 0 then .tuple #[.int .i64 0, .int .i64 0, .int .i64 0] else .tuple #[.int .i64 f, .int .i64 (l - f + 1), .int .i64 0]) ∧ w' = w := by
  have hlen : ((a.size : Int) != (b.size : Int)) = false := by rw [bne_eq_false_iff_eq]; omega
  have HL := hide hl
  have HBA := hide (fun i hi => bit_any a i hi hs)
  have HBB := hide (fun i (hi : i < 8 * b.size) => bit_any b i hi (by omega))
  clear hl
  obtain ⟨n, hn⟩ : ∃ n, n = 8 * a.size := ⟨_, rfl⟩
  have hn8 : 8 * (a.size : Int) = (n : Int) := by omega
  have hnl : n ≤ 9223372036854775800 := by omega
  have HN := hide hn
  rw [← hn]
  clear hn
  go_enter Tryd.func43, Tryd.ntmps43
  go_wp2
  go_loop [7, 8, 9] (fun v7 v8 v9 => ∃ (i : Nat) (f l : Int), i ≤ n ∧ v9 = .int .i64 (i : Int) ∧ v7 = .int .i64 f ∧ v8 = .int .i64 l ∧ Hid (SoFar (dif (LS a) (LS b)) i f l)) (fun _ _ v9 => n - (intOf v9).toNat)
  case atStart => exact ⟨0, -1, -1, Nat.zero_le _, rfl, rfl, rfl, .inl ⟨rfl, rfl, fun j h => by omega⟩⟩
  case round =>
    obtain ⟨i, f, l, hi, rfl, rfl, rfl, HS⟩ := hrel
    by_cases hlt : i < n
    · have H1 := hide (unhide HBA i (by have := unhide HN; omega))
      have H2 := hide (unhide HBB i (by have := unhide HN; have := unhide HL; omega))
      have HT := hide (bitN_ne (LS a) (LS b) i)
      generalize bitN (LS a) i = x at *
      generalize bitN (LS b) i = y at *
      by_cases hxy : x = y
      · subst hxy
        have HS2 := hide ((unhide HS).no ((unhide HT).trans (by simp)))
        go_wp2_with (go_at_call 69; first | (with_reducible refine (unhide H1 _).mono ?_; rintro e w' ⟨rfl, rfl⟩) | (with_reducible refine (unhide H2 _).mono ?_; rintro e w' ⟨rfl, rfl⟩))
        go_round
        case rel => exact ⟨i + 1, f, l, by omega, by go_num, rfl, rfl, HS2⟩
        case measure => simp [intOf]; omega
      · have hq : ((x : Int) != (y : Int)) = true := by rw [bne_iff_ne]; omega
        have hT : (dif (LS a) (LS b)).testBit i = true := (unhide HT).trans (by simp [hxy])
        have HTT := hide hT
        clear hxy hT
        by_cases hf : f < 0
        · have HS2 := hide ((unhide HS).first hf (unhide HTT))
          go_wp2_with (go_at_call 69; first | (with_reducible refine (unhide H1 _).mono ?_; rintro e w' ⟨rfl, rfl⟩) | (with_reducible refine (unhide H2 _).mono ?_; rintro e w' ⟨rfl, rfl⟩))
          go_round
          case rel => exact ⟨i + 1, i, i, by omega, by go_num, rfl, rfl, HS2⟩
          case measure => simp [intOf]; omega
        · have HS2 := hide ((unhide HS).more hf (unhide HTT))
          go_wp2_with (go_at_call 69; first | (with_reducible refine (unhide H1 _).mono ?_; rintro e w' ⟨rfl, rfl⟩) | (with_reducible refine (unhide H2 _).mono ?_; rintro e w' ⟨rfl, rfl⟩))
          go_round
          case rel => exact ⟨i + 1, f, i, by omega, by go_num, rfl, rfl, HS2⟩
          case measure => simp [intOf]; omega
    · have hin : i = n := by omega
      subst hin
      by_cases hf : f < 0
      · go_wp2
        refine bodyPost_ret (v := .tuple #[.int .i64 0, .int .i64 0, .int .i64 0]) (by simp [results, Tryd.results43, go_sem]) rfl ⟨f, l, unhide HS, by rw [if_pos hf], rfl⟩
      · obtain ⟨p, q, e1, e2, hp, hq⟩ : ∃ p q : Nat, f = (p : Int) ∧ l = (q : Int) ∧ p < i ∧ q < i := by
          rcases unhide HS with ⟨h1, _, _⟩ | ⟨p, q, h1, h2, h3, h4, _⟩
          · omega
          · exact ⟨p, q, h1, h2, h3, h4⟩
        subst e1 e2
        go_wp2
        refine bodyPost_ret (v := .tuple #[.int .i64 (p : Int), .int .i64 ((q : Int) - (p : Int) + 1), .int .i64 0]) (by simp [results, Tryd.results43, go_sem]) rfl ⟨p, q, unhide HS, by rw [if_neg (by omega)], rfl⟩
theorem dif_lt (a b : ByteArray) (hl : a.size = b.size) : dif (LS a) (LS b) < 2 ^ (8 * a.size) := by
  unfold dif
  refine Nat.xor_lt_two_pow ?_ ?_
  · have := num_lt (LS a); rwa [LS_len] at this
  · have := num_lt (LS b); rwa [LS_len, ← hl] at this
theorem rburst_ne (a b : ByteArray) (hl : a.size = b.size) (hs : a.size ≤ 1152921504606846975) {f l : Nat} (hE : SuM.Ends (dif (LS a) (LS b)) f l) (w : World) : Calls Tryd.prog 43 #[.string a, .string b] w fun e w' => e = .returned (.tuple #[.int .i64 (f : Int), .int .i64 ((l - f + 1 : Nat) : Int), .int .i64 0]) ∧ w' = w := by
  refine (rburst_any a b hl hs w).mono ?_
  rintro e w' ⟨f', l', hS, rfl, rfl⟩
  have hX := dif_lt a b hl
  refine ⟨?_, rfl⟩
  have out : ∀ j, 8 * a.size ≤ j → (dif (LS a) (LS b)).testBit j = false := fun j hj => Nat.testBit_lt_two_pow (Nat.lt_of_lt_of_le hX (Nat.pow_le_pow_right (by decide) hj))
  rcases hS with ⟨rfl, rfl, h⟩ | ⟨p, q, rfl, rfl, h1, h2, h3, h4, h5, h6⟩
  · have hfb := hE.fb
    rcases Nat.lt_or_ge f (8 * a.size) with k | k
    · rw [h f k] at hfb; cases hfb
    · rw [out f k] at hfb; cases hfb
  · have hE2 : SuM.Ends (dif (LS a) (LS b)) p q := ⟨h3, h4, h5, fun i hi => by
      rcases Nat.lt_or_ge i (8 * a.size) with k | k
      · exact h6 i hi k
      · exact out i k⟩
    obtain ⟨rfl, rfl⟩ := hE.uni hE2
    have hle := hE.le
    rw [if_neg (by omega), show ((l : Int) - (f : Int) + 1) = ((l - f + 1 : Nat) : Int) by omega]
theorem rburst_same (a : ByteArray) (hs : a.size ≤ 1152921504606846975) (w : World) : Calls Tryd.prog 43 #[.string a, .string a] w fun e w' => e = .returned (.tuple #[.int .i64 0, .int .i64 0, .int .i64 0]) ∧ w' = w := by
  refine (rburst_any a a rfl hs w).mono ?_
  rintro e w' ⟨f', l', hS, rfl, rfl⟩
  refine ⟨?_, rfl⟩
  rcases hS with ⟨rfl, rfl, h⟩ | ⟨p, q, rfl, rfl, h1, h2, h3, _⟩
  · rw [if_pos (by decide)]
  · rw [show dif (LS a) (LS a) = 0 from Nat.xor_self _, Nat.zero_testBit] at h3
    cases h3
set_option maxHeartbeats 1000000 in
theorem bursts_walk (a b : ByteArray) (ha : a.size ≤ 140737488351232) (w : World) (hf : FoursAt w) : Calls Tryd.prog 9 #[.string a, .string b] w fun e w' => e = .returned (.bool true) ∧ Below w.heap.size w w' := by
  have key : ∃ K : Int × Int × Int → Prop, (Calls Tryd.prog 42 #[.string a, .string b] w fun e w' => ∃ x y z : Int, e = .returned (.tuple #[.int .i64 x, .int .i64 y, .int .i64 z]) ∧ K (x, y, z) ∧ Below w.heap.size w w') ∧ ∀ x y z, K (x, y, z) → ∀ W, Calls Tryd.prog 43 #[.string a, .string b] W fun e w' => e = .returned (.tuple #[.int .i64 x, .int .i64 y, .int .i64 z]) ∧ w' = W := by
    by_cases hl : a.size = b.size
    · by_cases he : a = b
      · subst he
        refine ⟨fun k => k = (0, 0, 0), (burst_same a w).mono ?_, ?_⟩
        · rintro e w' ⟨rfl, rfl⟩
          exact ⟨_, _, _, rfl, rfl, Below.refl _ _⟩
        · rintro x y z h W
          cases h
          exact rburst_same a (by omega) W
      · refine ⟨fun k => ∃ f l : Nat, SuM.Ends (dif (LS a) (LS b)) f l ∧ k = ((f : Int), ((l - f + 1 : Nat) : Int), 0), (burst_any a b hl he (by omega) w).mono ?_, ?_⟩
        · rintro e w' ⟨⟨f, l, hE, rfl⟩, hb⟩
          exact ⟨_, _, _, rfl, ⟨f, l, hE, rfl⟩, hb⟩
        · rintro x y z ⟨f, l, hE, h⟩ W
          cases h
          exact rburst_ne a b hl (by omega) hE W
    · refine ⟨fun k => k = (0, 0, 2), (burst_len a b hl w).mono ?_, ?_⟩
      · rintro e w' ⟨rfl, rfl⟩
        exact ⟨_, _, _, rfl, rfl, Below.refl _ _⟩
      · rintro x y z h W
        cases h
        exact rburst_len a b hl W
  obtain ⟨K, h1, h2⟩ := key
  have H1 := hide h1
  have H2 := hide h2
  have HA := hide awake_any
  have HF := hide hf
  clear h1 h2 hf ha
  go_enter Tryd.func9, Tryd.ntmps9
  go_wp2_with fail
  with_reducible refine (unhide H1).mono ?_
  rintro e w1 ⟨x, y, z, rfl, hK, hb1⟩
  have HF1 := hide ((unhide HF).below hb1)
  have HB1 := hide hb1
  have H3 := hide (unhide H2 x y z hK w1)
  clear hb1 hK
  go_wp2_with fail
  with_reducible refine (unhide H3).mono ?_
  rintro e w' ⟨rfl, hww⟩
  obtain rfl : w1 = w' := hww.symm
  clear hww
  go_wp2_with fail
  with_reducible refine (unhide HA w1 (unhide HF1)).mono ?_
  rintro e w2 ⟨rfl, hb2⟩
  go_wp2
  go_ret
  exact ⟨rfl, (unhide HB1).trans (hb2.mono (unhide HB1).size)⟩
end Go.Proofs.YtdbfpmelhokeoaaDoor
