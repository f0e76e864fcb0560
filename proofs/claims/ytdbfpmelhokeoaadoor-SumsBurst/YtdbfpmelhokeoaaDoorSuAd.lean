/-
  The law SumsAdded, walked.
-/
import Derived.Test.YtdbfpmelhokeoaaDoorSuBy
import Derived.Test.YtdbfpmelhokeoaaDoorSuPc
import Derived.Deep.RegionWith
namespace Go.Proofs.YtdbfpmelhokeoaaDoor
open Go.RowKit Go.PlainAid Go.Lib Go.SuM
set_option linter.unusedVariables false
set_option linter.unusedSimpArgs false
theorem u8n {x : Nat} (h : x < 256) : (UInt8.ofNat x).toNat = x := by rw [UInt8.toNat_ofNat']; exact Nat.mod_eq_of_lt h
theorem gat_set (l : List UInt8) (k : Nat) (hk : k < l.length) (b : UInt8) (j : Nat) : gat (l.set k b) j = if j = k then b.toNat else gat l j := by
  unfold gat
  rw [List.getElem?_set]
  by_cases h : k = j
  · subst h; simp [hk]
  · rw [if_neg h, if_neg (fun e => h e.symm)]
theorem num_xor {a b l : List UInt8} (h : ∀ j, gat l j = gat a j ^^^ gat b j) : num l = num a ^^^ num b := by
  apply Nat.eq_of_testBit_eq
  intro i
  rw [Nat.testBit_xor, num_bit, num_bit, num_bit]
  show (gat l (i / 8)).testBit (i % 8) = ((gat a (i / 8)).testBit (i % 8) ^^ (gat b (i / 8)).testBit (i % 8))
  rw [h, Nat.testBit_xor]
set_option maxHeartbeats 1000000 in
theorem added_any (a b : ByteArray) (hl : a.size = b.size) (hs : a.size ≤ 1152921504606846975) (w : World) : Calls Tryd.prog 48 #[.string a, .string b] w fun e w' => ∃ l, e = .returned (.string (BA l)) ∧ l.length = a.size ∧ num l = num (LS a) ^^^ num (LS b) ∧ Below w.heap.size w w' := by
  obtain ⟨cap, w1, hcv, hR, hb1⟩ := conv_any a w
  have HR := hide (And.intro hR hb1)
  have HL := hide hl
  obtain ⟨n, hn⟩ : ∃ n, n = a.size := ⟨_, rfl⟩
  rw [← hn] at hcv hs ⊢
  have HN := hide hn
  clear hR hb1 hl hn
  go_enter Tryd.func48, Tryd.ntmps48
  go_wp2
  go_loopw [6] (fun v6 wr => ∃ (k : Nat) (l : List UInt8), k ≤ n ∧ v6 = .int .i64 (k : Int) ∧ l.length = n ∧ Hid (∀ j, gat l j = if j < k then gat (LS a) j ^^^ gat (LS b) j else gat (LS a) j) ∧ BRow wr w.heap.size l ∧ Below w.heap.size w wr) (fun v6 _ => n - (intOf v6).toNat)
  case atStart => exact ⟨0, LS a, Nat.zero_le _, rfl, by rw [LS_len, unhide HN], fun j => by rw [if_neg (by omega)], (unhide HR).1, (unhide HR).2⟩
  case round =>
    obtain ⟨k, l, hk, rfl, hll, HG, hR, hb⟩ := hrel
    by_cases hlt : k < n
    · have hkb : k < b.size := by have := unhide HN; have := unhide HL; omega
      have hc := hR.cell (j := k) (by omega)
      have hfz := hR.frozen (j := k) (by omega)
      have gb := gat_get b k hkb
      have hx := u8x (gat l k) (gat (LS b) k) (gat_lt _ _) (gat_lt _ _)
      have hxl := xor_lt8 (gat_lt l k) (gat_lt (LS b) k)
      have hst := hR.set (j := k) (by omega) (UInt8.ofNat (gat l k ^^^ gat (LS b) k))
      have hbv : byV (UInt8.ofNat (gat l k ^^^ gat (LS b) k)) = .int .u8 ((gat l k ^^^ gat (LS b) k : Nat) : Int) := by
        unfold byV; rw [u8n hxl]
      rw [hbv] at hst
      have HG2 : Hid (∀ j, gat (l.set k (UInt8.ofNat (gat l k ^^^ gat (LS b) k))) j = if j < k + 1 then gat (LS a) j ^^^ gat (LS b) j else gat (LS a) j) := fun j => by
        rw [gat_set l k (by omega)]
        by_cases hj : j = k
        · subst hj
          rw [if_pos rfl, if_pos (by omega), unhide HG j, if_neg (by omega)]
          exact u8n (xor_lt8 (gat_lt _ _) (gat_lt _ _))
        · rw [if_neg hj, unhide HG j]
          by_cases hjk : j < k
          · rw [if_pos hjk, if_pos (by omega)]
          · rw [if_neg hjk, if_neg (by omega)]
      have HST := hide hst
      have HB := hide hb
      have hlen2 : (l.set k (UInt8.ofNat (gat l k ^^^ gat (LS b) k))).length = n := by rw [List.length_set]; exact hll
      generalize l.set k (UInt8.ofNat (gat l k ^^^ gat (LS b) k)) = l2 at *
      generalize gat l k ^^^ gat (LS b) k = z at *
      generalize gat l k = y at *
      generalize gat (LS b) k = yb at *
      clear hbv hR hb hst
      go_wp2
      go_region
      go_wp2
      go_roundw
      case rel => exact ⟨k + 1, l2, by omega, by go_num, hlen2, HG2, unhide HST, ((unhide HB).setCell (p := ⟨w.heap.size, k, none⟩) (Nat.le_refl _) _).drew⟩
      case measure => simp [intOf]; omega
    · have hkn : k = n := by omega
      subst hkn
      have hcv2 := hR.str (cap := cap) k hll
      have HB := hide hb
      have HX : Hid (num l = num (LS a) ^^^ num (LS b)) := num_xor fun j => by
        rw [unhide HG j]
        by_cases hj : j < k
        · rw [if_pos hj]
        · rw [if_neg hj, gat_out b j (by have := unhide HN; have := unhide HL; omega), Nat.xor_zero]
      have HLL := hide hll
      clear hR hb hll hcv
      go_wp2
      go_ret
      exact ⟨l, rfl, unhide HLL, unhide HX, unhide HB⟩
theorem more_xor3 {a b c l : List UInt8} {n : Nat} (ha : a.length = n) (hb : b.length = n) (hc : c.length = n) (hl : l.length = n) (h : num l = num a ^^^ num b ^^^ num c) : more 0 a ^^^ more 0 b ^^^ more 0 c = more 0 l := by
  have e : ∀ x : List UInt8, x.length = n → more 0 x = 4294967295 ^^^ stn (8 * n) (4294967295 ^^^ num x) := by
    intro x hx
    unfold more
    rw [inv_xor (regR_lt _ (inv_lt _)), regR_num, hx]
    rfl
  rw [e a ha, e b hb, e c hc, e l hl, h]
  have e2 : 4294967295 ^^^ (num a ^^^ num b ^^^ num c) = (4294967295 ^^^ num a) ^^^ (4294967295 ^^^ num b) ^^^ (4294967295 ^^^ num c) := by
    have : (4294967295 ^^^ num a) ^^^ (4294967295 ^^^ num b) ^^^ (4294967295 ^^^ num c) = 4294967295 ^^^ (num a ^^^ num b ^^^ num c) ^^^ (4294967295 ^^^ 4294967295) := by ac_rfl
    rw [this, Nat.xor_self, Nat.xor_zero]
  rw [e2, stn_xor (8 * n) ((4294967295 ^^^ num a) ^^^ (4294967295 ^^^ num b)), stn_xor (8 * n) (4294967295 ^^^ num a)]
  generalize stn (8 * n) (4294967295 ^^^ num a) = x
  generalize stn (8 * n) (4294967295 ^^^ num b) = y
  generalize stn (8 * n) (4294967295 ^^^ num c) = z
  have : 4294967295 ^^^ x ^^^ (4294967295 ^^^ y) ^^^ (4294967295 ^^^ z) = 4294967295 ^^^ (x ^^^ y ^^^ z) ^^^ (4294967295 ^^^ 4294967295) := by ac_rfl
  rw [this, Nat.xor_self, Nat.xor_zero]
set_option maxHeartbeats 2000000 in
theorem added_walk (a b c : ByteArray) (ha : a.size ≤ 140737488351232) (hb : b.size ≤ 140737488351232) (hc : c.size ≤ 140737488351232) (w : World) (hf : FoursAt w) : Calls Tryd.prog 14 #[.string a, .string b, .string c] w fun e w' => e = .returned (.bool true) ∧ Below w.heap.size w w' := by
  obtain ⟨n, hn⟩ : ∃ n, n = min (min a.size b.size) c.size := ⟨_, rfl⟩
  have hna : n ≤ a.size := by omega
  have hnb : n ≤ b.size := by omega
  have hnc : n ≤ c.size := by omega
  have one : ∀ s : ByteArray, s.size ≤ maxLen → ∀ W, FoursAt W → Calls Tryd.prog 16 #[.slice (some ⟨W.heap.size, 0, none⟩) 1 1] (W.alloc (.cells #[.string s] 9)) fun e w' => e = .returned (.int .u32 ((more 0 (LS s) : Nat) : Int)) ∧ Below W.heap.size W w' := fun s hs W hW =>
    crc_new [s] _ rfl 1 rfl (fun x hx => by rw [List.mem_singleton.1 hx]; exact hs) (by simp [maxLen]) W hW
  have sz : ∀ s : ByteArray, n ≤ s.size → (s.extract 0 n).size = n := fun s h => by rw [ByteArray.size_extract]; omega
  have hA := sz a hna
  have hB := sz b hnb
  have hC := sz c hnc
  have hmx : n ≤ maxLen := by unfold maxLen; omega
  have C1 := hide (one (a.extract 0 n) (by omega))
  have C2 := hide (one (b.extract 0 n) (by omega))
  have C3 := hide (one (c.extract 0 n) (by omega))
  have A1 := hide (added_any (a.extract 0 n) (b.extract 0 n) (by omega) (by omega))
  have A2 : Hid (∀ l : List UInt8, l.length = n → num l = num (LS (a.extract 0 n)) ^^^ num (LS (b.extract 0 n)) → ∀ W, Calls Tryd.prog 48 #[.string (BA l), .string (c.extract 0 n)] W fun e w' => ∃ u : ByteArray, e = .returned (.string u) ∧ u.size = n ∧ more 0 (LS (a.extract 0 n)) ^^^ more 0 (LS (b.extract 0 n)) ^^^ more 0 (LS (c.extract 0 n)) = more 0 (LS u) ∧ Below W.heap.size W w') := fun l hl hx W => by
    refine (added_any (BA l) (c.extract 0 n) (by rw [BA_size]; omega) (by rw [BA_size]; omega) W).mono ?_
    rintro e w' ⟨l2, rfl, h1, h2, hb⟩
    rw [BA_size, hl] at h1
    rw [LS_BA, hx] at h2
    exact ⟨_, rfl, by rw [BA_size]; exact h1, by rw [LS_BA]; exact more_xor3 (by rw [LS_len]; exact hA) (by rw [LS_len]; exact hB) (by rw [LS_len]; exact hC) h1 h2, hb⟩
  have C4 := hide one
  have HA := hide awake_any
  have HF := hide hf
  have x1 := u32x _ _ (more_lt 0 (LS (a.extract 0 n))) (more_lt 0 (LS (b.extract 0 n)))
  have x2 := u32x _ _ (Nat.xor_lt_two_pow (n := 32) (more_lt 0 (LS (a.extract 0 n))) (more_lt 0 (LS (b.extract 0 n)))) (more_lt 0 (LS (c.extract 0 n)))
  generalize more 0 (LS (a.extract 0 n)) = ca at *
  generalize more 0 (LS (b.extract 0 n)) = cb at *
  generalize more 0 (LS (c.extract 0 n)) = cc at *
  have HA1 := hide hA
  have leaf : ∀ W0 : World, Below w.heap.size w W0 → FoursAt W0 := fun W0 h => hf.below h
  have LEAF := hide leaf
  have HMX := hide hmx
  clear hA hB hC one sz hmx leaf hf
  have cases4 : (b.size < a.size ∧ c.size < b.size ∧ c.size = n) ∨ (b.size < a.size ∧ ¬ c.size < b.size ∧ b.size = n) ∨ (¬ b.size < a.size ∧ c.size < a.size ∧ c.size = n) ∨ (¬ b.size < a.size ∧ ¬ c.size < a.size ∧ a.size = n) := by omega
  clear hn
  rcases cases4 with ⟨q1, q2, q3⟩ | ⟨q1, q2, q3⟩ | ⟨q1, q2, q3⟩ | ⟨q1, q2, q3⟩
  all_goals (
    go_enter Tryd.func14, Tryd.ntmps14
    go_wp2
    go_quiet (fail)
    have HB0 := hide (below_drewN w.heap.size w nq)
    generalize w.drewN nq = W0 at *
    have HF0 := hide (unhide LEAF W0 (unhide HB0))
    go_wp2_with fail
    with_reducible refine (unhide C1 W0 (unhide HF0)).mono ?_
    rintro e w1 ⟨rfl, hb1⟩
    have HF1 := hide ((unhide HF0).below hb1)
    have HB1 := hide ((unhide HB0).trans (hb1.mono (unhide HB0).size))
    clear hb1
    go_wp2_with fail
    with_reducible refine (unhide C2 w1 (unhide HF1)).mono ?_
    rintro e w2 ⟨rfl, hb2⟩
    have HF2 := hide ((unhide HF1).below hb2)
    have HB2 := hide ((unhide HB1).trans (hb2.mono (unhide HB1).size))
    clear hb2
    go_wp2_with fail
    with_reducible refine (unhide C3 w2 (unhide HF2)).mono ?_
    rintro e w3 ⟨rfl, hb3⟩
    have HF3 := hide ((unhide HF2).below hb3)
    have HB3 := hide ((unhide HB2).trans (hb3.mono (unhide HB2).size))
    clear hb3
    go_wp2_with fail
    with_reducible refine (unhide A1 w3).mono ?_
    rintro e w4 ⟨l, rfl, hl, hx, hb4⟩
    have HF4 := hide ((unhide HF3).below hb4)
    have HB4 := hide ((unhide HB3).trans (hb4.mono (unhide HB3).size))
    clear hb4
    have A3 := hide (unhide A2 l (hl.trans (unhide HA1)) hx)
    clear hl hx
    go_wp2_with fail
    with_reducible refine (unhide A3 w4).mono ?_
    rintro e w5 ⟨u, rfl, hu, hv, hb5⟩
    have HF5 := hide ((unhide HF4).below hb5)
    have HB5 := hide ((unhide HB4).trans (hb5.mono (unhide HB4).size))
    clear hb5
    have C5 := hide (unhide C4 u (by rw [hu]; exact unhide HMX))
    rw [← hv] at C5
    clear hu hv
    generalize ca ^^^ cb ^^^ cc = V at *
    generalize ca ^^^ cb = V2 at *
    go_wp2_with fail
    with_reducible refine (unhide C5 w5 (unhide HF5)).mono ?_
    rintro e w6 ⟨rfl, hb6⟩
    have HF6 := hide ((unhide HF5).below hb6)
    have HB6 := hide ((unhide HB5).trans (hb6.mono (unhide HB5).size))
    clear hb6
    go_wp2_with fail
    with_reducible refine (unhide HA w6 (unhide HF6)).mono ?_
    rintro e w7 ⟨rfl, hb7⟩
    go_wp2
    go_ret
    exact ⟨rfl, (unhide HB6).trans (hb7.mono (unhide HB6).size)⟩)
end Go.Proofs.YtdbfpmelhokeoaaDoor
