/-
  The law SumsBurst, walked.
-/
import Derived.Test.YtdbfpmelhokeoaaDoorSuAd
import Derived.Test.YtdbfpmelhokeoaaDoorSuOn
namespace Go.Proofs.YtdbfpmelhokeoaaDoor
open Go.RowKit Go.PlainAid Go.Lib Go.SuM
set_option linter.unusedVariables false
set_option linter.unusedSimpArgs false
/-- l is A with the bits of turn's first i turned, from the bit f on -/
def TurnI (A l : List UInt8) (f turn i : Nat) : Prop := l.length = A.length ∧ ∀ j, (dif A l).testBit j = (decide (f ≤ j ∧ j < f + i) && turn.testBit (j - f))
theorem TurnI.start (A : List UInt8) (f turn : Nat) : TurnI A A f turn 0 := ⟨rfl, fun j => by
  rw [show dif A A = 0 from Nat.xor_self _, Nat.zero_testBit, decide_eq_false (by omega)]; rfl⟩
theorem TurnI.no {A l : List UInt8} {f turn i : Nat} (h : TurnI A l f turn i) (hb : turn.testBit i = false) : TurnI A l f turn (i + 1) := ⟨h.1, fun j => by
  rw [h.2 j]
  by_cases hj : j = f + i
  · subst hj
    rw [show f + i - f = i by omega, hb, Bool.and_false, Bool.and_false]
  · congr 1
    exact decide_eq_decide.2 (by omega)⟩
theorem TurnI.yes {A l : List UInt8} {f turn i : Nat} (h : TurnI A l f turn i) (hb : turn.testBit i = true) (hlt : f + i < 8 * A.length) (z : UInt8) (hz : z.toNat = gat l ((f + i) / 8) ^^^ 2 ^ ((f + i) % 8)) : TurnI A (l.set ((f + i) / 8) z) f turn (i + 1) := by
  refine ⟨by rw [List.length_set]; exact h.1, fun j => ?_⟩
  have hq : (f + i) / 8 < l.length := by rw [h.1]; omega
  rw [dif_gat, gat_set l _ hq]
  by_cases hj : j / 8 = (f + i) / 8
  · rw [if_pos hj, hz, ← hj, ← Nat.xor_assoc, Nat.testBit_xor, ← dif_gat, h.2 j, Nat.testBit_two_pow]
    by_cases he : j = f + i
    · subst he
      rw [decide_eq_false (by omega), decide_eq_true rfl, decide_eq_true (show f ≤ f + i ∧ f + i < f + (i + 1) by omega), show f + i - f = i by omega, hb]; rfl
    · have : ¬ ((f + i) % 8 = j % 8) := by omega
      rw [decide_eq_false this, Bool.xor_false]
      congr 1
      exact decide_eq_decide.2 (by omega)
  · rw [if_neg hj, ← dif_gat, h.2 j]
    congr 1
    exact decide_eq_decide.2 (by omega)
theorem TurnI.ne {A l : List UInt8} {f turn i k : Nat} (h : TurnI A l f turn i) (hk : k < i) (hb : turn.testBit k = true) : dif A l ≠ 0 := by
  intro e
  have := h.2 (f + k)
  rw [e, Nat.zero_testBit, decide_eq_true (by omega), show f + k - f = k by omega, hb] at this
  cases this
set_option maxRecDepth 20000 in
set_option maxHeartbeats 4000000 in
theorem burst_walk (s : ByteArray) (hs : s.size ≤ 140737488351232) (fi : Int) (hfi0 : -9223372036854775808 ≤ fi) (hfi : fi ≤ 9223372036854775807) (turn : Nat) (ht : turn < 4294967296) (w : World) (hf : FoursAt w) : Calls Tryd.prog 11 #[.string s, .int .i64 fi, .int .u32 (turn : Int)] w fun e w' => e = .returned (.bool true) ∧ Below w.heap.size w w' := by
  have HA := hide awake_any
  have H3 := hide (fun W hW => seal_any s (by unfold maxLen; omega) W hW)
  have hus : (BA (sealL (LS s))).size = s.size + 4 := by rw [BA_size]; unfold sealL; rw [List.length_append, LS_len, le_len]
  have HUR : Hid (regR 4294967295 (LS (BA (sealL (LS s)))) = stn 32 4294967295) := by rw [LS_BA]; exact seal_reg _
  have HF := hide hf
  generalize BA (sealL (LS s)) = u at *
  clear hf
  obtain ⟨m, hm⟩ : ∃ m, m = s.size + 4 := ⟨_, rfl⟩
  rw [← hm] at hus
  have hm4 : 4 ≤ m := by omega
  have hml : m ≤ 140737488351236 := by omega
  clear hm hs
  by_cases hskip : turn = 0 ∨ fi < 0 ∨ 8 * (m : Int) ≤ fi
  · have HSK := hide hskip
    clear hskip
    go_enter Tryd.func11, Tryd.ntmps11
    go_wp2_with fail
    with_reducible refine (unhide HA w (unhide HF)).mono ?_
    rintro e w1 ⟨rfl, hb1⟩
    have HF1 := hide ((unhide HF).below hb1)
    have HB1 := hide hb1
    clear hb1
    go_wp2_with fail
    with_reducible refine (unhide H3 w1 (unhide HF1)).mono ?_
    rintro e w2 ⟨rfl, hb2⟩
    have HB2 := hide ((unhide HB1).trans (hb2.mono (unhide HB1).size))
    clear hb2
    by_cases h1 : turn = 0
    · have h1' : ((turn : Int) == 0) = true := by rw [beq_iff_eq]; omega
      clear h1
      go_wp2
      go_ret
      exact ⟨rfl, unhide HB2⟩
    · have h1' : ((turn : Int) == 0) = false := by rw [beq_eq_false_iff_ne]; omega
      have H1 := hide h1
      clear h1
      by_cases h2 : fi < 0
      · go_wp2
        go_ret
        exact ⟨rfl, unhide HB2⟩
      · have h3 : 8 * (m : Int) ≤ fi := by
          rcases unhide HSK with h | h | h
          · exact absurd h (unhide H1)
          · omega
          · exact h
        go_wp2
        go_ret
        exact ⟨rfl, unhide HB2⟩
  · obtain ⟨f, rfl⟩ : ∃ f : Nat, fi = (f : Int) := ⟨fi.toNat, by omega⟩
    have hfm : f < 8 * m := by omega
    have ht0 : ((turn : Int) == 0) = false := by rw [beq_eq_false_iff_ne]; omega
    clear hskip hfi0 hfi
    have hlen0 : (f : Int) < 8 * (m : Int) := by omega
    go_enter Tryd.func11, Tryd.ntmps11
    go_wp2_with fail
    with_reducible refine (unhide HA w (unhide HF)).mono ?_
    rintro e w1 ⟨rfl, hb1⟩
    have HF1 := hide ((unhide HF).below hb1)
    have HB1 := hide hb1
    clear hb1
    go_wp2_with fail
    with_reducible refine (unhide H3 w1 (unhide HF1)).mono ?_
    rintro e w2 ⟨rfl, hb2⟩
    have HF2 := hide ((unhide HF1).below hb2)
    have HB2 := hide ((unhide HB1).trans (hb2.mono (unhide HB1).size))
    clear hb2
    obtain ⟨cap, w3, hcv, hR, hb3⟩ := conv_any u w2
    rw [hus] at hcv
    have HR := hide (And.intro hR hb3)
    clear hR hb3
    go_wp2
    go_loopw [9, 10] (fun v9 v10 wr => ∃ (i : Nat) (tb : Bool) (l : List UInt8), i ≤ 32 ∧ f + i ≤ 8 * m ∧ v9 = .bool tb ∧ v10 = .int .i64 (i : Int) ∧ Hid (TurnI (LS u) l f turn i) ∧ Hid (tb = true ↔ dif (LS u) l ≠ 0) ∧ Hid (BRow wr w2.heap.size l) ∧ Hid (Below w2.heap.size w2 wr)) (fun _ v10 _ => 32 - (intOf v10).toNat)
    case atStart => exact ⟨0, false, LS u, by omega, by omega, rfl, rfl, TurnI.start _ _ _, ⟨fun h => (by cases h), fun h => absurd (Nat.xor_self _) h⟩, (unhide HR).1, (unhide HR).2⟩
    case round =>
      obtain ⟨i, tb, l, hi32, him, rfl, rfl, HT, HTB, HRR, HBB⟩ := hrel
      have hll : l.length = m := by rw [(unhide HT).1, LS_len, hus]
      have hum : (LS u).length = m := by rw [LS_len, hus]
      by_cases hc1 : i < 32
      · by_cases hc2 : f + i < 8 * m
        · have hc2' : (f : Int) + (i : Int) < 8 * (m : Int) := by omega
          obtain ⟨d, hd⟩ : ∃ d, d = turn / 2 ^ i := ⟨_, rfl⟩
          have hsh : ((turn : Int) / 2 ^ i) = (d : Int) := by rw [hd, Int.natCast_ediv, Int.natCast_pow]; rfl
          have hdl : d < 4294967296 := by rw [hd]; exact Nat.lt_of_le_of_lt (Nat.div_le_self _ _) ht
          have ha1 := u32and1 d hdl
          have HTD : Hid (turn.testBit i = decide (d % 2 = 1)) := by show _ = _; rw [hd]; exact Nat.testBit_eq_decide_div_mod_eq
          clear hd
          by_cases hbit : d % 2 = 1
          · have hb' : ((d : Int) % 2 == 1) = true := by rw [beq_iff_eq]; omega
            have hT : turn.testBit i = true := (unhide HTD).trans (decide_eq_true hbit)
            obtain ⟨q, hq⟩ : ∃ q, q = (f + i) / 8 := ⟨_, rfl⟩
            obtain ⟨r, hr⟩ : ∃ r, r = (f + i) % 8 := ⟨_, rfl⟩
            have hq' : ((f : Int) + (i : Int)) / 8 = (q : Int) := by omega
            have hr' : ((f : Int) + (i : Int)) % 8 = (r : Int) := by omega
            have hqm : q < m := by omega
            have hr8 : r < 8 := by omega
            have hc := (unhide HRR).cell (j := q) (by omega)
            have hfz := (unhide HRR).frozen (j := q) (by omega)
            have hp8 : 2 ^ r < 256 := Nat.pow_lt_pow_right (a := 2) (m := r) (n := 8) (by decide) hr8
            have hxl := xor_lt8 (gat_lt l q) hp8
            have hx := u8x (gat l q) (2 ^ r) (gat_lt _ _) hp8
            have HT2 := hide ((unhide HT).yes hT (by rw [hum]; exact hc2) (UInt8.ofNat (gat l q ^^^ 2 ^ r)) (by rw [u8n hxl, hq, hr]))
            have HNE := hide ((unhide HT2).ne (k := i) (by omega) hT)
            have hst := (unhide HRR).set (j := q) (by omega) (UInt8.ofNat (gat l q ^^^ 2 ^ r))
            rw [show byV (UInt8.ofNat (gat l q ^^^ 2 ^ r)) = .int .u8 ((gat l q ^^^ 2 ^ r : Nat) : Int) by unfold byV; rw [u8n hxl]] at hst
            rw [← hq] at HT2 HNE
            have HST := hide hst
            generalize l.set q (UInt8.ofNat (gat l q ^^^ 2 ^ r)) = l2 at *
            generalize gat l q ^^^ 2 ^ r = z at *
            generalize gat l q = y at *
            obtain ⟨p, hp⟩ : ∃ p, p = 2 ^ r := ⟨_, rfl⟩
            have hp1 : (2 : Int) ^ r = (p : Int) := by rw [hp, Int.natCast_pow]; rfl
            rw [← hp] at hp8 hx
            have hp2 : (p : Int) % 256 = (p : Int) := by omega
            clear hst hq hr hp hT hbit hll hum
            go_wp2
            go_region
            go_wp2
            go_roundw
            case rel => exact ⟨i + 1, true, l2, by omega, by omega, rfl, by go_num, HT2, ⟨fun _ => unhide HNE, fun _ => rfl⟩, HST, ((unhide HBB).setCell (p := ⟨w2.heap.size, q, none⟩) (Nat.le_refl _) _).drew⟩
            case measure => simp [intOf]; omega
          · have hb' : ((d : Int) % 2 == 1) = false := by rw [beq_eq_false_iff_ne]; omega
            have hT : turn.testBit i = false := (unhide HTD).trans (decide_eq_false hbit)
            have HT2 := hide ((unhide HT).no hT)
            clear hT hbit
            go_wp2
            go_roundw
            case rel => exact ⟨i + 1, tb, l, by omega, by omega, rfl, by go_num, HT2, HTB, HRR, HBB⟩
            case measure => simp [intOf]; omega
        · have hc2' : ¬ ((f : Int) + (i : Int) < 8 * (m : Int)) := by omega
          have hlm : l.length = m := by rw [(unhide HT).1, LS_len, hus]
          have hcv2 := (unhide HRR).str (cap := cap) m hlm
          have HVS : Hid ((BA l).size = m) := by show _ = _; rw [BA_size]; exact hlm
          have HLL : Hid (LS (BA l) = l) := LS_BA l
          have HF3 := hide ((unhide HF2).below (unhide HBB))
          have HB3 := hide ((unhide HB2).trans ((unhide HBB).mono (unhide HB2).size))
          clear hcv
          cases tb with
          | false =>
            have HEQ : Hid (BA l = u) := by
              show _ = _
              have h0 : dif (LS u) l = 0 := Classical.byContradiction fun h => by
                have := (unhide HTB).2 h
                cases this
              have := dif_zero (by rw [(unhide HT).1]) h0
              rw [← this, BA_LS]
            rw [unhide HEQ] at hcv2
            have HO := hide (open_gen u (by rw [hus]; unfold maxLen; omega) wr (unhide HF3))
            have HU := hide (burst_same u wr)
            go_wp2_with fail
            with_reducible refine (unhide HU).mono ?_
            rintro e w' ⟨rfl, hww⟩
            obtain rfl : wr = w' := hww.symm
            clear hww
            go_wp2_with fail
            with_reducible refine (unhide HO).mono ?_
            rintro e w5 ⟨o, c, rfl, hoc, hb5⟩
            clear hoc
            go_wp2
            go_ret
            exact ⟨rfl, (unhide HB3).trans (hb5.mono (unhide HB3).size)⟩
          | true =>
            have hdn : dif (LS u) l ≠ 0 := (unhide HTB).1 rfl
            have hne : u ≠ BA l := fun h => hdn (by rw [h, unhide HLL]; exact Nat.xor_self _)
            have hb := burst_any u (BA l) (by rw [unhide HVS]; exact hus) hne (by rw [hus]; omega) wr
            rw [unhide HLL] at hb
            have hno : ∀ f' l' : Nat, SuM.Ends (dif (LS u) l) f' l' → l' - f' + 1 ≤ 32 := fun f' l' hE => by
              have h1 := (unhide HT).2 f'
              have h2 := (unhide HT).2 l'
              rw [hE.fb] at h1
              rw [hE.lb] at h2
              have k1 := of_decide_eq_true (Bool.and_eq_true_iff.1 h1.symm).1
              have k2 := of_decide_eq_true (Bool.and_eq_true_iff.1 h2.symm).1
              omega
            have HK : Hid (∀ f' l' : Nat, SuM.Ends (dif (LS u) l) f' l' → sealedB (LS (BA l)) = false) := fun f' l' hE => by
              cases hy : sealedB (LS (BA l)) with
              | false => rfl
              | true =>
                have h1 : opens (BA l) = true := by unfold opens; rw [hy, decide_eq_true (by rw [unhide HVS]; exact hm4)]; rfl
                have h2 := opens_reg h1
                rw [unhide HLL] at h2
                exact (apart (by rw [(unhide HT).1]) (unhide HUR) h2 hE (hno f' l' hE)).elim
            have HO := hide (fun (hy : sealedB (LS (BA l)) = false) (W : World) (hW : FoursAt W) => open_no (BA l) (by rw [unhide HVS]; omega) (by rw [unhide HVS]; unfold maxLen; omega) hy W hW)
            have HU := hide hb
            have HNO := hide hno
            clear hb hno hne hdn
            go_wp2_with fail
            with_reducible refine (unhide HU).mono ?_
            rintro e w4 ⟨⟨f', l', hE, rfl⟩, hb4⟩
            have hlen1 := unhide HNO f' l' hE
            have hsb := unhide HK f' l' hE
            have hcv3 := ((unhide HRR).below hb4).str (cap := cap) m hlm
            have HF4 := hide ((unhide HF3).below hb4)
            have HB4 := hide ((unhide HB3).trans (hb4.mono (unhide HB3).size))
            have HO2 := hide (unhide HO hsb w4 (unhide HF4))
            obtain ⟨y, hy⟩ : ∃ y, y = l' - f' := ⟨_, rfl⟩
            rw [← hy] at hlen1 ⊢
            clear hb4 hE hsb hcv2 hy
            generalize BA l = V at *
            have y1 : ((0 : Int) < ((y + 1 : Nat) : Int)) := by omega
            have y2 : ¬ ((32 : Int) < ((y + 1 : Nat) : Int)) := by omega
            go_wp2_with fail
            with_reducible refine (unhide HO2).mono ?_
            rintro e w5 ⟨rfl, hb5⟩
            go_wp2
            go_ret
            exact ⟨rfl, (unhide HB4).trans (hb5.mono (unhide HB4).size)⟩
      · have hc1' : ¬ ((i : Int) < 32) := by omega
        have hlm : l.length = m := by rw [(unhide HT).1, LS_len, hus]
        have hcv2 := (unhide HRR).str (cap := cap) m hlm
        have HVS : Hid ((BA l).size = m) := by show _ = _; rw [BA_size]; exact hlm
        have HLL : Hid (LS (BA l) = l) := LS_BA l
        have HF3 := hide ((unhide HF2).below (unhide HBB))
        have HB3 := hide ((unhide HB2).trans ((unhide HBB).mono (unhide HB2).size))
        clear hcv
        cases tb with
        | false =>
          have HEQ : Hid (BA l = u) := by
            show _ = _
            have h0 : dif (LS u) l = 0 := Classical.byContradiction fun h => by
              have := (unhide HTB).2 h
              cases this
            have := dif_zero (by rw [(unhide HT).1]) h0
            rw [← this, BA_LS]
          rw [unhide HEQ] at hcv2
          have HO := hide (open_gen u (by rw [hus]; unfold maxLen; omega) wr (unhide HF3))
          have HU := hide (burst_same u wr)
          go_wp2_with fail
          with_reducible refine (unhide HU).mono ?_
          rintro e w' ⟨rfl, hww⟩
          obtain rfl : wr = w' := hww.symm
          clear hww
          go_wp2_with fail
          with_reducible refine (unhide HO).mono ?_
          rintro e w5 ⟨o, c, rfl, hoc, hb5⟩
          clear hoc
          go_wp2
          go_ret
          exact ⟨rfl, (unhide HB3).trans (hb5.mono (unhide HB3).size)⟩
        | true =>
          have hdn : dif (LS u) l ≠ 0 := (unhide HTB).1 rfl
          have hne : u ≠ BA l := fun h => hdn (by rw [h, unhide HLL]; exact Nat.xor_self _)
          have hb := burst_any u (BA l) (by rw [unhide HVS]; exact hus) hne (by rw [hus]; omega) wr
          rw [unhide HLL] at hb
          have hno : ∀ f' l' : Nat, SuM.Ends (dif (LS u) l) f' l' → l' - f' + 1 ≤ 32 := fun f' l' hE => by
            have h1 := (unhide HT).2 f'
            have h2 := (unhide HT).2 l'
            rw [hE.fb] at h1
            rw [hE.lb] at h2
            have k1 := of_decide_eq_true (Bool.and_eq_true_iff.1 h1.symm).1
            have k2 := of_decide_eq_true (Bool.and_eq_true_iff.1 h2.symm).1
            omega
          have HK : Hid (∀ f' l' : Nat, SuM.Ends (dif (LS u) l) f' l' → sealedB (LS (BA l)) = false) := fun f' l' hE => by
            cases hy : sealedB (LS (BA l)) with
            | false => rfl
            | true =>
              have h1 : opens (BA l) = true := by unfold opens; rw [hy, decide_eq_true (by rw [unhide HVS]; exact hm4)]; rfl
              have h2 := opens_reg h1
              rw [unhide HLL] at h2
              exact (apart (by rw [(unhide HT).1]) (unhide HUR) h2 hE (hno f' l' hE)).elim
          have HO := hide (fun (hy : sealedB (LS (BA l)) = false) (W : World) (hW : FoursAt W) => open_no (BA l) (by rw [unhide HVS]; omega) (by rw [unhide HVS]; unfold maxLen; omega) hy W hW)
          have HU := hide hb
          have HNO := hide hno
          clear hb hno hne hdn
          go_wp2_with fail
          with_reducible refine (unhide HU).mono ?_
          rintro e w4 ⟨⟨f', l', hE, rfl⟩, hb4⟩
          have hlen1 := unhide HNO f' l' hE
          have hsb := unhide HK f' l' hE
          have hcv3 := ((unhide HRR).below hb4).str (cap := cap) m hlm
          have HF4 := hide ((unhide HF3).below hb4)
          have HB4 := hide ((unhide HB3).trans (hb4.mono (unhide HB3).size))
          have HO2 := hide (unhide HO hsb w4 (unhide HF4))
          obtain ⟨y, hy⟩ : ∃ y, y = l' - f' := ⟨_, rfl⟩
          rw [← hy] at hlen1 ⊢
          clear hb4 hE hsb hcv2 hy
          generalize BA l = V at *
          have y1 : ((0 : Int) < ((y + 1 : Nat) : Int)) := by omega
          have y2 : ¬ ((32 : Int) < ((y + 1 : Nat) : Int)) := by omega
          go_wp2_with fail
          with_reducible refine (unhide HO2).mono ?_
          rintro e w5 ⟨rfl, hb5⟩
          go_wp2
          go_ret
          exact ⟨rfl, (unhide HB4).trans (hb5.mono (unhide HB4).size)⟩
end Go.Proofs.YtdbfpmelhokeoaaDoor
