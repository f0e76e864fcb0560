/-
  The law SumsBack, walked.
-/
import Derived.Test.YtdbfpmelhokeoaaDoorSuNL
import Derived.Test.YtdbfpmelhokeoaaDoorSuNH
import Derived.Test.YtdbfpmelhokeoaaDoorSuPc
import Derived.Test.YtdbfpmelhokeoaaDoorPStep
import Derived.Test.YtdbfpmelhokeoaaDoorSuSl
namespace Go.Proofs.YtdbfpmelhokeoaaDoor
open Go.RowKit Go.PlainAid Go.Lib Go.SuM
set_option linter.unusedVariables false
set_option linter.unusedSimpArgs false
/-- numbers of two types of 32 bits lie alike -/
theorem nums_LD {w : World} {a : Option Addr} {l : List Nat} (h : ND.NumsAt w a l) : NL.NumsAt w a l := ⟨h.at_, h.small⟩
theorem BRow.at {w : World} {g : Nat} {l : List UInt8} (h : BRow w g l) : BytesAt w (some ⟨g, 0, none⟩) l := fun _ => ⟨_, rfl, fun j u hj => by
  obtain ⟨hjl, rfl⟩ := bytesV_get hj
  rw [Addr.add_lit, Nat.zero_add, h.cell hjl]
  unfold byV gat
  rw [List.getElem?_eq_getElem hjl]
  rfl⟩
theorem open_seal (s : ByteArray) (hs : s.size + 4 ≤ maxLen) (w : World) (hf : FoursAt w) : Calls Tryd.prog 38 #[.string (BA (sealL (LS s)))] w fun e w' => e = .returned (.tuple #[.string s, .int .i64 0]) ∧ Below w.heap.size w w' := by
  have hl : (sealL (LS s)).length = s.size + 4 := by unfold sealL; rw [List.length_append, le_len, LS_len]
  have hsz : (BA (sealL (LS s))).size = s.size + 4 := by rw [BA_size, hl]
  have htk : (sealL (LS s)).take s.size = LS s := by unfold sealL; rw [List.take_left' (LS_len s)]
  have hy : sealedB (LS (BA (sealL (LS s)))) = true := by
    unfold sealedB
    rw [LS_BA, hl, show s.size + 4 - 4 = s.size by omega, htk]
    exact decide_eq_true rfl
  have h := open_yes (BA (sealL (LS s))) (by rw [hsz]; omega) (by rw [hsz]; exact hs) hy w hf
  have e : (BA (sealL (LS s))).extract 0 ((BA (sealL (LS s))).size - 4) = s := by
    rw [← BA_LS (ByteArray.extract _ _ _), LS_extract, LS_BA, List.drop_zero, hsz, show s.size + 4 - 4 = s.size by omega, htk, BA_LS]
  rw [e] at h
  exact h
set_option maxRecDepth 20000 in
set_option maxHeartbeats 4000000 in
theorem back_walk (b : ByteArray) (hb : b.size ≤ 1048576) (l : List Nat) (a : Option Addr) (n cap : Nat) (hn : l.length = n) (hn2 : n ≤ 1048576) (hnc : n ≤ cap) (hcap : cap ≤ maxLen) (s : ByteArray) (hs : s.size ≤ 1048576) (w : World) (ht : ND.NumsAt w a l) (hf : FoursAt w) : Calls Tryd.prog 13 #[.string b, .slice a n cap, .string s] w fun e w' => e = .returned (.bool true) ∧ Below w.heap.size w w' := by
  have HA := hide (awake_any w hf)
  have HF := hide hf
  have HT := hide ht
  have HN := hide hn
  unfold maxLen at hcap
  clear hf ht hn
  go_enter Tryd.func13, Tryd.ntmps13
  go_wp2_with fail
  with_reducible refine (unhide HA).mono ?_
  rintro e w1 ⟨rfl, hb1⟩
  have HF1 := hide ((unhide HF).below hb1)
  have HB1 := hide hb1
  have HT1 := hide ((unhide HT).below hb1)
  clear hb1
  go_wp2
  go_loopw [7, 8] (fun v7 v8 wr => ∃ k : Nat, k ≤ n ∧ v8 = .int .i64 (k : Int) ∧ Hid (NL.OwnN wr w1.heap.size v7 (l.take k)) ∧ Hid (Below w1.heap.size w1 wr)) (fun _ v8 _ => n - (intOf v8).toNat)
  case atStart => exact ⟨0, Nat.zero_le _, rfl, ⟨rfl, .inl ⟨rfl, rfl⟩⟩, Below.refl _ _⟩
  case round =>
    obtain ⟨k, hk, rfl, HO, HBR⟩ := hrel
    by_cases hlt : k < n
    · have hkl : k < l.length := by rw [unhide HN]; exact hlt
      obtain ⟨g, off, rfl, hg, hc, hsm⟩ := ((unhide HT1).below (unhide HBR)).get hkl
      obtain ⟨v', w2, hap, hO2, hb2, _⟩ := NL.append_num wr w1.heap.size _ (l.take k) l[k] (unhide HO) (unhide HBR).size (by rw [List.length_take]; omega) 59
      rw [← List.take_succ_eq_append_getElem hkl] at hO2
      have HO2 := hide (And.intro hO2 ((unhide HBR).trans hb2))
      generalize l[k] = x at *
      clear hO2 hb2 hkl hsm
      go_wp2_with (at_builtin; refine wpList_append_run _ rfl _ _ _ _ rfl _ _ rfl rfl v' w2 hap ?_)
      go_roundw
      case rel => exact ⟨k + 1, by omega, by go_num, (unhide HO2).1, (unhide HO2).2⟩
      case measure => simp [intOf]; omega
    · have HE : Hid (l.take k = l) := by
        show _ = _
        have := unhide HN
        rw [List.take_of_length_le (by omega)]
      have hO := unhide HO
      rw [unhide HE] at hO
      obtain ⟨ao, co, hfm, hcl, hcm⟩ := hO.form
      rw [unhide HN] at hfm hcl
      rw [hfm] at hO ⊢
      have HOL := hide hO
      have HB2 := hide ((unhide HB1).trans ((unhide HBR).mono (unhide HB1).size))
      unfold maxLen at hcm
      clear hO hfm HO
      obtain ⟨cc, w3, hcv, hR, hb3⟩ := conv_any b wr
      have hsm : ∀ x ∈ l, x < 4294967296 := (unhide HT).small
      have hnums : NL.NumsAt w3 ao l := by
        have h := (unhide HOL).below hb3
        rw [← unhide HN] at h
        exact h.nums hsm
      have hP := NL.put_any (LS b) (some ⟨wr.heap.size, 0, none⟩) cc l ao co w3 hR.at (fun a0 e _ => by cases e; obtain ⟨cur, fr, h1, _⟩ := hR; exact (Array.getElem?_eq_some_iff.1 h1).1) hnums (by rw [LS_len, unhide HN]; omega)
      rw [LS_len, unhide HN] at hP
      have HP := hide hP
      have HB3 := hide hb3
      clear hP hnums hR hb3 hsm
      go_wp2_with fail
      with_reducible refine (unhide HP).mono ?_
      rintro e w4 ⟨s4, rfl, hO4, hb4⟩
      have hcv4 := hO4.str
      have hb34 : Below wr.heap.size wr w4 := (unhide HB3).trans (hb4.mono (unhide HB3).size)
      have HB4 := hide ((unhide HB2).trans (hb34.mono (unhide HB2).size))
      have hO4' := (unhide HOL).below hb34
      have htk := NL.take_ok (BA (LS b ++ NL.laidL l)) (by rw [BA_size, List.length_append, NL.laidL_len, LS_len, unhide HN]; omega) b.size n (by rw [BA_size, List.length_append, LS_len]; omega) (by rw [BA_size, List.length_append, NL.laidL_len, LS_len, unhide HN]; omega) w4
      have hlb := NL.laid_back l (unhide HT).small (LS b)
      rw [LS_len, unhide HN] at hlb
      rw [hlb] at htk
      have HTK := hide htk
      have HOL4 := hide hO4'
      generalize BA (LS b ++ NL.laidL l) = tt at *
      clear htk hlb hO4 hb4 hb34 hO4'
      go_wp2_with fail
      with_reducible refine (unhide HTK).mono ?_
      rintro e w5 ⟨rfl, hO5, hb5⟩
      have HB5 := hide ((unhide HB4).trans (hb5.mono (unhide HB4).size))
      have HO5 := hide (And.intro hO5 ((unhide HOL4).below hb5))
      have HF5 := hide ((unhide HF).below (unhide HB5))
      clear hO5 hb5
      go_wp2
      clear hcv hcv4
      go_loopw [11] (fun v11 wx => ∃ k : Nat, k ≤ n ∧ v11 = .int .i64 (k : Int) ∧ Hid (∃ q, wx = w5.drewN q)) (fun v11 _ => n - (intOf v11).toNat)
      case atStart => exact ⟨0, Nat.zero_le _, rfl, ⟨0, rfl⟩⟩
      case round =>
        obtain ⟨k2, hk2, rfl, HQ⟩ := hrel
        obtain ⟨q, rfl⟩ := unhide HQ
        clear HQ
        by_cases hlt2 : k2 < n
        · have hkl : k2 < l.length := by rw [unhide HN]; exact hlt2
          have hA1 := (unhide HO5).1
          have hA2 := (unhide HO5).2
          rw [← unhide HN] at hA1 hA2
          obtain ⟨g1, o1, e1, _, hc1, _⟩ := (hA1.nums (unhide HT).small).get hkl
          obtain ⟨g2, o2, rfl, _, hc2, _⟩ := (hA2.nums (unhide HT).small).get hkl
          simp only [Option.some.injEq, Addr.mk.injEq, and_true] at e1
          obtain ⟨rfl, rfl⟩ := e1
          rw [Nat.zero_add] at hc1
          have hc1' : (w5.drewN q).cell? ⟨w4.heap.size, k2, none⟩ = some (.int .u32 (l[k2] : Int)) := hc1
          have hc2' : (w5.drewN q).cell? ⟨g2, o2 + k2, none⟩ = some (.int .u32 (l[k2] : Int)) := hc2
          generalize l[k2] = x at *
          clear hc1 hc2 hA1 hA2
          generalize hW : w5.drewN q = W at *
          have HW := hide hW
          clear hW
          go_wp2
          go_quiet (fail)
          go_wp2
          go_roundw
          case rel => exact ⟨k2 + 1, by omega, by go_num, ⟨q + nq, by rw [← unhide HW, World.drewN_drewN]⟩⟩
          case measure => simp [intOf]; omega
        · have HBq := hide ((unhide HB5).trans (below_drewN w.heap.size w5 q))
          have HFq := hide ((unhide HF).below (unhide HBq))
          generalize w5.drewN q = W at *
          obtain ⟨m, hm⟩ : ∃ m, m = s.size / 2 := ⟨_, rfl⟩
          have hm' : (s.size : Int) / 2 = (m : Int) := by omega
          have hms : 2 * m ≤ s.size := by omega
          have htk := NH.take_ok s (by omega) 0 m (Nat.zero_le _) (by omega) W
          rw [Int.natCast_zero] at htk
          have HTK2 := hide htk
          have HLAID := hide (NH.nums_laid s m hms)
          have HSM := hide (NH.numsL_lt s 0 m)
          have hnl : (NH.numsL s 0 m).length = m := by simp [NH.numsL]
          have HNL := hide hnl
          clear htk hm hnl
          generalize NH.numsL s 0 m = l2 at *
          go_wp2_with fail
          with_reducible refine (unhide HTK2).mono ?_
          rintro e w6 ⟨rfl, hO6, hb6⟩
          have HB6 := hide ((unhide HBq).trans (hb6.mono (unhide HBq).size))
          have HF6 := hide ((unhide HF).below (unhide HB6))
          have hN6 : NH.NumsAt w6 (some ⟨W.heap.size, 0, none⟩) l2 := by
            have := hO6
            rw [← unhide HNL] at this
            exact this.nums (unhide HSM)
          have HP2 : Hid (∀ W7 : World, Below w6.heap.size w6 W7 → Calls Tryd.prog 47 #[.slice none 0 0, .slice (some ⟨W.heap.size, 0, none⟩) m m] W7 fun e w' => ∃ s', e = .returned s' ∧ (convert 57 9 s').run Tryd.prog w' = .ok (.string (s.extract 0 (2 * m))) w' ∧ Below w6.heap.size w6 w') := fun W7 h7 => by
            have hp := NH.put_any [] none 0 l2 (some ⟨W.heap.size, 0, none⟩) m W7 (fun h => absurd rfl h) (fun a h => by cases h) (hN6.below h7) (by rw [unhide HNL]; simp; omega)
            rw [unhide HNL] at hp
            refine hp.mono ?_
            rintro e w8 ⟨s8, rfl, hO8, hb8⟩
            refine ⟨s8, rfl, ?_, h7.trans (hb8.mono h7.size)⟩
            have := hO8.str
            rw [List.nil_append, unhide HLAID] at this
            rw [this]
            congr 2
            rw [← BA_LS (s.extract 0 (2 * m)), LS_extract, List.drop_zero]
          clear hO6 hb6 hN6
          have HSL := hide (slice_front s (2 * m) hms (by omega))
          have HTW := hide (two_times m (by omega))
          have HP3 := hide (unhide HP2 w6.drew ⟨rfl, rfl, rfl, Nat.le_refl _, fun _ _ => rfl⟩)
          go_wp2_with fail
          refine PStep.wp_only ?_
          refine wp_region_held (S := fun _ => True) (by kernel_rfl) ?_
          refine PStep.take (i := 0) (v := .int .i64 0) (some 76) rfl rfl (by kernel_rfl) (by kernel_rfl) (by kernel_rfl) (fun _ _ _ h => h) (.inl ⟨rfl, fun X hX => rfl⟩) trivial ?_
          simp only [Act.put, List.setIfInBounds_toArray, List.set_cons_succ, List.set_cons_zero]
          refine PStep.take (i := 1) (v := .bool false) (some 77) rfl rfl (by kernel_rfl) (by kernel_rfl) (by kernel_rfl) (fun _ _ _ h => h) (.inl ⟨rfl, fun X hX => rfl⟩) trivial ?_
          simp only [Act.put, List.setIfInBounds_toArray, List.set_cons_succ, List.set_cons_zero]
          refine PStep.take (i := 2) (v := .bool false) (some 78) rfl rfl (by kernel_rfl) (by kernel_rfl) (by kernel_rfl) (fun _ _ _ h => h) (.inl ⟨rfl, fun X hX => rfl⟩) trivial ?_
          simp only [Act.put, List.setIfInBounds_toArray, List.set_cons_succ, List.set_cons_zero]
          refine PStep.take (i := 3) (v := .slice (some ⟨W.heap.size, 0, none⟩) m m) (some 79) rfl rfl (by kernel_rfl) (by kernel_rfl) (by kernel_rfl) (fun _ _ _ h => h) (.inl ⟨rfl, fun X hX => rfl⟩) trivial ?_
          simp only [Act.put, List.setIfInBounds_toArray, List.set_cons_succ, List.set_cons_zero]
          refine PStep.take (i := 6) (v := .string s) (some 82) rfl rfl (by kernel_rfl) (by kernel_rfl) (by kernel_rfl) (fun _ _ _ h => h) (.inl ⟨rfl, fun X hX => rfl⟩) trivial ?_
          simp only [Act.put, List.setIfInBounds_toArray, List.set_cons_succ, List.set_cons_zero]
          refine PStep.take (i := 7) (v := .int .i64 (m : Int)) (some 83) rfl rfl (by kernel_rfl) (by kernel_rfl) (by kernel_rfl) (fun _ _ _ h => h) (.inl ⟨rfl, fun X hX => rfl⟩) trivial ?_
          simp only [Act.put, List.setIfInBounds_toArray, List.set_cons_succ, List.set_cons_zero]
          refine PStep.take (i := 8) (v := .int .i64 ((2 * m : Nat) : Int)) (some 84) rfl rfl (by kernel_rfl) (by kernel_rfl) (by kernel_rfl) (fun _ _ _ h => h) (.inl ⟨rfl, fun X hX => run_bin_op rfl rfl rfl (unhide HTW X)⟩) trivial ?_
          simp only [Act.put, List.setIfInBounds_toArray, List.set_cons_succ, List.set_cons_zero]
          refine PStep.take (i := 9) (v := .string (s.extract 0 (2 * m))) (some 85) rfl rfl (by kernel_rfl) (by kernel_rfl) (by kernel_rfl) (fun _ _ _ h => h) (.inl ⟨rfl, fun X hX => run_slice_op rfl rfl rfl (unhide HSL X)⟩) trivial ?_
          simp only [Act.put, List.setIfInBounds_toArray, List.set_cons_succ, List.set_cons_zero]
          refine PStep.one 4 (by kernel_rfl) ?_
          refine PStep.wpOp_callG (f := 47) (args := #[.slice none 0 0, .slice (some ⟨W.heap.size, 0, none⟩) m m]) (w' := w6.drew) rfl (by kernel_rfl) (some 80) rfl (by kernel_rfl) (unhide HP3) ?_
          rintro e w8 ⟨s8, rfl, hcv8, hb8⟩
          refine ⟨s8, rfl, trivial, ?_⟩
          simp only [Act.put, List.setIfInBounds_toArray, List.set_cons_succ, List.set_cons_zero]
          refine PStep.one 5 (by kernel_rfl) ?_
          refine PStep.wpOp_valueG (v := .string (s.extract 0 (2 * m))) (w' := w8) rfl rfl (some 81) rfl (run_conv_op rfl rfl hcv8) ?_
          refine ⟨trivial, ?_⟩
          simp only [Act.put, List.setIfInBounds_toArray, List.set_cons_succ, List.set_cons_zero]
          refine PStep.one 10 (by kernel_rfl) ?_
          refine PStep.wpOp_valueG (v := .bool false) (w' := w8) rfl rfl (some 86) rfl (run_neq_op rfl rfl rfl (neq_same _ _ _ _)) ?_
          refine ⟨trivial, ?_⟩
          simp only [Act.put, List.setIfInBounds_toArray, List.set_cons_succ, List.set_cons_zero]
          refine PStep.one 11 (by kernel_rfl) ?_
          refine PStep.wpOp_valueG (v := .bool false) (w' := w8) rfl rfl (some 87) rfl rfl ?_
          refine ⟨trivial, ?_⟩
          simp only [Act.put, List.setIfInBounds_toArray, List.set_cons_succ, List.set_cons_zero]
          refine wpAnyH_done (by kernel_rfl) ?_ _
          simp only [PStep.only]
          have HB8 := hide ((unhide HB6).trans (hb8.mono (unhide HB6).size))
          have HF8 := hide ((unhide HF6).below hb8)
          have HSE := hide (seal_any s (by unfold maxLen; omega) w8 (unhide HF8))
          have HOP := hide (open_seal s (by unfold maxLen; omega))
          generalize BA (sealL (LS s)) = sl at *
          clear hb8 hcv8
          go_wp2_with fail
          with_reducible refine (unhide HSE).mono ?_
          rintro e w9 ⟨rfl, hb9⟩
          have HF9 := hide ((unhide HF8).below hb9)
          have HB9 := hide ((unhide HB8).trans (hb9.mono (unhide HB8).size))
          clear hb9
          go_wp2_with fail
          with_reducible refine (unhide HOP w9 (unhide HF9)).mono ?_
          rintro e w10 ⟨rfl, hb10⟩
          go_wp2
          go_ret
          exact ⟨rfl, (unhide HB9).trans (hb10.mono (unhide HB9).size)⟩
end Go.Proofs.YtdbfpmelhokeoaaDoor
