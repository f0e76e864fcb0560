/-
  WideBack: the walk.
-/
import Derived.Test.YtghcheoholkpbaaWBackL
import Derived.Deep.RegionHeld
namespace Go.Proofs.Ytghcheoholkpbaa.wideBack
open Go.ChangeShapes Go.WideShapes Go.ChangeAt Go.RowKit Go.PlainAid Go.Lib
open Go.ChangeMaps (open_string shut_string)
attribute [local go_sem ↓] Go.wp_at_zero Go.wp_at_succ
set_option linter.unusedVariables false

/-- a piece of code that ends in no other way than by going on -/
def onlyN (Q : Exit → Act → World → Prop) : Exit → Act → World → Prop
  | .normal, a, w => Q .normal a w
  | _, _, _ => False
theorem onlyN_mk {Q : Exit → Act → World → Prop} {a : Act} {w : World} (h : Q .normal a w) : onlyN Q .normal a w := h
theorem wp_only {P : Program} {c : Code} {Q : Exit → Act → World → Prop} {a : Act} {w : World} (h : c.wp P (onlyN Q) a w) : c.wp P Q a w :=
  Code.wp_mono (fun e a w h => by cases e <;> first | exact h | exact h.elim) h

set_option maxRecDepth 100000 in
set_option maxHeartbeats 8000000 in
theorem walk (a : Option Addr) (zs : List Int) (ca : Nat) (b : Option Addr) (us : List Int) (cb : Nat) (s : ByteArray) (w : World) (hra : Reads w a zs) (hca : zs.length ≤ ca) (hca2 : ca ≤ 1048576) (hrb : ReadsU w b us) (hfb : Fits us) (hcb : us.length ≤ cb) (hcb2 : cb ≤ 1048576) (hs : s.size ≤ 1048576) :
    Calls Try.prog 9 #[.slice a zs.length ca, .slice b us.length cb, .string s] w fun e w' => e = .returned (.bool true) ∧ Below w.heap.size w w' := by
  have hul := units_len zs
  have hml : (1048576 : Nat) ≤ maxLen := by decide
  have HF1 := hide (fromRunes_any a ca zs w hra (by omega))
  have HRA := hide hra
  have HRB := hide hrb
  have HFB := hide hfb
  have hwz : wrunes (units zs) = zs.map fixI := by rw [wrunes_wl, wl_units]
  have hwu := wrunes_len us
  have hwu2 := units_len (wrunes us)
  have HRU := hide (fun (w : World) (h : ReadsU w b us) => wrunes_any us b cb w hfb (by omega) hcb (Nat.le_trans hcb2 hml) h)
  have HCU := hide (fun (w : World) (h : ReadsU w b us) => wcheck_any us b cb w hfb (by omega) hcb (Nat.le_trans hcb2 hml) h)
  have HTU := hide (fun (w : World) (h : ReadsU w b us) => wtext_any us b cb w hfb (by omega) hcb (Nat.le_trans hcb2 hml) h)
  have HCC : Hid (((chkR us).1 = 0 ∧ (chkR us).2 = 0 ∧ decide (units (wrunes us) = us) = true) ∨ (∃ p : Nat, (chkR us).1 = p ∧ (chkR us).2 ≠ 0 ∧ p < us.length ∧ 55296 ≤ uA us p ∧ uA us p ≤ 57343 ∧ decide (units (wrunes us) = us) = false)) := by
    rcases chk_cases us hfb with ⟨h1, h2⟩ | ⟨p, c, h1, h2, h3, h4, h5, h6⟩
    · exact .inl ⟨by rw [h1], by rw [h1], by simpa using h2⟩
    · exact .inr ⟨p, by rw [h1], by rw [h1]; exact h2, h3, h4, h5, by simpa using h6⟩
  have HSA := hide (fun (w : World) (x : Option Addr) (c : Nat) (h : ReadsU w x (units (wrunes us))) (h' : ReadsU w b us) => sameU_any x b c cb (units (wrunes us)) us w h h' (by omega))
  have HFT := hide (fun w => fromText_any (runesBytes (wrunes us)) w (by have := runesBytes_size_le (wrunes us); omega))
  rw [text_units] at HFT
  have HCK := hide (fun (w : World) (B : Nat) (v : Value) (n : Nat) (h : w.ownsRow B 22 1 v n (u16s (units (wrunes us)))) => wcheck_row h (units_fits _) (by omega))
  rw [chk_again] at HCK
  generalize hE1 : (chkR us).1 = e1 at *
  generalize hE2 : (chkR us).2 = e2 at *
  generalize hDD : decide (units (wrunes us) = us) = D at *
  clear hE1 hE2 hDD
  have HWZ := hide hwz
  clear hwz hra hrb hfb hml
  have HR1 := hide (fun (w : World) (B : Nat) (v : Value) (h : w.ownsRow B 22 1 v (units zs).length (u16s (units zs))) => wrunes_row h (units_fits zs) (by omega))
  go_enter Try.func9, Try.ntmps9
  go_wp2_with fail
  refine (unhide HF1).mono ?_
  rintro e w1 ⟨v1, rfl, hrow1, hb1⟩
  have HQ1 := hide (unhide HR1 _ _ _ hrow1)
  clear hrow1 HF1 HR1
  go_wp2_with fail
  refine (unhide HQ1).mono ?_
  rintro e w2 ⟨v2, rfl, hrow2, hb2⟩
  rw [unhide HWZ, List.length_map] at hrow2
  obtain ⟨a2, c2, rfl⟩ := row_is hrow2
  have hB2 : Below w.heap.size w w2 := hb1.trans (hb2.mono hb1.size)
  have HC2 : Hid (∀ k, k < zs.length → ∃ g bb off, a2 = some ⟨g, 0, none⟩ ∧ a = some ⟨bb, off, none⟩ ∧ w2.cell? ⟨g, k, none⟩ = some (.int .i32 (fixI (zs.getD k 0))) ∧ w2.cell? ⟨bb, off + k, none⟩ = some (.int .i32 (zs.getD k 0))) := by
    intro k hk
    obtain ⟨g, hg⟩ := row_at hrow2 (by omega)
    subst hg
    obtain ⟨bb, off, e1, e2⟩ := ((unhide HRA).below hB2) k hk
    refine ⟨g, bb, off, rfl, e1, ?_, e2⟩
    rw [hrow2.cellAt k (by omega)]
    simp [List.getElem?_eq_getElem hk, List.getD]
  clear hrow2 hb1 hb2 HQ1 HWZ HRA
  have hnz : zs.length ≤ 1048576 := by omega
  generalize hn : zs.length = n at *
  clear hn
  go_wp2
  go_loop [8, 9] (fun v8 v9 => ∃ k : Nat, k ≤ n ∧ v8 = .int .i64 k) (fun v8 _ => n - (intOf v8).toNat)
  case atStart => exact ⟨0, Nat.zero_le _, rfl⟩
  case round =>
    obtain ⟨k, hk, rfl⟩ := hrel
    by_cases hlt : k < n
    · obtain ⟨g, bb, off, rfl, rfl, c1, c2'⟩ := unhide HC2 k hlt
      generalize zs.getD k 0 = z at *
      have h5 : (decide (z < 0) = true ∧ fixI z = 65533) ∨ (decide (z < 0) = false ∧ decide (1114111 < z) = true ∧ fixI z = 65533) ∨ (decide (z < 0) = false ∧ decide (1114111 < z) = false ∧ decide (55296 ≤ z) = false ∧ fixI z = z) ∨ (decide (z < 0) = false ∧ decide (1114111 < z) = false ∧ decide (55296 ≤ z) = true ∧ decide (z < 57344) = true ∧ fixI z = 65533) ∨ (decide (z < 0) = false ∧ decide (1114111 < z) = false ∧ decide (55296 ≤ z) = true ∧ decide (z < 57344) = false ∧ fixI z = z) := by
        have fx : ∀ h : Bool, scalarB z = h → fixI z = if h then z else 65533 := fun h e => by unfold fixI; rw [e]
        have sc : scalarB z = (decide (0 ≤ z) && decide (z ≤ 1114111) && !(decide (55296 ≤ z) && decide (z ≤ 57343))) := rfl
        by_cases h1 : z < 0
        · exact .inl ⟨by simpa using h1, by rw [fx false (by rw [sc]; simp; omega)]; rfl⟩
        · by_cases h2 : 1114111 < z
          · exact .inr (.inl ⟨by simpa using h1, by simpa using h2, by rw [fx false (by rw [sc]; simp; omega)]; rfl⟩)
          · by_cases h3 : 55296 ≤ z
            · by_cases h4 : z < 57344
              · exact .inr (.inr (.inr (.inl ⟨by simpa using h1, by simpa using h2, by simpa using h3, by simpa using h4, by rw [fx false (by rw [sc]; simp; omega)]; rfl⟩)))
              · exact .inr (.inr (.inr (.inr ⟨by simpa using h1, by simpa using h2, by simpa using h3, by simpa using h4, by rw [fx true (by rw [sc]; simp; omega)]; rfl⟩)))
            · exact .inr (.inr (.inl ⟨by simpa using h1, by simpa using h2, by simpa using h3, by rw [fx true (by rw [sc]; simp; omega)]; rfl⟩))
      have qz : ((z : Int) != z) = false := by simp
      rcases h5 with ⟨d1, d5⟩ | ⟨d1, d2, d5⟩ | ⟨d1, d2, d3, d5⟩ | ⟨d1, d2, d3, d4, d5⟩ | ⟨d1, d2, d3, d4, d5⟩
      all_goals
        rw [d5] at c1
        clear d5
        go_wp2
        go_round
        case rel => exact ⟨k + 1, by omega, by go_num⟩
        case measure => simp [intOf]; omega
    · have hkn : ¬ (k : Int) < (n : Int) := by omega
      clear HC2
      go_wp2_with fail
      refine (unhide HRU _ ((unhide HRB).below hB2)).mono ?_
      rintro e w3 ⟨v3, rfl, hrow3, hb3⟩
      have hB3 : Below w.heap.size w w3 := hB2.trans (hb3.mono hB2.size)
      have HQ3 := hide (fromRunes_row hrow3 (by omega))
      clear hrow3 hb3 hB2 HRU
      go_wp2_with fail
      refine (unhide HQ3).mono ?_
      rintro e w4 ⟨v4, rfl, hrow4, hb4⟩
      obtain ⟨a4, c4, rfl⟩ := row_is hrow4
      have hB4 : Below w.heap.size w w4 := hB3.trans (hb4.mono hB3.size)
      have Q4 := hide hrow4
      clear hrow4 hb4 hB3 HQ3
      go_wp2_with fail
      refine (unhide HCU _ ((unhide HRB).below hB4)).mono ?_
      rintro e w5 ⟨rfl, hb5⟩
      have hB5 := hide (hB4.trans (hb5.mono hB4.size))
      have Q5 := hide (rowBelow (unhide Q4) hb5)
      clear hB4 hb5 Q4 HCU
      generalize hM : (units (wrunes us)).length = M at *
      clear hM
      go_upto_region 14 with fail
      go_cut [80] from 61 to 80 (fun v80 wx => v80 = .bool false ∧ Below w5.heap.size w5 wx)
      case first =>
        rcases unhide HCC with ⟨he1, he2, hD⟩ | ⟨p, he1, he2, hpl, hp1, hp2, hD⟩
        · subst he1 he2 hD
          go_wp2_with fail
          refine (unhide HSA _ _ _ (readsU_own (unhide Q5)) ((unhide HRB).below (unhide hB5))).mono ?_
          rintro e w6 ⟨rfl, hb6⟩
          have hB6 := (unhide hB5).trans (hb6.mono (unhide hB5).size)
          go_wp2_with fail
          refine (unhide HTU _ ((unhide HRB).below hB6)).mono ?_
          rintro e w7 ⟨rfl, hb7⟩
          have hB7 := hB6.trans (hb7.mono hB6.size)
          have hb57 := hb6.trans (hb7.mono hb6.size)
          clear hb6 hb7 hB6
          go_wp2_with fail
          refine (unhide HFT _).mono ?_
          rintro e w8 ⟨v8, rfl, hrow8, hb8⟩
          have hB8 := hB7.trans (hb8.mono hB7.size)
          have hb58 := hb57.trans (hb8.mono hb57.size)
          obtain ⟨a8, c8, rfl⟩ := row_is hrow8
          have HS8 := hide (unhide HSA _ _ c8 (readsU_own hrow8) ((unhide HRB).below hB8))
          clear hrow8 hb8 hb57 hB7
          go_wp2_with fail
          refine (unhide HS8).mono ?_
          rintro e w9 ⟨rfl, hb9⟩
          go_wp2
          go_meet
          case rel => exact ⟨rfl, hb58.trans (hb9.mono hb58.size)⟩
        · subst he1 hD
          have hc1 : (e2 == 0) = false := by simpa using he2
          clear HCC
          go_wp2
          go_meet
          case rel => exact ⟨rfl, Below.refl _ _⟩
      case rest =>
        obtain ⟨rfl, hbc⟩ := hcut
        have hB6 := (unhide hB5).trans (hbc.mono (unhide hB5).size)
        have Q6 := hide (rowBelow (unhide Q5) hbc)
        clear hbc hB5 Q5
        go_upto_region 16 with fail
        go_cut [111] from 81 to 111 (fun v111 wx => v111 = .bool false ∧ Below wc.heap.size wc wx)
        case first =>
          rcases unhide HCC with ⟨he1, he2, hD⟩ | ⟨p, he1, he2, hpl, hp1, hp2, hD⟩
          · subst he1 he2 hD
            go_wp2
            go_meet
            case rel => exact ⟨rfl, Below.refl _ _⟩
          · subst he1 hD
            have hc1 : (e2 != 0) = true := by simpa using he2
            obtain ⟨bb, off, rfl, hcell⟩ := ((unhide HRB).below hB6) p hpl
            have k1 : decide ((p : Int) < 0) = false := by simp
            have k2 : decide ((us.length : Int) ≤ (p : Int)) = false := by simp; omega
            have k5 : (p : Int) < (us.length : Int) := by omega
            have k6 : decide (us.length ≤ p) = false := by simp; omega
            generalize uA us p = x at *
            have k3 : decide (x < 55296) = false := by simp; omega
            have k4 : decide (57343 < x) = false := by simp; omega
            clear HCC
            go_wp2_with fail
            refine (unhide HSA _ _ _ (readsU_own (unhide Q6)) ((unhide HRB).below hB6)).mono ?_
            rintro e w7 ⟨rfl, hb7⟩
            go_wp2
            go_meet
            case rel => exact ⟨rfl, hb7⟩
        case rest =>
          obtain ⟨rfl, hbc⟩ := hcut
          have hB7 := hB6.trans (hbc.mono hB6.size)
          have Q7 := rowBelow (unhide Q6) hbc
          have HC7 := hide (unhide HCK _ _ _ _ Q7)
          clear hbc hB6 Q6 Q7 HCK HSA HFT HTU HCC
          go_wp2_with fail
          refine (unhide HC7).mono ?_
          rintro e w8 ⟨rfl, hb8⟩
          have hB8 := hide (hB7.trans (hb8.mono hB7.size))
          clear hB7 hb8 HC7
          have hnl : (nums s 0).length ≤ s.size := by have := chars_length s 0; simp; omega
          have hul3 := units_len (nums s 0)
          have HFS := hide (fun w => fromText_any s w (by omega))
          have HTX := hide (fun (w : World) (B : Nat) (v : Value) (n : Nat) (h : w.ownsRow B 22 1 v n (u16s (units (nums s 0)))) => wtext_row h (units_fits _) (by omega))
          rw [mend_units] at HTX
          have HMD := hide (fun w => mend_any s w (by omega))
          obtain ⟨cvC, cvW, hcv, hcv2, hcvB⟩ : ∃ (cvC : World → Nat) (cvW : World → World), (∀ W, (convert 9 30 (.string s)).run Try.prog W = .ok (.slice (some ⟨W.heap.size, 0, none⟩) (chars s 0).length (cvC W)) (cvW W)) ∧
              (∀ W w', Below (cvW W).heap.size (cvW W) w' → (convert 30 9 (.slice (some ⟨W.heap.size, 0, none⟩) (chars s 0).length (cvC W))).run Try.prog w' = .ok (.string (mendB s)) w') ∧ (∀ W, Below W.heap.size W (cvW W)) := by
            have h := fun W => conv_runes2 s W (by omega)
            refine ⟨fun W => (h W).choose, fun W => (h W).choose_spec.choose, fun W => (h W).choose_spec.choose_spec.1, fun W w' hb => ?_, fun W => (h W).choose_spec.choose_spec.2.2⟩
            exact conv_own (rowBelow (h W).choose_spec.choose_spec.2.1 hb)
          have hcv3 := fun W => hcv2 W (cvW W) (Below.refl _ _)
          generalize mendB s = MS at *
          have qm : (MS.toList == MS.toList) = true := by simp
          generalize hN : (chars s 0).length = N at *
          clear hN hnl hul3
          go_upto_region 19 with fail
          have hAll := unhide hB8
          refine wp_only ?_
          go_region_held (fun _ => True) (trivial)
            (first
              | (go_at_call 25; refine (unhide HFS _).mono ?_; rintro e wF ⟨vF, rfl, hrowF, hbF⟩; first | (have hAll := hAll.trans (hbF.mono hAll.size)) | (have hAll := hAll.drew.trans (hbF.mono hAll.drew.size)) | (have hAll := (hAll.trans ((hcvB _).mono hAll.size)).trans (hbF.mono (hAll.trans ((hcvB _).mono hAll.size)).size)) | (have hAll := (hAll.drew.trans ((hcvB _).mono hAll.drew.size)).trans (hbF.mono (hAll.drew.trans ((hcvB _).mono hAll.drew.size)).size)))
              | (go_at_call 34; first
                  | (refine (unhide HTX _ _ _ _ hrowF).mono ?_; rintro e wT ⟨rfl, hbT⟩; have hbFT := hbF.trans (hbT.mono hbF.size); first | (have hAll := hAll.trans (hbT.mono hAll.size)) | (have hAll := hAll.drew.trans (hbT.mono hAll.drew.size)) | (have hAll := (hAll.trans ((hcvB _).mono hAll.size)).trans (hbT.mono (hAll.trans ((hcvB _).mono hAll.size)).size)) | (have hAll := (hAll.drew.trans ((hcvB _).mono hAll.drew.size)).trans (hbT.mono (hAll.drew.trans ((hcvB _).mono hAll.drew.size)).size)))
                  | (refine (unhide HTX _ _ _ _ (rowBelow hrowF (hcvB _))).mono ?_; rintro e wT ⟨rfl, hbT⟩; first | (have hAll := hAll.trans (hbT.mono hAll.size)) | (have hAll := hAll.drew.trans (hbT.mono hAll.drew.size)) | (have hAll := (hAll.trans ((hcvB _).mono hAll.size)).trans (hbT.mono (hAll.trans ((hcvB _).mono hAll.size)).size)) | (have hAll := (hAll.drew.trans ((hcvB _).mono hAll.drew.size)).trans (hbT.mono (hAll.drew.trans ((hcvB _).mono hAll.drew.size)).size))))
              | (go_at_call 50; refine (unhide HMD _).mono ?_; rintro e wM ⟨rfl, hbM⟩; first | (have hAll := hAll.trans (hbM.mono hAll.size)) | (have hAll := hAll.drew.trans (hbM.mono hAll.drew.size)) | (have hAll := (hAll.trans ((hcvB _).mono hAll.size)).trans (hbM.mono (hAll.trans ((hcvB _).mono hAll.size)).size)) | (have hAll := (hAll.drew.trans ((hcvB _).mono hAll.drew.size)).trans (hbM.mono (hAll.drew.trans ((hcvB _).mono hAll.drew.size)).size)))
              | (go_at_call 20; refine (awake_any _).mono ?_; rintro e wA ⟨rfl, hbA⟩; first | (have hAll := hAll.trans (hbA.mono hAll.size)) | (have hAll := hAll.drew.trans (hbA.mono hAll.drew.size)) | (have hAll := (hAll.trans ((hcvB _).mono hAll.size)).trans (hbA.mono (hAll.trans ((hcvB _).mono hAll.size)).size)) | (have hAll := (hAll.drew.trans ((hcvB _).mono hAll.drew.size)).trans (hbA.mono (hAll.drew.trans ((hcvB _).mono hAll.drew.size)).size))))
          all_goals
            refine onlyN_mk ?_
            go_wp2
            go_ret
            exact ⟨rfl, hAll⟩

theorem own : ownKnob Try.prog.godebug = none := by kernel_rfl
theorem laidOut : laidOutB Try.prog = true := by kernel_rfl

set_option maxRecDepth 100000 in
theorem contract (H : Type) (enc : TypeId × Value → H) (W : World) (base : Nat) (args : Array Value) (ds gs : List (DataW H)) (before : List MemPlace)
    (hval : ∀ (j : Nat) t v, Try.f9.params[j]? = some t → args[j]? = some v → Value.okWide Try.prog W .any base t v)
    (hW : DataW.Whole enc Try.prog Try.f9.params.toList Rows.wideBackSpec.vars false W args.toList ds gs before) (hk : Rows.uptoSmall H (ds ++ gs) = true) :
    Calls Try.prog 9 args W fun e W' => ∃ v, e = .returned v ∧ Rows.wideBackSpec.post enc Try.prog Try.f9 false true false false W args v W' := by
  have hW' := hW
  obtain ⟨p, q, hA0, hV, rfl, hfz, hnd⟩ := hW
  have hA : DataW.TrodAll enc Try.prog W 0 (fun _ => true) true Try.f9.params.toList args.toList ds p := hA0
  rw [Try.params9] at hA hval
  obtain ⟨v0, vs0, d0, ds0, p0, q0, hargs, rfl, rfl, h0, r0⟩ := trodAll_cons hA
  obtain ⟨v1, vs1, d1, ds1, p1, q1, rfl, rfl, rfl, h1, r1⟩ := trodAll_cons r0
  obtain ⟨v2, vs2, d2, ds2, p2, q2, rfl, rfl, rfl, h2, r2⟩ := trodAll_cons r1
  obtain ⟨rfl, rfl, rfl⟩ := trodAll_nil r2
  obtain rfl : args = #[v0, v1, v2] := by cases args; simp_all
  obtain ⟨rfl, rfl⟩ := trodVars_none hV
  obtain ⟨a0, len0, cap0, rfl⟩ := okWide_slice Try.underlying30 (hval 0 30 v0 rfl rfl)
  have k0 := h0
  have lt0 : ∀ x ∈ p0, x.block < W.heap.size := by obtain ⟨m, hm⟩ := k0; exact DataW.trod_lt m _ _ _ hm
  obtain ⟨a1, len1, cap1, rfl⟩ := okWide_slice Try.underlying31 (hval 1 31 v1 rfl rfl)
  have k1 := h1
  have lt1 : ∀ x ∈ p1, x.block < W.heap.size := by obtain ⟨m, hm⟩ := k1; exact DataW.trod_lt m _ _ _ hm
  obtain ⟨a2, rfl, rfl, rfl, w2⟩ := open_string Try.underlying9 (hval 2 9 v2 rfl rfl) h2
  have hk' : Rows.uptoSmall H [d0, d1, .lit (.string a2.data.toList)] = true := hk
  have hb := bulk_bound hk'
  simp only [Rows.uptoBulkAll] at hb
  rw [bulk_string a2] at hb
  have c2 : a2.size ≤ 1048576 := by omega
  obtain ⟨z0, w0, c0, wf0⟩ : ∃ zs : List Int, ((a0 = none ∧ len0 = 0 ∧ cap0 = 0 ∧ zs = []) ∨ ∃ x, a0 = some x ∧ len0 ≤ cap0 ∧ cap0 ≤ maxLen ∧ zs.length = cap0 ∧ (∀ i, i < zs.length → W.cell? (x.add i) = some (.int .i32 (zs.getD i 0)))) ∧ cap0 ≤ 1048576 ∧ (∀ n ∈ zs, (Lit.int .i32 n).wf = true) := by
    obtain ⟨fuel, hf⟩ := h0
    rcases open_ints Try.underlying30 Try.underlying21 (by kernel_rfl) hf with ⟨hcs, _⟩ | ⟨x, l, c, zs, hcs, _, hl, hm, hz, hx, hcell, hwz⟩
    · simp [Value.cells] at hcs
      obtain ⟨rfl, rfl, rfl⟩ := hcs
      exact ⟨[], .inl ⟨rfl, rfl, rfl, rfl⟩, by omega, by simp⟩
    · simp [Value.cells] at hcs
      obtain ⟨rfl, rfl, rfl⟩ := hcs
      have hz' : zs.length = cap0 := by simpa using hz
      refine ⟨zs, .inr ⟨_, rfl, hl, hm, hz', hcell⟩, ?_, hwz⟩
      have hd : d0 = .slice (lits .i32 (zs.take len0)) (lits .i32 (zs.drop len0)) := by simp only [Prod.mk.injEq] at hx; exact hx.1
      rw [hd] at hb
      have h2 := bulk_slice (H := H) (lits .i32 (zs.take len0)) (lits .i32 (zs.drop len0))
      have e1 : (lits (H := H) .i32 (zs.take len0)).length = (zs.take len0).length := by simp [lits]
      have e2 : (lits (H := H) .i32 (zs.drop len0)).length = (zs.drop len0).length := by simp [lits]
      rw [e1, e2, List.length_take, List.length_drop] at h2
      omega
  have hlc0 : len0 ≤ cap0 := by rcases w0 with ⟨_, h, h', _⟩ | ⟨_, _, h, _⟩ <;> omega
  have hzc0 : z0.length = cap0 := w0.elim (fun ⟨_, _, h, h'⟩ => by rw [h', h]; rfl) (fun ⟨_, _, _, _, h, _⟩ => h)
  have hle0 : (z0.take len0).length = len0 := by rw [List.length_take]; omega
  have hrd0 : Reads W a0 (z0.take len0) := by
    intro i hi
    rw [hle0] at hi
    rcases w0 with ⟨_, h, _⟩ | ⟨x, h1, h2, h3, h4, h5⟩
    · omega
    · obtain ⟨b, off, rfl, hc⟩ := ints_at h5 (by omega)
      refine ⟨b, off, h1, (hc i (by omega)).trans ?_⟩
      simp [List.getD, hi]
  obtain ⟨z1, w1, c1, wf1⟩ : ∃ zs : List Int, ((a1 = none ∧ len1 = 0 ∧ cap1 = 0 ∧ zs = []) ∨ ∃ x, a1 = some x ∧ len1 ≤ cap1 ∧ cap1 ≤ maxLen ∧ zs.length = cap1 ∧ (∀ i, i < zs.length → W.cell? (x.add i) = some (.int .u16 (zs.getD i 0)))) ∧ cap1 ≤ 1048576 ∧ (∀ n ∈ zs, (Lit.int .u16 n).wf = true) := by
    obtain ⟨fuel, hf⟩ := h1
    rcases open_ints Try.underlying31 Try.underlying22 (by kernel_rfl) hf with ⟨hcs, _⟩ | ⟨x, l, c, zs, hcs, _, hl, hm, hz, hx, hcell, hwz⟩
    · simp [Value.cells] at hcs
      obtain ⟨rfl, rfl, rfl⟩ := hcs
      exact ⟨[], .inl ⟨rfl, rfl, rfl, rfl⟩, by omega, by simp⟩
    · simp [Value.cells] at hcs
      obtain ⟨rfl, rfl, rfl⟩ := hcs
      have hz' : zs.length = cap1 := by simpa using hz
      refine ⟨zs, .inr ⟨_, rfl, hl, hm, hz', hcell⟩, ?_, hwz⟩
      have hd : d1 = .slice (lits .u16 (zs.take len1)) (lits .u16 (zs.drop len1)) := by simp only [Prod.mk.injEq] at hx; exact hx.1
      rw [hd] at hb
      have h2 := bulk_slice (H := H) (lits .u16 (zs.take len1)) (lits .u16 (zs.drop len1))
      have e1 : (lits (H := H) .u16 (zs.take len1)).length = (zs.take len1).length := by simp [lits]
      have e2 : (lits (H := H) .u16 (zs.drop len1)).length = (zs.drop len1).length := by simp [lits]
      rw [e1, e2, List.length_take, List.length_drop] at h2
      omega
  have hlc1 : len1 ≤ cap1 := by rcases w1 with ⟨_, h, h', _⟩ | ⟨_, _, h, _⟩ <;> omega
  have hzc1 : z1.length = cap1 := w1.elim (fun ⟨_, _, h, h'⟩ => by rw [h', h]; rfl) (fun ⟨_, _, _, _, h, _⟩ => h)
  have hle1 : (z1.take len1).length = len1 := by rw [List.length_take]; omega
  have hrd1 : ReadsU W a1 (z1.take len1) := by
    intro i hi
    rw [hle1] at hi
    rcases w1 with ⟨_, h, _⟩ | ⟨x, h1, h2, h3, h4, h5⟩
    · omega
    · obtain ⟨b, off, rfl, hc⟩ := ints_at h5 (by omega)
      refine ⟨b, off, h1, (hc i (by omega)).trans ?_⟩
      simp [uA, List.getD, hi]
  have hfi1 : Fits (z1.take len1) := by
    intro x hx
    exact wf_u16 (wf1 x (List.mem_of_mem_take hx))
  clear hA0
  have hwk := walk a0 (z0.take len0) cap0 a1 (z1.take len1) cap1 a2 W hrd0 (by rw [hle0]; omega) c0 hrd1 hfi1 (by rw [hle1]; omega) c1 c2
  rw [hle0] at hwk
  rw [hle1] at hwk
  refine hwk.mono fun e W' ⟨he, bel⟩ => ?_
  subst he
  exact ⟨_, rfl, _, _, _, [], _, [], hW', trodAll_mk1 (shut_bool Try.underlying4 _), (trodAll_cons_mk (Below.trod laidOut (by kernel_rfl) (of_decide_eq_true (by kernel_rfl)) k0 bel lt0) (trodAll_cons_mk (Below.trod laidOut (by kernel_rfl) (of_decide_eq_true (by kernel_rfl)) k1 bel lt1) (trodAll_cons_mk (shut_string Try.underlying9 w2) trodAll_mk0))), rfl, bel.frame _, fun h => by cases h⟩

set_option maxRecDepth 100000 in
theorem lifted (os : Os) (started : os.Started) (H : Type) (enc : TypeId × Value → H) (F : Stop.Interp) :
    ReturnsInHanded {} Try.checked os 9 .any ((Rows.OpenSpec.upto Rows.wideBackSpec).pre6 enc Try.prog Try.f9 Rows.wideBackUptoRow.domain false) (((Rows.OpenSpec.upto Rows.wideBackSpec).at F).post enc Try.prog Try.f9 false true false false) := by
  refine returnsInHanded_of_cond (C := Try.checked) (s := Rows.OpenSpec.upto Rows.wideBackSpec) (k := Rows.uptoSmall) rfl own started (by kernel_rfl) Try.func9
    (OpenSpec.witness (enc := enc) (C := Try.checked) (s := Rows.OpenSpec.upto Rows.wideBackSpec) (k := Rows.uptoSmall) rfl false ⟨#[], #[.slice none 0 0, .slice none 0 0, .string ByteArray.empty], []⟩ 8 (by kernel_rfl) (by kernel_rfl) (by kernel_rfl)
      (x := ([.nil, .nil, .lit (.string [])], [], [])) (by kernel_rfl) rfl (by kernel_rfl)) ?_
  intro W base args ds gs before hval hW _ hk _
  exact contract H enc W base args ds gs before hval hW hk

theorem over : Rows.wideBackUptoRow.holds Try.pinned (Rows.OpenSpec.upto Rows.wideBackSpec) :=
  OpenClaim.holds_of_cond 9 Try.f9 rfl rfl rfl rfl rfl rfl rfl ⟨rfl, rfl, rfl, rfl, rfl⟩ rfl rfl rfl rfl rfl (by kernel_rfl) Try.func9 (by kernel_rfl)
    (of_decide_eq_true (by kernel_rfl)) (by unfold Func.isWrapper; first | (rw [if_pos (by decide +kernel)]; kernel_rfl) | (rw [if_neg (by decide +kernel)]; exact ⟨rfl, rfl⟩))
    (fun os started H enc _ F => lifted os started H enc F)

end Go.Proofs.Ytghcheoholkpbaa.wideBack
namespace Go.Proofs.Ytghcheoholkpbaa
theorem wideBack_upto : Rows.WideBackUptoSaid := wideBack.over
end Go.Proofs.Ytghcheoholkpbaa

