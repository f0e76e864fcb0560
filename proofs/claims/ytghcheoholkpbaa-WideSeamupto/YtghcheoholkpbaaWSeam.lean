/-
  WideSeam: units and characters of two pieces one behind the other: for arguments of at most 1048576 values and letters in all.
-/
import Derived.Test.YtghcheoholkpbaaWSeamM
import Derived.Test.YtghcheoholkpbaaBulk
import Derived.Deep.Cut
import Derived.Deep.CutRange
import Derived.Deep.DeepCutAuto
import Derived.ProofKit
import Derived.OpenShut
import Derived.ShutString
import Derived.ChangeOld
import Derived.JoinedCond
namespace Go.Proofs.Ytghcheoholkpbaa
open Go.RowKit Go.PlainAid Go.Lib
set_option linter.unusedVariables false
/-- an append whose run is known, where it is wanted -/
theorem wpList_append_run_g {P : Program} (w : World) {ops : Array Oper} {rest : List Oper} {o : Oper} {a : Act} {Q : Exit → Act → World → Prop} (hw : Region.wanted o (yielded ops a.tmps) = true) (s x : Operand) (t : TypeId)
    (ho : o.op = .call { callee := .builtin .append, args := #[s, x], argTypes := #[t, t] }) (v xv : Value) (hs : a.eval s = v) (hx : a.eval x = xv)
    (v' : Value) (w' : World) (hr : ∀ ty, (Builtin.append_ #[t, t] ty #[v, xv]).run P w = .ok v' w') (h : wpList P ops Q rest (a.put o.dst v') w') : wpList P ops Q (o :: rest) a w := by
  refine wpList_step fun K hK => ?_
  rw [if_pos hw]
  unfold Oper.wp execOp
  simp only [ho, resolve, invoke, builtin, Sem.run_bind, Sem.run_pure, Result.andThen_ok, List.map_toArray, List.map_cons, List.map_nil, hs, hx, hr]
  exact hK _ _ h
theorem rows_ne2 {W : World} {base : Nat} {e : TypeId} {v2 v3 : Value} {n : Nat} {xs : List Value} (q : W.ownsRow base e 1 v3 n xs) (hl : ∀ g, v2.ownBlock = some g → g < base) : v2.ownBlock = none ∨ v2.ownBlock ≠ v3.ownBlock := by
  cases h : v2.ownBlock with
  | none => exact .inl rfl
  | some g =>
    right
    intro e
    have h1 := hl g h
    have h2 := (q.lt g e.symm).1
    omega
theorem opens_last (us : List Int) (h : us ≠ []) : opens us = highB (uA us (us.length - 1)) := by
  have e : us.getLast? = some (uA us (us.length - 1)) := by
    have hl : us.length - 1 < us.length := by have := List.length_pos_iff.2 h; omega
    rw [List.getLast?_eq_getElem?]
    unfold uA
    rw [List.getD_eq_getElem?_getD, List.getElem?_eq_getElem hl]; rfl
  unfold opens
  rw [e]
theorem shuts_first (us : List Int) (h : us ≠ []) : shuts us = lowB (uA us 0) := by
  cases us with
  | nil => exact absurd rfl h
  | cons x l => rfl
end Go.Proofs.Ytghcheoholkpbaa
namespace Go.Proofs.Ytghcheoholkpbaa.wideSeam
open Go.ChangeShapes Go.WideShapes Go.ChangeAt Go.RowKit Go.PlainAid Go.Lib
open Go.ChangeMaps (open_string shut_string)
set_option linter.unusedVariables false

set_option maxRecDepth 100000 in
set_option maxHeartbeats 4000000 in
theorem walk (s t : ByteArray) (a : Option Addr) (us : List Int) (ca : Nat) (b : Option Addr) (vs : List Int) (cb : Nat) (w : World) (hs : s.size ≤ 1048576) (ht : t.size ≤ 1048576) (hra : ReadsU w a us) (hfa : Fits us) (hca : us.length ≤ ca) (hca2 : ca ≤ 1048576) (hrb : ReadsU w b vs) (hfb : Fits vs) (hcb : vs.length ≤ cb) (hcb2 : cb ≤ 1048576) :
    Calls Try.prog 10 #[.string s, .string t, .slice a us.length ca, .slice b vs.length cb] w fun e w' => e = .returned (.bool true) ∧ Below w.heap.size w w' := by
  have hst : (s ++ t).size = s.size + t.size := ByteArray.size_append
  have HU := hide (fun w => unitAt_in (s ++ t) (s.size : Nat) w (by omega) (by omega) (by omega))
  have HSU := hide (seam_units s t)
  have HUC := hide (unitR_code (s ++ t) (s.size : Nat))
  have HF1 := hide (fun w => fromText_any (s ++ t) w (by omega))
  have HF2 := hide (fun w => fromText_any s w (by omega))
  have HF3 := hide (fun w => fromText_any t w (by omega))
  have hl1 := units_len (nums s 0)
  have hl2 := units_len (nums t 0)
  have hn1 : (nums s 0).length ≤ s.size := by have := chars_length s 0; simp; omega
  have hn2 : (nums t 0).length ≤ t.size := by have := chars_length t 0; simp; omega
  generalize hP : unitR (s ++ t) (s.size : Nat) = P at *
  clear hP
  obtain ⟨p1, p2⟩ := P
  have HRA := hide hra
  have HRB := hide hrb
  have HFA := hide hfa
  have HFB := hide hfb
  clear hra hrb hfa hfb
  go_enter Try.func10, Try.ntmps10
  go_upto_region 2 with (go_at_call 40; refine (unhide HU _).mono ?_; rintro e w1 ⟨rfl, hb1⟩)
  go_cut [40] from 26 to 40 (fun v40 wx => v40 = .bool false ∧ Below w.heap.size w wx)
  case first =>
    have hz1 := hb1.size
    rcases unhide HUC with hp | hp
    · subst hp
      have hsu := unhide HSU rfl
      have HSQ := hide hsu
      clear hsu HSU HUC
      go_wp2_with fail
      refine (unhide HF1 _).mono ?_
      rintro e w2 ⟨v2, rfl, hrow2, hb2⟩
      obtain ⟨a2, c2, rfl⟩ := row_is hrow2
      have Q2 := hide hrow2
      have L2 := hide (fun g e => (hrow2.lt g e).2)
      have z2 := hb2.size
      clear hrow2
      go_wp2_with fail
      refine (unhide HF2 _).mono ?_
      rintro e w3 ⟨v3, rfl, hrow3, hb3⟩
      obtain ⟨a3, c3, rfl⟩ := row_is hrow3
      have Q3 := hide hrow3
      have z3 := hb3.size
      clear hrow3
      go_wp2_with fail
      refine (unhide HF3 _).mono ?_
      rintro e w4 ⟨v4, rfl, hrow4, hb4⟩
      obtain ⟨a4, c4, rfl⟩ := row_is hrow4
      have z4 := hb4.size
      have q3 := rowBelow (unhide Q3) hb4
      have q2 := rowBelow (unhide Q2) (hb3.trans (hb4.mono hb3.size))
      obtain ⟨v5, w5, hap, hown5, hgrow5, hblk5⟩ := appU w4 w2.heap.size _ _ (units (nums s 0)) (units (nums t 0)) a4 c4 q3 (readsU_own hrow4) (by omega) (by omega)
      have q25 := q2.kept hgrow5 (rows_ne2 q3 (unhide L2))
      rw [unhide HSQ] at q25
      obtain ⟨a5, c5, rfl⟩ := row_is hown5
      have hB5 : Below w.heap.size w w5 := ((hb1.trans ((hb2.trans ((hb3.trans (hb4.mono hb3.size)).mono hb2.size)).mono hb1.size)).grown hgrow5 (by omega) (fun k e => by have := (q3.lt k e).1; omega))
      have hlen : (units (nums (s ++ t) 0)).length = (units (nums s 0) ++ units (nums t 0)).length := by rw [unhide HSQ]
      have HLEN := hide hlen
      have HAP := hide hap
      have HSM := hide (sameU_yes a2 a5 c2 c5 (units (nums s 0) ++ units (nums t 0)) w5 (readsU_own (n := (units (nums s 0) ++ units (nums t 0)).length) q25) (readsU_own (n := (units (nums s 0) ++ units (nums t 0)).length) (by rw [List.length_append]; exact hown5)) (by rw [List.length_append]; omega))
      rw [List.length_append] at HSM HLEN
      clear hap hlen q25 hown5 hgrow5 hblk5 q2 q3 Q2 Q3 hrow4 hb2 hb3 hb4
      rw [unhide HLEN]
      go_wp2_with (first
        | (at_builtin; refine wpList_append_run_g _ (by rfl) _ _ 31 rfl _ _ rfl rfl _ _ (unhide HAP) ?_)
        | (go_at_call 49; refine (unhide HSM).mono ?_; rintro e w6 ⟨rfl, hb6⟩))
      go_meet
      case rel => exact ⟨rfl, hB5.trans (hb6.mono hB5.size)⟩
    · subst hp
      go_wp2
      go_meet
      case rel => exact ⟨rfl, hb1⟩
  case rest =>
    obtain ⟨rfl, hBc⟩ := hcut
    clear hb1 HU HSU HUC HF1 HF2 HF3 hl1 hl2 hn1 hn2
    have HBc := hide hBc
    clear hBc
    go_upto_region 4 with fail
    go_cut [11] from 41 to 61 (fun v11 wx => v11 = .bool (opens us) ∧ wx = wc)
    case first =>
      by_cases he : us = []
      · subst he
        have hl0 : ([] : List Int).length = 0 := rfl
        rw [hl0]
        go_wp2
        go_meet
        case rel => exact ⟨rfl, rfl⟩
      · have hol := opens_last us he
        have h0 : 0 < us.length := List.length_pos_iff.2 he
        obtain ⟨bb, off, rfl, hcell⟩ := ((unhide HRA).below (unhide HBc)) (us.length - 1) (by omega)
        have hli : (0 : Int) < us.length := by omega
        have hsb : (us.length : Int) - 1 = ((us.length - 1 : Nat) : Int) := by omega
        have hsl : us.length - 1 < us.length := by omega
        have HOL := hide hol
        clear hol he
        generalize uA us (us.length - 1) = x at *
        have h3 : (decide (55296 ≤ x) = false ∧ highB x = false) ∨ (decide (55296 ≤ x) = true ∧ decide (x ≤ 56319) = false ∧ highB x = false) ∨ (decide (55296 ≤ x) = true ∧ decide (x ≤ 56319) = true ∧ highB x = true) := by
          unfold highB
          by_cases h1 : 55296 ≤ x
          · by_cases h2 : x ≤ 56319
            · exact .inr (.inr ⟨by simpa using h1, by simpa using h2, by simp; omega⟩)
            · exact .inr (.inl ⟨by simpa using h1, by simpa using h2, by simp; omega⟩)
          · exact .inl ⟨by simpa using h1, by simp; omega⟩
        generalize us.length = n at *
        generalize hm : n - 1 = m at *
        have HMN := hide hm
        clear hm
        rcases h3 with ⟨d1, d2⟩ | ⟨d1, d2, d3⟩ | ⟨d1, d2, d3⟩
        · rw [d2] at HOL
          clear d2
          go_wp2
          go_meet
          case rel => exact ⟨by rw [unhide HOL], rfl⟩
        · rw [d3] at HOL
          clear d3
          go_wp2
          go_meet
          case rel => exact ⟨by rw [unhide HOL], rfl⟩
        · rw [d3] at HOL
          clear d3
          go_wp2
          go_meet
          case rel => exact ⟨by rw [unhide HOL], rfl⟩
    case rest =>
      obtain ⟨rfl, rfl⟩ := hcut
      go_upto_region 5 with fail
      go_cut [12] from 62 to 76 (fun v12 wx => v12 = .bool (shuts vs) ∧ wx = wc)
      case first =>
        by_cases he : vs = []
        · subst he
          have hl0 : ([] : List Int).length = 0 := rfl
          rw [hl0]
          go_wp2
          go_meet
          case rel => exact ⟨rfl, rfl⟩
        · have hol := shuts_first vs he
          have h0 : 0 < vs.length := List.length_pos_iff.2 he
          obtain ⟨bb, off, rfl, hcell⟩ := ((unhide HRB).below (unhide HBc)) 0 h0
          rw [Nat.add_zero] at hcell
          have hli : (0 : Int) < vs.length := by omega
          have HOL := hide hol
          clear hol he
          generalize uA vs 0 = x at *
          have h3 : (decide (56320 ≤ x) = false ∧ lowB x = false) ∨ (decide (56320 ≤ x) = true ∧ decide (x ≤ 57343) = false ∧ lowB x = false) ∨ (decide (56320 ≤ x) = true ∧ decide (x ≤ 57343) = true ∧ lowB x = true) := by
            unfold lowB
            by_cases h1 : 56320 ≤ x
            · by_cases h2 : x ≤ 57343
              · exact .inr (.inr ⟨by simpa using h1, by simpa using h2, by simp; omega⟩)
              · exact .inr (.inl ⟨by simpa using h1, by simpa using h2, by simp; omega⟩)
            · exact .inl ⟨by simpa using h1, by simp; omega⟩
          generalize vs.length = n at *
          rcases h3 with ⟨d1, d2⟩ | ⟨d1, d2, d3⟩ | ⟨d1, d2, d3⟩
          · rw [d2] at HOL
            clear d2
            go_wp2
            go_meet
            case rel => exact ⟨by rw [unhide HOL], rfl⟩
          · rw [d3] at HOL
            clear d3
            go_wp2
            go_meet
            case rel => exact ⟨by rw [unhide HOL], rfl⟩
          · rw [d3] at HOL
            clear d3
            go_wp2
            go_meet
            case rel => exact ⟨by rw [unhide HOL], rfl⟩
      case rest =>
        obtain ⟨rfl, rfl⟩ := hcut
        have HSE := hide (wl_seam vs us)
        generalize hop : opens us = op at *
        generalize hsh : shuts vs = sh at *
        clear hop hsh
        go_upto_region 6 with fail
        go_cut [80] from 77 to 80 (fun v80 wx => v80 = .bool (op && sh) ∧ wx = wc)
        case first =>
          cases op <;> cases sh
          · go_wp2
            go_meet
            case rel => exact ⟨rfl, rfl⟩
          · go_wp2
            go_meet
            case rel => exact ⟨rfl, rfl⟩
          · go_wp2
            go_meet
            case rel => exact ⟨rfl, rfl⟩
          · go_wp2
            go_meet
            case rel => exact ⟨rfl, rfl⟩
        case rest =>
          obtain ⟨rfl, rfl⟩ := hcut
          cases hos : (op && sh)
          · have hse := unhide HSE hos
            rw [← wrunes_wl, ← wrunes_wl, ← wrunes_wl] at hse
            clear HSE hos
            have hBc := unhide HBc
            have hzc := hBc.size
            obtain ⟨v1, w1', hap1, hown1, hgrow1, _⟩ := appU wc wc.heap.size (.slice none 0 0) 0 [] us a ca (World.ownsRow_nil _ _ _ _) ((unhide HRA).below hBc) (by omega) (Nat.le_refl _)
            have hB1 : Below wc.heap.size wc w1' := (Below.refl _ _).grown hgrow1 (Nat.le_refl _) (fun k e => by simp [Value.ownBlock] at e)
            rw [Nat.zero_add, List.nil_append] at hown1
            have z1 := hB1.size
            obtain ⟨v2, w2', hap2, hown2, hgrow2, _⟩ := appU w1' wc.heap.size v1 us.length us vs b cb hown1 (((unhide HRB).below hBc).below hB1) (by omega) hB1.size
            have hB2 : Below wc.heap.size wc w2' := belowGrown hB1 hB1.size hown1 hgrow2
            have z2 := hB2.size
            obtain ⟨a2, c2, rfl⟩ := row_is hown2
            have hcp2 := row_caps hown2
            have hla : us.length + vs.length = (us ++ vs).length := (List.length_append ..).symm
            have HR1 := hide (wrunes_any (us ++ vs) a2 c2 w2' ((unhide HFA).append (unhide HFB)) (by rw [← hla]; omega) (by rw [← hla]; exact hcp2.1) hcp2.2 (readsU_own (n := us.length + vs.length) hown2))
            rw [← hla] at HR1
            have HAP1 := hide hap1
            have HAP2 := hide hap2
            have HBW := hide (hBc.trans (hB2.mono hzc))
            have hml : (1048576 : Nat) ≤ maxLen := by decide
            have HR2 := hide (fun (w : World) (h : ReadsU w a us) => wrunes_any us a ca w (unhide HFA) (by omega) hca (Nat.le_trans hca2 hml) h)
            have HR3 := hide (fun (w : World) (h : ReadsU w b vs) => wrunes_any vs b cb w (unhide HFB) (by omega) hcb (Nat.le_trans hcb2 hml) h)
            have r1 := wrunes_len us
            have r2 := wrunes_len vs
            have HSQ := hide hse
            clear hap1 hap2 hown1 hown2 hgrow1 hgrow2 hB1 hB2 hcp2 hse hBc hla hml HBc
            generalize hus : us.length = n at *
            generalize hvs : vs.length = m at *
            clear hus hvs
            go_wp2_with (first
              | (at_builtin; refine wpList_append_run wc rfl _ _ 31 rfl _ _ rfl rfl _ _ (unhide HAP1) ?_)
              | (at_builtin; refine wpList_append_run w1' rfl _ _ 31 rfl _ _ rfl rfl _ _ (unhide HAP2) ?_))
            refine (unhide HR1).mono ?_
            rintro e w3 ⟨v3, rfl, hrow3, hb3⟩
            obtain ⟨a3, c3, rfl⟩ := row_is hrow3
            have hB3 := (unhide HBW).trans (hb3.mono (unhide HBW).size)
            have Q3 := hide hrow3
            have L3 := hide (fun g e => (hrow3.lt g e).2)
            have z3 := hb3.size
            clear hrow3 hb3 HR1 HBW
            go_wp2_with fail
            refine (unhide HR2 _ ((unhide HRA).below hB3)).mono ?_
            rintro e w4 ⟨v4, rfl, hrow4, hb4⟩
            obtain ⟨a4, c4, rfl⟩ := row_is hrow4
            have hB4 := hB3.trans (hb4.mono hB3.size)
            have Q34 := hide (rowBelow (unhide Q3) hb4)
            have Q4 := hide hrow4
            have z4 := hb4.size
            clear hrow4 hb4 hB3 Q3
            go_wp2_with fail
            refine (unhide HR3 _ ((unhide HRB).below hB4)).mono ?_
            rintro e w5 ⟨v5, rfl, hrow5, hb5⟩
            obtain ⟨a5, c5, rfl⟩ := row_is hrow5
            have hB5 := hB4.trans (hb5.mono hB4.size)
            have q3 := rowBelow (unhide Q34) hb5
            have q4 := rowBelow (unhide Q4) hb5
            have z5 := hb5.size
            obtain ⟨v6, w6, hap6, hown6, hgrow6, _⟩ := appI w5 w3.heap.size _ _ (wrunes us) (wrunes vs) a5 c5 q4 (reads_own hrow5) (by omega) (by omega)
            have q36 := q3.kept hgrow6 (rows_ne2 q4 (unhide L3))
            rw [unhide HSQ, List.length_append] at q36
            obtain ⟨a6, c6, rfl⟩ := row_is hown6
            have hzw : w.heap.size ≤ w3.heap.size := by omega
            have hB6 : Below w.heap.size w w6 := hB5.grown hgrow6 (by omega) (fun k e => by have := (q4.lt k e).1; omega)
            have HAP6 := hide hap6
            have hsl : (wrunes (us ++ vs)).length = (wrunes us).length + (wrunes vs).length := by rw [unhide HSQ, List.length_append]
            rw [hsl]
            have HC3 : Hid (∀ k, k < (wrunes us).length + (wrunes vs).length → ∃ g g' z, a3 = some ⟨g, 0, none⟩ ∧ a6 = some ⟨g', 0, none⟩ ∧ w6.cell? ⟨g, k, none⟩ = some (.int .i32 z) ∧ w6.cell? ⟨g', k, none⟩ = some (.int .i32 z)) := by
              intro k hk
              obtain ⟨g, hg⟩ := row_at q36 (by omega)
              obtain ⟨g', hg'⟩ := row_at hown6 (by omega)
              subst hg hg'
              have hkl : k < (wrunes us ++ wrunes vs).length := by rw [List.length_append]; exact hk
              refine ⟨g, g', (wrunes us ++ wrunes vs)[k], rfl, rfl, ?_, ?_⟩
              · rw [q36.cellAt k (by omega), List.getElem?_map, List.getElem?_eq_getElem hkl]; rfl
              · rw [hown6.cellAt k (by omega), List.getElem?_map, List.getElem?_eq_getElem hkl]; rfl
            clear hap6 hsl q36 hown6 hgrow6 q3 q4 hrow5 hb5 hB4 hB5 Q34 Q4 L3
            have hNN : (wrunes us).length + (wrunes vs).length ≤ 2097152 := by omega
            generalize (wrunes us).length + (wrunes vs).length = N at *
            go_wp2_with (at_builtin; refine wpList_append_run w5 rfl _ _ 30 rfl _ _ rfl rfl _ _ (unhide HAP6) ?_)
            go_loopw [16] (fun v16 wr => ∃ k q : Nat, k ≤ N ∧ v16 = .int .i64 k ∧ wr = w6.drewN q) (fun v16 _ => N - (intOf v16).toNat)
            case atStart => exact ⟨0, 0, Nat.zero_le _, rfl, rfl⟩
            case round =>
              obtain ⟨k, q, hk, rfl, rfl⟩ := hrel
              by_cases hlt : k < N
              · obtain ⟨g, g', z, rfl, rfl, k3, k6⟩ := unhide HC3 k hlt
                have hq : ((z : Int) != z) = false := by simp
                go_wp2
                go_quiet (fail)
                go_wp2
                go_roundw
                case rel => exact ⟨k + 1, _, by omega, by go_num, rfl⟩
                case measure => simp [intOf]; omega
              · go_wp2_with (go_at_call 20; refine (awake_any _).mono ?_; rintro e w9 ⟨rfl, hb9⟩)
                go_ret
                have hB7 := below_drewN hB6 q
                exact ⟨rfl, hB7.trans (hb9.mono hB7.size)⟩
          · go_wp2_with (go_at_call 20; refine (awake_any _).mono ?_; rintro e w9 ⟨rfl, hb9⟩)
            go_ret
            exact ⟨rfl, (unhide HBc).trans (hb9.mono (unhide HBc).size)⟩

theorem own : ownKnob Try.prog.godebug = none := by kernel_rfl
theorem laidOut : laidOutB Try.prog = true := by kernel_rfl

set_option maxRecDepth 100000 in
theorem contract (H : Type) (enc : TypeId × Value → H) (W : World) (base : Nat) (args : Array Value) (ds gs : List (DataW H)) (before : List MemPlace)
    (hval : ∀ (j : Nat) t v, Try.f10.params[j]? = some t → args[j]? = some v → Value.okWide Try.prog W .any base t v)
    (hW : DataW.Whole enc Try.prog Try.f10.params.toList Rows.wideSeamSpec.vars false W args.toList ds gs before) (hk : Rows.uptoSmall H (ds ++ gs) = true) :
    Calls Try.prog 10 args W fun e W' => ∃ v, e = .returned v ∧ Rows.wideSeamSpec.post enc Try.prog Try.f10 false true false false W args v W' := by
  have hW' := hW
  obtain ⟨p, q, hA0, hV, rfl, hfz, hnd⟩ := hW
  have hA : DataW.TrodAll enc Try.prog W 0 (fun _ => true) true Try.f10.params.toList args.toList ds p := hA0
  rw [Try.params10] at hA hval
  obtain ⟨v0, vs0, d0, ds0, p0, q0, hargs, rfl, rfl, h0, r0⟩ := trodAll_cons hA
  obtain ⟨v1, vs1, d1, ds1, p1, q1, rfl, rfl, rfl, h1, r1⟩ := trodAll_cons r0
  obtain ⟨v2, vs2, d2, ds2, p2, q2, rfl, rfl, rfl, h2, r2⟩ := trodAll_cons r1
  obtain ⟨v3, vs3, d3, ds3, p3, q3, rfl, rfl, rfl, h3, r3⟩ := trodAll_cons r2
  obtain ⟨rfl, rfl, rfl⟩ := trodAll_nil r3
  obtain rfl : args = #[v0, v1, v2, v3] := by cases args; simp_all
  obtain ⟨rfl, rfl⟩ := trodVars_none hV
  obtain ⟨a0, rfl, rfl, rfl, w0⟩ := open_string Try.underlying9 (hval 0 9 v0 rfl rfl) h0
  obtain ⟨a1, rfl, rfl, rfl, w1⟩ := open_string Try.underlying9 (hval 1 9 v1 rfl rfl) h1
  obtain ⟨a2, len2, cap2, rfl⟩ := okWide_slice Try.underlying31 (hval 2 31 v2 rfl rfl)
  have k2 := h2
  have lt2 : ∀ x ∈ p2, x.block < W.heap.size := by obtain ⟨m, hm⟩ := k2; exact DataW.trod_lt m _ _ _ hm
  obtain ⟨a3, len3, cap3, rfl⟩ := okWide_slice Try.underlying31 (hval 3 31 v3 rfl rfl)
  have k3 := h3
  have lt3 : ∀ x ∈ p3, x.block < W.heap.size := by obtain ⟨m, hm⟩ := k3; exact DataW.trod_lt m _ _ _ hm
  have hk' : Rows.uptoSmall H [.lit (.string a0.data.toList), .lit (.string a1.data.toList), d2, d3] = true := hk
  have hb := bulk_bound hk'
  simp only [Rows.uptoBulkAll] at hb
  rw [bulk_string a0] at hb
  rw [bulk_string a1] at hb
  have c0 : a0.size ≤ 1048576 := by omega
  have c1 : a1.size ≤ 1048576 := by omega
  obtain ⟨z2, w2, c2, wf2⟩ : ∃ zs : List Int, ((a2 = none ∧ len2 = 0 ∧ cap2 = 0 ∧ zs = []) ∨ ∃ x, a2 = some x ∧ len2 ≤ cap2 ∧ cap2 ≤ maxLen ∧ zs.length = cap2 ∧ (∀ i, i < zs.length → W.cell? (x.add i) = some (.int .u16 (zs.getD i 0)))) ∧ cap2 ≤ 1048576 ∧ (∀ n ∈ zs, (Lit.int .u16 n).wf = true) := by
    obtain ⟨fuel, hf⟩ := h2
    rcases open_ints Try.underlying31 Try.underlying22 (by kernel_rfl) hf with ⟨hcs, _⟩ | ⟨x, l, c, zs, hcs, _, hl, hm, hz, hx, hcell, hwz⟩
    · simp [Value.cells] at hcs
      obtain ⟨rfl, rfl, rfl⟩ := hcs
      exact ⟨[], .inl ⟨rfl, rfl, rfl, rfl⟩, by omega, by simp⟩
    · simp [Value.cells] at hcs
      obtain ⟨rfl, rfl, rfl⟩ := hcs
      have hz' : zs.length = cap2 := by simpa using hz
      refine ⟨zs, .inr ⟨_, rfl, hl, hm, hz', hcell⟩, ?_, hwz⟩
      have hd : d2 = .slice (lits .u16 (zs.take len2)) (lits .u16 (zs.drop len2)) := by simp only [Prod.mk.injEq] at hx; exact hx.1
      rw [hd] at hb
      have h2 := bulk_slice (H := H) (lits .u16 (zs.take len2)) (lits .u16 (zs.drop len2))
      have e1 : (lits (H := H) .u16 (zs.take len2)).length = (zs.take len2).length := by simp [lits]
      have e2 : (lits (H := H) .u16 (zs.drop len2)).length = (zs.drop len2).length := by simp [lits]
      rw [e1, e2, List.length_take, List.length_drop] at h2
      omega
  have hlc2 : len2 ≤ cap2 := by rcases w2 with ⟨_, h, h', _⟩ | ⟨_, _, h, _⟩ <;> omega
  have hzc2 : z2.length = cap2 := w2.elim (fun ⟨_, _, h, h'⟩ => by rw [h', h]; rfl) (fun ⟨_, _, _, _, h, _⟩ => h)
  have hle2 : (z2.take len2).length = len2 := by rw [List.length_take]; omega
  have hrd2 : ReadsU W a2 (z2.take len2) := by
    intro i hi
    rw [hle2] at hi
    rcases w2 with ⟨_, h, _⟩ | ⟨x, h1, h2, h3, h4, h5⟩
    · omega
    · obtain ⟨b, off, rfl, hc⟩ := ints_at h5 (by omega)
      refine ⟨b, off, h1, (hc i (by omega)).trans ?_⟩
      simp [uA, List.getD, hi]
  have hfi2 : Fits (z2.take len2) := by
    intro x hx
    exact wf_u16 (wf2 x (List.mem_of_mem_take hx))
  obtain ⟨z3, w3, c3, wf3⟩ : ∃ zs : List Int, ((a3 = none ∧ len3 = 0 ∧ cap3 = 0 ∧ zs = []) ∨ ∃ x, a3 = some x ∧ len3 ≤ cap3 ∧ cap3 ≤ maxLen ∧ zs.length = cap3 ∧ (∀ i, i < zs.length → W.cell? (x.add i) = some (.int .u16 (zs.getD i 0)))) ∧ cap3 ≤ 1048576 ∧ (∀ n ∈ zs, (Lit.int .u16 n).wf = true) := by
    obtain ⟨fuel, hf⟩ := h3
    rcases open_ints Try.underlying31 Try.underlying22 (by kernel_rfl) hf with ⟨hcs, _⟩ | ⟨x, l, c, zs, hcs, _, hl, hm, hz, hx, hcell, hwz⟩
    · simp [Value.cells] at hcs
      obtain ⟨rfl, rfl, rfl⟩ := hcs
      exact ⟨[], .inl ⟨rfl, rfl, rfl, rfl⟩, by omega, by simp⟩
    · simp [Value.cells] at hcs
      obtain ⟨rfl, rfl, rfl⟩ := hcs
      have hz' : zs.length = cap3 := by simpa using hz
      refine ⟨zs, .inr ⟨_, rfl, hl, hm, hz', hcell⟩, ?_, hwz⟩
      have hd : d3 = .slice (lits .u16 (zs.take len3)) (lits .u16 (zs.drop len3)) := by simp only [Prod.mk.injEq] at hx; exact hx.1
      rw [hd] at hb
      have h2 := bulk_slice (H := H) (lits .u16 (zs.take len3)) (lits .u16 (zs.drop len3))
      have e1 : (lits (H := H) .u16 (zs.take len3)).length = (zs.take len3).length := by simp [lits]
      have e2 : (lits (H := H) .u16 (zs.drop len3)).length = (zs.drop len3).length := by simp [lits]
      rw [e1, e2, List.length_take, List.length_drop] at h2
      omega
  have hlc3 : len3 ≤ cap3 := by rcases w3 with ⟨_, h, h', _⟩ | ⟨_, _, h, _⟩ <;> omega
  have hzc3 : z3.length = cap3 := w3.elim (fun ⟨_, _, h, h'⟩ => by rw [h', h]; rfl) (fun ⟨_, _, _, _, h, _⟩ => h)
  have hle3 : (z3.take len3).length = len3 := by rw [List.length_take]; omega
  have hrd3 : ReadsU W a3 (z3.take len3) := by
    intro i hi
    rw [hle3] at hi
    rcases w3 with ⟨_, h, _⟩ | ⟨x, h1, h2, h3, h4, h5⟩
    · omega
    · obtain ⟨b, off, rfl, hc⟩ := ints_at h5 (by omega)
      refine ⟨b, off, h1, (hc i (by omega)).trans ?_⟩
      simp [uA, List.getD, hi]
  have hfi3 : Fits (z3.take len3) := by
    intro x hx
    exact wf_u16 (wf3 x (List.mem_of_mem_take hx))
  clear hA0
  have hwk := walk a0 a1 a2 (z2.take len2) cap2 a3 (z3.take len3) cap3 W c0 c1 hrd2 hfi2 (by rw [hle2]; omega) c2 hrd3 hfi3 (by rw [hle3]; omega) c3
  rw [hle2] at hwk
  rw [hle3] at hwk
  refine hwk.mono fun e W' ⟨he, bel⟩ => ?_
  subst he
  exact ⟨_, rfl, _, _, _, [], _, [], hW', trodAll_mk1 (shut_bool Try.underlying4 _), (trodAll_cons_mk (shut_string Try.underlying9 w0) (trodAll_cons_mk (shut_string Try.underlying9 w1) (trodAll_cons_mk (Below.trod laidOut (by kernel_rfl) (of_decide_eq_true (by kernel_rfl)) k2 bel lt2) (trodAll_cons_mk (Below.trod laidOut (by kernel_rfl) (of_decide_eq_true (by kernel_rfl)) k3 bel lt3) trodAll_mk0)))), rfl, bel.frame _, fun h => by cases h⟩

set_option maxRecDepth 100000 in
theorem lifted (os : Os) (started : os.Started) (H : Type) (enc : TypeId × Value → H) (F : Stop.Interp) :
    ReturnsInHanded {} Try.checked os 10 .any ((Rows.OpenSpec.upto Rows.wideSeamSpec).pre6 enc Try.prog Try.f10 Rows.wideSeamUptoRow.domain false) (((Rows.OpenSpec.upto Rows.wideSeamSpec).at F).post enc Try.prog Try.f10 false true false false) := by
  refine returnsInHanded_of_cond (C := Try.checked) (s := Rows.OpenSpec.upto Rows.wideSeamSpec) (k := Rows.uptoSmall) rfl own started (by kernel_rfl) Try.func10
    (OpenSpec.witness (enc := enc) (C := Try.checked) (s := Rows.OpenSpec.upto Rows.wideSeamSpec) (k := Rows.uptoSmall) rfl false ⟨#[], #[.string ByteArray.empty, .string ByteArray.empty, .slice none 0 0, .slice none 0 0], []⟩ 8 (by kernel_rfl) (by kernel_rfl) (by kernel_rfl)
      (x := ([.lit (.string []), .lit (.string []), .nil, .nil], [], [])) (by kernel_rfl) rfl (by kernel_rfl)) ?_
  intro W base args ds gs before hval hW _ hk _
  exact contract H enc W base args ds gs before hval hW hk

theorem over : Rows.wideSeamUptoRow.holds Try.pinned (Rows.OpenSpec.upto Rows.wideSeamSpec) :=
  OpenClaim.holds_of_cond 10 Try.f10 rfl rfl rfl rfl rfl rfl rfl ⟨rfl, rfl, rfl, rfl, rfl⟩ rfl rfl rfl rfl rfl (by kernel_rfl) Try.func10 (by kernel_rfl)
    (of_decide_eq_true (by kernel_rfl)) (by unfold Func.isWrapper; first | (rw [if_pos (by decide +kernel)]; kernel_rfl) | (rw [if_neg (by decide +kernel)]; exact ⟨rfl, rfl⟩))
    (fun os started H enc _ F => lifted os started H enc F)

end Go.Proofs.Ytghcheoholkpbaa.wideSeam
namespace Go.Proofs.Ytghcheoholkpbaa
theorem wideSeam_upto : Rows.WideSeamUptoSaid := wideSeam.over
end Go.Proofs.Ytghcheoholkpbaa

