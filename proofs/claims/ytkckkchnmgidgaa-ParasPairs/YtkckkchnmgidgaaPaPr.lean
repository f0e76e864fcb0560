/-
  ParasPairs: what belongs together does so both ways, and lies one within the other, or apart; for every list of classes.
-/
import Derived.Test.YtkckkchnmgidgaaPaAw
import Derived.Deep.LoopGhost
import Derived.ProofKit
import Derived.OpenShut
import Derived.ShutString
import Derived.ChangeOld
namespace Go.Proofs.Ytkckkchnmgidgaa.parasPairs
open Go.ChangeShapes Go.WideShapes Go.ChangeAt Go.RowKit Go.PlainAid Go.Lib Go.ChangeMaps
set_option linter.unusedVariables false

theorem cellM {w : World} {g : Nat} {M : List Int} (h : Blk w g (i64l M) 3) (j : Nat) (hj : j < M.length) (v : Int) (hv : mA M j = v) : w.cell? ⟨g, j, none⟩ = some (.int .i64 v) := by
  rw [← hv]; exact h.cell (at_i64 hj)
set_option maxRecDepth 100000 in
set_option maxHeartbeats 4000000 in
theorem walk (a : Option Addr) (cs : List Int) (cap : Nat) (W : World) (hr : ReadsB W a cs) (hf : FitsB cs) (hlc : cs.length ≤ cap) (hc : cap ≤ maxLen) :
    Calls Try.prog 10 #[.slice a cs.length cap] W fun e w' => e = .returned (.bool true) ∧ Below W.heap.size W w' := by
  have HAW := hide (fun w => awake_any w)
  have HR := hide hr
  have hcl : cs.length ≤ 9223372036854775807 := by unfold maxLen at hc; omega
  by_cases hbig : 300 < cs.length
  · generalize cs.length = n at *
    clear hr
    go_enter Try.func10, Try.ntmps10
    go_wp2_with (go_at_call 15; refine (unhide HAW _).mono ?_; rintro e w1 ⟨rfl, hb1⟩)
    go_ret
    exact ⟨rfl, hb1⟩
  · have HPM := hide (fun (w : World) (h : ReadsB w a cs) => match_any a cs.length cap cs w rfl h (by omega))
    have HPO := hide (fun i hi => match_pairs cs i hi)
    have HML := hide (matchL_len cs)
    have HLEN : Hid (cs.length = cs.length) := rfl
    generalize matchL cs = M at *
    generalize hn : cs.length = n at *
    have HLN := hide hn
    clear hr hn HLEN
    go_enter Try.func10, Try.ntmps10
    go_wp2_with fail
    refine (unhide HAW _).mono ?_
    rintro e w1 ⟨rfl, hb1⟩
    have HB1 := hide hb1
    clear hb1
    go_wp2_with fail
    refine (unhide HPM _ ((unhide HR).below (unhide HB1))).mono ?_
    rintro e w2 ⟨rfl, hk2, hb2⟩
    have HB2 := hide ((unhide HB1).trans (hb2.mono (unhide HB1).size))
    have HK2 := hide hk2
    obtain ⟨gm, hgm⟩ : ∃ gm, gm = w1.heap.size := ⟨_, rfl⟩
    rw [← hgm] at HK2 ⊢
    clear hgm hk2 hb2
    go_wp2
    go_loopw [5] (fun v5 wr => ∃ i q : Nat, i ≤ n ∧ v5 = .int .i64 i ∧ wr = w2.drewN q) (fun v5 _ => n - (intOf v5).toNat)
    case atStart => exact ⟨0, 0, Nat.zero_le _, rfl, rfl⟩
    case round =>
      obtain ⟨i, q, hi, rfl, rfl⟩ := hrel
      by_cases hlt : i < n
      · have hML := unhide HML
        have hPO := unhide HPO i hlt
        obtain ⟨b, off, rfl, c1⟩ := (unhide HR).below (unhide HB2) i (by rw [unhide HLN]; exact hlt)
        obtain ⟨x, hx⟩ : ∃ x, cA cs i = x := ⟨_, rfl⟩
        rw [hx] at c1
        by_cases hb : begC x = true
        · rcases hPO.yes (by rw [hx]; exact hb) with hm | ⟨e, hm, hie, hek, h23, hme, hbt⟩
          · have cm := cellM (unhide HK2) i (by omega) _ hm
            rw [unhide HLN] at cm
            have n1 : ¬ (n : Int) ≤ (i : Int) := by omega
            clear hPO hm hML
            go_wp2_with (go_at_call 35; refine (rBegins_any _ _).mono ?_; rintro e' w' ⟨rfl, rfl⟩; rw [hb])
            go_loopw [6] (fun v6 wr => ∃ q2 : Nat, v6 = .int .i64 ((i : Int) + 1) ∧ wr = w2.drewN q2) (fun _ _ => 0)
            case atStart => exact ⟨q, rfl, rfl⟩
            case round =>
              obtain ⟨q2, rfl, rfl⟩ := hrel
              by_cases hl2 : i + 1 < n
              · go_wp2
                go_roundw
                case rel => exact ⟨i + 1, _, by omega, by go_num, rfl⟩
                case measure => simp [intOf]; omega
              · go_wp2
                go_roundw
                case rel => exact ⟨i + 1, _, by omega, by go_num, rfl⟩
                case measure => simp [intOf]; omega
          · have cm := cellM (unhide HK2) i (by omega) _ hm
            have ce := cellM (unhide HK2) e (by omega) _ hme
            obtain ⟨b', off', e1, c2⟩ := (unhide HR).below (unhide HB2) e (by rw [unhide HLN]; omega)
            cases e1
            rw [h23] at c2
            have hen : e < n := by have := unhide HLN; omega
            have HBT := hide hbt
            have d1 : decide ((e : Int) ≤ (i : Int)) = false := decide_eq_false (by omega)
            have d2 : decide ((n : Int) < (e : Int)) = false := decide_eq_false (by omega)
            have d3 : decide (e ≤ i) = false := decide_eq_false (by omega)
            have d4 : decide (n < e) = false := decide_eq_false (by omega)
            clear hPO hm hme hbt h23
            go_wp2_with (go_at_call 35; refine (rBegins_any _ _).mono ?_; rintro e' w' ⟨rfl, rfl⟩; rw [hb])
            go_loopg [6] (e - (i + 1)) (fun g v6 wr => ∃ k q2 : Nat, k + g = e ∧ i + 1 ≤ k ∧ v6 = .int .i64 (k : Nat) ∧ wr = w2.drewN q2)
            case atStart => exact ⟨i + 1, q, by omega, Nat.le_refl _, by go_num, rfl⟩
            case round =>
              obtain ⟨k, q2, hkg, hk1, rfl, rfl⟩ := hrel
              have hk2 : k ≤ e := by omega
              by_cases hl2 : k < e
              · obtain ⟨b', off', e1, c3⟩ := (unhide HR).below (unhide HB2) k (by rw [unhide HLN]; omega)
                cases e1
                obtain ⟨q11, qb, q23⟩ := unhide HBT k (by omega) hl2
                obtain ⟨z, hz⟩ : ∃ z, mA M k = z := ⟨_, rfl⟩
                have c4 := cellM (unhide HK2) k (by omega) z hz
                rw [hz] at qb q23
                generalize cA cs k = y at *
                have h11 : (y == 11) = false := by simpa using q11
                have HBY := hide (fun nq => (rBegins_any y (w2.drewN (q2 + nq))).mono (fun e' w' h => (⟨h.1, nq, h.2⟩ : e' = .returned (.bool (begC y)) ∧ ∃ n, w' = w2.drewN (q2 + n))))
                clear hz q11
                cases hby : begC y with
                | true =>
                  have hzl : z < (e : Int) := qb hby
                  have hzl2 : ¬ (e : Int) ≤ z := by omega
                  have hzl3 : decide ((e : Int) ≤ z) = false := decide_eq_false hzl2
                  have hy23 : (y == 23) = false := by
                    cases h : (y == 23) with
                    | false => rfl
                    | true =>
                      have : y = 23 := by simpa using h
                      subst this
                      exact absurd hby (by decide)
                  rw [hby] at HBY
                  clear qb q23
                  go_wp2
                  refine wp_region_quiet_lit (by kernel_rfl) (by kernel_rfl) ?_
                  repeat (go_big_quiet_step (first | (go_at_call 35; with_reducible exact unhide HBY _)))
                  refine wpQuiet_nil ?_
                  rintro w9 ⟨q3, hq3⟩
                  have HW9 : Hid (w9 = w2.drewN (q2 + q3)) := by show _ = _; rw [hq3]; simp [World.drewN, Nat.add_assoc]
                  clear hq3
                  go_wp2
                  go_roundg (e - (k + 1))
                  case measure => omega
                  case rel => exact ⟨k + 1, q2 + q3, by omega, by omega, by go_num, unhide HW9⟩
                | false =>
                  rw [hby] at HBY
                  cases hy23 : (y == 23) with
                  | true =>
                    have hzl : (i : Int) < z := q23 (by simpa using hy23)
                    have hzl2 : ¬ z ≤ (i : Int) := by omega
                    have hzl3 : decide (z ≤ (i : Int)) = false := decide_eq_false hzl2
                    clear qb q23
                    go_wp2
                    refine wp_region_quiet_lit (by kernel_rfl) (by kernel_rfl) ?_
                    repeat (go_big_quiet_step (first | (go_at_call 35; with_reducible exact unhide HBY _)))
                    refine wpQuiet_nil ?_
                    rintro w9 ⟨q3, hq3⟩
                    have HW9 : Hid (w9 = w2.drewN (q2 + q3)) := by show _ = _; rw [hq3]; simp [World.drewN, Nat.add_assoc]
                    clear hq3
                    go_wp2
                    go_roundg (e - (k + 1))
                    case measure => omega
                    case rel => exact ⟨k + 1, q2 + q3, by omega, by omega, by go_num, unhide HW9⟩
                  | false =>
                    clear qb q23
                    go_wp2
                    refine wp_region_quiet_lit (by kernel_rfl) (by kernel_rfl) ?_
                    repeat (go_big_quiet_step (first | (go_at_call 35; with_reducible exact unhide HBY _)))
                    refine wpQuiet_nil ?_
                    rintro w9 ⟨q3, hq3⟩
                    have HW9 : Hid (w9 = w2.drewN (q2 + q3)) := by show _ = _; rw [hq3]; simp [World.drewN, Nat.add_assoc]
                    clear hq3
                    go_wp2
                    go_roundg (e - (k + 1))
                    case measure => omega
                    case rel => exact ⟨k + 1, q2 + q3, by omega, by omega, by go_num, unhide HW9⟩
              · obtain rfl : k = e := by omega
                go_wp2
                go_roundw
                case rel => exact ⟨i + 1, _, by omega, by go_num, rfl⟩
                case measure => simp [intOf]; omega
        · have hb' : begC x = false := by simpa using hb
          rcases hPO.no (by rw [hx]; exact hb') with hm | ⟨h23, e, hm, hei, hme⟩
          · have cm := cellM (unhide HK2) i (by omega) _ hm
            clear hPO hm hML
            go_wp2_with (go_at_call 35; refine (rBegins_any _ _).mono ?_; rintro e' w' ⟨rfl, rfl⟩; rw [hb'])
            go_roundw
            case rel => exact ⟨i + 1, _, by omega, by go_num, rfl⟩
            case measure => simp [intOf]; omega
          · have cm := cellM (unhide HK2) i (by omega) _ hm
            have ce := cellM (unhide HK2) e (by omega) _ hme
            have hne : ((e : Int) != -1) = true := by simp
            have hge : ¬ (i : Int) ≤ (e : Int) := by omega
            have hen : e < n := by omega
            rw [hx] at h23
            subst h23
            clear hPO hm hme hML
            go_wp2_with (go_at_call 35; refine (rBegins_any _ _).mono ?_; rintro e' w' ⟨rfl, rfl⟩; rw [hb'])
            go_roundw
            case rel => exact ⟨i + 1, _, by omega, by go_num, rfl⟩
            case measure => simp [intOf]; omega
      · go_wp2
        go_ret
        exact ⟨rfl, below_drewN (unhide HB2) q⟩

theorem own : ownKnob Try.prog.godebug = none := by kernel_rfl
theorem laidOut : laidOutB Try.prog = true := by kernel_rfl

set_option maxRecDepth 100000 in
theorem contract (H : Type) (enc : TypeId × Value → H) (W : World) (base : Nat) (args : Array Value) (ds gs : List (DataW H)) (before : List MemPlace)
    (hval : ∀ (j : Nat) t v, Try.f10.params[j]? = some t → args[j]? = some v → Value.okWide Try.prog W .any base t v)
    (hW : DataW.Whole enc Try.prog Try.f10.params.toList Rows.parasPairsSpec.vars false W args.toList ds gs before) :
    Calls Try.prog 10 args W fun e W' => ∃ v, e = .returned v ∧ Rows.parasPairsSpec.post enc Try.prog Try.f10 false true false false W args v W' := by
  have hW' := hW
  obtain ⟨p, q, hA0, hV, rfl, hfz, hnd⟩ := hW
  have hA : DataW.TrodAll enc Try.prog W 0 (fun _ => true) true Try.f10.params.toList args.toList ds p := hA0
  rw [Try.params10] at hA hval
  obtain ⟨v0, vs0, d0, ds0, p0, q0, hargs, rfl, rfl, h0, r0⟩ := trodAll_cons hA
  obtain ⟨rfl, rfl, rfl⟩ := trodAll_nil r0
  obtain rfl : args = #[v0] := by cases args; simp_all
  obtain ⟨rfl, rfl⟩ := trodVars_none hV
  obtain ⟨a0, len0, cap0, rfl⟩ := okWide_slice Try.underlying29 (hval 0 29 v0 rfl rfl)
  have k0 := h0
  have lt0 : ∀ x ∈ p0, x.block < W.heap.size := by obtain ⟨m, hm⟩ := k0; exact DataW.trod_lt m _ _ _ hm
  obtain ⟨z0, w0, c0, wf0⟩ : ∃ zs : List Int, ((a0 = none ∧ len0 = 0 ∧ cap0 = 0 ∧ zs = []) ∨ ∃ x, a0 = some x ∧ len0 ≤ cap0 ∧ cap0 ≤ maxLen ∧ zs.length = cap0 ∧ (∀ i, i < zs.length → W.cell? (x.add i) = some (.int .u8 (zs.getD i 0)))) ∧ cap0 ≤ maxLen ∧ (∀ n ∈ zs, (Lit.int .u8 n).wf = true) := by
    obtain ⟨fuel, hf⟩ := h0
    rcases open_ints Try.underlying29 Try.underlying22 (by kernel_rfl) hf with ⟨hcs, _⟩ | ⟨x, l, c, zs, hcs, _, hl, hm, hz, hx, hcell, hwz⟩
    · simp [Value.cells] at hcs
      obtain ⟨rfl, rfl, rfl⟩ := hcs
      exact ⟨[], .inl ⟨rfl, rfl, rfl, rfl⟩, Nat.zero_le _, by simp⟩
    · simp [Value.cells] at hcs
      obtain ⟨rfl, rfl, rfl⟩ := hcs
      have hz' : zs.length = cap0 := by simpa using hz
      refine ⟨zs, .inr ⟨_, rfl, hl, hm, hz', hcell⟩, ?_, hwz⟩
      exact hm
  have hlc0 : len0 ≤ cap0 := by rcases w0 with ⟨_, h, h', _⟩ | ⟨_, _, h, _⟩ <;> omega
  have hzc0 : z0.length = cap0 := w0.elim (fun ⟨_, _, h, h'⟩ => by rw [h', h]; rfl) (fun ⟨_, _, _, _, h, _⟩ => h)
  have hle0 : (z0.take len0).length = len0 := by rw [List.length_take]; omega
  have hrd0 : ReadsB W a0 (z0.take len0) := by
    intro i hi
    rw [hle0] at hi
    rcases w0 with ⟨_, h, _⟩ | ⟨x, h1, h2, h3, h4, h5⟩
    · omega
    · obtain ⟨b, off, rfl, hc⟩ := ints_at h5 (by omega)
      refine ⟨b, off, h1, (hc i (by omega)).trans ?_⟩
      simp [cA, List.getD, hi]
  have hfi0 : FitsB (z0.take len0) := by
    intro x hx
    exact wf_u8 (wf0 x (List.mem_of_mem_take hx))
  clear hA0
  have hwk := walk a0 (z0.take len0) cap0 W hrd0 hfi0 (by rw [hle0]; omega) c0
  rw [hle0] at hwk
  refine hwk.mono fun e W' ⟨he, bel⟩ => ?_
  subst he
  exact ⟨_, rfl, _, _, _, [], _, [], hW', trodAll_mk1 (shut_bool Try.underlying4 _), (trodAll_cons_mk (Below.trod laidOut (by kernel_rfl) (of_decide_eq_true (by kernel_rfl)) k0 bel lt0) trodAll_mk0), rfl, bel.frame _, fun h => by cases h⟩

set_option maxRecDepth 100000 in
theorem lifted (os : Os) (started : os.Started) (H : Type) (enc : TypeId × Value → H) :
    ReturnsInHanded {} Try.checked os 10 .any (Rows.parasPairsSpec.pre6 enc Try.prog Try.f10 Rows.parasPairsRow.domain false) (Rows.parasPairsSpec.post enc Try.prog Try.f10 false true false false) := by
  refine returnsInHanded_of_change (C := Try.checked) own started (by kernel_rfl) Try.func10
    (ChangeSpec.witness6 (enc := enc) (C := Try.checked) false ⟨#[], #[.slice none 0 0], []⟩ 8 (by kernel_rfl) (by kernel_rfl) (by kernel_rfl) (by kernel_rfl)) ?_
  intro W base args ds gs before hval hW hcnd _
  exact contract H enc W base args ds gs before hval hW

theorem over : Rows.parasPairsRow.holds Try.pinned (OpenSpec.ofChange Rows.parasPairsSpec) :=
  OpenClaim.holds_of_wide 10 Try.f10 rfl rfl rfl rfl rfl rfl rfl ⟨rfl, rfl, rfl, rfl, rfl⟩ rfl rfl rfl rfl rfl (by kernel_rfl) Try.func10 (by kernel_rfl)
    (of_decide_eq_true (by kernel_rfl)) (by unfold Func.isWrapper; first | (rw [if_pos (by decide +kernel)]; kernel_rfl) | (rw [if_neg (by decide +kernel)]; exact ⟨rfl, rfl⟩))
    (fun os started H enc _ => lifted os started H enc)

end Go.Proofs.Ytkckkchnmgidgaa.parasPairs
namespace Go.Proofs.Ytkckkchnmgidgaa
theorem parasPairs_holds : Rows.ParasPairsSaid := parasPairs.over
end Go.Proofs.Ytkckkchnmgidgaa

