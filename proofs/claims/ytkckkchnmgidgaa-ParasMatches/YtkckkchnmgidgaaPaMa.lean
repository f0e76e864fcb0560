/-
  ParasMatches: which isolates belong together is told as the document tells it, each time anew, and the list is left as it was. The condition: the list holds at most 1048576 values (a bulk of at most 1048576).
-/
import Derived.Test.YtkckkchnmgidgaaBulk
import Derived.Test.YtkckkchnmgidgaaPaAw
import Derived.Test.YtkckkchnmgidgaaPaMd
import Derived.ProofKit
import Derived.OpenShut
import Derived.ShutString
import Derived.ChangeOld
namespace Go.Proofs.Ytkckkchnmgidgaa.parasMatches
open Go.ChangeShapes Go.WideShapes Go.ChangeAt Go.RowKit Go.PlainAid Go.Lib Go.ChangeMaps
set_option linter.unusedVariables false

theorem spoil_set (M : List Int) (k : Nat) (hk : k < M.length) : (List.replicate k (-5 : Int) ++ M.drop k).set k (-5) = List.replicate (k + 1) (-5) ++ M.drop (k + 1) := by
  rw [List.set_append_right _ _ (by simp), List.length_replicate, Nat.sub_self, List.drop_eq_getElem_cons hk, List.set_cons_zero, List.replicate_succ']
  simp
theorem spoil_at (M : List Int) (k : Nat) (hk : k < M.length) : (i64l (List.replicate k (-5 : Int) ++ M.drop k))[k]? = some (.int .i64 (M.getD k 0)) := by
  rw [List.getElem?_map, List.getElem?_append_right (by simp)]
  simp [List.getD, List.getElem?_eq_getElem hk]
set_option maxRecDepth 100000 in
set_option maxHeartbeats 4000000 in
theorem walk (a : Option Addr) (cs : List Int) (cap : Nat) (W : World) (hr : ReadsB W a cs) (hf : FitsB cs) (hlc : cs.length ≤ cap) (hc : cap ≤ 1048576) :
    Calls Try.prog 6 #[.slice a cs.length cap] W fun e w' => e = .returned (.bool true) ∧ Below W.heap.size W w' := by
  have HLT := hide (lent_any W a cs.length cap cs rfl hr (by omega))
  have HPM := hide (fun (w : World) (x : Option Addr) (c : Nat) (h : ReadsB w x cs) => match_any x cs.length c cs w rfl h (by omega))
  have HRM := hide (fun (w : World) (h : ReadsB w a cs) => rMatch_any a cs.length cap cs w rfl h (by omega))
  have HKT := hide (fun (w : World) (g c : Nat) (h : Lent w W.heap.size g c cs) (h2 : ReadsB w a cs) => kept_any w W.heap.size g c a cs.length cap cs rfl h h2 (by omega))
  have HAW := hide (fun w => awake_any w)
  have HR := hide hr
  have HML := hide (matchL_len cs)
  generalize matchL cs = M at *
  generalize cs.length = n at *
  clear hr
  go_enter Try.func6, Try.ntmps6
  go_wp2_with fail
  refine (unhide HLT).mono ?_
  rintro e w1 ⟨g, c1, rfl, hc1, hc2, hl1, hb1⟩
  have HL1 := hide hl1
  have HB1 := hide hb1
  clear hl1 hb1
  go_wp2_with fail
  refine (unhide HPM _ _ _ (unhide HL1).reads).mono ?_
  rintro e w2 ⟨rfl, hk2, hb2⟩
  have HB2 := hide ((unhide HB1).trans (hb2.mono (unhide HB1).size))
  have HL2 := hide ((unhide HL1).below hb2)
  have HA2 := hide hk2
  have H12 : Hid (W.heap.size ≤ w1.heap.size ∧ w1.heap.size < w2.heap.size) := ⟨(unhide HB1).size, hk2.lt⟩
  clear hb2 hk2
  go_wp2_with fail
  refine (unhide HPM _ _ _ (unhide HL2).reads).mono ?_
  rintro e w3 ⟨rfl, hk3, hb3⟩
  have HB3 := hide ((unhide HB2).trans (hb3.mono (unhide HB2).size))
  have HL3 := hide ((unhide HL2).below hb3)
  have HA3 := hide ((unhide HA2).below hb3)
  have HK3 := hide hk3
  have H23 : Hid (w2.heap.size < w3.heap.size) := hk3.lt
  clear hb3 hk3
  go_wp2_with fail
  refine (unhide HRM _ ((unhide HR).below (unhide HB3))).mono ?_
  rintro e w4 ⟨rfl, hk4, hb4⟩
  have HB4 := hide ((unhide HB3).trans (hb4.mono (unhide HB3).size))
  have HL4 := hide ((unhide HL3).below hb4)
  have HA4 := hide ((unhide HA3).below hb4)
  have HK4 := hide ((unhide HK3).below hb4)
  have HW4 := hide hk4
  clear hb4 hk4
  go_wp2_with fail
  refine (unhide HKT _ _ _ (unhide HL4) ((unhide HR).below (unhide HB4))).mono ?_
  rintro e w5 ⟨rfl, hb5⟩
  have hB5 := (unhide HB4).trans (hb5.mono (unhide HB4).size)
  have hA5 := (unhide HA4).below hb5
  have hK5 := (unhide HK4).below hb5
  have hW5 := (unhide HW4).below hb5
  have HN : Hid (w1.heap.size ≠ w2.heap.size ∧ w1.heap.size ≠ w3.heap.size ∧ W.heap.size ≤ w1.heap.size) := by
    show _ ∧ _
    have := unhide H12; have := unhide H23; omega
  obtain ⟨ga, hga⟩ : ∃ ga, ga = w1.heap.size := ⟨_, rfl⟩
  obtain ⟨gb, hgb⟩ : ∃ gb, gb = w2.heap.size := ⟨_, rfl⟩
  obtain ⟨gw, hgw⟩ : ∃ gw, gw = w3.heap.size := ⟨_, rfl⟩
  rw [← hga] at hA5 HN ⊢
  rw [← hgb] at hK5 HN ⊢
  rw [← hgw] at hW5 HN ⊢
  clear hga hgb hgw hb5
  go_wp2
  go_loopw [7] (fun v7 wr => ∃ k : Nat, k ≤ n ∧ v7 = .int .i64 k ∧ Blk wr ga (i64l (List.replicate k (-5) ++ M.drop k)) 3 ∧ Blk wr gb (i64l M) 3 ∧ Blk wr gw (i64l M) 3 ∧ Below W.heap.size W wr) (fun v7 _ => n - (intOf v7).toNat)
  case atStart => exact ⟨0, Nat.zero_le _, rfl, by simpa using hA5, hK5, hW5, hB5⟩
  case round =>
    obtain ⟨k, hk, rfl, hA, hK, hWn, hB⟩ := hrel
    by_cases hlt : k < n
    · have hM := unhide HML
      have ca := hA.cell (spoil_at M k (by omega))
      have cw := hWn.cell (at_i64 (l := M) (k := k) (by omega))
      have fa := hA.frozen k
      have hA2 := hA.set k (.int .i64 (-5)) ((set_i64 _ k (-5)).trans (by rw [spoil_set M k (by omega)]))
      have hK2 := hK.other (c := ga) (Ne.symm (unhide HN).1) k (.int .i64 (-5))
      have hW2 := hWn.other (c := ga) (Ne.symm (unhide HN).2.1) k (.int .i64 (-5))
      have hB2 := hB.setCell (p := ⟨ga, k, none⟩) (unhide HN).2.2 (.int .i64 (-5))
      have HA2 := hide hA2
      have HK2 := hide hK2
      have HW2 := hide hW2
      have HB2 := hide hB2
      clear hM hA hK hWn hB hA2 hK2 hW2 hB2
      generalize M.getD k 0 = r at *
      have hq : ((r : Int) != r) = false := by simp
      go_wp2
      go_quiet (fail)
      have fa2 : (wr.drewN nq).frozen? ⟨ga, k, none⟩ = false := fa
      have ca2 : (wr.drewN nq).cell? ⟨ga, k, none⟩ = some (.int .i64 r) := ca
      have e1 : (wr.drewN nq).setCell ⟨ga, k, none⟩ (.int .i64 (-5)) = (wr.setCell ⟨ga, k, none⟩ (.int .i64 (-5))).drewN nq := rfl
      go_wp2
      go_roundw
      case rel => exact ⟨k + 1, by omega, by go_num, unhide HA2, unhide HK2, unhide HW2, below_drewN (unhide HB2) nq⟩
      case measure => simp [intOf]; omega
    · clear hA
      have HK2 := hide hK
      have HW2 := hide hWn
      have HB2 := hide hB
      clear hK hWn hB
      obtain ⟨W6, hW6⟩ : ∃ W6, W6 = wr := ⟨_, rfl⟩
      rw [← hW6] at HK2 HW2 HB2 ⊢
      clear hW6
      go_wp2
      go_loopw [8] (fun v8 wr => ∃ k m : Nat, k ≤ n ∧ v8 = .int .i64 k ∧ wr = W6.drewN m) (fun v8 _ => n - (intOf v8).toNat)
      case atStart => exact ⟨0, 0, Nat.zero_le _, rfl, rfl⟩
      case round =>
        obtain ⟨k, m, hk, rfl, rfl⟩ := hrel
        by_cases hlt2 : k < n
        · have cb := (unhide HK2).cell (at_i64 (l := M) (k := k) (by rw [unhide HML]; exact hlt2))
          have cw := (unhide HW2).cell (at_i64 (l := M) (k := k) (by rw [unhide HML]; exact hlt2))
          generalize M.getD k 0 = r at *
          have hq : ((r : Int) != r) = false := by simp
          go_wp2
          go_quiet (fail)
          go_wp2
          go_roundw
          case rel => exact ⟨k + 1, _, by omega, by go_num, rfl⟩
          case measure => simp [intOf]; omega
        · go_wp2_with fail
          refine (unhide HAW _).mono ?_
          rintro e w7 ⟨rfl, hb7⟩
          have HB7 := hide ((below_drewN (unhide HB2) m).trans (hb7.mono (below_drewN (unhide HB2) m).size))
          clear hb7
          go_wp2
          go_ret
          exact ⟨rfl, unhide HB7⟩

theorem own : ownKnob Try.prog.godebug = none := by kernel_rfl
theorem laidOut : laidOutB Try.prog = true := by kernel_rfl

set_option maxRecDepth 100000 in
theorem contract (H : Type) (enc : TypeId × Value → H) (W : World) (base : Nat) (args : Array Value) (ds gs : List (DataW H)) (before : List MemPlace)
    (hval : ∀ (j : Nat) t v, Try.f6.params[j]? = some t → args[j]? = some v → Value.okWide Try.prog W .any base t v)
    (hW : DataW.Whole enc Try.prog Try.f6.params.toList Rows.parasMatchesSpec.vars false W args.toList ds gs before) (hk : Rows.uptoSmall H (ds ++ gs) = true) :
    Calls Try.prog 6 args W fun e W' => ∃ v, e = .returned v ∧ Rows.parasMatchesSpec.post enc Try.prog Try.f6 false true false false W args v W' := by
  have hW' := hW
  obtain ⟨p, q, hA0, hV, rfl, hfz, hnd⟩ := hW
  have hA : DataW.TrodAll enc Try.prog W 0 (fun _ => true) true Try.f6.params.toList args.toList ds p := hA0
  rw [Try.params6] at hA hval
  obtain ⟨v0, vs0, d0, ds0, p0, q0, hargs, rfl, rfl, h0, r0⟩ := trodAll_cons hA
  obtain ⟨rfl, rfl, rfl⟩ := trodAll_nil r0
  obtain rfl : args = #[v0] := by cases args; simp_all
  obtain ⟨rfl, rfl⟩ := trodVars_none hV
  obtain ⟨a0, len0, cap0, rfl⟩ := okWide_slice Try.underlying29 (hval 0 29 v0 rfl rfl)
  have k0 := h0
  have lt0 : ∀ x ∈ p0, x.block < W.heap.size := by obtain ⟨m, hm⟩ := k0; exact DataW.trod_lt m _ _ _ hm
  have hk' : Rows.uptoSmall H [d0] = true := hk
  have hb := bulk_bound hk'
  simp only [Rows.uptoBulkAll] at hb
  obtain ⟨z0, w0, c0, wf0⟩ : ∃ zs : List Int, ((a0 = none ∧ len0 = 0 ∧ cap0 = 0 ∧ zs = []) ∨ ∃ x, a0 = some x ∧ len0 ≤ cap0 ∧ cap0 ≤ maxLen ∧ zs.length = cap0 ∧ (∀ i, i < zs.length → W.cell? (x.add i) = some (.int .u8 (zs.getD i 0)))) ∧ cap0 ≤ 1048576 ∧ (∀ n ∈ zs, (Lit.int .u8 n).wf = true) := by
    obtain ⟨fuel, hf⟩ := h0
    rcases open_ints Try.underlying29 Try.underlying22 (by kernel_rfl) hf with ⟨hcs, _⟩ | ⟨x, l, c, zs, hcs, _, hl, hm, hz, hx, hcell, hwz⟩
    · simp [Value.cells] at hcs
      obtain ⟨rfl, rfl, rfl⟩ := hcs
      exact ⟨[], .inl ⟨rfl, rfl, rfl, rfl⟩, by omega, by simp⟩
    · simp [Value.cells] at hcs
      obtain ⟨rfl, rfl, rfl⟩ := hcs
      have hz' : zs.length = cap0 := by simpa using hz
      refine ⟨zs, .inr ⟨_, rfl, hl, hm, hz', hcell⟩, ?_, hwz⟩
      have hd : d0 = .slice (lits .u8 (zs.take len0)) (lits .u8 (zs.drop len0)) := by simp only [Prod.mk.injEq] at hx; exact hx.1
      rw [hd] at hb
      have h2 := bulk_slice (H := H) (lits .u8 (zs.take len0)) (lits .u8 (zs.drop len0))
      have e1 : (lits (H := H) .u8 (zs.take len0)).length = (zs.take len0).length := by simp [lits]
      have e2 : (lits (H := H) .u8 (zs.drop len0)).length = (zs.drop len0).length := by simp [lits]
      rw [e1, e2, List.length_take, List.length_drop] at h2
      omega
  have hlc0 : len0 ≤ cap0 := by rcases w0 with ⟨_, h, h', _⟩ | ⟨_, _, h, _⟩ <;> omega
  have hzc0 : z0.length = cap0 := w0.elim (fun ⟨_, _, h, h'⟩ => by rw [h', h]; rfl) (fun ⟨_, _, _, _, h, _⟩ => h)
  have hle0 : (z0.take len0).length = len0 := by rw [List.length_take]; omega
  have hrd0 : ReadsB W a0 (z0.take len0) := by
    intro i hi
    rw [hle0] at hi
    rcases w0 with ⟨_, h, _⟩ | ⟨x, h1, h2, h3, h4, h5⟩
    · omega
    · obtain ⟨b, off, rfl, hc⟩ := ints_at h5 (by omega)
      refine ⟨b, off, h1, (hc i (by omega)).trans ?_⟩
      simp [cA, List.getD, hi]
  have hfi0 : FitsB (z0.take len0) := by
    intro x hx
    exact wf_u8 (wf0 x (List.mem_of_mem_take hx))
  clear hA0
  have hwk := walk a0 (z0.take len0) cap0 W hrd0 hfi0 (by rw [hle0]; omega) c0
  rw [hle0] at hwk
  refine hwk.mono fun e W' ⟨he, bel⟩ => ?_
  subst he
  exact ⟨_, rfl, _, _, _, [], _, [], hW', trodAll_mk1 (shut_bool Try.underlying4 _), (trodAll_cons_mk (Below.trod laidOut (by kernel_rfl) (of_decide_eq_true (by kernel_rfl)) k0 bel lt0) trodAll_mk0), rfl, bel.frame _, fun h => by cases h⟩

set_option maxRecDepth 100000 in
theorem lifted (os : Os) (started : os.Started) (H : Type) (enc : TypeId × Value → H) (F : Stop.Interp) :
    ReturnsInHanded {} Try.checked os 6 .any ((Rows.OpenSpec.upto Rows.parasMatchesSpec).pre6 enc Try.prog Try.f6 Rows.parasMatchesUptoRow.domain false) (((Rows.OpenSpec.upto Rows.parasMatchesSpec).at F).post enc Try.prog Try.f6 false true false false) := by
  refine returnsInHanded_of_cond (C := Try.checked) (s := Rows.OpenSpec.upto Rows.parasMatchesSpec) (k := Rows.uptoSmall) rfl own started (by kernel_rfl) Try.func6
    (OpenSpec.witness (enc := enc) (C := Try.checked) (s := Rows.OpenSpec.upto Rows.parasMatchesSpec) (k := Rows.uptoSmall) rfl false ⟨#[], #[.slice none 0 0], []⟩ 8 (by kernel_rfl) (by kernel_rfl) (by kernel_rfl)
      (x := ([.nil], [], [])) (by kernel_rfl) rfl (by kernel_rfl)) ?_
  intro W base args ds gs before hval hW _ hk _
  exact contract H enc W base args ds gs before hval hW hk

theorem over : Rows.parasMatchesUptoRow.holds Try.pinned (Rows.OpenSpec.upto Rows.parasMatchesSpec) :=
  OpenClaim.holds_of_cond 6 Try.f6 rfl rfl rfl rfl rfl rfl rfl ⟨rfl, rfl, rfl, rfl, rfl⟩ rfl rfl rfl rfl rfl (by kernel_rfl) Try.func6 (by kernel_rfl)
    (of_decide_eq_true (by kernel_rfl)) (by unfold Func.isWrapper; first | (rw [if_pos (by decide +kernel)]; kernel_rfl) | (rw [if_neg (by decide +kernel)]; exact ⟨rfl, rfl⟩))
    (fun os started H enc _ F => lifted os started H enc F)

end Go.Proofs.Ytkckkchnmgidgaa.parasMatches
namespace Go.Proofs.Ytkckkchnmgidgaa
theorem parasMatches_upto : Rows.ParasMatchesUptoSaid := parasMatches.over
end Go.Proofs.Ytkckkchnmgidgaa

