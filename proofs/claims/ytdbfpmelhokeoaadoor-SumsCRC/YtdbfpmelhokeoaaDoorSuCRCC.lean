/-
  SumsCRC: the row and the card.
-/
import Derived.Test.YtdbfpmelhokeoaaDoorSuCr
import Derived.Test.YtdbfpmelhokeoaaDoorSuLaid
import Derived.Test.YtdbfpmelhokeoaaDoorSuOpen
import Derived.Test.YtdbfpmelhokeoaaDoorBulk
namespace Go.Proofs.YtdbfpmelhokeoaaDoor.sumsCRC
open Go.ChangeShapes Go.WideShapes Go.ChangeAt Go.RowKit
open Go.ChangeMaps (open_string shut_string)
set_option linter.unusedVariables false
set_option linter.unusedSimpArgs false

theorem laidOut : laidOutB Tryd.prog = true := by kernel_rfl

set_option maxRecDepth 100000 in
theorem contract (H : Type) (enc : TypeId × Value → H) (W : World) (base : Nat) (args : Array Value) (ds gs : List (DataW H)) (before : List MemPlace)
    (hval : ∀ (j : Nat) t v, Tryd.f3.params[j]? = some t → args[j]? = some v → Value.okWide Tryd.prog W .any base t v)
    (hW : DataW.Whole enc Tryd.prog Tryd.f3.params.toList Rows.sumsCRCSpec.vars false W args.toList ds gs before) (hwz : (DataW.weightsEach Tryd.prog (Tryd.f3.params.toList ++ (OpenSpec.ofChange Rows.sumsCRCSpec).bare.plain.varTypes Tryd.prog) (ds ++ gs)).all (· ≤ reachBytes) = true) (hL : laidMetH Tryd.prog laid12 W) :
    Calls Tryd.prog 3 args W fun e W' => ∃ v, e = .returned v ∧ Rows.sumsCRCSpec.post enc Tryd.prog Tryd.f3 false true false false W args v W' := by
  have hW' := hW
  obtain ⟨p, q, hA0, hV, rfl, hfz, hnd⟩ := hW
  have hA : DataW.TrodAll enc Tryd.prog W 0 (fun _ => true) true Tryd.f3.params.toList args.toList ds p := hA0
  rw [Tryd.params3] at hwz
  rw [Tryd.params3] at hA hval
  obtain ⟨v0, vs0, d0, ds0, p0, q0, hargs, rfl, rfl, h0, r0⟩ := trodAll_cons hA
  obtain ⟨v1, vs1, d1, ds1, p1, q1, rfl, rfl, rfl, h1, r1⟩ := trodAll_cons r0
  obtain ⟨v2, vs2, d2, ds2, p2, q2, rfl, rfl, rfl, h2, r2⟩ := trodAll_cons r1
  obtain ⟨rfl, rfl, rfl⟩ := trodAll_nil r2
  obtain rfl : args = #[v0, v1, v2] := by cases args; simp_all
  obtain ⟨rfl, rfl⟩ := trodVars_none hV
  obtain ⟨a0, len0, cap0, rfl⟩ := okWide_slice Tryd.underlying22 (hval 0 22 v0 rfl rfl)
  have k0 := h0
  have lt0 : ∀ x ∈ p0, x.block < W.heap.size := by obtain ⟨m, hm⟩ := k0; exact DataW.trod_lt m _ _ _ hm
  have k1 := h1
  have lt1 : ∀ x ∈ p1, x.block < W.heap.size := by obtain ⟨m, hm⟩ := k1; exact DataW.trod_lt m _ _ _ hm
  have k2 := h2
  have lt2 : ∀ x ∈ p2, x.block < W.heap.size := by obtain ⟨m, hm⟩ := k2; exact DataW.trod_lt m _ _ _ hm
  have hz : ∀ x ∈ DataW.weightsEach Tryd.prog (([22, 23, 9] : List TypeId) ++ (OpenSpec.ofChange Rows.sumsCRCSpec).bare.plain.varTypes Tryd.prog) ([d0, d1, d2] ++ []), x ≤ reachBytes := fun x hx => of_decide_eq_true (List.all_eq_true.1 hwz x hx)
  obtain ⟨l0, n0, c0, m0, t0, hd0⟩ : ∃ l : List ByteArray, l.length = len0 ∧ len0 ≤ cap0 ∧ cap0 ≤ maxLen ∧ TxAt W a0 l ∧ ((len0 = 0 ∧ d0 = .nil) ∨ ∃ es sp, d0 = .slice es sp ∧ es.length = len0) := by obtain ⟨fuel, hf⟩ := h0; exact open_strs hf
  have b0 : len0 * 16 ≤ 140737488351232 := by
    rcases hd0 with ⟨h, _⟩ | ⟨es, sp, rfl, h⟩
    · omega
    · have h2 := hz ((es.length + sp.length) * Tryd.prog.bytesOf 9) (by simp [DataW.weightsEach, DataW.weights, Tryd.underlying22])
      rw [show Tryd.prog.bytesOf 9 = 16 by kernel_rfl] at h2
      unfold reachBytes at h2
      omega
  obtain ⟨a1, rfl, rfl, rfl, w1⟩ := open_int Tryd.underlying23 (hval 1 23 v1 rfl rfl) h1
  obtain ⟨u1, z1, rfl⟩ := open_u32 w1
  obtain ⟨a2, rfl, rfl, rfl, w2⟩ := open_string Tryd.underlying9 (hval 2 9 v2 rfl rfl) h2
  have b2 : a2.size ≤ 140737488351232 := by have := hz a2.data.toList.length (by simp [DataW.weightsEach, DataW.weights]); rwa [show a2.data.toList.length = a2.size from LS_len a2] at this
  clear hA0
  have hg := fours_of_laid hL
  have hwk := crc_walk l0 a0 len0 cap0 n0 c0 m0 u1 z1 a2 b2 b0 W t0 hg
  refine hwk.mono fun e W' ⟨he, bel⟩ => ?_
  subst he
  exact ⟨_, rfl, _, _, _, [], _, [], hW', trodAll_mk1 (shut_bool Tryd.underlying4 _), (trodAll_cons_mk (Below.trod laidOut (by kernel_rfl) (of_decide_eq_true (by kernel_rfl)) k0 bel lt0) (trodAll_cons_mk (Below.trod laidOut (by kernel_rfl) (of_decide_eq_true (by kernel_rfl)) k1 bel lt1) (trodAll_cons_mk (Below.trod laidOut (by kernel_rfl) (of_decide_eq_true (by kernel_rfl)) k2 bel lt2) trodAll_mk0))), rfl, bel.frame _, fun h => by cases h⟩

set_option maxRecDepth 100000 in
theorem lifted (os : Os) (started : os.Started) (H : Type) (enc : TypeId × Value → H) (F : Stop.Interp) :
    ReturnsInHanded {} Tryd.checked os 3 .any ((OpenSpec.ofChange Rows.sumsCRCSpec).preRow enc Tryd.prog Tryd.f3 Rows.sumsCRCRow.domain false Rows.sumsCRCRow.laid) (((OpenSpec.ofChange Rows.sumsCRCSpec).at F).post enc Tryd.prog Tryd.f3 false true false false) := by
  refine returnsInHanded_of_row (C := Tryd.checked) (s := OpenSpec.ofChange Rows.sumsCRCSpec) own12 started (by kernel_rfl) Tryd.func3
    (witness_row_shaped12 (enc := enc) (C := Tryd.checked) (World.laidAll Tryd.prog os laid12) #[.slice none 0 0, .int .u32 0, .string ByteArray.empty] (World.laidAll_os _ _ _) (World.shaped_of_ZipB (by kernel_rfl) (by kernel_rfl)) (by kernel_rfl)
      (OpenSpec.preRow_of_cond 8 (x := ([.nil, .lit (.int .u32 0), .lit (.string [])], [], [])) (by kernel_rfl) (by kernel_rfl) (fun k hk => by cases hk) (by kernel_rfl) (by rw [MakeChecks.laidMetH_plain _ _ _ (by kernel_rfl)]; exact laidMet_laidAll _ (by kernel_rfl) (by kernel_rfl)))) ?_
  intro W base args ds gs before hval hW _ hcond hwz hL _ _
  exact contract H enc W base args ds gs before hval hW hwz hL

theorem over : Rows.SumsCRCSaid :=
  OpenClaim.holds_of_cond 3 Tryd.f3 rfl rfl rfl rfl rfl rfl rfl ⟨rfl, rfl, rfl, rfl, rfl⟩ rfl rfl rfl rfl rfl (by kernel_rfl) Tryd.func3 (by kernel_rfl)
    (of_decide_eq_true (by kernel_rfl)) (by unfold Func.isWrapper; first | (rw [if_pos (by decide +kernel)]; kernel_rfl) | (rw [if_neg (by decide +kernel)]; exact ⟨rfl, rfl⟩))
    (fun os started H enc _ F => by rw [OpenClaim.pre_eq_preRow]; exact lifted os started H enc F)

end Go.Proofs.YtdbfpmelhokeoaaDoor.sumsCRC
namespace Go.Proofs.YtdbfpmelhokeoaaDoor
theorem sumsCRC_card : Rows.SumsCRCCardSaid :=
  Claim7.holds_tied_plain_at .later [] [.data] true _ false sumsCRC.over (fun _ h => by cases h) (by kernel_rfl) (fun _ h => by cases h) sumsCRC_row_tie rfl ⟨rfl, rfl⟩ (by kernel_rfl) rfl
    (fun f fn hf hfn => by
      obtain rfl : f = 3 := Option.some.inj ((show Tryd.prog.funcNamed Rows.sumsCRCRow.func = some 3 by kernel_rfl).symm.trans hf) |>.symm
      obtain rfl : fn = Tryd.f3 := (Option.some.inj (Tryd.func3.symm.trans hfn)).symm
      refine ⟨by kernel_rfl, fun j t ht => ?_⟩
      rw [Tryd.params3] at ht
      have hm := Array.mem_of_getElem? ht
      have hm' : t ∈ [22, 23, 9] := Array.mem_toList_iff.2 hm
      simp only [List.mem_cons, List.not_mem_nil, or_false] at hm'
      rcases hm' with rfl | rfl | rfl
      · exact (show Tryd.prog.wantsStandIn 22 = false by kernel_rfl)
      · exact (show Tryd.prog.wantsStandIn 23 = false by kernel_rfl)
      · exact (show Tryd.prog.wantsStandIn 9 = false by kernel_rfl))
    (by kernel_rfl)
end Go.Proofs.YtdbfpmelhokeoaaDoor
