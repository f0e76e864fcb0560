/-
  SumsNames: the row and the card.
-/
import Derived.Test.YtdbfpmelhokeoaaDoorSuK
import Derived.Test.YtdbfpmelhokeoaaDoorSuLaid
import Derived.Test.YtdbfpmelhokeoaaDoorSuOpen
import Derived.Test.YtdbfpmelhokeoaaDoorBulk
namespace Go.Proofs.YtdbfpmelhokeoaaDoor.sumsNames
open Go.ChangeShapes Go.WideShapes Go.ChangeAt Go.RowKit
open Go.ChangeMaps (open_string shut_string)
set_option linter.unusedVariables false
set_option linter.unusedSimpArgs false

theorem laidOut : laidOutB Tryd.prog = true := by kernel_rfl

set_option maxRecDepth 100000 in
theorem contract (H : Type) (enc : TypeId × Value → H) (W : World) (base : Nat) (args : Array Value) (ds gs : List (DataW H)) (before : List MemPlace)
    (hval : ∀ (j : Nat) t v, Tryd.f15.params[j]? = some t → args[j]? = some v → Value.okWide Tryd.prog W .any base t v)
    (hW : DataW.Whole enc Tryd.prog Tryd.f15.params.toList Rows.sumsNamesSpec.vars false W args.toList ds gs before) (hwz : (DataW.weightsEach Tryd.prog (Tryd.f15.params.toList ++ (OpenSpec.ofChange Rows.sumsNamesSpec).bare.plain.varTypes Tryd.prog) (ds ++ gs)).all (· ≤ reachBytes) = true) (hL : laidMetH Tryd.prog laid12 W) :
    Calls Tryd.prog 15 args W fun e W' => ∃ v, e = .returned v ∧ Rows.sumsNamesSpec.post enc Tryd.prog Tryd.f15 false true false false W args v W' := by
  have hW' := hW
  obtain ⟨p, q, hA0, hV, rfl, hfz, hnd⟩ := hW
  have hA : DataW.TrodAll enc Tryd.prog W 0 (fun _ => true) true Tryd.f15.params.toList args.toList ds p := hA0
  rw [Tryd.params15] at hwz
  rw [Tryd.params15] at hA hval
  obtain ⟨rfl, rfl, rfl⟩ := trodAll_none hA
  obtain ⟨rfl, rfl⟩ := trodVars_none hV
  have hz : ∀ x ∈ DataW.weightsEach Tryd.prog (([] : List TypeId) ++ (OpenSpec.ofChange Rows.sumsNamesSpec).bare.plain.varTypes Tryd.prog) ([] ++ []), x ≤ reachBytes := fun x hx => of_decide_eq_true (List.all_eq_true.1 hwz x hx)
  clear hA0
  have hg := fours_of_laid hL
  have hwk := names_walk W hg
  refine hwk.mono fun e W' ⟨he, bel⟩ => ?_
  subst he
  exact ⟨_, rfl, _, _, _, [], [], [], hW', trodAll_mk1 (shut_bool Tryd.underlying4 _), trodAll_mk0, rfl, bel.frame _, fun h => by cases h⟩

set_option maxRecDepth 100000 in
theorem lifted (os : Os) (started : os.Started) (H : Type) (enc : TypeId × Value → H) (F : Stop.Interp) :
    ReturnsInHanded {} Tryd.checked os 15 .any ((OpenSpec.ofChange Rows.sumsNamesSpec).preRow enc Tryd.prog Tryd.f15 Rows.sumsNamesRow.domain false Rows.sumsNamesRow.laid) (((OpenSpec.ofChange Rows.sumsNamesSpec).at F).post enc Tryd.prog Tryd.f15 false true false false) := by
  refine returnsInHanded_of_row (C := Tryd.checked) (s := OpenSpec.ofChange Rows.sumsNamesSpec) own12 started (by kernel_rfl) Tryd.func15
    (witness_row_shaped12 (enc := enc) (C := Tryd.checked) (World.laidAll Tryd.prog os laid12) #[] (World.laidAll_os _ _ _) (World.shaped_of_ZipB (by kernel_rfl) (by kernel_rfl)) (by kernel_rfl)
      (OpenSpec.preRow_of_cond 8 (x := ([], [], [])) (by kernel_rfl) (by kernel_rfl) (fun k hk => by cases hk) (by kernel_rfl) (by rw [MakeChecks.laidMetH_plain _ _ _ (by kernel_rfl)]; exact laidMet_laidAll _ (by kernel_rfl) (by kernel_rfl)))) ?_
  intro W base args ds gs before hval hW _ hcond hwz hL _ _
  exact contract H enc W base args ds gs before hval hW hwz hL

theorem over : Rows.SumsNamesSaid :=
  OpenClaim.holds_of_cond 15 Tryd.f15 rfl rfl rfl rfl rfl rfl rfl ⟨rfl, rfl, rfl, rfl, rfl⟩ rfl rfl rfl rfl rfl (by kernel_rfl) Tryd.func15 (by kernel_rfl)
    (of_decide_eq_true (by kernel_rfl)) (by unfold Func.isWrapper; first | (rw [if_pos (by decide +kernel)]; kernel_rfl) | (rw [if_neg (by decide +kernel)]; exact ⟨rfl, rfl⟩))
    (fun os started H enc _ F => by rw [OpenClaim.pre_eq_preRow]; exact lifted os started H enc F)

end Go.Proofs.YtdbfpmelhokeoaaDoor.sumsNames
namespace Go.Proofs.YtdbfpmelhokeoaaDoor
theorem sumsNames_card : Rows.SumsNamesCardSaid :=
  Claim7.holds_tied_plain_at .later [] [.data] true _ false sumsNames.over (fun _ h => by cases h) (by kernel_rfl) (fun _ h => by cases h) sumsNames_row_tie rfl ⟨rfl, rfl⟩ (by kernel_rfl) rfl
    (fun f fn hf hfn => by
      obtain rfl : f = 15 := Option.some.inj ((show Tryd.prog.funcNamed Rows.sumsNamesRow.func = some 15 by kernel_rfl).symm.trans hf) |>.symm
      obtain rfl : fn = Tryd.f15 := (Option.some.inj (Tryd.func15.symm.trans hfn)).symm
      exact ⟨by kernel_rfl, fun j t ht => by rw [Tryd.params15] at ht; simp at ht⟩)
    (by kernel_rfl)
end Go.Proofs.YtdbfpmelhokeoaaDoor
