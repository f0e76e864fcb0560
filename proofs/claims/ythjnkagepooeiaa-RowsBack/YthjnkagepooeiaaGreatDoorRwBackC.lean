/-
  RowsBack: the row.
-/
import Derived.Test.YthjnkagepooeiaaGreatDoorRo
namespace Go.Proofs.YthjnkagepooeiaaGreatDoor.rowsBack
open Go.ChangeShapes Go.WideShapes Go.ChangeAt Go.RowKit
open Go.ChangeMaps (open_string shut_string)
set_option linter.unusedVariables false

theorem laidOut : laidOutB Tryz.prog = true := by kernel_rfl

set_option maxRecDepth 100000 in
theorem contract (H : Type) (enc : TypeId × Value → H) (W : World) (base : Nat) (args : Array Value) (ds gs : List (DataW H)) (before : List MemPlace)
    (hval : ∀ (j : Nat) t v, Tryz.f8.params[j]? = some t → args[j]? = some v → Value.okWide Tryz.prog W .any base t v)
    (hW : DataW.Whole enc Tryz.prog Tryz.f8.params.toList Rows.rowsBackSpec.vars false W args.toList ds gs before) (hk : Rows.uptoSmall H (ds ++ gs) = true) (hL : laidMetH Tryz.prog laid7 W) (hsh : W.ShapedOpen Tryz.prog) :
    Calls Tryz.prog 8 args W fun e W' => ∃ v, e = .returned v ∧ Rows.rowsBackSpec.post enc Tryz.prog Tryz.f8 false true false false W args v W' := by
  have hW' := hW
  obtain ⟨p, q, hA0, hV, rfl, hfz, hnd⟩ := hW
  have hA : DataW.TrodAll enc Tryz.prog W 0 (fun _ => true) true Tryz.f8.params.toList args.toList ds p := hA0
  rw [Tryz.params8] at hA hval
  obtain ⟨v0, vs0, d0, ds0, p0, q0, hargs, rfl, rfl, h0, r0⟩ := trodAll_cons hA
  obtain ⟨rfl, rfl, rfl⟩ := trodAll_nil r0
  obtain rfl : args = #[v0] := by cases args; simp_all
  obtain ⟨rfl, rfl⟩ := trodVars_none hV
  obtain ⟨a0, len0, cap0, rfl⟩ := okWide_slice Tryz.underlying37 (hval 0 37 v0 rfl rfl)
  have k0 := h0
  have lt0 : ∀ x ∈ p0, x.block < W.heap.size := by obtain ⟨m, hm⟩ := k0; exact DataW.trod_lt m _ _ _ hm
  have hb := bulk_bound hk
  simp only [Rows.uptoBulkAll, List.append_nil] at hb
  obtain ⟨rs0, n0, c0, m0, hrk, hsm, hd0⟩ : ∃ rs : List RowD, rs.length = len0 ∧ len0 ≤ cap0 ∧ RwMem W a0 rs ∧ (∀ r ∈ rs, 0 ≤ r.comb ∧ r.comb ≤ 255 ∧ 0 ≤ r.cls ∧ r.cls ≤ 255 ∧ r.name.length + r.cat.length ≤ Rows.uptoBulk d0) ∧ sumR rs ≤ Rows.uptoBulk d0 ∧ ((len0 = 0 ∧ d0 = .nil) ∨ ∃ es sp, d0 = .slice es sp ∧ es.length = len0) := by obtain ⟨fuel, hf⟩ := h0; exact open_rows3 hf
  have ok0 : ∀ r ∈ rs0, RowOk r := fun r hr => by
    obtain ⟨k1, k2, k3, k4, k5⟩ := hrk r hr
    exact ⟨k1, k2, k3, k4, by omega⟩
  have sm0 : sumR rs0 ≤ 1048576 := by omega
  have b0 : len0 ≤ 1048576 := by
    rcases hd0 with ⟨h, _⟩ | ⟨es, sp, e, h⟩
    · omega
    · have h2 := bulk_slice (H := H) es sp
      rw [← e] at h2
      omega
  clear hA0
  have hg := glob_of_laid7 hL hsh
  have ht := tz16_of_laid7 hL
  have hwk := back_walk6 rs0 a0 len0 cap0 W hg ht n0 b0 ok0 sm0 m0
  refine hwk.mono fun e W' ⟨he, bel⟩ => ?_
  subst he
  exact ⟨_, rfl, _, _, _, [], _, [], hW', trodAll_mk1 (shut_bool Tryz.underlying4 _), (trodAll_cons_mk (Below.trod laidOut (by kernel_rfl) (of_decide_eq_true (by kernel_rfl)) k0 bel lt0) trodAll_mk0), rfl, bel.frame _, fun h => by cases h⟩

set_option maxRecDepth 100000 in
theorem lifted (os : Os) (started : os.Started) (H : Type) (enc : TypeId × Value → H) (F : Stop.Interp) :
    ReturnsInHanded {} Tryz.checked os 8 .any ((Rows.OpenSpec.upto Rows.rowsBackSpec).preRow enc Tryz.prog Tryz.f8 Rows.rowsBackUptoRow.domain false Rows.rowsBackUptoRow.laid) (((Rows.OpenSpec.upto Rows.rowsBackSpec).at F).post enc Tryz.prog Tryz.f8 false true false false) := by
  refine returnsInHanded_of_row (C := Tryz.checked) (s := Rows.OpenSpec.upto Rows.rowsBackSpec) own6 started (by kernel_rfl) Tryz.func8
    (witness_row_shaped6 (enc := enc) (C := Tryz.checked) (witW7 os) #[.slice none 0 0] (witW7_os os) (World.shaped_of_ZipB (by kernel_rfl) (by kernel_rfl)) (by kernel_rfl)
      (OpenSpec.preRow_of_cond 8 (x := ([.nil], [], [])) (by kernel_rfl) (by kernel_rfl) (fun k hk => by cases hk; kernel_rfl) (by kernel_rfl) (laidMetH_of_parts (laidMet_over6 _ (by kernel_rfl) (by kernel_rfl)) (by kernel_rfl)))) ?_
  intro W base args ds gs before hval hW _ hcond _ hL hsh _
  exact contract H enc W base args ds gs before hval hW (hcond _ rfl) hL hsh

end Go.Proofs.YthjnkagepooeiaaGreatDoor.rowsBack
