/-
  The table that the row of ImageNames lists: what the condition gives a walk, and a world that meets it.
-/
import Derived.Test.YteakbnogfnbpkaaGreatDoorImNa
import Derived.Test.YteakbnogfnbpkaaGreatDoorTie
import Derived.Test.YteakbnogfnbpkaaGreatDoorCards
import Derived.Shelf.Vars
import Derived.HandedShaped
import Derived.ProofKit
import Derived.OpenShut
import Derived.ShutString
import Derived.ChangeOld
import Derived.LaidMore
import Derived.LaidHandle
import Derived.LaidSub
import Derived.Lay
import Derived.MakeChecks
import Derived.SevenTiedAt
import Derived.Stop.Joined
import Derived.Deep.DeepHandedRow
namespace Go.Proofs.YteakbnogfnbpkaaGreatDoor
open Go.ChangeShapes Go.WideShapes Go.ChangeAt Go.RowKit Go.SuM
set_option linter.unusedVariables false

theorem own13 : ownKnob Tryz.prog.godebug = none := by kernel_rfl
abbrev laid13 : List (String × DataW Unit) := Rows.imageNamesRow.laid
theorem foursGlobal : Tryz.prog.globalNamed "furrow/sums.fours" = some 0 := by kernel_rfl
theorem foursLits : ∀ i : Nat, i < 16 → ((Rows.laid_furrow_sums_fours : DataW Unit) = .agg (fours.map fun (n : Nat) => .lit (.int .u32 (n : Int)))) ∧ (fours.map fun (n : Nat) => (DataW.lit (H := Unit) (.int .u32 (n : Int))))[i]? = some (.lit (.int .u32 ((fourAt i : Nat) : Int))) := by
  intro i hi
  refine ⟨rfl, ?_⟩
  rw [List.getElem?_map, fourAt, List.getElem?_eq_getElem (show i < fours.length from hi)]
  rfl
set_option maxRecDepth 100000 in
/-- what the condition gives a walk -/
theorem fours_of_laid {W : World} (h : laidMetH Tryz.prog laid13 W) : FoursAt W := by
  intro i hi
  rw [MakeChecks.laidMetH_plain _ _ _ (by kernel_rfl)] at h
  obtain ⟨ps, ⟨g, t, cs, fuel, p, q, hg, ht, hv, hd, _, _⟩, _, _⟩ := h
  obtain rfl := Option.some.inj (foursGlobal.symm.trans hg)
  obtain rfl := Option.some.inj ((show (Tryz.prog.globals[0]?).map (·.type) = some 301 by kernel_rfl).symm.trans ht)
  obtain ⟨xs, m, _, ex, _, hl, hel⟩ := DataW.trod_array Tryz.underlying301 hd
  have c5 : Tryz.prog.cellsOf 101 = 1 := by kernel_rfl
  have hE := hel i (by omega)
  rw [c5, Nat.mul_one, List.getElem?_eq_getElem (by omega)] at hE
  obtain ⟨z, e1, e2, _⟩ := DataW.trod_int Tryz.underlying101 hE
  have e4 : (xs.map (·.1))[i]? = some (.lit (.int .u32 ((fourAt i : Nat) : Int))) := by
    rw [← (DataW.agg.inj ((foursLits i hi).1.symm.trans (Prod.mk.inj ex).1))]
    exact (foursLits i hi).2
  rw [List.getElem?_map, List.getElem?_eq_getElem (by omega : i < xs.length), e2] at e4
  have hz : z = ((fourAt i : Nat) : Int) := by
    simp only [Option.map_some, Option.some.injEq, DataW.lit.injEq, Lit.int.injEq, true_and] at e4
    exact e4
  rw [World.var?_cell hg hv i, ← hz]
  have : cs.toList[i]? = some (.int .u32 z) := by
    have h0 : ((cs.toList.drop i).take 1)[0]? = some (.int .u32 z) := by rw [e1]; rfl
    simpa using h0
  simpa using this
theorem witness_row_shaped13 {H : Type} {enc : TypeId × Value → H} {C : Checked} {os : Os} {f : FuncId} {fn : Func} {s : OpenSpec} {conds : List PathCond} {apart : Bool} {laid : List (String × DataW Unit)} (w0 : World) (args : Array Value) (hos : w0.os = os)
    (hsh : (w0.forCall (fun _ _ => 0) ⟨#[], args, []⟩).Shaped C.prog)
    (hok : Input.okWideB C.prog (w0.forCall (fun _ _ => 0) ⟨#[], args, []⟩) f ⟨#[], args, []⟩ = true)
    (hrow : s.preRow enc C.prog fn conds apart laid (w0.forCall (fun _ _ => 0) ⟨#[], args, []⟩).memory args) :
    ∃ (w : World) (tape : Tape) (i : Input), w.os = os ∧ (w.forCall tape i).Shaped C.prog ∧ i.vars = [] ∧ Input.okWide C.prog (w.forCall tape i) .any w.heap.size f i ∧
      s.preRow enc C.prog fn conds apart laid (w.forCall tape i).memory i.args ∧ ({} : Assume).holds C.prog (lone (Frame.enter C.prog f i.args .normal) [] (w.forCall tape i)) :=
  ⟨w0, fun _ _ => 0, ⟨#[], args, []⟩, hos, hsh, (Input.okWide_of_okWideB (base := 0) hok).1, (Input.okWide_of_okWideB hok).2, hrow, by
    simp only [Assume.holds]
    exact ⟨by simp, by simp, by simp, by simp, by simp⟩⟩
end Go.Proofs.YteakbnogfnbpkaaGreatDoor
