/-
  WideOne: Width, Split, Join of every number and every two units are the document's. No condition.
-/
import Derived.Test.YtghcheoholkpbaaWRefA
import Derived.ProofKit
import Derived.OpenShut
import Derived.ShutString
import Derived.ChangeOld
namespace Go.Proofs.Ytghcheoholkpbaa.wideOne
open Go.ChangeShapes Go.WideShapes Go.ChangeAt Go.RowKit
set_option linter.unusedVariables false

theorem eq_self (z : Int) : (z == z) = true := by simp

set_option maxRecDepth 100000 in
set_option maxHeartbeats 1000000 in
theorem walk (r a b : Int) (w : World) (_ : 0 ≤ a) (_ : a ≤ 65535) (_ : 0 ≤ b) (_ : b ≤ 65535) : Calls Try.prog 3 #[.int .i32 r, .int .u16 a, .int .u16 b] w fun e w' => e = .returned (.bool true) ∧ Below w.heap.size w w' := by
  cases hp : pairB r <;> cases hj : (highB a && lowB b)
  · have HP := hide hp
    have HJ := hide hj
    clear hp hj
    go_enter Try.func3, Try.ntmps3
    go_wp2_with (first
      | (go_at_call 14; refine (split_no _ _ (unhide HP)).mono ?_; rintro e w' ⟨rfl, rfl⟩)
      | (go_at_call 15; refine (rSplit_no _ _ (unhide HP)).mono ?_; rintro e w' ⟨rfl, rfl⟩)
      | (go_at_call 16; refine (join_no _ _ _ (unhide HJ)).mono ?_; rintro e w' ⟨rfl, rfl⟩)
      | (go_at_call 17; refine (rJoin_no _ _ _ (unhide HJ)).mono ?_; rintro e w' ⟨rfl, rfl⟩)
      | (go_at_call 18; refine (wWidth_any _ _).mono ?_; rintro e w' ⟨rfl, rfl⟩)
      | (go_at_call 19; refine (rWidth_any _ _).mono ?_; rintro e w' ⟨rfl, rfl⟩)
      | (go_at_call 20; refine (awake_any _).mono ?_; rintro e w' ⟨rfl, hb⟩))
    go_ret
    exact ⟨rfl, hb⟩
  · have HP := hide hp
    have HJ := hide (show highB a = true ∧ lowB b = true by simpa using hj)
    clear hp hj
    go_enter Try.func3, Try.ntmps3
    go_wp2_with (first
      | (go_at_call 14; refine (split_no _ _ (unhide HP)).mono ?_; rintro e w' ⟨rfl, rfl⟩)
      | (go_at_call 15; refine (rSplit_no _ _ (unhide HP)).mono ?_; rintro e w' ⟨rfl, rfl⟩)
      | (go_at_call 16; refine (join_yes _ _ _ (unhide HJ).1 (unhide HJ).2).mono ?_; rintro e w' ⟨rfl, rfl⟩)
      | (go_at_call 17; refine (rJoin_yes _ _ _ (unhide HJ).1 (unhide HJ).2).mono ?_; rintro e w' ⟨rfl, rfl⟩)
      | (go_at_call 18; refine (wWidth_any _ _).mono ?_; rintro e w' ⟨rfl, rfl⟩)
      | (go_at_call 19; refine (rWidth_any _ _).mono ?_; rintro e w' ⟨rfl, rfl⟩)
      | (go_at_call 20; refine (awake_any _).mono ?_; rintro e w' ⟨rfl, hb⟩))
    go_ret
    exact ⟨rfl, hb⟩
  · have HP := hide hp
    have HJ := hide hj
    clear hp hj
    go_enter Try.func3, Try.ntmps3
    go_wp2_with (first
      | (go_at_call 14; refine (split_yes _ _ (unhide HP)).mono ?_; rintro e w' ⟨rfl, rfl⟩)
      | (go_at_call 15; refine (rSplit_yes _ _ (unhide HP)).mono ?_; rintro e w' ⟨rfl, rfl⟩)
      | (go_at_call 16; refine (join_no _ _ _ (unhide HJ)).mono ?_; rintro e w' ⟨rfl, rfl⟩)
      | (go_at_call 17; refine (rJoin_no _ _ _ (unhide HJ)).mono ?_; rintro e w' ⟨rfl, rfl⟩)
      | (go_at_call 18; refine (wWidth_any _ _).mono ?_; rintro e w' ⟨rfl, rfl⟩)
      | (go_at_call 19; refine (rWidth_any _ _).mono ?_; rintro e w' ⟨rfl, rfl⟩)
      | (go_at_call 20; refine (awake_any _).mono ?_; rintro e w' ⟨rfl, hb⟩))
    go_ret
    exact ⟨rfl, hb⟩
  · have HP := hide hp
    have HJ := hide (show highB a = true ∧ lowB b = true by simpa using hj)
    clear hp hj
    go_enter Try.func3, Try.ntmps3
    go_wp2_with (first
      | (go_at_call 14; refine (split_yes _ _ (unhide HP)).mono ?_; rintro e w' ⟨rfl, rfl⟩)
      | (go_at_call 15; refine (rSplit_yes _ _ (unhide HP)).mono ?_; rintro e w' ⟨rfl, rfl⟩)
      | (go_at_call 16; refine (join_yes _ _ _ (unhide HJ).1 (unhide HJ).2).mono ?_; rintro e w' ⟨rfl, rfl⟩)
      | (go_at_call 17; refine (rJoin_yes _ _ _ (unhide HJ).1 (unhide HJ).2).mono ?_; rintro e w' ⟨rfl, rfl⟩)
      | (go_at_call 18; refine (wWidth_any _ _).mono ?_; rintro e w' ⟨rfl, rfl⟩)
      | (go_at_call 19; refine (rWidth_any _ _).mono ?_; rintro e w' ⟨rfl, rfl⟩)
      | (go_at_call 20; refine (awake_any _).mono ?_; rintro e w' ⟨rfl, hb⟩))
    go_ret
    exact ⟨rfl, hb⟩

theorem own : ownKnob Try.prog.godebug = none := by kernel_rfl
theorem laidOut : laidOutB Try.prog = true := by kernel_rfl

set_option maxRecDepth 100000 in
theorem contract (H : Type) (enc : TypeId × Value → H) (W : World) (base : Nat) (args : Array Value) (ds gs : List (DataW H)) (before : List MemPlace)
    (hval : ∀ (j : Nat) t v, Try.f3.params[j]? = some t → args[j]? = some v → Value.okWide Try.prog W .any base t v)
    (hW : DataW.Whole enc Try.prog Try.f3.params.toList Rows.wideOneSpec.vars false W args.toList ds gs before) :
    Calls Try.prog 3 args W fun e W' => ∃ v, e = .returned v ∧ Rows.wideOneSpec.post enc Try.prog Try.f3 false true false false W args v W' := by
  have hW' := hW
  obtain ⟨p, q, hA0, hV, rfl, hfz, hnd⟩ := hW
  have hA : DataW.TrodAll enc Try.prog W 0 (fun _ => true) true Try.f3.params.toList args.toList ds p := hA0
  rw [Try.params3] at hA hval
  obtain ⟨v0, vs0, d0, ds0, p0, q0, hargs, rfl, rfl, h0, r0⟩ := trodAll_cons hA
  obtain ⟨v1, vs1, d1, ds1, p1, q1, rfl, rfl, rfl, h1, r1⟩ := trodAll_cons r0
  obtain ⟨v2, vs2, d2, ds2, p2, q2, rfl, rfl, rfl, h2, r2⟩ := trodAll_cons r1
  obtain ⟨rfl, rfl, rfl⟩ := trodAll_nil r2
  obtain rfl : args = #[v0, v1, v2] := by cases args; simp_all
  obtain ⟨rfl, rfl⟩ := trodVars_none hV
  obtain ⟨a0, rfl, hd0, rfl, w0⟩ := open_int Try.underlying21 (hval 0 21 v0 rfl rfl) h0
  obtain ⟨a1, rfl, hd1, rfl, w1⟩ := open_int Try.underlying22 (hval 1 22 v1 rfl rfl) h1
  have x1 : 0 ≤ a1 ∧ a1 ≤ 65535 := wf_u16 w1
  obtain ⟨a2, rfl, hd2, rfl, w2⟩ := open_int Try.underlying22 (hval 2 22 v2 rfl rfl) h2
  have x2 : 0 ≤ a2 ∧ a2 ≤ 65535 := wf_u16 w2
  clear hA0
  have hwk := walk a0 a1 a2 W x1.1 x1.2 x2.1 x2.2
  subst hd0
  subst hd1
  subst hd2
  refine hwk.mono fun e W' ⟨he, bel⟩ => ?_
  subst he
  exact ⟨_, rfl, _, _, _, [], _, [], hW', trodAll_mk1 (shut_bool Try.underlying4 _), (trodAll_cons_mk (shut_int Try.underlying21 w0) (trodAll_cons_mk (shut_int Try.underlying22 w1) (trodAll_cons_mk (shut_int Try.underlying22 w2) trodAll_mk0))), rfl, bel.frame _, fun h => by cases h⟩

set_option maxRecDepth 100000 in
theorem lifted (os : Os) (started : os.Started) (H : Type) (enc : TypeId × Value → H) :
    ReturnsInHanded {} Try.checked os 3 .any (Rows.wideOneSpec.pre6 enc Try.prog Try.f3 Rows.wideOneRow.domain false) (Rows.wideOneSpec.post enc Try.prog Try.f3 false true false false) := by
  refine returnsInHanded_of_change (C := Try.checked) own started (by kernel_rfl) Try.func3
    (ChangeSpec.witness6 (enc := enc) (C := Try.checked) false ⟨#[], #[.int .i32 0, .int .u16 0, .int .u16 0], []⟩ 8 (by kernel_rfl) (by kernel_rfl) (by kernel_rfl) (by kernel_rfl)) ?_
  intro W base args ds gs before hval hW hcnd _
  exact contract H enc W base args ds gs before hval hW

theorem over : Rows.wideOneRow.holds Try.pinned (OpenSpec.ofChange Rows.wideOneSpec) :=
  OpenClaim.holds_of_wide 3 Try.f3 rfl rfl rfl rfl rfl rfl rfl ⟨rfl, rfl, rfl, rfl, rfl⟩ rfl rfl rfl rfl rfl (by kernel_rfl) Try.func3 (by kernel_rfl)
    (of_decide_eq_true (by kernel_rfl)) (by unfold Func.isWrapper; first | (rw [if_pos (by decide +kernel)]; kernel_rfl) | (rw [if_neg (by decide +kernel)]; exact ⟨rfl, rfl⟩))
    (fun os started H enc _ => lifted os started H enc)

end Go.Proofs.Ytghcheoholkpbaa.wideOne
namespace Go.Proofs.Ytghcheoholkpbaa
theorem wideOne_holds : Rows.WideOneSaid := wideOne.over
end Go.Proofs.Ytghcheoholkpbaa

