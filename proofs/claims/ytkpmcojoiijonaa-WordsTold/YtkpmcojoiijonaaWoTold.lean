/-
  WordsTold: Short, Long and Letter of every class and side are the document's. No condition.
-/
import Derived.Test.YtkpmcojoiijonaaWoR
import Derived.Test.YtkpmcojoiijonaaWoB
import Derived.ProofKit
import Derived.OpenShut
import Derived.ShutString
import Derived.ChangeOld
namespace Go.Proofs.Ytkpmcojoiijonaa.wordsTold
open Go.ChangeShapes Go.WideShapes Go.ChangeAt Go.RowKit Go.PlainAid Go.Lib Go.ChangeMaps
set_option linter.unusedVariables false


theorem argC (c : Int) (h0 : 0 ≤ c) (h1 : c ≤ 255) : argE (shortS c) = argE (longS c) := by
  by_cases h : c < 24
  · have : ∀ k : Fin 24, argE (shortS ((k.1 : Nat) : Int)) = argE (longS ((k.1 : Nat) : Int)) := by decide +kernel
    have := this ⟨c.toNat, by omega⟩
    have e : ((c.toNat : Nat) : Int) = c := by omega
    rw [← e]; exact this
  · rw [short_out c (by omega), long_out c (by omega)]
theorem parts (t : ByteArray) : ((t.toList == []) = true ∧ t.toList.isEmpty = true ∧ argE t = 2) ∨ ((t.toList == []) = false ∧ t.toList.isEmpty = false ∧ argE t = 0) := by
  by_cases he : t = ⟨#[]⟩
  · subst he
    left
    refine ⟨by rw [Go.Lib.toList_data]; rfl, by rw [Go.Lib.toList_data]; rfl, by unfold argE; rw [if_pos rfl]⟩
  · right
    have h1 : (t.toList == []) = false := by
      have := Go.Switch.str_test t ⟨#[]⟩
      rw [decide_eq_false he, Go.Lib.toList_data ⟨#[]⟩] at this; exact this
    exact ⟨h1, by rw [← h1]; cases t.toList <;> rfl, by unfold argE; rw [if_neg he]⟩
set_option maxRecDepth 100000 in
set_option maxHeartbeats 1000000 in
theorem walk (c s : Int) (w : World) (c0 : 0 ≤ c) (c1 : c ≤ 255) (s0 : 0 ≤ s) (s1 : s ≤ 255) : Calls Try.prog 7 #[.int .u8 c, .int .u8 s] w fun e w' => e = .returned (.bool true) ∧ Below w.heap.size w w' := by
  have q1 : ((shortS c).toList == (shortS c).toList) = true := by simp
  have q2 : ((longS c).toList == (longS c).toList) = true := by simp
  have q3 : ((letterS s).toList == (letterS s).toList) = true := by simp
  have q4 : (letterE s == letterE s) = true := by simp
  have hl := argC c c0 c1
  rcases parts (shortS c) with ⟨h1, h2, ha⟩ | ⟨h1, h2, ha⟩
  all_goals
    rw [ha] at hl
    have HA := hide ha
    have HB := hide hl
    clear ha hl
    go_enter Try.func7, Try.ntmps7
    go_wp2_with (first
      | (go_at_call 25; refine (shortW_any _ _).mono ?_; rintro e w' ⟨rfl, rfl⟩; rw [unhide HA])
      | (go_at_call 26; refine (longW_any _ _).mono ?_; rintro e w' ⟨rfl, rfl⟩; rw [← unhide HB])
      | (go_at_call 27; refine (letter_any _ _).mono ?_; rintro e w' ⟨rfl, hw⟩; cases hw)
      | (go_at_call 28; refine (rLetter_any _ _ s0 s1).mono ?_; rintro e w1 ⟨rfl, hb1⟩)
      | fail)
    refine (rShort_any _ _ c0 c1).mono ?_
    rintro e w2 ⟨rfl, hb2⟩
    go_wp2_with fail
    refine (rShort_any _ _ c0 c1).mono ?_
    rintro e w3 ⟨rfl, hb3⟩
    go_wp2_with fail
    refine (rLong_any _ _ c0 c1).mono ?_
    rintro e w4 ⟨rfl, hb4⟩
    go_wp2_with fail
    refine (awake_any _).mono ?_
    rintro e w5 ⟨rfl, hb5⟩
    go_wp2
    go_ret
    have hB2 := hb1.trans (hb2.mono hb1.size)
    have hB3 := hB2.trans (hb3.mono hB2.size)
    have hB4 := hB3.trans (hb4.mono hB3.size)
    exact ⟨rfl, hB4.trans (hb5.mono hB4.size)⟩

theorem own : ownKnob Try.prog.godebug = none := by kernel_rfl
theorem laidOut : laidOutB Try.prog = true := by kernel_rfl

set_option maxRecDepth 100000 in
theorem contract (H : Type) (enc : TypeId × Value → H) (W : World) (base : Nat) (args : Array Value) (ds gs : List (DataW H)) (before : List MemPlace)
    (hval : ∀ (j : Nat) t v, Try.f7.params[j]? = some t → args[j]? = some v → Value.okWide Try.prog W .any base t v)
    (hW : DataW.Whole enc Try.prog Try.f7.params.toList Rows.wordsToldSpec.vars false W args.toList ds gs before) :
    Calls Try.prog 7 args W fun e W' => ∃ v, e = .returned v ∧ Rows.wordsToldSpec.post enc Try.prog Try.f7 false true false false W args v W' := by
  have hW' := hW
  obtain ⟨p, q, hA0, hV, rfl, hfz, hnd⟩ := hW
  have hA : DataW.TrodAll enc Try.prog W 0 (fun _ => true) true Try.f7.params.toList args.toList ds p := hA0
  rw [Try.params7] at hA hval
  obtain ⟨v0, vs0, d0, ds0, p0, q0, hargs, rfl, rfl, h0, r0⟩ := trodAll_cons hA
  obtain ⟨v1, vs1, d1, ds1, p1, q1, rfl, rfl, rfl, h1, r1⟩ := trodAll_cons r0
  obtain ⟨rfl, rfl, rfl⟩ := trodAll_nil r1
  obtain rfl : args = #[v0, v1] := by cases args; simp_all
  obtain ⟨rfl, rfl⟩ := trodVars_none hV
  obtain ⟨a0, rfl, hd0, rfl, w0⟩ := open_int Try.underlying34 (hval 0 34 v0 rfl rfl) h0
  have x0 : 0 ≤ a0 ∧ a0 ≤ 255 := wf_u8 w0
  obtain ⟨a1, rfl, hd1, rfl, w1⟩ := open_int Try.underlying39 (hval 1 39 v1 rfl rfl) h1
  have x1 : 0 ≤ a1 ∧ a1 ≤ 255 := wf_u8 w1
  clear hA0
  have hwk := walk a0 a1 W x0.1 x0.2 x1.1 x1.2
  subst hd0
  subst hd1
  refine hwk.mono fun e W' ⟨he, bel⟩ => ?_
  subst he
  exact ⟨_, rfl, _, _, _, [], _, [], hW', trodAll_mk1 (shut_bool Try.underlying4 _), (trodAll_cons_mk (shut_int Try.underlying34 w0) (trodAll_cons_mk (shut_int Try.underlying39 w1) trodAll_mk0)), rfl, bel.frame _, fun h => by cases h⟩

set_option maxRecDepth 100000 in
theorem lifted (os : Os) (started : os.Started) (H : Type) (enc : TypeId × Value → H) :
    ReturnsInHanded {} Try.checked os 7 .any (Rows.wordsToldSpec.pre6 enc Try.prog Try.f7 Rows.wordsToldRow.domain false) (Rows.wordsToldSpec.post enc Try.prog Try.f7 false true false false) := by
  refine returnsInHanded_of_change (C := Try.checked) own started (by kernel_rfl) Try.func7
    (ChangeSpec.witness6 (enc := enc) (C := Try.checked) false ⟨#[], #[.int .u8 0, .int .u8 0], []⟩ 8 (by kernel_rfl) (by kernel_rfl) (by kernel_rfl) (by kernel_rfl)) ?_
  intro W base args ds gs before hval hW hcnd _
  exact contract H enc W base args ds gs before hval hW

theorem over : Rows.wordsToldRow.holds Try.pinned (OpenSpec.ofChange Rows.wordsToldSpec) :=
  OpenClaim.holds_of_wide 7 Try.f7 rfl rfl rfl rfl rfl rfl rfl ⟨rfl, rfl, rfl, rfl, rfl⟩ rfl rfl rfl rfl rfl (by kernel_rfl) Try.func7 (by kernel_rfl)
    (of_decide_eq_true (by kernel_rfl)) (by unfold Func.isWrapper; first | (rw [if_pos (by decide +kernel)]; kernel_rfl) | (rw [if_neg (by decide +kernel)]; exact ⟨rfl, rfl⟩))
    (fun os started H enc _ => lifted os started H enc)

end Go.Proofs.Ytkpmcojoiijonaa.wordsTold
namespace Go.Proofs.Ytkpmcojoiijonaa
theorem wordsTold_holds : Rows.WordsToldSaid := wordsTold.over
end Go.Proofs.Ytkpmcojoiijonaa

