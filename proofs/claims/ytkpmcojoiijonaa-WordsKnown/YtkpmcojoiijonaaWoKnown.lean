/-
  WordsKnown: the chapter's examples and the numbers are the document's. No condition.
-/
import Derived.Test.YtkpmcojoiijonaaWoV
import Derived.ProofKit
import Derived.OpenShut
import Derived.ShutString
import Derived.ChangeOld
namespace Go.Proofs.Ytkpmcojoiijonaa.wordsKnown
open Go.ChangeShapes Go.WideShapes Go.ChangeAt Go.RowKit Go.PlainAid Go.Lib Go.ChangeMaps
set_option linter.unusedVariables false

abbrev kA : ByteArray := ⟨#[76, 32, 88, 32, 82]⟩
abbrev kB : ByteArray := ⟨#[76, 32, 32, 82, 95]⟩
theorem kA1 : clsL kA = [] ∧ clsP kA = 2 ∧ clsE kA = 50 := by decide +kernel
theorem kB1 : clsL kB = [1, 2] ∧ clsE kB = 0 := by decide +kernel
theorem kC1 : wrS [1, 23] = ⟨#[76, 32, 80, 68, 73]⟩ ∧ wrE [1, 23] = 0 := by decide +kernel
theorem kD1 : wrE [24] = 2 := by decide +kernel
theorem kE1 : classN (looseB ⟨#[]⟩) = 0 := by decide +kernel
theorem kF1 : sideE (looseB ⟨#[120]⟩) = 51 := by decide +kernel
theorem kG1 : letterS 0 = ⟨#[110]⟩ ∧ letterE 0 = 0 := by decide
theorem kH1 : looseB ⟨#[76, 101, 102, 116, 95, 84, 111, 45, 82, 105, 103, 104, 116]⟩ = ⟨#[108, 101, 102, 116, 116, 111, 114, 105, 103, 104, 116]⟩ := by decide +kernel
theorem kI1 : looseB ⟨#[195, 137]⟩ = ⟨#[195, 137]⟩ := by decide +kernel
theorem kJ1 : decide (looseB ⟨#[255]⟩ = looseB ⟨#[239, 191, 189]⟩) = true := by decide +kernel
theorem new_reads (w : World) (zs : List Int) (t : TypeId) : ReadsB (w.alloc (.cells ((zs.map (Value.int .u8)).toArray) t)) (some ⟨w.heap.size, 0, none⟩) zs := by
  intro k hk
  refine ⟨_, _, rfl, ?_⟩
  rw [Nat.zero_add, cell_list w (zs.map (Value.int .u8)) t k (.int .u8 (zs.getD k 0)) (by rw [List.getElem?_map, List.getElem?_eq_getElem hk]; simp [List.getD, List.getElem?_eq_getElem hk])]
set_option maxRecDepth 100000 in
set_option maxHeartbeats 2000000 in
theorem walk (w : World) : Calls Try.prog 12 #[] w fun e w' => e = .returned (.bool true) ∧ Below w.heap.size w w' := by
  go_enter Try.func12, Try.ntmps12
  go_wp2_with fail
  refine (classes_any kA w (by decide)).mono ?_
  rintro e w1 ⟨v, rfl, hrow, hb1⟩
  obtain ⟨va, vc, rfl⟩ := row_sliceC hrow
  rw [kA1.1, kA1.2.1, kA1.2.2]
  have hl0 : (([] : List Int).length) = 0 := rfl
  rw [hl0]
  clear hrow hl0
  go_wp2_with fail
  refine (classes_any kB w1 (by decide)).mono ?_
  rintro e w2 ⟨v, rfl, hrow, hb2⟩
  obtain ⟨vb, vd, rfl⟩ := row_sliceC hrow
  rw [kB1.1] at hrow
  rw [kB1.1, kB1.2]
  have hrow : w2.ownsRow w1.heap.size 34 1 (.slice vb 2 vd) 2 [.int .u8 1, .int .u8 2] := hrow
  have hl2 : (([1, 2] : List Int).length) = 2 := rfl
  rw [hl2]
  have HR := hide hrow
  clear hrow hl2
  generalize clsP kB = pk at *
  have hB2 : Below w.heap.size w w2 := below2 hb1 hb2
  clear hb1 hb2
  go_wp2_with fail
  refine (write_any (some ⟨w2.heap.size, 0, none⟩) 2 [1, 23] (w2.alloc (.cells #[.int .u8 1, .int .u8 23] 34)) (new_reads w2 [1, 23] _) (by intro x hx; simp at hx; omega) (by decide)).mono ?_
  rintro e w3 ⟨rfl, hb3⟩
  rw [kC1.1, kC1.2]
  have hc3 : Below w2.heap.size w2 w3 := ((Below.refl _ _).alloc (Nat.le_refl _) _).trans (hb3.mono (by simp))
  clear hb3
  go_wp2_with fail
  refine (write_any (some ⟨w3.heap.size, 0, none⟩) 1 [24] (w3.alloc (.cells #[.int .u8 24] 34)) (new_reads w3 [24] _) (by intro x hx; simp at hx; omega) (by decide)).mono ?_
  rintro e w4 ⟨rfl, hb4⟩
  rw [kD1]
  generalize wrS [24] = ws at *
  have hc4 : Below w2.heap.size w2 w4 := hc3.trans ((((Below.refl _ w3).alloc (Nat.le_refl _) _).trans (hb4.mono (by simp))).mono hc3.size)
  clear hb4
  go_wp2_with fail
  refine (class_any ⟨#[]⟩ w4 (by decide)).mono ?_
  rintro e w5 ⟨rfl, hb5⟩
  rw [kE1]
  have n0 : noneE 0 = 50 := by decide
  rw [n0]
  clear n0
  go_wp2_with fail
  refine (side_any ⟨#[120]⟩ w5 (by decide)).mono ?_
  rintro e w6 ⟨rfl, hb6⟩
  rw [kF1]
  generalize sideN (looseB ⟨#[120]⟩) = sn at *
  go_wp2_with fail
  refine (letter_any 0 w6).mono ?_
  rintro e w7 ⟨rfl, hw7⟩
  obtain rfl : w6 = w7 := hw7.symm
  rw [kG1.1, kG1.2]
  have hc6 : Below w2.heap.size w2 w6 := hc4.trans ((below2 hb5 hb6).mono hc4.size)
  clear hb5 hb6 hc3 hc4
  have hc6' : Below w2.heap.size w2 (w6.alloc (.cells #[.int .u8 1, .int .u8 2] 34)) := hc6.alloc hc6.size _
  have hr6 := row_belowC (unhide HR) hc6'
  have HSA := hide (sameC_yes vb (some ⟨w6.heap.size, 0, none⟩) vd 2 2 [1, 2] _ rfl (readsB_own hr6) (new_reads w6 [1, 2] 34) (by decide))
  clear hr6
  go_wp2_with fail
  refine (unhide HSA).mono ?_
  rintro e w8 ⟨rfl, hb8⟩
  have hc8 : Below w2.heap.size w2 w8 := hc6'.trans (hb8.mono hc6'.size)
  have hB8 : Below w.heap.size w w8 := hB2.trans (hc8.mono hB2.size)
  clear hb8 hc6 hc6' hc8
  go_wp2_with fail
  refine (loose_any _ w8 (by decide)).mono ?_
  rintro e w9 ⟨rfl, hb9⟩
  rw [kH1]
  go_wp2_with fail
  refine (loose_any _ w9 (by decide)).mono ?_
  rintro e w10 ⟨rfl, hb10⟩
  rw [kI1]
  go_wp2_with fail
  refine (alike_any2 _ _ w10 (by decide) (by decide)).mono ?_
  rintro e w11 ⟨rfl, hb11⟩
  rw [kJ1]
  go_wp2_with fail
  refine (awake_any w11).mono ?_
  rintro e w12 ⟨rfl, hb12⟩
  go_wp2
  go_ret
  exact ⟨rfl, below2 (below2 (below2 (below2 hB8 hb9) hb10) hb11) hb12⟩

theorem own : ownKnob Try.prog.godebug = none := by kernel_rfl
theorem laidOut : laidOutB Try.prog = true := by kernel_rfl

set_option maxRecDepth 100000 in
theorem contract (H : Type) (enc : TypeId × Value → H) (W : World) (base : Nat) (args : Array Value) (ds gs : List (DataW H)) (before : List MemPlace)
    (hval : ∀ (j : Nat) t v, Try.f12.params[j]? = some t → args[j]? = some v → Value.okWide Try.prog W .any base t v)
    (hW : DataW.Whole enc Try.prog Try.f12.params.toList Rows.wordsKnownSpec.vars false W args.toList ds gs before) :
    Calls Try.prog 12 args W fun e W' => ∃ v, e = .returned v ∧ Rows.wordsKnownSpec.post enc Try.prog Try.f12 false true false false W args v W' := by
  have hW' := hW
  obtain ⟨p, q, hA0, hV, rfl, hfz, hnd⟩ := hW
  have hA : DataW.TrodAll enc Try.prog W 0 (fun _ => true) true Try.f12.params.toList args.toList ds p := hA0
  rw [Try.params12] at hA hval
  obtain ⟨rfl, rfl, rfl⟩ := trodAll_none hA
  obtain ⟨rfl, rfl⟩ := trodVars_none hV
  clear hA0
  have hwk := walk  W 
  refine hwk.mono fun e W' ⟨he, bel⟩ => ?_
  subst he
  exact ⟨_, rfl, _, _, _, [], [], [], hW', trodAll_mk1 (shut_bool Try.underlying4 _), trodAll_mk0, rfl, bel.frame _, fun h => by cases h⟩

set_option maxRecDepth 100000 in
theorem lifted (os : Os) (started : os.Started) (H : Type) (enc : TypeId × Value → H) :
    ReturnsInHanded {} Try.checked os 12 .any (Rows.wordsKnownSpec.pre6 enc Try.prog Try.f12 Rows.wordsKnownRow.domain false) (Rows.wordsKnownSpec.post enc Try.prog Try.f12 false true false false) := by
  refine returnsInHanded_of_change (C := Try.checked) own started (by kernel_rfl) Try.func12
    (ChangeSpec.witness6 (enc := enc) (C := Try.checked) false ⟨#[], #[], []⟩ 8 (by kernel_rfl) (by kernel_rfl) (by kernel_rfl) (by kernel_rfl)) ?_
  intro W base args ds gs before hval hW hcnd _
  exact contract H enc W base args ds gs before hval hW

theorem over : Rows.wordsKnownRow.holds Try.pinned (OpenSpec.ofChange Rows.wordsKnownSpec) :=
  OpenClaim.holds_of_wide 12 Try.f12 rfl rfl rfl rfl rfl rfl rfl ⟨rfl, rfl, rfl, rfl, rfl⟩ rfl rfl rfl rfl rfl (by kernel_rfl) Try.func12 (by kernel_rfl)
    (of_decide_eq_true (by kernel_rfl)) (by unfold Func.isWrapper; first | (rw [if_pos (by decide +kernel)]; kernel_rfl) | (rw [if_neg (by decide +kernel)]; exact ⟨rfl, rfl⟩))
    (fun os started H enc _ => lifted os started H enc)

end Go.Proofs.Ytkpmcojoiijonaa.wordsKnown
namespace Go.Proofs.Ytkpmcojoiijonaa
theorem wordsKnown_holds : Rows.WordsKnownSaid := wordsKnown.over
end Go.Proofs.Ytkpmcojoiijonaa

