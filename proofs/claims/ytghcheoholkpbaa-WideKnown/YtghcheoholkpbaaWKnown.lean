/-
  WideKnown: the chapter's examples. No condition.
-/
import Derived.Test.YtghcheoholkpbaaWSame
import Derived.ProofKit
import Derived.OpenShut
import Derived.ShutString
import Derived.ChangeOld
namespace Go.Proofs.Ytghcheoholkpbaa.wideKnown
open Go.ChangeShapes Go.WideShapes Go.ChangeAt Go.RowKit Go.PlainAid Go.Lib
set_option linter.unusedVariables false

theorem lit_reads (w : World) (us : List Int) (cs : Array Value) (t : TypeId) (h : cs = (u16s us).toArray) : ReadsU (w.alloc (.cells cs t)) (some ⟨w.heap.size, 0, none⟩) us := by
  intro k hk
  refine ⟨_, _, rfl, ?_⟩
  subst h
  unfold World.cell?
  simp only []
  rw [heap_alloc_new]
  simp [uA, List.getD_eq_getElem?_getD, List.getElem?_eq_getElem hk]
theorem lit_runes (w : World) (us : List Int) (cs : Array Value) (t : TypeId) (h : cs = (us.map (Value.int .i32)).toArray) : Reads (w.alloc (.cells cs t)) (some ⟨w.heap.size, 0, none⟩) us := by
  intro k hk
  refine ⟨_, _, rfl, ?_⟩
  subst h
  unfold World.cell?
  simp only []
  rw [heap_alloc_new]
  simp [List.getD_eq_getElem?_getD, List.getElem?_eq_getElem hk]

abbrev sC : ByteArray := ⟨#[97, 255, 195, 169, 226, 130]⟩
theorem c1 : chkR [97, 55357, 97] = (1, 20) := by decide +kernel
theorem c2 : chkR [97, 56832] = (1, 21) := by decide +kernel
theorem c3 : chkR [55357, 56832] = (0, 0) := by decide +kernel
theorem p1 : unitR sB 2 = (0, 23) := by decide +kernel
theorem p2 : byteR sB 1 = (0, 23) := by decide +kernel
theorem u1 : units [97, 128512, 55296, -1] = [97, 55357, 56832, 65533, 65533] := by decide +kernel
theorem u2 : units (nums sC 0) = [97, 65533, 233, 65533, 65533] := by decide +kernel
theorem t1 : runesBytes (wrunes [55357, 97, 56832, 55357, 56832]) = ⟨#[239, 191, 189, 97, 239, 191, 189, 240, 159, 152, 128]⟩ := by decide +kernel
theorem s1 : hiN 128512 = 55357 ∧ loN 128512 = 56832 := by decide

set_option maxRecDepth 100000 in
set_option maxHeartbeats 4000000 in
theorem walk (w : World) : Calls Try.prog 12 #[] w fun e w' => e = .returned (.bool true) ∧ Below w.heap.size w w' := by
  have hml : (5 : Nat) ≤ maxLen := by decide
  go_enter Try.func12, Try.ntmps12
  go_wp2_with fail
  refine (split_yes 128512 _ (by decide)).mono ?_
  rintro e w1 ⟨rfl, rfl⟩
  rw [s1.1, s1.2]
  go_wp2_with fail
  refine (split_no 233 _ (by decide)).mono ?_
  rintro e w1 ⟨rfl, rfl⟩
  go_wp2_with fail
  refine (join_no 56832 55357 _ (by decide)).mono ?_
  rintro e w1 ⟨rfl, rfl⟩
  go_wp2_with fail
  refine (wcheck_any [97, 55357, 97] _ 3 _ (fits_of (by decide)) (by decide) (by decide) (by decide) (lit_reads w1 [97, 55357, 97] _ _ rfl)).mono ?_
  rintro e w2 ⟨rfl, hb2⟩
  rw [c1]
  have hB2 : Below w1.heap.size w1 w2 := below_after _ hb2 rfl
  clear hb2
  go_wp2_with fail
  refine (wcheck_any [97, 56832] _ 2 _ (fits_of (by decide)) (by decide) (by decide) (by decide) (lit_reads w2 [97, 56832] _ _ rfl)).mono ?_
  rintro e w3 ⟨rfl, hb3⟩
  rw [c2]
  have hB3 : Below w1.heap.size w1 w3 := hB2.trans ((below_after _ hb3 rfl).mono hB2.size)
  clear hb3 hB2
  go_wp2_with fail
  refine (wcheck_any [55357, 56832] _ 2 _ (fits_of (by decide)) (by decide) (by decide) (by decide) (lit_reads w3 [55357, 56832] _ _ rfl)).mono ?_
  rintro e w4 ⟨rfl, hb4⟩
  rw [c3]
  have hB4 : Below w1.heap.size w1 w4 := hB3.trans ((below_after _ hb4 rfl).mono hB3.size)
  clear hb4 hB3
  go_wp2_with fail
  refine (unitAt_in sB 2 _ (by decide) (by decide) (by decide)).mono ?_
  rintro e w5 ⟨rfl, hb5⟩
  rw [p1]
  have hB5 : Below w1.heap.size w1 w5 := hB4.trans (hb5.mono hB4.size)
  clear hb5 hB4
  go_wp2_with fail
  refine (byteAt_in sB 1 _ (by decide) (by decide)).mono ?_
  rintro e w6 ⟨rfl, hb6⟩
  rw [p2]
  have hB6 : Below w1.heap.size w1 w6 := hB5.trans (hb6.mono hB5.size)
  clear hb6 hB5
  go_wp2_with fail
  refine (read_odd 0 ⟨#[120]⟩ _ (.inl rfl) (by decide) (by decide)).mono ?_
  rintro e w7 ⟨rfl, rfl⟩
  go_wp2_with fail
  refine (fromRunes_any _ 4 [97, 128512, 55296, -1] _ (lit_runes w7 [97, 128512, 55296, -1] _ _ rfl) (by decide)).mono ?_
  rintro e w8 ⟨v8, rfl, hrow8, hb8⟩
  rw [u1] at hrow8
  obtain ⟨a8, c8, rfl⟩ := row_is hrow8
  have hB8 : Below w1.heap.size w1 w8 := hB6.trans ((below_after _ hb8 rfl).mono hB6.size)
  have HR8 := hide (readsU_own (n := 5) hrow8)
  clear hb8 hB6 hrow8
  go_wp2_with fail
  refine (sameU_any a8 _ c8 5 [97, 55357, 56832, 65533, 65533] [97, 55357, 56832, 65533, 65533] _ ((unhide HR8).below (by go_grown)) (lit_reads w8 [97, 55357, 56832, 65533, 65533] _ _ rfl) (by decide)).mono ?_
  rintro e w9 ⟨rfl, hb9⟩
  have hB9 : Below w1.heap.size w1 w9 := hB8.trans ((below_after _ hb9 rfl).mono hB8.size)
  clear hb9 hB8 HR8
  have hdd : decide ([(97 : Int), 55357, 56832, 65533, 65533] = [97, 55357, 56832, 65533, 65533]) = true := by decide
  rw [hdd]
  go_wp2_with fail
  refine (fromText_any sC _ (by decide)).mono ?_
  rintro e w10 ⟨v10, rfl, hrow10, hb10⟩
  rw [u2] at hrow10
  obtain ⟨a10, c10, rfl⟩ := row_is hrow10
  have hB10 : Below w1.heap.size w1 w10 := hB9.trans (hb10.mono hB9.size)
  have HR10 := hide (readsU_own (n := 5) hrow10)
  clear hb10 hB9 hrow10
  go_wp2_with fail
  refine (sameU_any a10 _ c10 5 [97, 65533, 233, 65533, 65533] [97, 65533, 233, 65533, 65533] _ ((unhide HR10).below (by go_grown)) (lit_reads w10 [97, 65533, 233, 65533, 65533] _ _ rfl) (by decide)).mono ?_
  rintro e w11 ⟨rfl, hb11⟩
  have hB11 : Below w1.heap.size w1 w11 := hB10.trans ((below_after _ hb11 rfl).mono hB10.size)
  clear hb11 hB10 HR10
  have hdd2 : decide ([(97 : Int), 65533, 233, 65533, 65533] = [97, 65533, 233, 65533, 65533]) = true := by decide
  rw [hdd2]
  go_wp2_with fail
  refine (wtext_any [55357, 97, 56832, 55357, 56832] _ 5 _ (fits_of (by decide)) (by decide) (by decide) hml (lit_reads w11 [55357, 97, 56832, 55357, 56832] _ _ rfl)).mono ?_
  rintro e w12 ⟨rfl, hb12⟩
  rw [t1]
  have hB12 : Below w1.heap.size w1 w12 := hB11.trans ((below_after _ hb12 rfl).mono hB11.size)
  clear hb12 hB11
  go_wp2_with fail
  refine (awake_any _).mono ?_
  rintro e w13 ⟨rfl, hb13⟩
  go_wp2
  go_ret
  exact ⟨rfl, hB12.trans (hb13.mono hB12.size)⟩

theorem own : ownKnob Try.prog.godebug = none := by kernel_rfl

set_option maxRecDepth 100000 in
theorem lifted (os : Os) (started : os.Started) (H : Type) (enc : TypeId × Value → H) :
    ReturnsInHanded {} Try.checked os 12 .any (Rows.wideKnownSpec.pre6 enc Try.prog Try.f12 Rows.wideKnownRow.domain false) (Rows.wideKnownSpec.post enc Try.prog Try.f12 false true false false) := by
  refine returnsInHanded_of_change (C := Try.checked) own started (by kernel_rfl) Try.func12
    (ChangeSpec.witness6 (enc := enc) (C := Try.checked) false ⟨#[], #[], []⟩ 8 (by kernel_rfl) (by kernel_rfl) (by kernel_rfl) (by kernel_rfl)) ?_
  intro W base args ds gs before hval0 hW hcnd _
  have hW' := hW
  obtain ⟨p, q, hA0, hV, rfl, hfz, hnd⟩ := hW
  have hA : DataW.TrodAll enc Try.prog W 0 (fun _ => true) true Try.f12.params.toList args.toList ds p := hA0
  rw [Try.params12] at hA
  obtain ⟨rfl, rfl, rfl⟩ := trodAll_none hA
  obtain ⟨rfl, rfl⟩ := trodVars_none hV
  clear hA0 hval0
  refine (walk W).mono fun e W' ⟨he, bel⟩ => ?_
  subst he
  exact ⟨_, rfl, _, _, _, [], [], [], hW', trodAll_mk1 (shut_bool Try.underlying4 _), trodAll_mk0, rfl, bel.frame _, fun h => by cases h⟩

theorem over : Rows.wideKnownRow.holds Try.pinned (OpenSpec.ofChange Rows.wideKnownSpec) :=
  OpenClaim.holds_of_wide 12 Try.f12 rfl rfl rfl rfl rfl rfl rfl ⟨rfl, rfl, rfl, rfl, rfl⟩ rfl rfl rfl rfl rfl (by kernel_rfl) Try.func12 (by kernel_rfl)
    (of_decide_eq_true (by kernel_rfl)) (by unfold Func.isWrapper; first | (rw [if_pos (by decide +kernel)]; kernel_rfl) | (rw [if_neg (by decide +kernel)]; exact ⟨rfl, rfl⟩))
    (fun os started H enc _ => lifted os started H enc)

end Go.Proofs.Ytghcheoholkpbaa.wideKnown
namespace Go.Proofs.Ytghcheoholkpbaa
theorem wideKnown_holds : Rows.WideKnownSaid := wideKnown.over
end Go.Proofs.Ytghcheoholkpbaa
