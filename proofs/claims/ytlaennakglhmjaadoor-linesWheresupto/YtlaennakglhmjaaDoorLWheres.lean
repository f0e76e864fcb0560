/-
  LinesWheres: the line and the column of a place in bytes are the document's, for every place and every text of at most 1048574 bytes; the listed variables of Go's library hold what its text lays.
-/
import Derived.Test.YtlaennakglhmjaaDoorRWhere
import Derived.Test.YtlaennakglhmjaaDoorLUpto
namespace Go.Proofs.YtlaennakglhmjaaDoor
open Go.RowKit Go.PlainAid Go.Lib Go.Shelf
attribute [local go_sem] Oper.semAt_some
set_option linter.unusedVariables false

set_option maxRecDepth 100000 in
theorem refWhere_out (s : ByteArray) (b : Int) (w : World) (hs : s.size ≤ 1099511627776) (hb : b < 0 ∨ (s.size : Int) < b) :
    Calls Tryd.prog 28 #[.string s, .int .i64 b] w fun e w' => e = .returned (.tuple #[.int .i64 0, .int .i64 0]) ∧ Below w.heap.size w w' := by
  by_cases h0 : b < 0
  · have d1 : decide (b < 0) = true := decide_eq_true h0
    go_enter Tryd.func28, Tryd.ntmps28
    go_wp2
    go_ret2
    exact ⟨rfl, Below.refl _ _⟩
  · have d1 : decide (b < 0) = false := decide_eq_false h0
    have d2 : decide ((s.size : Int) < b) = true := decide_eq_true (by omega)
    have d2' : (s.size : Int) < b := by omega
    go_enter Tryd.func28, Tryd.ntmps28
    go_wp2
    go_ret2
    exact ⟨rfl, Below.refl _ _⟩

set_option maxRecDepth 100000 in
set_option maxHeartbeats 1000000 in
theorem where_out (s : ByteArray) (b : Int) (w : World) (hs : s.size ≤ 1099511627776) (hb : b < 0 ∨ (s.size : Int) < b) :
    Calls Tryd.prog 27 #[.string s, .int .i64 b] w fun e w' => e = .returned (.tuple #[.int .i64 0, .int .i64 0]) ∧ Below w.heap.size w w' := by
  refine (callsIn_wide (n := 12)).1 ?_
  refine callsIn_of_wp_marks Tryd.func27 rfl trivial ?_ rfl
  simp only [Tryd.ntmps27, List.size_toArray, List.length_cons, List.length_nil, Nat.reduceAdd, Nat.reduceSub, Array.replicate_succ, Array.replicate_zero, List.push_toArray, List.append_toArray, List.nil_append, List.cons_append]
  have hF : ∀ f, Fence.wide.fn f := fun _ => trivial
  by_cases h0 : b < 0
  · have d1 : decide (b < 0) = true := decide_eq_true h0
    gi_wp2
    have r1 : Boxed (((w.alloc (Obj.cells #[Value.int IntKind.i64 b] 3)).alloc (Obj.cells #[Value.int IntKind.i64 0] 3)).alloc (Obj.cells #[Value.int IntKind.i64 0] 3)) (w.heap.size + 1) 3 (.int .i64 0) := by simpa [Boxed] using (Boxed.new (w.alloc (Obj.cells #[Value.int IntKind.i64 b] 3)) 3 (.int .i64 0)).alloc (Obj.cells #[Value.int IntKind.i64 0] 3)
    have r2 : Boxed (((w.alloc (Obj.cells #[Value.int IntKind.i64 b] 3)).alloc (Obj.cells #[Value.int IntKind.i64 0] 3)).alloc (Obj.cells #[Value.int IntKind.i64 0] 3)) (w.heap.size + 1 + 1) 3 (.int .i64 0) := by simpa [Boxed] using Boxed.new ((w.alloc (Obj.cells #[Value.int IntKind.i64 b] 3)).alloc (Obj.cells #[Value.int IntKind.i64 0] 3)) 3 (.int .i64 0)
    have hB : Below w.heap.size w (((w.alloc (Obj.cells #[Value.int IntKind.i64 b] 3)).alloc (Obj.cells #[Value.int IntKind.i64 0] 3)).alloc (Obj.cells #[Value.int IntKind.i64 0] 3)) := by go_grown
    have r1c := r1.cell
    have r2c := r2.cell
    generalize ((w.alloc (Obj.cells #[Value.int IntKind.i64 b] 3)).alloc (Obj.cells #[Value.int IntKind.i64 0] 3)).alloc (Obj.cells #[Value.int IntKind.i64 0] 3) = W at *
    exact ⟨.tuple #[.int .i64 0, .int .i64 0], by simp [results, Tryd.f27, go_sem, r1c, r2c], rfl, hB⟩
  · have d1 : decide (b < 0) = false := decide_eq_false h0
    have d2 : decide ((s.size : Int) < b) = true := decide_eq_true (by omega)
    have d2' : (s.size : Int) < b := by omega
    gi_wp2
    have r1 : Boxed (((w.alloc (Obj.cells #[Value.int IntKind.i64 b] 3)).alloc (Obj.cells #[Value.int IntKind.i64 0] 3)).alloc (Obj.cells #[Value.int IntKind.i64 0] 3)) (w.heap.size + 1) 3 (.int .i64 0) := by simpa [Boxed] using (Boxed.new (w.alloc (Obj.cells #[Value.int IntKind.i64 b] 3)) 3 (.int .i64 0)).alloc (Obj.cells #[Value.int IntKind.i64 0] 3)
    have r2 : Boxed (((w.alloc (Obj.cells #[Value.int IntKind.i64 b] 3)).alloc (Obj.cells #[Value.int IntKind.i64 0] 3)).alloc (Obj.cells #[Value.int IntKind.i64 0] 3)) (w.heap.size + 1 + 1) 3 (.int .i64 0) := by simpa [Boxed] using Boxed.new ((w.alloc (Obj.cells #[Value.int IntKind.i64 b] 3)).alloc (Obj.cells #[Value.int IntKind.i64 0] 3)) 3 (.int .i64 0)
    have hB : Below w.heap.size w (((w.alloc (Obj.cells #[Value.int IntKind.i64 b] 3)).alloc (Obj.cells #[Value.int IntKind.i64 0] 3)).alloc (Obj.cells #[Value.int IntKind.i64 0] 3)) := by go_grown
    have r1c := r1.cell
    have r2c := r2.cell
    generalize ((w.alloc (Obj.cells #[Value.int IntKind.i64 b] 3)).alloc (Obj.cells #[Value.int IntKind.i64 0] 3)).alloc (Obj.cells #[Value.int IntKind.i64 0] 3) = W at *
    exact ⟨.tuple #[.int .i64 0, .int .i64 0], by simp [results, Tryd.f27, go_sem, r1c, r2c], rfl, hB⟩
/-- both answers, one and the same -/
theorem where_both (s : ByteArray) (b : Int) (hs : s.size ≤ 1099511627776) : ∃ l c : Int, (∀ w, Calls Tryd.prog 27 #[.string s, .int .i64 b] w fun e w' => e = .returned (.tuple #[.int .i64 l, .int .i64 c]) ∧ Below w.heap.size w w') ∧
    (∀ w, Calls Tryd.prog 28 #[.string s, .int .i64 b] w fun e w' => e = .returned (.tuple #[.int .i64 l, .int .i64 c]) ∧ Below w.heap.size w w') := by
  by_cases h : 0 ≤ b ∧ b ≤ (s.size : Int)
  · exact ⟨_, _, fun w => where_any s b w hs h.1 h.2, fun w => refWhere_any s b w hs h.1 h.2⟩
  · exact ⟨_, _, fun w => where_out s b w hs (by omega), fun w => refWhere_out s b w hs (by omega)⟩
end Go.Proofs.YtlaennakglhmjaaDoor
namespace Go.Proofs.YtlaennakglhmjaaDoor.linesWheres
open Go.ChangeShapes Go.WideShapes Go.ChangeAt Go.RowKit
open Go.ChangeMaps (open_string shut_string)
set_option linter.unusedVariables false

set_option maxRecDepth 100000 in
theorem walk (s : ByteArray) (b : Int) (w : World) (hg : errTypeAt w) (hs : s.size ≤ 1048576) :
    Calls Tryd.prog 7 #[.string s, .int .i64 b] w fun e w' => e = .returned (.bool true) ∧ Below w.heap.size w w' := by
  obtain ⟨A, B, H1, H2⟩ := where_both s b (by omega)
  have h1 := hide H1
  have h2 := hide H2
  clear H1 H2
  go_enter Tryd.func7, Tryd.ntmps7
  go_wp2_with fail
  refine (unhide h1 _).mono ?_
  rintro e w1 ⟨rfl, hb1⟩
  go_wp2_with fail
  refine (unhide h2 _).mono ?_
  rintro e w2 ⟨rfl, hb2⟩
  have hg2 := hide (errType_below (errType_below hg hb1) hb2)
  have hB := hb1.trans (hb2.mono hb1.size)
  clear hb1 hb2
  go_wp2_with (go_at_call 13; refine (awake_any _ (unhide hg2)).mono ?_; rintro e w3 ⟨rfl, hb3⟩)
  go_ret
  exact ⟨rfl, hB.trans (hb3.mono hB.size)⟩

theorem laidOut : laidOutB Tryd.prog = true := by kernel_rfl

set_option maxRecDepth 100000 in
theorem contract (H : Type) (enc : TypeId × Value → H) (W : World) (base : Nat) (args : Array Value) (ds gs : List (DataW H)) (before : List MemPlace)
    (hval : ∀ (j : Nat) t v, Tryd.f7.params[j]? = some t → args[j]? = some v → Value.okWide Tryd.prog W .any base t v)
    (hW : DataW.Whole enc Tryd.prog Tryd.f7.params.toList Rows.linesWheresSpec.vars false W args.toList ds gs before) (hk : Rows.uptoSmall H (ds ++ gs) = true) (hL : laidMetH Tryd.prog laid3 W) :
    Calls Tryd.prog 7 args W fun e W' => ∃ v, e = .returned v ∧ Rows.linesWheresSpec.post enc Tryd.prog Tryd.f7 false true false false W args v W' := by
  have hW' := hW
  obtain ⟨p, q, hA0, hV, rfl, hfz, hnd⟩ := hW
  have hA : DataW.TrodAll enc Tryd.prog W 0 (fun _ => true) true Tryd.f7.params.toList args.toList ds p := hA0
  rw [Tryd.params7] at hA hval
  obtain ⟨v0, vs0, d0, ds0, p0, q0, hargs, rfl, rfl, h0, r0⟩ := trodAll_cons hA
  obtain ⟨v1, vs1, d1, ds1, p1, q1, rfl, rfl, rfl, h1, r1⟩ := trodAll_cons r0
  obtain ⟨rfl, rfl, rfl⟩ := trodAll_nil r1
  obtain rfl : args = #[v0, v1] := by cases args; simp_all
  obtain ⟨rfl, rfl⟩ := trodVars_none hV
  obtain ⟨a0, rfl, rfl, rfl, w0⟩ := open_string Tryd.underlying9 (hval 0 9 v0 rfl rfl) h0
  obtain ⟨a1, rfl, hd1, rfl, w1⟩ := open_int Tryd.underlying3 (hval 1 3 v1 rfl rfl) h1
  have hk' : Rows.uptoSmall H [.lit (.string a0.data.toList), d1] = true := hk
  have hb := bulk_bound hk'
  simp only [Rows.uptoBulkAll] at hb
  rw [bulk_string a0] at hb
  have c0 : a0.size ≤ 1048576 := by omega
  clear hA0
  have hwk := walk a0 a1 W (errType_of_laid hL) c0
  subst hd1
  refine hwk.mono fun e W' ⟨he, bel⟩ => ?_
  subst he
  exact ⟨_, rfl, _, _, _, [], _, [], hW', trodAll_mk1 (shut_bool Tryd.underlying4 _), (trodAll_cons_mk (shut_string Tryd.underlying9 w0) (trodAll_cons_mk (shut_int Tryd.underlying3 w1) trodAll_mk0)), rfl, bel.frame _, fun h => by cases h⟩

set_option maxRecDepth 100000 in
theorem lifted (os : Os) (started : os.Started) (H : Type) (enc : TypeId × Value → H) (F : Stop.Interp) :
    ReturnsInHanded {} Tryd.checked os 7 .any ((Rows.OpenSpec.upto Rows.linesWheresSpec).preRow enc Tryd.prog Tryd.f7 Rows.linesWheresUptoRow.domain false Rows.linesWheresUptoRow.laid) (((Rows.OpenSpec.upto Rows.linesWheresSpec).at F).post enc Tryd.prog Tryd.f7 false true false false) := by
  refine returnsInHanded_of_row (C := Tryd.checked) (s := Rows.OpenSpec.upto Rows.linesWheresSpec) own3 started (by kernel_rfl) Tryd.func7
    (witness_row_shaped (enc := enc) (C := Tryd.checked) (witW os) #[.string ByteArray.empty, .int .i64 0] (witW_os os) (World.shaped_of_ZipB (by kernel_rfl) (by kernel_rfl)) (by kernel_rfl)
      (OpenSpec.preRow_of_cond 8 (x := ([.lit (.string []), .lit (.int .i64 0)], [], [])) (by kernel_rfl) (by kernel_rfl) (fun k hk => by cases hk; kernel_rfl) (by kernel_rfl) (laidMetH_of_parts (laidMet_over _ (by kernel_rfl) (by kernel_rfl)) (by kernel_rfl)))) ?_
  intro W base args ds gs before hval hW _ hcond _ hL _ _
  exact contract H enc W base args ds gs before hval hW (hcond _ rfl) hL

theorem over : Rows.LinesWheresUptoSaid :=
  OpenClaim.holds_of_cond 7 Tryd.f7 rfl rfl rfl rfl rfl rfl rfl ⟨rfl, rfl, rfl, rfl, rfl⟩ rfl rfl rfl rfl rfl (by kernel_rfl) Tryd.func7 (by kernel_rfl)
    (of_decide_eq_true (by kernel_rfl)) (by unfold Func.isWrapper; first | (rw [if_pos (by decide +kernel)]; kernel_rfl) | (rw [if_neg (by decide +kernel)]; exact ⟨rfl, rfl⟩))
    (fun os started H enc _ F => by rw [OpenClaim.pre_eq_preRow]; exact lifted os started H enc F)

end Go.Proofs.YtlaennakglhmjaaDoor.linesWheres
namespace Go.Proofs.YtlaennakglhmjaaDoor
theorem linesWheres_uptocard : Rows.LinesWheresUptoCardSaid :=
  Claim7.holds_tied_plain_at .later [] [.data, .handle, .pinned] true _ true linesWheres.over (fun _ h => by cases h) (by kernel_rfl) (fun _ h => by cases h) linesWheresUpto_row_tie rfl ⟨rfl, rfl⟩ (by kernel_rfl) rfl
    (fun f fn hf hfn => by
      obtain rfl : f = 7 := Option.some.inj ((show Tryd.prog.funcNamed Rows.linesWheresUptoRow.func = some 7 by kernel_rfl).symm.trans hf) |>.symm
      obtain rfl : fn = Tryd.f7 := (Option.some.inj (Tryd.func7.symm.trans hfn)).symm
      refine ⟨by kernel_rfl, fun j t ht => ?_⟩
      rw [Tryd.params7] at ht
      have hm := Array.mem_of_getElem? ht
      have hm' : t ∈ [9, 3] := Array.mem_toList_iff.2 hm
      simp only [List.mem_cons, List.not_mem_nil, or_false] at hm'
      rcases hm' with rfl | rfl
      · exact (show Tryd.prog.wantsStandIn 9 = false by kernel_rfl)
      · exact (show Tryd.prog.wantsStandIn 3 = false by kernel_rfl))
    (by kernel_rfl)
end Go.Proofs.YtlaennakglhmjaaDoor

