/-
  UtfNone: the methods of no places (a nil pointer) answer ErrNil where they answer an error, and nothing else: for every two numbers. No condition.
-/
import Derived.Test.YtgffibonikcecaaLives
import Derived.ProofKit
import Derived.OpenShut
import Derived.ShutString
import Derived.ChangeOld
namespace Go.Proofs.Ytgffibonikcecaa.utfNone
open Go.ChangeShapes Go.WideShapes Go.ChangeAt Go.RowKit Go.Shelf Go.Lib
attribute [local go_sem] Oper.semAt_some
set_option linter.unusedVariables false

theorem at_nil (w : World) (a : Int) : Calls Try.prog 39 #[.pointer none, .int .i64 a] w fun e w' => e = .returned (.tuple #[.int .i64 0, .int .i64 1]) ∧ w' = w := by
  go_enter Try.func39, Try.ntmps39
  go_wp2_with (go_at_call 61; refine (isMade_nil _).mono ?_; rintro e w' ⟨rfl, rfl⟩)
  go_ret2
  exact ⟨rfl, rfl⟩
theorem rune_nil (w : World) (a : Int) : Calls Try.prog 40 #[.pointer none, .int .i64 a] w fun e w' => e = .returned (.tuple #[.int .i32 0, .int .i64 1]) ∧ w' = w := by
  go_enter Try.func40, Try.ntmps40
  go_wp2_with (go_at_call 61; refine (isMade_nil _).mono ?_; rintro e w' ⟨rfl, rfl⟩)
  go_ret2
  exact ⟨rfl, rfl⟩
theorem slice_nil (w : World) (a b : Int) : Calls Try.prog 41 #[.pointer none, .int .i64 a, .int .i64 b] w fun e w' => e = .returned (.tuple #[.string ⟨#[]⟩, .int .i64 1]) ∧ w' = w := by
  go_enter Try.func41, Try.ntmps41
  go_wp2_with (go_at_call 61; refine (isMade_nil _).mono ?_; rintro e w' ⟨rfl, rfl⟩)
  go_ret2
  exact ⟨rfl, rfl⟩
theorem text_nil (w : World) : Calls Try.prog 43 #[.pointer none] w fun e w' => e = .returned (.string ⟨#[]⟩) ∧ w' = w := by
  go_enter Try.func43, Try.ntmps43
  go_wp2_with (go_at_call 61; refine (isMade_nil _).mono ?_; rintro e w' ⟨rfl, rfl⟩)
  go_ret
  exact ⟨rfl, rfl⟩
theorem begins_nil (w : World) (a : Int) : Calls Try.prog 45 #[.pointer none, .int .i64 a] w fun e w' => e = .returned (.bool false) ∧ w' = w := by
  go_enter Try.func45, Try.ntmps45
  go_wp2_with (go_at_call 61; refine (isMade_nil _).mono ?_; rintro e w' ⟨rfl, rfl⟩)
  go_ret
  exact ⟨rfl, rfl⟩
theorem walk_in (p : Option Addr) (a : Int) (w : World) :
    Calls Try.prog 42 #[.pointer p, .int .i64 a] w fun e w' => e = .returned (.func (.func 63) #[] #[.pointer (some ⟨w.heap.size + 1, 0, none⟩), .pointer (some ⟨w.heap.size, 0, none⟩)]) ∧ w' = (w.alloc (.cells #[.pointer p] 64)).alloc (.cells #[.int .i64 a] 3) := by
  go_enter Try.func42, Try.ntmps42
  go_wp2
  go_ret
  exact ⟨rfl, rfl⟩

set_option maxRecDepth 100000 in
set_option maxHeartbeats 1000000 in
theorem walk1_nil (n l Bp Ba : Nat) (hn : 1 ≤ n) (a : Int) (W : World) (hp : Boxed W Bp 64 (.pointer none)) (ha : Boxed W Ba 3 (.int .i64 a)) :
    CallsIn Fence.wide n Try.prog 63 #[.func (.yield l) #[] #[], .pointer (some ⟨Ba, 0, none⟩), .pointer (some ⟨Bp, 0, none⟩)] W fun e W' => (∃ v, e = .returned v) ∧ W' = W := by
  refine callsIn_of_wp Try.func63 rfl trivial ?_ rfl
  simp only [Try.ntmps63, List.size_toArray, List.length_cons, List.length_nil, Nat.reduceAdd, Nat.reduceSub, Array.replicate_succ, Array.replicate_zero, List.push_toArray, List.append_toArray, List.nil_append, List.cons_append]
  have hF : ∀ f, Fence.wide.fn f := fun _ => trivial
  have c0 := hp.cell
  have c1 := ha.cell
  gi_wp2_with (gi_at_call 44; refine (callsIn_wide.2 (len_nil _)).mono ?_; rintro e w' ⟨rfl, rfl⟩)
  all_goals
    refine bodyPost_ret (results_none rfl _ _ _) rfl ?_
    exact ⟨⟨_, rfl⟩, rfl⟩

theorem walk_stops (n Bp Ba : Nat) (hn : 1 ≤ n) (a : Int) (w : World) (hp : Boxed w Bp 64 (.pointer none)) (ha : Boxed w Ba 3 (.int .i64 a)) :
    SeqStopsK Fence.wide n Try.prog 63 #[.pointer (some ⟨Ba, 0, none⟩), .pointer (some ⟨Bp, 0, none⟩)] (fun _ : Unit => #[.int .i64 0, .int .i32 0]) KeepsWalks (fun xs => xs = []) (fun _ => False) 0 w :=
  fun l J Jx W hW hJ _ hY h0 => (walk1_nil n l Bp Ba hn a W ((hW.block Bp hp.lt).trans hp) ((hW.block Ba ha.lt).trans ha)).mono fun e W' ⟨he, hw⟩ => by
    subst hw
    exact ⟨he, .inl ⟨[], rfl, h0⟩⟩

theorem walk_some (x y : Value) (w : World) : (binOp .eql 76 (.func (.func 63) #[] #[x, y]) .nilFunc).run Try.prog w = .ok (.bool false) w := by kernel_rfl

set_option maxRecDepth 100000 in
set_option maxHeartbeats 2000000 in
theorem walk (a b : Int) (w : World) : Calls Try.prog 7 #[.int .i64 a, .int .i64 b] w fun e w' => e = .returned (.bool true) ∧ Below w.heap.size w w' := by
  refine (callsIn_wide (n := 5)).1 ?_
  refine callsIn_of_wp_marks Try.func7 rfl trivial ?_ rfl
  simp only [Try.ntmps7, List.size_toArray, List.length_cons, List.length_nil, Nat.reduceAdd, Nat.reduceSub, Array.replicate_succ, Array.replicate_zero, List.push_toArray, List.append_toArray, List.nil_append, List.cons_append]
  have hF : ∀ f, Fence.wide.fn f := fun _ => trivial
  gi_wp2_with fail
  refine (callsIn_wide.2 (lives_any _)).mono ?_
  rintro e w1 ⟨rfl, hb1⟩
  have hws := walk_some
  gi_wp2_with (first
    | (gi_at_call 38; refine (callsIn_wide.2 (byte_nil _ _)).mono ?_; rintro e w' ⟨rfl, rfl⟩)
    | (gi_at_call 39; refine (callsIn_wide.2 (at_nil _ _)).mono ?_; rintro e w' ⟨rfl, rfl⟩)
    | (gi_at_call 40; refine (callsIn_wide.2 (rune_nil _ _)).mono ?_; rintro e w' ⟨rfl, rfl⟩)
    | (gi_at_call 41; refine (callsIn_wide.2 (slice_nil _ _ _)).mono ?_; rintro e w' ⟨rfl, rfl⟩)
    | (gi_at_call 42; refine (callsIn_wide.2 (walk_in _ _ _)).mono ?_; rintro e w' ⟨rfl, rfl⟩))
  clear hws
  obtain ⟨W0, hW0⟩ : ∃ W0, ((((w'.alloc (.cells #[.int .i64 0] 3)).alloc (.cells #[.pointer none] 64)).alloc (.cells #[.int .i64 a] 3)).alloc (.cells #[.pointer none] 64)).alloc (.cells #[.int .i64 a] 3) = W0 := ⟨_, rfl⟩
  have hN : Boxed W0 w'.heap.size 3 (.int .i64 0) := by rw [← hW0]; exact ((((Boxed.new w' _ _).alloc _).alloc _).alloc _).alloc _
  have hP : Boxed W0 (w'.heap.size + 1 + 1 + 1) 64 (.pointer none) := by
    rw [← hW0]
    have := (Boxed.new (((w'.alloc (.cells #[.int .i64 0] 3)).alloc (.cells #[.pointer none] 64)).alloc (.cells #[.int .i64 a] 3)) 64 (.pointer none)).alloc (.cells #[.int .i64 a] 3)
    simpa using this
  have hA : Boxed W0 (w'.heap.size + 1 + 1 + 1 + 1) 3 (.int .i64 a) := by
    rw [← hW0]
    have := Boxed.new ((((w'.alloc (.cells #[.int .i64 0] 3)).alloc (.cells #[.pointer none] 64)).alloc (.cells #[.int .i64 a] 3)).alloc (.cells #[.pointer none] 64)) 3 (.int .i64 a)
    simpa using this
  have hB0 : Below w.heap.size w W0 := by
    rw [← hW0]
    refine hb1.trans ?_
    have : Below w'.heap.size w' (((((w'.alloc (.cells #[.int .i64 0] 3)).alloc (.cells #[.pointer none] 64)).alloc (.cells #[.int .i64 a] 3)).alloc (.cells #[.pointer none] 64)).alloc (.cells #[.int .i64 a] 3)) := by go_grown
    exact this.mono hb1.size
  have hsz : W0.heap.size = w'.heap.size + 5 := by rw [← hW0]; simp
  have hle := hb1.size
  rw [hW0]
  clear hW0
  refine wpIn_rangeFunc_ownH rfl (by omega) (gf := 63) (lb := #[.pointer (some ⟨w'.heap.size + 1 + 1 + 1 + 1, 0, none⟩), .pointer (some ⟨w'.heap.size + 1 + 1 + 1, 0, none⟩)]) rfl trivial (enters_of Try.func63 (by kernel_rfl) rfl)
    (walk_stops _ (w'.heap.size + 1 + 1 + 1) (w'.heap.size + 1 + 1 + 1 + 1) (by omega) a W0 hP hA) walksK_t walksK_b (Below.refl _ _) (fun _ => rfl)
    (fun _ W => W.heap[w'.heap.size]? = some (.cells #[.int .i64 0] 3) ∧ Below w.heap.size w W)
    (fun _ _ _ => False)
    ((own_block _ _ _ rfl).and (ownFrom_below (Nat.le_refl _) (by omega)))
    (fun _ _ _ _ _ hx _ _ => hx)
    ⟨hN, hB0⟩
    (fun _ _ _ => True) (fun _ _ _ _ _ _ _ _ _ => trivial) ?assign ?body ?done ?stop
  case assign =>
    rintro l pre x W K hi hK
    gi_wp2
    exact hK _ _ (KeepsFrom.refl _ _) (KeepsWalks.refl _) hi trivial
  case body =>
    rintro l pre x a' W _ _ _ _ hlen
    exact absurd hlen (Nat.not_lt_zero _)
  case stop =>
    rintro D c pre W _ h _ _
    exact h.elim
  case done =>
    rintro D ys W hD _ ⟨hN', hB⟩ hK
    have c0 := (show Boxed W w'.heap.size 3 (.int .i64 0) from hN').cell
    gi_wp2_with (first
      | (gi_at_call 43; refine (callsIn_wide.2 (text_nil _)).mono ?_; rintro e w'' ⟨rfl, rfl⟩)
      | (gi_at_call 44; refine (callsIn_wide.2 (len_nil _)).mono ?_; rintro e w'' ⟨rfl, rfl⟩)
      | (gi_at_call 45; refine (callsIn_wide.2 (begins_nil _ _)).mono ?_; rintro e w'' ⟨rfl, rfl⟩))
    refine (callsIn_wide.2 (lives_any _)).mono ?_
    rintro e w8 ⟨rfl, hb8⟩
    have hK' := (hb8.block D (Array.getElem?_eq_some_iff.1 hK).1).trans hK
    have hB8 : Below w.heap.size w w8 := hB.trans (hb8.mono hB.size)
    gi_wp2
    refine ⟨by simp, .inl ⟨_, _, rfl, run_takeDeferred hK', ?_⟩⟩
    exact ⟨_, results_tmp rfl _ _ _, rfl, hB8.trans (belowK_b (w := w) (Nat.le_refl _) w8 D _ _ (by omega) hK' rfl rfl)⟩

theorem own : ownKnob Try.prog.godebug = none := by kernel_rfl

set_option maxRecDepth 100000 in
theorem lifted (os : Os) (started : os.Started) (H : Type) (enc : TypeId × Value → H) :
    ReturnsInHanded {} Try.checked os 7 .any (Rows.utfNoneSpec.pre6 enc Try.prog Try.f7 Rows.utfNoneRow.domain false) (Rows.utfNoneSpec.post enc Try.prog Try.f7 false true false false) := by
  refine returnsInHanded_of_change (C := Try.checked) own started (by kernel_rfl) Try.func7
    (ChangeSpec.witness6 (enc := enc) (C := Try.checked) false ⟨#[], #[.int .i64 0, .int .i64 0], []⟩ 8 (by kernel_rfl) (by kernel_rfl) (by kernel_rfl) (by kernel_rfl)) ?_
  intro W base args ds gs before hval0 hW hcnd _
  have hval : ∀ (j : Nat) t v, Try.f7.params[j]? = some t → args[j]? = some v → Value.okWide Try.prog W .any base t v := hval0
  have hW' := hW
  obtain ⟨p, q, hA0, hV, rfl, hfz, hnd⟩ := hW
  have hA : DataW.TrodAll enc Try.prog W 0 (fun _ => true) true Try.f7.params.toList args.toList ds p := hA0
  rw [Try.params7] at hA hval
  obtain ⟨v0, vs0, d0, ds0, p0, q0, hargs, rfl, rfl, h0, r0⟩ := trodAll_cons hA
  obtain ⟨v1, vs1, d1, ds1, p1, q1, rfl, rfl, rfl, h1, r1⟩ := trodAll_cons r0
  obtain ⟨rfl, rfl, rfl⟩ := trodAll_nil r1
  obtain rfl : args = #[v0, v1] := by cases args; simp_all
  obtain ⟨rfl, rfl⟩ := trodVars_none hV
  obtain ⟨a0, rfl, rfl, rfl, w0⟩ := open_int Try.underlying3 (hval 0 3 v0 rfl rfl) h0
  obtain ⟨a1, rfl, rfl, rfl, w1⟩ := open_int Try.underlying3 (hval 1 3 v1 rfl rfl) h1
  clear hA0 hval0
  refine (walk a0 a1 W).mono fun e W' ⟨he, bel⟩ => ?_
  subst he
  exact ⟨_, rfl, _, _, _, [], _, [], hW', trodAll_mk1 (shut_bool Try.underlying4 _), (trodAll_cons_mk (shut_int Try.underlying3 w0) (trodAll_cons_mk (shut_int Try.underlying3 w1) trodAll_mk0)), rfl, bel.frame _, fun h => by cases h⟩

theorem over : Rows.utfNoneRow.holds Try.pinned (OpenSpec.ofChange Rows.utfNoneSpec) :=
  OpenClaim.holds_of_wide 7 Try.f7 rfl rfl rfl rfl rfl rfl rfl ⟨rfl, rfl, rfl, rfl, rfl⟩ rfl rfl rfl rfl rfl (by kernel_rfl) Try.func7 (by kernel_rfl)
    (of_decide_eq_true (by kernel_rfl)) (by unfold Func.isWrapper; first | (rw [if_pos (by decide +kernel)]; kernel_rfl) | (rw [if_neg (by decide +kernel)]; exact ⟨rfl, rfl⟩))
    (fun os started H enc _ => lifted os started H enc)

end Go.Proofs.Ytgffibonikcecaa.utfNone
namespace Go.Proofs.Ytgffibonikcecaa
theorem utfNone_holds : Rows.UtfNoneSaid := utfNone.over
end Go.Proofs.Ytgffibonikcecaa
