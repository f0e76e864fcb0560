/-
  A table that is nil: what it is asked; ClassesNone.
-/
import Derived.Test.YtlgolaoabgmijaaGreatDoorNi
import Derived.Test.YtlgolaoabgmijaaGreatDoorAl
import Derived.Test.YtlgolaoabgmijaaGreatDoorRs
import Derived.Lib.OthersKept
namespace Go.Proofs.YtlgolaoabgmijaaGreatDoor
open Go.RowKit Go.PlainAid Go.Lib Go.PHexM Go.Shelf Go.PRow Go.Seq4 Go.Seq6
attribute [local go_sem] Oper.semAt_some
set_option linter.unusedVariables false
set_option linter.unusedSimpArgs false

set_option maxRecDepth 100000 in
theorem given7_nil (r : Int) (W : World) :
    Calls Tryz.prog 14 #[.pointer none, .int .i32 r] W fun e w' => e = .returned (.tuple #[.int .u8 0, .bool false]) ∧ Below W.heap.size W w' := by
  have HH := hide (held7_nil W)
  have HA := hide (fun V => VN.at_nil (known7 r) V)
  have HK := hide (fun V => known7_any r V)
  have fd := field7_0
  generalize known7 r = kr at *
  go_enter Tryz.func14, Tryz.ntmps14
  go_wp2_with fail
  refine (unhide HH).mono ?_
  rintro e w1 ⟨rfl, hb1⟩
  go_wp2_with fail
  refine (unhide HK _).mono ?_
  rintro e w2 ⟨rfl, hw2⟩
  obtain rfl : w1 = w2 := hw2.symm
  go_wp2_with fail
  refine (unhide HA _).mono ?_
  rintro e w3 ⟨rfl, hb3⟩
  go_wp2
  go_ret2
  exact ⟨rfl, (hb1.trans (hb3.mono hb1.size)).alloc (Nat.le_trans hb1.size hb3.size) _⟩
set_option maxRecDepth 100000 in
theorem line7_nil (r : Int) (W : World) :
    Calls Tryz.prog 16 #[.pointer none, .int .i32 r] W fun e w' => e = .returned (.int .i64 0) ∧ Below W.heap.size W w' := by
  have HH := hide (held7_nil W)
  have HA := hide (fun V => VN.at_nil (known7 r) V)
  have HK := hide (fun V => known7_any r V)
  have fd := field7_0
  generalize known7 r = kr at *
  go_enter Tryz.func16, Tryz.ntmps16
  go_wp2_with fail
  refine (unhide HH).mono ?_
  rintro e w1 ⟨rfl, hb1⟩
  go_wp2_with fail
  refine (unhide HK _).mono ?_
  rintro e w2 ⟨rfl, hw2⟩
  obtain rfl : w1 = w2 := hw2.symm
  go_wp2_with fail
  refine (unhide HA _).mono ?_
  rintro e w3 ⟨rfl, hb3⟩
  go_wp2
  go_ret
  exact ⟨rfl, (hb1.trans (hb3.mono hb1.size)).alloc (Nat.le_trans hb1.size hb3.size) _⟩
set_option maxRecDepth 100000 in
theorem class7_nil (r : Int) (W : World) :
    Calls Tryz.prog 17 #[.pointer none, .int .i32 r] W fun e w' => e = .returned (.int .u8 0) ∧ Below W.heap.size W w' := by
  have HG := hide (given7_nil r W)
  have HH := hide (fun V => held7_nil V)
  have HA := hide (fun V => VC.at_nil (known7 r) V)
  have HK := hide (fun V => known7_any r V)
  have fd := field7_1
  generalize known7 r = kr at *
  go_enter Tryz.func17, Tryz.ntmps17
  go_wp2_with fail
  refine (unhide HG).mono ?_
  rintro e w1 ⟨rfl, hb1⟩
  go_wp2_with fail
  refine (unhide HH _).mono ?_
  rintro e w2 ⟨rfl, hb2⟩
  have hb12 := hb1.trans (hb2.mono hb1.size)
  go_wp2_with fail
  refine (unhide HK _).mono ?_
  rintro e w3 ⟨rfl, hw3⟩
  obtain rfl : w2 = w3 := hw3.symm
  go_wp2_with fail
  refine (unhide HA _).mono ?_
  rintro e w4 ⟨rfl, hb4⟩
  go_wp2
  go_ret
  exact ⟨rfl, hb12.trans (hb4.mono hb12.size)⟩
theorem eqNilM (n c : Nat) (w : World) : (binOp .eql 42 (.slice none n c) (.slice none 0 0)).run Tryz.prog w = .ok (.bool true) w := by kernel_rfl
theorem cloneM_nil (w : World) :
    Calls Tryz.prog 39 #[.slice none 0 0] w fun e w' => e = .returned (.slice none 0 0) ∧ w' = w := by
  have hqn := eqNilM
  go_enter Tryz.func39, Tryz.ntmps39
  go_wp2
  all_goals go_ret
  all_goals exact ⟨rfl, rfl⟩
theorem missing_nil (w : World) :
    Calls Tryz.prog 19 #[.pointer none] w fun e w' => e = .returned (.slice none 0 0) ∧ Below w.heap.size w w' := by
  have HH := hide (held7_nil w)
  have fd := field7_2
  go_enter Tryz.func19, Tryz.ntmps19
  go_wp2_with fail
  refine (unhide HH).mono ?_
  rintro e w1 ⟨rfl, hb1⟩
  go_wp2_with fail
  refine (cloneM_nil _).mono ?_
  rintro e w2 ⟨rfl, rfl⟩
  go_wp2
  go_ret
  exact ⟨rfl, hb1⟩
theorem isBF_kept7 {T e : TypeId} {B b : Nat} {bs : List Value} {w w' : World} (h : Lib.IsBuilderF T e B b bs w) (hk : ∀ k (o : Obj), w.heap[k]? = some o → o.isCells = true → B ≤ k → w'.heap[k]? = some o) : Lib.IsBuilderF T e B b bs w' := by
  have one : ∀ p, Lib.BuilderAtF T e B b p bs w → Lib.BuilderAtF T e B b p bs w' := by
    rintro p ⟨hB, v, hb, ho, hne⟩
    refine ⟨hB, v, hk b _ hb rfl hB, ⟨ho.1, ho.2.imp id ?_⟩, hne⟩
    rintro ⟨g, cap, cur, fz, rfl, hb', hg, hr⟩
    exact ⟨g, cap, cur, fz, rfl, hb', hk g _ hg rfl hb', hr⟩
  exact h.imp (one _) (one _)

set_option maxRecDepth 100000 in
set_option maxHeartbeats 1000000 in
theorem write7_nil (w : World) : Calls Tryz.prog 25 #[.pointer none] w fun e w' => e = .returned (.string ⟨#[]⟩) ∧ Below w.heap.size w w' := by
  obtain ⟨Wa, hWa⟩ : ∃ Wa, w.alloc (.cells #[.pointer none, .slice none 0 0] 102) = Wa := ⟨_, rfl⟩
  have hba : Below w.heap.size w Wa := by rw [← hWa]; exact (Below.refl _ w).alloc (Nat.le_refl _) _
  have hsa : w.heap.size + 1 ≤ Wa.heap.size := by rw [← hWa]; simp
  have bla : Wa.heap[w.heap.size]? = some (.cells #[.pointer none, .slice none 0 0] 102 (0, 0)) := by rw [← hWa]; exact heap_alloc_new w _
  have HH := hide (held7_nil Wa)
  have fd := field7_2
  refine (callsIn_wide (n := 12)).1 ?_
  refine callsIn_of_wp_marks Tryz.func25 rfl trivial ?_ rfl
  simp only [Tryz.ntmps25, List.size_toArray, List.length_cons, List.length_nil, Nat.reduceAdd, Nat.reduceSub, Array.replicate_succ, Array.replicate_zero, List.push_toArray, List.append_toArray, List.nil_append, List.cons_append]
  have hF : ∀ f, Fence.wide.fn f := fun _ => trivial
  gi_wp2_with fail
  clear hWa
  refine (callsIn_wide.2 (unhide HH)).mono ?_
  rintro e W2 ⟨rfl, hb2⟩
  gi_wp2_with fail
  refine wpIn_loop_once ?_
  gi_wp2_with (gi_at_call 40; with_reducible refine CallsIn.mono (callsIn_wide.2 (named_nil_in _)) ?_; rintro e V7 ⟨rfl, rfl⟩)
  obtain ⟨W0, hW0⟩ : ∃ W0, W2.alloc (.cells #[.pointer none] 25) = W0 := ⟨_, rfl⟩
  have hb20 : Below W2.heap.size W2 W0 := by rw [← hW0]; exact (Below.refl _ W2).alloc (Nat.le_refl _) _
  have bx : W0.heap[W2.heap.size]? = some (.cells #[.pointer none] 25 (0, 0)) := by rw [← hW0]; exact heap_alloc_new W2 _
  have hbw : Below w.heap.size w W0 := (hba.trans (hb2.mono hba.size)).trans (hb20.mono (by have := hba.size; have := hb2.size; omega))
  have hB0 : Lib.IsBuilderF 102 5 w.heap.size w.heap.size (Lib.byteCells []) W0 := .inl ⟨Nat.le_refl _, _, (hb20.block _ (by have := hb2.size; omega)).trans ((hb2.block _ (by omega)).trans bla), ⟨rfl, .inl ⟨rfl, rfl⟩⟩, by simp [Value.ownBlock]⟩
  rw [hW0]
  clear hW0
  refine range6B (by omega) (gf := 74) (lb := #[.pointer (some ⟨W2.heap.size, 0, none⟩)]) rfl (enters_of Tryz.func74 (by kernel_rfl) rfl)
    (named_nil_gives _ W2.heap.size (by omega) W0 bx) (Below.refl _ _) (fun _ => rfl)
    (fun m pre V => Lib.IsBuilderF 102 5 w.heap.size w.heap.size (Lib.byteCells []) V ∧ Below w.heap.size w V) (fun _ _ _ => False)
    (fun m s A C row h hg hr => ⟨isBF_kept7 h.1 fun k o ho hc _ => (grownBy_keeps_cells hg (fun r e => (hr r e).2) ho hc).trans ho, ownFrom_below (β := Unit) (Nat.le_refl _) hbw.size () A C row h.2 hg hr⟩) (fun c _ _ _ _ h _ _ => h) (fun m => ⟨hB0, hbw⟩)
    (fun x => .cells #[.int .i32 x.lo, .int .i32 x.hi] 45 (0, 0)) (fun _ => rfl) ?fr ?assign ?body ?done ?stop
  case assign =>
    intro l2 x V K hK
    gi_wp2
    generalize hBx : V.heap.size = Bx
    exact hK Bx hBx.symm
  case body =>
    rintro m l2 pre x Bx V hl hsz2 ⟨r, hr⟩ h hx1 hx2 hSp
    exfalso
    rw [namedN_nil] at hSp
    obtain ⟨tl, ht⟩ := hSp
    simp at ht
  case done =>
    rintro D m xs V hD hS ⟨e3, e9⟩ hK
    have HSS := hide (Tryz.Builder_String_any_k w.heap.size w.heap.size [] V e3 e9.size)
    clear bla
    gi_wp2_with (gi_at_call 47; with_reducible refine CallsIn.mono (callsIn_wide.2 (unhide HSS)) ?_; rintro e w5 ⟨rfl, _, hb5, ho5⟩)
    have hKX : w5.heap[D]? = some (.deferred (some [])) := ho5 D _ hK (by simp; have := hbw.size; have := hba.size; have := hb2.size; have := hb20.size; omega) (fun c fz e => by cases e)
    refine ⟨by simp, .inl ⟨_, _, rfl, run_takeDeferred hKX, ?_⟩⟩
    have hbX := e9.trans hb5
    refine ⟨_, results_tmp rfl _ _ _, rfl, below_put hbX (by have := hbw.size; omega) _⟩
  case stop =>
    rintro D c pre V hD hSp h hK
    exact h.elim

theorem nilT7 {V : World} {B : Nat} {u : Value} (h : VT.RowP V B u []) : ∃ a c, u = .slice a 0 c := by
  obtain ⟨a, c, e, _⟩ := VT.RowP.form h
  exact ⟨a, c, e⟩
set_option maxRecDepth 100000 in
set_option maxHeartbeats 4000000 in
theorem none_walk (r : Int) (w : World) (hm : MaxAt w) :
    Calls Tryz.prog 4 #[.int .i32 r] w fun e w' => e = .returned (.bool true) ∧ Below w.heap.size w w' := by
  have HA := hide (fun V (hV : Below w.heap.size w V) => awake7_any V (hm.below hV))
  have HG := hide (fun V => given7_nil r V)
  have HC := hide (fun V => class7_nil r V)
  have HL := hide (fun V => line7_nil r V)
  have HTN := hide (fun V => @told_named_nil V (-1))
  have HTW := hide (fun V => @told_whole_nil V (-1))
  have HM := hide (fun V => missing_nil V)
  have HW := hide (fun V => write7_nil V)
  have etk : ∀ l, tookP (-1) l = l := fun l => rfl
  rw [etk, namedN_nil] at HTN
  rw [etk, wholeN_nil] at HTW
  clear hm etk
  go_enter Tryz.func4, Tryz.ntmps4
  go_wp2_with fail
  refine (unhide HG _).mono ?_
  rintro e w1 ⟨rfl, hb1⟩
  go_wp2_with fail
  refine (unhide HC _).mono ?_
  rintro e w2 ⟨rfl, hb2⟩
  have h2 := hb1.trans (hb2.mono hb1.size)
  go_wp2_with fail
  refine (unhide HL _).mono ?_
  rintro e w3 ⟨rfl, hb3⟩
  have h3 := h2.trans (hb3.mono h2.size)
  go_wp2_with fail
  refine (unhide HTN _).mono ?_
  rintro e w4 ⟨u4, rfl, hu4, hb4⟩
  obtain ⟨a4, c4, rfl⟩ := nilT7 hu4
  have h4 := h3.trans (hb4.mono h3.size)
  go_wp2_with fail
  refine (unhide HTW _).mono ?_
  rintro e w5 ⟨u5, rfl, hu5, hb5⟩
  obtain ⟨a5, c5, rfl⟩ := nilT7 hu5
  have h5 := h4.trans (hb5.mono h4.size)
  go_wp2_with fail
  refine (unhide HM _).mono ?_
  rintro e w6 ⟨rfl, hb6⟩
  have h6 := h5.trans (hb6.mono h5.size)
  go_wp2_with fail
  refine (unhide HW _).mono ?_
  rintro e w7 ⟨rfl, hb7⟩
  have h7 := h6.trans (hb7.mono h6.size)
  go_wp2_with fail
  refine (unhide HA _ h7).mono ?_
  rintro e w8 ⟨rfl, hb8⟩
  have h8 := h7.trans (hb8.mono h7.size)
  go_wp2
  go_ret
  exact ⟨rfl, h8⟩
end Go.Proofs.YtlgolaoabgmijaaGreatDoor
