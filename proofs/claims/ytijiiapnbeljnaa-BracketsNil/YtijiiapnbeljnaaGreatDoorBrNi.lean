/-
  What is told of no book; the law BracketsNil.
-/
import Derived.Test.YtijiiapnbeljnaaGreatDoorBrAw
namespace Go.Proofs.YtijiiapnbeljnaaGreatDoor
open Go.RowKit Go.PlainAid Go.Lib Go.Shelf
open Go.Seq5 (Gives4 Kp4 KpR CalmR range4B range4G)
attribute [local go_sem] Oper.semAt_some
set_option linter.unusedVariables false
set_option linter.unusedSimpArgs false

theorem rowsNil_in (n l Bs : Nat) (J Jx : List BrD → World → Prop) (W : World) (hn : 2 ≤ n) (hBs : Boxed W Bs 27 (.pointer none)) (h0 : J [] W) :
    CallsIn Fence.wide n Tryz.prog 49 #[.func (.yield l) #[] #[], .pointer (some ⟨Bs, 0, none⟩)] W fun e W' => (∃ v, e = .returned v) ∧
      ((∃ xs, xs = [] ∧ J xs W') ∨ (∃ pre, False ∧ Jx pre W')) := by
  have HMA := hide (made_nil W)
  have c0 := hBs.cell
  have hF : ∀ f, Fence.wide.fn f := fun _ => trivial
  have hn1 : 1 ≤ n := by omega
  have hn2 : 1 ≤ n - 1 := by omega
  refine callsIn_of_wp Tryz.func49 rfl trivial ?_ rfl
  simp only [Tryz.ntmps49, List.size_toArray, List.length_cons, List.length_nil, Nat.reduceAdd, Nat.reduceSub, Array.replicate_succ, Array.replicate_zero, List.push_toArray, List.append_toArray, List.nil_append, List.cons_append]
  gi_wp2_with (gi_at_call 37; with_reducible refine CallsIn.mono (callsIn_wide.2 (unhide HMA)) ?_; rintro e w' ⟨rfl, h⟩; have h' := h.symm; subst h')
  refine bodyPost_ret (results_none rfl _ _ _) rfl ?_
  exact ⟨⟨_, rfl⟩, .inl ⟨_, rfl, h0⟩⟩
theorem rowsNil_gives (Bs : Nat) (w : World) (hBs : Boxed w Bs 27 (.pointer none)) (n : Nat) (hn : 2 ≤ n) :
    Gives4 n Tryz.prog 49 #[.pointer (some ⟨Bs, 0, none⟩)] (fun x : BrD => #[brV x]) 0 (fun _ => False) 0 0 (fun xs => xs = []) (fun _ => False) w :=
  fun l J Jx W hW hJ hJx hcalm hY h0 => rowsNil_in n l Bs J Jx W hn ((hW.block Bs hBs.lt).trans hBs) h0
theorem twinsNil (a : Option Addr) (n c : Nat) (w : World) : Calls Tryz.prog 15 #[.pointer none, .slice a n c] w fun e w' => e = .returned (.tuple #[.pointer none, .int .i64 0, .int .i64 1]) ∧ w' = w := by
  have HM := hide (made_nil w)
  go_enter Tryz.func15, Tryz.ntmps15
  go_wp2_with (go_at_call 37; with_reducible refine (unhide HM).mono ?_; rintro e w' ⟨rfl, rfl⟩)
  go_ret3
  exact ⟨rfl, rfl⟩

set_option maxRecDepth 100000 in
set_option maxHeartbeats 1000000 in
theorem writeNil (w : World) : Calls Tryz.prog 24 #[.pointer none] w fun e w' => e = .returned (.string ⟨#[]⟩) ∧ Below w.heap.size w w' := by
  obtain ⟨Wa, hWa⟩ : ∃ Wa, w.alloc (.cells #[.pointer none, .slice none 0 0] 118) = Wa := ⟨_, rfl⟩
  have hba : Below w.heap.size w Wa := by rw [← hWa]; exact below_alloc _ _
  have hsa : Wa.heap.size = w.heap.size + 1 := by rw [← hWa]; simp
  have bla : Wa.heap[w.heap.size]? = some (.cells #[.pointer none, .slice none 0 0] 118 (0, 0)) := by rw [← hWa]; exact heap_alloc_new w _
  obtain ⟨W0, hW0⟩ : ∃ W0, Wa.alloc (.cells #[.pointer none] 27) = W0 := ⟨_, rfl⟩
  have hb0 : Below Wa.heap.size Wa W0 := by rw [← hW0]; exact below_alloc _ _
  have hs0 : W0.heap.size = w.heap.size + 2 := by rw [← hW0]; simp [hsa]
  have bx0 : Boxed W0 Wa.heap.size 27 (.pointer none) := by rw [← hW0]; exact heap_alloc_new Wa _
  have hbw := hba.trans (hb0.mono hba.size)
  have HRO := hide (rows_any none Wa)
  rw [hW0] at HRO
  have hB0 : Lib.IsBuilderF 118 5 w.heap.size w.heap.size (Lib.byteCells []) W0 := .inl ⟨Nat.le_refl _, _, (hb0.block _ (by omega)).trans bla, ⟨rfl, .inl ⟨rfl, rfl⟩⟩, by simp [Value.ownBlock]⟩
  refine (callsIn_wide (n := 9)).1 ?_
  refine callsIn_of_wp_marks Tryz.func24 rfl trivial ?_ rfl
  simp only [Tryz.ntmps24, List.size_toArray, List.length_cons, List.length_nil, Nat.reduceAdd, Nat.reduceSub, Array.replicate_succ, Array.replicate_zero, List.push_toArray, List.append_toArray, List.nil_append, List.cons_append]
  have hF : ∀ f, Fence.wide.fn f := fun _ => trivial
  gi_wp2_with (gi_at_call 21; with_reducible refine CallsIn.mono (callsIn_wide.2 (unhide HRO)) ?_; rintro e w' ⟨rfl, h⟩; cases h)
  clear hWa hW0
  refine range4B (by omega) (gf := 49) (lb := #[.pointer (some ⟨Wa.heap.size, 0, none⟩)]) (by simp [hsa]; rfl) (enters_of Tryz.func49 (by kernel_rfl) rfl)
    (rowsNil_gives Wa.heap.size W0 bx0 _ (by omega)) (Below.refl _ _) (fun _ => rfl)
    (fun _ V => Lib.IsBuilderF 118 5 w.heap.size w.heap.size (Lib.byteCells []) V ∧ Below w.heap.size w V) (fun _ _ _ => False) (fun s A C row h hg hr => ⟨isBF_kept h.1 fun k o ho hc _ => (grownBy_keeps_cells hg (fun r e => (hr r e).2) ho hc).trans ho, h.2.grown hg h.2.size (fun k e => by have := (hr k e).1; omega)⟩) (fun c _ _ _ _ h _ _ => h) (Seq5.CalmR.none _ _ _) ⟨hB0, hbw⟩
    (fun z => .cells (brC z).toArray 26 (0, 0)) (fun _ => rfl) ?fr ?assign ?body ?done ?stop
  case assign =>
    intro l2 z V K hK
    gi_wp2
    generalize hBx : V.heap.size = Bx
    exact hK Bx hBx.symm
  case body =>
    rintro l2 pre z Bx V hl hsz2 ⟨r, hr⟩ h hx1' hx2' hSp
    exact hSp.elim
  case done =>
    rintro D xs V hD hS ⟨e3, e9⟩ hK
    have HSS := hide (Tryz.Builder_String_any_k w.heap.size w.heap.size [] V e3 e9.size)
    clear bla
    gi_wp2_with (gi_at_call 54; with_reducible refine CallsIn.mono (callsIn_wide.2 (unhide HSS)) ?_; rintro e w5 ⟨rfl, _, hb5, ho5⟩)
    have hKX : w5.heap[D]? = some (.deferred (some [])) := ho5 D _ hK (by simp; omega) (fun c fz e => by cases e)
    refine ⟨by simp, .inl ⟨_, _, rfl, run_takeDeferred hKX, ?_⟩⟩
    have hbX := e9.trans hb5
    refine ⟨_, results_tmp rfl _ _ _, rfl, hbX.grown (grownBy_putObj' w5 D _) hbX.size (fun k e => by cases e; omega)⟩
  case stop =>
    rintro D c pre V hD hSp h hK
    exact h.elim
theorem fnNilB (f : Nat) (cap : Array Value) (w : World) : Sem.run Tryz.prog (binOp BinOp.eql 55 (.func (.func f) #[] cap) .nilFunc) w = .ok (.bool false) w := by
  have he : Sem.run Tryz.prog (Op.equal 55 (.func (.func f) #[] cap) .nilFunc) w = .ok false w := by
    unfold Op.equal Op.maxDepth
    rw [show (10000 : Nat) = 9999 + 1 from rfl]
    unfold Op.equalIn
    simp [go_sem]
  simp [binOp, go_sem, he]

set_option maxRecDepth 100000 in
set_option maxHeartbeats 1000000 in
theorem nil_walk (r q : Int) (a : Option Addr) (n c : Nat) (w : World) (hg : ErrT w) (ht : tz16At w) :
    Calls Tryz.prog 6 #[.int .i32 r, .int .i32 q, .slice a n c] w fun e w' => e = .returned (.bool true) ∧ Below w.heap.size w w' := by
  have HA := hide (fun W (h : Below w.heap.size w W) => awake8_any W (hg.below h) (tz16_below ht h))
  have hfn := fnNilB 49
  clear hg ht
  refine (callsIn_wide (n := 9)).1 ?_
  refine callsIn_of_wp_marks Tryz.func6 rfl trivial ?_ rfl
  simp only [Tryz.ntmps6, List.size_toArray, List.length_cons, List.length_nil, Nat.reduceAdd, Nat.reduceSub, Array.replicate_succ, Array.replicate_zero, List.push_toArray, List.append_toArray, List.nil_append, List.cons_append]
  have hF : ∀ f, Fence.wide.fn f := fun _ => trivial
  gi_wp2_with (first | (gi_at_call 14; with_reducible refine CallsIn.mono (callsIn_wide.2 (unhide HA _ (Below.refl _ _))) ?_; rintro e w1 ⟨rfl, hb1⟩) | (gi_at_call 20; with_reducible refine CallsIn.mono (callsIn_wide.2 (bracket_nil r _)) ?_; rintro e w' ⟨rfl, h⟩; cases h) | (gi_at_call 15; with_reducible refine CallsIn.mono (callsIn_wide.2 (twinsNil a n c _)) ?_; rintro e w' ⟨rfl, h⟩; cases h) | (gi_at_call 21; with_reducible refine CallsIn.mono (callsIn_wide.2 (rows_any none _)) ?_; rintro e w' ⟨rfl, h⟩; cases h))
  obtain ⟨W0, hW0⟩ : ∃ W0, ((w1.alloc (Obj.cells #[Value.int IntKind.i64 0] 3)).alloc (Obj.cells #[Value.pointer none] 27)).alloc (Obj.cells #[Value.pointer none] 27) = W0 := ⟨_, rfl⟩
  have hb0 : Below w1.heap.size w1 W0 := by rw [← hW0]; exact ((((Below.refl _ w1).alloc (Nat.le_refl _) _).alloc (by simp) _).alloc (by simp; omega) _)
  have hs0 : W0.heap.size = w1.heap.size + 3 := by rw [← hW0]; simp
  have c0 : W0.heap[w1.heap.size]? = some (.cells #[.int .i64 0] 3 (0, 0)) := by rw [← hW0]; exact (Below.heap_alloc _ _ _ (by simp <;> omega)).trans ((Below.heap_alloc _ _ _ (by simp)).trans (heap_alloc_new w1 _))
  have bx0 : Boxed W0 (w1.heap.size + 1 + 1) 27 (.pointer none) := by
    have h := heap_alloc_new ((w1.alloc (Obj.cells #[Value.int IntKind.i64 0] 3)).alloc (Obj.cells #[Value.pointer none] 27)) (Obj.cells #[Value.pointer none] 27)
    simp only [World.size_alloc] at h
    rw [← hW0]; exact h
  have hbw := hb1.trans (hb0.mono hb1.size)
  rw [hW0]
  clear hW0
  refine range4G (by omega) (gf := 49) (lb := #[.pointer (some ⟨w1.heap.size + 1 + 1, 0, none⟩)]) rfl (enters_of Tryz.func49 (by kernel_rfl) rfl)
    (rowsNil_gives (w1.heap.size + 1 + 1) W0 bx0 _ (by omega)) (Below.refl _ _) (fun _ => rfl)
    (fun _ V => V.heap[w1.heap.size]? = some (.cells #[.int .i64 0] 3 (0, 0)) ∧ Below w.heap.size w V) (fun _ _ _ => False) (fun s A C row h hg hr => ⟨(grownBy_keeps_cells hg (fun r e => (hr r e).2) h.1 rfl).trans h.1, h.2.grown hg h.2.size (fun k e => by have := (hr k e).1; have := hb1.size; omega)⟩) (fun c _ _ _ _ h _ _ => h) (Seq5.CalmR.none _ _ _) ⟨c0, hbw⟩ ?fr ?assign ?body ?done ?stop
  case assign =>
    intro l2 z V K hK
    gi_wp2
    exact hK
  case body =>
    rintro l2 pre z V hl hsz2 ⟨r, hr⟩ h hSp
    exact hSp.elim
  case done =>
    rintro D xs V hD hS ⟨e3, e9⟩ hK
    have p3 : Boxed V w1.heap.size 3 (.int .i64 0) := e3
    have cz := p3.cell
    have HE := hide e9
    have HK2 : Hid (∀ V2, Below V.heap.size V V2 → V2.heap[D]? = some (.deferred (some [])) ∧ Below w.heap.size w V2) := fun V2 hb => ⟨(hb.block D (Array.getElem?_eq_some_iff.1 hK).1).trans hK, e9.trans (hb.mono e9.size)⟩
    clear e3 e9 p3 c0 bx0 hbw hb0
    gi_wp2_with (first | (gi_at_call 22; with_reducible refine CallsIn.mono (callsIn_wide.2 (twin_nil r _)) ?_; rintro e w' ⟨rfl, h⟩; cases h) | (gi_at_call 23; with_reducible refine CallsIn.mono (callsIn_wide.2 (matches_nil r q _)) ?_; rintro e w' ⟨rfl, h⟩; cases h) | (gi_at_call 24; with_reducible refine CallsIn.mono (callsIn_wide.2 (writeNil _)) ?_; rintro e V2 ⟨rfl, hb2⟩; have HB2 := hide hb2; clear hb2) | (gi_at_call 14; with_reducible refine CallsIn.mono (callsIn_wide.2 (unhide HA _ (unhide HK2 _ (unhide HB2)).2)) ?_; rintro e V3 ⟨rfl, hb3⟩; have HB3 := hide hb3; clear hb3))
    have hbV := (unhide HB2).trans ((unhide HB3).mono (unhide HB2).size)
    obtain ⟨hKX, hbX⟩ := unhide HK2 _ hbV
    refine ⟨by simp, .inl ⟨_, _, rfl, run_takeDeferred hKX, ?_⟩⟩
    refine ⟨_, results_tmp rfl _ _ _, rfl, hbX.grown (grownBy_putObj' V3 D _) hbX.size (fun k e => by cases e; have := hb1.size; omega)⟩
  case stop =>
    rintro D c pre V hD hSp h hK
    exact h.elim
end Go.Proofs.YtijiiapnbeljnaaGreatDoor
