/-
  LinesLost: the mark and the lines, each with an end behind it, are the text, for every text; the listed variables of Go's library hold what its text lays.
-/
import Derived.Test.YtlaennakglhmjaaDoorLRead
import Derived.Test.YtlaennakglhmjaaDoorRPieces
import Derived.Test.YtlaennakglhmjaaDoorLUpto
namespace Go.Proofs.YtlaennakglhmjaaDoor
open Go.RowKit Go.PlainAid Go.Lib Go.Shelf Go.Seq2 Go.Seq3
attribute [local go_sem] Oper.semAt_some
set_option linter.unusedVariables false

theorem linesI_next (s : ByteArray) (no a : Nat) (h : a < s.size) : linesI s no a = (no, a, endTo s a) :: linesI s (no + 1) (endNext s a) := by
  have hb := end_bounds s a (by omega)
  cases he : hasEnd s a with
  | true =>
    unfold linesI
    rw [extsI_step s no a (by omega), List.takeWhile_cons, if_pos (by simp; omega), he, if_pos rfl]
  | false =>
    have := hb.2.2.2.2.2 he
    rw [this.2, linesI_end]
    unfold linesI
    rw [extsI_step s no a (by omega), List.takeWhile_cons, if_pos (by simp; omega), he]
    simp
/-- how a line ends -/
theorem end_cases (s : ByteArray) (a : Nat) (h : a < s.size) : ∃ k, endTo s a = a + k ∧ a + k ≤ s.size ∧
    ((a + k = s.size ∧ 0 < k ∧ endNext s a = a + k) ∨ (a + k < s.size ∧ bN s (a + k) = 10 ∧ endNext s a = a + k + 1) ∨ (a + k + 1 < s.size ∧ bN s (a + k) = 13 ∧ bN s (a + k + 1) = 10 ∧ endNext s a = a + k + 2)) := by
  unfold endTo endNext
  rcases nl_spec s a with ⟨h1, _⟩ | ⟨n, h1, h2, h3, _⟩
  · rw [h1]
    exact ⟨s.size - a, by simp; omega, by omega, .inl ⟨by omega, by omega, by simp; omega⟩⟩
  · rw [h1]
    have hn : ¬ ((n : Int) < 0) := by omega
    simp only [hn, if_false, Int.toNat_natCast]
    by_cases hc : 0 < (n : Int) ∧ bN s (a + n - 1) = 13
    · rw [if_pos hc]
      refine ⟨n - 1, by omega, by omega, .inr (.inr ⟨by omega, ?_, ?_, by omega⟩)⟩
      · rw [show a + (n - 1) = a + n - 1 by omega]; exact hc.2
      · rw [show a + (n - 1) + 1 = a + n by omega]; exact h3
    · rw [if_neg hc]
      exact ⟨n, rfl, by omega, .inr (.inl ⟨h2, h3, rfl⟩)⟩
theorem each_some2 (f : Nat) (x : Value) (w : World) (h : f = 36) : (binOp .eql 26 (.func (.func f) #[] #[x]) .nilFunc).run Tryd.prog w = .ok (.bool false) w := by subst h; kernel_rfl
/-- what holds between the rounds -/
def LostI (w : World) (s : ByteArray) (B3 B4 : Nat) (pre : List (Nat × Nat × Nat)) (V : World) : Prop :=
  ∃ a : Nat, Boxed V B3 3 (.int .i64 (a : Nat)) ∧ Boxed V B4 3 (.int .i64 (pre.length : Nat)) ∧ Boxed V w.heap.size 9 (.string s) ∧ Boxed V (w.heap.size + 1) 4 (.bool false) ∧ a ≤ s.size ∧ pre ++ linesI s (pre.length + 1) a = linesL s ∧ Below w.heap.size w V

set_option maxRecDepth 100000 in
set_option maxHeartbeats 4000000 in
theorem lost_any (s : ByteArray) (w : World) (hg : errTypeAt w) (hs : s.size ≤ 140737488351232) :
    Calls Tryd.prog 9 #[.string s] w fun e w' => e = .returned (.bool true) ∧ Below w.heap.size w w' := by
  refine (callsIn_wide (n := 12)).1 ?_
  refine callsIn_of_wp_marks Tryd.func9 rfl trivial ?_ rfl
  simp only [Tryd.ntmps9, List.size_toArray, List.length_cons, List.length_nil, Nat.reduceAdd, Nat.reduceSub, Array.replicate_succ, Array.replicate_zero, List.push_toArray, List.append_toArray, List.nil_append, List.cons_append]
  have hF : ∀ f, Fence.wide.fn f := fun _ => trivial
  have HMK := hide (fun w => callsIn_wide (n := 11) |>.2 (refMarked_any s w (by unfold maxLen; omega)))
  have HEA := hide (fun w => callsIn_wide (n := 11) |>.2 (each_in s w))
  have hws := fun x w => each_some2 _ x w rfl
  have hll := lines_len s
  obtain ⟨W1, hW1⟩ : ∃ W1, (w.alloc (Obj.cells #[Value.string s] 9)).alloc (Obj.cells #[Value.bool false] 4) = W1 := ⟨_, rfl⟩
  have hB1 : Below w.heap.size w W1 := by rw [← hW1]; go_grown
  have b0 : Boxed W1 w.heap.size 9 (.string s) := by rw [← hW1]; exact (Boxed.new w _ _).alloc _
  have b1 : Boxed W1 (w.heap.size + 1) 4 (.bool false) := by rw [← hW1]; simpa [Boxed] using Boxed.new (w.alloc (Obj.cells #[Value.string s] 9)) 4 (.bool false)
  have HAW := hide (callsIn_wide (n := 11) |>.2 (awake_any W1 (errType_below hg hB1)))
  gi_wp2_with fail
  refine (unhide HAW).mono ?_
  rintro e w1 ⟨rfl, hb1⟩
  have c0 := (boxed_below2 b0 hb1).cell
  have q0 := boxed_below2 b0 hb1
  have q1 := boxed_below2 b1 hb1
  have hB2 := hB1.trans (hb1.mono hB1.size)
  have hz1 : w.heap.size + 2 ≤ w1.heap.size := by have := q1.lt; omega
  clear b0 b1 hb1 hB1 hW1
  gi_wp2_with fail
  refine (unhide HMK _).mono ?_
  rintro e w2 ⟨rfl, hw2⟩
  obtain rfl : w1 = w2 := hw2.symm
  have g0 := fun o o' => ((q0.alloc o).alloc o').cell
  have g1 := fun o o' o2 => (((q0.alloc o).alloc o').alloc o2).cell
  gi_wp2_with fail
  refine (unhide HEA _).mono ?_
  rintro e w3 ⟨rfl, hw3⟩
  subst hw3
  gi_wp2_with fail
  refine (unhide HEA _).mono ?_
  rintro e w3 ⟨rfl, hw3⟩
  subst hw3
  gi_wp2
  have hml := mark_le s
  obtain ⟨W0, hW0⟩ : ∃ W0, (((w1.alloc (Obj.cells #[Value.int IntKind.i64 (markN s : Nat)] 3)).alloc (Obj.cells #[Value.int IntKind.i64 0] 3)).alloc (Obj.cells #[Value.string s] 9)).alloc (Obj.cells #[Value.string s] 9) = W0 := ⟨_, rfl⟩
  have hB0 : Below w.heap.size w W0 := by rw [← hW0]; exact (((hB2.alloc (by omega) _).alloc (by simp; omega) _).alloc (by simp; omega) _).alloc (by simp; omega) _
  have p0 : Boxed W0 w.heap.size 9 (.string s) := by rw [← hW0]; exact (((q0.alloc _).alloc _).alloc _).alloc _
  have p1 : Boxed W0 (w.heap.size + 1) 4 (.bool false) := by rw [← hW0]; exact (((q1.alloc _).alloc _).alloc _).alloc _
  have p3 : Boxed W0 w1.heap.size 3 (.int .i64 (markN s : Nat)) := by rw [← hW0]; exact (((Boxed.new w1 _ _).alloc _).alloc _).alloc _
  have p4 : Boxed W0 (w1.heap.size + 1) 3 (.int .i64 ((0 : Nat) : Int)) := by
    rw [← hW0]; simpa [Boxed] using ((Boxed.new (w1.alloc (Obj.cells #[Value.int IntKind.i64 (markN s : Nat)] 3)) 3 (.int .i64 0)).alloc (Obj.cells #[Value.string s] 9)).alloc (Obj.cells #[Value.string s] 9)
  have p5 : Boxed W0 (w1.heap.size + 1 + 1 + 1) 9 (.string s) := by
    rw [← hW0]; simpa [Boxed] using Boxed.new (((w1.alloc (Obj.cells #[Value.int IntKind.i64 (markN s : Nat)] 3)).alloc (Obj.cells #[Value.int IntKind.i64 0] 3)).alloc (Obj.cells #[Value.string s] 9)) 9 (.string s)
  have hsz : W0.heap.size = w1.heap.size + 4 := by rw [← hW0]; simp
  rw [hW0]
  clear hW0 q0 q1 c0 g0 g1 hB2
  refine range3G (by omega) (gf := 36) (lb := #[.pointer (some ⟨w1.heap.size + 1 + 1 + 1, 0, none⟩)]) rfl (enters_of Tryd.func36 (by kernel_rfl) rfl)
    (each_gives s (by omega) _ (w1.heap.size + 1 + 1 + 1) (by omega) W0 p5) (Below.refl _ _) (fun _ => rfl)
    (LostI w s w1.heap.size (w1.heap.size + 1)) (fun _ _ _ => False)
    (fun st A B row hx hg hr => by
        obtain ⟨a, e1, e2, e3, e4, e5, e6, e7⟩ := hx
        exact ⟨a, own_block (β := Unit) _ _ _ rfl () A B row e1 hg hr, own_block (β := Unit) _ _ _ rfl () A B row e2 hg hr, own_block (β := Unit) _ _ _ rfl () A B row e3 hg hr, own_block (β := Unit) _ _ _ rfl () A B row e4 hg hr, e5, e6, ownFrom_below (β := Unit) (Nat.le_refl _) (by omega) () A B row e7 hg hr⟩)
    (fun c st A B row hx hg hr => hx)
    ⟨markN s, p3, p4, p0, p1, hml, rfl, hB0⟩
    ?a1 ?assign ?body ?done ?stop
  case assign =>
    intro l x W K hK
    gi_wp2
    exact hK
  case stop =>
    rintro D c pre V hD hSp h hK
    exact h.elim
  case body =>
    have HSZ := hide hsz
    clear hsz
    rintro l pre x V hl hsz2 ⟨r, hr⟩ ⟨a, f3, f4, f0, f1, has, hpre, hB⟩ hSp
    have halt : a < s.size := by
      rcases Nat.lt_or_ge a s.size with h | h
      · exact h
      · obtain rfl : a = s.size := by omega
        rw [linesI_end, List.append_nil] at hpre
        rw [← hpre] at hSp
        have := hSp.length_le
        simp at this
        omega
    have hnx := linesI_next s (pre.length + 1) a halt
    obtain rfl : x = (pre.length + 1, a, endTo s a) := by
      rw [← hpre, hnx] at hSp
      obtain ⟨rr, hrr⟩ := hSp
      rw [List.append_assoc] at hrr
      have := List.append_cancel_left hrr
      simpa using (List.cons.inj this).1
    have hlen : pre.length ≤ s.size := by
      have := congrArg List.length hpre
      rw [List.length_append] at this; omega
    obtain ⟨k, hk1, hk2, hk3⟩ := end_cases s a halt
    have HNX : Hid (∀ a', endNext s a = a' → (pre ++ [(pre.length + 1, a, endTo s a)]) ++ linesI s ((pre ++ [(pre.length + 1, a, endTo s a)]).length + 1) a' = linesL s) := fun a' h => by
      rw [← hpre, hnx, h]; simp
    have hsz := unhide HSZ
    dsimp only
    rw [hk1] at HNX
    rw [hk1]
    have hxs : (s.extract a (a + k)).size = k := by
      rw [← L_len, L_extract, List.length_take, List.length_drop, L_len]; omega
    have tn : ((a : Int) + (k : Int)).toNat = a + k := by omega
    -- the worlds of this round
    obtain ⟨V1, hV1⟩ : ∃ V1, V.setCell ⟨w1.heap.size + 1, 0, none⟩ (.int .i64 ((pre.length : Int) + 1)) = V1 := ⟨_, rfl⟩
    have k4 : Boxed V1 (w1.heap.size + 1) 3 (.int .i64 ((pre.length : Int) + 1)) := by rw [← hV1]; exact f4.set _
    have k3 : Boxed V1 w1.heap.size 3 (.int .i64 (a : Nat)) := by rw [← hV1]; exact f3.other (by omega) _
    have k0 : Boxed V1 w.heap.size 9 (.string s) := by rw [← hV1]; exact f0.other (by omega) _
    have k1 : Boxed V1 (w.heap.size + 1) 4 (.bool false) := by rw [← hV1]; exact f1.other (by omega) _
    have o1 : KeepsOthers V V1 := by rw [← hV1]; exact KeepsOthers.setCell _ _ _
    have e1 : ∀ {b t y}, b ≠ w1.heap.size + 1 → Boxed V b t y → Boxed V1 b t y := fun h hb => by rw [← hV1]; exact hb.other h _
    have l1 : Below w.heap.size w V1 := by rw [← hV1]; exact hB.setCell (p := ⟨w1.heap.size + 1, 0, none⟩) (by show _ ≤ w1.heap.size + 1; omega) _
    obtain ⟨V2, hV2⟩ : ∃ V2, V1.setCell ⟨w1.heap.size, 0, none⟩ (.int .i64 ((a : Int) + (k : Int))) = V2 := ⟨_, rfl⟩
    have m3 : Boxed V2 w1.heap.size 3 (.int .i64 ((a : Int) + (k : Int))) := by rw [← hV2]; exact k3.set _
    have m4 : Boxed V2 (w1.heap.size + 1) 3 (.int .i64 ((pre.length : Int) + 1)) := by rw [← hV2]; exact k4.other (by omega) _
    have m0 : Boxed V2 w.heap.size 9 (.string s) := by rw [← hV2]; exact k0.other (by omega) _
    have m1 : Boxed V2 (w.heap.size + 1) 4 (.bool false) := by rw [← hV2]; exact k1.other (by omega) _
    have o2 : KeepsOthers V V2 := o1.trans (by rw [← hV2]; exact KeepsOthers.setCell _ _ _)
    have e2 : ∀ {b t y}, b ≠ w1.heap.size + 1 → b ≠ w1.heap.size → Boxed V b t y → Boxed V2 b t y := fun h h' hb => by rw [← hV2]; exact (e1 h hb).other h' _
    have l2 : Below w.heap.size w V2 := by rw [← hV2]; exact l1.setCell (p := ⟨w1.heap.size, 0, none⟩) (by show _ ≤ w1.heap.size; omega) _
    have cl : (pre ++ [(pre.length + 1, a, a + k)]).length = pre.length + 1 := by simp
    have fin : ∀ (V3 : World) (ac : Act) (a' : Nat), Boxed V3 w1.heap.size 3 (.int .i64 (a' : Nat)) → (∀ {b t y}, b ≠ w1.heap.size → Boxed V2 b t y → Boxed V3 b t y) → KeepsOthers V2 V3 → Below w.heap.size w V3 → a' ≤ s.size → endNext s a = a' →
        ownPostG W0.heap.size (KpB 2 (fun k => k = w1.heap.size + 1 + 1 + 1) eachT (W0.heap.size + 2)) (LostI w s w1.heap.size (w1.heap.size + 1)) (fun _ _ _ => False) (pre ++ [(pre.length + 1, a, a + k)]) V .normal ac V3 := by
      intro V3 ac a' h3 hb3 hk3 hB3 ha' hn
      have o3 := o2.trans hk3
      refine ⟨o3.from _, ⟨o3.walks, fun kk t y hk1 ht hb => hb3 (by omega) (e2 (by omega) (by omega) hb)⟩, a', h3, ?_, hb3 (by omega) m0, hb3 (by omega) m1, ha', unhide HNX a' hn, hB3⟩
      rw [cl]; exact hb3 (by omega) m4
    have FIN := hide fin
    clear fin HNX hpre hSp hnx hk1 hB l1 e1 e2 o1 o2 cl hsz
    have s0 := f0.cell
    have s3 := f3.cell
    have s4 := f4.cell
    have t4 := f4.frozen
    have u0 := k0.cell
    have u3 := k3.cell
    have u4 := k4.cell
    have x3 := k3.frozen
    have v0 := m0.cell
    have v3 := m3.cell
    have y3 := m3.frozen
    obtain ⟨X, hX⟩ : ∃ X, s.extract a (a + k) = X := ⟨_, rfl⟩
    rw [hX] at hxs
    have d1 : decide ((s.size : Int) - (a : Int) < (k : Int)) = false := decide_eq_false (by omega)
    have d1' : ¬ (s.size : Int) - (a : Int) < (k : Int) := by omega
    rcases hk3 with ⟨j1, j2, j3⟩ | ⟨j1, j2, j3⟩ | ⟨j1, j2, j4, j3⟩
    · have dE : ((a : Int) + (k : Int) == (s.size : Int)) = true := by simp; omega
      have dX : X.toList.isEmpty = false := by rw [toList_empty]; exact decide_eq_false (by omega)
      have J := hide j1
      have J3 := hide j3
      clear j1 j3
      gi_wp2
      exact unhide FIN V2 _ (a + k) (by simpa using m3) (fun _ h => h) ⟨Nat.le_refl _, fun _ _ h _ => h⟩ l2 (by have := unhide J; omega) (unhide J3)
    · have dE : ((a : Int) + (k : Int) == (s.size : Int)) = false := by simp; omega
      have hv : (s[a + k]'j1).toNat = bN s (a + k) := by rw [bN, get_in s _ j1]
      have d10 : ((bN s (a + k) : Int) == 10) = true := by simp; omega
      gi_wp2
      refine unhide FIN _ _ (a + k + 1) (by rw [show ((a + k + 1 : Nat) : Int) = (a : Int) + (k : Int) + 1 by omega]; exact m3.set _) (fun h hb => hb.other h _) (KeepsOthers.setCell _ _ _) (l2.setCell (p := ⟨w1.heap.size, 0, none⟩) (by show _ ≤ w1.heap.size; omega) _) (by omega) j3
    · have dE : ((a : Int) + (k : Int) == (s.size : Int)) = false := by simp; omega
      have hl0 : a + k < s.size := by omega
      have hv : (s[a + k]'hl0).toNat = bN s (a + k) := by rw [bN, get_in s _ hl0]
      have hv1 : (s[a + k + 1]'j1).toNat = bN s (a + k + 1) := by rw [bN, get_in s _ j1]
      have tn1 : ((a : Int) + (k : Int) + 1).toNat = a + k + 1 := by omega
      have d10 : ((bN s (a + k) : Int) == 10) = false := by simp; omega
      have d13 : ((bN s (a + k) : Int) == 13) = true := by simp; omega
      have d2 : decide ((a : Int) + (k : Int) + 1 < (s.size : Int)) = true := decide_eq_true (by omega)
      have d2' : (a : Int) + (k : Int) + 1 < (s.size : Int) := by omega
      have d11 : ((bN s (a + k + 1) : Int) == 10) = true := by simp; omega
      gi_wp2
      refine unhide FIN _ _ (a + k + 2) (by rw [show ((a + k + 2 : Nat) : Int) = (a : Int) + (k : Int) + 2 by omega]; exact m3.set _) (fun h hb => hb.other h _) (KeepsOthers.setCell _ _ _) (l2.setCell (p := ⟨w1.heap.size, 0, none⟩) (by show _ ≤ w1.heap.size; omega) _) (by omega) j3
  case done =>
    rintro D xs V hD hS ⟨a, f3, f4, f0, f1, has, hpre, hB⟩ hK
    subst hS
    have hae : a = s.size := by
      rcases Nat.lt_or_ge a s.size with h | h
      · rw [linesI_next s _ a h] at hpre
        have := congrArg List.length hpre
        simp at this
      · omega
    subst hae
    have r0 := f0.cell
    have r1 := f1.cell
    have z1 := f1.frozen
    have r3 := f3.cell
    have HAW2 := hide (callsIn_wide (n := 11) |>.2 (awake_any V (errType_below hg hB)))
    have HPR := hide hpre
    clear hpre
    gi_wp2_with (gi_at_call 13; refine (unhide HAW2).mono ?_; rintro e V4 ⟨rfl, hb4⟩; have r14 := (boxed_below2 f1 hb4).cell; have z14 := (boxed_below2 f1 hb4).frozen)
    have hK4 : V4.heap[D]? = some (.deferred (some [])) := (hb4.block D (Array.getElem?_eq_some_iff.1 hK).1).trans hK
    have hB4 : Below w.heap.size w V4 := hB.trans (hb4.mono hB.size)
    have d8 := (boxed_below2 f1 hb4).set (.bool true)
    have k2 := (KeepsOthers.setCell V4 ⟨w.heap.size + 1, 0, none⟩ (.bool true)).same D _ hK4 rfl
    have hB8 := hB4.setCell (p := ⟨w.heap.size + 1, 0, none⟩) (by simp) (.bool true)
    have e1 := cell_kept d8.cell (grownBy_putObj' _ D (.deferred none)) (fun r e => by cases e; exact ⟨_, k2, rfl⟩)
    refine ⟨by simp, .inl ⟨_, _, rfl, run_takeDeferred k2, ?_⟩⟩
    exact ⟨.bool true, by simp [results, Tryd.f9, go_sem, e1], rfl, hB8.trans (belowK_b (w := w) (Nat.le_refl _) _ D _ _ (by omega) k2 rfl rfl)⟩
end Go.Proofs.YtlaennakglhmjaaDoor
namespace Go.Proofs.YtlaennakglhmjaaDoor.linesLost
open Go.ChangeShapes Go.WideShapes Go.ChangeAt Go.RowKit
open Go.ChangeMaps (open_string shut_string)
set_option linter.unusedVariables false
theorem walk (s : ByteArray) (w : World) (hg : errTypeAt w) (hs : s.size ≤ 140737488351232) :
    Calls Tryd.prog 9 #[.string s] w fun e w' => e = .returned (.bool true) ∧ Below w.heap.size w w' := lost_any s w hg hs

theorem laidOut : laidOutB Tryd.prog = true := by kernel_rfl

set_option maxRecDepth 100000 in
theorem contract (H : Type) (enc : TypeId × Value → H) (W : World) (base : Nat) (args : Array Value) (ds gs : List (DataW H)) (before : List MemPlace)
    (hval : ∀ (j : Nat) t v, Tryd.f9.params[j]? = some t → args[j]? = some v → Value.okWide Tryd.prog W .any base t v)
    (hW : DataW.Whole enc Tryd.prog Tryd.f9.params.toList Rows.linesLostSpec.vars false W args.toList ds gs before) (hL : laidMetH Tryd.prog laid3 W) (hwz : (DataW.weightsEach Tryd.prog (Tryd.f9.params.toList ++ (OpenSpec.ofChange Rows.linesLostSpec).bare.plain.varTypes Tryd.prog) (ds ++ gs)).all (· ≤ reachBytes) = true) :
    Calls Tryd.prog 9 args W fun e W' => ∃ v, e = .returned v ∧ Rows.linesLostSpec.post enc Tryd.prog Tryd.f9 false true false false W args v W' := by
  have hW' := hW
  obtain ⟨p, q, hA0, hV, rfl, hfz, hnd⟩ := hW
  have hA : DataW.TrodAll enc Tryd.prog W 0 (fun _ => true) true Tryd.f9.params.toList args.toList ds p := hA0
  rw [Tryd.params9] at hA hval
  obtain ⟨v0, vs0, d0, ds0, p0, q0, hargs, rfl, rfl, h0, r0⟩ := trodAll_cons hA
  obtain ⟨rfl, rfl, rfl⟩ := trodAll_nil r0
  obtain rfl : args = #[v0] := by cases args; simp_all
  obtain ⟨rfl, rfl⟩ := trodVars_none hV
  obtain ⟨a0, rfl, rfl, rfl, w0⟩ := open_string Tryd.underlying9 (hval 0 9 v0 rfl rfl) h0
  have w9 : a0.size ≤ 140737488351232 := by
    have h1 : (DataW.weightsEach Tryd.prog (9 :: ((OpenSpec.ofChange Rows.linesLostSpec).bare.plain.varTypes Tryd.prog)) [DataW.lit (H := H) (.string a0.data.toList)]).all (· ≤ reachBytes) = true := hwz
    simp only [DataW.weightsEach, DataW.weights, List.cons_append, List.nil_append, List.all_cons, Bool.and_eq_true, decide_eq_true_eq] at h1
    have h2 := h1.1
    rw [show a0.data.toList.length = a0.size from L_len a0] at h2
    exact h2
  clear hA0
  have hwk := walk a0 W (errType_of_laid hL) w9
  refine hwk.mono fun e W' ⟨he, bel⟩ => ?_
  subst he
  exact ⟨_, rfl, _, _, _, [], _, [], hW', trodAll_mk1 (shut_bool Tryd.underlying4 _), (trodAll_cons_mk (shut_string Tryd.underlying9 w0) trodAll_mk0), rfl, bel.frame _, fun h => by cases h⟩

set_option maxRecDepth 100000 in
theorem lifted (os : Os) (started : os.Started) (H : Type) (enc : TypeId × Value → H) (F : Stop.Interp) :
    ReturnsInHanded {} Tryd.checked os 9 .any ((OpenSpec.ofChange Rows.linesLostSpec).preRow enc Tryd.prog Tryd.f9 Rows.linesLostRow.domain false Rows.linesLostRow.laid) (((OpenSpec.ofChange Rows.linesLostSpec).at F).post enc Tryd.prog Tryd.f9 false true false false) := by
  refine returnsInHanded_of_row (C := Tryd.checked) (s := OpenSpec.ofChange Rows.linesLostSpec) own3 started (by kernel_rfl) Tryd.func9
    (witness_row_shaped (enc := enc) (C := Tryd.checked) (witW os) #[.string ByteArray.empty] (witW_os os) (World.shaped_of_ZipB (by kernel_rfl) (by kernel_rfl)) (by kernel_rfl)
      (OpenSpec.preRow_of_cond 8 (x := ([.lit (.string [])], [], [])) (by kernel_rfl) (by kernel_rfl) (fun k hk => by cases hk) (by kernel_rfl) (laidMetH_of_parts (laidMet_over _ (by kernel_rfl) (by kernel_rfl)) (by kernel_rfl)))) ?_
  intro W base args ds gs before hval hW _ hcond hwz hL _ _
  exact contract H enc W base args ds gs before hval hW hL hwz

theorem over : Rows.LinesLostSaid :=
  OpenClaim.holds_of_cond 9 Tryd.f9 rfl rfl rfl rfl rfl rfl rfl ⟨rfl, rfl, rfl, rfl, rfl⟩ rfl rfl rfl rfl rfl (by kernel_rfl) Tryd.func9 (by kernel_rfl)
    (of_decide_eq_true (by kernel_rfl)) (by unfold Func.isWrapper; first | (rw [if_pos (by decide +kernel)]; kernel_rfl) | (rw [if_neg (by decide +kernel)]; exact ⟨rfl, rfl⟩))
    (fun os started H enc _ F => by rw [OpenClaim.pre_eq_preRow]; exact lifted os started H enc F)

end Go.Proofs.YtlaennakglhmjaaDoor.linesLost
namespace Go.Proofs.YtlaennakglhmjaaDoor
theorem linesLost_card : Rows.LinesLostCardSaid :=
  Claim7.holds_tied_plain_at .later [] [.data, .handle, .pinned] true _ true linesLost.over (fun _ h => by cases h) (by kernel_rfl) (fun _ h => by cases h) linesLost_row_tie rfl ⟨rfl, rfl⟩ (by kernel_rfl) rfl
    (fun f fn hf hfn => by
      obtain rfl : f = 9 := Option.some.inj ((show Tryd.prog.funcNamed Rows.linesLostRow.func = some 9 by kernel_rfl).symm.trans hf) |>.symm
      obtain rfl : fn = Tryd.f9 := (Option.some.inj (Tryd.func9.symm.trans hfn)).symm
      refine ⟨by kernel_rfl, fun j t ht => ?_⟩
      rw [Tryd.params9] at ht
      have hm := Array.mem_of_getElem? ht
      have hm' : t ∈ [9] := Array.mem_toList_iff.2 hm
      simp only [List.mem_cons, List.not_mem_nil, or_false] at hm'
      rcases hm' with rfl
      · exact (show Tryd.prog.wantsStandIn 9 = false by kernel_rfl))
    (by kernel_rfl)
end Go.Proofs.YtlaennakglhmjaaDoor

