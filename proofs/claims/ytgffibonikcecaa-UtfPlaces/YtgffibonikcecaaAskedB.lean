/-
  asked of furrowlaw01: the questions Rune, Slice, and Text with Len.
-/
import Derived.Test.YtgffibonikcecaaAskedA
namespace Go.Proofs.Ytgffibonikcecaa
open Go.RowKit Go.PlainAid Go.Lib
attribute [local go_sem] Oper.semAt_some
set_option linter.unusedVariables false

set_option maxRecDepth 100000 in
set_option maxHeartbeats 4000000 in
theorem asked3 (w : World) (p : Value) (s : ByteArray) (hs : s.size ≤ 65536) (hP : IsPlaces w p s) (a b : Int) :
    Calls Try.prog 37 #[p, .string s, askV 3 a b] w fun e w' => e = .returned (.bool true) ∧ Below w.heap.size w w' := by
  refine (callsIn_wide (n := 12)).1 ?_
  refine callsIn_of_wp_marks Try.func37 rfl trivial ?_ rfl
  simp only [Try.ntmps37, List.size_toArray, List.length_cons, List.length_nil, Nat.reduceAdd, Nat.reduceSub, Array.replicate_succ, Array.replicate_zero, List.push_toArray, List.append_toArray, List.nil_append, List.cons_append]
  have hF : ∀ f, Fence.wide.fn f := fun _ => trivial
  refine wpIn_wide.2 ?_
  have hcl := chars_length s 0
  have hpl := places_length s
  unfold askV
  go_wp2_with fail
  refine (refSpots_any s _ (by omega)).mono ?_
  rintro e w1 ⟨v, rfl, hrow, hb1⟩
  obtain ⟨l, c, rfl, _, hsp⟩ := sc_row hrow
  rw [hpl]
  have hst1 : AskSt w w1 p s 3 a b l c := by
    have g0 : Below w.heap.size w ((w.alloc (.cells #[.int .i64 3, .int .i64 a, .int .i64 b] 68)).alloc (.cells #[.bool false] 4)) := ((Below.refl _ _).alloc (Nat.le_refl _) _).alloc (by simp) _
    have g1 := g0.trans (hb1.mono g0.size)
    exact ⟨(hb1.block _ (by simp; omega)).trans ((Below.heap_alloc _ _ _ (by simp)).trans (heap_alloc_new w _)), (hb1.block _ (by simp)).trans (by have := heap_alloc_new (w.alloc (.cells #[.int .i64 3, .int .i64 a, .int .i64 b] 68)) (.cells #[.bool false] 4); rwa [World.size_alloc] at this), hP.below g1, hsp, g1⟩
  clear hrow hb1 hsp
  obtain ⟨W, hW⟩ : ∃ W, w1.alloc (.cells #[.slice l (chars s 0).length c] 22) = W := ⟨_, rfl⟩
  have hst : AskSt w W p s 3 a b l c := by rw [← hW]; exact hst1.below ((Below.refl _ _).alloc (Nat.le_refl _) _)
  have bl : Boxed W w1.heap.size 22 (.slice l (chars s 0).length c) := by rw [← hW]; exact Boxed.new w1 _ _
  have q9 := (cells3 hst.ask).1
  clear hst1
  obtain ⟨q0, q1, q2⟩ := cells3 hst.ask
  by_cases hin : 0 ≤ a ∧ a < ((chars s 0).length : Int)
  · obtain ⟨k, rfl⟩ : ∃ k : Nat, a = k := ⟨a.toNat, by omega⟩
    have hk : k < (chars s 0).length := by omega
    have HB1 := hide (rune_any W p s (by omega) hst.pl k hk)
    have hps := place_start s k hk
    generalize startN s k = A at *
    go_wp2_with fail
    refine (unhide HB1).mono ?_
    rintro e W3 ⟨rfl, hb3⟩
    have hst3 := hst.below hb3
    have bl3 := (box_below bl hb3).cell
    obtain ⟨r0, r1, r2⟩ := cells3 hst3.ask
    obtain ⟨g, rfl, _, _, y2, _⟩ := hst3.sp k _ hps
    have c3 := hst3.res.cell
    have f3 := hst3.res.frozen
    generalize (chars s 0).length = L at *
    generalize (Utf8.decode s A).1 = R at *
    have d1 : decide ((k : Int) < 0) = false := by simp
    have d2 : decide ((L : Int) ≤ (k : Int)) = false := by simp; omega
    have t1 : ((R : Int) == (R : Int)) = true := by simp
    clear HB1 hps hb3
    go_wp2
    exact ⟨.bool true, by simp [results, Try.f37, go_sem, hst3.done.1], rfl, hst3.done.2⟩
  · have ho : a < 0 ∨ ((chars s 0).length : Int) ≤ a := by omega
    have HB1 := hide (rune_out W p s (by omega) hst.pl a ho)
    go_wp2_with fail
    refine (unhide HB1).mono ?_
    rintro e w' ⟨rfl, hw'⟩
    rw [hw']
    clear hw' HB1
    have cl := bl.cell
    have c3 := hst.res.cell
    have f3 := hst.res.frozen
    generalize (chars s 0).length = L at *
    have hd : decide (a < 0) = true ∨ (decide (a < 0) = false ∧ decide ((L : Int) ≤ a) = true) := by simp; omega
    rcases hd with d1 | ⟨d1, d2⟩
    all_goals
      go_wp2
      exact ⟨.bool true, by simp [results, Try.f37, go_sem, hst.done.1], rfl, hst.done.2⟩

set_option maxRecDepth 100000 in
set_option maxHeartbeats 4000000 in
theorem asked4 (w : World) (p : Value) (s : ByteArray) (hs : s.size ≤ 65536) (hP : IsPlaces w p s) (a b : Int) :
    Calls Try.prog 37 #[p, .string s, askV 4 a b] w fun e w' => e = .returned (.bool true) ∧ Below w.heap.size w w' := by
  refine (callsIn_wide (n := 12)).1 ?_
  refine callsIn_of_wp_marks Try.func37 rfl trivial ?_ rfl
  simp only [Try.ntmps37, List.size_toArray, List.length_cons, List.length_nil, Nat.reduceAdd, Nat.reduceSub, Array.replicate_succ, Array.replicate_zero, List.push_toArray, List.append_toArray, List.nil_append, List.cons_append]
  have hF : ∀ f, Fence.wide.fn f := fun _ => trivial
  refine wpIn_wide.2 ?_
  have hcl := chars_length s 0
  have hpl := places_length s
  unfold askV
  go_wp2_with fail
  refine (refSpots_any s _ (by omega)).mono ?_
  rintro e w1 ⟨v, rfl, hrow, hb1⟩
  obtain ⟨l, c, rfl, _, hsp⟩ := sc_row hrow
  rw [hpl]
  have hst1 : AskSt w w1 p s 4 a b l c := by
    have g0 : Below w.heap.size w ((w.alloc (.cells #[.int .i64 4, .int .i64 a, .int .i64 b] 68)).alloc (.cells #[.bool false] 4)) := ((Below.refl _ _).alloc (Nat.le_refl _) _).alloc (by simp) _
    have g1 := g0.trans (hb1.mono g0.size)
    exact ⟨(hb1.block _ (by simp; omega)).trans ((Below.heap_alloc _ _ _ (by simp)).trans (heap_alloc_new w _)), (hb1.block _ (by simp)).trans (by have := heap_alloc_new (w.alloc (.cells #[.int .i64 4, .int .i64 a, .int .i64 b] 68)) (.cells #[.bool false] 4); rwa [World.size_alloc] at this), hP.below g1, hsp, g1⟩
  clear hrow hb1 hsp
  obtain ⟨W, hW⟩ : ∃ W, w1.alloc (.cells #[.slice l (chars s 0).length c] 22) = W := ⟨_, rfl⟩
  have hst : AskSt w W p s 4 a b l c := by rw [← hW]; exact hst1.below ((Below.refl _ _).alloc (Nat.le_refl _) _)
  have bl : Boxed W w1.heap.size 22 (.slice l (chars s 0).length c) := by rw [← hW]; exact Boxed.new w1 _ _
  have q9 := (cells3 hst.ask).1
  clear hst1
  obtain ⟨q0, q1, q2⟩ := cells3 hst.ask
  by_cases hin : 0 ≤ a ∧ a ≤ b ∧ b ≤ ((chars s 0).length : Int)
  · obtain ⟨k, rfl⟩ : ∃ k : Nat, a = k := ⟨a.toNat, by omega⟩
    obtain ⟨j, rfl⟩ : ∃ j : Nat, b = j := ⟨b.toNat, by omega⟩
    have hkj : k ≤ j := by omega
    have hj : j ≤ (chars s 0).length := by omega
    have HB1 := hide (slice_any W p s (by omega) hst.pl k j hkj hj)
    have HB2 := hide (fun W' => refByte_any s k W' (by omega) (by omega))
    have HB3 := hide (fun W' => refByte_any s j W' (by omega) (by omega))
    have hle := start_le s k j hkj hj
    have hz := start_size s j hj
    generalize startN s k = A at *
    generalize startN s j = B at *
    go_wp2_with fail
    refine (unhide HB1).mono ?_
    rintro e W3 ⟨rfl, hb3⟩
    have hst3 := hst.below hb3
    have bl3 := box_below bl hb3
    have cl3 := bl3.cell
    obtain ⟨r0, r1, r2⟩ := cells3 hst3.ask
    clear hst bl hb3 HB1 q0 q1 q2 q9 hW
    generalize (chars s 0).length = L at *
    have d1 : decide ((k : Int) < 0) = false := by simp
    have d2 : decide ((j : Int) < (k : Int)) = false := by simp; omega
    have d3 : decide ((L : Int) < (j : Int)) = false := by simp; omega
    go_wp2_with fail
    refine (unhide HB2 _).mono ?_
    rintro e W4 ⟨rfl, hb4⟩
    have hst4 := hst3.below hb4
    obtain ⟨u0, u1, u2⟩ := cells3 hst4.ask
    clear hst3 bl3 cl3 hb4 r0 r1 r2 HB2
    go_wp2_with fail
    refine (unhide HB3 _).mono ?_
    rintro e W5 ⟨rfl, hb5⟩
    have hst5 := hst4.below hb5
    clear hst4 hb5 u0 u1 u2 HB3
    have c3 := hst5.res.cell
    have f3 := hst5.res.frozen
    have t1 : ((s.extract A B).toList == (s.extract A B).toList) = true := by simp
    go_wp2
    exact ⟨.bool true, by simp [results, Try.f37, go_sem, hst5.done.1], rfl, hst5.done.2⟩
  · have ho : a < 0 ∨ b < a ∨ ((chars s 0).length : Int) < b := by omega
    have HB1 := hide (slice_out W p s (by omega) hst.pl a b ho)
    go_wp2_with fail
    refine (unhide HB1).mono ?_
    rintro e w' ⟨rfl, hw'⟩
    rw [hw']
    clear hw' HB1
    have cl := bl.cell
    have c3 := hst.res.cell
    have f3 := hst.res.frozen
    generalize (chars s 0).length = L at *
    have hd : decide (a < 0) = true ∨ (decide (a < 0) = false ∧ decide (b < a) = true) ∨ (decide (a < 0) = false ∧ decide (b < a) = false ∧ decide ((L : Int) < b) = true) := by simp; omega
    rcases hd with d1 | ⟨d1, d2⟩ | ⟨d1, d2, d3⟩
    all_goals
      go_wp2
      exact ⟨.bool true, by simp [results, Try.f37, go_sem, hst.done.1], rfl, hst.done.2⟩

/-- a piece of code that ends in no other way than by going on -/
def onlyN (Q : Exit → Act → World → Prop) : Exit → Act → World → Prop
  | .normal, a, w => Q .normal a w
  | _, _, _ => False
theorem onlyN_mk {Q : Exit → Act → World → Prop} {a : Act} {w : World} (h : Q .normal a w) : onlyN Q .normal a w := h
theorem wp_only {P : Program} {c : Code} {Q : Exit → Act → World → Prop} {a : Act} {w : World} (h : c.wp P (onlyN Q) a w) : c.wp P Q a w :=
  Code.wp_mono (fun e a w h => by cases e <;> first | exact h | exact h.elim) h

set_option maxRecDepth 100000 in
set_option maxHeartbeats 4000000 in
theorem askedX (w : World) (p : Value) (s : ByteArray) (hs : s.size ≤ 65536) (hP : IsPlaces w p s) (d a b : Int) (hd : ¬ (0 ≤ d ∧ d ≤ 5)) :
    Calls Try.prog 37 #[p, .string s, askV d a b] w fun e w' => e = .returned (.bool true) ∧ Below w.heap.size w w' := by
  have z0 : (d == 0) = false := by simp; omega
  have z1 : (d == 1) = false := by simp; omega
  have z2 : (d == 2) = false := by simp; omega
  have z3 : (d == 3) = false := by simp; omega
  have z4 : (d == 4) = false := by simp; omega
  have z5 : (d == 5) = false := by simp; omega
  refine (callsIn_wide (n := 12)).1 ?_
  refine callsIn_of_wp_marks Try.func37 rfl trivial ?_ rfl
  simp only [Try.ntmps37, List.size_toArray, List.length_cons, List.length_nil, Nat.reduceAdd, Nat.reduceSub, Array.replicate_succ, Array.replicate_zero, List.push_toArray, List.append_toArray, List.nil_append, List.cons_append]
  have hF : ∀ f, Fence.wide.fn f := fun _ => trivial
  refine wpIn_wide.2 ?_
  have hcl := chars_length s 0
  have hpl := places_length s
  unfold askV
  go_wp2_with fail
  refine (refSpots_any s _ (by omega)).mono ?_
  rintro e w1 ⟨v, rfl, hrow, hb1⟩
  obtain ⟨l, c, rfl, _, hsp⟩ := sc_row hrow
  rw [hpl]
  have hst1 : AskSt w w1 p s d a b l c := by
    have g0 : Below w.heap.size w ((w.alloc (.cells #[.int .i64 d, .int .i64 a, .int .i64 b] 68)).alloc (.cells #[.bool false] 4)) := ((Below.refl _ _).alloc (Nat.le_refl _) _).alloc (by simp) _
    have g1 := g0.trans (hb1.mono g0.size)
    exact ⟨(hb1.block _ (by simp; omega)).trans ((Below.heap_alloc _ _ _ (by simp)).trans (heap_alloc_new w _)), (hb1.block _ (by simp)).trans (by have := heap_alloc_new (w.alloc (.cells #[.int .i64 d, .int .i64 a, .int .i64 b] 68)) (.cells #[.bool false] 4); rwa [World.size_alloc] at this), hP.below g1, hsp, g1⟩
  clear hrow hb1 hsp
  obtain ⟨W, hW⟩ : ∃ W, w1.alloc (.cells #[.slice l (chars s 0).length c] 22) = W := ⟨_, rfl⟩
  have hst : AskSt w W p s d a b l c := by rw [← hW]; exact hst1.below ((Below.refl _ _).alloc (Nat.le_refl _) _)
  have bl : Boxed W w1.heap.size 22 (.slice l (chars s 0).length c) := by rw [← hW]; exact Boxed.new w1 _ _
  have q9 := (cells3 hst.ask).1
  clear hst1
  have cl := bl.cell
  have c3 := hst.res.cell
  have f3 := hst.res.frozen
  have HT := hide (fun W' h => text_any W' p s h)
  have HN := hide (fun W' h => len_any W' p s (by unfold maxLen; omega) h)
  generalize (chars s 0).length = L at *
  have t1 : (s.toList == s.toList) = true := by simp
  have t2 : ((L : Int) == (L : Int)) = true := by simp
  have hst' : AskSt w W.drew p s d a b l c := hst.below ⟨rfl, rfl, rfl, Nat.le_refl _, fun _ _ => rfl⟩
  go_wp2
  refine wp_only ?_
  go_region_with (first
    | (go_at_call 43; refine (unhide HT _ hst'.pl).mono ?_; rintro e w' ⟨rfl, rfl⟩)
    | (go_at_call 44; refine (unhide HN _ hst'.pl).mono ?_; rintro e w' ⟨rfl, rfl⟩))
  all_goals
    refine onlyN_mk ?_
    go_wp2
    exact ⟨.bool true, by simp [results, Try.f37, go_sem, hst.done.1], rfl, hst.done.2.trans ⟨rfl, rfl, rfl, Nat.le_refl _, fun _ _ => rfl⟩⟩

end Go.Proofs.Ytgffibonikcecaa
