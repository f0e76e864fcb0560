/-
  Cut of a map: those of the range have no value; how many had one.
-/
import Derived.Test.YtnhcbcbceaeceaaPoBd
import Derived.Test.YtnhcbcbceaeceaaPLayI
import Derived.Test.YtnhcbcbceaeceaaPoQk
namespace Go.Proofs.Ytnhcbcbceaeceaa.VI
open Go.RowKit Go.PlainAid Go.Lib Go.PRow Go.Shelf
set_option linter.unusedVariables false
set_option linter.unusedSimpArgs false

theorem clip_ok {ps : List (Pc Int)} (o : OkP ps) {lo hi : Int} (hlh : lo ≤ hi) (h0 : 0 ≤ lo) (h1 : hi ≤ 1114111) : OkP ((midP ps lo hi).map (clip1 lo hi)) := by
  obtain ⟨A, M, C, c⟩ := cut3 o hlh
  rw [c.mid]
  have oM := c.okM o
  refine ⟨?_, fun p hp => ?_⟩
  · rw [List.pairwise_map]
    exact oM.1.imp fun {a b} h => by
      show min a.hi hi < max b.lo lo
      omega
  · obtain ⟨q, hq, rfl⟩ := List.mem_map.1 hp
    have k1 := oM.2 q hq
    have k2 := c.hm q hq
    show 0 ≤ max q.lo lo ∧ max q.lo lo ≤ min q.hi hi ∧ min q.hi hi ≤ 1114111
    omega

set_option maxRecDepth 100000 in
theorem cut_no (b : Nat) (v : Value) (lo hi : Int) (hm : mayB lo hi = false) (w : World) (h : IsMap w b v) :
    Calls Try.prog 8 #[(.pointer (some ⟨b, 0, none⟩)), .agg #[.int .i32 lo, .int .i32 hi]] w fun e w' => e = .returned (.tuple #[.int .i64 0, .int .i64 41]) ∧ Below w.heap.size w w' := by
  have hB1 : Below w.heap.size w (w.alloc (.cells #[.int .i32 lo, .int .i32 hi] 28)) := (Below.refl _ w).alloc (Nat.le_refl _) _
  have H := hide (refuses_map b v lo hi _ (h.below hB1))
  rw [hm] at H
  clear h
  go_enter Try.func8, Try.ntmps8
  go_wp2_with (go_at_call 20; refine (unhide H).mono ?_; rintro e w2 ⟨rfl, hb⟩)
  go_ret2
  exact ⟨rfl, hB1.trans (hb.mono (by simp))⟩

set_option maxHeartbeats 4000000 in
set_option maxRecDepth 100000 in
theorem cut_ok (b : Nat) (v : Value) (B : Nat) (ps : List (Pc Int)) (o : OkP ps) (lo hi : Int) (hm : mayB lo hi = true) (w : World) (h : IsMap w b v) (hB : B ≤ w.heap.size) (hr : RowP w B v ps) :
    Calls Try.prog 8 #[.pointer (some ⟨b, 0, none⟩), .agg #[.int .i32 lo, .int .i32 hi]] w fun e w' => e = .returned (.tuple #[.int .i64 (sizeP ((midP ps lo hi).map (clip1 lo hi))), .int .i64 0]) ∧ ∃ v', RowP w' B v' (repP ps lo hi []) ∧ Moved w w' b v v' := by
  have hB1 : Below w.heap.size w (w.alloc (.cells #[.int .i32 lo, .int .i32 hi] 28)) := (Below.refl _ w).alloc (Nat.le_refl _) _
  have H := hide (refuses_map b v lo hi _ (h.below hB1))
  rw [hm] at H
  have hm' := mayB_iff.1 hm
  have HM := hide (fun V (hV : Below w.heap.size w V) => h.below hV)
  have HW := hide (fun V (hV : Below w.heap.size w V) => within_any B v ps o lo hi hm'.2.1 V (hr.below hV))
  have HZ := hide (fun V B' u (hu : RowP V B' u ((midP ps lo hi).map (clip1 lo hi))) => size_any B' u _ (clip_ok o hm'.2.1 hm'.1 hm'.2.2) V hu)
  have HR := hide (fun V (hV : Below w.heap.size w V) => replaced_any B v ps o lo hi hm' 0 (.slice none 0 0) [] (by simp) V (Nat.le_trans hB hV.size) (hr.below hV) (RowV.nil _ _ _ _ _))
  have HRL := hide (fun g hg => RowV.lt hr g hg)
  have HAP := hide (h.apart hr)
  have HBL := hide h.lt
  generalize (midP ps lo hi).map (clip1 lo hi) = cs at *
  refine Calls.mono (R := fun e w' => Hid (e = .returned (.tuple #[.int .i64 (sizeP cs), .int .i64 0]) ∧ ∃ v', RowP w' B v' (repP ps lo hi []) ∧ Moved w w' b v v')) ?_ (fun e w' h => unhide h)
  obtain ⟨a, cap, rfl, hc1, hc2, _, _⟩ := hr.form
  clear h hr
  go_enter Try.func8, Try.ntmps8
  go_wp2_with (go_at_call 20; refine (unhide H).mono ?_; rintro e w2 ⟨rfl, hb⟩)
  have hbw := hB1.trans (hb.mono (by simp))
  have c1 := (unhide HM _ hbw).c1
  have d1 : w2.cell? ⟨w.heap.size, 0, none⟩ = some (.int .i32 lo) := by rw [hb.cell (by simp), World.cell?_alloc_at _ _ _ _ rfl]; rfl
  have d2 : w2.cell? ⟨w.heap.size, 1, none⟩ = some (.int .i32 hi) := by rw [hb.cell (by simp), World.cell?_alloc_at _ _ _ _ rfl]; rfl
  have hs2 : w.heap.size < w2.heap.size := World.block_lt_of_cell? _ _ d1
  refine MixW.start (by kernel_rfl) ?_
  refine MixW.seg (C := fun w' => ∃ n, w' = w2.drewN n) 0 5 3 (by kernel_rfl) ⟨1, rfl⟩ ?_
  simp only [Nat.reduceAdd, List.take_succ_cons, List.take_zero, List.drop_zero]
  repeat (go_big_quiet_step (fail))
  refine wpQuiet_nil ?_
  rintro _ ⟨q, rfl⟩
  have hbq : Below w.heap.size w (w2.drewN q) := ⟨hbw.os, hbw.tape, hbw.output, hbw.size, hbw.block⟩
  refine MixW.loud 3 5 0 _ _ (by decide) (by kernel_rfl) ?_
  simp only [Nat.reduceAdd, List.drop_succ_cons, List.drop_zero, List.take_succ_cons, List.take_zero]
  go_wp2_with (first | (go_at_call 24; refine (unhide HW _ hbq).mono ?_; rintro e V1 ⟨v1, rfl, hr1, hb1⟩) | (go_at_call 23; refine (unhide HZ V1 _ v1 hr1).mono ?_; rintro e V2 ⟨rfl, hb2⟩))
  refine ⟨by kernel_rfl, ?_⟩
  try simp only [Exit.then]
  have hbV1 := hbq.trans (hb1.mono hbq.size)
  have hbV2 := hbV1.trans (hb2.mono hbV1.size)
  have c2 := (unhide HM _ hbV2).c1
  have hs3 : w2.heap.size ≤ V1.heap.size := hb1.size
  have x1 : V2.cell? ⟨w.heap.size, 0, none⟩ = some (.int .i32 lo) := (hb2.cell (by show w.heap.size < V1.heap.size; omega)).trans ((hb1.cell (by show w.heap.size < w2.heap.size; omega)).trans d1)
  have x2 : V2.cell? ⟨w.heap.size, 1, none⟩ = some (.int .i32 hi) := (hb2.cell (by show w.heap.size < V1.heap.size; omega)).trans ((hb1.cell (by show w.heap.size < w2.heap.size; omega)).trans d2)
  clear d1 d2 c1
  go_wp2_with fail
  have hS0 : (fun X : World => X.cell? ⟨w.heap.size, 0, none⟩ = some (.int .i32 lo) ∧ X.cell? ⟨w.heap.size, 1, none⟩ = some (.int .i32 hi)) V2.drew := ⟨x1, x2⟩
  have hbq2 : Below w.heap.size w V2.drew := hbV2.drew
  have hR3 := unhide HR V2.drew hbq2
  have c3 : V2.drew.cell? ⟨b, 1, none⟩ = some (.slice a ps.length cap) := c2
  refine wp_region_held (S := fun X => X.cell? ⟨w.heap.size, 0, none⟩ = some (.int .i32 lo) ∧ X.cell? ⟨w.heap.size, 1, none⟩ = some (.int .i32 hi)) rfl ?_
  show wpAnyH _ _ _ _ _ _ _ _ V2.drew
  refine PStep.take (i := 0) (v := (.pointer (some ⟨b, 0, none⟩))) (some 21) rfl rfl (by kernel_rfl) (by kernel_rfl) (by kernel_rfl) (fun _ _ _ h => h) (.inl ⟨rfl, fun X hX => by simp [go_sem, execOp, Act.eval, Act.put]⟩) hS0 ?_
  refine PStep.take (i := 1) (v := (.pointer (some ⟨b, 0, none⟩))) (some 22) rfl rfl (by kernel_rfl) (by kernel_rfl) (by kernel_rfl) (fun _ _ _ h => h) (.inl ⟨rfl, fun X hX => by simp [go_sem, execOp, Act.eval, Act.put]⟩) hS0 ?_
  refine PStep.take (i := 2) (v := (.pointer (some ⟨b, 0, none⟩))) (some 23) rfl rfl (by kernel_rfl) (by kernel_rfl) (by kernel_rfl) (fun _ _ _ h => h) (.inl ⟨rfl, fun X hX => by simp [go_sem, execOp, Act.eval, Act.put]⟩) hS0 ?_
  refine PStep.take (i := 3) (v := (.pointer (some ⟨b, 1, none⟩))) (some 24) rfl rfl (by kernel_rfl) (by kernel_rfl) (by kernel_rfl) (fun _ _ _ h => h) (.inl ⟨rfl, fun X hX => by simp [go_sem, execOp, Act.eval, Act.put]⟩) hS0 ?_
  refine PStep.take (i := 5) (v := (.agg #[.int .i32 lo, .int .i32 hi])) (some 26) rfl rfl (by kernel_rfl) (by kernel_rfl) (by kernel_rfl) (fun _ _ _ h => h) (.inl ⟨rfl, fun X hX => by obtain ⟨hX1, hX2⟩ := hX; simp [go_sem, execOp, Act.eval, Act.put, hX1, hX2]⟩) hS0 ?_
  refine wpAnyH_all (rs := [4]) (by kernel_rfl) (by simp) ?_
  intro i hi4
  obtain rfl : i = 4 := by simpa using hi4
  refine PStep.wpOp_value (w' := V2.drew) (v := .slice a ps.length cap) rfl rfl (some 25) rfl (by simp [go_sem, execOp, Act.eval, Act.put, c3]) ⟨hS0, ?_⟩
  refine wpAnyH_all (rs := [6]) (by kernel_rfl) (by simp) ?_
  intro i hi4
  obtain rfl : i = 6 := by simpa using hi4
  refine PStep.wpOp_call (f := 22) (args := #[.slice a ps.length cap, .agg #[.int .i32 lo, .int .i32 hi], .slice none 0 0]) (w' := V2.drew) rfl rfl (some 27) rfl (by simp [go_sem, execOp, Act.eval, Act.put]) hR3 ?_
  rintro e w4 ⟨s4, rfl, h4⟩
  have hne := unhide HBL
  have hsz3 := hbq2.size
  have hM4 : IsMap w4 b (.slice a ps.length cap) := (h4.2.1.block b (by omega) (fun e => unhide HAP e.symm)).trans (unhide HM _ hbq2)
  have hc4 : ∀ k u, V2.drew.cell? ⟨w.heap.size, k, none⟩ = some u → w4.cell? ⟨w.heap.size, k, none⟩ = some u := fun k u hk => h4.2.1.cell hk (fun e => by have := (unhide HRL _ e.symm).2; simp at this)
  have hS4 : w4.cell? ⟨w.heap.size, 0, none⟩ = some (.int .i32 lo) ∧ w4.cell? ⟨w.heap.size, 1, none⟩ = some (.int .i32 hi) := ⟨hc4 _ _ x1, hc4 _ _ x2⟩
  refine ⟨s4, rfl, hS4, ?_⟩
  refine wpAnyH_all (rs := [7]) (by kernel_rfl) (by simp) ?_
  intro i hi4
  obtain rfl : i = 7 := by simpa using hi4
  refine PStep.wpOp_value (w' := w4) (v := .pointer (some ⟨b, 0, none⟩)) rfl rfl (some 28) rfl (by simp [go_sem, execOp, Act.eval, Act.put]) ⟨hS4, ?_⟩
  refine wpAnyH_all (rs := [8]) (by kernel_rfl) (by simp) ?_
  intro i hi4
  obtain rfl : i = 8 := by simpa using hi4
  refine PStep.wpOp_value (w' := w4) (v := .pointer (some ⟨b, 1, none⟩)) rfl rfl (some 29) rfl (by simp [go_sem, execOp, Act.eval, Act.put]) ⟨hS4, ?_⟩
  refine wpAnyH_all (rs := [9]) (by kernel_rfl) (by simp) ?_
  intro i hi4
  obtain rfl : i = 9 := by simpa using hi4
  have c4 := hM4.c1
  have f4 := hM4.f1
  obtain ⟨a4, n4, k4, rfl⟩ : ∃ a n k, s4 = .slice a n k := by obtain ⟨a, k, e, _⟩ := h4.1.form; exact ⟨a, _, k, e⟩
  refine PStep.wpOp_skip (w' := w4.setCell ⟨b, 1, none⟩ (.slice a4 n4 k4)) rfl rfl none rfl (by simp [go_sem, execOp, Act.eval, Act.put, c4, f4]) ⟨?_, ?_⟩
  · exact ⟨(World.cell?_setCell_other _ _ _ _ (by first | (simp; omega) | simp)).trans hS4.1, (World.cell?_setCell_other _ _ _ _ (by first | (simp; omega) | simp)).trans hS4.2⟩
  refine wpAnyH_done (by kernel_rfl) ?_ _
  simp only [Act.put]
  go_wp2
  go_ret2
  exact hide ⟨rfl, _, laid h4 hM4 (unhide HAP) hbq2 hne⟩
end Go.Proofs.Ytnhcbcbceaeceaa.VI
