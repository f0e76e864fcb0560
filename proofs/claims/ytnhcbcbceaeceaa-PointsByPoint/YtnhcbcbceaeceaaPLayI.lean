/-
  Lay of a map: those of the range have the value, whatever they had.
-/
import Derived.Test.YtnhcbcbceaeceaaPReplI
import Derived.Test.YtnhcbcbceaeceaaPStep
namespace Go.Proofs.Ytnhcbcbceaeceaa.VI
open Go.RowKit Go.PlainAid Go.Lib Go.PRow Go.Shelf
set_option linter.unusedVariables false
set_option linter.unusedSimpArgs false

/-- of what was there, only the blocks that S tells have changed -/
structure Chg (S : Nat → Prop) (w w' : World) : Prop where
  os : w'.os = w.os
  tape : w'.tape = w.tape
  output : w'.output = w.output
  size : w.heap.size ≤ w'.heap.size
  block : ∀ k, k < w.heap.size → ¬ S k → w'.heap[k]? = w.heap[k]?
theorem Below.chg {w w' : World} (h : Below w.heap.size w w') (S : Nat → Prop) : Chg S w w' := ⟨h.os, h.tape, h.output, h.size, fun k hk _ => h.block k hk⟩
theorem Chg.below {S : Nat → Prop} {w w' : World} (h : Chg S w w') {a : World} {B : Nat} (hb : Below B a w) (hB : B ≤ w.heap.size) (hS : ∀ k, S k → B ≤ k) : Below B a w' :=
  hb.trans ⟨h.os, h.tape, h.output, h.size, fun k hk => h.block k (by omega) (fun e => by have := hS k e; omega)⟩

/-- what becomes of the map at b, which had the slice v: it has v' -/
def Moved (w w' : World) (b : Nat) (v v' : Value) : Prop :=
  IsMap w' b v' ∧ Chg (fun k => k = b ∨ blk v = some k) w w' ∧ (blk v' = blk v ∨ ∀ g, blk v' = some g → w.heap.size ≤ g)

theorem setMap {W : World} {b : Nat} {v : Value} (h : IsMap W b v) (v' : Value) : IsMap (W.setCell ⟨b, 1, none⟩ v') b v' := by
  have h' : W.heap[b]? = _ := h
  rw [setCell_eq_setRow W b 1 _ _ _ v' h']
  exact setRow_heap W b _ _ _ _ h'

/-- the store of a map's new slice -/
theorem laid {w W w4 : World} {b B : Nat} {v s : Value} {rs : List (Pc Int)} (h4 : Turned W w4 B v s rs) (hM4 : IsMap w4 b v) (hap : blk v ≠ some b) (hbw : Below w.heap.size w W) (hb : b < w.heap.size) :
    RowP (w4.setCell ⟨b, 1, none⟩ s) B s rs ∧ Moved w (w4.setCell ⟨b, 1, none⟩ s) b v s := by
  have hW := hbw.size
  have hsb : blk s ≠ some b := fun e => by
    rcases h4.2.2 with h | h
    · exact hap (h.symm.trans e)
    · have := h b e; omega
  refine ⟨h4.1.kept fun g hg => Below.heap_setCell _ _ _ _ (fun e => hsb (by rw [hg, e])), setMap hM4 s, ?_, h4.2.2.imp id fun h g hg => by have := h g hg; omega⟩
  refine ⟨h4.2.1.os.trans hbw.os, h4.2.1.tape.trans hbw.tape, h4.2.1.output.trans hbw.output, ?_, fun k hk hS => ?_⟩
  · have := h4.2.1.size
    simp [World.setCell]
    omega
  · exact ((Below.heap_setCell _ _ _ _ (fun e => hS (.inl e))).trans (h4.2.1.block k (by omega) (fun e => hS (.inr e.symm)))).trans (hbw.block k hk)

set_option maxHeartbeats 4000000 in
set_option maxRecDepth 100000 in
theorem lay_ok (b : Nat) (v : Value) (B : Nat) (ps : List (Pc Int)) (o : OkP ps) (lo hi : Int) (hm : mayB lo hi = true) (x : Int) (w : World) (h : IsMap w b v) (hB : B ≤ w.heap.size) (hr : RowP w B v ps) :
    Calls Try.prog 7 #[.pointer (some ⟨b, 0, none⟩), .agg #[.int .i32 lo, .int .i32 hi], Value.int .i64 x] w fun e w' => e = .returned (.int .i64 0) ∧ ∃ v', RowP w' B v' (repP ps lo hi [⟨lo, hi, x⟩]) ∧ Moved w w' b v v' := by
  have hB1 : Below w.heap.size w (w.alloc (.cells #[.int .i32 lo, .int .i32 hi] 28)) := (Below.refl _ w).alloc (Nat.le_refl _) _
  have H := hide (refuses_map b v lo hi _ (h.below hB1))
  rw [hm] at H
  have hm' := mayB_iff.1 hm
  have HM := hide (fun V (hV : Below w.heap.size w V) => h.below hV)
  have HR := hide (fun V k (hk : k = V.heap.size) (hV : Below w.heap.size w V) => replaced_any B v ps o lo hi hm' 0 (.slice (some ⟨k, 0, none⟩) 1 1) [⟨lo, hi, x⟩] (by simp) (V.alloc (.cells #[.int .i32 lo, .int .i32 hi, Value.int .i64 x] 60)) (by simp; have := hV.size; omega) (hr.below (hV.trans (((Below.refl _ V).alloc (Nat.le_refl _) _).mono hV.size))) (one_row V k hk lo hi x 0 (Nat.zero_le _)))
  refine Calls.mono (R := fun e w' => Hid (e = .returned (.int .i64 0) ∧ ∃ v', RowP w' B v' (repP ps lo hi [⟨lo, hi, x⟩]) ∧ Moved w w' b v v')) ?_ (fun e w' h => unhide h)
  have HRL := hide (fun g hg => RowV.lt hr g hg)
  have HAP := hide (h.apart hr)
  have HBL := hide h.lt
  obtain ⟨a, cap, rfl, hc1, hc2, _, _⟩ := hr.form
  clear h hr
  go_enter Try.func7, Try.ntmps7
  go_wp2_with (go_at_call 20; refine (unhide H).mono ?_; rintro e w2 ⟨rfl, hb⟩)
  have hbw := hB1.trans (hb.mono (by simp))
  have c1 := (unhide HM _ hbw).c1
  have f1 := (unhide HM _ hbw).f1
  have d1 : w2.cell? ⟨w.heap.size, 0, none⟩ = some (.int .i32 lo) := by rw [hb.cell (by simp), World.cell?_alloc_at _ _ _ _ rfl]; rfl
  have d2 : w2.cell? ⟨w.heap.size, 1, none⟩ = some (.int .i32 hi) := by rw [hb.cell (by simp), World.cell?_alloc_at _ _ _ _ rfl]; rfl
  have hS0 : (fun X : World => X.cell? ⟨w.heap.size, 0, none⟩ = some (.int .i32 lo) ∧ X.cell? ⟨w.heap.size, 1, none⟩ = some (.int .i32 hi)) w2.drew := ⟨d1, d2⟩
  obtain ⟨W3, hW3⟩ : ∃ W3, W3 = w2.drew.alloc (.cells #[.int .i32 lo, .int .i32 hi, Value.int .i64 x] 60) := ⟨_, rfl⟩
  have hb3 : Below (w.alloc (.cells #[.int .i32 lo, .int .i32 hi] 28)).heap.size (w.alloc (.cells #[.int .i32 lo, .int .i32 hi] 28)) W3 := by rw [hW3]; exact hb.drew.alloc hb.size _
  have KS : ∀ X, Below (w.alloc (.cells #[.int .i32 lo, .int .i32 hi] 28)).heap.size (w.alloc (.cells #[.int .i32 lo, .int .i32 hi] 28)) X → X.cell? ⟨w.heap.size, 0, none⟩ = some (.int .i32 lo) ∧ X.cell? ⟨w.heap.size, 1, none⟩ = some (.int .i32 hi) := fun X hX => ⟨by rw [hX.cell (by simp), World.cell?_alloc_at _ _ _ _ rfl]; rfl, by rw [hX.cell (by simp), World.cell?_alloc_at _ _ _ _ rfl]; rfl⟩
  have hbw3 := hB1.trans (hb3.mono (by simp))
  have c3 := (unhide HM _ hbw3).c1
  have hR3 := unhide HR w2.drew w2.heap.size rfl hbw.drew
  rw [← hW3] at hR3
  refine wp_region_held (S := fun X => X.cell? ⟨w.heap.size, 0, none⟩ = some (.int .i32 lo) ∧ X.cell? ⟨w.heap.size, 1, none⟩ = some (.int .i32 hi)) rfl ?_
  show wpAnyH _ _ _ _ _ _ _ _ w2.drew
  refine PStep.take (i := 0) (v := (.pointer (some ⟨b, 0, none⟩))) (some 14) rfl rfl (by kernel_rfl) (by kernel_rfl) (by kernel_rfl) (fun _ _ _ h => h) (.inl ⟨rfl, fun X hX => by simp [go_sem, execOp, Act.eval, Act.put]⟩) hS0 ?_
  refine PStep.take (i := 1) (v := (.pointer (some ⟨b, 0, none⟩))) (some 15) rfl rfl (by kernel_rfl) (by kernel_rfl) (by kernel_rfl) (fun _ _ _ h => h) (.inl ⟨rfl, fun X hX => by simp [go_sem, execOp, Act.eval, Act.put]⟩) hS0 ?_
  refine PStep.take (i := 2) (v := (.pointer (some ⟨b, 0, none⟩))) (some 16) rfl rfl (by kernel_rfl) (by kernel_rfl) (by kernel_rfl) (fun _ _ _ h => h) (.inl ⟨rfl, fun X hX => by simp [go_sem, execOp, Act.eval, Act.put]⟩) hS0 ?_
  refine PStep.take (i := 3) (v := (.pointer (some ⟨b, 1, none⟩))) (some 17) rfl rfl (by kernel_rfl) (by kernel_rfl) (by kernel_rfl) (fun _ _ _ h => h) (.inl ⟨rfl, fun X hX => by simp [go_sem, execOp, Act.eval, Act.put]⟩) hS0 ?_
  refine PStep.take (i := 5) (v := (.agg #[.int .i32 lo, .int .i32 hi])) (some 19) rfl rfl (by kernel_rfl) (by kernel_rfl) (by kernel_rfl) (fun _ _ _ h => h) (.inl ⟨rfl, fun X hX => by obtain ⟨hX1, hX2⟩ := hX; simp [go_sem, execOp, Act.eval, Act.put, hX1, hX2]⟩) hS0 ?_
  refine PStep.take (i := 6) (v := (.pointer (some ⟨w.heap.size, 0, none⟩))) (some 20) rfl rfl (by kernel_rfl) (by kernel_rfl) (by kernel_rfl) (fun _ _ _ h => h) (.inl ⟨rfl, fun X hX => by simp [go_sem, execOp, Act.eval, Act.put]⟩) hS0 ?_
  refine PStep.take (i := 7) (v := (.int .i32 lo)) (some 21) rfl rfl (by kernel_rfl) (by kernel_rfl) (by kernel_rfl) (fun _ _ _ h => h) (.inl ⟨rfl, fun X hX => by obtain ⟨hX1, hX2⟩ := hX; simp [go_sem, execOp, Act.eval, Act.put, hX1, hX2]⟩) hS0 ?_
  refine PStep.take (i := 8) (v := (.pointer (some ⟨w.heap.size, 1, none⟩))) (some 22) rfl rfl (by kernel_rfl) (by kernel_rfl) (by kernel_rfl) (fun _ _ _ h => h) (.inl ⟨rfl, fun X hX => by simp [go_sem, execOp, Act.eval, Act.put]⟩) hS0 ?_
  refine PStep.take (i := 9) (v := (.int .i32 hi)) (some 23) rfl rfl (by kernel_rfl) (by kernel_rfl) (by kernel_rfl) (fun _ _ _ h => h) (.inl ⟨rfl, fun X hX => by obtain ⟨hX1, hX2⟩ := hX; simp [go_sem, execOp, Act.eval, Act.put, hX1, hX2]⟩) hS0 ?_
  refine PStep.take (i := 10) (v := (Value.int .i64 x)) (some 24) rfl rfl (by kernel_rfl) (by kernel_rfl) (by kernel_rfl) (fun _ _ _ h => h) (.inl ⟨rfl, fun X hX => by simp [go_sem, execOp, Act.eval, Act.put]⟩) hS0 ?_
  refine PStep.take (i := 11) (v := (.agg #[.int .i32 lo, .int .i32 hi, Value.int .i64 x])) (some 25) rfl rfl (by kernel_rfl) (by kernel_rfl) (by kernel_rfl) (fun _ _ _ h => h) (.inl ⟨rfl, fun X hX => by simp [go_sem, execOp, Act.eval, Act.put]⟩) hS0 ?_
  refine wpAnyH_all (rs := [4, 12]) (by kernel_rfl) (by simp) ?_
  intro i hi4
  simp only [List.mem_cons, List.not_mem_nil, or_false] at hi4
  rcases hi4 with rfl | rfl
  · refine PStep.wpOp_value (w' := w2.drew) (v := .slice a ps.length cap) rfl rfl (some 18) rfl (by simp [go_sem, execOp, Act.eval, Act.put, c1]) ⟨hS0, ?_⟩
    refine wpAnyH_all (rs := [12]) (by kernel_rfl) (by simp) ?_
    intro i hi4
    obtain rfl : i = 12 := by simpa using hi4
    refine PStep.wpOp_value (w' := W3) (v := .slice (some ⟨w2.heap.size, 0, none⟩) 1 1) rfl rfl (some 26) rfl (by rw [hW3]; simp [go_sem, execOp, Act.eval, Act.put]) ⟨KS _ hb3, ?_⟩
    refine wpAnyH_all (rs := [13]) (by kernel_rfl) (by simp) ?_
    intro i hi4
    obtain rfl : i = 13 := by simpa using hi4
    refine PStep.wpOp_call (f := 22) (args := #[.slice a ps.length cap, .agg #[.int .i32 lo, .int .i32 hi], .slice (some ⟨w2.heap.size, 0, none⟩) 1 1]) (w' := W3) rfl rfl (some 27) rfl (by simp [go_sem, execOp, Act.eval, Act.put]) hR3 ?_
    rintro e w4 ⟨s4, rfl, h4⟩
    have hne := unhide HBL
    have hsz3 := hbw3.size
    have hM4 : IsMap w4 b (.slice a ps.length cap) := (h4.2.1.block b (by omega) (fun e => unhide HAP e.symm)).trans (unhide HM _ hbw3)
    have hc4 : ∀ k u, W3.cell? ⟨w.heap.size, k, none⟩ = some u → w4.cell? ⟨w.heap.size, k, none⟩ = some u := fun k u hk => h4.2.1.cell hk (fun e => by have := (unhide HRL _ e.symm).2; simp at this)
    have hS4 : w4.cell? ⟨w.heap.size, 0, none⟩ = some (.int .i32 lo) ∧ w4.cell? ⟨w.heap.size, 1, none⟩ = some (.int .i32 hi) := ⟨hc4 _ _ (KS _ hb3).1, hc4 _ _ (KS _ hb3).2⟩
    refine ⟨s4, rfl, hS4, ?_⟩
    refine wpAnyH_all (rs := [14]) (by kernel_rfl) (by simp) ?_
    intro i hi4
    obtain rfl : i = 14 := by simpa using hi4
    refine PStep.wpOp_value (w' := w4) (v := .pointer (some ⟨b, 0, none⟩)) rfl rfl (some 28) rfl (by simp [go_sem, execOp, Act.eval, Act.put]) ⟨hS4, ?_⟩
    refine wpAnyH_all (rs := [15]) (by kernel_rfl) (by simp) ?_
    intro i hi4
    obtain rfl : i = 15 := by simpa using hi4
    refine PStep.wpOp_value (w' := w4) (v := .pointer (some ⟨b, 1, none⟩)) rfl rfl (some 29) rfl (by simp [go_sem, execOp, Act.eval, Act.put]) ⟨hS4, ?_⟩
    refine wpAnyH_all (rs := [16]) (by kernel_rfl) (by simp) ?_
    intro i hi4
    obtain rfl : i = 16 := by simpa using hi4
    have c4 := hM4.c1
    have f4 := hM4.f1
    obtain ⟨a4, n4, k4, rfl⟩ : ∃ a n k, s4 = .slice a n k := by obtain ⟨a, k, e, _⟩ := h4.1.form; exact ⟨a, _, k, e⟩
    refine PStep.wpOp_skip (w' := w4.setCell ⟨b, 1, none⟩ (.slice a4 n4 k4)) rfl rfl none rfl (by simp [go_sem, execOp, Act.eval, Act.put, c4, f4]) ⟨?_, ?_⟩
    · exact ⟨(World.cell?_setCell_other _ _ _ _ (by first | (simp; omega) | simp)).trans hS4.1, (World.cell?_setCell_other _ _ _ _ (by first | (simp; omega) | simp)).trans hS4.2⟩
    refine wpAnyH_done (by kernel_rfl) ?_ _
    simp only [Act.put]
    go_wp2
    go_ret
    exact hide ⟨rfl, _, laid h4 hM4 (unhide HAP) hbw3 hne⟩
  · refine PStep.wpOp_value (w' := W3) (v := .slice (some ⟨w2.heap.size, 0, none⟩) 1 1) rfl rfl (some 26) rfl (by rw [hW3]; simp [go_sem, execOp, Act.eval, Act.put]) ⟨KS _ hb3, ?_⟩
    refine wpAnyH_all (rs := [4]) (by kernel_rfl) (by simp) ?_
    intro i hi4
    obtain rfl : i = 4 := by simpa using hi4
    refine PStep.wpOp_value (w' := W3) (v := .slice a ps.length cap) rfl rfl (some 18) rfl (by simp [go_sem, execOp, Act.eval, Act.put, c3]) ⟨KS _ hb3, ?_⟩
    refine wpAnyH_all (rs := [13]) (by kernel_rfl) (by simp) ?_
    intro i hi4
    obtain rfl : i = 13 := by simpa using hi4
    refine PStep.wpOp_call (f := 22) (args := #[.slice a ps.length cap, .agg #[.int .i32 lo, .int .i32 hi], .slice (some ⟨w2.heap.size, 0, none⟩) 1 1]) (w' := W3) rfl rfl (some 27) rfl (by simp [go_sem, execOp, Act.eval, Act.put]) hR3 ?_
    rintro e w4 ⟨s4, rfl, h4⟩
    have hne := unhide HBL
    have hsz3 := hbw3.size
    have hM4 : IsMap w4 b (.slice a ps.length cap) := (h4.2.1.block b (by omega) (fun e => unhide HAP e.symm)).trans (unhide HM _ hbw3)
    have hc4 : ∀ k u, W3.cell? ⟨w.heap.size, k, none⟩ = some u → w4.cell? ⟨w.heap.size, k, none⟩ = some u := fun k u hk => h4.2.1.cell hk (fun e => by have := (unhide HRL _ e.symm).2; simp at this)
    have hS4 : w4.cell? ⟨w.heap.size, 0, none⟩ = some (.int .i32 lo) ∧ w4.cell? ⟨w.heap.size, 1, none⟩ = some (.int .i32 hi) := ⟨hc4 _ _ (KS _ hb3).1, hc4 _ _ (KS _ hb3).2⟩
    refine ⟨s4, rfl, hS4, ?_⟩
    refine wpAnyH_all (rs := [14]) (by kernel_rfl) (by simp) ?_
    intro i hi4
    obtain rfl : i = 14 := by simpa using hi4
    refine PStep.wpOp_value (w' := w4) (v := .pointer (some ⟨b, 0, none⟩)) rfl rfl (some 28) rfl (by simp [go_sem, execOp, Act.eval, Act.put]) ⟨hS4, ?_⟩
    refine wpAnyH_all (rs := [15]) (by kernel_rfl) (by simp) ?_
    intro i hi4
    obtain rfl : i = 15 := by simpa using hi4
    refine PStep.wpOp_value (w' := w4) (v := .pointer (some ⟨b, 1, none⟩)) rfl rfl (some 29) rfl (by simp [go_sem, execOp, Act.eval, Act.put]) ⟨hS4, ?_⟩
    refine wpAnyH_all (rs := [16]) (by kernel_rfl) (by simp) ?_
    intro i hi4
    obtain rfl : i = 16 := by simpa using hi4
    have c4 := hM4.c1
    have f4 := hM4.f1
    obtain ⟨a4, n4, k4, rfl⟩ : ∃ a n k, s4 = .slice a n k := by obtain ⟨a, k, e, _⟩ := h4.1.form; exact ⟨a, _, k, e⟩
    refine PStep.wpOp_skip (w' := w4.setCell ⟨b, 1, none⟩ (.slice a4 n4 k4)) rfl rfl none rfl (by simp [go_sem, execOp, Act.eval, Act.put, c4, f4]) ⟨?_, ?_⟩
    · exact ⟨(World.cell?_setCell_other _ _ _ _ (by first | (simp; omega) | simp)).trans hS4.1, (World.cell?_setCell_other _ _ _ _ (by first | (simp; omega) | simp)).trans hS4.2⟩
    refine wpAnyH_done (by kernel_rfl) ?_ _
    simp only [Act.put]
    go_wp2
    go_ret
    exact hide ⟨rfl, _, laid h4 hM4 (unhide HAP) hbw3 hne⟩
end Go.Proofs.Ytnhcbcbceaeceaa.VI
