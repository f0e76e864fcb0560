/-
  These texts, one behind the other: PLayN, PPutN, PAtN.
-/
import Derived.Test.YthgaadjkjnibaaaGreatDoorPn
import Derived.Test.YthgaadjkjnibaaaGreatDoorPr
import Derived.Deep.LoopGhost
/-
  Lay of a map: those of the range have the value, whatever they had.
-/
namespace Go.Proofs.YthgaadjkjnibaaaGreatDoor.VN
open Go.RowKit Go.PlainAid Go.Lib Go.PRow Go.Shelf
set_option linter.unusedVariables false
set_option linter.unusedSimpArgs false

theorem cell_heap {W : World} {b k : Nat} {cs : Array Value} {T : TypeId} {v : Value} (h : W.heap[b]? = some (.cells cs T (0, 0))) (hk : cs[k]? = some v) : W.cell? ⟨b, k, none⟩ = some v := by simp [World.cell?, h, hk]

/-- of what was there, only the blocks that S tells have changed -/
structure Chg (S : Nat → Prop) (w w' : World) : Prop where
  os : w'.os = w.os
  tape : w'.tape = w.tape
  output : w'.output = w.output
  size : w.heap.size ≤ w'.heap.size
  block : ∀ k, k < w.heap.size → ¬ S k → w'.heap[k]? = w.heap[k]?
theorem Below.chg {w w' : World} (h : Below w.heap.size w w') (S : Nat → Prop) : Chg S w w' := ⟨h.os, h.tape, h.output, h.size, fun k hk _ => h.block k hk⟩
theorem Chg.below {S : Nat → Prop} {w w' : World} (h : Chg S w w') {a : World} {B : Nat} (hb : Below B a w) (hB : B ≤ w.heap.size) (hS : ∀ k, S k → B ≤ k) : Below B a w' :=
  hb.trans ⟨h.os, h.tape, h.output, h.size, fun k hk => h.block k (by omega) (fun e => by have := hS k e; omega)⟩

/-- what becomes of the map at b, which had the slice v: it has v' -/
def Moved (w w' : World) (b : Nat) (v v' : Value) : Prop :=
  IsMap w' b v' ∧ Chg (fun k => k = b ∨ blk v = some k) w w' ∧ (blk v' = blk v ∨ ∀ g, blk v' = some g → w.heap.size ≤ g)

theorem setMap {W : World} {b : Nat} {v : Value} (h : IsMap W b v) (v' : Value) : IsMap (W.setCell ⟨b, 1, none⟩ v') b v' := by
  have h' : W.heap[b]? = _ := h
  rw [setCell_eq_setRow W b 1 _ _ _ v' h']
  exact setRow_heap W b _ _ _ _ h'

/-- the store of a map's new slice -/
theorem laid {w W w4 : World} {b B : Nat} {v s : Value} {rs : List (Pc (Int × Int))} (h4 : Turned W w4 B v s rs) (hM4 : IsMap w4 b v) (hap : blk v ≠ some b) (hbw : Below w.heap.size w W) (hb : b < w.heap.size) :
    RowP (w4.setCell ⟨b, 1, none⟩ s) B s rs ∧ Moved w (w4.setCell ⟨b, 1, none⟩ s) b v s := by
  have hW := hbw.size
  have hsb : blk s ≠ some b := fun e => by
    rcases h4.2.2 with h | h
    · exact hap (h.symm.trans e)
    · have := h b e; omega
  refine ⟨h4.1.kept fun g hg => Below.heap_setCell _ _ _ _ (fun e => hsb (by rw [hg, e])), setMap hM4 s, ?_, h4.2.2.imp id fun h g hg => by have := h g hg; omega⟩
  refine ⟨h4.2.1.os.trans hbw.os, h4.2.1.tape.trans hbw.tape, h4.2.1.output.trans hbw.output, ?_, fun k hk hS => ?_⟩
  · have := h4.2.1.size
    simp [World.setCell]
    omega
  · exact ((Below.heap_setCell _ _ _ _ (fun e => hS (.inl e))).trans (h4.2.1.block k (by omega) (fun e => hS (.inr e.symm)))).trans (hbw.block k hk)

set_option maxHeartbeats 4000000 in
set_option maxRecDepth 100000 in
theorem lay_ok (b : Nat) (v : Value) (B : Nat) (ps : List (Pc (Int × Int))) (o : OkP ps) (lo hi : Int) (hm : mayB lo hi = true) (hFU : frI ps lo = upI ps hi) (x : (Int × Int)) (w : World) (h : IsMap w b v) (hB : B ≤ w.heap.size) (hr : RowP w B v ps) :
    Calls Tryz.prog 93 #[.pointer (some ⟨b, 0, none⟩), .agg #[.int .i32 lo, .int .i32 hi], encN x] w fun e w' => e = .returned (.int .i64 0) ∧ ∃ v', RowP w' B v' (repP ps lo hi [⟨lo, hi, x⟩]) ∧ Moved w w' b v v' := by
  obtain ⟨W0, hW0⟩ : ∃ W0, (w.alloc (.cells #[.int .i32 lo, .int .i32 hi] 32)).alloc (.cells #[.int .u8 x.1, .int .i64 x.2] 78) = W0 := ⟨_, rfl⟩
  have hB1 : Below w.heap.size w W0 := by rw [← hW0]; go_grown
  have hsz0 : W0.heap.size = w.heap.size + 2 := by rw [← hW0]; simp
  have q0 : W0.cell? ⟨w.heap.size, 0, none⟩ = some (.int .i32 lo) ∧ W0.cell? ⟨w.heap.size, 1, none⟩ = some (.int .i32 hi) ∧ W0.cell? ⟨w.heap.size + 1, 0, none⟩ = some (.int .u8 x.1) ∧ W0.cell? ⟨w.heap.size + 1, 1, none⟩ = some (.int .i64 x.2) := by
    rw [← hW0]
    have h1 := heap_alloc_new w (.cells #[.int .i32 lo, .int .i32 hi] 32)
    have h2 := (Below.heap_alloc (w.alloc (.cells #[.int .i32 lo, .int .i32 hi] 32)) (.cells #[.int .u8 x.1, .int .i64 x.2] 78) w.heap.size (by simp)).trans h1
    have h3 := heap_alloc_new (w.alloc (.cells #[.int .i32 lo, .int .i32 hi] 32)) (.cells #[.int .u8 x.1, .int .i64 x.2] 78)
    rw [show (w.alloc (.cells #[.int .i32 lo, .int .i32 hi] 32)).heap.size = w.heap.size + 1 by simp] at h3
    exact ⟨cell_heap h2 rfl, cell_heap h2 rfl, cell_heap h3 rfl, cell_heap h3 rfl⟩
  have H := hide (refuses_map b v lo hi W0 (h.below hB1))
  rw [hm] at H
  have hm' := mayB_iff.1 hm
  have HM := hide (fun V (hV : Below w.heap.size w V) => h.below hV)
  have HR := hide (fun V k (hk : k = V.heap.size) (hV : Below w.heap.size w V) => replaced_any B v ps o lo hi hm' hFU 0 (.slice (some ⟨k, 0, none⟩) 1 1) [⟨lo, hi, x⟩] (by simp) (V.alloc (.cells #[.int .i32 lo, .int .i32 hi, .int .u8 x.1, .int .i64 x.2] 102)) (by simp; have := hV.size; omega) (hr.below (hV.trans (((Below.refl _ V).alloc (Nat.le_refl _) _).mono hV.size))) (one_row V k hk lo hi x 0 (Nat.zero_le _)))
  refine Calls.mono (R := fun e w' => Hid (e = .returned (.int .i64 0) ∧ ∃ v', RowP w' B v' (repP ps lo hi [⟨lo, hi, x⟩]) ∧ Moved w w' b v v')) ?_ (fun e w' h => unhide h)
  have HRL := hide (fun g hg => RowV.lt hr g hg)
  have HAP := hide (h.apart hr)
  have HBL := hide h.lt
  obtain ⟨a, cap, rfl, hc1, hc2, _, _⟩ := hr.form
  clear h hr hFU
  go_enter Tryz.func93, Tryz.ntmps93
  go_wp2_with (go_at_call 92; refine (unhide H).mono ?_; rintro e w2 ⟨rfl, hb⟩)
  have hbw := hB1.trans (hb.mono (by omega))
  have c1 := (unhide HM _ hbw).c1
  have f1 := (unhide HM _ hbw).f1
  have KS : ∀ X, Below W0.heap.size W0 X → X.cell? ⟨w.heap.size, 0, none⟩ = some (.int .i32 lo) ∧ X.cell? ⟨w.heap.size, 1, none⟩ = some (.int .i32 hi) ∧ X.cell? ⟨w.heap.size + 1, 0, none⟩ = some (.int .u8 x.1) ∧ X.cell? ⟨w.heap.size + 1, 1, none⟩ = some (.int .i64 x.2) := fun X hX => by
    have e : ∀ (k j : Nat), k < W0.heap.size → X.cell? ⟨k, j, none⟩ = W0.cell? ⟨k, j, none⟩ := fun k j hk => hX.cell hk
    rw [e _ _ (by omega), e _ _ (by omega), e _ _ (by omega), e _ _ (by omega)]
    exact q0
  have hS0 := KS w2.drew hb.drew
  obtain ⟨W3, hW3⟩ : ∃ W3, W3 = w2.drew.alloc (.cells #[.int .i32 lo, .int .i32 hi, .int .u8 x.1, .int .i64 x.2] 102) := ⟨_, rfl⟩
  have hb3 : Below W0.heap.size W0 W3 := by rw [hW3]; exact hb.drew.alloc hb.size _
  have hbw3 := hB1.trans (hb3.mono (by omega))
  have c3 := (unhide HM _ hbw3).c1
  have hR3 := unhide HR w2.drew w2.heap.size rfl hbw.drew
  rw [← hW3] at hR3
  refine wp_region_held (S := fun X => X.cell? ⟨w.heap.size, 0, none⟩ = some (.int .i32 lo) ∧ X.cell? ⟨w.heap.size, 1, none⟩ = some (.int .i32 hi) ∧ X.cell? ⟨w.heap.size + 1, 0, none⟩ = some (.int .u8 x.1) ∧ X.cell? ⟨w.heap.size + 1, 1, none⟩ = some (.int .i64 x.2)) rfl ?_
  show wpAnyH _ _ _ _ _ _ _ _ w2.drew
  refine PStep.take (i := 0) (v := (.pointer (some ⟨b, 0, none⟩))) (some 14) rfl rfl (by kernel_rfl) (by kernel_rfl) (by kernel_rfl) (fun _ _ _ h => h) (.inl ⟨rfl, fun X hX => by simp [go_sem, execOp, Act.eval, Act.put]⟩) hS0 ?_
  refine PStep.take (i := 1) (v := (.pointer (some ⟨b, 0, none⟩))) (some 15) rfl rfl (by kernel_rfl) (by kernel_rfl) (by kernel_rfl) (fun _ _ _ h => h) (.inl ⟨rfl, fun X hX => by simp [go_sem, execOp, Act.eval, Act.put]⟩) hS0 ?_
  refine PStep.take (i := 2) (v := (.pointer (some ⟨b, 0, none⟩))) (some 16) rfl rfl (by kernel_rfl) (by kernel_rfl) (by kernel_rfl) (fun _ _ _ h => h) (.inl ⟨rfl, fun X hX => by simp [go_sem, execOp, Act.eval, Act.put]⟩) hS0 ?_
  refine PStep.take (i := 3) (v := (.pointer (some ⟨b, 1, none⟩))) (some 17) rfl rfl (by kernel_rfl) (by kernel_rfl) (by kernel_rfl) (fun _ _ _ h => h) (.inl ⟨rfl, fun X hX => by simp [go_sem, execOp, Act.eval, Act.put]⟩) hS0 ?_
  refine PStep.take (i := 5) (v := (.agg #[.int .i32 lo, .int .i32 hi])) (some 19) rfl rfl (by kernel_rfl) (by kernel_rfl) (by kernel_rfl) (fun _ _ _ h => h) (.inl ⟨rfl, fun X hX => by obtain ⟨hX1, hX2, hX3, hX4⟩ := hX; simp [go_sem, execOp, Act.eval, Act.put, hX1, hX2, hX3, hX4]⟩) hS0 ?_
  refine PStep.take (i := 6) (v := (.pointer (some ⟨w.heap.size, 0, none⟩))) (some 20) rfl rfl (by kernel_rfl) (by kernel_rfl) (by kernel_rfl) (fun _ _ _ h => h) (.inl ⟨rfl, fun X hX => by simp [go_sem, execOp, Act.eval, Act.put]⟩) hS0 ?_
  refine PStep.take (i := 7) (v := (.int .i32 lo)) (some 21) rfl rfl (by kernel_rfl) (by kernel_rfl) (by kernel_rfl) (fun _ _ _ h => h) (.inl ⟨rfl, fun X hX => by obtain ⟨hX1, hX2, hX3, hX4⟩ := hX; simp [go_sem, execOp, Act.eval, Act.put, hX1, hX2, hX3, hX4]⟩) hS0 ?_
  refine PStep.take (i := 8) (v := (.pointer (some ⟨w.heap.size, 1, none⟩))) (some 22) rfl rfl (by kernel_rfl) (by kernel_rfl) (by kernel_rfl) (fun _ _ _ h => h) (.inl ⟨rfl, fun X hX => by simp [go_sem, execOp, Act.eval, Act.put]⟩) hS0 ?_
  refine PStep.take (i := 9) (v := (.int .i32 hi)) (some 23) rfl rfl (by kernel_rfl) (by kernel_rfl) (by kernel_rfl) (fun _ _ _ h => h) (.inl ⟨rfl, fun X hX => by obtain ⟨hX1, hX2, hX3, hX4⟩ := hX; simp [go_sem, execOp, Act.eval, Act.put, hX1, hX2, hX3, hX4]⟩) hS0 ?_
  refine PStep.take (i := 10) (v := (encN x)) (some 24) rfl rfl (by kernel_rfl) (by kernel_rfl) (by kernel_rfl) (fun _ _ _ h => h) (.inl ⟨rfl, fun X hX => by obtain ⟨hX1, hX2, hX3, hX4⟩ := hX; simp [go_sem, execOp, Act.eval, Act.put, hX1, hX2, hX3, hX4]⟩) hS0 ?_
  refine PStep.take (i := 11) (v := (.agg #[.int .i32 lo, .int .i32 hi, .int .u8 x.1, .int .i64 x.2])) (some 25) rfl rfl (by kernel_rfl) (by kernel_rfl) (by kernel_rfl) (fun _ _ _ h => h) (.inl ⟨rfl, fun X hX => by simp [go_sem, execOp, Act.eval, Act.put]⟩) hS0 ?_
  refine wpAnyH_all (rs := [4, 12]) (by kernel_rfl) (by simp) ?_
  intro i hi4
  simp only [List.mem_cons, List.not_mem_nil, or_false] at hi4
  rcases hi4 with rfl | rfl
  · refine PStep.wpOp_value (w' := w2.drew) (v := .slice a ps.length cap) rfl rfl (some 18) rfl (by simp [go_sem, execOp, Act.eval, Act.put, c1]) ⟨hS0, ?_⟩
    refine wpAnyH_all (rs := [12]) (by kernel_rfl) (by simp) ?_
    intro i hi4
    obtain rfl : i = 12 := by simpa using hi4
    refine PStep.wpOp_value (w' := W3) (v := .slice (some ⟨w2.heap.size, 0, none⟩) 1 1) rfl rfl (some 26) rfl (by rw [hW3]; simp [go_sem, execOp, Act.eval, Act.put]) ⟨KS _ hb3, ?_⟩
    refine wpAnyH_all (rs := [13]) (by kernel_rfl) (by simp) ?_
    intro i hi4
    obtain rfl : i = 13 := by simpa using hi4
    refine PStep.wpOp_call (f := 130) (args := #[.slice a ps.length cap, .agg #[.int .i32 lo, .int .i32 hi], .slice (some ⟨w2.heap.size, 0, none⟩) 1 1]) (w' := W3) rfl rfl (some 27) rfl (by simp [go_sem, execOp, Act.eval, Act.put]) hR3 ?_
    rintro e w4 ⟨s4, rfl, h4⟩
    have hne := unhide HBL
    have hsz3 := hbw3.size
    have hM4 : IsMap w4 b (.slice a ps.length cap) := (h4.2.1.block b (by omega) (fun e => unhide HAP e.symm)).trans (unhide HM _ hbw3)
    have hc4 : ∀ j k u, w.heap.size ≤ j → W3.cell? ⟨j, k, none⟩ = some u → w4.cell? ⟨j, k, none⟩ = some u := fun j k u hj hk => h4.2.1.cell hk (fun e => by have := (unhide HRL _ e.symm).2; simp at this; omega)
    have hS4 : w4.cell? ⟨w.heap.size, 0, none⟩ = some (.int .i32 lo) ∧ w4.cell? ⟨w.heap.size, 1, none⟩ = some (.int .i32 hi) ∧ w4.cell? ⟨w.heap.size + 1, 0, none⟩ = some (.int .u8 x.1) ∧ w4.cell? ⟨w.heap.size + 1, 1, none⟩ = some (.int .i64 x.2) := ⟨hc4 _ _ _ (Nat.le_refl _) (KS _ hb3).1, hc4 _ _ _ (Nat.le_refl _) (KS _ hb3).2.1, hc4 _ _ _ (Nat.le_succ _) (KS _ hb3).2.2.1, hc4 _ _ _ (Nat.le_succ _) (KS _ hb3).2.2.2⟩
    refine ⟨s4, rfl, hS4, ?_⟩
    refine wpAnyH_all (rs := [14]) (by kernel_rfl) (by simp) ?_
    intro i hi4
    obtain rfl : i = 14 := by simpa using hi4
    refine PStep.wpOp_value (w' := w4) (v := .pointer (some ⟨b, 0, none⟩)) rfl rfl (some 28) rfl (by simp [go_sem, execOp, Act.eval, Act.put]) ⟨hS4, ?_⟩
    refine wpAnyH_all (rs := [15]) (by kernel_rfl) (by simp) ?_
    intro i hi4
    obtain rfl : i = 15 := by simpa using hi4
    refine PStep.wpOp_value (w' := w4) (v := .pointer (some ⟨b, 1, none⟩)) rfl rfl (some 29) rfl (by simp [go_sem, execOp, Act.eval, Act.put]) ⟨hS4, ?_⟩
    refine wpAnyH_all (rs := [16]) (by kernel_rfl) (by simp) ?_
    intro i hi4
    obtain rfl : i = 16 := by simpa using hi4
    have c4 := hM4.c1
    have f4 := hM4.f1
    obtain ⟨a4, n4, k4, rfl⟩ : ∃ a n k, s4 = .slice a n k := by obtain ⟨a, k, e, _⟩ := h4.1.form; exact ⟨a, _, k, e⟩
    refine PStep.wpOp_skip (w' := w4.setCell ⟨b, 1, none⟩ (.slice a4 n4 k4)) rfl rfl none rfl (by simp [go_sem, execOp, Act.eval, Act.put, c4, f4]) ⟨?_, ?_⟩
    · exact ⟨(World.cell?_setCell_other _ _ _ _ (by first | (simp; omega) | simp)).trans hS4.1, (World.cell?_setCell_other _ _ _ _ (by first | (simp; omega) | simp)).trans hS4.2.1, (World.cell?_setCell_other _ _ _ _ (by first | (simp; omega) | simp)).trans hS4.2.2.1, (World.cell?_setCell_other _ _ _ _ (by first | (simp; omega) | simp)).trans hS4.2.2.2⟩
    refine wpAnyH_done (by kernel_rfl) ?_ _
    simp only [Act.put]
    go_wp2
    go_ret
    exact hide ⟨rfl, _, laid h4 hM4 (unhide HAP) hbw3 hne⟩
  · refine PStep.wpOp_value (w' := W3) (v := .slice (some ⟨w2.heap.size, 0, none⟩) 1 1) rfl rfl (some 26) rfl (by rw [hW3]; simp [go_sem, execOp, Act.eval, Act.put]) ⟨KS _ hb3, ?_⟩
    refine wpAnyH_all (rs := [4]) (by kernel_rfl) (by simp) ?_
    intro i hi4
    obtain rfl : i = 4 := by simpa using hi4
    refine PStep.wpOp_value (w' := W3) (v := .slice a ps.length cap) rfl rfl (some 18) rfl (by simp [go_sem, execOp, Act.eval, Act.put, c3]) ⟨KS _ hb3, ?_⟩
    refine wpAnyH_all (rs := [13]) (by kernel_rfl) (by simp) ?_
    intro i hi4
    obtain rfl : i = 13 := by simpa using hi4
    refine PStep.wpOp_call (f := 130) (args := #[.slice a ps.length cap, .agg #[.int .i32 lo, .int .i32 hi], .slice (some ⟨w2.heap.size, 0, none⟩) 1 1]) (w' := W3) rfl rfl (some 27) rfl (by simp [go_sem, execOp, Act.eval, Act.put]) hR3 ?_
    rintro e w4 ⟨s4, rfl, h4⟩
    have hne := unhide HBL
    have hsz3 := hbw3.size
    have hM4 : IsMap w4 b (.slice a ps.length cap) := (h4.2.1.block b (by omega) (fun e => unhide HAP e.symm)).trans (unhide HM _ hbw3)
    have hc4 : ∀ j k u, w.heap.size ≤ j → W3.cell? ⟨j, k, none⟩ = some u → w4.cell? ⟨j, k, none⟩ = some u := fun j k u hj hk => h4.2.1.cell hk (fun e => by have := (unhide HRL _ e.symm).2; simp at this; omega)
    have hS4 : w4.cell? ⟨w.heap.size, 0, none⟩ = some (.int .i32 lo) ∧ w4.cell? ⟨w.heap.size, 1, none⟩ = some (.int .i32 hi) ∧ w4.cell? ⟨w.heap.size + 1, 0, none⟩ = some (.int .u8 x.1) ∧ w4.cell? ⟨w.heap.size + 1, 1, none⟩ = some (.int .i64 x.2) := ⟨hc4 _ _ _ (Nat.le_refl _) (KS _ hb3).1, hc4 _ _ _ (Nat.le_refl _) (KS _ hb3).2.1, hc4 _ _ _ (Nat.le_succ _) (KS _ hb3).2.2.1, hc4 _ _ _ (Nat.le_succ _) (KS _ hb3).2.2.2⟩
    refine ⟨s4, rfl, hS4, ?_⟩
    refine wpAnyH_all (rs := [14]) (by kernel_rfl) (by simp) ?_
    intro i hi4
    obtain rfl : i = 14 := by simpa using hi4
    refine PStep.wpOp_value (w' := w4) (v := .pointer (some ⟨b, 0, none⟩)) rfl rfl (some 28) rfl (by simp [go_sem, execOp, Act.eval, Act.put]) ⟨hS4, ?_⟩
    refine wpAnyH_all (rs := [15]) (by kernel_rfl) (by simp) ?_
    intro i hi4
    obtain rfl : i = 15 := by simpa using hi4
    refine PStep.wpOp_value (w' := w4) (v := .pointer (some ⟨b, 1, none⟩)) rfl rfl (some 29) rfl (by simp [go_sem, execOp, Act.eval, Act.put]) ⟨hS4, ?_⟩
    refine wpAnyH_all (rs := [16]) (by kernel_rfl) (by simp) ?_
    intro i hi4
    obtain rfl : i = 16 := by simpa using hi4
    have c4 := hM4.c1
    have f4 := hM4.f1
    obtain ⟨a4, n4, k4, rfl⟩ : ∃ a n k, s4 = .slice a n k := by obtain ⟨a, k, e, _⟩ := h4.1.form; exact ⟨a, _, k, e⟩
    refine PStep.wpOp_skip (w' := w4.setCell ⟨b, 1, none⟩ (.slice a4 n4 k4)) rfl rfl none rfl (by simp [go_sem, execOp, Act.eval, Act.put, c4, f4]) ⟨?_, ?_⟩
    · exact ⟨(World.cell?_setCell_other _ _ _ _ (by first | (simp; omega) | simp)).trans hS4.1, (World.cell?_setCell_other _ _ _ _ (by first | (simp; omega) | simp)).trans hS4.2.1, (World.cell?_setCell_other _ _ _ _ (by first | (simp; omega) | simp)).trans hS4.2.2.1, (World.cell?_setCell_other _ _ _ _ (by first | (simp; omega) | simp)).trans hS4.2.2.2⟩
    refine wpAnyH_done (by kernel_rfl) ?_ _
    simp only [Act.put]
    go_wp2
    go_ret
    exact hide ⟨rfl, _, laid h4 hM4 (unhide HAP) hbw3 hne⟩
end Go.Proofs.YthgaadjkjnibaaaGreatDoor.VN
/-
  Put of a map, and what Put and Lay refuse.
-/
namespace Go.Proofs.YthgaadjkjnibaaaGreatDoor.VN
open Go.RowKit Go.PlainAid Go.Lib Go.PRow Go.Shelf
set_option linter.unusedVariables false
set_option linter.unusedSimpArgs false

theorem Moved.after {w W w' : World} {b : Nat} {v v' : Value} (h : Moved W w' b v v') (hb : Below w.heap.size w W) : Moved w w' b v v' :=
  ⟨h.1, ⟨h.2.1.os.trans hb.os, h.2.1.tape.trans hb.tape, h.2.1.output.trans hb.output, Nat.le_trans hb.size h.2.1.size, fun k hk hS => (h.2.1.block k (Nat.lt_of_lt_of_le hk hb.size) hS).trans (hb.block k hk)⟩,
    h.2.2.imp id fun h g hg => Nat.le_trans hb.size (h g hg)⟩

/-- does a piece meet the range? -/
def meetsP (ps : List (Pc (Int × Int))) (lo hi : Int) : Bool := decide (frI ps lo < upI ps hi)

/-- how Put ends -/
def PutEnd (ps : List (Pc (Int × Int))) (lo hi : Int) (x : (Int × Int)) (B : Nat) (w : World) (b : Nat) (v : Value) (e : Ending) (w' : World) : Prop :=
  if meetsP ps lo hi then e = .returned (.int .i64 42) ∧ Below w.heap.size w w' else e = .returned (.int .i64 0) ∧ ∃ v', RowP w' B v' (repP ps lo hi [⟨lo, hi, x⟩]) ∧ Moved w w' b v v'
theorem PutEnd.no {ps : List (Pc (Int × Int))} {lo hi : Int} {x : (Int × Int)} {B : Nat} {w : World} {b : Nat} {v : Value} {w' : World} (h : meetsP ps lo hi = true) (hb : Below w.heap.size w w') : PutEnd ps lo hi x B w b v (.returned (.int .i64 42)) w' := by
  unfold PutEnd
  rw [if_pos h]
  exact ⟨rfl, hb⟩
theorem PutEnd.yes {ps : List (Pc (Int × Int))} {lo hi : Int} {x : (Int × Int)} {B : Nat} {w : World} {b : Nat} {v : Value} {w' : World} (h : meetsP ps lo hi = false) (hb : ∃ v', RowP w' B v' (repP ps lo hi [⟨lo, hi, x⟩]) ∧ Moved w w' b v v') : PutEnd ps lo hi x B w b v (.returned (.int .i64 0)) w' := by
  unfold PutEnd
  rw [if_neg (by rw [h]; simp)]
  exact ⟨rfl, hb⟩

set_option maxHeartbeats 4000000 in
set_option maxRecDepth 100000 in
theorem put_may (b : Nat) (v : Value) (B : Nat) (ps : List (Pc (Int × Int))) (o : OkP ps) (lo hi : Int) (hm : mayB lo hi = true) (x : (Int × Int)) (w : World) (h : IsMap w b v) (hB : B ≤ w.heap.size) (hr : RowP w B v ps) :
    Calls Tryz.prog 62 #[(.pointer (some ⟨b, 0, none⟩)), .agg #[.int .i32 lo, .int .i32 hi], encN x] w fun e w' => PutEnd ps lo hi x B w b v e w' := by
  obtain ⟨W0, hW0⟩ : ∃ W0, (w.alloc (.cells #[.int .i32 lo, .int .i32 hi] 32)).alloc (.cells #[.int .u8 x.1, .int .i64 x.2] 78) = W0 := ⟨_, rfl⟩
  have hB1 : Below w.heap.size w W0 := by rw [← hW0]; go_grown
  have hsz0 : W0.heap.size = w.heap.size + 2 := by rw [← hW0]; simp
  have q0 : W0.cell? ⟨w.heap.size, 0, none⟩ = some (.int .i32 lo) ∧ W0.cell? ⟨w.heap.size, 1, none⟩ = some (.int .i32 hi) ∧ W0.cell? ⟨w.heap.size + 1, 0, none⟩ = some (.int .u8 x.1) ∧ W0.cell? ⟨w.heap.size + 1, 1, none⟩ = some (.int .i64 x.2) := by
    rw [← hW0]
    have h1 := heap_alloc_new w (.cells #[.int .i32 lo, .int .i32 hi] 32)
    have h2 := (Below.heap_alloc (w.alloc (.cells #[.int .i32 lo, .int .i32 hi] 32)) (.cells #[.int .u8 x.1, .int .i64 x.2] 78) w.heap.size (by simp)).trans h1
    have h3 := heap_alloc_new (w.alloc (.cells #[.int .i32 lo, .int .i32 hi] 32)) (.cells #[.int .u8 x.1, .int .i64 x.2] 78)
    rw [show (w.alloc (.cells #[.int .i32 lo, .int .i32 hi] 32)).heap.size = w.heap.size + 1 by simp] at h3
    exact ⟨cell_heap h2 rfl, cell_heap h2 rfl, cell_heap h3 rfl, cell_heap h3 rfl⟩
  have H := hide (refuses_map b v lo hi W0 (h.below hB1))
  rw [hm] at H
  have hm' := mayB_iff.1 hm
  have HMt := hide (fun V (hV : Below w.heap.size w V) => meeting_any B v ps o lo hi hm'.2.1 V (hr.below hV))
  have HL := hide (fun V (hV : Below w.heap.size w V) (hFE : frI ps lo = upI ps hi) => lay_ok b v B ps o lo hi hm hFE x V (h.below hV) (Nat.le_trans hB hV.size) (hr.below hV))
  have HM := hide (fun V (hV : Below w.heap.size w V) => h.below hV)
  have hFU : frI ps lo ≤ upI ps hi := by
    obtain ⟨A, M, C, c⟩ := cut3 o hm'.2.1
    rw [c.fr, c.up]; omega
  have hU := upI_le ps hi
  have hlen := okP_len o
  refine Calls.mono (R := fun e w' => PutEnd ps lo hi x B w b v e w') ?_ (fun e w' h => h)
  obtain ⟨a, cap, rfl, hc1, hc2, -, -⟩ := hr.form
  clear h hr
  have KS : ∀ X, Below W0.heap.size W0 X → X.cell? ⟨w.heap.size, 0, none⟩ = some (.int .i32 lo) ∧ X.cell? ⟨w.heap.size, 1, none⟩ = some (.int .i32 hi) ∧ X.cell? ⟨b, 1, none⟩ = some (.slice a ps.length cap) ∧ X.cell? ⟨w.heap.size + 1, 0, none⟩ = some (.int .u8 x.1) ∧ X.cell? ⟨w.heap.size + 1, 1, none⟩ = some (.int .i64 x.2) := fun X hX => by
    have e : ∀ (k j : Nat), k < W0.heap.size → X.cell? ⟨k, j, none⟩ = W0.cell? ⟨k, j, none⟩ := fun k j hk => hX.cell hk
    rw [e w.heap.size 0 (by omega), e w.heap.size 1 (by omega), e (w.heap.size + 1) 0 (by omega), e (w.heap.size + 1) 1 (by omega)]
    exact ⟨q0.1, q0.2.1, (unhide HM _ (hB1.trans (hX.mono (by omega)))).c1, q0.2.2.1, q0.2.2.2⟩
  have KSH := hide KS
  clear KS
  obtain ⟨mv, hmv⟩ : ∃ mv, mv = midV (.slice a ps.length cap) (frI ps lo) (upI ps hi) := ⟨_, rfl⟩
  have hml : ∃ a' c', mv = .slice a' (upI ps hi - frI ps lo) c' := by rw [hmv]; unfold midV; simp only; split <;> exact ⟨_, _, rfl⟩
  rw [← hmv] at HMt
  clear hmv
  obtain ⟨a', c', rfl⟩ := hml
  go_enter Tryz.func62, Tryz.ntmps62
  go_wp2_with (go_at_call 92; refine (unhide H).mono ?_; rintro e w2 ⟨rfl, hb⟩)
  have hbw := hB1.trans (hb.mono (by omega))
  have hS0 : (fun X : World => X.cell? ⟨w.heap.size, 0, none⟩ = some (.int .i32 lo) ∧ X.cell? ⟨w.heap.size, 1, none⟩ = some (.int .i32 hi) ∧ X.cell? ⟨b, 1, none⟩ = some (.slice a ps.length cap) ∧ X.cell? ⟨w.heap.size + 1, 0, none⟩ = some (.int .u8 x.1) ∧ X.cell? ⟨w.heap.size + 1, 1, none⟩ = some (.int .i64 x.2)) w2.drew := unhide KSH _ hb.drew
  have hM2 := unhide HMt w2.drew hbw.drew
  refine wp_region_held (S := fun X : World => X.cell? ⟨w.heap.size, 0, none⟩ = some (.int .i32 lo) ∧ X.cell? ⟨w.heap.size, 1, none⟩ = some (.int .i32 hi) ∧ X.cell? ⟨b, 1, none⟩ = some (.slice a ps.length cap) ∧ X.cell? ⟨w.heap.size + 1, 0, none⟩ = some (.int .u8 x.1) ∧ X.cell? ⟨w.heap.size + 1, 1, none⟩ = some (.int .i64 x.2)) rfl ?_
  show wpAnyH _ _ _ _ _ _ _ _ w2.drew
  refine PStep.take (i := 0) (v := (.pointer (some ⟨b, 0, none⟩))) (some 14) rfl rfl (by kernel_rfl) (by kernel_rfl) (by kernel_rfl) (fun _ _ _ h => h) (.inl ⟨rfl, fun X hX => by simp [go_sem, execOp, Act.eval, Act.put]⟩) hS0 ?_
  refine PStep.take (i := 1) (v := (.pointer (some ⟨b, 0, none⟩))) (some 15) rfl rfl (by kernel_rfl) (by kernel_rfl) (by kernel_rfl) (fun _ _ _ h => h) (.inl ⟨rfl, fun X hX => by simp [go_sem, execOp, Act.eval, Act.put]⟩) hS0 ?_
  refine PStep.take (i := 2) (v := (.pointer (some ⟨b, 1, none⟩))) (some 16) rfl rfl (by kernel_rfl) (by kernel_rfl) (by kernel_rfl) (fun _ _ _ h => h) (.inl ⟨rfl, fun X hX => by simp [go_sem, execOp, Act.eval, Act.put]⟩) hS0 ?_
  refine PStep.take (i := 3) (v := (.slice a ps.length cap)) (some 17) rfl rfl (by kernel_rfl) (by kernel_rfl) (by kernel_rfl) (fun _ _ _ h => h) (.inl ⟨rfl, fun X hX => by obtain ⟨hX1, hX2, hX3, hX4, hX5⟩ := hX; simp [go_sem, execOp, Act.eval, Act.put, hX1, hX2, hX3, hX4, hX5]⟩) hS0 ?_
  refine PStep.take (i := 4) (v := (.agg #[.int .i32 lo, .int .i32 hi])) (some 18) rfl rfl (by kernel_rfl) (by kernel_rfl) (by kernel_rfl) (fun _ _ _ h => h) (.inl ⟨rfl, fun X hX => by obtain ⟨hX1, hX2, hX3, hX4, hX5⟩ := hX; simp [go_sem, execOp, Act.eval, Act.put, hX1, hX2, hX3, hX4, hX5]⟩) hS0 ?_
  refine wpAnyH_all (rs := [5]) (by kernel_rfl) (by simp) ?_
  intro i hi4
  obtain rfl : i = 5 := by simpa using hi4
  refine PStep.wpOp_call (f := 46) (args := #[.slice a ps.length cap, .agg #[.int .i32 lo, .int .i32 hi]]) (w' := w2.drew) rfl rfl (some 19) rfl (by simp [go_sem, execOp, Act.eval, Act.put]) hM2 ?_
  rintro e w3 ⟨rfl, hb3⟩
  have hb3' : Below W0.heap.size W0 w3 := hb.drew.trans (hb3.mono hb.size)
  refine ⟨_, rfl, unhide KSH _ hb3', ?_⟩
  refine wpAnyH_all (rs := [6]) (by kernel_rfl) (by simp) ?_
  intro i hi4
  obtain rfl : i = 6 := by simpa using hi4
  refine PStep.wpOp_value (w' := w3) (v := .int .i64 ((upI ps hi - frI ps lo : Nat) : Int)) rfl rfl (some 20) rfl (by simp [go_sem, execOp, Act.eval, Act.put]) ⟨unhide KSH _ hb3', ?_⟩
  refine wpAnyH_all (rs := [7]) (by kernel_rfl) (by simp) ?_
  intro i hi4
  obtain rfl : i = 7 := by simpa using hi4
  refine PStep.wpOp_value (w' := w3) (v := .bool (meetsP ps lo hi)) rfl rfl (some 21) rfl (by
    simp [go_sem, execOp, Act.eval, Act.put, meetsP]
    omega) ⟨unhide KSH _ hb3', ?_⟩
  refine wpAnyH_done (by kernel_rfl) ?_ _
  simp only [Act.put]
  have hbw3 := hB1.trans (hb3'.mono (by omega))
  obtain ⟨e1, e2, e3, e4, e5⟩ := unhide KSH _ hb3'
  have HL3 := hide (unhide HL w3 hbw3)
  have hBW := hide hbw3
  clear hM2 HL hbw3 hb3' hb3 hS0
  clear H HM HMt KSH
  simp only [List.setIfInBounds_toArray, List.set_cons_succ, List.set_cons_zero, Exit.then]
  generalize hq : meetsP ps lo hi = q
  have HQ : Hid (meetsP ps lo hi = q) := hide hq
  clear hq
  go_at_K
  cases q
  · go_wp2_with (go_at_call 93; refine (unhide HL3 (by have := unhide HQ; unfold meetsP at this; have := of_decide_eq_false this; omega)).mono ?_; rintro e w4 ⟨rfl, v4, h4, m4⟩)
    go_ret
    exact PutEnd.yes (unhide HQ) ⟨v4, h4, m4.after (unhide hBW)⟩
  · go_wp2
    go_ret
    exact PutEnd.no (unhide HQ) (unhide hBW)
end Go.Proofs.YthgaadjkjnibaaaGreatDoor.VN
/-
  At and Size of a map.
-/
namespace Go.Proofs.YthgaadjkjnibaaaGreatDoor.VN
open Go.RowKit Go.PlainAid Go.Lib Go.PRow Go.Shelf
set_option linter.unusedVariables false
set_option linter.unusedSimpArgs false

/-- what At answers -/
def atV (q : Option (Int × Int)) : Value := match q with | some v => .tuple #[encN v, .bool true] | none => .tuple #[.agg #[.int .u8 0, .int .i64 0], .bool false]

theorem nam_box {W : World} {n : Nat} {T : TypeId} {x y : Value} (a b : Int) (hx : W.heap[n]? = some (.cells #[x, y] T (0, 0))) :
    ((W.setCell ⟨n, 0, none⟩ (.int .u8 a)).setCell ⟨n, 1, none⟩ (.int .i64 b)).cell? ⟨n, 0, none⟩ = some (.int .u8 a) ∧ ((W.setCell ⟨n, 0, none⟩ (.int .u8 a)).setCell ⟨n, 1, none⟩ (.int .i64 b)).cell? ⟨n, 1, none⟩ = some (.int .i64 b) := by
  have k1 : (W.setCell ⟨n, 0, none⟩ (.int .u8 a)).heap[n]? = some (.cells #[.int .u8 a, y] T (0, 0)) := by
    rw [setCell_eq_setRow W n 0 _ _ _ _ hx]
    exact setRow_heap W n _ _ _ _ hx
  have k2 : ((W.setCell ⟨n, 0, none⟩ (.int .u8 a)).setCell ⟨n, 1, none⟩ (.int .i64 b)).heap[n]? = some (.cells #[.int .u8 a, .int .i64 b] T (0, 0)) := by
    rw [setCell_eq_setRow _ n 1 _ _ _ _ k1]
    exact setRow_heap _ n _ _ _ _ k1
  exact ⟨by simp [World.cell?, k2], by simp [World.cell?, k2]⟩
abbrev zeroN : Obj := .cells #[.int .u8 0, .int .i64 0] 78

set_option maxHeartbeats 2000000 in
theorem at_some (b : Nat) (v : Value) (B : Nat) (ps : List (Pc (Int × Int))) (o : OkP ps) (x : Int) (p : Pc (Int × Int)) (M' : List (Pc (Int × Int))) (hM : midP ps x x = p :: M') (w : World) (h : IsMap w b v) (hr : RowP w B v ps) :
    Calls Tryz.prog 25 #[.pointer (some ⟨b, 0, none⟩), .int .i32 x] w fun e w' => e = .returned (.tuple #[encN p.val, .bool true]) ∧ Below w.heap.size w w' := by
  have hB0 : Below w.heap.size w (w.alloc zeroN) := (Below.refl _ w).alloc (Nat.le_refl _) _
  have HH := hide (held_map b v (w.alloc zeroN) (h.below hB0))
  have HMt := hide (meeting_any B v ps o x x (Int.le_refl x) (w.alloc zeroN) (hr.below hB0))
  have hx0 : (w.alloc zeroN).heap[w.heap.size]? = some (.cells #[.int .u8 0, .int .i64 0] 78 (0, 0)) := heap_alloc_new w _
  obtain ⟨A, M, C, c⟩ := cut3 o (Int.le_refl x)
  rw [c.mid] at hM
  subst hM
  have eF := c.fr
  have eU := c.up
  have e := c.eq
  have hp : ps[frI ps x]? = some p := by rw [eF, e, List.append_assoc, List.getElem?_append_right (Nat.le_refl _)]; simp
  have hF : frI ps x < upI ps x := by rw [eF, eU]; simp
  have hU := upI_le ps x
  obtain ⟨a, cap, rfl, hc1, hc2, _, hg⟩ := hr.form
  obtain ⟨g, rfl, _, _, hgl, hcell⟩ := hg (by intro e; subst e; simp at hp)
  obtain ⟨c1, c2, c3⟩ := hcell _ _ hp
  have hmv : midV (.slice (some ⟨g, 0, none⟩) ps.length cap) (frI ps x) (upI ps x) = .slice (some ⟨g, frI ps x * 4, none⟩) (upI ps x - frI ps x) (cap - frI ps x) := by
    unfold midV
    simp only
    rw [if_neg (by omega)]
    simp [Addr.add_lit]
  rw [hmv] at HMt
  have KK := hide (fun V (hV : Below w.heap.size w V) => (⟨(hV.cell hgl).trans c1, (hV.cell hgl).trans c2, (hV.cell hgl).trans c3.1, (hV.cell hgl).trans c3.2⟩ : V.cell? ⟨g, frI ps x * 4, none⟩ = some (.int .i32 p.lo) ∧ V.cell? ⟨g, frI ps x * 4 + 1, none⟩ = some (.int .i32 p.hi) ∧ (V.cell? ⟨g, frI ps x * 4 + 2, none⟩ = some (.int .u8 p.val.1) ∧ V.cell? ⟨g, frI ps x * 4 + 3, none⟩ = some (.int .i64 p.val.2))))
  clear hmv hcell hg c1 c2 c3 hp c e eF eU hr h
  obtain ⟨pl, ph, pv⟩ := p
  simp only at KK
  generalize frI ps x = F at *
  generalize hD : upI ps x - F = D at *
  have hD0 : 0 < D := by omega
  have hDi : (0 : Int) < (D : Int) := by omega
  clear hD hU hF
  go_enter Tryz.func25, Tryz.ntmps25
  go_wp2_with (first | (go_at_call 47; refine (unhide HH).mono ?_; rintro e w1 ⟨rfl, rfl⟩) | (go_at_call 46; refine (unhide HMt).mono ?_; rintro e w2 ⟨rfl, hb⟩))
  obtain ⟨d1, d2, d3, d4⟩ := unhide KK _ (hB0.trans (hb.mono (by simp)))
  have hx2 := (hb.block w.heap.size (by simp)).trans hx0
  have hbw : Below w.heap.size w w2 := hB0.trans (hb.mono (by simp))
  obtain ⟨W3, hW3⟩ : ∃ W3, w2.alloc (.cells #[.int .i32 pl, .int .i32 ph, .int .u8 pv.1, .int .i64 pv.2] 102) = W3 := ⟨_, rfl⟩
  have hx3 : W3.heap[w.heap.size]? = some (.cells #[.int .u8 0, .int .i64 0] 78 (0, 0)) := by
    rw [← hW3]; exact (Below.heap_alloc w2 _ w.heap.size (Array.getElem?_eq_some_iff.1 hx2).1).trans hx2
  have hb3 : Below w.heap.size w W3 := by rw [← hW3]; exact hbw.alloc hbw.size _
  have p3 : W3.heap[w2.heap.size]? = some (.cells #[.int .i32 pl, .int .i32 ph, .int .u8 pv.1, .int .i64 pv.2] 102 (0, 0)) := by rw [← hW3]; exact heap_alloc_new w2 _
  have y2 : W3.cell? ⟨w2.heap.size, 2, none⟩ = some (.int .u8 pv.1) := by simp [World.cell?, p3]
  have y3 : W3.cell? ⟨w2.heap.size, 3, none⟩ = some (.int .i64 pv.2) := by simp [World.cell?, p3]
  have z0 : W3.cell? ⟨w.heap.size, 0, none⟩ = some (.int .u8 0) := by simp [World.cell?, hx3]
  have z1 : W3.cell? ⟨w.heap.size, 1, none⟩ = some (.int .i64 0) := by simp [World.cell?, hx3]
  have f0 : W3.frozen? ⟨w.heap.size, 0, none⟩ = false := by simp [World.frozen?, hx3]
  have f1 : W3.frozen? ⟨w.heap.size, 1, none⟩ = false := by simp [World.frozen?, hx3]
  obtain ⟨k0, k1⟩ := nam_box pv.1 pv.2 hx3
  have HBE := hide ((hb3.setCell (p := ⟨w.heap.size, 0, none⟩) (Nat.le_refl _) (.int .u8 pv.1)).setCell (p := ⟨w.heap.size, 1, none⟩) (Nat.le_refl _) (.int .i64 pv.2))
  have HK := hide (⟨k0, k1⟩ : _ ∧ _)
  clear k0 k1 hx3 hx2 hx0 p3 hb hbw hb3 hB0
  go_loopg [16] 1 (fun kx s16 wr => s16 = .int .i64 0 ∧ wr = w2)
  case atStart => exact ⟨rfl, rfl⟩
  case round =>
    obtain ⟨rfl, rfl⟩ := hrel
    go_wp2
    refine bodyPost_ret (v := .tuple #[encN pv, .bool true]) ?_ rfl ⟨rfl, unhide HBE⟩
    obtain ⟨k0, k1⟩ := unhide HK
    simp [results, Tryz.results25, go_sem, k0, k1]

set_option maxHeartbeats 2000000 in
theorem at_none (b : Nat) (v : Value) (B : Nat) (ps : List (Pc (Int × Int))) (o : OkP ps) (x : Int) (hM : midP ps x x = []) (w : World) (h : IsMap w b v) (hr : RowP w B v ps) :
    Calls Tryz.prog 25 #[.pointer (some ⟨b, 0, none⟩), .int .i32 x] w fun e w' => e = .returned (.tuple #[.agg #[.int .u8 0, .int .i64 0], .bool false]) ∧ Below w.heap.size w w' := by
  have hB0 : Below w.heap.size w (w.alloc zeroN) := (Below.refl _ w).alloc (Nat.le_refl _) _
  have HH := hide (held_map b v (w.alloc zeroN) (h.below hB0))
  have HMt := hide (meeting_any B v ps o x x (Int.le_refl x) (w.alloc zeroN) (hr.below hB0))
  have hx0 : (w.alloc zeroN).heap[w.heap.size]? = some (.cells #[.int .u8 0, .int .i64 0] 78 (0, 0)) := heap_alloc_new w _
  obtain ⟨A, M, C, c⟩ := cut3 o (Int.le_refl x)
  rw [c.mid] at hM
  subst hM
  have hF : upI ps x - frI ps x = 0 := by rw [c.fr, c.up]; simp
  obtain ⟨a, cap, rfl, hc1, hc2, _, hg⟩ := hr.form
  obtain ⟨a', c', hmv⟩ : ∃ a' c', midV (.slice a ps.length cap) (frI ps x) (upI ps x) = .slice a' 0 c' := by
    unfold midV
    simp only
    rw [hF]
    split <;> exact ⟨_, _, rfl⟩
  rw [hmv] at HMt
  clear hmv hg c hr h hF
  go_enter Tryz.func25, Tryz.ntmps25
  go_wp2_with (first | (go_at_call 47; refine (unhide HH).mono ?_; rintro e w1 ⟨rfl, rfl⟩) | (go_at_call 46; refine (unhide HMt).mono ?_; rintro e w2 ⟨rfl, hb⟩))
  have hx2 := (hb.block w.heap.size (by simp)).trans hx0
  have hbw : Below w.heap.size w w2 := hB0.trans (hb.mono (by simp))
  obtain ⟨W3, hW3⟩ : ∃ W3, w2.alloc zeroN = W3 := ⟨_, rfl⟩
  have hx3 : W3.heap[w.heap.size]? = some (.cells #[.int .u8 0, .int .i64 0] 78 (0, 0)) := by
    rw [← hW3]; exact (Below.heap_alloc w2 _ w.heap.size (Array.getElem?_eq_some_iff.1 hx2).1).trans hx2
  have hb3 : Below w.heap.size w W3 := by rw [← hW3]; exact hbw.alloc hbw.size _
  have p3 : W3.heap[w2.heap.size]? = some (.cells #[.int .u8 0, .int .i64 0] 78 (0, 0)) := by rw [← hW3]; exact heap_alloc_new w2 _
  have y0 : W3.cell? ⟨w2.heap.size, 0, none⟩ = some (.int .u8 0) := by simp [World.cell?, p3]
  have y1 : W3.cell? ⟨w2.heap.size, 1, none⟩ = some (.int .i64 0) := by simp [World.cell?, p3]
  have z0 : W3.cell? ⟨w.heap.size, 0, none⟩ = some (.int .u8 0) := by simp [World.cell?, hx3]
  have z1 : W3.cell? ⟨w.heap.size, 1, none⟩ = some (.int .i64 0) := by simp [World.cell?, hx3]
  have f0 : W3.frozen? ⟨w.heap.size, 0, none⟩ = false := by simp [World.frozen?, hx3]
  have f1 : W3.frozen? ⟨w.heap.size, 1, none⟩ = false := by simp [World.frozen?, hx3]
  obtain ⟨k0, k1⟩ := nam_box 0 0 hx3
  have HBE := hide ((hb3.setCell (p := ⟨w.heap.size, 0, none⟩) (Nat.le_refl _) (.int .u8 0)).setCell (p := ⟨w.heap.size, 1, none⟩) (Nat.le_refl _) (.int .i64 0))
  have HK := hide (⟨k0, k1⟩ : _ ∧ _)
  clear k0 k1 hx3 hx2 hx0 p3 hb hbw hb3 hB0
  go_loopg [16] 1 (fun kx s16 wr => s16 = .int .i64 0 ∧ wr = w2)
  case atStart => exact ⟨rfl, rfl⟩
  case round =>
    obtain ⟨rfl, rfl⟩ := hrel
    go_wp2
    refine bodyPost_ret (v := .tuple #[.agg #[.int .u8 0, .int .i64 0], .bool false]) ?_ rfl ⟨rfl, unhide HBE⟩
    obtain ⟨k0, k1⟩ := unhide HK
    simp [results, Tryz.results25, go_sem, k0, k1]

theorem at_any (b : Nat) (v : Value) (B : Nat) (ps : List (Pc (Int × Int))) (o : OkP ps) (x : Int) (w : World) (h : IsMap w b v) (hr : RowP w B v ps) :
    Calls Tryz.prog 25 #[.pointer (some ⟨b, 0, none⟩), .int .i32 x] w fun e w' => e = .returned (atV (atP ps x)) ∧ Below w.heap.size w w' := by
  rw [at_mid o x]
  cases hM : midP ps x x with
  | nil => exact at_none b v B ps o x hM w h hr
  | cons p M' => exact at_some b v B ps o x p M' hM w h hr
end Go.Proofs.YthgaadjkjnibaaaGreatDoor.VN
