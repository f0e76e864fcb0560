/-
  Put of a map, and what Put and Lay refuse.
-/
import Derived.Test.YtnhcbcbceaeceaaPLayI
namespace Go.Proofs.Ytnhcbcbceaeceaa.VI
open Go.RowKit Go.PlainAid Go.Lib Go.PRow Go.Shelf
set_option linter.unusedVariables false
set_option linter.unusedSimpArgs false

theorem Moved.after {w W w' : World} {b : Nat} {v v' : Value} (h : Moved W w' b v v') (hb : Below w.heap.size w W) : Moved w w' b v v' :=
  ⟨h.1, ⟨h.2.1.os.trans hb.os, h.2.1.tape.trans hb.tape, h.2.1.output.trans hb.output, Nat.le_trans hb.size h.2.1.size, fun k hk hS => (h.2.1.block k (Nat.lt_of_lt_of_le hk hb.size) hS).trans (hb.block k hk)⟩,
    h.2.2.imp id fun h g hg => Nat.le_trans hb.size (h g hg)⟩

set_option maxRecDepth 100000 in
theorem lay_no (b : Nat) (v : Value) (lo hi : Int) (hm : mayB lo hi = false) (x : Int) (w : World) (h : IsMap w b v) :
    Calls Try.prog 7 #[(.pointer (some ⟨b, 0, none⟩)), .agg #[.int .i32 lo, .int .i32 hi], Value.int .i64 x] w fun e w' => e = .returned (.int .i64 41) ∧ Below w.heap.size w w' := by
  have hB1 : Below w.heap.size w (w.alloc (.cells #[.int .i32 lo, .int .i32 hi] 28)) := (Below.refl _ w).alloc (Nat.le_refl _) _
  have H := hide (refuses_map b v lo hi _ (h.below hB1))
  rw [hm] at H
  clear h
  go_enter Try.func7, Try.ntmps7
  go_wp2_with (go_at_call 20; refine (unhide H).mono ?_; rintro e w2 ⟨rfl, hb⟩)
  go_ret
  exact ⟨rfl, hB1.trans (hb.mono (by simp))⟩

set_option maxRecDepth 100000 in
theorem put_no (b : Nat) (v : Value) (lo hi : Int) (hm : mayB lo hi = false) (x : Int) (w : World) (h : IsMap w b v) :
    Calls Try.prog 6 #[(.pointer (some ⟨b, 0, none⟩)), .agg #[.int .i32 lo, .int .i32 hi], Value.int .i64 x] w fun e w' => e = .returned (.int .i64 41) ∧ Below w.heap.size w w' := by
  have hB1 : Below w.heap.size w (w.alloc (.cells #[.int .i32 lo, .int .i32 hi] 28)) := (Below.refl _ w).alloc (Nat.le_refl _) _
  have H := hide (refuses_map b v lo hi _ (h.below hB1))
  rw [hm] at H
  clear h
  go_enter Try.func6, Try.ntmps6
  go_wp2_with (go_at_call 20; refine (unhide H).mono ?_; rintro e w2 ⟨rfl, hb⟩)
  go_ret
  exact ⟨rfl, hB1.trans (hb.mono (by simp))⟩

/-- does a piece meet the range? -/
def meetsP (ps : List (Pc Int)) (lo hi : Int) : Bool := decide (frI ps lo < upI ps hi)

/-- how Put ends -/
def PutEnd (ps : List (Pc Int)) (lo hi : Int) (x : Int) (B : Nat) (w : World) (b : Nat) (v : Value) (e : Ending) (w' : World) : Prop :=
  if meetsP ps lo hi then e = .returned (.int .i64 42) ∧ Below w.heap.size w w' else e = .returned (.int .i64 0) ∧ ∃ v', RowP w' B v' (repP ps lo hi [⟨lo, hi, x⟩]) ∧ Moved w w' b v v'
theorem PutEnd.no {ps : List (Pc Int)} {lo hi : Int} {x : Int} {B : Nat} {w : World} {b : Nat} {v : Value} {w' : World} (h : meetsP ps lo hi = true) (hb : Below w.heap.size w w') : PutEnd ps lo hi x B w b v (.returned (.int .i64 42)) w' := by
  unfold PutEnd
  rw [if_pos h]
  exact ⟨rfl, hb⟩
theorem PutEnd.yes {ps : List (Pc Int)} {lo hi : Int} {x : Int} {B : Nat} {w : World} {b : Nat} {v : Value} {w' : World} (h : meetsP ps lo hi = false) (hb : ∃ v', RowP w' B v' (repP ps lo hi [⟨lo, hi, x⟩]) ∧ Moved w w' b v v') : PutEnd ps lo hi x B w b v (.returned (.int .i64 0)) w' := by
  unfold PutEnd
  rw [if_neg (by rw [h]; simp)]
  exact ⟨rfl, hb⟩

set_option maxHeartbeats 4000000 in
set_option maxRecDepth 100000 in
theorem put_may (b : Nat) (v : Value) (B : Nat) (ps : List (Pc Int)) (o : OkP ps) (lo hi : Int) (hm : mayB lo hi = true) (x : Int) (w : World) (h : IsMap w b v) (hB : B ≤ w.heap.size) (hr : RowP w B v ps) :
    Calls Try.prog 6 #[(.pointer (some ⟨b, 0, none⟩)), .agg #[.int .i32 lo, .int .i32 hi], Value.int .i64 x] w fun e w' => PutEnd ps lo hi x B w b v e w' := by
  have hB1 : Below w.heap.size w (w.alloc (.cells #[.int .i32 lo, .int .i32 hi] 28)) := (Below.refl _ w).alloc (Nat.le_refl _) _
  have H := hide (refuses_map b v lo hi _ (h.below hB1))
  rw [hm] at H
  have hm' := mayB_iff.1 hm
  have HMt := hide (fun V (hV : Below w.heap.size w V) => meeting_any B v ps o lo hi hm'.2.1 V (hr.below hV))
  have HL := hide (fun V (hV : Below w.heap.size w V) => lay_ok b v B ps o lo hi hm x V (h.below hV) (Nat.le_trans hB hV.size) (hr.below hV))
  have HM := hide (fun V (hV : Below w.heap.size w V) => h.below hV)
  have hFU : frI ps lo ≤ upI ps hi := by
    obtain ⟨A, M, C, c⟩ := cut3 o hm'.2.1
    rw [c.fr, c.up]; omega
  have hU := upI_le ps hi
  have hlen := okP_len o
  refine Calls.mono (R := fun e w' => PutEnd ps lo hi x B w b v e w') ?_ (fun e w' h => h)
  obtain ⟨a, cap, rfl, hc1, hc2, -, -⟩ := hr.form
  clear h hr
  have KS : ∀ X, Below (w.alloc (.cells #[.int .i32 lo, .int .i32 hi] 28)).heap.size (w.alloc (.cells #[.int .i32 lo, .int .i32 hi] 28)) X → X.cell? ⟨w.heap.size, 0, none⟩ = some (.int .i32 lo) ∧ X.cell? ⟨w.heap.size, 1, none⟩ = some (.int .i32 hi) ∧ X.cell? ⟨b, 1, none⟩ = some (.slice a ps.length cap) := fun X hX => ⟨by rw [hX.cell (by simp), World.cell?_alloc_at _ _ _ _ rfl]; rfl, by rw [hX.cell (by simp), World.cell?_alloc_at _ _ _ _ rfl]; rfl, (unhide HM _ (hB1.trans (hX.mono (by simp)))).c1⟩
  have KSH := hide KS
  clear KS
  obtain ⟨mv, hmv⟩ : ∃ mv, mv = midV (.slice a ps.length cap) (frI ps lo) (upI ps hi) := ⟨_, rfl⟩
  have hml : ∃ a' c', mv = .slice a' (upI ps hi - frI ps lo) c' := by rw [hmv]; unfold midV; simp only; split <;> exact ⟨_, _, rfl⟩
  rw [← hmv] at HMt
  clear hmv
  obtain ⟨a', c', rfl⟩ := hml
  go_enter Try.func6, Try.ntmps6
  go_wp2_with (go_at_call 20; refine (unhide H).mono ?_; rintro e w2 ⟨rfl, hb⟩)
  have hbw := hB1.trans (hb.mono (by simp))
  have hS0 : (fun X : World => X.cell? ⟨w.heap.size, 0, none⟩ = some (.int .i32 lo) ∧ X.cell? ⟨w.heap.size, 1, none⟩ = some (.int .i32 hi) ∧ X.cell? ⟨b, 1, none⟩ = some (.slice a ps.length cap)) w2.drew := unhide KSH _ hb.drew
  have hM2 := unhide HMt w2.drew hbw.drew
  refine wp_region_held (S := fun X : World => X.cell? ⟨w.heap.size, 0, none⟩ = some (.int .i32 lo) ∧ X.cell? ⟨w.heap.size, 1, none⟩ = some (.int .i32 hi) ∧ X.cell? ⟨b, 1, none⟩ = some (.slice a ps.length cap)) rfl ?_
  show wpAnyH _ _ _ _ _ _ _ _ w2.drew
  refine PStep.take (i := 0) (v := (.pointer (some ⟨b, 0, none⟩))) (some 14) rfl rfl (by kernel_rfl) (by kernel_rfl) (by kernel_rfl) (fun _ _ _ h => h) (.inl ⟨rfl, fun X hX => by simp [go_sem, execOp, Act.eval, Act.put]⟩) hS0 ?_
  refine PStep.take (i := 1) (v := (.pointer (some ⟨b, 0, none⟩))) (some 15) rfl rfl (by kernel_rfl) (by kernel_rfl) (by kernel_rfl) (fun _ _ _ h => h) (.inl ⟨rfl, fun X hX => by simp [go_sem, execOp, Act.eval, Act.put]⟩) hS0 ?_
  refine PStep.take (i := 2) (v := (.pointer (some ⟨b, 1, none⟩))) (some 16) rfl rfl (by kernel_rfl) (by kernel_rfl) (by kernel_rfl) (fun _ _ _ h => h) (.inl ⟨rfl, fun X hX => by simp [go_sem, execOp, Act.eval, Act.put]⟩) hS0 ?_
  refine PStep.take (i := 3) (v := (.slice a ps.length cap)) (some 17) rfl rfl (by kernel_rfl) (by kernel_rfl) (by kernel_rfl) (fun _ _ _ h => h) (.inl ⟨rfl, fun X hX => by obtain ⟨hX1, hX2, hX3⟩ := hX; simp [go_sem, execOp, Act.eval, Act.put, hX1, hX2, hX3]⟩) hS0 ?_
  refine PStep.take (i := 4) (v := (.agg #[.int .i32 lo, .int .i32 hi])) (some 18) rfl rfl (by kernel_rfl) (by kernel_rfl) (by kernel_rfl) (fun _ _ _ h => h) (.inl ⟨rfl, fun X hX => by obtain ⟨hX1, hX2, hX3⟩ := hX; simp [go_sem, execOp, Act.eval, Act.put, hX1, hX2, hX3]⟩) hS0 ?_
  refine wpAnyH_all (rs := [5]) (by kernel_rfl) (by simp) ?_
  intro i hi4
  obtain rfl : i = 5 := by simpa using hi4
  refine PStep.wpOp_call (f := 21) (args := #[.slice a ps.length cap, .agg #[.int .i32 lo, .int .i32 hi]]) (w' := w2.drew) rfl rfl (some 19) rfl (by simp [go_sem, execOp, Act.eval, Act.put]) hM2 ?_
  rintro e w3 ⟨rfl, hb3⟩
  have hb3' : Below (w.alloc (.cells #[.int .i32 lo, .int .i32 hi] 28)).heap.size (w.alloc (.cells #[.int .i32 lo, .int .i32 hi] 28)) w3 := hb.drew.trans (hb3.mono hb.size)
  refine ⟨_, rfl, unhide KSH _ hb3', ?_⟩
  refine wpAnyH_all (rs := [6]) (by kernel_rfl) (by simp) ?_
  intro i hi4
  obtain rfl : i = 6 := by simpa using hi4
  refine PStep.wpOp_value (w' := w3) (v := .int .i64 ((upI ps hi - frI ps lo : Nat) : Int)) rfl rfl (some 20) rfl (by simp [go_sem, execOp, Act.eval, Act.put]) ⟨unhide KSH _ hb3', ?_⟩
  refine wpAnyH_all (rs := [7]) (by kernel_rfl) (by simp) ?_
  intro i hi4
  obtain rfl : i = 7 := by simpa using hi4
  refine PStep.wpOp_value (w' := w3) (v := .bool (meetsP ps lo hi)) rfl rfl (some 21) rfl (by
    simp [go_sem, execOp, Act.eval, Act.put, meetsP]
    omega) ⟨unhide KSH _ hb3', ?_⟩
  refine wpAnyH_done (by kernel_rfl) ?_ _
  simp only [Act.put]
  have hbw3 := hB1.trans (hb3'.mono (by simp))
  obtain ⟨e1, e2, e3⟩ := unhide KSH _ hb3'
  have HL3 := hide (unhide HL w3 hbw3)
  have hBW := hide hbw3
  clear hM2 HL hbw3 hb3' hb3 hS0
  clear H HM HMt KSH
  simp only [List.setIfInBounds_toArray, List.set_cons_succ, List.set_cons_zero, Exit.then]
  generalize hq : meetsP ps lo hi = q
  have HQ : Hid (meetsP ps lo hi = q) := hide hq
  clear hq
  go_at_K
  cases q
  · go_wp2_with (go_at_call 7; refine (unhide HL3).mono ?_; rintro e w4 ⟨rfl, v4, h4, m4⟩)
    go_ret
    exact PutEnd.yes (unhide HQ) ⟨v4, h4, m4.after (unhide hBW)⟩
  · go_wp2
    go_ret
    exact PutEnd.no (unhide HQ) (unhide hBW)
end Go.Proofs.Ytnhcbcbceaeceaa.VI
