/-
  Same of two tries that have the same parts.
-/
import Derived.Test.YtokillomaemocaaTrQw
import Derived.Test.YtokillomaemocaaTrAt2U
namespace Go.Proofs.Ytokillomaemocaa.VU
open Go.RowKit Go.PlainAid Go.Lib Go.PRow Go.Maps Go.TrM
set_option linter.unusedVariables false
set_option linter.unusedSimpArgs false
set_option maxRecDepth 100000 in
set_option maxHeartbeats 4000000 in
theorem same_yes (w : World) (B1 b1 : Nat) (t1 m1 l1 : Value) (B2 b2 : Nat) (t2 m2 l2 : Value) (vs us : List El) (h1 : TrAt w B1 b1 t1 m1 l1 vs) (h2 : TrAt w B2 b2 t2 m2 l2 us) (e : partsV vs = partsV us) :
    Calls Try.prog 24 #[.pointer (some ⟨b1, 0, none⟩), .pointer (some ⟨b2, 0, none⟩)] w fun e w' => e = .returned (.bool true) ∧ Below w.heap.size w w' := by
  obtain ⟨c0, c1, c2⟩ := cellT h1.ht
  obtain ⟨d0, d1, d2⟩ := cellT h2.ht
  have hlt := top_len vs
  have hlm := mid_len vs
  have hll := low_len vs
  have hm := mids_le vs
  have hl := lows_le vs
  rw [h1.len] at hlt hm hl
  have HA := hideA (absent_any w B1 b1 t1 m1 l1 vs h1)
  have HB := hideA (absent_any w B2 b2 t2 m2 l2 us h2)
  have HT := hideA (fun W (hW : Below w.heap.size w W) => VW.equal_any W _ _ t1 t2 _ _ (h1.rt.below hW) (h2.rt.below hW) (by rw [List.length_map]; omega) (by rw [← e, List.length_map]; omega))
  have HM := hideA (fun W (hW : Below w.heap.size w W) => VW.equal_any W _ _ m1 m2 _ _ (h1.rm.below hW) (h2.rm.below hW) (by rw [List.length_map]; omega) (by rw [← e, List.length_map]; omega))
  have HL := hideA (fun W (hW : Below w.heap.size w W) => equal_any W _ _ l1 l2 _ _ (h1.rl.below hW) (h2.rl.below hW) (by omega) (by rw [← e]; omega))
  rw [← e] at HT HM HL
  simp only [decide_true] at HT HM HL
  clear hlt hlm hll hm hl
  have X0 := fun dq os => cell_regrown c0 dq os
  have X1 := fun dq os => cell_regrown c1 dq os
  have X2 := fun dq os => cell_regrown c2 dq os
  have Y0 := fun dq os => cell_regrown d0 dq os
  have Y1 := fun dq os => cell_regrown d1 dq os
  have Y2 := fun dq os => cell_regrown d2 dq os
  clear h1 h2 e
  go_enter Try.func24, Try.ntmps24
  go_wp2_with fail
  refine (unhideA HA).mono ?_
  rintro e w1 ⟨rfl, rfl⟩
  go_wp2_with fail
  refine (unhideA HB).mono ?_
  rintro e w2 ⟨rfl, rfl⟩
  go_wp2_with fail
  refine wp_region_quiet_below (by kernel_rfl) (by kernel_rfl) ?_
  clear HA HB c0 c1 c2 d0 d1 d2
  iterate 10 (go_big_quiet_step (fail))
  go_big_quiet_step (first | (go_at_call 58; exact Calls.regrown_of (unhideA HT _ (below_regrown _ _ _))))
  iterate 11 (go_big_quiet_step (fail))
  go_big_quiet_step (first | (go_at_call 58; exact Calls.regrown_of (unhideA HM _ (below_regrown _ _ _))))
  iterate 12 (go_big_quiet_step (fail))
  go_big_quiet_step (first | (go_at_call 65; exact Calls.regrown_of (unhideA HL _ (below_regrown _ _ _))))
  iterate 2 (go_big_quiet_step (fail))
  refine wpQuiet_nil ?_
  intro _ hw'
  obtain ⟨⟨dq, osq⟩, hw''⟩ := hw'
  subst hw''
  have HB5 := hideA (below_regrown w2 dq osq)
  clear X0 X1 X2 Y0 Y1 Y2
  go_wp2
  go_ret
  exact ⟨rfl, unhideA HB5⟩
end Go.Proofs.Ytokillomaemocaa.VU
