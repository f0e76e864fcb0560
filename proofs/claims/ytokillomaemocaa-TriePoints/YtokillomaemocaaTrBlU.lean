/-
  How many blocks there are; no trie.
-/
import Derived.Test.YtokillomaemocaaTrAt2U
namespace Go.Proofs.Ytokillomaemocaa.VU
open Go.RowKit Go.PlainAid Go.Lib Go.PRow Go.Maps Go.TrM
set_option linter.unusedVariables false
set_option linter.unusedSimpArgs false
set_option maxRecDepth 100000 in
set_option maxHeartbeats 4000000 in
theorem blocks_any (w : World) (B bt : Nat) (vt vm vl : Value) (vs : List El) (h : TrAt w B bt vt vm vl vs) :
    Calls Try.prog 21 #[.pointer (some ⟨bt, 0, none⟩)] w fun e w' => e = .returned (.tuple #[.int .i64 ((midsV vs).1.length : Int), .int .i64 ((lowsV vs).1.length : Int)]) ∧ Below w.heap.size w w' := by
  obtain ⟨c0, c1, c2⟩ := cellT h.ht
  have HAB := hideA (absent_any w B bt vt vm vl vs h)
  obtain ⟨a1, k1, rfl, _⟩ := h.rm.form
  obtain ⟨a2, k2, rfl, _⟩ := h.rl.form
  have e1 : (((partsV vs).mid.map Int.ofNat).length : Int) / 64 = ((midsV vs).1.length : Int) := by rw [List.length_map, mid_len]; omega
  have e2 : ((partsV vs).low.length : Int) / 64 = ((lowsV vs).1.length : Int) := by rw [low_len]; omega
  have b1 : ((partsV vs).mid.map Int.ofNat).length ≤ 17408 := by
    have := mids_le vs
    rw [h.len] at this
    rw [List.length_map, mid_len]; omega
  have b2 : (partsV vs).low.length ≤ 1114112 := by
    have := lows_le vs
    rw [h.len] at this
    rw [low_len]; omega
  generalize ((partsV vs).mid.map Int.ofNat).length = M at *
  generalize (partsV vs).low.length = L at *
  have z1 : wrap64 ((M : Int) / 64) = (M : Int) / 64 := by simp only [wrap64]; omega
  have z2 : wrap64 ((L : Int) / 64) = (L : Int) / 64 := by simp only [wrap64]; omega
  have HE := hideA (And.intro e1 e2)
  have HZ := hideA (And.intro z1 z2)
  have X1 := fun dq os => cell_regrown c1 dq os
  have X2 := fun dq os => cell_regrown c2 dq os
  clear h e1 e2 b1 b2 z1 z2
  go_enter Try.func21, Try.ntmps21
  go_wp2_with fail
  refine (unhideA HAB).mono ?_
  rintro e w1 ⟨rfl, rfl⟩
  go_wp2_with fail
  refine wp_region_quiet_below (by kernel_rfl) (by kernel_rfl) ?_
  clear HAB c0 c1 c2
  iterate 16 (go_big_quiet_step (fail))
  refine wpQuiet_nil ?_
  intro _ hw'
  obtain ⟨⟨dq, osq⟩, hw''⟩ := hw'
  subst hw''
  have HB5 := hideA (below_regrown w1 dq osq)
  clear X1 X2
  go_wp2
  refine bodyPost_ret (results_tmp2 rfl _ _ _) rfl ?_
  rw [← (unhideA HE).1, ← (unhideA HE).2]
  refine ⟨?_, unhideA HB5⟩
  show Ending.returned (.tuple #[.int .i64 (wrap64 ((M : Int) / 64)), .int .i64 (wrap64 ((L : Int) / 64))]) = _
  rw [(unhideA HZ).1, (unhideA HZ).2]
set_option maxRecDepth 100000 in
set_option maxHeartbeats 4000000 in
theorem blocks_nil (w : World) : Calls Try.prog 21 #[.pointer none] w fun e w' => e = .returned (.tuple #[.int .i64 0, .int .i64 0]) ∧ w' = w := by
  go_enter Try.func21, Try.ntmps21
  go_wp2_with fail
  refine (absent_nil w).mono ?_
  rintro e w1 ⟨rfl, rfl⟩
  go_wp2
  refine bodyPost_ret (results_tmp2 rfl _ _ _) rfl ?_
  exact ⟨rfl, rfl⟩
set_option maxRecDepth 100000 in
set_option maxHeartbeats 4000000 in
theorem at_nil (w : World) (r : Int) : Calls Try.prog 29 #[.pointer none, .int .i32 r] w fun e w' => e = .returned zeroE ∧ w' = w := by
  go_enter Try.func29, Try.ntmps29
  go_wp2_with fail
  refine (absent_nil w).mono ?_
  rintro e w1 ⟨rfl, rfl⟩
  go_wp2
  go_ret
  exact ⟨rfl, rfl⟩
end Go.Proofs.Ytokillomaemocaa.VU
